/- What Len, Marks, Ready, State, Taken, Got of the program's net answer. -/
import Derived.Test.YtogcfeplfclobaaNh
namespace Go.Proofs.Ytogcfeplfclobaa
open Go.RowKit
set_option maxRecDepth 10000
set_option linter.unusedVariables false
set_option linter.unusedSimpArgs false

theorem len_nil (w : World) : Calls Try.prog 15 #[.pointer none] w fun e w' => e = .returned (.tuple #[.int .i64 0, .int .i64 0]) ∧ w = w' := by
  have hn := eql_nnil
  go_enter Try.func15, Try.ntmps15
  go_wp2
  go_ret2
  exact ⟨rfl, rfl⟩
theorem len_any (w : World) (g m : Nat) (F : List Nat) (S : Nt) (h : NetA w g F S m) :
    Calls Try.prog 15 #[.pointer (some ⟨g, 0, none⟩)] w fun e w' => e = .returned (.tuple #[.int .i64 S.wait, .int .i64 (opens S.L : Nat)]) ∧ ∃ q, w' = w.drewN q := by
  have hn := eql_nnil
  have HW := Lib.hid (fun (w' : World) (hq : ∀ k ∈ F, w'.heap[k]? = w.heap[k]?) => waiting_any w' g m F S (h.keep hq))
  obtain ⟨vc, X, rfl, h⟩ := h
  have c5 := h.row.cell 5
  obtain ⟨k, hk⟩ : ∃ k, k = S.wait := ⟨_, rfl⟩
  rw [← hk] at HW ⊢
  clear h hk
  go_enter Try.func15, Try.ntmps15
  go_wp2_with fail
  go_quiet ((go_at_call 54; exact Calls.quiet_of (HW.out _ (fun _ _ => rfl))))
  go_wp2
  go_ret2
  exact ⟨rfl, _, rfl⟩
theorem marks_nil (w : World) (c : Int) : Calls Try.prog 29 #[.pointer none, .int .i64 c] w fun e w' => e = .returned (.tuple #[.int .i64 0, .int .i64 0]) ∧ w = w' := by
  have hn := neq_nnil
  have hn2 := eql_cnil
  go_enter Try.func29, Try.ntmps29
  go_wp2_with fail
  refine (find_nil w c).mono ?_
  rintro e w' ⟨rfl, rfl⟩
  go_wp2
  go_ret2
  exact ⟨rfl, rfl⟩
theorem marks_any (w : World) (g m : Nat) (F : List Nat) (S : Nt) (c : Int) (h : NetA w g F S m) :
    Calls Try.prog 29 #[.pointer (some ⟨g, 0, none⟩), .int .i64 c] w fun e w' => e = .returned (.tuple #[.int .i64 (S.markR c), .int .i64 (S.markW c)]) ∧ ∃ q, w' = w.drewN q := by
  have hn := neq_nnil
  have hn2 := eql_cnil
  by_cases hl : c = -1
  · subst hl
    rw [show S.markR (-1) = S.L.length from rfl, show S.markW (-1) = 0 from rfl]
    obtain ⟨vc, X, rfl, h⟩ := h
    obtain ⟨A, cc, rfl, -, -⟩ := h.slice
    have c3 := h.row.cell 3
    clear h
    go_enter Try.func29, Try.ntmps29
    go_wp2
    go_ret2
    exact ⟨rfl, 0, rfl⟩
  · have hm1 : S.markR c = (S.get c).mr := by unfold Nt.markR; rw [if_neg hl]
    have hm2 : S.markW c = (S.get c).mw := by unfold Nt.markW; rw [if_neg hl]
    rw [hm1, hm2]
    cases hs : S.at? c with
    | none =>
      have HF := Lib.hid (find_no w g m F S c h (Nt.at_none hs))
      rw [Nt.get_none hs, show none_.mr = 0 from rfl, show none_.mw = 0 from rfl]
      clear h hs hm1 hm2
      go_enter Try.func29, Try.ntmps29
      go_wp2_with fail
      refine HF.out.mono ?_
      rintro e w' ⟨rfl, rfl⟩
      go_wp2
      go_ret2
      exact ⟨rfl, 0, rfl⟩
    | some s =>
      rw [Nt.get_some hs]
      obtain ⟨i, rfl, h1, h2⟩ := Nt.at_some hs
      obtain ⟨vc, X, rfl, h⟩ := h
      obtain ⟨x, hx⟩ := h.cs.at1 h1
      have HF := Lib.hid (find_at w g m i vc X S x h hx)
      have c9 := (h.cs.at_ i x s hx h1).row.cell 9
      have c10 := (h.cs.at_ i x s hx h1).row.cell 10
      simp only [KP] at c9 c10
      have hi1 : ((i : Int) == -1) = false := by simp
      clear h hx h1 hs hm1 hm2 hl
      go_enter Try.func29, Try.ntmps29
      go_wp2_with fail
      refine HF.out.mono ?_
      rintro e w' ⟨rfl, rfl⟩
      go_wp2_with fail
      go_quiet (fail)
      go_wp2
      go_ret2
      exact ⟨rfl, _, rfl⟩
theorem taken_nil (w : World) (c : Int) : Calls Try.prog 25 #[.pointer none, .int .i64 c] w fun e w' => e = .returned (.slice none 0 0) ∧ w = w' := by
  have hn2 := eql_cnil
  go_enter Try.func25, Try.ntmps25
  go_wp2_with fail
  refine (find_nil w c).mono ?_
  rintro e w' ⟨rfl, rfl⟩
  go_wp2
  go_ret
  exact ⟨rfl, rfl⟩
theorem Fresh.nil (w : World) : Fresh w w (.slice none 0 0) [] := ⟨World.ownsRow_nil _ _ _ _, Mods.refl _ _, by simp [Value.ownBlock]⟩
theorem taken_any (w : World) (g m : Nat) (F : List Nat) (S : Nt) (c : Int) (h : NetA w g F S m) :
    Calls Try.prog 25 #[.pointer (some ⟨g, 0, none⟩), .int .i64 c] w fun e w' => ∃ v, e = .returned v ∧ Hid (Fresh w w' v (S.taken c)) := by
  have hn2 := eql_cnil
  cases hs : S.at? c with
  | none =>
    have HF := Lib.hid (find_no w g m F S c h (Nt.at_none hs))
    rw [show S.taken c = [] by unfold Nt.taken; rw [Nt.get_none hs]; rfl]
    clear h hs
    go_enter Try.func25, Try.ntmps25
    go_wp2_with fail
    refine HF.out.mono ?_
    rintro e w' ⟨rfl, rfl⟩
    go_wp2
    go_ret
    exact ⟨_, rfl, Lib.hid (Fresh.nil _)⟩
  | some s =>
    rw [show S.taken c = s.tak by unfold Nt.taken; rw [Nt.get_some hs]]
    obtain ⟨i, rfl, h1, h2⟩ := Nt.at_some hs
    obtain ⟨vc, X, rfl, h⟩ := h
    obtain ⟨x, hx⟩ := h.cs.at1 h1
    have HF := Lib.hid (find_at w g m i vc X S x h hx)
    have hc := h.cs.at_ i x s hx h1
    obtain ⟨At, ct, hv, hv1, hv2⟩ := (hc.own 1).slice
    rw [bv_length] at hv hv1
    change x.v 1 = .slice At s.tak.length ct at hv
    change s.tak.length ≤ ct at hv1
    have c7 := hc.row.cell 7
    simp only [KP] at c7
    replace c7 : w.cell? ⟨x.b, 7, none⟩ = some (.slice At s.tak.length ct) := by rw [← hv]; exact c7
    have HSR := Lib.hid (show Src w At (bv s.tak) from (show Own w 5 (.slice At s.tak.length ct) (bv s.tak) by rw [← hv]; exact hc.own 1).src)
    have HR := Lib.hid (hc.rng 1 : ∀ y ∈ s.tak, 0 ≤ y ∧ y ≤ 255)
    have HB := Lib.hid (show s.tak.length ≤ ct ∧ ct ≤ maxLen ∧ s.tak.length ≤ 1000000000 from ⟨hv1, hv2, by have := h.ok.at_ h1; have := h.ok.mm; omega⟩)
    have HCC := Lib.hid (fun (v0 : World) (hm : Mods [] w v0) (b : Nat) (hb : v0.cell? ⟨b, 0, none⟩ = some (.slice At s.tak.length ct)) => concatB_row v0 b At s.tak.length ct s.tak hb rfl (HSR.out.mods hm (by simp)) HR.out HB.out.1 HB.out.2.1 HB.out.2.2)
    clear h hx h1 hs hc hv hv1 hv2
    go_enter Try.func25, Try.ntmps25
    go_wp2_with fail
    refine HF.out.mono ?_
    rintro e w' ⟨rfl, rfl⟩
    go_wp2_with fail
    refine (HCC.out _ ((Mods.refl _ _).alloc _) w.heap.size ((Row.new w _ #[_]).cell 0)).mono ?_
    rintro e w3 ⟨v, rfl, hd⟩
    have HD := Lib.hid (hd.out.back ((Mods.refl [] w).alloc _))
    clear hd
    go_wp2
    go_ret
    exact ⟨_, rfl, HD⟩
end Go.Proofs.Ytogcfeplfclobaa
