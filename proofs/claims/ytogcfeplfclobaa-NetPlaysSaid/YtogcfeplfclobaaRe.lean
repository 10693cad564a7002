/- What Marks, Bytes, Len of the reference's net answer. -/
import Derived.Test.YtogcfeplfclobaaRd
namespace Go.Proofs.Ytogcfeplfclobaa
open Go.RowKit
set_option maxRecDepth 10000
set_option linter.unusedVariables false
set_option linter.unusedSimpArgs false

theorem rmarks_any (w : World) (g m : Nat) (F : List Nat) (S : Nt) (c : Int) (h : RefA w g F S m) :
    Calls Try.prog 50 #[.pointer (some ⟨g, 0, none⟩), .int .i64 c] w fun e w' => e = .returned (.tuple #[.int .i64 (S.markR c), .int .i64 (S.markW c)]) ∧ ∃ q, w' = w.drewN q := by
  by_cases hl : c = -1
  · subst hl
    rw [show S.markR (-1) = S.L.length from rfl, show S.markW (-1) = 0 from rfl]
    obtain ⟨vl, vn, X, R, rfl, h⟩ := h
    have c5 := h.row.cell 5
    clear h
    go_enter Try.func50, Try.ntmps50
    go_wp2
    go_ret2
    exact ⟨rfl, 0, rfl⟩
  · have hm1 : S.markR c = (S.get c).mr := by unfold Nt.markR; rw [if_neg hl]
    have hm2 : S.markW c = (S.get c).mw := by unfold Nt.markW; rw [if_neg hl]
    rw [hm1, hm2]
    have hi1 : (c == -1) = false := by simpa using hl
    clear hm1 hm2
    cases hs : S.at? c with
    | none =>
      have hcc := Nt.at_none hs
      rw [Nt.get_none hs, show none_.mr = 0 from rfl, show none_.mw = 0 from rfl]
      clear hs
      obtain ⟨vl, vn, X, R, rfl, h⟩ := h
      obtain ⟨A, cc, rfl, -, -⟩ := h.slice
      have c1 := h.row.cell 1
      clear h
      by_cases h0 : c < 0
      · clear hcc
        go_enter Try.func50, Try.ntmps50
        go_wp2
        go_ret2
        exact ⟨rfl, 0, rfl⟩
      · have h1 : (S.L.length : Int) ≤ c := by omega
        have h3 : decide ((S.L.length : Int) ≤ c) = true := by simpa using h1
        clear hcc
        go_enter Try.func50, Try.ntmps50
        go_wp2
        go_ret2
        exact ⟨rfl, 0, rfl⟩
    | some s =>
      obtain ⟨i, rfl, h1, h2⟩ := Nt.at_some hs
      obtain ⟨vl, vn, X, R, rfl, h⟩ := h
      obtain ⟨x, r, hx, hr, rfl, hc, ha⟩ := h.at_ h1
      obtain ⟨A, cc, rfl, -, -⟩ := h.slice
      obtain ⟨b, o, rfl, ci⟩ := h.cell hx
      have c1 := h.row.cell 1
      have hl := h.ok.n2
      have d11 := hc.row.cell 11
      have d12 := hc.row.cell 12
      simp only [KR] at d11 d12
      have hi2 : decide ((S.L.length : Int) ≤ (i : Int)) = false := by simp; omega
      have hi3 : decide ((i : Int) < 0) = false := by simp
      have hk1 : (0 : Int) ≤ (i : Int) := by omega
      have hk2 : (i : Int) < (S.L.length : Int) := by omega
      rw [Nt.get_some hs]
      clear h hx hr hs hc ha h1 h2
      go_enter Try.func50, Try.ntmps50
      go_wp2_with fail
      go_quiet (fail)
      go_wp2
      go_ret2
      exact ⟨rfl, _, rfl⟩
/-- v is a slice of these bytes, wherever they lie; nothing but draws was done. -/
def BytesAt (w w' : World) (v : Value) (l : List Int) : Prop := (∃ q, w' = w.drewN q) ∧ ∃ A n cp, v = .slice A n cp ∧ n = l.length ∧ At w [] A l
theorem BytesAt.nil (w : World) : BytesAt w w (.slice none 0 0) [] := ⟨⟨0, rfl⟩, none, 0, 0, rfl, rfl, At.nil _ _ _⟩
theorem bytes_any (w : World) (g m : Nat) (F : List Nat) (S : Nt) (c : Int) (h : RefA w g F S m) :
    Calls Try.prog 53 #[.pointer (some ⟨g, 0, none⟩), .int .i64 c] w fun e w' => ∃ v, e = .returned v ∧ Hid (BytesAt w w' v (S.taken c)) := by
  cases hs : S.at? c with
  | none =>
    have hcc := Nt.at_none hs
    rw [show S.taken c = [] by unfold Nt.taken; rw [Nt.get_none hs]; rfl]
    clear hs
    obtain ⟨vl, vn, X, R, rfl, h⟩ := h
    obtain ⟨A, cc, rfl, -, -⟩ := h.slice
    have c1 := h.row.cell 1
    clear h
    by_cases h0 : c < 0
    · clear hcc
      go_enter Try.func53, Try.ntmps53
      go_wp2
      go_ret
      exact ⟨_, rfl, Lib.hid (BytesAt.nil _)⟩
    · have h1 : (S.L.length : Int) ≤ c := by omega
      have h3 : decide ((S.L.length : Int) ≤ c) = true := by simpa using h1
      clear hcc
      go_enter Try.func53, Try.ntmps53
      go_wp2
      go_ret
      exact ⟨_, rfl, Lib.hid (BytesAt.nil _)⟩
  | some s =>
    obtain ⟨i, rfl, h1, h2⟩ := Nt.at_some hs
    obtain ⟨vl, vn, X, R, rfl, h⟩ := h
    obtain ⟨x, r, hx, hr, rfl, hc, ha⟩ := h.at_ h1
    obtain ⟨A, cc, rfl, -, -⟩ := h.slice
    obtain ⟨b, o, rfl, ci⟩ := h.cell hx
    have c1 := h.row.cell 1
    have hl := h.ok.n2
    have d9 := hc.row.cell 9
    simp only [KR] at d9
    have hi2 : decide ((S.L.length : Int) ≤ (i : Int)) = false := by simp; omega
    have hi3 : decide ((i : Int) < 0) = false := by simp
    have hk1 : (0 : Int) ≤ (i : Int) := by omega
    have hk2 : (i : Int) < (S.L.length : Int) := by omega
    rw [show S.taken i = r.c.tak by unfold Nt.taken; rw [Nt.get_some hs]]
    obtain ⟨Av, cv, hv, -, -⟩ := (hc.own 1).slice
    rw [bv_length] at hv
    change x.v 1 = .slice Av r.c.tak.length cv at hv
    rw [hv] at d9
    have HA := Lib.hid (show At w [] Av r.c.tak from At.of_own2 (show Own w 5 (.slice Av r.c.tak.length cv) (bv r.c.tak) by rw [← hv]; exact hc.own 1) (by simp) (hc.rng 1))
    clear h hx hr hs hc ha h1 h2 hv
    go_enter Try.func53, Try.ntmps53
    go_wp2
    go_ret
    exact ⟨_, rfl, Lib.hid ⟨⟨0, rfl⟩, _, _, _, rfl, rfl, HA.out⟩⟩
theorem opens_take (L : List Cn) (k : Nat) (h : k < L.length) : opens (L.take (k + 1)) = opens (L.take k) + if L[k].opn then 1 else 0 := by
  unfold opens
  rw [List.take_succ_eq_append_getElem h, List.countP_append, List.countP_singleton]
theorem rlen_any (w : World) (g m : Nat) (F : List Nat) (S : Nt) (h : RefA w g F S m) :
    Calls Try.prog 16 #[.pointer (some ⟨g, 0, none⟩)] w fun e w' => e = .returned (.tuple #[.int .i64 S.wait, .int .i64 (opens S.L : Nat)]) ∧ w = w' := by
  obtain ⟨vl, vn, X, R, rfl, h⟩ := h
  have hn1 := h.ok.n1
  have hl := h.ok.n2
  obtain ⟨A, cc, rfl, -, -⟩ := h.slice
  obtain ⟨An, cn, rfl, -, -⟩ := h.line
  have c1 := h.row.cell 1
  have c2 := h.row.cell 2
  rw [show S.wait = ((S.L.length - S.first : Nat) : Int) by unfold Nt.wait; omega]
  have HH := Lib.hid h
  clear h
  go_enter Try.func16, Try.ntmps16
  go_wp2
  go_loop [4, 5] (fun n i => ∃ k : Nat, k ≤ S.L.length ∧ i = .int .i64 k ∧ n = .int .i64 (opens (S.L.take k) : Nat)) (fun _ i => S.L.length - (intOf i).toNat)
  case atStart => exact ⟨0, Nat.zero_le _, rfl, rfl⟩
  case round =>
    obtain ⟨k, hk, rfl, rfl⟩ := hrel
    have hcl := opens_le (S.L.take k)
    rw [List.length_take] at hcl
    by_cases hlt : k < S.L.length
    · have hs : S.L[k]? = some S.L[k] := List.getElem?_eq_getElem hlt
      obtain ⟨x, r, hx, hr, hrc, hc, ha⟩ := HH.out.at_ hs
      obtain ⟨b, o, rfl, ci⟩ := HH.out.cell hx
      have d2 := hc.row.cell 2
      simp only [KR] at d2
      have hk1 : (0 : Int) ≤ (k : Int) := by omega
      have hk2 : (k : Int) < (S.L.length : Int) := by omega
      have HO := Lib.hid (opens_take S.L k hlt)
      rw [← hrc] at HO
      obtain ⟨q, hq⟩ : ∃ q, q = opens (S.L.take k) := ⟨_, rfl⟩
      rw [← hq] at hcl HO ⊢
      cases ho : r.c.opn with
      | false =>
        rw [ho] at d2 HO
        clear hs hx hr hrc hc ha ho hq
        go_wp2
        go_round
        case rel => exact ⟨k + 1, by omega, by go_num, by rw [HO.out]; go_num⟩
        case measure => simp [intOf]; omega
      | true =>
        rw [ho] at d2 HO
        clear hs hx hr hrc hc ha ho hq
        go_wp2
        go_round
        case rel => exact ⟨k + 1, by omega, by go_num, by rw [HO.out]; go_num⟩
        case measure => simp [intOf]; omega
    · have HK := Lib.hid (show S.L.take k = S.L from List.take_of_length_le (by omega))
      rw [HK.out] at hcl ⊢
      go_wp2
      go_ret2
      exact ⟨rfl, rfl⟩
end Go.Proofs.Ytogcfeplfclobaa
