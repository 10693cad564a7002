/- What Reset, Open, Shut, Inject of the program's net do. -/
import Derived.Test.YthaapkafamdhcaaDoorNc
namespace Go.Proofs.YthaapkafamdhcaaDoor
open Go.RowKit
set_option maxRecDepth 10000
set_option linter.unusedVariables false
set_option linter.unusedSimpArgs false

theorem cbs_all {P : Fin 3 → Prop} (h0 : P 0) (h1 : P 1) (h2 : P 2) : ∀ j, P j := fun j => by match j with | 0 => exact h0 | 1 => exact h1 | 2 => exact h2
theorem reset_any (w : World) (g m : Nat) (F : List Nat) (S : Nt) (c : Int) (h : NetA w g F S m) (hm : m + 1 ≤ 900000000) :
    Calls Tryd.prog 36 #[.pointer (some ⟨g, 0, none⟩), .int .i64 c] w fun e w' => e = .returned (.int .i64 (S.e1 c)) ∧ Hid (NetTo w w' g F (S.reset c) (m + 1)) := by
  by_cases he : S.e1 c = 0
  · rw [show S.reset c = S.upd c (S.get c).reset by unfold Nt.reset; rw [if_pos he], he]
    obtain ⟨i, s, rfl, hs, hi, hg, hb, ho⟩ := Nt.e1_zero he
    rw [hg]
    obtain ⟨vc, X, rfl, h⟩ := h
    obtain ⟨x, hx⟩ := h.cs.at1 hs
    have hc := h.cs.at_ i x s hx hs
    have HT := Lib.hid (theirs_at w g m i vc X S x s h hx hs hb ho)
    have HB := Lib.hid (break_any w x s hc)
    have hf := h.ok.at_ hs
    have HN := Lib.hid (fun (w' : World) (hq : CnTo KP w w' x s.reset) => h.toC hx hs hq (h.ok.upd (n := m + 1) (by omega) hm (by simp only [Cn.reset, Cn.break_]; simp; omega) fun hq => h.ok.op i s hs hq) rfl)
    have hmr : s.mr ≤ 900000000 := by omega
    have hmw : s.mw ≤ 900000000 := by omega
    clear h hx hs hg hb ho hc hf he hi
    go_enter Tryd.func36, Tryd.ntmps36
    go_wp2_with fail
    refine HT.out.mono ?_
    rintro e w' ⟨rfl, rfl⟩
    go_wp2_with fail
    refine HB.out.mono ?_
    rintro e w1 ⟨rfl, hq⟩
    have HQ := Lib.hid hq.out
    obtain ⟨x1, h1, h2, -, -⟩ := hq.out
    have c9 := h1.row.cell 9
    have c10 := h1.row.cell 10
    rw [h2] at c9 c10
    simp only [KP, Cn.break_] at c9 c10
    have f0 := h1.row.free
    rw [h2] at f0
    clear h1 h2 hq
    go_wp2
    go_ret
    refine ⟨rfl, Lib.hid (HN.out _ ?_)⟩
    exact CnTo.put (s := { s.break_ with mr := s.mr + 1 }) (CnTo.put HQ.out 9 _ (fun _ => rfl) (cbs_all rfl rfl rfl)) 10 _ (fun _ => rfl) (cbs_all rfl rfl rfl)
  · rw [show S.reset c = S by unfold Nt.reset; rw [if_neg he]]
    have HT := Lib.hid (theirs_no w g m F S c h he)
    have HN := Lib.hid (NetTo.same (h.more (n := m + 1) (by omega) hm) (Mods.refl [] w))
    obtain ⟨e0, he0⟩ : ∃ e0, e0 = S.e1 c := ⟨_, rfl⟩
    rw [← he0] at HT he ⊢
    have hne : (e0 != 0) = true := by simpa using he
    clear h he he0
    go_enter Tryd.func36, Tryd.ntmps36
    go_wp2_with fail
    refine HT.out.mono ?_
    rintro e w' ⟨rfl, rfl⟩
    go_wp2
    go_ret
    exact ⟨rfl, HN⟩
theorem reset_nil (w : World) (c : Int) : Calls Tryd.prog 36 #[.pointer none, .int .i64 c] w fun e w' => e = .returned (.int .i64 1) ∧ w = w' := by
  go_enter Tryd.func36, Tryd.ntmps36
  go_wp2_with fail
  refine (theirs_nil w c).mono ?_
  rintro e w' ⟨rfl, rfl⟩
  go_wp2
  go_ret
  exact ⟨rfl, rfl⟩
theorem shut_any (w : World) (g m : Nat) (F : List Nat) (S : Nt) (c : Int) (h : NetA w g F S m) :
    Calls Tryd.prog 45 #[.pointer (some ⟨g, 0, none⟩), .int .i64 c] w fun e w' => e = .returned (.int .i64 (S.e2 c)) ∧ Hid (NetTo w w' g F (S.shut c) m) := by
  by_cases he : S.e2 c = 0
  · rw [show S.shut c = S.upd c { S.get c with sht := true } by unfold Nt.shut; rw [if_pos he], he]
    obtain ⟨i, s, rfl, hs, hi, hg, hb, ho, hfi⟩ := Nt.e2_zero he
    rw [hg]
    obtain ⟨vc, X, rfl, h⟩ := h
    obtain ⟨x, hx⟩ := h.cs.at1 hs
    have hc := h.cs.at_ i x s hx hs
    have HT := Lib.hid (ours_at w g m i vc X S x s h hx hs hb ho hfi)
    have hf := h.ok.at_ hs
    have HN := Lib.hid (fun (w' : World) (hq : CnTo KP w w' x { s with sht := true }) => h.toC hx hs hq (h.ok.upd (n := m) (by omega) h.ok.mm hf fun hq => h.ok.op i s hs hq) rfl)
    have c4 := hc.row.cell 4
    simp only [KP] at c4
    have f0 := hc.row.free
    have HH := Lib.hid hc
    clear h hx hs hg hb ho hc hf he hi
    go_enter Tryd.func45, Tryd.ntmps45
    go_wp2_with fail
    refine HT.out.mono ?_
    rintro e w' ⟨rfl, rfl⟩
    go_wp2
    go_ret
    exact ⟨rfl, Lib.hid (HN.out _ (CnTo.put (CnTo.refl HH.out) 4 (.bool true) (fun _ => rfl) (cbs_all rfl rfl rfl)))⟩
  · rw [show S.shut c = S by unfold Nt.shut; rw [if_neg he]]
    have HT := Lib.hid (ours_no w g m F S c h he)
    have HN := Lib.hid (NetTo.same h (Mods.refl [] w))
    obtain ⟨e0, he0⟩ : ∃ e0, e0 = S.e2 c := ⟨_, rfl⟩
    rw [← he0] at HT he ⊢
    have hne : (e0 != 0) = true := by simpa using he
    clear h he he0
    go_enter Tryd.func45, Tryd.ntmps45
    go_wp2_with fail
    refine HT.out.mono ?_
    rintro e w' ⟨rfl, rfl⟩
    go_wp2
    go_ret
    exact ⟨rfl, HN⟩
theorem shut_nil (w : World) (c : Int) : Calls Tryd.prog 45 #[.pointer none, .int .i64 c] w fun e w' => e = .returned (.int .i64 1) ∧ w = w' := by
  go_enter Tryd.func45, Tryd.ntmps45
  go_wp2_with fail
  refine (ours_nil w c).mono ?_
  rintro e w' ⟨rfl, rfl⟩
  go_wp2
  go_ret
  exact ⟨rfl, rfl⟩
end Go.Proofs.YthaapkafamdhcaaDoor
