/- What Ready, State, Got of the program's net answer. -/
import Derived.Test.YthaapkafamdhcaaDoorNj
namespace Go.Proofs.YthaapkafamdhcaaDoor
open Go.RowKit
set_option maxRecDepth 10000
set_option linter.unusedVariables false
set_option linter.unusedSimpArgs false

theorem ready_any (w : World) (g m : Nat) (F : List Nat) (S : Nt) (c : Int) (h : NetA w g F S m) :
    Calls Tryd.prog 76 #[.pointer (some ⟨g, 0, none⟩), .int .i64 c] w fun e w' => e = .returned (.tuple #[.bool (S.readyR c), .bool (S.readyW c)]) ∧ ∃ q, w' = w.drewN q := by
  have hn := neq_nnil
  have hn2 := eql_cnil
  by_cases hl : c = -1
  · subst hl
    have HW := Lib.hid (waiting_any w g m F S h)
    rw [show S.readyR (-1) = decide (0 < S.wait) from rfl, show S.readyW (-1) = false from rfl]
    obtain ⟨k, hk⟩ : ∃ k, k = S.wait := ⟨_, rfl⟩
    rw [← hk] at HW ⊢
    clear h hk
    go_enter Tryd.func76, Tryd.ntmps76
    go_wp2_with fail
    refine HW.out.mono ?_
    rintro e w' ⟨rfl, q, rfl⟩
    go_wp2
    go_ret2
    exact ⟨rfl, q, rfl⟩
  · have hr : S.readyR c = if S.isO c then (decide (0 < (S.get c).inn.length) || (S.get c).hlv) || (S.get c).brk else false := by unfold Nt.readyR; rw [if_neg hl]
    have hw : S.readyW c = if S.isO c then (decide (0 < (S.get c).win) && !(S.get c).sht) || (S.get c).brk else false := by unfold Nt.readyW; rw [if_neg hl]
    have hi1 : (c == -1) = false := by simpa using hl
    cases hs : S.at? c with
    | none =>
      have HF := Lib.hid (find_no w g m F S c h (Nt.at_none hs))
      have ho : S.isO c = false := by unfold Nt.isO; rw [Nt.get_none hs]; rfl
      rw [hr, hw, ho]
      clear h hs hr hw ho hl
      go_enter Tryd.func76, Tryd.ntmps76
      go_wp2_with fail
      refine HF.out.mono ?_
      rintro e w' ⟨rfl, rfl⟩
      go_wp2
      go_ret2
      exact ⟨rfl, 0, rfl⟩
    | some s =>
      have hg := Nt.get_some hs
      obtain ⟨i, rfl, h1, h2⟩ := Nt.at_some hs
      obtain ⟨vc, X, rfl, h⟩ := h
      obtain ⟨x, hx⟩ := h.cs.at1 h1
      have hf := find_at w g m i vc X S x h hx
      have hc := h.cs.at_ i x s hx h1
      cases ho : s.opn with
      | false =>
        have ho2 : S.isO i = false := by unfold Nt.isO; rw [hg]; exact ho
        rw [hr, hw, ho2]
        have HF := Lib.hid hf
        have c1 := hc.row.cell 1
        simp only [KP] at c1
        rw [ho] at c1
        clear h hs hr hw ho hl hf hc hx h1 hg ho2
        go_enter Tryd.func76, Tryd.ntmps76
        go_wp2_with fail
        refine HF.out.mono ?_
        rintro e w' ⟨rfl, rfl⟩
        go_wp2
        go_ret2
        exact ⟨rfl, 0, rfl⟩
      | true =>
        have ho2 : S.isO i = true := by unfold Nt.isO; rw [hg]; exact ho
        rw [hr, hw, ho2, hg]
        exact ready_open w g x s i hc ho hl hf
theorem ret_state {fn : Func} {a : Act} {W : World} {R : Ending → World → Prop} {r : Nat} {p q s : Bool} {y : Int} (hres : fn.results = #[.cell 4 124]) (hr : Row W r 124 #[.bool p, .bool q, .bool s, .int .i64 y])
    (h4 : a.tmps.getD 4 undef = .pointer (some ⟨r, 0, none⟩)) (hd : a.defers = []) (hR : R (.returned (.agg #[.bool p, .bool q, .bool s, .int .i64 y])) W) : bodyPost Tryd.prog fn R .ret a W := by
  have k0 := hr.cell 0
  have k1 := hr.cell 1
  have k2 := hr.cell 2
  have k3 := hr.cell 3
  refine bodyPost_ret (v := .agg #[.bool p, .bool q, .bool s, .int .i64 y]) ?_ hd hR
  have g4 : a.tmps[4]?.getD undef = .pointer (some ⟨r, 0, none⟩) := by simpa using h4
  have k0 : W.cell? ⟨r, 0, none⟩ = some (.bool p) := k0
  have k1 : W.cell? ⟨r, 1, none⟩ = some (.bool q) := k1
  have k2 : W.cell? ⟨r, 2, none⟩ = some (.bool s) := k2
  have k3 : W.cell? ⟨r, 3, none⟩ = some (.int .i64 y) := k3
  simp [results, hres, go_sem, g4, k0, k1, k2, k3]
theorem state_nil (w : World) (c : Int) : Calls Tryd.prog 57 #[.pointer none, .int .i64 c] w fun e w' => e = .returned (.agg #[.bool false, .bool false, .bool false, .int .i64 0]) ∧ Mods [] w w' := by
  have hn2 := eql_cnil
  go_enter Tryd.func57, Tryd.ntmps57
  go_wp2_with fail
  refine (find_nil _ c).mono ?_
  rintro e w' ⟨rfl, rfl⟩
  go_wp2
  exact ret_state Tryd.results57 (Row.new w _ _) rfl rfl ⟨rfl, (Mods.refl _ _).alloc _⟩
theorem state_any (w : World) (g m : Nat) (F : List Nat) (S : Nt) (c : Int) (h : NetA w g F S m) :
    Calls Tryd.prog 57 #[.pointer (some ⟨g, 0, none⟩), .int .i64 c] w fun e w' =>
      e = .returned (.agg #[.bool (S.stW c), .bool (S.get c).opn, .bool (S.get c).brk, .int .i64 (S.get c).peer]) ∧ Mods [] w w' := by
  have hn2 := eql_cnil
  cases hs : S.at? c with
  | none =>
    have HF := Lib.hid (fun (w' : World) (hq : Mods [] w w') => find_no w' g m F S c (h.quiet hq) (Nt.at_none hs))
    rw [Nt.get_none hs, show S.stW c = false by unfold Nt.stW; rw [hs]]
    simp only [none_, Cn.new]
    clear h hs
    go_enter Tryd.func57, Tryd.ntmps57
    go_wp2_with fail
    refine (HF.out _ ((Mods.refl _ _).alloc _)).mono ?_
    rintro e w' ⟨rfl, rfl⟩
    go_wp2
    exact ret_state Tryd.results57 (Row.new w _ _) rfl rfl ⟨rfl, (Mods.refl _ _).alloc _⟩
  | some s =>
    have hw : S.stW c = decide ((S.first : Int) ≤ c) := by unfold Nt.stW; rw [hs]
    rw [Nt.get_some hs, hw]
    obtain ⟨i, rfl, h1, h2⟩ := Nt.at_some hs
    have hq := h
    obtain ⟨vc, X, rfl, h⟩ := h
    obtain ⟨x, hx⟩ := h.cs.at1 h1
    have HF := Lib.hid (fun (w' : World) (hm : Mods [] w w') => find_at w' g m i vc X S x (h.keep fun k hk => hm.block k (h.lt k hk) (by simp)) hx)
    have HW := Lib.hid (fun (w' : World) (hm : Mods [] w w') => waits_any w' g m _ S (i : Int) (hq.quiet hm))
    have hc := h.cs.at_ i x s hx h1
    have c0 := hc.row.cell 0
    have c1 := hc.row.cell 1
    have c2 := hc.row.cell 2
    simp only [KP] at c0 c1 c2
    have hne1 : x.b ≠ w.heap.size := Nat.ne_of_lt hc.row.lt
    have hne2 : w.heap.size ≠ x.b := hne1.symm
    obtain ⟨wt, hwt⟩ : ∃ b, b = decide ((S.first : Int) ≤ (i : Int)) := ⟨_, rfl⟩
    rw [← hwt] at HW ⊢
    obtain ⟨z, hz, HMz, HRz⟩ : ∃ z : World, z = w.alloc (.cells #[.bool false, .bool false, .bool false, .int .i64 0] 124) ∧ Hid (Mods [] w z) ∧ Hid (Row z w.heap.size 124 #[.bool false, .bool false, .bool false, .int .i64 0]) :=
      ⟨_, rfl, Lib.hid ((Mods.refl _ _).alloc _), Lib.hid (Row.new w _ _)⟩
    have d0 := cell_mods c0 HMz.out (by simp)
    have d1 := cell_mods c1 HMz.out (by simp)
    have d2 := cell_mods c2 HMz.out (by simp)
    have k0 := HRz.out.cell 0
    have k1 := HRz.out.cell 1
    have k2 := HRz.out.cell 2
    have k3 := HRz.out.cell 3
    have fz := HRz.out.free
    clear h hx h1 hs hw hq hc hwt c0 c1 c2
    go_enter Tryd.func57, Tryd.ntmps57
    go_wp2_with fail
    rw [← hz]
    clear hz
    refine (HF.out _ HMz.out).mono ?_
    rintro e w' ⟨rfl, rfl⟩
    go_wp2_with fail
    go_region_held3 (fun w' => w'.cell? ⟨x.b, 0, none⟩ = some (.int .i64 s.peer) ∧ w'.cell? ⟨x.b, 1, none⟩ = some (.bool s.opn) ∧ w'.cell? ⟨x.b, 2, none⟩ = some (.bool s.brk)) (go_keep)
      ((go_at_call 80; refine Calls.mono (HW.out _ (HMz.out.same rfl rfl rfl rfl)) ?_; rintro e w' ⟨rfl, rfl⟩))
    all_goals
      go_wp2
      exact ret_state Tryd.results57 (((((HRz.out.set 0 _).set 1 _).set 2 _).set 3 _).keep rfl) rfl rfl ⟨rfl, ((((HMz.out.setCell (.inr (Nat.le_refl _)) _).setCell (.inr (Nat.le_refl _)) _).setCell (.inr (Nat.le_refl _)) _).setCell (.inr (Nat.le_refl _)) _).drew⟩
end Go.Proofs.YthaapkafamdhcaaDoor
