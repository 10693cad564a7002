/- What State, Got of the reference's net answer. -/
import Derived.Test.YtogcfeplfclobaaRe
namespace Go.Proofs.Ytogcfeplfclobaa
open Go.RowKit
set_option maxRecDepth 10000
set_option linter.unusedVariables false
set_option linter.unusedSimpArgs false

theorem ret_rstate {fn : Func} {a : Act} {W : World} {R : Ending → World → Prop} {r : Nat} {p q s : Bool} {y : Int} (hres : fn.results = #[.cell 4 85]) (hr : Row W r 85 #[.bool p, .bool q, .bool s, .int .i64 y])
    (h4 : a.tmps.getD 4 undef = .pointer (some ⟨r, 0, none⟩)) (hd : a.defers = []) (hR : R (.returned (.agg #[.bool p, .bool q, .bool s, .int .i64 y])) W) : bodyPost Try.prog fn R .ret a W := by
  have k0 := hr.cell 0
  have k1 := hr.cell 1
  have k2 := hr.cell 2
  have k3 := hr.cell 3
  refine bodyPost_ret (v := .agg #[.bool p, .bool q, .bool s, .int .i64 y]) ?_ hd hR
  have g4 : a.tmps[4]?.getD undef = .pointer (some ⟨r, 0, none⟩) := by simpa using h4
  have k0 : W.cell? ⟨r, 0, none⟩ = some (.bool p) := k0
  have k1 : W.cell? ⟨r, 1, none⟩ = some (.bool q) := k1
  have k2 : W.cell? ⟨r, 2, none⟩ = some (.bool s) := k2
  have k3 : W.cell? ⟨r, 3, none⟩ = some (.int .i64 y) := k3
  simp [results, hres, go_sem, g4, k0, k1, k2, k3]
theorem rstate_any (w : World) (g m : Nat) (F : List Nat) (S : Nt) (c : Int) (h : RefA w g F S m) :
    Calls Try.prog 52 #[.pointer (some ⟨g, 0, none⟩), .int .i64 c] w fun e w' =>
      e = .returned (.agg #[.bool (S.stW c), .bool (S.get c).opn, .bool (S.get c).brk, .int .i64 (S.get c).peer]) ∧ Mods [] w w' := by
  obtain ⟨z, hz, HMz, HRz⟩ : ∃ z : World, z = w.alloc (.cells #[.bool false, .bool false, .bool false, .int .i64 0] 85) ∧ Hid (Mods [] w z) ∧ Hid (Row z w.heap.size 85 #[.bool false, .bool false, .bool false, .int .i64 0]) :=
    ⟨_, rfl, Lib.hid ((Mods.refl _ _).alloc _), Lib.hid (Row.new w _ _)⟩
  have k0 := HRz.out.cell 0
  have k1 := HRz.out.cell 1
  have k2 := HRz.out.cell 2
  have k3 := HRz.out.cell 3
  have fz := HRz.out.free
  have hw0 := h.lt
  cases hs : S.at? c with
  | none =>
    have hcc := Nt.at_none hs
    rw [Nt.get_none hs, show S.stW c = false by unfold Nt.stW; rw [hs]]
    simp only [none_, Cn.new]
    clear hs
    obtain ⟨vl, vn, X, R, rfl, h⟩ := h
    obtain ⟨A, cc, rfl, -, -⟩ := h.slice
    have c1 := h.row.cell 1
    have a1 := fun o => cell_alloc c1 o
    clear h c1 hw0
    by_cases h0 : c < 0
    · clear hcc
      clear k0 k1 k2 k3 fz
      go_enter Try.func52, Try.ntmps52
      go_wp2
      rw [← hz]
      exact ret_rstate Try.results52 HRz.out rfl rfl ⟨rfl, HMz.out⟩
    · have h1 : (S.L.length : Int) ≤ c := by omega
      have h3 : decide ((S.L.length : Int) ≤ c) = true := by simpa using h1
      clear hcc
      clear k0 k1 k2 k3 fz
      go_enter Try.func52, Try.ntmps52
      go_wp2
      rw [← hz]
      exact ret_rstate Try.results52 HRz.out rfl rfl ⟨rfl, HMz.out⟩
  | some s =>
    have hw : S.stW c = decide ((S.first : Int) ≤ c) := by unfold Nt.stW; rw [hs]
    rw [Nt.get_some hs, hw]
    obtain ⟨i, rfl, h1, h2⟩ := Nt.at_some hs
    obtain ⟨vl, vn, X, R, rfl, h⟩ := h
    obtain ⟨x, r, hx, hr, rfl, hc, ha⟩ := h.at_ h1
    obtain ⟨A, cc, rfl, -, -⟩ := h.slice
    obtain ⟨b, o, rfl, ci⟩ := h.cell hx
    have c1 := h.row.cell 1
    have hl := h.ok.n2
    have d0 := hc.row.cell 0
    have d1 := hc.row.cell 1
    have d2 := hc.row.cell 2
    have d4 := hc.row.cell 4
    simp only [KR] at d0 d1 d2 d4
    rw [ha.wts] at d1
    obtain ⟨wt, hwt⟩ : ∃ b, b = decide (S.first ≤ i) := ⟨_, rfl⟩
    rw [← hwt] at d1
    rw [show decide ((S.first : Int) ≤ (i : Int)) = wt by rw [hwt]; simp]
    have e0 := cell_mods d0 HMz.out (by simp)
    have e1 := cell_mods d1 HMz.out (by simp)
    have e2 := cell_mods d2 HMz.out (by simp)
    have e4 := cell_mods d4 HMz.out (by simp)
    have a1 := fun o => cell_alloc c1 o
    have a6 := fun o => cell_alloc ci o
    have hi2 : decide ((S.L.length : Int) ≤ (i : Int)) = false := by simp; omega
    have hi3 : decide ((i : Int) < 0) = false := by simp
    have hk1 : (0 : Int) ≤ (i : Int) := by omega
    have hk2 : (i : Int) < (S.L.length : Int) := by omega
    have hne1 : x.b ≠ w.heap.size := Nat.ne_of_lt hc.row.lt
    have hne2 : w.heap.size ≠ x.b := hne1.symm
    clear h hx hr hs hc ha h1 h2 c1 d0 d1 d2 d4 ci hw0 hw hwt
    go_enter Try.func52, Try.ntmps52
    go_wp2_with fail
    rw [← hz]
    clear hz
    go_region_held3 (fun w' => w'.cell? ⟨x.b, 0, none⟩ = some (.int .i64 r.c.peer) ∧ w'.cell? ⟨x.b, 1, none⟩ = some (.bool wt) ∧ w'.cell? ⟨x.b, 2, none⟩ = some (.bool r.c.opn) ∧ w'.cell? ⟨x.b, 4, none⟩ = some (.bool r.c.brk)) (go_keep) (fail)
    all_goals
      go_wp2
      exact ret_rstate Try.results52 (((((HRz.out.set 0 _).set 1 _).set 2 _).set 3 _).keep rfl) rfl rfl ⟨rfl, ((((HMz.out.setCell (.inr (Nat.le_refl _)) _).setCell (.inr (Nat.le_refl _)) _).setCell (.inr (Nat.le_refl _)) _).setCell (.inr (Nat.le_refl _)) _).drew⟩
set_option maxHeartbeats 4000000 in
theorem rgot_any (w : World) (g m : Nat) (F : List Nat) (S : Nt) (c : Int) (h : RefA w g F S m) :
    Calls Try.prog 51 #[.pointer (some ⟨g, 0, none⟩), .int .i64 c] w fun e w' => ∃ v, e = .returned (.tuple #[v, .bool (S.gotE c)]) ∧ Hid (BytesAt w w' v (S.gotB c)) := by
  cases hs : S.at? c with
  | none =>
    have hcc := Nt.at_none hs
    rw [show S.gotB c = [] by unfold Nt.gotB; rw [Nt.get_none hs]; rfl, show S.gotE c = false by unfold Nt.gotE; rw [hs]]
    clear hs
    obtain ⟨vl, vn, X, R, rfl, h⟩ := h
    obtain ⟨A, cc, rfl, -, -⟩ := h.slice
    have c1 := h.row.cell 1
    clear h
    by_cases h0 : c < 0
    · clear hcc
      go_enter Try.func51, Try.ntmps51
      go_wp2
      go_ret2
      exact ⟨_, rfl, Lib.hid (BytesAt.nil _)⟩
    · have h1 : (S.L.length : Int) ≤ c := by omega
      have h3 : decide ((S.L.length : Int) ≤ c) = true := by simpa using h1
      clear hcc
      go_enter Try.func51, Try.ntmps51
      go_wp2
      go_ret2
      exact ⟨_, rfl, Lib.hid (BytesAt.nil _)⟩
  | some s =>
    obtain ⟨i, rfl, h1, h2⟩ := Nt.at_some hs
    obtain ⟨vl, vn, X, R, rfl, h⟩ := h
    obtain ⟨x, r, hx, hr, rfl, hc, ha⟩ := h.at_ h1
    obtain ⟨A, cc, rfl, -, -⟩ := h.slice
    obtain ⟨b, o, rfl, ci⟩ := h.cell hx
    have c1 := h.row.cell 1
    have hl := h.ok.n2
    have d2 := hc.row.cell 2
    have d3 := hc.row.cell 3
    have d4 := hc.row.cell 4
    have d6 := hc.row.cell 6
    have d8 := hc.row.cell 8
    simp only [KR] at d2 d3 d4 d6 d8
    have hi2 : decide ((S.L.length : Int) ≤ (i : Int)) = false := by simp; omega
    have hi3 : decide ((i : Int) < 0) = false := by simp
    have hk1 : (0 : Int) ≤ (i : Int) := by omega
    have hk2 : (i : Int) < (S.L.length : Int) := by omega
    have hge : S.gotE i = ((r.c.sht || r.c.brk) || (decide ((i : Int) < S.first) && !r.c.opn)) := by unfold Nt.gotE; rw [hs]
    have hge2 : S.gotE i = ((r.c.sht || r.c.brk) || (r.was && !r.c.opn)) := by
      rw [hge]
      cases hb : r.c.brk with
      | true => simp
      | false =>
        rw [ha.was hb]
        congr 2
        simp
    rw [show S.gotB i = r.c.out by unfold Nt.gotB; rw [Nt.get_some hs], hge2]
    obtain ⟨Av, cv, hv, -, -⟩ := (hc.own 2).slice
    rw [bv_length] at hv
    change x.v 2 = .slice Av r.c.out.length cv at hv
    rw [hv] at d8
    have HA := Lib.hid (show At w [] Av r.c.out from At.of_own2 (show Own w 5 (.slice Av r.c.out.length cv) (bv r.c.out) by rw [← hv]; exact hc.own 2) (by simp) (hc.rng 2))
    obtain ⟨L, hL⟩ : ∃ L, L = r.c.out := ⟨_, rfl⟩
    rw [← hL] at d8 HA ⊢
    obtain ⟨b2, h2'⟩ : ∃ b, b = r.c.opn := ⟨_, rfl⟩
    obtain ⟨b3, h3'⟩ : ∃ b, b = r.was := ⟨_, rfl⟩
    obtain ⟨b4, h4'⟩ : ∃ b, b = r.c.brk := ⟨_, rfl⟩
    obtain ⟨b6, h6'⟩ : ∃ b, b = r.c.sht := ⟨_, rfl⟩
    rw [← h2'] at d2 ⊢
    rw [← h3'] at d3 ⊢
    rw [← h4'] at d4 ⊢
    rw [← h6'] at d6 ⊢
    clear h hx hr hs hc ha h1 h2 hv hge hge2 h2' h3' h4' h6' hL
    cases b6 <;> cases b4 <;> cases b3 <;> cases b2
    all_goals
      go_enter Try.func51, Try.ntmps51
      go_wp2_with fail
      go_quiet (fail)
      go_wp2
      go_ret2
      exact ⟨_, rfl, Lib.hid ⟨⟨_, rfl⟩, _, _, _, rfl, rfl, HA.out⟩⟩
end Go.Proofs.Ytogcfeplfclobaa
