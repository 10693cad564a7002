/- The end of a function that answers how a request goes on. Conditions: none. -/
import Derived.Test.YtgkhelbpccehcaaGreatDoorMQD
import Derived.Test.YtgkhelbpccehcaaGreatDoorMem
import Derived.OwnWalk
import Derived.Laws.EntriesVeiled
import Derived.Test.YtgkhelbpccehcaaGreatDoorMQB
import Derived.Test.YtgkhelbpccehcaaGreatDoorMQC
import Derived.Shelf.Strings.Split
import Derived.Lib.IndexBytes
import Derived.Test.YtgkhelbpccehcaaGreatDoorMQA
import Derived.Test.YtgkhelbpccehcaaGreatDoorSh9
import Derived.Deep.DeepCutAuto
import Derived.Deep.CutBlock
import Derived.Deep.RegionHeld3
namespace Go.Proofs.YtgkhelbpccehcaaGreatDoor
open Go.RowKit
set_option linter.unusedVariables false
set_option linter.unusedSimpArgs false

def HowP.cells (h : HowP) : Array Value := #[.int .i64 h.kind, .int .i64 h.length, .bool h.close, .bool h.expect]
def howV (h : HowP) : Value := .agg #[.int .i64 h.kind, .int .i64 h.length, .bool h.close, .bool h.expect]
def HAns (w : World) (rr : HowP × Int) (e : Ending) (w' : World) : Prop := e = .returned (.tuple #[howV rr.1, .int .i64 rr.2]) ∧ Mods [] w w'
theorem ret_how {fn : Func} {a : Act} {W : World} {R : Ending → World → Prop} {r : Nat} {h : HowP} {t : TypeId} {q q2 : Tmp} {v : Value} (hres : fn.results = #[.cell q t, .tmp q2])
    (hrow : Row W r t h.cells) (ha : (isAgg t).run Tryz.prog W = .ok true W) (hs : (Go.sizeOf t).run Tryz.prog W = .ok 4 W)
    (h2 : a.tmps.getD q undef = .pointer (some ⟨r, 0, none⟩)) (h3 : a.tmps.getD q2 undef = v) (hd : a.defers = []) (hR : R (.returned (.tuple #[howV h, v])) W) : bodyPost Tryz.prog fn R .ret a W := by
  refine bodyPost_ret (v := .tuple #[howV h, v]) ?_ hd hR
  have c0 : W.cell? ⟨r, 0, none⟩ = some (.int .i64 h.kind) := hrow.cell 0
  have c1 : W.cell? ⟨r, 1, none⟩ = some (.int .i64 h.length) := hrow.cell 1
  have c2 : W.cell? ⟨r, 2, none⟩ = some (.bool h.close) := hrow.cell 2
  have c3 : W.cell? ⟨r, 3, none⟩ = some (.bool h.expect) := hrow.cell 3
  have g2 : a.tmps[q]?.getD undef = .pointer (some ⟨r, 0, none⟩) := by simpa using h2
  have g3 : a.tmps[q2]?.getD undef = v := by simpa using h3
  simp [results, hres, go_sem, g2, g3, c0, c1, c2, c3, ha, hs, howV]
def setH (w : World) (n : Nat) (h : HowP) : World := (((w.setCell ⟨n, 0, none⟩ (.int .i64 h.kind)).setCell ⟨n, 1, none⟩ (.int .i64 h.length)).setCell ⟨n, 2, none⟩ (.bool h.close)).setCell ⟨n, 3, none⟩ (.bool h.expect)
theorem Row.putH {w : World} {n : Nat} {t : TypeId} {h0 : HowP} (h : Row w n t h0.cells) (x : HowP) : Row (setH w n x) n t x.cells := (((h.set 0 _).set 1 _).set 2 _).set 3 _
theorem Mods.putH {F : List Nat} {a w : World} (h : Mods F a w) {n : Nat} (hn : n ∈ F ∨ a.heap.size ≤ n) (x : HowP) : Mods F a (setH w n x) :=
  (((h.setCell (p := ⟨n, 0, none⟩) hn _).setCell (p := ⟨n, 1, none⟩) hn _).setCell (p := ⟨n, 2, none⟩) hn _).setCell (p := ⟨n, 3, none⟩) hn _
/-- The end of a function that has stored its result. -/
theorem end_H {fn : Func} {a : Act} {w W : World} {rr : HowP × Int} {r : Nat} {t : TypeId} {h0 : HowP} {k l : Int} {c x : Bool} {q q2 : Tmp} {n : Int} (hres : fn.results = #[.cell q t, .tmp q2])
    (hrow : Row W r t h0.cells) (ha : ∀ W, (isAgg t).run Tryz.prog W = .ok true W) (hs : ∀ W, (Go.sizeOf t).run Tryz.prog W = .ok 4 W)
    (h2 : a.tmps.getD q undef = .pointer (some ⟨r, 0, none⟩)) (h3 : a.tmps.getD q2 undef = .int .i64 n) (hd : a.defers = [])
    (hX : rr = (⟨k, l, c, x⟩, n)) (hM : Mods [] w W) (hn : w.heap.size ≤ r) :
    bodyPost Tryz.prog fn (HAns w rr) .ret a ((((W.setCell ⟨r, 0, none⟩ (.int .i64 k)).setCell ⟨r, 1, none⟩ (.int .i64 l)).setCell ⟨r, 2, none⟩ (.bool c)).setCell ⟨r, 3, none⟩ (.bool x)) := by
  have hR := hrow.putH ⟨k, l, c, x⟩
  have hM2 := hM.putH (.inr hn) ⟨k, l, c, x⟩
  change bodyPost Tryz.prog fn (HAns w rr) .ret a (setH W r ⟨k, l, c, x⟩)
  generalize setH W r ⟨k, l, c, x⟩ = w6 at hR hM2 ⊢
  exact ret_how (h := ⟨k, l, c, x⟩) hres hR (ha _) (hs _) h2 h3 hd ⟨by rw [hX], hM2⟩
/-- What a walk asks of the block. -/
theorem Row.factsH {w : World} {n : Nat} {t : TypeId} {h : HowP} (hr : Row w n t h.cells) :
    w.cell? ⟨n, 0, none⟩ = some (.int .i64 h.kind) ∧ w.cell? ⟨n, 1, none⟩ = some (.int .i64 h.length) ∧ w.cell? ⟨n, 2, none⟩ = some (.bool h.close) ∧ w.cell? ⟨n, 3, none⟩ = some (.bool h.expect) ∧
    w.frozen? ⟨n, 0, none⟩ = false ∧ w.frozen? ⟨n, 1, none⟩ = false ∧ w.frozen? ⟨n, 2, none⟩ = false ∧ w.frozen? ⟨n, 3, none⟩ = false :=
  ⟨hr.cell 0, hr.cell 1, hr.cell 2, hr.cell 3, hr.free 0, hr.free 1, hr.free 2, hr.free 3⟩
end Go.Proofs.YtgkhelbpccehcaaGreatDoor

/- The code's Of: how a request goes on, or the status by which it is refused. Conditions: names of at most a million bytes, values of at most 900000 bytes in all. -/
namespace Go.Proofs.YtgkhelbpccehcaaGreatDoor
open Go.RowKit
set_option linter.unusedVariables false
set_option linter.unusedSimpArgs false

theorem frm_end {m : Int} {S : List FV} (h : hostOk m (valsF S nHost) = true) (h2 : (bodyS m S).2.2 = 0) (h3 : toksO (valsF S nCon) ≠ none) (h4 : expS m S = 0) :
    frmN m S = (⟨(bodyS m S).1, (bodyS m S).2.1, closeS m (valsF S nCon), expX m (bodyS m S).1 (bodyS m S).2.1 S⟩, 0) := by
  unfold expX
  by_cases hx : m = 1 ∧ valsF S nExp ≠ []
  · have hs : sameL (getF S nExp) contB = true := by
      cases hs : sameL (getF S nExp) contB with
      | true => rfl
      | false => unfold expS at h4; rw [if_pos ⟨hx.1, hx.2, hs⟩] at h4; cases h4
    rw [frm_exp h h2 h3 hx hs, decide_eq_true hx, Bool.true_and]
    congr 3
    rw [Bool.eq_iff_iff]; simp
  · rw [frm_plain h h2 h3 hx, decide_eq_false hx]; rfl
theorem frm_exp417 {m : Int} {S : List FV} (h : hostOk m (valsF S nHost) = true) (h2 : (bodyS m S).2.2 = 0) (h3 : toksO (valsF S nCon) ≠ none) (h4 : expS m S ≠ 0) : frmN m S = (noH, 417) ∧ expS m S = 417 := by
  by_cases hx : m = 1 ∧ valsF S nExp ≠ [] ∧ sameL (getF S nExp) contB = false
  · exact ⟨frm_417 h h2 h3 ⟨hx.1, hx.2.1⟩ hx.2.2, by unfold expS; rw [if_pos hx]⟩
  · exact absurd (by unfold expS; rw [if_neg hx]) h4

abbrev fnsA : Array Value := #[.func (.func 134) #[] #[], .func (.func 135) #[] #[], .func (.func 136) #[] #[], .func (.func 137) #[] #[]]
theorem index_0 (w : World) : (Instr.index 160 (.agg fnsA) (.int .i64 0)).run Tryz.prog w = .ok (.func (.func 134) #[] #[]) w := by kernel_rfl
theorem index_1 (w : World) : (Instr.index 160 (.agg fnsA) (.int .i64 1)).run Tryz.prog w = .ok (.func (.func 135) #[] #[]) w := by kernel_rfl
theorem index_2 (w : World) : (Instr.index 160 (.agg fnsA) (.int .i64 2)).run Tryz.prog w = .ok (.func (.func 136) #[] #[]) w := by kernel_rfl
theorem index_3 (w : World) : (Instr.index 160 (.agg fnsA) (.int .i64 3)).run Tryz.prog w = .ok (.func (.func 137) #[] #[]) w := by kernel_rfl
theorem start_of {w : World} {A : Option Addr} {S : List FV} {el : Bool} (hf : FP 93 w.heap.size w (.pointer A) S) :
    ∃ W, W = (((w.alloc (.cells #[.int .i64 0, .int .i64 0, .bool false, .bool false] 65)).alloc (.cells #[.bool el, .pointer A, .int .i64 0, .int .i64 0, .bool false, .bool false] 157)).alloc (.cells fnsA 160)) ∧
      WkA W (w.heap.size + 1) el (.pointer A) 0 0 false false ∧ Row W w.heap.size 65 noH.cells ∧ Mods [] w W ∧ FP 93 w.heap.size W (.pointer A) S := by
  have hm := (((Mods.refl [] w).alloc (.cells #[.int .i64 0, .int .i64 0, .bool false, .bool false] 65)).alloc (.cells #[.bool el, .pointer A, .int .i64 0, .int .i64 0, .bool false, .bool false] 157)).alloc (.cells fnsA 160)
  refine ⟨_, rfl, ?_, ((Row.new w _ _).alloc _).alloc _, hm, hf.low hm⟩
  have h := (Row.new (w.alloc (.cells #[.int .i64 0, .int .i64 0, .bool false, .bool false] 65)) 157 #[.bool el, .pointer A, .int .i64 0, .int .i64 0, .bool false, .bool false]).alloc (.cells fnsA 160)
  rw [World.size_alloc] at h
  exact h

set_option maxRecDepth 10000 in
set_option maxHeartbeats 2000000 in
theorem of_el {m : Int} {fp : Value} {S : List FV} {w : World} (el : Bool) (hel : decide (m < 1) = el) (hf : FP 93 w.heap.size w fp S) (hs : Lite S) :
    Calls Tryz.prog 109 #[.int .i64 m, fp] w (HAns w (frmN (minOf el) S)) := by
  obtain ⟨A, rfl⟩ := hf.form
  obtain ⟨W, hW, hk, hr, hm, hfW⟩ := start_of (el := el) hf
  have HRW := Lib.hid hr
  have HM := Lib.hid hm
  have H1' := host_w hk hfW hs
  have H2' := fun (w1 : World) (h : Mods [] W w1) => body_w (hk.mods h (by simp)) (hfW.low h) hs
  have H3' := fun (w1 : World) (k l : Int) (h : WkA w1 (w.heap.size + 1) el (.pointer A) k l false false) (hm : Mods [w.heap.size + 1] W w1) => connection_w h (hfW.mods hm (by simp)) hs
  have H4' := fun (w1 : World) (k l : Int) (c : Bool) (h : WkA w1 (w.heap.size + 1) el (.pointer A) k l c false) (hm : Mods [w.heap.size + 1] W w1) => expect_w h (hfW.mods hm (by simp)) hs
  unfold ptr at H1' H2' H3' H4'
  have i0 := index_0
  have i1 := index_1
  have i2 := index_2
  have i3 := index_3
  have HR := Lib.hid (fun (w1 : World) (hm : Mods [w.heap.size + 1] W w1) => hr.mods hm (by simp))
  have HMM := Lib.hid (fun (w1 : World) (hm1 : Mods [w.heap.size + 1] W w1) => hm.trans hm1 (fun k hk => .inr (by simp at hk; omega)))
  clear hk hr hm hfW hf hs
  cases h1 : hostOk (minOf el) (valsF S nHost) with
  | false =>
    have HE := Lib.hid (frm_host h1)
    rw [show hostS (minOf el) (valsF S nHost) = 400 by unfold hostS; rw [h1]; rfl] at H1'
    have H1 := Lib.hid H1'
    clear h1 H1' H2' H3' H4' i1 i2 i3
    go_enter Tryz.func109, Tryz.ntmps109
    go_wp2_with fail
    rw [← hW]
    clear hW
    refine wp_loop_rounds 5 ?_
    rw [rounds_succ]
    go_wp2_with (go_at_call 134; refine H1.out.mono ?_; rintro e w1 ⟨rfl, hm1⟩; have M0 := Lib.hid hm1; have M1 := Lib.hid (hm1.more (F2 := [w.heap.size + 1]) (by simp)); obtain ⟨k0, k1, k2, k3, f0, f1, f2, f3⟩ := (HR.out _ M1.out).factsH; clear hm1)
    exact end_H rfl (HR.out _ M1.out) Tryz.isAgg65 Tryz.sizeOf65 rfl rfl rfl HE.out (HMM.out _ M1.out) (Nat.le_refl _)
  | true =>
    rw [show hostS (minOf el) (valsF S nHost) = 0 by unfold hostS; rw [h1]; rfl] at H1'
    have H1 := Lib.hid H1'
    clear H1'
    by_cases h2 : (bodyS (minOf el) S).2.2 = 0
    · rw [h2] at H2'
      have H2 := Lib.hid H2'
      clear H2'
      by_cases h3 : toksO (valsF S nCon) = none
      · have HE := Lib.hid (frm_con h1 h2 h3)
        rw [show conS (valsF S nCon) = 400 by unfold conS; rw [if_pos h3]] at H3'
        have H3 := Lib.hid H3'
        clear h1 h2 h3 H3' H4' i3
        go_enter Tryz.func109, Tryz.ntmps109
        go_wp2_with fail
        rw [← hW]
        clear hW
        refine wp_loop_rounds 5 ?_
        rw [rounds_succ]
        go_wp2_with (go_at_call 134; refine H1.out.mono ?_; rintro e w1 ⟨rfl, hm1⟩; have M0 := Lib.hid hm1; have M1 := Lib.hid (hm1.more (F2 := [w.heap.size + 1]) (by simp)); clear hm1)
        rw [rounds_succ]
        go_wp2_with (go_at_call 135; refine (H2.out _ M0.out).mono ?_; rintro e w2 ⟨rfl, hk2, hm2⟩; have K2 := Lib.hid (hk2 rfl); have M2 := Lib.hid (M1.out.trans hm2 (fun _ h => .inl h)); clear hm2 hk2)
        rw [rounds_succ]
        go_wp2_with (go_at_call 136; refine (H3.out _ _ _ K2.out M2.out).mono ?_; rintro e w3 ⟨rfl, hk3, hm3⟩; have M3 := Lib.hid (M2.out.trans hm3 (fun _ h => .inl h)); obtain ⟨k0, k1, k2, k3, f0, f1, f2, f3⟩ := (HR.out _ M3.out).factsH; clear hm3 hk3)
        exact end_H rfl (HR.out _ M3.out) Tryz.isAgg65 Tryz.sizeOf65 rfl rfl rfl HE.out (HMM.out _ M3.out) (Nat.le_refl _)
      · rw [show conS (valsF S nCon) = 0 by unfold conS; rw [if_neg h3]] at H3'
        have H3 := Lib.hid H3'
        clear H3'
        by_cases h4 : expS (minOf el) S = 0
        · have HE := Lib.hid (frm_end h1 h2 h3 h4)
          rw [h4] at H4'
          have H4 := Lib.hid H4'
          clear h1 h2 h3 h4 H4'
          generalize (bodyS (minOf el) S).1 = bk at *
          generalize (bodyS (minOf el) S).2.1 = bl at *
          generalize closeS (minOf el) (valsF S nCon) = bc at *
          go_enter Tryz.func109, Tryz.ntmps109
          go_wp2_with fail
          rw [← hW]
          clear hW
          refine wp_loop_rounds 5 ?_
          rw [rounds_succ]
          go_wp2_with (go_at_call 134; refine H1.out.mono ?_; rintro e w1 ⟨rfl, hm1⟩; have M0 := Lib.hid hm1; have M1 := Lib.hid (hm1.more (F2 := [w.heap.size + 1]) (by simp)); clear hm1)
          rw [rounds_succ]
          go_wp2_with (go_at_call 135; refine (H2.out _ M0.out).mono ?_; rintro e w2 ⟨rfl, hk2, hm2⟩; have K2 := Lib.hid (hk2 rfl); have M2 := Lib.hid (M1.out.trans hm2 (fun _ h => .inl h)); clear hm2 hk2)
          rw [rounds_succ]
          go_wp2_with (go_at_call 136; refine (H3.out _ _ _ K2.out M2.out).mono ?_; rintro e w3 ⟨rfl, hk3, hm3⟩; have K3 := Lib.hid (hk3 rfl); have M3 := Lib.hid (M2.out.trans hm3 (fun _ h => .inl h)); clear hm3 hk3)
          rw [rounds_succ]
          go_wp2_with (go_at_call 137; refine (H4.out _ _ _ _ K3.out M3.out).mono ?_; rintro e w4 ⟨rfl, hk4, hm4⟩; have K4 := Lib.hid (hk4 rfl); have M4 := Lib.hid (M3.out.trans hm4 (fun _ h => .inl h)); have c2 : w4.cell? ⟨w.heap.size + 1, 2, none⟩ = some (.int .i64 bk) := K4.out.cell 2; have c3 : w4.cell? ⟨w.heap.size + 1, 3, none⟩ = some (.int .i64 bl) := K4.out.cell 3; have c4 : w4.cell? ⟨w.heap.size + 1, 4, none⟩ = some (.bool bc) := K4.out.cell 4; have c5 : w4.cell? ⟨w.heap.size + 1, 5, none⟩ = some (.bool (expX (minOf el) bk bl S)) := K4.out.cell 5; obtain ⟨k0, k1, k2, k3, f0, f1, f2, f3⟩ := (HR.out _ M4.out).factsH; clear hm4 hk4)
          rw [rounds_succ]
          go_wp2_with fail
          exact end_H rfl (HR.out _ M4.out) Tryz.isAgg65 Tryz.sizeOf65 rfl rfl rfl HE.out (HMM.out _ M4.out) (Nat.le_refl _)
        · obtain ⟨he, h5⟩ := frm_exp417 h1 h2 h3 h4
          have HE := Lib.hid he
          rw [h5] at H4'
          have H4 := Lib.hid H4'
          clear h1 h2 h3 h4 h5 he H4'
          go_enter Tryz.func109, Tryz.ntmps109
          go_wp2_with fail
          rw [← hW]
          clear hW
          refine wp_loop_rounds 5 ?_
          rw [rounds_succ]
          go_wp2_with (go_at_call 134; refine H1.out.mono ?_; rintro e w1 ⟨rfl, hm1⟩; have M0 := Lib.hid hm1; have M1 := Lib.hid (hm1.more (F2 := [w.heap.size + 1]) (by simp)); clear hm1)
          rw [rounds_succ]
          go_wp2_with (go_at_call 135; refine (H2.out _ M0.out).mono ?_; rintro e w2 ⟨rfl, hk2, hm2⟩; have K2 := Lib.hid (hk2 rfl); have M2 := Lib.hid (M1.out.trans hm2 (fun _ h => .inl h)); clear hm2 hk2)
          rw [rounds_succ]
          go_wp2_with (go_at_call 136; refine (H3.out _ _ _ K2.out M2.out).mono ?_; rintro e w3 ⟨rfl, hk3, hm3⟩; have K3 := Lib.hid (hk3 rfl); have M3 := Lib.hid (M2.out.trans hm3 (fun _ h => .inl h)); clear hm3 hk3)
          rw [rounds_succ]
          go_wp2_with (go_at_call 137; refine (H4.out _ _ _ _ K3.out M3.out).mono ?_; rintro e w4 ⟨rfl, hk4, hm4⟩; have M4 := Lib.hid (M3.out.trans hm4 (fun _ h => .inl h)); obtain ⟨k0, k1, k2, k3, f0, f1, f2, f3⟩ := (HR.out _ M4.out).factsH; clear hm4 hk4)
          exact end_H rfl (HR.out _ M4.out) Tryz.isAgg65 Tryz.sizeOf65 rfl rfl rfl HE.out (HMM.out _ M4.out) (Nat.le_refl _)
    · have HE := Lib.hid (frm_body h1 h2)
      have H2 := Lib.hid H2'
      have hne : ((bodyS (minOf el) S).2.2 != 0) = true := by simpa using h2
      generalize (bodyS (minOf el) S).2.2 = s2 at *
      clear h1 h2 H2' H3' H4' i2 i3
      go_enter Tryz.func109, Tryz.ntmps109
      go_wp2_with fail
      rw [← hW]
      clear hW
      refine wp_loop_rounds 5 ?_
      rw [rounds_succ]
      go_wp2_with (go_at_call 134; refine H1.out.mono ?_; rintro e w1 ⟨rfl, hm1⟩; have M0 := Lib.hid hm1; have M1 := Lib.hid (hm1.more (F2 := [w.heap.size + 1]) (by simp)); clear hm1)
      rw [rounds_succ]
      go_wp2_with (go_at_call 135; refine (H2.out _ M0.out).mono ?_; rintro e w2 ⟨rfl, hk2, hm2⟩; have M2 := Lib.hid (M1.out.trans hm2 (fun _ h => .inl h)); obtain ⟨k0, k1, k2, k3, f0, f1, f2, f3⟩ := (HR.out _ M2.out).factsH; clear hm2 hk2)
      exact end_H rfl (HR.out _ M2.out) Tryz.isAgg65 Tryz.sizeOf65 rfl rfl rfl HE.out (HMM.out _ M2.out) (Nat.le_refl _)
theorem of_f {m : Int} {fp : Value} {S : List FV} {w : World} (hf : FP 93 w.heap.size w fp S) (hs : Lite S) :
    Calls Tryz.prog 109 #[.int .i64 m, fp] w (HAns w (frm m S)) := by
  have h := of_el (m := m) _ rfl hf hs
  rw [show minOf (decide (m < 1)) = minN m by unfold minOf minN; simp only [decide_eq_true_eq]; split <;> split <;> omega] at h
  exact h
end Go.Proofs.YtgkhelbpccehcaaGreatDoor

/- A field that is written as a line with a colon and blanks is parsed as it is. No program but for what Parse answers. -/
namespace Go.Proofs.YtgkhelbpccehcaaGreatDoor
open Go.RowKit
set_option linter.unusedVariables false
set_option linter.unusedSimpArgs false

theorem bytes_injL {a b : ByteArray} (h : a.data.toList = b.data.toList) : a = b := by
  cases a with | mk a => cases b with | mk b => congr 1; exact Array.toList_inj.1 h
def spL (n : Nat) : ByteArray := ⟨Array.replicate n 32⟩
theorem spL_size (n : Nat) : (spL n).size = n := by show (Array.replicate n (32 : UInt8)).size = n; simp
theorem app_listL (a b : ByteArray) : (a ++ b).data.toList = a.data.toList ++ b.data.toList := by simp [ByteArray.data_append]
theorem app_sizeL (a b : ByteArray) : (a ++ b).size = a.size + b.size := by
  have := congrArg List.length (app_listL a b)
  rw [List.length_append] at this; exact this
theorem tl_spL (n : Nat) (l : List UInt8) : tlL (List.replicate n 32 ++ l) = tlL l := by
  induction n with
  | zero => rfl
  | succ n ih => rw [List.replicate_succ, List.cons_append, tl_cons_yes (by decide), ih]
theorem trim_aheadL (s : ByteArray) (k : Nat) : trimA (spL k ++ s) = trimA s := by
  apply bytes_injL
  show trimL (spL k ++ s).data.toList = trimL s.data.toList
  rw [app_listL, trimL_eq, trimL_eq]
  have e1 : (spL k).data.toList = List.replicate k 32 := by simp [spL]
  rw [e1, tl_spL]
theorem colon_tokL {l : List UInt8} (h : tokL l = true) : (58 : UInt8) ∉ l := by
  intro hm
  unfold tokL at h
  rw [Bool.and_eq_true] at h
  have := List.all_eq_true.1 h.1 58 hm
  revert this
  decide +kernel
/-- The line. -/
def lineK (n v : ByteArray) (k : Nat) : ByteArray := n ++ (⟨#[58]⟩ ++ spL k) ++ v
theorem lineK_size (n v : ByteArray) (k : Nat) : (lineK n v k).size = n.size + (1 + k) + v.size := by
  unfold lineK; rw [app_sizeL, app_sizeL, app_sizeL, spL_size]; rfl
theorem lineK_list (n v : ByteArray) (k : Nat) : (lineK n v k).data.toList = n.data.toList ++ 58 :: (spL k ++ v).data.toList := by
  unfold lineK; simp only [app_listL, List.append_assoc]; rfl
theorem get_listL (s : ByteArray) (j : Nat) (h : j < s.size) : s[j] = s.data.toList[j]'(by exact h) := rfl
theorem lineK_colon {n v : ByteArray} (k : Nat) (h : tokL n.data.toList = true) : colon (lineK n v k) = n.size := by
  have hl : n.data.toList.length = n.size := rfl
  refine colon_some (by rw [lineK_size]; omega) ?_ (fun j hj hjn => ?_)
  · rw [get_listL]
    simp only [lineK_list]
    rw [List.getElem_append_right (by omega)]; simp [hl]
  · rw [get_listL]
    simp only [lineK_list]
    rw [List.getElem_append_left (by omega)]
    intro he
    exact colon_tokL h (he ▸ List.getElem_mem _)
theorem lineK_fld {n v : ByteArray} (k : Nat) (h : okF (n, v) = true) : fldAt (lineK n v k) n.size = (n, v) := by
  have hv : trimA v = v := by
    unfold okF at h
    rw [Bool.and_eq_true] at h
    exact of_decide_eq_true h.2
  have hl : n.data.toList.length = n.size := rfl
  unfold fldAt
  have e1 : (lineK n v k).extract 0 n.size = n := by
    apply bytes_injL
    rw [ByteArray.data_extract, Array.toList_extract, List.extract_eq_take_drop]
    simp only [Nat.sub_zero, List.drop_zero]
    rw [lineK_list, ← hl, List.take_left]
  have e2 : (lineK n v k).extract (n.size + 1) (lineK n v k).size = spL k ++ v := by
    apply bytes_injL
    rw [ByteArray.data_extract, Array.toList_extract, List.extract_eq_take_drop]
    have hz : (lineK n v k).size = (lineK n v k).data.toList.length := rfl
    rw [List.take_of_length_le (by rw [List.length_drop, ← hz]; omega), lineK_list, ← hl, List.drop_append]
    simp
  rw [e1, e2, trim_aheadL, hv]
theorem lineK_par {n v : ByteArray} (k : Nat) (h : okF (n, v) = true) (hs : (lineK n v k).size ≤ 256) : parR (lineK n v k) = ((n, v), 0) := by
  have ht : tokL n.data.toList = true := by
    unfold okF at h
    rw [Bool.and_eq_true, Bool.and_eq_true] at h
    exact h.1.1
  have hf := lineK_fld k h
  rw [parR_yes (i := n.size) (by omega) (lineK_colon k ht) (by rw [hf]; exact h), hf]
end Go.Proofs.YtgkhelbpccehcaaGreatDoor

/- A head, line by line: plain functions of chapter 13. No program but for what Parse answers. -/
namespace Go.Proofs.YtgkhelbpccehcaaGreatDoor
open Go.RowKit
set_option linter.unusedVariables false
set_option linter.unusedSimpArgs false

/-- A head as far as it came. -/
structure HdP where
  started : Bool
  meth : ByteArray
  tgt : Tgt
  minor : Int
  how : HowP
  whole : Bool
  status : Int
  bytes : Nat
  empty : Nat
  S : List FV
def newH : HdP := ⟨false, noB, noT, 0, noH, false, 0, 0, 0, []⟩
/-- What stands between blanks. -/
def wAcc : List UInt8 → List UInt8 → List (List UInt8)
  | cur, [] => [cur]
  | cur, c :: r => if c = 32 then cur :: wAcc [] r else wAcc (cur ++ [c]) r
def wordsL (l : List UInt8) : List (List UInt8) := wAcc [] l
def hvL : List UInt8 := [72, 84, 84, 80, 47]
/-- The status of a version; the minor one. -/
def verS (v : List UInt8) : Int :=
  if v.length = 8 ∧ v.take 5 = hvL ∧ isD (v.getD 5 0) = true ∧ v.getD 6 0 = 46 ∧ isD (v.getD 7 0) = true then (if v.getD 5 0 = 49 then 0 else 505) else 400
def verM (v : List UInt8) : Int := if v.getD 7 0 = 48 then 0 else 1
/-- The status of a start line. -/
def startS (l : List UInt8) : Int :=
  match wordsL l with
  | [a, b, v] => if tokL a = false then 400 else if verS v ≠ 0 then verS v else if (parT a b).2 = 9 then 414 else if (parT a b).2 ≠ 0 then 400 else 0
  | _ => 400
def wordN (l : List UInt8) (k : Nat) : List UInt8 := (wordsL l).getD k []
def startP (h : HdP) (l : List UInt8) : HdP :=
  if startS l ≠ 0 then { h with status := startS l }
  else { h with started := true, meth := ofL (wordN l 0), tgt := (parT (wordN l 0) (wordN l 1)).1, minor := verM (wordN l 2) }
def longS (h : HdP) : Int := if h.started = true then 431 else 414
/-- What a line does to a head that goes on, its bytes being counted. -/
def bodyP (h : HdP) (s : ByteArray) : HdP :=
  if h.started = false then
    (if s.size = 0 then { h with empty := h.empty + 1, status := if 4 < h.empty + 1 then 400 else 0 } else startP h s.data.toList)
  else if s.size = 0 then { h with how := (frm h.minor h.S).1, whole := decide ((frm h.minor h.S).2 = 0), status := (frm h.minor h.S).2 }
  else if (parR s).2 ≠ 0 then { h with status := 400 }
  else if 24 ≤ h.S.length then { h with status := 431 }
  else { h with S := h.S ++ [(parR s).1] }
def lineP (h : HdP) (s : ByteArray) : HdP :=
  if h.whole = true ∨ h.status ≠ 0 then h
  else if 256 < s.size then { h with status := longS h }
  else if 1024 < h.bytes + (s.size + 2) then { h with status := longS h }
  else bodyP { h with bytes := h.bytes + (s.size + 2) } s
def playP (h : HdP) (l : List ByteArray) : HdP := l.foldl lineP h

theorem lineP_end {h : HdP} (s : ByteArray) (he : h.whole = true ∨ h.status ≠ 0) : lineP h s = h := by unfold lineP; rw [if_pos he]
theorem lineP_long {h : HdP} {s : ByteArray} (h1 : h.whole = false) (h2 : h.status = 0) (h3 : 256 < s.size) : lineP h s = { h with status := longS h } := by
  unfold lineP; rw [if_neg (by simp [h1, h2]), if_pos h3]
theorem lineP_much {h : HdP} {s : ByteArray} (h1 : h.whole = false) (h2 : h.status = 0) (h3 : ¬ 256 < s.size) (h4 : 1024 < h.bytes + (s.size + 2)) : lineP h s = { h with status := longS h } := by
  unfold lineP; rw [if_neg (by simp [h1, h2]), if_neg h3, if_pos h4]
theorem lineP_go {h : HdP} {s : ByteArray} (h1 : h.whole = false) (h2 : h.status = 0) (h3 : ¬ 256 < s.size) (h4 : ¬ 1024 < h.bytes + (s.size + 2)) : lineP h s = bodyP { h with bytes := h.bytes + (s.size + 2) } s := by
  unfold lineP; rw [if_neg (by simp [h1, h2]), if_neg h3, if_neg h4]
theorem bodyP_skip {h : HdP} {s : ByteArray} (h1 : h.started = false) (h2 : s.size = 0) : bodyP h s = { h with empty := h.empty + 1, status := if 4 < h.empty + 1 then 400 else 0 } := by
  unfold bodyP; rw [if_pos h1, if_pos h2]
theorem bodyP_start {h : HdP} {s : ByteArray} (h1 : h.started = false) (h2 : s.size ≠ 0) : bodyP h s = startP h s.data.toList := by
  unfold bodyP; rw [if_pos h1, if_neg h2]
theorem bodyP_end {h : HdP} {s : ByteArray} (h1 : h.started = true) (h2 : s.size = 0) : bodyP h s = { h with how := (frm h.minor h.S).1, whole := decide ((frm h.minor h.S).2 = 0), status := (frm h.minor h.S).2 } := by
  unfold bodyP; rw [if_neg (by simp [h1]), if_pos h2]
theorem bodyP_bad {h : HdP} {s : ByteArray} (h1 : h.started = true) (h2 : s.size ≠ 0) (h3 : (parR s).2 ≠ 0) : bodyP h s = { h with status := 400 } := by
  unfold bodyP; rw [if_neg (by simp [h1]), if_neg h2, if_pos h3]
theorem bodyP_full {h : HdP} {s : ByteArray} (h1 : h.started = true) (h2 : s.size ≠ 0) (h3 : (parR s).2 = 0) (h4 : 24 ≤ h.S.length) : bodyP h s = { h with status := 431 } := by
  unfold bodyP; rw [if_neg (by simp [h1]), if_neg h2, if_neg (by simp [h3]), if_pos h4]
theorem bodyP_add {h : HdP} {s : ByteArray} (h1 : h.started = true) (h2 : s.size ≠ 0) (h3 : (parR s).2 = 0) (h4 : ¬ 24 ≤ h.S.length) : bodyP h s = { h with S := h.S ++ [(parR s).1] } := by
  unfold bodyP; rw [if_neg (by simp [h1]), if_neg h2, if_neg (by simp [h3]), if_neg h4]
theorem startP_bad {h : HdP} {l : List UInt8} (e : startS l ≠ 0) : startP h l = { h with status := startS l } := by unfold startP; rw [if_pos e]
theorem startP_yes {h : HdP} {l : List UInt8} (e : startS l = 0) : startP h l = { h with started := true, meth := ofL (wordN l 0), tgt := (parT (wordN l 0) (wordN l 1)).1, minor := verM (wordN l 2) } := by unfold startP; rw [if_neg (by simp [e])]
theorem startS_parts {l : List UInt8} (h : (wordsL l).length ≠ 3) : startS l = 400 := by
  unfold startS
  match hw : wordsL l with
  | [a, b, v] => rw [hw] at h; simp at h
  | [] => rfl
  | [_] => rfl
  | [_, _] => rfl
  | _ :: _ :: _ :: _ :: _ => rfl
theorem startS_three {l a b v : List UInt8} (h : wordsL l = [a, b, v]) : startS l = if tokL a = false then 400 else if verS v ≠ 0 then verS v else if (parT a b).2 = 9 then 414 else if (parT a b).2 ≠ 0 then 400 else 0 := by unfold startS; rw [h]
theorem playP_nil (h : HdP) : playP h [] = h := rfl
theorem playP_cons (h : HdP) (s : ByteArray) (l : List ByteArray) : playP h (s :: l) = playP (lineP h s) l := rfl
theorem playP_app (h : HdP) (a b : List ByteArray) : playP h (a ++ b) = playP (playP h a) b := List.foldl_append
theorem playP_snoc (h : HdP) (a : List ByteArray) (s : ByteArray) : playP h (a ++ [s]) = lineP (playP h a) s := by rw [playP_app]; rfl
theorem playP_end {h : HdP} (he : h.whole = true ∨ h.status ≠ 0) : ∀ l : List ByteArray, playP h l = h
  | [] => rfl
  | s :: l => by rw [playP_cons, lineP_end s he, playP_end he l]

/-! Splitting at blanks. -/
theorem wAcc_no : ∀ (l cur : List UInt8), (∀ x ∈ l, x ≠ 32) → wAcc cur l = [cur ++ l]
  | [], cur, _ => by simp [wAcc]
  | c :: r, cur, h => by
    rw [wAcc, if_neg (h c (by simp)), wAcc_no r _ (fun x hx => h x (by simp [hx]))]
    simp
theorem wAcc_at : ∀ (a b cur : List UInt8), (∀ x ∈ a, x ≠ 32) → wAcc cur (a ++ 32 :: b) = (cur ++ a) :: wordsL b
  | [], b, cur, _ => by simp [wAcc, wordsL]
  | c :: r, b, cur, h => by
    rw [List.cons_append, wAcc, if_neg (h c (by simp)), wAcc_at r b _ (fun x hx => h x (by simp [hx]))]
    simp
theorem words_no {l : List UInt8} (h : ∀ x ∈ l, x ≠ 32) : wordsL l = [l] := wAcc_no l [] h
theorem words_at {a b : List UInt8} (h : ∀ x ∈ a, x ≠ 32) : wordsL (a ++ 32 :: b) = a :: wordsL b := wAcc_at a b [] h
theorem wAcc_len : ∀ (l cur : List UInt8), (wAcc cur l).length = (l.filter fun c => decide (c = 32)).length + 1
  | [], cur => by simp [wAcc]
  | c :: r, cur => by
    rw [wAcc]
    by_cases h : c = 32
    · rw [if_pos h, List.length_cons, wAcc_len r [], List.filter_cons, if_pos (decide_eq_true h), List.length_cons]
    · rw [if_neg h, wAcc_len r _, List.filter_cons, if_neg (by simp [h])]
theorem wAcc_parts : ∀ (l cur : List UInt8), (∀ x ∈ cur, x ≠ 32) → ∀ p ∈ wAcc cur l, (∀ x ∈ p, x ≠ 32) ∧ p.length ≤ cur.length + l.length
  | [], cur, h, p, hp => by
    have : p = cur := by simpa [wAcc] using hp
    subst this
    exact ⟨h, by simp⟩
  | c :: r, cur, h, p, hp => by
    rw [wAcc] at hp
    by_cases hc : c = 32
    · rw [if_pos hc] at hp
      rcases List.mem_cons.1 hp with rfl | hp
      · exact ⟨h, by simp⟩
      · have := wAcc_parts r [] (fun x hx => nomatch hx) p hp
        exact ⟨this.1, by have := this.2; simp only [List.length_nil, List.length_cons] at *; omega⟩
    · rw [if_neg hc] at hp
      have := wAcc_parts r (cur ++ [c]) (fun x hx => by
        rcases List.mem_append.1 hx with hx | hx
        · exact h x hx
        · have : x = c := by simpa using hx
          subst this; exact hc) p hp
      exact ⟨this.1, by have := this.2; simp only [List.length_append, List.length_cons, List.length_nil] at *; omega⟩
theorem words_parts {l p : List UInt8} (h : p ∈ wordsL l) : (∀ x ∈ p, x ≠ 32) ∧ p.length ≤ l.length := by
  have := wAcc_parts l [] (fun x hx => nomatch hx) p h
  simpa using this
end Go.Proofs.YtgkhelbpccehcaaGreatDoor

/- Heads in memory, the code's and the document's, over one plain head. No program but for the types' numbers. -/
namespace Go.Proofs.YtgkhelbpccehcaaGreatDoor
open Go.RowKit
set_option linter.unusedVariables false
set_option linter.unusedSimpArgs false

/-! Plain bounds. -/
/-- What holds of every head that lines have made. -/
structure HdOk (h : HdP) : Prop where
  bytes : h.bytes ≤ 1024
  empty : h.empty ≤ 5
  low : h.whole = false → h.status = 0 → h.empty ≤ 4
  none : h.started = false → h.meth = noB ∧ h.tgt = noT ∧ h.minor = 0 ∧ h.S = []
  len : h.S.length ≤ 24
  small : ∀ p ∈ h.S, p.1.size ≤ 256 ∧ p.2.size ≤ 256
  minor : h.minor = 0 ∨ h.minor = 1
  meth : h.meth.size ≤ 1000
  host : h.tgt.host.size ≤ 1000
  path : h.tgt.path.size ≤ 1000
  query : h.tgt.query.size ≤ 1000
theorem sizes_le {l : List ByteArray} {n : Nat} (h : ∀ x ∈ l, x.size ≤ n) : sizes l ≤ l.length * (n + 1) := by
  induction l with
  | nil => simp [sizes]
  | cons x l ih =>
    have h1 := h x (by simp)
    have h2 := ih (fun y hy => h y (by simp [hy]))
    rw [List.length_cons, Nat.add_mul, Nat.one_mul]; unfold sizes; omega
theorem HdOk.lite {h : HdP} (o : HdOk h) : Lite h.S := by
  have h1 := sizes_le (l := h.S.map (·.2)) (n := 256) (fun x hx => by
    obtain ⟨p, hp, rfl⟩ := List.mem_map.1 hx
    exact (o.small p hp).2)
  have h2 := o.len
  have h3 := Nat.mul_le_mul_right (256 + 1) h2
  rw [List.length_map] at h1
  unfold Lite; omega
theorem newH_ok : HdOk newH := ⟨by decide, by decide, fun _ _ => by decide, fun _ => ⟨rfl, rfl, rfl, rfl⟩, by decide, (fun _ h => nomatch h), .inl rfl, by decide, by decide, by decide, by decide⟩

/-! The code's head. -/
def HdP.startCells (h : HdP) : Array Value := #[.string h.meth, .int .i64 h.tgt.form, .string h.tgt.host, .string h.tgt.path, .string h.tgt.query, .int .i64 h.minor]
/-- What the head says of its start. -/
def StA (w : World) (st : Value) (h : HdP) : Prop :=
  (h.started = false ∧ st = .pointer none) ∨ (h.started = true ∧ ∃ sb, st = ptr sb ∧ Row w sb 85 h.startCells)
def stB : Value → List Nat
  | .pointer (some a) => [a.block]
  | _ => []
def headCells (g : Nat) (st : Value) (e z : Int) (h : HdP) : Array Value :=
  #[ptr g, st, .int .i64 e, .int .i64 z, .int .i64 h.how.kind, .int .i64 h.how.length, .bool h.how.close, .bool h.how.expect, .bool h.whole, .int .i64 h.status]
/-- The code's head: its block, its fields' block and slice, its start; how many empty lines and bytes it counted. -/
structure HdC (hb g : Nat) (v st : Value) (w : World) (h : HdP) (e z : Int) : Prop where
  row : Row w hb 67 (headCells g st e z h)
  fld : Fld 93 w g v h.S
  sta : StA w st h
/-- Its blocks. -/
abbrev hbl (hb g : Nat) (v st : Value) : List Nat := hb :: g :: (stB st ++ v.ownBlock.toList)
section
variable {hb g : Nat} {v st : Value} {w w' : World} {h h' : HdP} {e z : Int} {F : List Nat}
theorem StA.mods (s : StA w st h) (hm : Mods F w w') (hF : ∀ k ∈ stB st, k ∉ F) : StA w' st h := by
  rcases s with s | ⟨h1, sb, rfl, hr⟩
  · exact .inl s
  · exact .inr ⟨h1, sb, rfl, hr.mods hm (hF sb (by simp [stB]))⟩
theorem StA.lt (s : StA w st h) : ∀ k ∈ stB st, k < w.heap.size := by
  rcases s with ⟨_, rfl⟩ | ⟨_, sb, rfl, hr⟩
  · intro k hk; cases hk
  · intro k hk
    have : k = sb := by simpa [stB] using hk
    subst this; exact hr.lt
theorem StA.of_eq (s : StA w st h) (h1 : h'.started = h.started) (h2 : h'.startCells = h.startCells) : StA w st h' := by
  rcases s with ⟨a, b⟩ | ⟨a, sb, b, hr⟩
  · exact .inl ⟨by rw [h1, a], b⟩
  · exact .inr ⟨by rw [h1, a], sb, b, by rw [h2]; exact hr⟩
theorem HdC.mods (c : HdC hb g v st w h e z) (hm : Mods F w w') (hF : ∀ k ∈ hbl hb g v st, k ∉ F) : HdC hb g v st w' h e z :=
  ⟨c.row.mods hm (hF hb (by simp)), c.fld.mods hm (hF g (by simp)) (fun k hk => hF k (by simp [hk])), c.sta.mods hm (fun k hk => hF k (by simp [hk]))⟩
theorem HdC.low (c : HdC hb g v st w h e z) (hm : Mods [] w w') : HdC hb g v st w' h e z := c.mods hm (by simp)
theorem HdC.lt (c : HdC hb g v st w h e z) : ∀ k ∈ hbl hb g v st, k < w.heap.size := by
  intro k hk
  simp only [List.mem_cons, List.mem_append] at hk
  rcases hk with rfl | rfl | hk | hk
  · exact c.row.lt
  · exact c.fld.row.lt
  · exact c.sta.lt k hk
  · exact c.fld.lt k hk
/-- The blocks of a head are five different ones. -/
theorem HdC.ne_g (c : HdC hb g v st w h e z) : g ≠ hb := Row.type_ne c.fld.row c.row (by decide)
theorem HdC.ne_v (c : HdC hb g v st w h e z) : ∀ k ∈ v.ownBlock.toList, k ≠ hb ∧ k ≠ g := fun k hk => ⟨own_ne_row c.fld.own c.row (by decide) k hk, c.fld.ne (by decide) k hk⟩
theorem HdC.ne_s (c : HdC hb g v st w h e z) : ∀ k ∈ stB st, k ≠ hb ∧ k ≠ g ∧ k ∉ v.ownBlock.toList := by
  intro k hk
  rcases c.sta with ⟨_, hs⟩ | ⟨_, sb, hs, hr⟩
  · rw [hs] at hk; cases hk
  · rw [hs] at hk
    have : k = sb := by simpa [stB] using hk
    subst this
    exact ⟨Row.type_ne hr c.row (by decide), Row.type_ne hr c.fld.row (by decide), fun hk => own_ne_row c.fld.own hr (by decide) k hk rfl⟩
/-- A cell of the head's own row is stored. -/
theorem HdC.set (c : HdC hb g v st w h e z) (i : Nat) (u : Value) {h' : HdP} {e' z' : Int} (he : (headCells g st e z h).setIfInBounds i u = headCells g st e' z' h') (hS : h'.S = h.S) (h1 : h'.started = h.started) (h2 : h'.startCells = h.startCells) :
    HdC hb g v st (w.setCell ⟨hb, i, none⟩ u) h' e' z' := by
  have hm : Mods [hb] w (w.setCell ⟨hb, i, none⟩ u) := (Mods.refl [hb] w).setCell (.inl (by simp)) u
  refine ⟨he ▸ c.row.set i u, ?_, (c.sta.mods hm (fun k hk => by simpa using (c.ne_s k hk).1)).of_eq h1 h2⟩
  rw [hS]
  exact c.fld.mods hm (by simpa using c.ne_g) (fun k hk => by simpa using (c.ne_v k hk).1)
/-- The start is laid. -/
theorem HdC.born (c : HdC hb g v st w h e z) {h' : HdP} (h1 : h'.started = true) (h2 : h'.S = h.S) (h3 : h'.how = h.how) (h4 : h'.whole = h.whole) (h5 : h'.status = h.status) :
    HdC hb g v (ptr w.heap.size) ((w.alloc (.cells h'.startCells 85)).setCell ⟨hb, 1, none⟩ (ptr w.heap.size)) h' e z := by
  have hm0 : Mods [] w (w.alloc (.cells h'.startCells 85)) := (Mods.refl [] w).alloc _
  have hr := Row.new w 85 h'.startCells
  have c1 := c.low hm0
  have hne : w.heap.size ≠ hb := Row.type_ne hr c1.row (by decide)
  generalize w.alloc (.cells h'.startCells 85) = W at *
  have hm : Mods [hb] W (W.setCell ⟨hb, 1, none⟩ (ptr w.heap.size)) := (Mods.refl [hb] W).setCell (.inl (by simp)) _
  refine ⟨?_, ?_, .inr ⟨h1, _, rfl, hr.mods hm (by simpa using hne)⟩⟩
  · have := c1.row.set 1 (ptr w.heap.size)
    unfold headCells at this ⊢
    rw [h3, h4, h5]
    exact this
  · rw [h2]
    exact c1.fld.mods hm (by simpa using c1.ne_g) (fun k hk => by simpa using (c1.ne_v k hk).1)
theorem HdC.facts (c : HdC hb g v st w h e z) :
    w.cell? ⟨hb, 0, none⟩ = some (ptr g) ∧ w.cell? ⟨hb, 1, none⟩ = some st ∧ w.cell? ⟨hb, 2, none⟩ = some (.int .i64 e) ∧ w.cell? ⟨hb, 3, none⟩ = some (.int .i64 z) ∧ w.cell? ⟨hb, 4, none⟩ = some (.int .i64 h.how.kind) ∧
    w.cell? ⟨hb, 5, none⟩ = some (.int .i64 h.how.length) ∧ w.cell? ⟨hb, 6, none⟩ = some (.bool h.how.close) ∧ w.cell? ⟨hb, 7, none⟩ = some (.bool h.how.expect) ∧ w.cell? ⟨hb, 8, none⟩ = some (.bool h.whole) ∧ w.cell? ⟨hb, 9, none⟩ = some (.int .i64 h.status) :=
  ⟨c.row.cell 0, c.row.cell 1, c.row.cell 2, c.row.cell 3, c.row.cell 4, c.row.cell 5, c.row.cell 6, c.row.cell 7, c.row.cell 8, c.row.cell 9⟩
end
/-- The code's head, as a law holds it: F are its blocks. -/
structure HdA (F : List Nat) (w : World) (hb : Nat) (h : HdP) : Prop where
  ex : ∃ g v st e z, HdC hb g v st w h e z ∧ F = hbl hb g v st ∧ (h.whole = false → h.status = 0 → e = (h.empty : Int) ∧ z = (h.bytes : Int))
  ok : HdOk h
theorem HdA.mods {F G : List Nat} {w w' : World} {hb : Nat} {h : HdP} (a : HdA F w hb h) (hm : Mods G w w') (hF : ∀ k ∈ F, k ∉ G) : HdA F w' hb h := by
  obtain ⟨g, v, st, e, z, c, rfl, hz⟩ := a.ex
  exact ⟨⟨g, v, st, e, z, c.mods hm hF, rfl, hz⟩, a.ok⟩
theorem HdA.low {F : List Nat} {w w' : World} {hb : Nat} {h : HdP} (a : HdA F w hb h) (hm : Mods [] w w') : HdA F w' hb h := a.mods hm (by simp)
theorem HdA.lt {F : List Nat} {w : World} {hb : Nat} {h : HdP} (a : HdA F w hb h) : ∀ k ∈ F, k < w.heap.size := by
  obtain ⟨g, v, st, e, z, c, rfl, hz⟩ := a.ex
  exact c.lt

/-! The document's head. -/
def refCells (z e : Int) (h : HdP) : List Value :=
  [.string h.meth, .int .i64 h.tgt.form, .string h.tgt.host, .string h.tgt.path, .string h.tgt.query, .int .i64 h.minor, .int .i64 h.how.kind, .int .i64 h.how.length, .bool h.how.close, .bool h.how.expect,
   .bool h.started, .bool h.whole, .int .i64 h.status, .int .i64 z, .int .i64 e]
/-- Its block and slice; how many bytes and empty lines it counted. -/
abbrev HdX (xb : Nat) (v : Value) (w : World) (h : HdP) (z e : Int) : Prop := FldE 74 (refCells z e h) w xb v h.S
section
variable {xb : Nat} {v : Value} {w w' : World} {h h' : HdP} {e z e' z' : Int}
theorem HdX.row' (c : HdX xb v w h z e) : Row w xb 74 (v :: refCells z e h).toArray := FldE.row c
theorem HdX.set (c : HdX xb v w h z e) (i : Nat) (u : Value) (he : (v :: refCells z e h).toArray.setIfInBounds i u = (v :: refCells z' e' h').toArray) (hS : h'.S = h.S) : HdX xb v (w.setCell ⟨xb, i, none⟩ u) h' z' e' := by
  have hm : Mods [xb] w (w.setCell ⟨xb, i, none⟩ u) := (Mods.refl [xb] w).setCell (.inl (by simp)) u
  have hr := c.row'.set i u
  rw [he] at hr
  refine ⟨hr, ?_, by rw [hS]; exact c.len, by rw [hS]; exact c.small⟩
  rw [hS]
  exact own_mods c.own hm (fun k hk => by simpa using own_ne_row c.own c.row' (by decide) k hk)
theorem HdX.facts (c : HdX xb v w h z e) :
    w.cell? ⟨xb, 0, none⟩ = some v ∧ w.cell? ⟨xb, 1, none⟩ = some (.string h.meth) ∧ w.cell? ⟨xb, 2, none⟩ = some (.int .i64 h.tgt.form) ∧ w.cell? ⟨xb, 3, none⟩ = some (.string h.tgt.host) ∧ w.cell? ⟨xb, 4, none⟩ = some (.string h.tgt.path) ∧ w.cell? ⟨xb, 5, none⟩ = some (.string h.tgt.query) ∧
    w.cell? ⟨xb, 6, none⟩ = some (.int .i64 h.minor) ∧ w.cell? ⟨xb, 7, none⟩ = some (.int .i64 h.how.kind) ∧ w.cell? ⟨xb, 8, none⟩ = some (.int .i64 h.how.length) ∧ w.cell? ⟨xb, 9, none⟩ = some (.bool h.how.close) ∧ w.cell? ⟨xb, 10, none⟩ = some (.bool h.how.expect) ∧
    w.cell? ⟨xb, 11, none⟩ = some (.bool h.started) ∧ w.cell? ⟨xb, 12, none⟩ = some (.bool h.whole) ∧ w.cell? ⟨xb, 13, none⟩ = some (.int .i64 h.status) ∧ w.cell? ⟨xb, 14, none⟩ = some (.int .i64 z) ∧ w.cell? ⟨xb, 15, none⟩ = some (.int .i64 e) :=
  ⟨c.row'.cell 0, c.row'.cell 1, c.row'.cell 2, c.row'.cell 3, c.row'.cell 4, c.row'.cell 5, c.row'.cell 6, c.row'.cell 7, c.row'.cell 8, c.row'.cell 9, c.row'.cell 10, c.row'.cell 11, c.row'.cell 12, c.row'.cell 13, c.row'.cell 14, c.row'.cell 15⟩
end
structure HdR (F : List Nat) (w : World) (xb : Nat) (h : HdP) : Prop where
  ex : ∃ v z e, HdX xb v w h z e ∧ F = xb :: v.ownBlock.toList ∧ (h.whole = false → h.status = 0 → e = (h.empty : Int) ∧ z = (h.bytes : Int))
  ok : HdOk h
theorem HdR.mods {F G : List Nat} {w w' : World} {xb : Nat} {h : HdP} (a : HdR F w xb h) (hm : Mods G w w') (hF : ∀ k ∈ F, k ∉ G) : HdR F w' xb h := by
  obtain ⟨v, z, e, c, rfl, hz⟩ := a.ex
  exact ⟨⟨v, z, e, FldE.mods c hm (hF xb (by simp)) (fun k hk => hF k (by simp [hk])), rfl, hz⟩, a.ok⟩
theorem HdR.low {F : List Nat} {w w' : World} {xb : Nat} {h : HdP} (a : HdR F w xb h) (hm : Mods [] w w') : HdR F w' xb h := a.mods hm (by simp)
theorem HdR.lt {F : List Nat} {w : World} {xb : Nat} {h : HdP} (a : HdR F w xb h) : ∀ k ∈ F, k < w.heap.size := by
  obtain ⟨v, z, e, c, rfl, hz⟩ := a.ex
  intro k hk
  rcases List.mem_cons.1 hk with rfl | hk
  · exact c.row'.lt
  · exact FldE.lt c k hk
end Go.Proofs.YtgkhelbpccehcaaGreatDoor

/- What chapter 13's laws ask of a head, in plain terms. No program but for what Parse answers. -/
namespace Go.Proofs.YtgkhelbpccehcaaGreatDoor
open Go.RowKit
set_option linter.unusedVariables false
set_option linter.unusedSimpArgs false

/-! Empty lines ahead. -/
theorem skip_line {h : HdP} (h1 : h.started = false) (h2 : h.whole = false) (h3 : h.status = 0) (h4 : h.bytes ≤ 1000) : lineP h noB = { h with bytes := h.bytes + 2, empty := h.empty + 1, status := if 4 < h.empty + 1 then 400 else 0 } := by
  rw [lineP_go h2 h3 (by decide) (by show ¬ 1024 < h.bytes + (0 + 2); omega)]
  exact bodyP_skip h1 rfl
theorem skips : ∀ k, k ≤ 4 → playP newH (List.replicate k noB) = { newH with bytes := 2 * k, empty := k }
  | 0, _ => rfl
  | k + 1, h => by
    rw [List.replicate_succ', playP_snoc, skips k (by omega), skip_line rfl rfl rfl (by show 2 * k ≤ 1000; omega)]
    show HdP.mk _ _ _ _ _ _ _ _ _ _ = _
    rw [if_neg (by show ¬ 4 < k + 1; omega)]
    rfl
theorem skips_bad {e : Nat} (h : 5 ≤ e) (l : List ByteArray) : (playP newH (List.replicate e noB ++ l)).whole = false := by
  have e1 : List.replicate e noB = List.replicate 4 noB ++ (noB :: List.replicate (e - 5) noB) := by
    rw [← List.replicate_succ, List.replicate_append_replicate]
    congr 1; omega
  rw [e1, List.append_assoc, playP_app, skips 4 (by omega), List.cons_append, playP_cons, skip_line rfl rfl rfl (by decide)]
  rw [playP_end (.inr (by decide))]
  rfl
/-- A head that is whole had no more empty lines ahead than may be. -/
theorem starts_law {e : Nat} {l : List ByteArray} (h : (playP newH (List.replicate e noB ++ l)).whole = true) : e ≤ 4 := by
  by_cases h5 : 5 ≤ e
  · rw [skips_bad h5] at h; cases h
  · omega

/-! A start line of a path. -/
def getB (minor : Bool) : ByteArray := ⟨#[71, 69, 84, 32, 47, 32, 72, 84, 84, 80, 47, 49, 46, if minor = true then 49 else 48]⟩
def rootT : Tgt := ⟨1, noB, ⟨#[47]⟩, noB⟩
def begH (minor : Bool) : HdP := ⟨true, ⟨#[71, 69, 84]⟩, rootT, if minor = true then 1 else 0, noH, false, 0, 16, 0, []⟩
theorem get_words (minor : Bool) : wordsL (getB minor).data.toList = [[71, 69, 84], [47], [72, 84, 84, 80, 47, 49, 46, if minor = true then 49 else 48]] := by cases minor <;> rfl
theorem get_par : (parT [71, 69, 84] [47]).2 = 0 ∧ (parT [71, 69, 84] [47]).1.form = 1 ∧ (parT [71, 69, 84] [47]).1.host = noB ∧ (parT [71, 69, 84] [47]).1.path = ⟨#[47]⟩ ∧ (parT [71, 69, 84] [47]).1.query = noB := by decide +kernel
theorem get_start (minor : Bool) : startS (getB minor).data.toList = 0 := by
  rw [startS_three (get_words minor), if_neg (by decide +kernel), if_neg, if_neg (by rw [get_par.1]; decide), if_neg (by rw [get_par.1]; decide)]
  cases minor <;> decide +kernel
theorem get_line (minor : Bool) : lineP newH (getB minor) = begH minor := by
  rw [lineP_go rfl rfl (by cases minor <;> decide) (by cases minor <;> decide), bodyP_start rfl (by cases minor <;> decide), startP_yes (get_start minor)]
  unfold wordN
  rw [get_words minor]
  obtain ⟨_, g1, g2, g3, g4⟩ := get_par
  have ht : (parT [71, 69, 84] [47]).1 = rootT := Tgt.ext' g1 g2 g3 g4
  show HdP.mk true _ (parT [71, 69, 84] [47]).1 _ noH false 0 _ 0 [] = _
  rw [ht]
  cases minor <;> rfl

/-! Lines that are fields. -/
theorem fld_line {h : HdP} {n v : ByteArray} (k : Nat) (h1 : h.started = true) (h2 : h.whole = false) (h3 : h.status = 0) (hok : okF (n, v) = true) (hs : (lineK n v k).size ≤ 256) (hb : h.bytes + ((lineK n v k).size + 2) ≤ 1024) (hl : h.S.length < 24) :
    lineP h (lineK n v k) = { h with bytes := h.bytes + ((lineK n v k).size + 2), S := h.S ++ [(n, v)] } := by
  have hp := lineK_par k hok hs
  rw [lineP_go h2 h3 (by omega) (by omega)]
  refine (bodyP_add (h := { h with bytes := h.bytes + ((lineK n v k).size + 2) }) h1 (by rw [lineK_size]; omega) (by rw [hp]) (by show ¬ 24 ≤ h.S.length; omega)).trans ?_
  rw [hp]
/-- Fields as lines. -/
def linesF (l : List FV) : List ByteArray := l.map fun p => lineK p.1 p.2 1
def bytesF (l : List FV) : Nat := (l.map fun p => p.1.size + p.2.size + 4).sum
theorem bytesF_cons (p : FV) (l : List FV) : bytesF (p :: l) = (p.1.size + p.2.size + 4) + bytesF l := by unfold bytesF; simp
theorem flds_play {h : HdP} : ∀ (l : List FV) (b : Nat) (S0 : List FV), h.started = true → h.whole = false → h.status = 0 → (∀ p ∈ l, okF p = true ∧ p.1.size + p.2.size ≤ 254) → S0.length + l.length ≤ 24 → b + bytesF l ≤ 1024 →
    playP { h with bytes := b, S := S0 } (linesF l) = { h with bytes := b + bytesF l, S := S0 ++ l }
  | [], b, S0, _, _, _, _, _, _ => by
    show HdP.mk _ _ _ _ _ _ _ _ _ _ = HdP.mk _ _ _ _ _ _ _ _ _ _
    rw [List.append_nil]; rfl
  | p :: l, b, S0, e1, e2, e3, h1, h2, h3 => by
    rw [bytesF_cons] at h3 ⊢
    rw [List.length_cons] at h2
    have hp := h1 p (by simp)
    have hz : (lineK p.1 p.2 1).size = p.1.size + p.2.size + 2 := by rw [lineK_size]; omega
    show playP (lineP { h with bytes := b, S := S0 } (lineK p.1 p.2 1)) (linesF l) = _
    rw [fld_line (h := { h with bytes := b, S := S0 }) 1 e1 e2 e3 hp.1 (by omega) (by show b + _ ≤ 1024; omega) (by show S0.length < 24; omega), hz]
    refine (flds_play l (b + (p.1.size + p.2.size + 2 + 2)) (S0 ++ [p]) e1 e2 e3 (fun q hq => h1 q (by simp [hq])) (by rw [List.length_append]; simp; omega) (by omega)).trans ?_
    show HdP.mk _ _ _ _ _ _ _ _ _ _ = HdP.mk _ _ _ _ _ _ _ _ _ _
    rw [List.append_assoc]
    congr 1
    omega
/-- The end of a head. -/
theorem end_line {h : HdP} (h1 : h.started = true) (h2 : h.whole = false) (h3 : h.status = 0) (hb : h.bytes + 2 ≤ 1024) :
    lineP h noB = { h with bytes := h.bytes + 2, how := (frm h.minor h.S).1, whole := decide ((frm h.minor h.S).2 = 0), status := (frm h.minor h.S).2 } := by
  rw [lineP_go h2 h3 (by decide) (by show ¬ 1024 < h.bytes + (0 + 2); omega)]
  exact bodyP_end h1 rfl
theorem end_much {h : HdP} (h1 : h.started = true) (h2 : h.whole = false) (h3 : h.status = 0) (hb : 1024 < h.bytes + 2) : lineP h noB = { h with status := 431 } := by
  rw [lineP_much h2 h3 (by decide) (by show 1024 < h.bytes + (0 + 2); omega)]
  unfold longS; rw [if_pos h1]
/-- Fields, written as lines, are the head's; it goes on as they say. -/
theorem fields_law (minor : Bool) (l : List FV) (h1 : ∀ p ∈ l, okF p = true ∧ p.1.size + p.2.size ≤ 254) (h2 : l.length ≤ 24) (h3 : 18 + bytesF l ≤ 1024) :
    playP newH ([getB minor] ++ linesF l ++ [noB]) = { begH minor with bytes := 18 + bytesF l, S := l, how := (frm (if minor = true then 1 else 0) l).1, whole := decide ((frm (if minor = true then 1 else 0) l).2 = 0), status := (frm (if minor = true then 1 else 0) l).2 } := by
  rw [playP_snoc, playP_app]
  show lineP (playP (lineP newH (getB minor)) (linesF l)) noB = _
  rw [get_line]
  have hf := flds_play (h := begH minor) l 16 [] rfl rfl rfl h1 (by simpa using h2) (by omega)
  rw [List.nil_append] at hf
  rw [show playP (begH minor) (linesF l) = { begH minor with bytes := 16 + bytesF l, S := l } from hf, end_line rfl rfl rfl (by show 16 + bytesF l + 2 ≤ 1024; omega)]
  show HdP.mk _ _ _ _ _ _ _ _ _ _ = HdP.mk _ _ _ _ _ _ _ _ _ _
  congr 1
  show 16 + bytesF l + 2 = 18 + bytesF l
  omega
end Go.Proofs.YtgkhelbpccehcaaGreatDoor

/- Up to so many fields, and bytes, are taken, and no more: chapter 13's law in plain terms. No program but for what Parse answers. -/
namespace Go.Proofs.YtgkhelbpccehcaaGreatDoor
open Go.RowKit
set_option linter.unusedVariables false
set_option linter.unusedSimpArgs false

theorem trim_solid {l : List UInt8} (h : ∀ x ∈ l, blk x = false) : trimL l = l := by
  by_cases h0 : l = []
  · subst h0; rfl
  rw [trimL_eq]
  have h1 : tlL l = l := by
    cases l with
    | nil => rfl
    | cons c r => exact tl_cons_no (h c (by simp))
  rw [h1]
  have e := List.dropLast_concat_getLast h0
  rw [← e]
  exact trL_snoc_no _ _ (h _ (List.getLast_mem h0))
def aN : ByteArray := ⟨#[97]⟩
def bsB (k : Nat) : ByteArray := ⟨Array.replicate k 98⟩
theorem bsB_size (k : Nat) : (bsB k).size = k := by show (Array.replicate k (98 : UInt8)).size = k; simp
theorem bsB_list (k : Nat) : (bsB k).data.toList = List.replicate k 98 := by simp [bsB]
theorem bs_ok (k : Nat) : okF (aN, bsB k) = true := by
  refine okF_yes (show tokL aN.data.toList = true by decide +kernel) ?_ ?_
  · unfold valL
    rw [bsB_list]
    exact List.all_eq_true.2 fun x hx => by rw [(List.mem_replicate.1 hx).2]; decide
  · show (⟨(trimL (bsB k).data.toList).toArray⟩ : ByteArray) = bsB k
    rw [bsB_list, trim_solid (fun x hx => by rw [(List.mem_replicate.1 hx).2]; decide +kernel), ← bsB_list]
/-- The line, of so many bytes. -/
def manyB (k : Nat) : ByteArray := lineK aN (bsB k) 0
theorem manyB_size (k : Nat) : (manyB k).size = k + 2 := by unfold manyB; rw [lineK_size, bsB_size]; show 1 + (1 + 0) + k = k + 2; omega
def manyS (k i : Nat) : List FV := oneN nHost [aN] ++ oneN aN (List.replicate i (bsB k))
theorem manyS_len (k i : Nat) : (manyS k i).length = i + 1 := by unfold manyS oneN; simp [Nat.add_comm]
theorem manyS_snoc (k i : Nat) : manyS k (i + 1) = manyS k i ++ [(aN, bsB k)] := by unfold manyS oneN; rw [List.replicate_succ', List.map_append, List.append_assoc]; rfl
def manyH (k i : Nat) : HdP := { begH true with bytes := 25 + i * (k + 4), S := manyS k i }
/-- The line behind i of them is refused. -/
def badI (k i : Nat) : Prop := 256 < k + 2 ∨ 1024 < 25 + (i + 1) * (k + 4) ∨ 24 < i + 2
instance (k i : Nat) : Decidable (badI k i) := by unfold badI; infer_instance
theorem many_go {k i : Nat} (h : ¬ badI k i) : lineP (manyH k i) (manyB k) = manyH k (i + 1) := by
  unfold badI at h
  have hz := manyB_size k
  have e : (i + 1) * (k + 4) = i * (k + 4) + (k + 4) := Nat.succ_mul _ _
  have h1 : ¬ 256 < k + 2 := fun x => h (.inl x)
  have h2 : ¬ 1024 < 25 + (i + 1) * (k + 4) := fun x => h (.inr (.inl x))
  have h3 : ¬ 24 < i + 2 := fun x => h (.inr (.inr x))
  unfold manyB at hz ⊢
  rw [fld_line 0 rfl rfl rfl (bs_ok k) (by omega) (by show 25 + i * (k + 4) + _ ≤ 1024; omega) (by show (manyS k i).length < 24; rw [manyS_len]; omega), hz]
  show HdP.mk _ _ _ _ _ _ _ _ _ _ = HdP.mk _ _ _ _ _ _ _ _ _ _
  rw [manyS_snoc]
  show HdP.mk _ _ _ _ _ _ _ (25 + i * (k + 4) + (k + 2 + 2)) _ _ = HdP.mk _ _ _ _ _ _ _ (25 + (i + 1) * (k + 4)) _ _
  rw [show 25 + i * (k + 4) + (k + 2 + 2) = 25 + (i + 1) * (k + 4) by omega]
  rfl
theorem many_no {k i : Nat} (h : badI k i) : (lineP (manyH k i) (manyB k)).status = 431 ∧ (lineP (manyH k i) (manyB k)).whole = false := by
  unfold badI at h
  have hz := manyB_size k
  have e : (i + 1) * (k + 4) = i * (k + 4) + (k + 4) := Nat.succ_mul _ _
  by_cases h1 : 256 < k + 2
  · rw [lineP_long rfl rfl (by omega)]; exact ⟨rfl, rfl⟩
  by_cases h2 : 1024 < 25 + (i + 1) * (k + 4)
  · rw [lineP_much rfl rfl (by omega) (by show 1024 < 25 + i * (k + 4) + _; omega)]; exact ⟨rfl, rfl⟩
  have h3 : 24 < i + 2 := by rcases h with h | h | h; exact absurd h h1; exact absurd h h2; exact h
  have hp := lineK_par 0 (bs_ok k) (by rw [show (lineK aN (bsB k) 0).size = k + 2 from hz]; omega)
  rw [lineP_go rfl rfl (by omega) (by show ¬ 1024 < 25 + i * (k + 4) + _; omega)]
  have hf := bodyP_full (h := { manyH k i with bytes := (manyH k i).bytes + ((manyB k).size + 2) }) (s := manyB k) rfl (by omega) (by show (parR (lineK aN (bsB k) 0)).2 = 0; rw [hp]) (by show 24 ≤ (manyS k i).length; rw [manyS_len]; omega)
  rw [hf]
  exact ⟨rfl, rfl⟩
/-- What the law reckons. -/
def wantI (k : Nat) : Nat → Int
  | 0 => 0
  | i + 1 => if wantI k i = 0 ∧ badI k i then 431 else wantI k i
def wantZ (k n : Nat) : Int := if 1024 < 25 + n * (k + 4) + 2 then 431 else wantI k n
theorem wantI_or (k : Nat) : ∀ i, wantI k i = 0 ∨ wantI k i = 431
  | 0 => .inl rfl
  | i + 1 => by
    unfold wantI
    split
    · exact .inr rfl
    · exact wantI_or k i
theorem many_play (k : Nat) : ∀ n, (wantI k n = 0 → playP (manyH k 0) (List.replicate n (manyB k)) = manyH k n) ∧
    (wantI k n ≠ 0 → (playP (manyH k 0) (List.replicate n (manyB k))).status = 431 ∧ (playP (manyH k 0) (List.replicate n (manyB k))).whole = false)
  | 0 => ⟨fun _ => rfl, fun h => absurd rfl h⟩
  | n + 1 => by
    have ih := many_play k n
    rw [List.replicate_succ', playP_snoc]
    unfold wantI
    by_cases h0 : wantI k n = 0
    · rw [ih.1 h0]
      by_cases hb : badI k n
      · rw [if_pos ⟨h0, hb⟩]
        exact ⟨fun h => absurd h (by decide), fun _ => many_no hb⟩
      · rw [if_neg (fun h => hb h.2)]
        exact ⟨fun _ => many_go hb, fun h => absurd h0 h⟩
    · rw [if_neg (fun h => h0 h.1)]
      obtain ⟨h1, h2⟩ := ih.2 h0
      rw [lineP_end _ (.inr (by rw [h1]; decide))]
      exact ⟨fun h => absurd h h0, fun _ => ⟨h1, h2⟩⟩
theorem a_same : sameL aN nHost = false ∧ sameL aN nTE = false ∧ sameL aN nCL = false ∧ sameL aN nCon = false ∧ sameL aN nExp = false := by decide +kernel
theorem many_frm (k n : Nat) : frm 1 (manyS k n) = (⟨0, 0, false, false⟩, 0) := by
  obtain ⟨s1, s2, s3, s4, s5⟩ := n_same
  obtain ⟨t1, t2, t3, t4, t5⟩ := a_same
  have v1 : valsF (manyS k n) nHost = [aN] := by unfold manyS; rw [vals_app, vals_one, vals_one, s1, t1]; simp
  have v2 : valsF (manyS k n) nTE = [] := by unfold manyS; rw [vals_app, vals_one, vals_one, s2, t2]; simp
  have v3 : valsF (manyS k n) nCL = [] := by unfold manyS; rw [vals_app, vals_one, vals_one, s3, t3]; simp
  have v4 : valsF (manyS k n) nCon = [] := by unfold manyS; rw [vals_app, vals_one, vals_one, s4, t4]; simp
  have v5 : valsF (manyS k n) nExp = [] := by unfold manyS; rw [vals_app, vals_one, vals_one, s5, t5]; simp
  have hb : bodyS 1 (manyS k n) = (0, 0, 0) := by unfold bodyS; rw [v2, v3]; simp
  show frmN 1 (manyS k n) = _
  rw [frm_plain (by rw [v1]; exact host_one ⟨0, by decide⟩) (by rw [hb]) (by rw [v4, toks_nil]; simp) (by rw [v5]; simp), hb, v4, close_nil]
  rfl
theorem many_beg (k : Nat) : lineP (begH true) (lineK nHost aN 1) = manyH k 0 := by
  have hz : (lineK nHost aN 1).size = 7 := by rw [lineK_size]; rfl
  rw [fld_line 1 rfl rfl rfl (by decide +kernel) (by omega) (by show 16 + _ ≤ 1024; omega) (by decide), hz]
  show HdP.mk _ _ _ _ _ _ _ (16 + (7 + 2)) _ _ = HdP.mk _ _ _ _ _ _ _ (25 + 0 * (k + 4)) _ _
  rw [Nat.zero_mul]
  rfl
theorem many_law (k n : Nat) : (playP newH ([getB true, lineK nHost aN 1] ++ List.replicate n (manyB k) ++ [noB])).status = wantZ k n ∧
    (playP newH ([getB true, lineK nHost aN 1] ++ List.replicate n (manyB k) ++ [noB])).whole = decide (wantZ k n = 0) := by
  rw [playP_snoc, playP_app]
  rw [show playP newH [getB true, lineK nHost aN 1] = manyH k 0 by rw [playP_cons, get_line, playP_cons, many_beg k]; rfl]
  obtain ⟨p1, p2⟩ := many_play k n
  unfold wantZ
  by_cases h0 : wantI k n = 0
  · rw [p1 h0]
    by_cases hb : 1024 < 25 + n * (k + 4) + 2
    · rw [if_pos hb, end_much rfl rfl rfl (by show 1024 < 25 + n * (k + 4) + 2; exact hb)]
      exact ⟨rfl, rfl⟩
    · rw [if_neg hb, end_line rfl rfl rfl (by show 25 + n * (k + 4) + 2 ≤ 1024; omega), h0]
      show (frm 1 (manyS k n)).2 = 0 ∧ decide ((frm 1 (manyS k n)).2 = 0) = _
      rw [many_frm]
      exact ⟨rfl, rfl⟩
  · obtain ⟨q1, q2⟩ := p2 h0
    rw [lineP_end _ (.inr (by rw [q1]; decide)), q1, q2]
    have h4 : wantI k n = 431 := by rcases wantI_or k n with h | h; exact absurd h h0; exact h
    by_cases hb : 1024 < 25 + n * (k + 4) + 2
    · rw [if_pos hb]; exact ⟨rfl, rfl⟩
    · rw [if_neg hb, h4]; exact ⟨rfl, rfl⟩
/-! The head that the laws know. -/
theorem kn_play : playP newH [getB true, lineK nHost aN 1, noB] = { begH true with bytes := 27, S := [(nHost, aN)], whole := true } := by
  have h := fields_law true [(nHost, aN)] (fun p hp => by
    have : p = (nHost, aN) := by simpa using hp
    subst this
    exact ⟨by decide +kernel, by decide⟩) (by decide) (by decide)
  have hf := many_frm 0 0
  rw [show manyS 0 0 = [(nHost, aN)] from rfl] at hf
  refine h.trans ?_
  show HdP.mk _ _ _ _ (frm 1 [(nHost, aN)]).1 (decide ((frm 1 [(nHost, aN)]).2 = 0)) (frm 1 [(nHost, aN)]).2 _ _ _ = _
  rw [hf]
  rfl
theorem kn_has : hasF [(nHost, aN)] ⟨#[104, 111, 115, 116]⟩ = true := by decide +kernel
end Go.Proofs.YtgkhelbpccehcaaGreatDoor

/- Contract of the library's Split at one byte at this program. Conditions: as it says. -/
namespace Go.Proofs.YtgkhelbpccehcaaGreatDoor
open Go.Shelf
def l146_ren : Go.Shelf.Ren := ⟨fun | 138 => 143 | 143 => 144 | 146 => 105 | 195 => 175 | 197 => 176 | 217 => 179 | 218 => 177 | 219 => 178 | 221 => 125 | 224 => 204 | 225 => 203 | 260 => 202 | 266 => 206 | 267 => 205 | 268 => 142 | 314 => 217 | n => n, fun | 0 => 0 | 3 => 3 | 4 => 4 | 5 => 5 | 9 => 9 | 21 => 21 | 31 => 112 | 46 => 162 | 51 => 211 | 105 => 182 | 119 => 207 | 138 => 209 | 139 => 210 | 146 => 212 | n => n, fun | 1 => 0 | 3 => 1 | 4 => 2 | n => n⟩
theorem l146 : Go.Proofs.Lays.n146 Tryz.prog l146_ren := {
  mixed := by kernel_rfl
  f138 := Tryz.func143.trans (congrArg some (by kernel_rfl))
  f143 := Tryz.func144.trans (congrArg some (by kernel_rfl))
  f146 := Tryz.func105.trans (congrArg some (by kernel_rfl))
  f195 := Tryz.func175.trans (congrArg some (by kernel_rfl))
  f197 := Tryz.func176.trans (congrArg some (by kernel_rfl))
  f217 := Tryz.func179.trans (congrArg some (by kernel_rfl))
  f218 := Tryz.func177.trans (congrArg some (by kernel_rfl))
  f219 := Tryz.func178.trans (congrArg some (by kernel_rfl))
  f221 := Tryz.func125.trans (congrArg some (by kernel_rfl))
  f224 := Tryz.func204.trans (congrArg some (by kernel_rfl))
  f225 := Tryz.func203.trans (congrArg some (by kernel_rfl))
  f260 := Tryz.func202.trans (congrArg some (by kernel_rfl))
  f266 := Tryz.func206.trans (congrArg some (by kernel_rfl))
  f267 := Tryz.func205.trans (congrArg some (by kernel_rfl))
  f268 := Tryz.func142.trans (congrArg some (by kernel_rfl))
  f314 := Tryz.func217.trans (congrArg some (by kernel_rfl))
  t0 := Tryz.underlying0
  a0 := Tryz.isAgg0
  z0 := Tryz.sizeOf0
  v0 := Tryz.zeroValue0
  t3 := Tryz.underlying3
  a3 := Tryz.isAgg3
  z3 := Tryz.sizeOf3
  v3 := Tryz.zeroValue3
  t4 := Tryz.underlying4
  a4 := Tryz.isAgg4
  z4 := Tryz.sizeOf4
  v4 := Tryz.zeroValue4
  t5 := Tryz.underlying5
  a5 := Tryz.isAgg5
  z5 := Tryz.sizeOf5
  v5 := Tryz.zeroValue5
  t9 := Tryz.underlying9
  a9 := Tryz.isAgg9
  z9 := Tryz.sizeOf9
  v9 := Tryz.zeroValue9
  t21 := Tryz.underlying21
  a21 := Tryz.isAgg21
  z21 := Tryz.sizeOf21
  v21 := Tryz.zeroValue21
  t31 := Tryz.underlying112
  a31 := Tryz.isAgg112
  z31 := Tryz.sizeOf112
  v31 := Tryz.zeroValue112
  t46 := Tryz.underlying162
  a46 := Tryz.isAgg162
  z46 := Tryz.sizeOf162
  v46 := Tryz.zeroValue162
  t51 := Tryz.underlying211
  a51 := Tryz.isAgg211
  z51 := Tryz.sizeOf211
  v51 := Tryz.zeroValue211
  t105 := Tryz.underlying182
  a105 := Tryz.isAgg182
  z105 := Tryz.sizeOf182
  v105 := Tryz.zeroValue182
  t119 := Tryz.underlying207
  a119 := Tryz.isAgg207
  z119 := Tryz.sizeOf207
  t138 := Tryz.underlying209
  a138 := Tryz.isAgg209
  z138 := Tryz.sizeOf209
  v138 := Tryz.zeroValue209
  t139 := Tryz.underlying210
  a139 := Tryz.isAgg210
  z139 := Tryz.sizeOf210
  v139 := Tryz.zeroValue210
  t146 := Tryz.underlying212
  a146 := Tryz.isAgg212
  z146 := Tryz.sizeOf212
  v146 := Tryz.zeroValue212
  g1 := by kernel_rfl
  g3 := by kernel_rfl
  g4 := by kernel_rfl }

open Go.RowKit
theorem index_at (a b : List UInt8) (c : UInt8) (h : ∀ x ∈ a, x ≠ c) : Lib.indexByte (a ++ c :: b) c = (a.length : Int) := by
  induction a with
  | nil => simp [Lib.indexByte]
  | cons x a ih =>
    have h1 := ih (fun y hy => h y (by simp [hy]))
    have hx : x ≠ c := h x (by simp)
    simp only [List.cons_append, Lib.indexByte, h1]
    simp [hx]
    try omega
theorem split_list : ∀ (k : Nat) (l : List UInt8), l.count 32 = k → Lib.splitK [32] 0 k l = wordsL l
  | 0, l, h => by
    have hn : ∀ x ∈ l, x ≠ 32 := fun x hx e => by subst e; exact absurd hx (List.count_eq_zero.1 h)
    rw [words_no hn]; rfl
  | k + 1, l, h => by
    have hm : (32 : UInt8) ∈ l := List.count_pos_iff.1 (by omega)
    obtain ⟨a, b, rfl, ha⟩ := List.eq_append_cons_of_mem hm
    have hn : ∀ x ∈ a, x ≠ 32 := fun x hx e => by subst e; exact ha hx
    have hi : Lib.index (a ++ 32 :: b) [32] = (a.length : Int) := by rw [Lib.index_one, index_at a b 32 hn]
    have hc : b.count 32 = k := by
      rw [List.count_append, List.count_cons_self, List.count_eq_zero.2 ha] at h; omega
    rw [words_at hn, Lib.splitK, hi]
    have hne : ((a.length : Int) == -1) = false := by rw [beq_eq_false_iff_ne]; omega
    rw [if_neg (by rw [hne]; simp)]
    congr 1
    · simp
    · rw [← split_list k b hc]; simp
theorem split_words (s : ByteArray) : Lib.splitB ⟨#[32]⟩ 0 (Lib.countB s ⟨#[32]⟩) s = (wordsL s.data.toList).map ofL := by
  have h := Lib.splitB_data ⟨#[32]⟩ 0 (Lib.countB s ⟨#[32]⟩) s
  have hc : Lib.countB s ⟨#[32]⟩ = s.data.toList.count 32 := Lib.count_one 32 _
  rw [hc] at h ⊢
  rw [show (⟨#[32]⟩ : ByteArray).data.toList = [32] from rfl, split_list _ _ rfl] at h
  rw [← h, List.map_map]
  conv => lhs; rw [← List.map_id (Lib.splitB _ _ _ _)]
  refine List.map_congr_left fun x _ => ?_
  exact (ofL_data x).symm
set_option maxRecDepth 10000 in
theorem split_shelf (s : ByteArray) (w : World) (hs : s.size ≤ 1000000) :
    Calls Tryz.prog 105 #[.string s, .string ⟨#[32]⟩] w fun e w' => e = .returned (.slice (some ⟨w.heap.size, 0, none⟩) (wordsL s.data.toList).length (wordsL s.data.toList).length) ∧
      w' = w.alloc (.cells (((wordsL s.data.toList).map ofL).map Value.string).toArray 9) := by
  have hle := Lib.countB_le ⟨#[32]⟩ (by decide) s.size s (Nat.le_refl _)
  have hlen := Lib.splitB_all ⟨#[32]⟩ (by decide) 0 _ s rfl
  have c := Any.strings_genSplit_core (P := Tryz.prog) (ρ := l146_ren) { l146 with } infoSt s ⟨#[32]⟩ 0 (-1) (Lib.countB s ⟨#[32]⟩ + 1) w (by omega) (by decide) (by decide)
    (fun x c hx => (Any.strings_Index_one { l146 with } x 32 _).mono fun e w' ⟨h1, h2⟩ => ⟨by rw [h1]; show _ = Ending.returned (.int .i64 (Lib.index x.data.toList [32])); rw [Lib.index_one], h2⟩)
    ((Any.strings_Count_one { l146 with } s 32 w).mono fun e w' ⟨h1, h2⟩ => ⟨by rw [h1]; show _ = Ending.returned (.int .i64 ((Lib.count s.data.toList [32] : Nat) : Int)); rw [Lib.count_one]; rfl, h2⟩)
    (by decide) (by decide) (by rw [if_pos (by decide)]; omega)
  rw [Nat.add_sub_cancel] at c
  have e2 : Lib.cellsOf (Lib.splitB ⟨#[32]⟩ 0 (Lib.countB s ⟨#[32]⟩) s) (Lib.countB s ⟨#[32]⟩ + 1) = ((Lib.splitB ⟨#[32]⟩ 0 (Lib.countB s ⟨#[32]⟩) s).map Value.string).toArray := by rw [← hlen]; exact Lib.cellsOf_full _
  rw [e2, ← hlen, split_words, List.length_map] at c
  have HC := Lib.hid c
  clear c e2 hlen hle
  go_enter Tryz.func105, Tryz.ntmps105
  go_wp2_with (go_at_call 125; refine HC.out.mono ?_; rintro e w' ⟨rfl, hw⟩; rw [hw])
  go_ret
  exact ⟨rfl, by rw [List.map_map]; rfl⟩
end Go.Proofs.YtgkhelbpccehcaaGreatDoor

/- isDigit, minorOf and pass of the code's head; digit of the document. Conditions: texts of at most a million bytes. -/
namespace Go.Proofs.YtgkhelbpccehcaaGreatDoor
open Go.RowKit
set_option linter.unusedVariables false
set_option linter.unusedSimpArgs false

set_option maxRecDepth 10000 in
theorem digit_h (c : UInt8) (w : World) : Calls Tryz.prog 128 #[.int .u8 (c.toNat : Int)] w fun e w' => e = .returned (.bool (isD c)) ∧ w = w' := by
  have hb : (c.toNat : Int) < 256 := by have := c.toNat_lt; omega
  have h0 : (0 : Int) ≤ (c.toNat : Int) := by omega
  rcases (by omega : (c.toNat : Int) < 48 ∨ (48 ≤ (c.toNat : Int) ∧ (c.toNat : Int) ≤ 57) ∨ 57 < (c.toNat : Int)) with h | ⟨h, h2⟩ | h
  all_goals
    first
      | (have HA := Lib.hid (show isD c = false by unfold isD; simp; omega)
         go_enter Tryz.func128, Tryz.ntmps128
         go_wp2
         go_ret
         exact ⟨ret_bool (by rw [HA.out]; try (simp; omega)), rfl⟩)
      | (have HA := Lib.hid (show isD c = true by unfold isD; simp; omega)
         go_enter Tryz.func128, Tryz.ntmps128
         go_wp2
         go_ret
         exact ⟨ret_bool (by rw [HA.out]; try (simp; omega)), rfl⟩)
set_option maxRecDepth 10000 in
theorem digit_x (c : UInt8) (w : World) : Calls Tryz.prog 71 #[.int .u8 (c.toNat : Int)] w fun e w' => e = .returned (.bool (isD c)) ∧ w = w' := by
  have hb : (c.toNat : Int) < 256 := by have := c.toNat_lt; omega
  have h0 : (0 : Int) ≤ (c.toNat : Int) := by omega
  rcases (by omega : (c.toNat : Int) < 48 ∨ (48 ≤ (c.toNat : Int) ∧ (c.toNat : Int) ≤ 57) ∨ 57 < (c.toNat : Int)) with h | ⟨h, h2⟩ | h
  all_goals
    first
      | (have HA := Lib.hid (show isD c = false by unfold isD; simp; omega)
         go_enter Tryz.func71, Tryz.ntmps71
         go_wp2
         go_ret
         exact ⟨ret_bool (by rw [HA.out]; try (simp; omega)), rfl⟩)
      | (have HA := Lib.hid (show isD c = true by unfold isD; simp; omega)
         go_enter Tryz.func71, Tryz.ntmps71
         go_wp2
         go_ret
         exact ⟨ret_bool (by rw [HA.out]; try (simp; omega)), rfl⟩)

/-! A version. -/
def hvB : ByteArray := ⟨#[72, 84, 84, 80, 47]⟩
theorem verS_no {v : List UInt8} (h : hvL.isPrefixOf v = false) : verS v = 400 := by
  unfold verS
  rw [if_neg]
  rintro ⟨_, h2, _⟩
  have : hvL <+: v := ⟨v.drop 5, by rw [← h2]; exact List.take_append_drop 5 v⟩
  rw [List.isPrefixOf_iff_prefix.2 this] at h
  cases h
theorem verS_len {r : List UInt8} (h : r.length ≠ 3) : verS (hvL ++ r) = 400 := by
  unfold verS
  rw [if_neg]
  rintro ⟨h1, _⟩
  rw [List.length_append] at h1
  exact h (by have : hvL.length = 5 := rfl; omega)
theorem verS_three (a b c : UInt8) : verS (hvL ++ [a, b, c]) = if isD a = true ∧ b = 46 ∧ isD c = true then (if a = 49 then 0 else 505) else 400 := by
  unfold verS
  have h1 : (hvL ++ [a, b, c]).length = 8 := rfl
  have h2 : (hvL ++ [a, b, c]).take 5 = hvL := rfl
  have h3 : (hvL ++ [a, b, c]).getD 5 0 = a := rfl
  have h4 : (hvL ++ [a, b, c]).getD 6 0 = b := rfl
  have h5 : (hvL ++ [a, b, c]).getD 7 0 = c := rfl
  rw [h1, h2, h3, h4, h5]
  simp
theorem verM_three (a b c : UInt8) : verM (hvL ++ [a, b, c]) = if c = 48 then 0 else 1 := rfl
theorem ver5 (a b c : UInt8) : verS (hvL ++ [a, b, c]) = if (isD a && decide (b = 46) && isD c) = true then (if decide (a = 49) = true then 0 else 505) else 400 := by
  rw [verS_three]
  simp only [Bool.and_eq_true, decide_eq_true_eq, and_assoc]
/-- What minorOf answers of the minor one. -/
def minS (v : List UInt8) : Int := if verS v = 0 then verM v else 0
theorem byte_eq (c : UInt8) (k : Nat) (hk : k < 256) : ((c.toNat : Int) == (k : Int)) = decide (c = UInt8.ofNat k) := by
  rw [Bool.eq_iff_iff]
  simp only [beq_iff_eq, decide_eq_true_eq]
  constructor
  · intro h
    have : c.toNat = k := by omega
    rw [← this]; exact (UInt8.ofNat_toNat).symm
  · intro h
    subst h
    simp; omega
theorem three_of {α : Type} {r : List α} (h : r.length = 3) : ∃ a b c, r = [a, b, c] := by
  match r, h with
  | [a, b, c], _ => exact ⟨a, b, c, rfl⟩

set_option maxRecDepth 10000 in
set_option maxHeartbeats 1000000 in
theorem minor_a (s : ByteArray) (hs : s.size ≤ 1000000) (w : World) : Calls Tryz.prog 107 #[.string s] w fun e w' => e = .returned (.tuple #[.int .i64 (minS s.data.toList), .int .i64 (verS s.data.toList)]) ∧ w = w' := by
  have hc := cut_shelf s ⟨#[72, 84, 84, 80, 47]⟩ w
  cases hp : hvL.isPrefixOf s.data.toList with
  | false =>
    have hv := verS_no hp
    have HV := Lib.hid hv
    have HM := Lib.hid (show minS s.data.toList = 0 by unfold minS; rw [hv]; rfl)
    rw [show Lib.hasPrefix s.data.toList (⟨#[72, 84, 84, 80, 47]⟩ : ByteArray).data.toList = false from hp] at hc
    obtain ⟨t, ht⟩ : ∃ t : ByteArray, t = ⟨(Lib.trimPrefix s.data.toList (⟨#[72, 84, 84, 80, 47]⟩ : ByteArray).data.toList).toArray⟩ := ⟨_, rfl⟩
    rw [← ht] at hc
    have HC2 := Lib.hid hc
    clear ht hc
    clear hv hp
    go_enter Tryz.func107, Tryz.ntmps107
    go_wp2_with (go_at_call 127; refine HC2.out.mono ?_; rintro e w1 ⟨rfl, rfl⟩)
    go_ret2
    exact ⟨by rw [HV.out, HM.out]; rfl, rfl⟩
  | true =>
    obtain ⟨r, hr⟩ := List.isPrefixOf_iff_prefix.1 hp
    rw [show Lib.hasPrefix s.data.toList (⟨#[72, 84, 84, 80, 47]⟩ : ByteArray).data.toList = true from hp, show (⟨(Lib.trimPrefix s.data.toList (⟨#[72, 84, 84, 80, 47]⟩ : ByteArray).data.toList).toArray⟩ : ByteArray) = ofL r by
      unfold Lib.trimPrefix
      rw [show Lib.hasPrefix s.data.toList (⟨#[72, 84, 84, 80, 47]⟩ : ByteArray).data.toList = true from hp, if_pos rfl, ← hr]
      rfl] at hc
    have HC2 := Lib.hid hc
    rw [← hr]
    clear hc hp hr
    by_cases h3 : r.length = 3
    · obtain ⟨a, b, c, rfl⟩ := three_of h3
      have HV := Lib.hid (verS_three a b c)
      have HM := Lib.hid (show minS (hvL ++ [a, b, c]) = if verS (hvL ++ [a, b, c]) = 0 then (if c = 48 then 0 else 1) else 0 from rfl)
      have HD := Lib.hid (fun (x : UInt8) (v : Bool) (hx : isD x = v) (w : World) => hx ▸ digit_h x w)
      obtain ⟨q, hq⟩ : ∃ q, q = ofL [a, b, c] := ⟨_, rfl⟩
      have HQ := Lib.hid hq
      rw [← hq] at HC2
      have q3 : q.size = 3 := by rw [hq]; rfl
      have q0 : q[0]'(by omega) = a := by subst hq; rfl
      have q1 : q[1]'(by omega) = b := by subst hq; rfl
      have q2 : q[2]'(by omega) = c := by subst hq; rfl
      have e1 : ((b.toNat : Int) == 46) = decide (b = 46) := byte_eq b 46 (by decide)
      have e2 : ((a.toNat : Int) == 49) = decide (a = 49) := byte_eq a 49 (by decide)
      have e3 : ((c.toNat : Int) == 48) = decide (c = 48) := byte_eq c 48 (by decide)
      have n1 : ((b.toNat : Int) != 46) = !decide (b = 46) := by rw [bne, e1]
      have n2 : ((a.toNat : Int) != 49) = !decide (a = 49) := by rw [bne, e2]
      have hv := ver5 a b c
      have hm : minS (hvL ++ [a, b, c]) = if verS (hvL ++ [a, b, c]) = 0 then (if decide (c = 48) = true then 0 else 1) else 0 := by
        rw [HM.out]; simp only [decide_eq_true_eq]
      rw [hv] at hm
      have hda := HD.out a _ rfl
      have hdc := HD.out c _ rfl
      generalize isD a = t1 at *
      generalize isD c = t3 at *
      generalize decide (b = 46) = t2 at *
      generalize decide (a = 49) = t4 at *
      generalize decide (c = 48) = t5 at *
      clear hq h3 e1 e2 HV HM HD
      cases t1
      · have HDA := Lib.hid hda
        have HVV := Lib.hid (show verS (hvL ++ [a, b, c]) = 400 from hv)
        have HMM := Lib.hid (show minS (hvL ++ [a, b, c]) = 0 from hm)
        clear hda hdc hv hm n1 n2 e3
        go_enter Tryz.func107, Tryz.ntmps107
        go_wp2_with (first
          | (go_at_call 127; refine HC2.out.mono ?_; rintro e w1 ⟨rfl, rfl⟩)
          | (go_at_call 128; refine (HDA.out _).mono ?_; rintro e w1 ⟨rfl, rfl⟩))
        go_ret2
        exact ⟨by rw [HVV.out, HMM.out]; rfl, rfl⟩
      · cases t2
        · skip
          have HDA := Lib.hid hda
          have HDC := Lib.hid hdc
          have HVV := Lib.hid (show verS (hvL ++ [a, b, c]) = 400 from hv)
          have HMM := Lib.hid (show minS (hvL ++ [a, b, c]) = 0 from hm)
          simp only [Bool.not_true, Bool.not_false] at n1 n2
          clear hda hdc hv hm
          go_enter Tryz.func107, Tryz.ntmps107
          go_wp2_with (first
            | (go_at_call 127; refine HC2.out.mono ?_; rintro e w1 ⟨rfl, rfl⟩)
            | (go_at_call 128; (with_reducible show Calls _ _ #[.int .u8 (a.toNat : Int)] _ _); refine (HDA.out _).mono ?_; rintro e w1 ⟨rfl, rfl⟩)
            | (go_at_call 128; (with_reducible show Calls _ _ #[.int .u8 (c.toNat : Int)] _ _); refine (HDC.out _).mono ?_; rintro e w1 ⟨rfl, rfl⟩))
          go_ret2
          exact ⟨by rw [HVV.out, HMM.out]; rfl, rfl⟩
        · cases t3
          · skip
            have HDA := Lib.hid hda
            have HDC := Lib.hid hdc
            have HVV := Lib.hid (show verS (hvL ++ [a, b, c]) = 400 from hv)
            have HMM := Lib.hid (show minS (hvL ++ [a, b, c]) = 0 from hm)
            simp only [Bool.not_true, Bool.not_false] at n1 n2
            clear hda hdc hv hm
            go_enter Tryz.func107, Tryz.ntmps107
            go_wp2_with (first
              | (go_at_call 127; refine HC2.out.mono ?_; rintro e w1 ⟨rfl, rfl⟩)
              | (go_at_call 128; (with_reducible show Calls _ _ #[.int .u8 (a.toNat : Int)] _ _); refine (HDA.out _).mono ?_; rintro e w1 ⟨rfl, rfl⟩)
              | (go_at_call 128; (with_reducible show Calls _ _ #[.int .u8 (c.toNat : Int)] _ _); refine (HDC.out _).mono ?_; rintro e w1 ⟨rfl, rfl⟩))
            go_ret2
            exact ⟨by rw [HVV.out, HMM.out]; rfl, rfl⟩
          · cases t4
            · skip
              have HDA := Lib.hid hda
              have HDC := Lib.hid hdc
              have HVV := Lib.hid (show verS (hvL ++ [a, b, c]) = 505 from hv)
              have HMM := Lib.hid (show minS (hvL ++ [a, b, c]) = 0 from hm)
              simp only [Bool.not_true, Bool.not_false] at n1 n2
              clear hda hdc hv hm
              go_enter Tryz.func107, Tryz.ntmps107
              go_wp2_with (first
                | (go_at_call 127; refine HC2.out.mono ?_; rintro e w1 ⟨rfl, rfl⟩)
                | (go_at_call 128; (with_reducible show Calls _ _ #[.int .u8 (a.toNat : Int)] _ _); refine (HDA.out _).mono ?_; rintro e w1 ⟨rfl, rfl⟩)
                | (go_at_call 128; (with_reducible show Calls _ _ #[.int .u8 (c.toNat : Int)] _ _); refine (HDC.out _).mono ?_; rintro e w1 ⟨rfl, rfl⟩))
              go_ret2
              exact ⟨by rw [HVV.out, HMM.out]; rfl, rfl⟩
            · cases t5
              · skip
                have HDA := Lib.hid hda
                have HDC := Lib.hid hdc
                have HVV := Lib.hid (show verS (hvL ++ [a, b, c]) = 0 from hv)
                have HMM := Lib.hid (show minS (hvL ++ [a, b, c]) = 1 from hm)
                simp only [Bool.not_true, Bool.not_false] at n1 n2
                clear hda hdc hv hm
                go_enter Tryz.func107, Tryz.ntmps107
                go_wp2_with (first
                  | (go_at_call 127; refine HC2.out.mono ?_; rintro e w1 ⟨rfl, rfl⟩)
                  | (go_at_call 128; (with_reducible show Calls _ _ #[.int .u8 (a.toNat : Int)] _ _); refine (HDA.out _).mono ?_; rintro e w1 ⟨rfl, rfl⟩)
                  | (go_at_call 128; (with_reducible show Calls _ _ #[.int .u8 (c.toNat : Int)] _ _); refine (HDC.out _).mono ?_; rintro e w1 ⟨rfl, rfl⟩))
                go_ret2
                exact ⟨by rw [HVV.out, HMM.out]; rfl, rfl⟩
              · skip
                have HDA := Lib.hid hda
                have HDC := Lib.hid hdc
                have HVV := Lib.hid (show verS (hvL ++ [a, b, c]) = 0 from hv)
                have HMM := Lib.hid (show minS (hvL ++ [a, b, c]) = 0 from hm)
                simp only [Bool.not_true, Bool.not_false] at n1 n2
                clear hda hdc hv hm
                go_enter Tryz.func107, Tryz.ntmps107
                go_wp2_with (first
                  | (go_at_call 127; refine HC2.out.mono ?_; rintro e w1 ⟨rfl, rfl⟩)
                  | (go_at_call 128; (with_reducible show Calls _ _ #[.int .u8 (a.toNat : Int)] _ _); refine (HDA.out _).mono ?_; rintro e w1 ⟨rfl, rfl⟩)
                  | (go_at_call 128; (with_reducible show Calls _ _ #[.int .u8 (c.toNat : Int)] _ _); refine (HDC.out _).mono ?_; rintro e w1 ⟨rfl, rfl⟩))
                go_ret2
                exact ⟨by rw [HVV.out, HMM.out]; rfl, rfl⟩
    · have HV := Lib.hid (verS_len h3)
      have HM := Lib.hid (show minS (hvL ++ r) = 0 by unfold minS; rw [verS_len h3]; rfl)
      obtain ⟨q, hq⟩ : ∃ q, q = ofL r := ⟨_, rfl⟩
      have hz : q.size = r.length := by rw [hq, ofL_size]
      rw [← hq] at HC2
      have q3 : ((q.size : Int) != 3) = true := by rw [bne_iff_ne]; omega
      clear hq h3 hz
      go_enter Tryz.func107, Tryz.ntmps107
      go_wp2_with (go_at_call 127; refine HC2.out.mono ?_; rintro e w1 ⟨rfl, rfl⟩)
      go_ret2
      exact ⟨by rw [HV.out, HM.out]; rfl, rfl⟩

set_option maxRecDepth 10000 in
theorem pass_a {hb g : Nat} {v st : Value} {w : World} {h : HdP} {z : Int} (n : Nat) (hn : n ≤ 4) (c : HdC hb g v st w h n z) (r : Int) (hr : (if 4 < n + 1 then (400 : Int) else 0) = r) :
    Calls Tryz.prog 86 #[ptr hb] w fun e w' => e = .returned (.int .i64 r) ∧ (∃ k : Int, HdC hb g v st w' h k z ∧ (n < 4 → k = (n : Int) + 1)) ∧ Mods [hb] w w' := by
  obtain ⟨-, -, c2, -⟩ := c.facts
  have f2 := c.row.free 2
  have HS := Lib.hid (c.set 2 (.int .i64 ((n : Int) + 1)) (h' := h) (e' := (n : Int) + 1) (z' := z) rfl rfl rfl rfl)
  have HC := Lib.hid c
  clear c
  unfold ptr
  by_cases h4 : n = 4
  · subst h4
    obtain rfl : r = 400 := by rw [← hr]; rfl
    clear hr
    go_enter Tryz.func86, Tryz.ntmps86
    go_wp2
    go_ret
    exact ⟨rfl, ⟨_, HC.out, fun h => absurd h (by decide)⟩, Mods.refl _ _⟩
  · have e4 : ((n : Int) == 4) = false := by rw [beq_eq_false_iff_ne]; omega
    obtain rfl : r = 0 := by rw [← hr]; exact if_neg (by omega)
    clear hr
    go_enter Tryz.func86, Tryz.ntmps86
    go_wp2
    go_ret
    exact ⟨rfl, ⟨_, HS.out, fun _ => rfl⟩, (Mods.refl _ _).setCell (.inl (by simp)) _⟩
end Go.Proofs.YtgkhelbpccehcaaGreatDoor

/- The start line of the code's head. Conditions: lines of at most a thousand bytes. -/
namespace Go.Proofs.YtgkhelbpccehcaaGreatDoor
open Go.RowKit
set_option linter.unusedVariables false
set_option linter.unusedSimpArgs false

/-- What begin makes of a head. -/
def begP (h : HdP) (l : List UInt8) : HdP :=
  if startS l = 0 then { h with started := true, meth := ofL (wordN l 0), tgt := (parT (wordN l 0) (wordN l 1)).1, minor := verM (wordN l 2) } else h
theorem begP_no {h : HdP} {l : List UInt8} (e : startS l ≠ 0) : begP h l = h := by unfold begP; rw [if_neg e]
theorem start_tok {l a b v : List UInt8} (h : wordsL l = [a, b, v]) (ht : tokL a = false) : startS l = 400 := by rw [startS_three h, if_pos ht]
theorem start_ver {l a b v : List UInt8} (h : wordsL l = [a, b, v]) (ht : tokL a = true) (hv : verS v ≠ 0) : startS l = verS v := by rw [startS_three h, if_neg (by rw [ht]; simp), if_pos hv]
theorem start_par {l a b v : List UInt8} (h : wordsL l = [a, b, v]) (ht : tokL a = true) (hv : verS v = 0) : startS l = if (parT a b).2 = 9 then 414 else if (parT a b).2 ≠ 0 then 400 else 0 := by rw [startS_three h, if_neg (by rw [ht]; simp), if_neg (by rw [hv]; simp)]
/-- The words in memory. -/
theorem words_row {w W : World} {a b v : List UInt8} (hW : W = w.alloc (.cells ((([a, b, v] : List (List UInt8)).map ofL).map Value.string).toArray 9)) :
    W.cell? ⟨w.heap.size, 0, none⟩ = some (.string (ofL a)) ∧ W.cell? ⟨w.heap.size, 1, none⟩ = some (.string (ofL b)) ∧ W.cell? ⟨w.heap.size, 2, none⟩ = some (.string (ofL v)) ∧ Mods [] w W := by
  subst hW
  have h := Row.new w 9 ((([a, b, v] : List (List UInt8)).map ofL).map Value.string).toArray
  exact ⟨h.cell 0, h.cell 1, h.cell 2, (Mods.refl [] w).alloc _⟩

set_option maxRecDepth 10000 in
set_option maxHeartbeats 2000000 in
theorem begin_a {hb g : Nat} {v : Value} {w : World} {h : HdP} {e z : Int} (s : ByteArray) (hs : s.size ≤ 1000) (hst : h.started = false) (c : HdC hb g v (.pointer none) w h e z) :
    Calls Tryz.prog 87 #[ptr hb, .string s] w fun r w' => r = .returned (.int .i64 (startS s.data.toList)) ∧ Hid (∃ st, HdC hb g v st w' (begP h s.data.toList) e z ∧ ∀ k ∈ stB st, w.heap.size ≤ k) ∧ Mods [hb] w w' := by
  have HSP := Lib.hid (split_shelf s w (by omega))
  have hpl := fun p hp => words_parts (l := s.data.toList) (p := p) hp
  have hsl : s.data.toList.length = s.size := rfl
  have HC := Lib.hid (fun W (hm : Mods [] w W) => c.low hm)
  by_cases h3 : (wordsL s.data.toList).length = 3
  · obtain ⟨a, b, v0, hw⟩ := three_of h3
    rw [hw] at HSP hpl
    obtain ⟨W, hW⟩ : ∃ W, W = w.alloc (.cells ((([a, b, v0] : List (List UInt8)).map ofL).map Value.string).toArray 9) := ⟨_, rfl⟩
    obtain ⟨c0, c1, c2, mW⟩ := words_row hW
    rw [← hW] at HSP
    have ha := (hpl a (by simp)).2
    have hb1 := (hpl b (by simp)).2
    have hv1 := (hpl v0 (by simp)).2
    have za : (ofL a).size ≤ 1000 := by rw [ofL_size]; omega
    have zb : (ofL b).size ≤ 1000 := by rw [ofL_size]; omega
    have zv : (ofL v0).size ≤ 1000 := by rw [ofL_size]; omega
    have HI := Lib.hid (fun (t : Bool) (ht : tokL a = t) w => istokK (ofL a) (r := t) (by rw [ofL_list]; exact ht) (by omega) w)
    have HV := Lib.hid (fun w => minor_a (ofL v0) (by omega) w)
    have HT := Lib.hid (fun w => tparse_a (ofL a) (ofL b) w (by omega) (by omega))
    simp only [ofL_list] at HV HT
    have HCL := Lib.hid (fun w => cloneT (ofL a) (by omega) w)
    obtain ⟨xa, hxa⟩ : ∃ x, x = ofL a := ⟨_, rfl⟩
    obtain ⟨xb, hxb⟩ : ∃ x, x = ofL b := ⟨_, rfl⟩
    obtain ⟨xv, hxv⟩ : ∃ x, x = ofL v0 := ⟨_, rfl⟩
    rw [← hxa] at c0 HI HT HCL
    rw [← hxb] at c1 HT
    rw [← hxv] at c2 HV
    have HXA := Lib.hid hxa
    have C0 := Lib.hid (HC.out W mW)
    have MW := Lib.hid mW
    obtain ⟨pb, hpb⟩ : ∃ pb, pb = w.heap.size := ⟨_, rfl⟩
    rw [← hpb] at c0 c1 c2 HSP
    have HPB := Lib.hid hpb
    have HC0B := Lib.hid (show hb < pb by rw [hpb]; exact c.row.lt)
    have HWD := Lib.hid hw
    clear hW hpl ha hb1 hv1 za zb zv hxa hxb hxv hpb mW c hs hsl h3
    simp only [List.length_cons, List.length_nil] at HSP
    unfold ptr
    cases ht : tokL a with
    | false =>
      have HX := Lib.hid (start_tok hw ht)
      have HI := Lib.hid (HI.out false ht)
      clear ht hw
      go_enter Tryz.func87, Tryz.ntmps87
      go_wp2_with (first
        | (go_at_call 105; refine HSP.out.mono ?_; rintro e w1 ⟨rfl, hw1⟩; rw [hw1]; clear hw1)
        | (go_at_call 106; refine (HI.out _).mono ?_; rintro e w2 ⟨rfl, rfl⟩))
      go_ret
      exact ⟨by rw [HX.out]; rfl, Lib.hid ⟨_, by rw [begP_no (by rw [HX.out]; decide)]; exact C0.out, by intro k hk; cases hk⟩, MW.out.more (by simp)⟩
    | true =>
      have HI := Lib.hid (HI.out true ht)
      by_cases hv : verS v0 = 0
      · have hx := start_par hw ht hv
        have HMN := Lib.hid (show minS v0 = verM v0 by unfold minS; rw [if_pos hv])
        rw [hv] at HV
        have HWN := Lib.hid (show wordN s.data.toList 0 = a ∧ wordN s.data.toList 1 = b ∧ wordN s.data.toList 2 = v0 by unfold wordN; rw [hw]; exact ⟨rfl, rfl, rfl⟩)
        unfold TAns at HT
        obtain ⟨r, hr⟩ : ∃ r, r = parT a b := ⟨_, rfl⟩
        rw [← hr] at HT hx
        have HR := Lib.hid hr
        obtain ⟨⟨f, th, tp, tq⟩, n⟩ := r
        simp only [Tgt.cells] at HT hx
        have HX := Lib.hid hx
        clear hx hr hv ht hw
        generalize minS v0 = ms at *
        go_enter Tryz.func87, Tryz.ntmps87
        go_upto_region 7 with (first
          | (go_at_call 105; refine HSP.out.mono ?_; rintro e w1 ⟨rfl, hw1⟩; rw [hw1]; clear hw1)
          | (go_at_call 106; refine (HI.out _).mono ?_; rintro e w2 ⟨rfl, rfl⟩)
          | (go_at_call 107; refine (HV.out _).mono ?_; rintro e w3 ⟨rfl, rfl⟩))
        have hlt : pb < W.heap.size := World.block_lt_of_cell? _ _ c0
        have np1 : ¬ pb = W.heap.size := by omega
        have np2 : ¬ W.heap.size = pb := by omega
        clear hlt
        go_cut [8, 9] (fun t er wx => ∃ tb, t = .pointer (some ⟨tb, 0, none⟩) ∧ er = .int .i64 n ∧ Hid (Row wx tb 37 (⟨f, th, tp, tq⟩ : Tgt).cells ∧ Mods [] W wx))
        case first =>
          go_region_held3 (fun w' => w'.cell? ⟨pb, 0, none⟩ = some (.string xa) ∧ w'.cell? ⟨pb, 1, none⟩ = some (.string xb)) (go_keep) (first
            | (go_at_call 108; refine (HT.out _).mono ?_; rintro e w2 ⟨rfl, hm⟩; have hm2 := ((Mods.refl [] W).drew).trans hm (fun _ h => nomatch h); have M2 := Lib.hid hm2; have d0 := cell_mods c0 hm2 (by simp); have d1 := cell_mods c1 hm2 (by simp); clear hm hm2)
            | (go_at_call 108; refine (HT.out _).mono ?_; rintro e w2 ⟨rfl, hm⟩; have hm2 := (((Mods.refl [] W).alloc (.cells #[.int .i64 0, .string ⟨#[]⟩, .string ⟨#[]⟩, .string ⟨#[]⟩] 37)).drew).trans hm (fun _ h => nomatch h); have M2 := Lib.hid hm2; have R2 := Lib.hid (show Row w2 W.heap.size 37 noT.cells from (Row.new W _ _).mods (of_drewT hm) (by simp)); obtain ⟨k0, k1, k2, k3, f0, f1, f2, f3⟩ := R2.out.facts; simp only [noT, noB] at k0 k1 k2 k3; have d0 := cell_mods c0 hm2 (by simp); have d1 := cell_mods c1 hm2 (by simp); clear hm hm2))
          · go_wp2
            go_meet
            case rel => exact ⟨_, rfl, rfl, Lib.hid ⟨Row.new _ _ _, M2.out.alloc _⟩⟩
          · go_wp2
            go_meet
            case rel => exact ⟨_, rfl, rfl, Lib.hid ⟨R2.out.put ⟨f, th, tp, tq⟩, M2.out.put (.inr (Nat.le_refl _)) ⟨f, th, tp, tq⟩⟩⟩
        case rest =>
          obtain ⟨tb, rfl, rfl, hq⟩ := hcut
          have RT := Lib.hid hq.out.1
          have MT := Lib.hid hq.out.2
          clear hq
          obtain ⟨wx, rfl⟩ : ∃ wx : World, wx = wc := ⟨_, rfl⟩
          have CX := Lib.hid (C0.out.low MT.out)
          by_cases n0 : n = 0
          · subst n0
            have h0 : startS s.data.toList = 0 := HX.out
            have HB := Lib.hid (show begP h s.data.toList = { h with started := true, meth := xa, tgt := ⟨f, th, tp, tq⟩, minor := ms } by
              unfold begP
              rw [if_pos h0, HWN.out.1, HWN.out.2.1, HWN.out.2.2, ← HXA.out, ← HR.out, ← HMN.out])
            have H0 := Lib.hid h0
            have d0 := cell_mods c0 MT.out (by simp)
            obtain ⟨t0, t1, t2, t3, -⟩ := RT.out.facts
            simp only at t0 t1 t2 t3
            have hr := CX.out.row
            have p1 : wx.cell? ⟨hb, 1, none⟩ = some (.pointer none) := hr.cell 1
            have f1 := hr.free 1
            have n1 : ¬ hb = tb := Row.type_ne hr RT.out (by decide)
            have np3 : ¬ hb = pb := Nat.ne_of_lt HC0B.out
            have np4 : ¬ pb = hb := fun e => np3 e.symm
            have n2 : ¬ tb = hb := fun e => n1 e.symm
            clear hr h0 c0 c1 c2
            go_upto_region 10 with fail
            go_region_held3 (fun w' => w'.cell? ⟨pb, 0, none⟩ = some (.string xa) ∧ w'.cell? ⟨tb, 0, none⟩ = some (.int .i64 f) ∧ w'.cell? ⟨tb, 1, none⟩ = some (.string th) ∧ w'.cell? ⟨tb, 2, none⟩ = some (.string tp) ∧ w'.cell? ⟨tb, 3, none⟩ = some (.string tq)) (go_keep) ((go_at_call 40; refine (HCL.out _).mono ?_; rintro e w5 ⟨rfl, hm⟩; have hm2 := ((Mods.refl [] wx).drew).trans hm (fun _ h => nomatch h); have M5 := Lib.hid hm2; have g0 := cell_mods d0 hm2 (by simp); have s0 := cell_mods t0 hm2 (by simp); have s1 := cell_mods t1 hm2 (by simp); have s2 := cell_mods t2 hm2 (by simp); have s3 := cell_mods t3 hm2 (by simp); have q1 := cell_mods p1 hm2 (by simp); have r1 : w5.frozen? ⟨hb, 1, none⟩ = false := (CX.out.low hm2).row.free 1; have q1a := fun o => cell_alloc q1 o; have r1a := fun o => ((CX.out.low hm2).row.alloc o).free 1; have n6 : ¬ hb = w5.heap.size := Nat.ne_of_lt (CX.out.low hm2).row.lt; have n5 : ¬ w5.heap.size = hb := fun e => n6 e.symm; clear hm hm2))
            go_wp2
            go_ret
            refine ⟨by rw [H0.out]; rfl, Lib.hid ⟨ptr w5.heap.size, by rw [HB.out]; exact (CX.out.low M5.out).born (h' := { h with started := true, meth := xa, tgt := ⟨f, th, tp, tq⟩, minor := ms }) rfl rfl rfl rfl rfl, fun k hk => ?_⟩, ?_⟩
            · have hk2 : k = w5.heap.size := by simpa [stB, ptr] using hk
              have h1 := MW.out.size; have h2 := MT.out.size; have h3 := M5.out.size
              omega
            · exact (((((MW.out.trans MT.out (fun _ h => nomatch h)).trans M5.out (fun _ h => nomatch h)).alloc _).more (F2 := [hb]) (by simp)).setCell (.inl (by simp)) _)
          · have hb0 : (n == 0) = false := by simpa using n0
            have h0 : startS s.data.toList ≠ 0 := by
              rw [HX.out]
              by_cases h9 : n = 9
              · rw [if_pos h9]; decide
              · rw [if_neg h9, if_pos n0]; decide
            have HB := Lib.hid (begP_no (h := h) h0)
            clear h0 c0 c1 c2
            by_cases h9 : n = 9
            · subst h9
              have HX2 := Lib.hid (show startS s.data.toList = 414 from HX.out)
              clear n0 hb0
              go_wp2_with fail
              go_ret
              exact ⟨by rw [HX2.out]; rfl, Lib.hid ⟨_, by rw [HB.out]; exact CX.out, by intro k hk; cases hk⟩, (MW.out.trans MT.out (fun _ h => nomatch h)).more (by simp)⟩
            · have HX2 := Lib.hid (show startS s.data.toList = 400 by rw [HX.out, if_neg h9, if_pos n0])
              have hb9 : (n == 9) = false := by simpa using h9
              clear n0 h9
              go_wp2_with fail
              go_ret
              exact ⟨by rw [HX2.out]; rfl, Lib.hid ⟨_, by rw [HB.out]; exact CX.out, by intro k hk; cases hk⟩, (MW.out.trans MT.out (fun _ h => nomatch h)).more (by simp)⟩
      · have HX := Lib.hid (start_ver hw ht hv)
        have HN := Lib.hid hv
        have hne : (verS v0 != 0) = true := by simpa using hv
        generalize verS v0 = vs at *
        generalize minS v0 = ms at *
        clear ht hw hv
        go_enter Tryz.func87, Tryz.ntmps87
        go_wp2_with (first
          | (go_at_call 105; refine HSP.out.mono ?_; rintro e w1 ⟨rfl, hw1⟩; rw [hw1]; clear hw1)
          | (go_at_call 106; refine (HI.out _).mono ?_; rintro e w2 ⟨rfl, rfl⟩)
          | (go_at_call 107; refine (HV.out _).mono ?_; rintro e w3 ⟨rfl, rfl⟩))
        go_ret
        exact ⟨by rw [HX.out]; rfl, Lib.hid ⟨_, by rw [begP_no (by rw [HX.out]; exact HN.out)]; exact C0.out, by intro k hk; cases hk⟩, MW.out.more (by simp)⟩
  · have HX := Lib.hid (startS_parts h3)
    obtain ⟨n, hn⟩ : ∃ n, n = (wordsL s.data.toList).length := ⟨_, rfl⟩
    rw [← hn] at h3 HSP
    have n3 : ((n : Int) != 3) = true := by rw [bne_iff_ne]; omega
    obtain ⟨W, hW⟩ : ∃ W, W = w.alloc (.cells (((wordsL s.data.toList).map ofL).map Value.string).toArray 9) := ⟨_, rfl⟩
    have MW := Lib.hid (show Mods [] w W by rw [hW]; exact (Mods.refl [] w).alloc _)
    rw [← hW] at HSP
    clear hn h3 hW hpl c
    unfold ptr
    go_enter Tryz.func87, Tryz.ntmps87
    go_wp2_with (go_at_call 105; refine HSP.out.mono ?_; rintro e w1 ⟨rfl, hw1⟩; rw [hw1]; clear hw1)
    go_ret
    exact ⟨by rw [HX.out]; rfl, Lib.hid ⟨_, by rw [begP_no (by rw [HX.out]; decide)]; exact HC.out _ MW.out, by intro k hk; cases hk⟩, MW.out.more (by simp)⟩
end Go.Proofs.YtgkhelbpccehcaaGreatDoor

/- A field's line and the end of the code's head. Conditions: lines of at most 256 bytes. -/
namespace Go.Proofs.YtgkhelbpccehcaaGreatDoor
open Go.RowKit
set_option linter.unusedVariables false
set_option linter.unusedSimpArgs false

theorem beq_dec (n : Int) : (n == 0) = decide (n = 0) := by rw [Bool.eq_iff_iff]; simp
/-- A head that knows how it goes on. -/
def HdP.end (h : HdP) (r : HowP × Int) : HdP := { h with how := r.1, whole := decide (r.2 = 0) }
theorem HdC.ends {hb g : Nat} {v st : Value} {w : World} {h : HdP} {e z k l n : Int} {c x : Bool} (a : HdC hb g v st w h e z) :
    HdC hb g v st (((((w.setCell ⟨hb, 4, none⟩ (.int .i64 k)).setCell ⟨hb, 5, none⟩ (.int .i64 l)).setCell ⟨hb, 6, none⟩ (.bool c)).setCell ⟨hb, 7, none⟩ (.bool x)).setCell ⟨hb, 8, none⟩ (.bool (n == 0))) (h.end (⟨k, l, c, x⟩, n)) e z := by
  have h1 := a.set 4 (.int .i64 k) (h' := { h with how := ⟨k, h.how.length, h.how.close, h.how.expect⟩ }) (e' := e) (z' := z) rfl rfl rfl rfl
  have h2 := h1.set 5 (.int .i64 l) (h' := { h with how := ⟨k, l, h.how.close, h.how.expect⟩ }) (e' := e) (z' := z) rfl rfl rfl rfl
  have h3 := h2.set 6 (.bool c) (h' := { h with how := ⟨k, l, c, h.how.expect⟩ }) (e' := e) (z' := z) rfl rfl rfl rfl
  have h4 := h3.set 7 (.bool x) (h' := { h with how := ⟨k, l, c, x⟩ }) (e' := e) (z' := z) rfl rfl rfl rfl
  exact h4.set 8 (.bool (n == 0)) (h' := h.end (⟨k, l, c, x⟩, n)) (e' := e) (z' := z) (by rw [beq_dec]; rfl) rfl rfl rfl
theorem ends_mods {hb : Nat} {w : World} {k l n : Int} {c x : Bool} :
    Mods [hb] w (((((w.setCell ⟨hb, 4, none⟩ (.int .i64 k)).setCell ⟨hb, 5, none⟩ (.int .i64 l)).setCell ⟨hb, 6, none⟩ (.bool c)).setCell ⟨hb, 7, none⟩ (.bool x)).setCell ⟨hb, 8, none⟩ (.bool (n == 0))) :=
  (((((Mods.refl [hb] w).setCell (.inl (by simp)) _).setCell (.inl (by simp)) _).setCell (.inl (by simp)) _).setCell (.inl (by simp)) _).setCell (.inl (by simp)) _
theorem res_H {w w' : World} (h : Mods [] (w.alloc (.cells #[.int .i64 0, .int .i64 0, .bool false, .bool false] 65)) w') : Row w' w.heap.size 65 noH.cells ∧ Mods [] w w' :=
  ⟨(Row.new w _ _).mods h (by simp), ((Mods.refl [] w).alloc _).trans h (fun _ h => nomatch h)⟩
set_option maxRecDepth 10000 in
set_option maxHeartbeats 2000000 in
theorem end_a {hb g : Nat} {v st : Value} {w : World} {h : HdP} {e z : Int} (hst : h.started = true) (hl : Lite h.S) (c : HdC hb g v st w h e z) :
    Calls Tryz.prog 88 #[ptr hb] w fun r w' => r = .returned (.int .i64 (frm h.minor h.S).2) ∧ Hid (HdC hb g v st w' (h.end (frm h.minor h.S)) e z) ∧ Mods [hb] w w' := by
  rcases c.sta with ⟨h1, _⟩ | ⟨_, sb, rfl, hs⟩
  · rw [hst] at h1; cases h1
  have HO := Lib.hid (fun W (hm : Mods [] w W) => of_f (m := h.minor) (FP.of_fld (c.fld.low hm)) hl)
  unfold HAns at HO
  obtain ⟨r, hr⟩ : ∃ r, r = frm h.minor h.S := ⟨_, rfl⟩
  rw [← hr] at HO ⊢
  obtain ⟨⟨k, l, cl, x⟩, n⟩ := r
  simp only [howV] at HO
  have c0 : w.cell? ⟨hb, 0, none⟩ = some (ptr g) := c.row.cell 0
  have c1 : w.cell? ⟨hb, 1, none⟩ = some (ptr sb) := c.row.cell 1
  have s5 : w.cell? ⟨sb, 5, none⟩ = some (.int .i64 h.minor) := hs.cell 5
  have n1 : ¬ hb = w.heap.size := Nat.ne_of_lt c.row.lt
  have n2 : ¬ w.heap.size = hb := fun e => n1 e.symm
  have n3 : ¬ sb = w.heap.size := Nat.ne_of_lt hs.lt
  have n4 : ¬ w.heap.size = sb := fun e => n3 e.symm
  have HC := Lib.hid (fun W (hm : Mods [] w W) => c.low hm)
  clear hr hs c hl
  unfold ptr at *
  go_enter Tryz.func88, Tryz.ntmps88
  go_upto_region 1 with fail
  go_cut [3, 4] (fun t er wx => ∃ tb, t = .pointer (some ⟨tb, 0, none⟩) ∧ er = .int .i64 n ∧ Hid (Row wx tb 65 (⟨k, l, cl, x⟩ : HowP).cells ∧ Mods [] w wx))
  case first =>
    go_region_held3 (fun w' => w'.cell? ⟨hb, 0, none⟩ = some (.pointer (some ⟨g, 0, none⟩)) ∧ w'.cell? ⟨hb, 1, none⟩ = some (.pointer (some ⟨sb, 0, none⟩)) ∧ w'.cell? ⟨sb, 5, none⟩ = some (.int .i64 h.minor)) (go_keep) (first
      | (go_at_call 109; refine (HO.out _ ((Mods.refl [] w).drew)).mono ?_; rintro e w2 ⟨rfl, hm⟩; have hm2 := ((Mods.refl [] w).drew).trans hm (fun _ h => nomatch h); have M2 := Lib.hid hm2; have d0 := cell_mods c0 hm2 (by simp); have d1 := cell_mods c1 hm2 (by simp); have t5 := cell_mods s5 hm2 (by simp); clear hm hm2)
      | (go_at_call 109; refine (HO.out _ (((Mods.refl [] w).alloc (.cells #[.int .i64 0, .int .i64 0, .bool false, .bool false] 65)).drew)).mono ?_; rintro e w2 ⟨rfl, hm⟩; have hm2 := res_H (of_drewT hm); have M2 := Lib.hid hm2.2; have R2 := Lib.hid hm2.1; obtain ⟨k0, k1, k2, k3, f0, f1, f2, f3⟩ := R2.out.factsH; simp only [noH] at k0 k1 k2 k3; have d0 := cell_mods c0 hm2.2 (by simp); have d1 := cell_mods c1 hm2.2 (by simp); have t5 := cell_mods s5 hm2.2 (by simp); clear hm hm2))
    · go_wp2
      go_meet
      case rel => exact ⟨_, rfl, rfl, Lib.hid ⟨Row.new _ _ _, M2.out.alloc _⟩⟩
    · go_wp2
      go_meet
      case rel => exact ⟨_, rfl, rfl, Lib.hid ⟨R2.out.putH ⟨k, l, cl, x⟩, M2.out.putH (.inr (Nat.le_refl _)) ⟨k, l, cl, x⟩⟩⟩
  case rest =>
    obtain ⟨tb, rfl, rfl, hq⟩ := hcut
    have MT := Lib.hid hq.out.2
    have hc := HC.out _ hq.out.2
    obtain ⟨k0, k1, k2, k3, -⟩ := hq.out.1.factsH
    simp only at k0 k1 k2 k3
    obtain ⟨-, -, -, -, r4, r5, r6, r7, r8, -⟩ := hc.facts
    have f4 := hc.row.free 4
    have f5 := hc.row.free 5
    have f6 := hc.row.free 6
    have f7 := hc.row.free 7
    have f8 := hc.row.free 8
    have CX := Lib.hid hc
    clear hq hc c0 c1 s5
    obtain ⟨wx, rfl⟩ : ∃ wx : World, wx = wc := ⟨_, rfl⟩
    go_wp2_with fail
    go_ret
    exact ⟨rfl, Lib.hid CX.out.ends, MT.out.more (by simp) |>.trans ends_mods (fun k hk => .inl hk)⟩

/-- What a field's line does. -/
def layS (h : HdP) (s : ByteArray) : Int := if (parR s).2 ≠ 0 then 400 else if 24 ≤ h.S.length then 431 else 0
def layP (h : HdP) (s : ByteArray) : HdP := if layS h s = 0 then { h with S := h.S ++ [(parR s).1] } else h
theorem par_ok {s : ByteArray} (h : (parR s).2 = 0) : okF (parR s).1 = true ∧ (parR s).1.1.size ≤ s.size ∧ (parR s).1.2.size ≤ s.size := by
  unfold parR at h ⊢
  split
  · rename_i h1; rw [if_pos h1] at h; cases h
  · rename_i h1
    rw [if_neg h1] at h
    split
    · rename_i h2; rw [if_pos h2] at h; cases h
    · rename_i h2
      rw [if_neg h2] at h
      split
      · rename_i h3; exact ⟨h3, fldAt_size _ _⟩
      · rename_i h3; rw [if_neg h3] at h; cases h
theorem addR_one {n : Nat} {p : FV} (h : okF p = true) : addR n [p] = if n = 24 then (0, 3) else (1, 0) := by
  unfold addR
  rw [if_pos h]
  split
  · rfl
  · simp [addR]
theorem addF_one {S : List FV} {p : FV} (h : okF p = true) : addF S [p] = if S.length = 24 then S else S ++ [p] := by
  unfold addF
  rw [addR_one h]
  split <;> simp
/-- One field Added, from a row of one. -/
theorem add_one13 {g b : Nat} {v : Value} {S : List FV} (x y : ByteArray) {w W : World} (h : Fld 93 w g v S) (hm : Mods [] w W) (hr : Row W b 81 #[.string x, .string y]) (hb : w.heap.size ≤ b) (h1 : x.size ≤ 1000000) (h2 : y.size ≤ 1000000) :
    Calls Tryz.prog 83 #[ptr g, .slice (some ⟨b, 0, none⟩) 1 1] W fun e w' =>
      ∃ u, e = .returned (.tuple #[.int .i64 ((addR S.length [(x, y)]).1 : Nat), .int .i64 (addR S.length [(x, y)]).2]) ∧ Added 93 W g v (addF S [(x, y)]) u w' := by
  refine add_a (.slice (some ⟨b, 0, none⟩) 1 1) [(x, y)] _ (h.low hm) (.inr ⟨b, 0, 1, rfl, by simp, hr.lt, fun j hj => ?_⟩) (by simp) ?_ ?_
  · obtain rfl : j = 0 := by (have : j < 1 := hj); omega
    exact ⟨hr.cell 0, hr.cell 1⟩
  · intro p hp; rw [List.mem_singleton] at hp; subst hp; exact ⟨h1, h2⟩
  · intro _ k hk
    have hk2 : k = b := by simpa [Value.ownBlock, eq_comm] using hk
    subst hk2
    exact ⟨fun e => by have := h.row.lt; omega, fun hk3 => by have := h.lt _ hk3; omega⟩
theorem HdC.added {hb g : Nat} {v u st : Value} {W1 Wd w4 : World} {h h' : HdP} {e z : Int} {S' : List FV} (c : HdC hb g v st W1 h e z) (ha : Added 93 Wd g v S' u w4) (mm : Mods (g :: v.ownBlock.toList) W1 w4)
    (h1 : h'.S = S') (h2 : headCells g st e z h' = headCells g st e z h) (h3 : h'.started = h.started) (h4 : h'.startCells = h.startCells) : HdC hb g u st w4 h' e z := by
  refine ⟨?_, by rw [h1]; exact ha.fld, (c.sta.mods mm (fun k hk hk2 => ?_)).of_eq h3 h4⟩
  · rw [h2]
    refine c.row.mods mm (fun hk => ?_)
    rcases List.mem_cons.1 hk with e | e
    · exact c.ne_g e.symm
    · exact (c.ne_v hb e).1 rfl
  · obtain ⟨a1, a2, a3⟩ := c.ne_s k hk
    rcases List.mem_cons.1 hk2 with e | e
    · exact a2 e
    · exact a3 e
set_option maxRecDepth 10000 in
set_option maxHeartbeats 2000000 in
theorem lay_a {hb g : Nat} {v st : Value} {w : World} {h : HdP} {e z : Int} (s : ByteArray) (hs : s.size ≤ 1000) (c : HdC hb g v st w h e z) :
    Calls Tryz.prog 89 #[ptr hb, .string s] w fun r w' => r = .returned (.int .i64 (layS h s)) ∧
      Hid (∃ u, HdC hb g u st w' (layP h s) e z ∧ Mods (hbl hb g v st) w w' ∧ ∀ k ∈ u.ownBlock.toList, k ∈ v.ownBlock.toList ∨ w.heap.size ≤ k) := by
  have HP := Lib.hid (fparse_a s w (by omega))
  have HPO := Lib.hid (par_ok (s := s))
  have HLS := Lib.hid (show layS h s = if (parR s).2 ≠ 0 then 400 else if 24 ≤ h.S.length then 431 else 0 from rfl)
  have HLP := Lib.hid (show layP h s = if layS h s = 0 then { h with S := h.S ++ [(parR s).1] } else h from rfl)
  unfold FPAns at HP
  obtain ⟨r, hr⟩ : ∃ r, r = parR s := ⟨_, rfl⟩
  rw [← hr] at HP HPO HLS HLP
  clear hr
  obtain ⟨⟨x, y⟩, n⟩ := r
  simp only at HP HPO HLS HLP
  have HC := Lib.hid c
  have HCM := Lib.hid (fun W (hm : Mods [] w W) => c.low hm)
  by_cases n0 : n = 0
  · subst n0
    obtain ⟨hok, hx, hy⟩ := HPO.out rfl
    have ha := addR_one (n := h.S.length) hok
    have hf := addF_one (S := h.S) hok
    have HL := Lib.hid (show layS h s = if 24 ≤ h.S.length then 431 else 0 by rw [HLS.out]; exact if_neg (by decide))
    have h24 := c.fld.len
    obtain ⟨w1, hw1⟩ : ∃ w1 : World, True := ⟨w, trivial⟩
    have HAD := Lib.hid (fun W b (hm : Mods [] w W) (hr : Row W b 81 #[.string x, .string y]) (hb : w.heap.size ≤ b) => add_one13 x y c.fld hm hr hb (by omega) (by omega))
    rw [ha, hf] at HAD
    have HNV := Lib.hid c.ne_v
    have HNG := Lib.hid c.ne_g
    have HLT := Lib.hid c.lt
    have HNS := Lib.hid c.ne_s
    clear hw1 w1 HPO HLS hok ha hf c
    unfold ptr at *
    obtain ⟨m, hm⟩ : ∃ m, m = h.S.length := ⟨_, rfl⟩
    rw [← hm] at HAD HL h24
    obtain ⟨S', hS'⟩ : ∃ S', S' = (if m = 24 then h.S else h.S ++ [(x, y)]) := ⟨_, rfl⟩
    rw [← hS'] at HAD
    have HS' := Lib.hid hS'
    clear hS' hm
    have HHB := Lib.hid (show hb ∉ g :: v.ownBlock.toList from fun hk => by
      rcases List.mem_cons.1 hk with e | e
      · exact HNG.out e.symm
      · exact (HNV.out hb e).1 rfl)
    have HLT2 := Lib.hid (show ∀ k ∈ g :: v.ownBlock.toList, k < w.heap.size from fun k hk => by
      refine HLT.out k ?_
      rcases List.mem_cons.1 hk with e | e
      · rw [e]; simp
      · simp [e])
    by_cases hn : m = 24
    · subst hn
      have HX := Lib.hid (show layS h s = 431 from HL.out)
      have HY := Lib.hid (show layP h s = h by rw [HLP.out, HX.out]; exact if_neg (by decide))
      simp only [if_true] at HAD
      clear HL HLP h24
      go_enter Tryz.func89, Tryz.ntmps89
      go_upto_region 4 with (go_at_call 110; refine HP.out.mono ?_; rintro e w1 ⟨rfl, hm⟩; have M0 := Lib.hid hm; clear hm)
      obtain ⟨W1, hW1⟩ : ∃ W1, W1 = w1.alloc (.cells #[.string x, .string y] 81) := ⟨_, rfl⟩
      obtain ⟨tb, htb⟩ : ∃ tb, tb = w1.heap.size := ⟨_, rfl⟩
      have m1 : Mods [] w W1 := by rw [hW1]; exact M0.out.alloc _
      have r1 : Row W1 tb 81 #[.string x, .string y] := by rw [hW1, htb]; exact Row.new _ _ _
      have htw : w.heap.size ≤ tb := by rw [htb]; exact M0.out.size
      rw [← hW1, ← htb]
      have t0 : W1.cell? ⟨tb, 0, none⟩ = some (.string x) := r1.cell 0
      have t1 : W1.cell? ⟨tb, 1, none⟩ = some (.string y) := r1.cell 1
      have c1 := HCM.out _ m1
      have c0 : W1.cell? ⟨hb, 0, none⟩ = some (.pointer (some ⟨g, 0, none⟩)) := c1.row.cell 0
      have x1 : ¬ hb = W1.heap.size := Nat.ne_of_lt c1.row.lt
      have x2 : ¬ W1.heap.size = hb := fun e => x1 e.symm
      have x3 : ¬ tb = W1.heap.size := Nat.ne_of_lt r1.lt
      have x4 : ¬ W1.heap.size = tb := fun e => x3 e.symm
      have R1 := Lib.hid r1
      have M1 := Lib.hid m1
      have HTW := Lib.hid htw
      clear hW1 htb r1 m1 c1 htw
      go_region_held3 (fun w' => w'.cell? ⟨hb, 0, none⟩ = some (.pointer (some ⟨g, 0, none⟩)) ∧ w'.cell? ⟨tb, 0, none⟩ = some (.string x) ∧ w'.cell? ⟨tb, 1, none⟩ = some (.string y)) (go_keep) ((go_at_call 83; refine (HAD.out _ W1.heap.size ((M1.out.alloc (.cells #[.string x, .string y] 81)).drew) (Row.new W1 81 #[.string x, .string y]) M1.out.size).mono ?_; rintro e w4 ⟨u, rfl, ha⟩; have HA := Lib.hid ha; have mm := ((Mods.refl _ W1).alloc (.cells #[.string x, .string y] 81)).drew.trans ha.mods (fun k hk => .inl hk); have hbg : hb ∉ g :: v.ownBlock.toList := HHB.out; have htg : tb ∉ g :: v.ownBlock.toList := (fun hk => by (have h1 := HLT2.out tb hk; have h2 := HTW.out; omega)); have d0 := cell_mods c0 mm hbg; have d1 := cell_mods t0 mm htg; have d2 := cell_mods t1 mm htg; have MM := Lib.hid mm; clear ha mm hbg htg))
      go_wp2
      go_ret
      refine ⟨by rw [HX.out]; rfl, Lib.hid ⟨u, ?_, ?_, fun k hk => ?_⟩⟩
      · rw [HY.out]
        exact (HCM.out _ M1.out).added HA.out MM.out (by rw [HS'.out]; simp) rfl rfl rfl
      · exact (M1.out.more (F2 := hbl hb g v st) (by simp)).trans MM.out (fun k hk => .inl (by rcases List.mem_cons.1 hk with e | e <;> simp [e]))
      · rcases HA.out.news k hk with h1 | h1
        · exact .inl h1
        · exact .inr (by have h2 := M1.out.size; simp at h1; omega)
    · have HX := Lib.hid (show layS h s = 0 by rw [HL.out]; exact if_neg (by omega))
      have HY := Lib.hid (show layP h s = { h with S := h.S ++ [(x, y)] } by rw [HLP.out, HX.out]; exact if_pos rfl)
      have HNN := Lib.hid hn
      rw [if_neg hn] at HAD
      clear HL HLP h24 hn
      go_enter Tryz.func89, Tryz.ntmps89
      go_upto_region 4 with (go_at_call 110; refine HP.out.mono ?_; rintro e w1 ⟨rfl, hm⟩; have M0 := Lib.hid hm; clear hm)
      obtain ⟨W1, hW1⟩ : ∃ W1, W1 = w1.alloc (.cells #[.string x, .string y] 81) := ⟨_, rfl⟩
      obtain ⟨tb, htb⟩ : ∃ tb, tb = w1.heap.size := ⟨_, rfl⟩
      have m1 : Mods [] w W1 := by rw [hW1]; exact M0.out.alloc _
      have r1 : Row W1 tb 81 #[.string x, .string y] := by rw [hW1, htb]; exact Row.new _ _ _
      have htw : w.heap.size ≤ tb := by rw [htb]; exact M0.out.size
      rw [← hW1, ← htb]
      have t0 : W1.cell? ⟨tb, 0, none⟩ = some (.string x) := r1.cell 0
      have t1 : W1.cell? ⟨tb, 1, none⟩ = some (.string y) := r1.cell 1
      have c1 := HCM.out _ m1
      have c0 : W1.cell? ⟨hb, 0, none⟩ = some (.pointer (some ⟨g, 0, none⟩)) := c1.row.cell 0
      have x1 : ¬ hb = W1.heap.size := Nat.ne_of_lt c1.row.lt
      have x2 : ¬ W1.heap.size = hb := fun e => x1 e.symm
      have x3 : ¬ tb = W1.heap.size := Nat.ne_of_lt r1.lt
      have x4 : ¬ W1.heap.size = tb := fun e => x3 e.symm
      have R1 := Lib.hid r1
      have M1 := Lib.hid m1
      have HTW := Lib.hid htw
      clear hW1 htb r1 m1 c1 htw
      go_region_held3 (fun w' => w'.cell? ⟨hb, 0, none⟩ = some (.pointer (some ⟨g, 0, none⟩)) ∧ w'.cell? ⟨tb, 0, none⟩ = some (.string x) ∧ w'.cell? ⟨tb, 1, none⟩ = some (.string y)) (go_keep) ((go_at_call 83; refine (HAD.out _ W1.heap.size ((M1.out.alloc (.cells #[.string x, .string y] 81)).drew) (Row.new W1 81 #[.string x, .string y]) M1.out.size).mono ?_; rintro e w4 ⟨u, rfl, ha⟩; have HA := Lib.hid ha; have mm := ((Mods.refl _ W1).alloc (.cells #[.string x, .string y] 81)).drew.trans ha.mods (fun k hk => .inl hk); have hbg : hb ∉ g :: v.ownBlock.toList := HHB.out; have htg : tb ∉ g :: v.ownBlock.toList := (fun hk => by (have h1 := HLT2.out tb hk; have h2 := HTW.out; omega)); have d0 := cell_mods c0 mm hbg; have d1 := cell_mods t0 mm htg; have d2 := cell_mods t1 mm htg; have MM := Lib.hid mm; clear ha mm hbg htg))
      go_wp2
      go_ret
      refine ⟨by rw [HX.out]; rfl, Lib.hid ⟨u, ?_, ?_, fun k hk => ?_⟩⟩
      · rw [HY.out]
        exact (HCM.out _ M1.out).added HA.out MM.out (by rw [HS'.out, if_neg HNN.out]) rfl rfl rfl
      · exact (M1.out.more (F2 := hbl hb g v st) (by simp)).trans MM.out (fun k hk => .inl (by rcases List.mem_cons.1 hk with e | e <;> simp [e]))
      · rcases HA.out.news k hk with h1 | h1
        · exact .inl h1
        · exact .inr (by have h2 := M1.out.size; simp at h1; omega)
  · have hne : (n != 0) = true := by simpa using n0
    have HX := Lib.hid (show layS h s = 400 by rw [HLS.out, if_pos n0])
    have HY := Lib.hid (show layP h s = h by rw [HLP.out, HX.out]; exact if_neg (by decide))
    clear n0 HLS HLP HPO c
    unfold ptr
    go_enter Tryz.func89, Tryz.ntmps89
    go_wp2_with (go_at_call 110; refine HP.out.mono ?_; rintro e w1 ⟨rfl, hm⟩; have M1 := Lib.hid hm; clear hm)
    go_ret
    exact ⟨by rw [HX.out]; rfl, Lib.hid ⟨v, by rw [HY.out]; exact HCM.out _ (M1.out.alloc _), (M1.out.alloc _).more (by simp), fun k hk => .inl hk⟩⟩
end Go.Proofs.YtgkhelbpccehcaaGreatDoor
