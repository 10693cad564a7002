/- The code's Of: how a request goes on, or the status by which it is refused. Conditions: names of at most a million bytes, values of at most 900000 bytes in all. -/
import Derived.Test.YtcliapfoimnkiaaDoorFy12
import Derived.Test.YtcliapfoimnkiaaDoorHw12
import Derived.Laws.EntriesVeiled
namespace Go.Proofs.YtcliapfoimnkiaaDoor
open Go.RowKit
set_option linter.unusedVariables false
set_option linter.unusedSimpArgs false

theorem frm_end {m : Int} {S : List FV} (h : hostOk m (valsF S nHost) = true) (h2 : (bodyS m S).2.2 = 0) (h3 : toksO (valsF S nCon) ≠ none) (h4 : expS m S = 0) :
    frmN m S = (⟨(bodyS m S).1, (bodyS m S).2.1, closeS m (valsF S nCon), expX m (bodyS m S).1 (bodyS m S).2.1 S⟩, 0) := by
  unfold expX
  by_cases hx : m = 1 ∧ valsF S nExp ≠ []
  · have hs : sameL (getF S nExp) contB = true := by
      cases hs : sameL (getF S nExp) contB with
      | true => rfl
      | false => unfold expS at h4; rw [if_pos ⟨hx.1, hx.2, hs⟩] at h4; cases h4
    rw [frm_exp h h2 h3 hx hs, decide_eq_true hx, Bool.true_and]
    congr 3
    rw [Bool.eq_iff_iff]; simp
  · rw [frm_plain h h2 h3 hx, decide_eq_false hx]; rfl
theorem frm_exp417 {m : Int} {S : List FV} (h : hostOk m (valsF S nHost) = true) (h2 : (bodyS m S).2.2 = 0) (h3 : toksO (valsF S nCon) ≠ none) (h4 : expS m S ≠ 0) : frmN m S = (noH, 417) ∧ expS m S = 417 := by
  by_cases hx : m = 1 ∧ valsF S nExp ≠ [] ∧ sameL (getF S nExp) contB = false
  · exact ⟨frm_417 h h2 h3 ⟨hx.1, hx.2.1⟩ hx.2.2, by unfold expS; rw [if_pos hx]⟩
  · exact absurd (by unfold expS; rw [if_neg hx]) h4

abbrev fnsA : Array Value := #[.func (.func 9) #[] #[], .func (.func 10) #[] #[], .func (.func 11) #[] #[], .func (.func 12) #[] #[]]
theorem index_0 (w : World) : (Instr.index 45 (.agg fnsA) (.int .i64 0)).run Tryd.prog w = .ok (.func (.func 9) #[] #[]) w := by kernel_rfl
theorem index_1 (w : World) : (Instr.index 45 (.agg fnsA) (.int .i64 1)).run Tryd.prog w = .ok (.func (.func 10) #[] #[]) w := by kernel_rfl
theorem index_2 (w : World) : (Instr.index 45 (.agg fnsA) (.int .i64 2)).run Tryd.prog w = .ok (.func (.func 11) #[] #[]) w := by kernel_rfl
theorem index_3 (w : World) : (Instr.index 45 (.agg fnsA) (.int .i64 3)).run Tryd.prog w = .ok (.func (.func 12) #[] #[]) w := by kernel_rfl
theorem start_of {w : World} {A : Option Addr} {S : List FV} {el : Bool} (hf : FP 36 w.heap.size w (.pointer A) S) :
    ∃ W, W = (((w.alloc (.cells #[.int .i64 0, .int .i64 0, .bool false, .bool false] 30)).alloc (.cells #[.bool el, .pointer A, .int .i64 0, .int .i64 0, .bool false, .bool false] 41)).alloc (.cells fnsA 45)) ∧
      WkA W (w.heap.size + 1) el (.pointer A) 0 0 false false ∧ Row W w.heap.size 30 noH.cells ∧ Mods [] w W ∧ FP 36 w.heap.size W (.pointer A) S := by
  have hm := (((Mods.refl [] w).alloc (.cells #[.int .i64 0, .int .i64 0, .bool false, .bool false] 30)).alloc (.cells #[.bool el, .pointer A, .int .i64 0, .int .i64 0, .bool false, .bool false] 41)).alloc (.cells fnsA 45)
  refine ⟨_, rfl, ?_, ((Row.new w _ _).alloc _).alloc _, hm, hf.low hm⟩
  have h := (Row.new (w.alloc (.cells #[.int .i64 0, .int .i64 0, .bool false, .bool false] 30)) 41 #[.bool el, .pointer A, .int .i64 0, .int .i64 0, .bool false, .bool false]).alloc (.cells fnsA 45)
  rw [World.size_alloc] at h
  exact h

set_option maxRecDepth 10000 in
set_option maxHeartbeats 2000000 in
theorem of_el {m : Int} {fp : Value} {S : List FV} {w : World} (el : Bool) (hel : decide (m < 1) = el) (hf : FP 36 w.heap.size w fp S) (hs : Lite S) :
    Calls Tryd.prog 6 #[.int .i64 m, fp] w (HAns w (frmN (minOf el) S)) := by
  obtain ⟨A, rfl⟩ := hf.form
  obtain ⟨W, hW, hk, hr, hm, hfW⟩ := start_of (el := el) hf
  have HRW := Lib.hid hr
  have HM := Lib.hid hm
  have H1' := host_w hk hfW hs
  have H2' := fun (w1 : World) (h : Mods [] W w1) => body_w (hk.mods h (by simp)) (hfW.low h) hs
  have H3' := fun (w1 : World) (k l : Int) (h : WkA w1 (w.heap.size + 1) el (.pointer A) k l false false) (hm : Mods [w.heap.size + 1] W w1) => connection_w h (hfW.mods hm (by simp)) hs
  have H4' := fun (w1 : World) (k l : Int) (c : Bool) (h : WkA w1 (w.heap.size + 1) el (.pointer A) k l c false) (hm : Mods [w.heap.size + 1] W w1) => expect_w h (hfW.mods hm (by simp)) hs
  unfold ptr at H1' H2' H3' H4'
  have i0 := index_0
  have i1 := index_1
  have i2 := index_2
  have i3 := index_3
  have HR := Lib.hid (fun (w1 : World) (hm : Mods [w.heap.size + 1] W w1) => hr.mods hm (by simp))
  have HMM := Lib.hid (fun (w1 : World) (hm1 : Mods [w.heap.size + 1] W w1) => hm.trans hm1 (fun k hk => .inr (by simp at hk; omega)))
  clear hk hr hm hfW hf hs
  cases h1 : hostOk (minOf el) (valsF S nHost) with
  | false =>
    have HE := Lib.hid (frm_host h1)
    rw [show hostS (minOf el) (valsF S nHost) = 400 by unfold hostS; rw [h1]; rfl] at H1'
    have H1 := Lib.hid H1'
    clear h1 H1' H2' H3' H4' i1 i2 i3
    go_enter Tryd.func6, Tryd.ntmps6
    go_wp2_with fail
    rw [← hW]
    clear hW
    refine wp_loop_rounds 5 ?_
    rw [rounds_succ]
    go_wp2_with (go_at_call 9; refine H1.out.mono ?_; rintro e w1 ⟨rfl, hm1⟩; have M0 := Lib.hid hm1; have M1 := Lib.hid (hm1.more (F2 := [w.heap.size + 1]) (by simp)); obtain ⟨k0, k1, k2, k3, f0, f1, f2, f3⟩ := (HR.out _ M1.out).factsH; clear hm1)
    exact end_H rfl (HR.out _ M1.out) Tryd.isAgg30 Tryd.sizeOf30 rfl rfl rfl HE.out (HMM.out _ M1.out) (Nat.le_refl _)
  | true =>
    rw [show hostS (minOf el) (valsF S nHost) = 0 by unfold hostS; rw [h1]; rfl] at H1'
    have H1 := Lib.hid H1'
    clear H1'
    by_cases h2 : (bodyS (minOf el) S).2.2 = 0
    · rw [h2] at H2'
      have H2 := Lib.hid H2'
      clear H2'
      by_cases h3 : toksO (valsF S nCon) = none
      · have HE := Lib.hid (frm_con h1 h2 h3)
        rw [show conS (valsF S nCon) = 400 by unfold conS; rw [if_pos h3]] at H3'
        have H3 := Lib.hid H3'
        clear h1 h2 h3 H3' H4' i3
        go_enter Tryd.func6, Tryd.ntmps6
        go_wp2_with fail
        rw [← hW]
        clear hW
        refine wp_loop_rounds 5 ?_
        rw [rounds_succ]
        go_wp2_with (go_at_call 9; refine H1.out.mono ?_; rintro e w1 ⟨rfl, hm1⟩; have M0 := Lib.hid hm1; have M1 := Lib.hid (hm1.more (F2 := [w.heap.size + 1]) (by simp)); clear hm1)
        rw [rounds_succ]
        go_wp2_with (go_at_call 10; refine (H2.out _ M0.out).mono ?_; rintro e w2 ⟨rfl, hk2, hm2⟩; have K2 := Lib.hid (hk2 rfl); have M2 := Lib.hid (M1.out.trans hm2 (fun _ h => .inl h)); clear hm2 hk2)
        rw [rounds_succ]
        go_wp2_with (go_at_call 11; refine (H3.out _ _ _ K2.out M2.out).mono ?_; rintro e w3 ⟨rfl, hk3, hm3⟩; have M3 := Lib.hid (M2.out.trans hm3 (fun _ h => .inl h)); obtain ⟨k0, k1, k2, k3, f0, f1, f2, f3⟩ := (HR.out _ M3.out).factsH; clear hm3 hk3)
        exact end_H rfl (HR.out _ M3.out) Tryd.isAgg30 Tryd.sizeOf30 rfl rfl rfl HE.out (HMM.out _ M3.out) (Nat.le_refl _)
      · rw [show conS (valsF S nCon) = 0 by unfold conS; rw [if_neg h3]] at H3'
        have H3 := Lib.hid H3'
        clear H3'
        by_cases h4 : expS (minOf el) S = 0
        · have HE := Lib.hid (frm_end h1 h2 h3 h4)
          rw [h4] at H4'
          have H4 := Lib.hid H4'
          clear h1 h2 h3 h4 H4'
          generalize (bodyS (minOf el) S).1 = bk at *
          generalize (bodyS (minOf el) S).2.1 = bl at *
          generalize closeS (minOf el) (valsF S nCon) = bc at *
          go_enter Tryd.func6, Tryd.ntmps6
          go_wp2_with fail
          rw [← hW]
          clear hW
          refine wp_loop_rounds 5 ?_
          rw [rounds_succ]
          go_wp2_with (go_at_call 9; refine H1.out.mono ?_; rintro e w1 ⟨rfl, hm1⟩; have M0 := Lib.hid hm1; have M1 := Lib.hid (hm1.more (F2 := [w.heap.size + 1]) (by simp)); clear hm1)
          rw [rounds_succ]
          go_wp2_with (go_at_call 10; refine (H2.out _ M0.out).mono ?_; rintro e w2 ⟨rfl, hk2, hm2⟩; have K2 := Lib.hid (hk2 rfl); have M2 := Lib.hid (M1.out.trans hm2 (fun _ h => .inl h)); clear hm2 hk2)
          rw [rounds_succ]
          go_wp2_with (go_at_call 11; refine (H3.out _ _ _ K2.out M2.out).mono ?_; rintro e w3 ⟨rfl, hk3, hm3⟩; have K3 := Lib.hid (hk3 rfl); have M3 := Lib.hid (M2.out.trans hm3 (fun _ h => .inl h)); clear hm3 hk3)
          rw [rounds_succ]
          go_wp2_with (go_at_call 12; refine (H4.out _ _ _ _ K3.out M3.out).mono ?_; rintro e w4 ⟨rfl, hk4, hm4⟩; have K4 := Lib.hid (hk4 rfl); have M4 := Lib.hid (M3.out.trans hm4 (fun _ h => .inl h)); have c2 : w4.cell? ⟨w.heap.size + 1, 2, none⟩ = some (.int .i64 bk) := K4.out.cell 2; have c3 : w4.cell? ⟨w.heap.size + 1, 3, none⟩ = some (.int .i64 bl) := K4.out.cell 3; have c4 : w4.cell? ⟨w.heap.size + 1, 4, none⟩ = some (.bool bc) := K4.out.cell 4; have c5 : w4.cell? ⟨w.heap.size + 1, 5, none⟩ = some (.bool (expX (minOf el) bk bl S)) := K4.out.cell 5; obtain ⟨k0, k1, k2, k3, f0, f1, f2, f3⟩ := (HR.out _ M4.out).factsH; clear hm4 hk4)
          rw [rounds_succ]
          go_wp2_with fail
          exact end_H rfl (HR.out _ M4.out) Tryd.isAgg30 Tryd.sizeOf30 rfl rfl rfl HE.out (HMM.out _ M4.out) (Nat.le_refl _)
        · obtain ⟨he, h5⟩ := frm_exp417 h1 h2 h3 h4
          have HE := Lib.hid he
          rw [h5] at H4'
          have H4 := Lib.hid H4'
          clear h1 h2 h3 h4 h5 he H4'
          go_enter Tryd.func6, Tryd.ntmps6
          go_wp2_with fail
          rw [← hW]
          clear hW
          refine wp_loop_rounds 5 ?_
          rw [rounds_succ]
          go_wp2_with (go_at_call 9; refine H1.out.mono ?_; rintro e w1 ⟨rfl, hm1⟩; have M0 := Lib.hid hm1; have M1 := Lib.hid (hm1.more (F2 := [w.heap.size + 1]) (by simp)); clear hm1)
          rw [rounds_succ]
          go_wp2_with (go_at_call 10; refine (H2.out _ M0.out).mono ?_; rintro e w2 ⟨rfl, hk2, hm2⟩; have K2 := Lib.hid (hk2 rfl); have M2 := Lib.hid (M1.out.trans hm2 (fun _ h => .inl h)); clear hm2 hk2)
          rw [rounds_succ]
          go_wp2_with (go_at_call 11; refine (H3.out _ _ _ K2.out M2.out).mono ?_; rintro e w3 ⟨rfl, hk3, hm3⟩; have K3 := Lib.hid (hk3 rfl); have M3 := Lib.hid (M2.out.trans hm3 (fun _ h => .inl h)); clear hm3 hk3)
          rw [rounds_succ]
          go_wp2_with (go_at_call 12; refine (H4.out _ _ _ _ K3.out M3.out).mono ?_; rintro e w4 ⟨rfl, hk4, hm4⟩; have M4 := Lib.hid (M3.out.trans hm4 (fun _ h => .inl h)); obtain ⟨k0, k1, k2, k3, f0, f1, f2, f3⟩ := (HR.out _ M4.out).factsH; clear hm4 hk4)
          exact end_H rfl (HR.out _ M4.out) Tryd.isAgg30 Tryd.sizeOf30 rfl rfl rfl HE.out (HMM.out _ M4.out) (Nat.le_refl _)
    · have HE := Lib.hid (frm_body h1 h2)
      have H2 := Lib.hid H2'
      have hne : ((bodyS (minOf el) S).2.2 != 0) = true := by simpa using h2
      generalize (bodyS (minOf el) S).2.2 = s2 at *
      clear h1 h2 H2' H3' H4' i2 i3
      go_enter Tryd.func6, Tryd.ntmps6
      go_wp2_with fail
      rw [← hW]
      clear hW
      refine wp_loop_rounds 5 ?_
      rw [rounds_succ]
      go_wp2_with (go_at_call 9; refine H1.out.mono ?_; rintro e w1 ⟨rfl, hm1⟩; have M0 := Lib.hid hm1; have M1 := Lib.hid (hm1.more (F2 := [w.heap.size + 1]) (by simp)); clear hm1)
      rw [rounds_succ]
      go_wp2_with (go_at_call 10; refine (H2.out _ M0.out).mono ?_; rintro e w2 ⟨rfl, hk2, hm2⟩; have M2 := Lib.hid (M1.out.trans hm2 (fun _ h => .inl h)); obtain ⟨k0, k1, k2, k3, f0, f1, f2, f3⟩ := (HR.out _ M2.out).factsH; clear hm2 hk2)
      exact end_H rfl (HR.out _ M2.out) Tryd.isAgg30 Tryd.sizeOf30 rfl rfl rfl HE.out (HMM.out _ M2.out) (Nat.le_refl _)
theorem of_f {m : Int} {fp : Value} {S : List FV} {w : World} (hf : FP 36 w.heap.size w fp S) (hs : Lite S) :
    Calls Tryd.prog 6 #[.int .i64 m, fp] w (HAns w (frm m S)) := by
  have h := of_el (m := m) _ rfl hf hs
  rw [show minOf (decide (m < 1)) = minN m by unfold minOf minN; simp only [decide_eq_true_eq]; split <;> split <;> omega] at h
  exact h
end Go.Proofs.YtcliapfoimnkiaaDoor
