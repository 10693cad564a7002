/- For every two texts and number, what was dropped is never written nor told, and the next piece has the next number: the law returns true. Condition: none. -/
import Derived.Test.YtgahnediigmihaaRows
import Derived.WalkKit
import Derived.ProofKit
import Derived.OpenShut
import Derived.ShutString
import Derived.ChangeOld
import Derived.Below
import Derived.SizedLaws
import Derived.Test.YtgahnediigmihaaOpenQ
import Derived.Test.YtgahnediigmihaaKnownQ
import Derived.Deep.RegionHeld3
import Derived.Deep.RegionWith
import Derived.Deep.DeepCutAuto
import Derived.Deep.CutBlock
namespace Go.Proofs.Ytgahnediigmihaa.outqDrops
open Go.ChangeShapes Go.WideShapes Go.ChangeAt Go.RowKit
open Go.ChangeMaps (open_string shut_string)
set_option linter.unusedVariables false
set_option maxRecDepth 100000
set_option linter.unusedSimpArgs false
theorem wh_one (x W : Int) (h : x ≤ W) : wh [x] W = 1 := by simp [wh, h]
theorem rows_len {w : World} {F : List Nat} (r : Rw) {n : Nat} (hn : n = r.l.length) (hF : ∀ b ∈ F, b < w.heap.size) (h : r.Ok w F) : RowsAt (w.alloc (.cells #[.slice r.A n r.c] 28)) F w.heap.size [r] := by
  subst hn
  exact rows_one r rfl h (fun hb => by have := hF _ hb; omega)
set_option maxHeartbeats 2000000 in
theorem main (W : World) (a : Rw) (ha : Came W a) (n : Int) (b : Rw) (hb : Came W b) (hla : a.l.length ≤ 6000) (hlb : b.l.length ≤ 6000) :
    Calls Try.prog 7 #[.slice a.A a.l.length a.c, .int .i64 n, .slice b.A b.l.length b.c] W fun e w' => e = .returned (.bool true) ∧ Below W.heap.size W w' := by
  have hn := eql_qnil
  have HA := Lib.hid ha
  have HB := Lib.hid hb
  have ca := ha.2
  have cb := hb.2
  obtain ⟨p, hp, hp2⟩ : ∃ p : Nat, bits BinOp.and IntKind.i64 n 8191 = (p : Int) ∧ p ≤ 8191 := and_mask n 8191 (by decide)
  clear ha hb
  go_enter Try.func7, Try.ntmps7
  go_wp2_with fail
  refine (qnew_any W).mono ?_
  rintro e w1 ⟨rfl, hq, hm⟩
  have Q1 := Lib.hid hq
  have M1 := Lib.hid hm
  have L1 := Lib.hid (show W.heap.size < w1.heap.size from hq.lt _ (by simp))
  have HRA := Lib.hid (show a.Ok w1 [W.heap.size] from (HA.out.ok (F := [W.heap.size]) (by simp)).mods (hm.more (by simp)))
  clear hq hm
  go_wp2_with fail
  refine (add_as _ W.heap.size [W.heap.size] [] [] a.l [(a.l.length : Int)] 0 0 _ 1 1 [a] 1 (Q1.out.quiet ((Mods.refl [] _).alloc _)) (Parts.of_rows (rows_len a rfl (by have := L1.out; simp; exact this) HRA.out)) rfl (by unfold maxLen; omega) (by simp [flatR]) (by simp) rfl (by omega) (by simp)).mono ?_
  rintro e w2 ⟨rfl, hd⟩
  obtain ⟨F2, q2, m2, n2⟩ := hd.out
  have Q2 := Lib.hid q2
  have M2 := Lib.hid (show Mods [] W w2 from (M1.out.alloc _).trans m2 (by simp))
  have G2 := Lib.hid (show ∀ k ∈ F2, W.heap.size ≤ k from fun k hk => by
    rcases n2 k hk with h | h
    · simp at h; omega
    · have := M1.out.size; simp at h; omega)
  clear hd q2 m2 n2
  go_upto_region 8 with fail
  have hpp : (if 0 < p then (p : Int) else 0) = (p : Int) := by split <;> omega
  simp only [hpp]
  obtain ⟨kk, hkk, hk1, hk2⟩ : ∃ kk : Nat, (if (p : Int) < (a.l.length : Int) then (p : Int) else (a.l.length : Int)) = (kk : Int) ∧ kk ≤ a.l.length ∧ kk ≤ 6000 := by
    split
    · exact ⟨p, rfl, by omega, by omega⟩
    · exact ⟨a.l.length, rfl, by omega, by omega⟩
  rw [hkk]
  clear hkk hpp hp hp2
  obtain ⟨q, B', E', T', l, hq1, hq2, hq3, hq4, hq5, -, -⟩ : ∃ (q : Nat) (B' E' : List Int) (T' : Nat) (l : List Int), Hid (wh [(a.l.length : Int)] ((0 + kk : Nat) : Int) = q ∧ a.l.drop kk = B' ∧ [(a.l.length : Int)].drop q = E' ∧ 0 + q = T' ∧ upto 0 q = l) ∧
      Hid (T' + E'.length = 1) ∧ ((B'.length : Int) != (a.l.length : Int) - (kk : Int)) = false ∧ B'.length + kk ≤ 6000 ∧ ((q = 1 ∧ kk = a.l.length) ∨ (q = 0 ∧ ¬ kk = a.l.length)) ∧ q ≤ 1 ∧ True := by
    by_cases hc : kk = a.l.length
    · refine ⟨1, a.l.drop kk, [], 1, upto 0 1, Lib.hid ⟨wh_of _ _ 1 (by simp) (fun j x hj hx => ?_) (.inl rfl), rfl, rfl, rfl, rfl⟩, Lib.hid rfl, ?_, by rw [List.length_drop]; omega, .inl ⟨rfl, hc⟩, by omega, trivial⟩
      · obtain rfl : j = 0 := by omega
        simp at hx; omega
      · rw [List.length_drop]; simp; omega
    · refine ⟨0, a.l.drop kk, [(a.l.length : Int)], 0, upto 0 0, Lib.hid ⟨wh_of _ _ 0 (by simp) (fun j x hj hx => by omega) (.inr ⟨_, rfl, by omega⟩), rfl, rfl, rfl, rfl⟩, Lib.hid rfl, ?_, by rw [List.length_drop]; omega, .inr ⟨rfl, hc⟩, by omega, trivial⟩
      rw [List.length_drop]; simp; omega
  have HB4 := Lib.hid hq4
  go_wp2_with fail
  refine (done_as w2 W.heap.size kk q kk F2 a.l [(a.l.length : Int)] B' E' l 0 0 kk T' Q2.out (by unfold clamp; omega) hq1.out.1 hq1.out.2.1 hq1.out.2.2.1 (by omega) hq1.out.2.2.2.1 hq1.out.2.2.2.2).mono ?_
  rintro e w3 ⟨A3, c3, rfl, hd⟩
  obtain ⟨⟨F3, q3, m3, n3, o3, b3⟩, -, h31, h32⟩ := hd.out
  have Q3 := Lib.hid q3
  have M3 := Lib.hid (show Mods [] W w3 from M2.out.trans m3 (fun k hk => .inr (G2.out k hk)))
  have G3 := Lib.hid (show ∀ k ∈ F3, W.heap.size ≤ k from fun k hk => by
    rcases n3 k hk with h | h
    · exact G2.out k h
    · have := M2.out.size; omega)
  clear hd q3 m3 n3 o3 b3
  go_wp2_with fail
  refine (drop_any w3 W.heap.size F3 B' E' kk T' Q3.out).mono ?_
  rw [hq2.out]
  rintro e w4 ⟨rfl, hd⟩
  obtain ⟨F4, q4, m4, n4⟩ := hd.out
  have Q4 := Lib.hid q4
  have M4 := Lib.hid (show Mods [] W w4 from M3.out.trans m4 (fun k hk => .inr (G3.out k hk)))
  have G4 := Lib.hid (show ∀ k ∈ F4, W.heap.size ≤ k from fun k hk => by
    rcases n4 k hk with h | h
    · exact G3.out k h
    · have := M3.out.size; omega)
  clear hd q4 m4 n4
  have hq5 : (q = 1 ∧ ((kk : Int) == (a.l.length : Int)) = true) ∨ (q = 0 ∧ ((kk : Int) == (a.l.length : Int)) = false) := by
    rcases hq5 with ⟨h, hc⟩ | ⟨h, hc⟩
    · exact .inl ⟨h, by simp [hc]⟩
    · exact .inr ⟨h, by simp; omega⟩
  rcases hq5 with ⟨rfl, hc⟩ | ⟨rfl, hc⟩
  all_goals
    go_wp2_with fail
    refine (done_as w4 W.heap.size 0 0 9 F4 [] [] [] [] [] kk 1 kk 1 Q4.out rfl rfl rfl rfl rfl rfl rfl).mono ?_
    rintro e w5 ⟨A5, c5, rfl, hd⟩
    obtain ⟨⟨F5, q5, m5, n5, o5, b5⟩, -, h51, h52⟩ := hd.out
    have Q5 := Lib.hid q5
    have M5 := Lib.hid (show Mods [] W w5 from M4.out.trans m5 (fun k hk => .inr (G4.out k hk)))
    have G5 := Lib.hid (show ∀ k ∈ F5, W.heap.size ≤ k ∧ k < w5.heap.size from fun k hk => ⟨by
      rcases n5 k hk with h | h
      · exact G4.out k h
      · have := M4.out.size; omega, q5.lt k hk⟩)
    have HRB := Lib.hid (show b.Ok w5 F5 from (HB.out.ok (F := F5) (fun k hk => (G5.out k hk).1)).mods (M5.out.more (by simp)))
    clear hd q5 m5 n5 o5 b5 hq3
    go_wp2_with fail
    refine (add_as _ W.heap.size F5 [] [] b.l [(kk : Int) + (b.l.length : Int)] kk 1 _ 1 1 [b] 2 (Q5.out.quiet ((Mods.refl [] _).alloc _)) (Parts.of_rows (rows_len b rfl (fun k hk => (G5.out k hk).2) HRB.out)) rfl (by unfold maxLen; omega) (by simp [flatR]) rfl rfl (by omega) (by simp)).mono ?_
    rintro e w6 ⟨rfl, hd⟩
    obtain ⟨F6, q6, m6, n6⟩ := hd.out
    have Q6 := Lib.hid q6
    have M6 := Lib.hid (show Mods [] W w6 from (M5.out.alloc _).trans m6 (fun k hk => .inr (G5.out k hk).1))
    have G6 := Lib.hid (show ∀ k ∈ F6, W.heap.size ≤ k from fun k hk => by
      rcases n6 k hk with h | h
      · exact (G5.out k h).1
      · have := M5.out.size; simp at h; omega)
    clear hd q6 m6 n6
    go_wp2_with fail
    refine (next_as w6 W.heap.size b.l.length b.l.length F6 b.l [(kk : Int) + (b.l.length : Int)] b.l kk 1 Q6.out (by unfold clamp; exact List.take_of_length_le (by omega)) rfl).mono ?_
    rintro e w7 ⟨A7, c7, rfl, hd⟩
    have N7 := Lib.hid hd.out
    clear hd
    go_wp2_with fail
    refine (same_yes w7 A7 b.A b.l b.l.length b.l.length c7 b.c rfl rfl (N7.out.at0 (Mods.refl _ _)) ((HB.out.1.mods M6.out).mods N7.out.mods) (by omega)).mono ?_
    rintro e w8 ⟨rfl, hm⟩
    have M8 := Lib.hid (show Mods [] w6 w8 from N7.out.mods.trans hm (by simp))
    clear hm
    go_wp2_with fail
    refine (done_as w8 W.heap.size b.l.length 1 b.l.length F6 b.l [(kk : Int) + (b.l.length : Int)] [] [] [2] kk 1 (kk + b.l.length) 2 (Q6.out.quiet M8.out) (by unfold clamp; omega) (wh_one _ _ (by omega)) (List.drop_of_length_le (Nat.le_refl _)) rfl rfl rfl rfl).mono ?_
    rintro e w9 ⟨A9, c9, rfl, hd⟩
    obtain ⟨⟨F9, q9, m9, n9, o9, b9⟩, -, h91, h92⟩ := hd.out
    have M9 := Lib.hid (show Mods [] W w9 from (M6.out.trans M8.out (by simp)).trans m9 (fun k hk => .inr (G6.out k hk)))
    have O9 := Lib.hid o9
    clear hd q9 m9 n9 o9 b9
    go_wp2_with fail
    refine (ints_yes _ A9 (some ⟨w9.heap.size, 0, none⟩) [2] 1 1 c9 1 rfl rfl ((O9.out.alloc _).src) (Src.nums w9 _ [2]) (by decide)).mono ?_
    rintro e w10 ⟨rfl, hm⟩
    have M10 := Lib.hid (show Mods [] W w10 from (M9.out.alloc _).trans hm (by simp))
    clear hm
    go_wp2_with fail
    refine (known_any _).mono ?_
    rintro e w11 ⟨rfl, hm⟩
    have M11 := Lib.hid (M10.out.trans hm (by simp))
    clear hm
    go_wp2
    go_ret
    exact ⟨rfl, M11.out.below⟩
theorem walk (W : World) (a : Rw) (ha : Came W a) (n : Int) (hn : (Lit.int .i64 n).wf = true) (b : Rw) (hb : Came W b) :
    Calls Try.prog 7 #[.slice a.A a.l.length a.c, .int .i64 n, .slice b.A b.l.length b.c] W fun e w' => e = .returned (.bool true) ∧ Below W.heap.size W w' := by
  by_cases h : a.l.length ≤ 6000 ∧ b.l.length ≤ 6000
  · exact main W a ha n b hb h.1 h.2
  · have hc : 6000 < a.l.length ∨ (¬ 6000 < a.l.length ∧ 6000 < b.l.length) := by omega
    have ca := ha.2
    have cb := hb.2
    clear h hn ha hb
    rcases hc with h | ⟨h, h2⟩
    all_goals
      go_enter Try.func7, Try.ntmps7
      go_wp2
      go_ret
      exact ⟨rfl, Below.refl _ _⟩

theorem own : ownKnob Try.prog.godebug = none := by kernel_rfl
theorem laidOut : laidOutB Try.prog = true := by kernel_rfl
set_option maxRecDepth 100000 in
theorem lifted (os : Os) (started : os.Started) (H : Type) (enc : TypeId × Value → H) :
    ReturnsInHanded {} Try.checked os 7 .any (Rows.outqDropsSpec.pre6 enc Try.prog Try.f7 Rows.outqDropsRow.domain false) (Rows.outqDropsSpec.post enc Try.prog Try.f7 false true false false) := by
  refine returnsInHanded_of_change_sized (C := Try.checked) own started (by kernel_rfl) Try.func7
    (ChangeSpec.witness6 (enc := enc) (C := Try.checked) false ⟨#[], #[.slice none 0 0, .int .i64 0, .slice none 0 0], []⟩ 8 (by kernel_rfl) (by kernel_rfl) (by kernel_rfl) (by kernel_rfl)) ?_
  intro W base args ds gs before hval0 hW hcnd hsz0 _
  have hsz : (DataW.weightsEach Try.prog (Try.f7.params.toList ++ Rows.outqDropsSpec.plain.varTypes Try.prog) (ds ++ gs)).all (· ≤ reachBytes) = true := hsz0
  have hval : ∀ (j : Nat) t v, Try.f7.params[j]? = some t → args[j]? = some v → Value.okWide Try.prog W .any base t v := hval0
  have hW' := hW
  obtain ⟨p, q, hA0, hV, rfl, hfz, hnd⟩ := hW
  have hA : DataW.TrodAll enc Try.prog W 0 (fun _ => true) true Try.f7.params.toList args.toList ds p := hA0
  rw [Try.params7] at hA hval hsz
  obtain ⟨v0, vs0, d0, ds0, p0, q0, hargs, rfl, rfl, h0, r0⟩ := trodAll_cons hA
  obtain ⟨v1, vs1, d1, ds1, p1, q1, rfl, rfl, rfl, h1, r1⟩ := trodAll_cons r0
  obtain ⟨v2, vs2, d2, ds2, p2, q2, rfl, rfl, rfl, h2, r2⟩ := trodAll_cons r1
  obtain ⟨rfl, rfl, rfl⟩ := trodAll_nil r2
  obtain rfl : args = #[v0, v1, v2] := by cases args; simp_all
  obtain ⟨rfl, rfl⟩ := trodVars_none hV
  have k0 := h0
  have lt0 : ∀ x ∈ p0, x.block < W.heap.size := by obtain ⟨m, hm⟩ := k0; exact DataW.trod_lt m _ _ _ hm
  obtain ⟨b0, rfl, wb0⟩ := open_bytes (hval 0 28 v0 rfl rfl) k0 (fun n hn => by simpa using List.all_eq_true.1 hsz n (DataW.weights_mem_each (j := 0) (t := 28) rfl rfl n hn))
  obtain ⟨a1, rfl, rfl, rfl, w1⟩ := open_int Try.underlying3 (hval 1 3 v1 rfl rfl) h1
  have k2 := h2
  have lt2 : ∀ x ∈ p2, x.block < W.heap.size := by obtain ⟨m, hm⟩ := k2; exact DataW.trod_lt m _ _ _ hm
  obtain ⟨b2, rfl, wb2⟩ := open_bytes (hval 2 28 v2 rfl rfl) k2 (fun n hn => by simpa using List.all_eq_true.1 hsz n (DataW.weights_mem_each (j := 2) (t := 28) rfl rfl n hn))
  clear hA0 hval0 hsz0 hsz
  refine (walk W b0 wb0 a1 w1 b2 wb2).mono fun e W' ⟨he, bel⟩ => ?_
  subst he
  exact ⟨_, rfl, _, _, _, [], _, [], hW', trodAll_mk1 (shut_bool Try.underlying4 _), (trodAll_cons_mk (Below.trod laidOut (by kernel_rfl) (of_decide_eq_true (by kernel_rfl)) k0 bel lt0) (trodAll_cons_mk (shut_int Try.underlying3 w1) (trodAll_cons_mk (Below.trod laidOut (by kernel_rfl) (of_decide_eq_true (by kernel_rfl)) k2 bel lt2) trodAll_mk0))), rfl, bel.frame _, fun h => by cases h⟩

theorem over : Rows.outqDropsRow.holds Try.pinned (OpenSpec.ofChange Rows.outqDropsSpec) :=
  OpenClaim.holds_of_wide 7 Try.f7 rfl rfl rfl rfl rfl rfl rfl ⟨rfl, rfl, rfl, rfl, rfl⟩ rfl rfl rfl rfl rfl (by kernel_rfl) Try.func7 (by kernel_rfl)
    (of_decide_eq_true (by kernel_rfl)) (by unfold Func.isWrapper; first | (rw [if_pos (by decide +kernel)]; kernel_rfl) | (rw [if_neg (by decide +kernel)]; exact ⟨rfl, rfl⟩))
    (fun os started H enc _ => lifted os started H enc)

theorem proved : Rows.OutqDropsSaid := over
end Go.Proofs.Ytgahnediigmihaa.outqDrops
