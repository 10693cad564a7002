/- Start, How and New of the code's head. Conditions: none. -/
import Derived.Test.YtgkhelbpccehcaaGreatDoorMQF
import Derived.Test.YtgkhelbpccehcaaGreatDoorMQB
import Derived.Test.YtgkhelbpccehcaaGreatDoorMQD
import Derived.Test.YtgkhelbpccehcaaGreatDoorMQE
import Derived.Test.YtgkhelbpccehcaaGreatDoorPd9
import Derived.Test.YtgkhelbpccehcaaGreatDoorGa9
import Derived.Test.YtgkhelbpccehcaaGreatDoorMem
import Derived.Maps.AppendAt
import Derived.Lib.AppendStr
namespace Go.Proofs.YtgkhelbpccehcaaGreatDoor
open Go.RowKit
set_option linter.unusedVariables false
set_option linter.unusedSimpArgs false

/-- The end of Start. -/
theorem end_S {fn : Func} {a : Act} {w W : World} {r : Nat} {t0 : Tgt} {f : Int} {h p k : ByteArray} {q1 q q2 : Tmp} {m : ByteArray} {n : Int} (hres : fn.results = #[.tmp q1, .cell q 37, .tmp q2])
    (hrow : Row W r 37 t0.cells) (h1 : a.tmps.getD q1 undef = .string m) (h2 : a.tmps.getD q undef = .pointer (some ⟨r, 0, none⟩)) (h3 : a.tmps.getD q2 undef = .int .i64 n) (hd : a.defers = []) (hn : w.heap.size ≤ r) (hM : Mods [] w W) :
    bodyPost Tryz.prog fn (fun e w' => e = .returned (.tuple #[.string m, .agg #[.int .i64 f, .string h, .string p, .string k], .int .i64 n]) ∧ Mods [] w w') .ret a ((((W.setCell ⟨r, 0, none⟩ (.int .i64 f)).setCell ⟨r, 1, none⟩ (.string h)).setCell ⟨r, 2, none⟩ (.string p)).setCell ⟨r, 3, none⟩ (.string k)) := by
  have hR := hrow.put ⟨f, h, p, k⟩
  have hM2 := hM.put (.inr hn) ⟨f, h, p, k⟩
  change bodyPost Tryz.prog fn _ .ret a (setT W r ⟨f, h, p, k⟩)
  generalize setT W r ⟨f, h, p, k⟩ = w6 at hR hM2 ⊢
  refine bodyPost_ret (v := .tuple #[.string m, .agg #[.int .i64 f, .string h, .string p, .string k], .int .i64 n]) ?_ hd ⟨rfl, hM2⟩
  have g1 : a.tmps[q1]?.getD undef = .string m := by simpa using h1
  have g2 : a.tmps[q]?.getD undef = .pointer (some ⟨r, 0, none⟩) := by simpa using h2
  have g3 : a.tmps[q2]?.getD undef = .int .i64 n := by simpa using h3
  have c0 := hR.cell 0
  have c1 := hR.cell 1
  have c2 := hR.cell 2
  have c3 := hR.cell 3
  simp only [Tgt.cells, List.getElem?_toArray, List.getElem?_cons_zero, List.getElem?_cons_succ] at c0 c1 c2 c3
  have ha := Tryz.isAgg37 w6
  have hs := Tryz.sizeOf37 w6
  simp [results, hres, go_sem, g1, g2, g3, c0, c1, c2, c3, ha, hs]
/-- The same, where the block is new. -/
theorem end_H2 {fn : Func} {a : Act} {w : World} {k l : Int} {c x : Bool} {q : Tmp} (hres : fn.results = #[.cell q 65])
    (h2 : a.tmps.getD q undef = .pointer (some ⟨w.heap.size, 0, none⟩)) (hd : a.defers = []) :
    bodyPost Tryz.prog fn (fun e w' => e = .returned (.agg #[.int .i64 k, .int .i64 l, .bool c, .bool x]) ∧ Mods [] w w') .ret a (w.alloc (.cells #[.int .i64 k, .int .i64 l, .bool c, .bool x] 65)) := by
  have hR := Row.new w 65 (⟨k, l, c, x⟩ : HowP).cells
  have hM2 := (Mods.refl [] w).alloc (.cells (⟨k, l, c, x⟩ : HowP).cells 65)
  change bodyPost Tryz.prog fn _ .ret a (w.alloc (.cells (⟨k, l, c, x⟩ : HowP).cells 65))
  generalize w.alloc (.cells (⟨k, l, c, x⟩ : HowP).cells 65) = w6 at hR hM2 ⊢
  refine bodyPost_ret (v := .agg #[.int .i64 k, .int .i64 l, .bool c, .bool x]) ?_ hd ⟨rfl, hM2⟩
  have g2 : a.tmps[q]?.getD undef = .pointer (some ⟨w.heap.size, 0, none⟩) := by simpa using h2
  have c0 := hR.cell 0
  have c1 := hR.cell 1
  have c2 := hR.cell 2
  have c3 := hR.cell 3
  simp only [HowP.cells, List.getElem?_toArray, List.getElem?_cons_zero, List.getElem?_cons_succ] at c0 c1 c2 c3
  have ha := Tryz.isAgg65 w6
  have hs := Tryz.sizeOf65 w6
  simp [results, hres, go_sem, g2, c0, c1, c2, c3, ha, hs]
/-- The same of a target's block that is new (Start). -/
theorem end_S2 {fn : Func} {a : Act} {w : World} {f : Int} {h p k : ByteArray} {q1 q q2 : Tmp} {m : ByteArray} {n : Int} (hres : fn.results = #[.tmp q1, .cell q 37, .tmp q2])
    (h1 : a.tmps.getD q1 undef = .string m) (h2 : a.tmps.getD q undef = .pointer (some ⟨w.heap.size, 0, none⟩)) (h3 : a.tmps.getD q2 undef = .int .i64 n) (hd : a.defers = []) :
    bodyPost Tryz.prog fn (fun e w' => e = .returned (.tuple #[.string m, .agg #[.int .i64 f, .string h, .string p, .string k], .int .i64 n]) ∧ Mods [] w w') .ret a (w.alloc (.cells #[.int .i64 f, .string h, .string p, .string k] 37)) := by
  have hR := Row.new w 37 (⟨f, h, p, k⟩ : Tgt).cells
  have hM2 := (Mods.refl [] w).alloc (.cells (⟨f, h, p, k⟩ : Tgt).cells 37)
  change bodyPost Tryz.prog fn _ .ret a (w.alloc (.cells (⟨f, h, p, k⟩ : Tgt).cells 37))
  generalize w.alloc (.cells (⟨f, h, p, k⟩ : Tgt).cells 37) = w6 at hR hM2 ⊢
  refine bodyPost_ret (v := .tuple #[.string m, .agg #[.int .i64 f, .string h, .string p, .string k], .int .i64 n]) ?_ hd ⟨rfl, hM2⟩
  have g1 : a.tmps[q1]?.getD undef = .string m := by simpa using h1
  have g2 : a.tmps[q]?.getD undef = .pointer (some ⟨w.heap.size, 0, none⟩) := by simpa using h2
  have g3 : a.tmps[q2]?.getD undef = .int .i64 n := by simpa using h3
  have c0 := hR.cell 0
  have c1 := hR.cell 1
  have c2 := hR.cell 2
  have c3 := hR.cell 3
  simp only [Tgt.cells, List.getElem?_toArray, List.getElem?_cons_zero, List.getElem?_cons_succ] at c0 c1 c2 c3
  have ha := Tryz.isAgg37 w6
  have hs := Tryz.sizeOf37 w6
  simp [results, hres, go_sem, g1, g2, g3, c0, c1, c2, c3, ha, hs]
set_option maxRecDepth 10000 in
set_option maxHeartbeats 2000000 in
theorem start_a {F : List Nat} {w : World} {hb : Nat} {h : HdP} (a : HdA F w hb h) :
    Calls Tryz.prog 28 #[ptr hb] w fun r w' => r = .returned (.tuple #[.string h.meth, .agg h.tgt.cells, .int .i64 h.minor]) ∧ Mods [] w w' := by
  obtain ⟨g, v, st, e, z, c, rfl, -⟩ := a.ex
  have ok := a.ok
  have c1 : w.cell? ⟨hb, 1, none⟩ = some st := c.row.cell 1
  have hlt : hb < w.heap.size := c.row.lt
  unfold ptr
  rcases c.sta with ⟨a0, rfl⟩ | ⟨a0, sb, rfl, hr⟩
  · obtain ⟨h1, h2, h3, -⟩ := ok.none a0
    rw [h1, h2, h3]
    clear a c ok a0 h1 h2 h3
    have c1a := fun o => cell_alloc c1 o
    go_enter Tryz.func28, Tryz.ntmps28
    go_wp2
    exact end_S2 rfl rfl rfl rfl rfl
  · have z1 := ok.meth
    have z2 := ok.host
    have z3 := ok.path
    have z4 := ok.query
    have hlt2 : sb < w.heap.size := hr.lt
    obtain ⟨s0, s1, s2, s3, s4, s5⟩ : w.cell? ⟨sb, 0, none⟩ = some (.string h.meth) ∧ w.cell? ⟨sb, 1, none⟩ = some (.int .i64 h.tgt.form) ∧ w.cell? ⟨sb, 2, none⟩ = some (.string h.tgt.host) ∧ w.cell? ⟨sb, 3, none⟩ = some (.string h.tgt.path) ∧ w.cell? ⟨sb, 4, none⟩ = some (.string h.tgt.query) ∧ w.cell? ⟨sb, 5, none⟩ = some (.int .i64 h.minor) :=
      ⟨hr.cell 0, hr.cell 1, hr.cell 2, hr.cell 3, hr.cell 4, hr.cell 5⟩
    clear a c ok a0 hr
    generalize h.meth = m at *
    generalize h.minor = n at *
    generalize h.tgt = T at *
    obtain ⟨f, x, y, k⟩ := T
    simp only at *
    have HM := Lib.hid (fun w => cloneT m (by omega) w)
    have HT := Lib.hid (fun w => copied_h ⟨f, x, y, k⟩ w (by show x.size ≤ 1000000; omega) (by show y.size ≤ 1000000; omega) (by show k.size ≤ 1000000; omega))
    simp only [Tgt.cells] at HT ⊢
    have r0 := Row.new w 37 noT.cells
    have m0 := (Mods.refl [] w).alloc (.cells noT.cells 37)
    have n1 : ¬ hb = w.heap.size := Nat.ne_of_lt hlt
    have n2 : ¬ w.heap.size = hb := fun e => n1 e.symm
    have n3 : ¬ sb = w.heap.size := Nat.ne_of_lt hlt2
    have n4 : ¬ w.heap.size = sb := fun e => n3 e.symm
    replace c1 := cell_mods c1 m0 (by simp)
    replace s0 := cell_mods s0 m0 (by simp)
    replace s1 := cell_mods s1 m0 (by simp)
    replace s2 := cell_mods s2 m0 (by simp)
    replace s3 := cell_mods s3 m0 (by simp)
    replace s4 := cell_mods s4 m0 (by simp)
    replace s5 := cell_mods s5 m0 (by simp)
    obtain ⟨W, hW⟩ : ∃ W, W = w.alloc (.cells noT.cells 37) := ⟨_, rfl⟩
    have HWR := Lib.hid (Nat.le_refl w.heap.size)
    obtain ⟨r, hr0⟩ : ∃ r, r = w.heap.size := ⟨_, rfl⟩
    rw [← hr0] at n1 n2 n3 n4
    rw [← hW, ← hr0] at r0
    rw [← hW] at m0 c1 s0 s1 s2 s3 s4 s5
    have HR0 := Lib.hid hr0
    have R0 := Lib.hid r0
    have M0 := Lib.hid m0
    clear r0 m0 hlt hlt2 z1 z2 z3 z4 HWR
    unfold ptr at *
    go_enter Tryz.func28, Tryz.ntmps28
    go_upto_region 1 with fail
    change Code.wp _ _ _ _ (w.alloc (.cells noT.cells 37))
    rw [← hW, ← hr0]
    clear hW hr0
    go_upto_region 3 with fail
    go_region_held3 (fun w' => w'.cell? ⟨hb, 1, none⟩ = some (.pointer (some ⟨sb, 0, none⟩)) ∧ w'.cell? ⟨sb, 0, none⟩ = some (.string m) ∧ w'.cell? ⟨sb, 1, none⟩ = some (.int .i64 f) ∧ w'.cell? ⟨sb, 2, none⟩ = some (.string x) ∧ w'.cell? ⟨sb, 3, none⟩ = some (.string y) ∧ w'.cell? ⟨sb, 4, none⟩ = some (.string k) ∧ w'.cell? ⟨sb, 5, none⟩ = some (.int .i64 n)) (go_keep) (first
      | (go_at_call 40; refine (HM.out _).mono ?_; rintro e v1 ⟨rfl, hm⟩; have M1 := Lib.hid (show Mods [] W v1 from of_drewT hm); have d1 := cell_mods c1 M1.out (by simp); have t0 := cell_mods s0 M1.out (by simp); have t1 := cell_mods s1 M1.out (by simp); have t2 := cell_mods s2 M1.out (by simp); have t3 := cell_mods s3 M1.out (by simp); have t4 := cell_mods s4 M1.out (by simp); have t5 := cell_mods s5 M1.out (by simp); clear hm)
      | (go_at_call 41; refine (HT.out _).mono ?_; rintro e v2 ⟨rfl, hm⟩; have M2 := Lib.hid (show Mods [] v1 v2 from hm); have e1 := cell_mods d1 M2.out (by simp); have u0 := cell_mods t0 M2.out (by simp); have u1 := cell_mods t1 M2.out (by simp); have u2 := cell_mods t2 M2.out (by simp); have u3 := cell_mods t3 M2.out (by simp); have u4 := cell_mods t4 M2.out (by simp); have u5 := cell_mods t5 M2.out (by simp); have R2 := Lib.hid ((R0.out.mods M1.out (by simp)).mods M2.out (by simp)); obtain ⟨k0, k1, k2, k3, f0, f1, f2, f3⟩ := R2.out.facts; simp only [noT, noB] at k0 k1 k2 k3; clear hm))
    go_wp2
    exact end_S rfl R2.out rfl rfl rfl rfl (by rw [HR0.out]; exact Nat.le_refl _) ((M0.out.on M1.out).on M2.out)
set_option maxRecDepth 10000 in
set_option maxHeartbeats 2000000 in
theorem how_a {F : List Nat} {w : World} {hb : Nat} {h : HdP} (a : HdA F w hb h) :
    Calls Tryz.prog 29 #[ptr hb] w fun r w' => r = .returned (howV h.how) ∧ Mods [] w w' := by
  obtain ⟨g, v, st, e, z, c, rfl, -⟩ := a.ex
  obtain ⟨-, -, -, -, c4, c5, c6, c7, -⟩ := c.facts
  have d4 := fun o => cell_alloc c4 o
  have d5 := fun o => cell_alloc c5 o
  have d6 := fun o => cell_alloc c6 o
  have d7 := fun o => cell_alloc c7 o
  unfold ptr howV
  clear a c
  generalize h.how = r at *
  obtain ⟨k, l, c, x⟩ := r
  simp only at *
  go_enter Tryz.func29, Tryz.ntmps29
  go_wp2
  exact end_H2 rfl rfl rfl
set_option maxRecDepth 10000 in
theorem new_h (w : World) : Calls Tryz.prog 48 #[] w fun r w' => Hid (∃ hb F, r = .returned (ptr hb) ∧ HdA F w' hb newH ∧ Mods [] w w' ∧ ∀ k ∈ F, w.heap.size ≤ k) := by
  have HO := Lib.hid (of_a (.slice none 0 0) [] w (.inl ⟨rfl, none, 0, rfl⟩) (by decide) (fun p hp => nomatch hp))
  unfold ptr at HO
  go_enter Tryz.func48, Tryz.ntmps48
  go_wp2_with (go_at_call 60; refine HO.out.mono ?_; rintro e w1 ⟨g, u, rfl, hm⟩; have HM := Lib.hid hm; clear hm)
  go_ret
  refine Lib.hid ⟨w1.heap.size, hbl w1.heap.size g u (.pointer none), rfl, ⟨⟨g, u, .pointer none, 0, 0, ⟨Row.new w1 67 (headCells g (.pointer none) 0 0 newH), HM.out.fld.low ((Mods.refl [] w1).alloc _), .inl ⟨rfl, rfl⟩⟩, rfl, fun _ _ => ⟨rfl, rfl⟩⟩, newH_ok⟩, HM.out.mods.alloc _, fun k hk => ?_⟩
  simp only [List.mem_cons, List.mem_append, stB, List.not_mem_nil, false_or] at hk
  rcases hk with e | e | e
  · rw [e]; exact HM.out.mods.size
  · rw [e]; exact HM.out.new
  · exact HM.out.news k e
end Go.Proofs.YtgkhelbpccehcaaGreatDoor

/- What stands between blanks, of the document. Conditions: a line of at most a thousand bytes. -/
namespace Go.Proofs.YtgkhelbpccehcaaGreatDoor
open Go.RowKit
set_option linter.unusedVariables false
set_option linter.unusedSimpArgs false

def strW (l : List (List UInt8)) : List Value := l.map fun p => .string (ofL p)
theorem strW_app (a : List (List UInt8)) (p : List UInt8) : strW (a ++ [p]) = strW a ++ [.string (ofL p)] := by simp [strW]
/-- What the words are so far: k bytes have been seen, the last word begins at f. -/
def WS (l : List UInt8) (k f : Nat) (ws : List (List UInt8)) : Prop :=
  ws.length ≤ k ∧ f ≤ k ∧ ((k ≤ l.length ∧ wordsL l = ws ++ wAcc ((l.take k).drop f) (l.drop k)) ∨ (k = l.length + 1 ∧ ws = wordsL l))
theorem WS.zero (l : List UInt8) : WS l 0 0 [] := ⟨Nat.le_refl _, Nat.le_refl _, .inl ⟨Nat.zero_le _, rfl⟩⟩
theorem WS.cut {l : List UInt8} {k f : Nat} {ws : List (List UInt8)} (h : WS l k f ws) (hk : k < l.length + 1) (hc : (l ++ [32])[k]'(by simp; omega) = 32) : WS l (k + 1) (k + 1) (ws ++ [(l.take k).drop f]) := by
  obtain ⟨h1, h2, h3 | h3⟩ := h
  · refine ⟨by rw [List.length_append]; simp; omega, Nat.le_refl _, ?_⟩
    by_cases hl : k < l.length
    · refine .inl ⟨hl, ?_⟩
      rw [List.getElem_append_left hl] at hc
      rw [h3.2, List.drop_eq_getElem_cons hl, wAcc, if_pos hc, List.append_assoc]
      have hd : (l.take (k + 1)).drop (k + 1) = [] := List.drop_eq_nil_of_le (by rw [List.length_take]; omega)
      rw [hd]
      rfl
    · obtain rfl : k = l.length := by omega
      refine .inr ⟨rfl, ?_⟩
      rw [h3.2, List.drop_length]
      rfl
  · omega
theorem WS.pass {l : List UInt8} {k f : Nat} {ws : List (List UInt8)} (h : WS l k f ws) (hk : k < l.length + 1) (hc : (l ++ [32])[k]'(by simp; omega) ≠ 32) : WS l (k + 1) f ws := by
  obtain ⟨h1, h2, h3 | h3⟩ := h
  · have hl : k < l.length := by
      rcases Nat.lt_or_ge k l.length with h | h
      · exact h
      · obtain rfl : k = l.length := by omega
        exact absurd (by simp) hc
    rw [List.getElem_append_left hl] at hc
    refine ⟨by omega, by omega, .inl ⟨hl, ?_⟩⟩
    rw [h3.2, List.drop_eq_getElem_cons hl, wAcc, if_neg hc, List.take_succ_eq_append_getElem hl, List.drop_append_of_le_length (by rw [List.length_take]; omega)]
  · omega
theorem WS.last {l : List UInt8} {k f : Nat} {ws : List (List UInt8)} (h : WS l k f ws) (hk : ¬ k < l.length + 1) : ws = wordsL l := by
  obtain ⟨h1, h2, h3 | h3⟩ := h
  · omega
  · exact h3.2
theorem WS.ext {l : List UInt8} {k f : Nat} {ws : List (List UInt8)} {t : ByteArray} (h : WS l k f ws) (hk : k < l.length + 1) (ht : t.data.toList = l ++ [32]) : t.extract f k = ofL ((l.take k).drop f) := by
  obtain ⟨h1, h2, -⟩ := h
  apply bytes_ext
  rw [ofL_list, ByteArray.data_extract, Array.toList_extract, List.extract_eq_take_drop, ht]
  rw [List.take_drop, show f + (k - f) = k by omega, List.take_append_of_le_length (by omega)]
set_option maxRecDepth 10000 in
set_option maxHeartbeats 1000000 in
theorem words_x (s : ByteArray) (hs : s.size ≤ 1000) (w : World) : Calls Tryz.prog 69 #[.string s] w fun e w' => ∃ u, e = .returned u ∧ Gt w 9 1 (wordsL s.data.toList).length (strW (wordsL s.data.toList)) u w' := by
  have hsl : s.data.toList.length = s.size := rfl
  have htl : (s ++ (⟨#[32]⟩ : ByteArray)).data.toList = s.data.toList ++ [32] := app_listL _ _
  have htz : (s ++ (⟨#[32]⟩ : ByteArray)).size = s.size + 1 := app_sizeL _ _
  obtain ⟨t, ht⟩ : ∃ t, t = s ++ (⟨#[32]⟩ : ByteArray) := ⟨_, rfl⟩
  rw [← ht] at htl htz
  have htl2 : t.data.toList.length = t.size := rfl
  obtain ⟨l, hl⟩ : ∃ l, l = s.data.toList := ⟨_, rfl⟩
  rw [← hl] at htl hsl ⊢
  have HTL := Lib.hid htl
  have HNL := Lib.hid (show t.size = l.length + 1 by omega)
  have htb : t.size ≤ 1001 := by omega
  clear hl htl htz htl2 hsl
  go_enter Tryz.func69, Tryz.ntmps69
  go_wp2
  rw [← ht]
  clear ht hs
  go_loopw [3, 4, 5] (fun u fr i wr => ∃ (k f : Nat) (ws : List (List UInt8)), k ≤ t.size ∧ i = .int .i64 k ∧ fr = .int .i64 f ∧ Hid (WS l k f ws) ∧ Gt w 9 1 ws.length (strW ws) u wr) (fun _ _ i _ => t.size - (intOf i).toNat)
  case atStart => exact ⟨0, 0, [], Nat.zero_le _, rfl, rfl, Lib.hid (WS.zero l), Gt.nil _ _ _⟩
  case round =>
    obtain ⟨k, f, ws, hk, rfl, rfl, hW, hG⟩ := hrel
    have HG := Lib.hid hG
    obtain ⟨va, vc, rfl⟩ := hG.form
    clear hG
    by_cases hlt : k < t.size
    · have hkl : k < l.length + 1 := by rw [← HNL.out]; exact hlt
      have hfk : f ≤ k := hW.out.2.1
      have hwk := hW.out.1
      by_cases hc : t[k] = 32
      · have hb : ((t[k].toNat : Int) == 32) = true := by rw [hc]; rfl
        have HX := Lib.hid (hW.out.ext hkl HTL.out)
        have HN := Lib.hid (hW.out.cut hkl (by have : t[k] = t.data.toList[k]'(by exact hlt) := rfl; rw [this] at hc; simpa only [HTL.out] using hc))
        obtain ⟨x, hx⟩ : ∃ x, x = t.extract f k := ⟨_, rfl⟩
        obtain ⟨g5, n5, c5, w3, hrun, hG5⟩ := HG.out.app Tryz.underlying112 infoSt rfl (by decide) (by omega) (by decide) [.string x] rfl (by simp [Value.oneCell'])
        have HG5 := Lib.hid hG5
        have HXX := Lib.hid hx
        have c1 : (0 : Int) ≤ (f : Int) := by omega
        have c2 : (f : Int) ≤ (k : Int) := by omega
        have c3 : (k : Int) ≤ (t.size : Int) := by omega
        rw [hx] at hrun
        clear hc hG5 hx hW
        go_wp2_with (at_builtin; refine wpList_run_appF rfl (.tmp 18) (.tmp 23) 112 rfl rfl rfl hrun ?_)
        go_roundw
        case rel => exact ⟨k + 1, k + 1, _, by omega, by go_num, by go_num, Lib.hid HN.out, by rw [List.length_append, strW_app, ← HX.out, ← HXX.out]; exact HG5.out⟩
        case measure => simp [intOf]; omega
      · have hb : ((t[k].toNat : Int) == 32) = false := by
          rw [beq_eq_false_iff_ne]; intro e
          exact hc (UInt8.toNat_inj.1 (by show t[k].toNat = 32; omega))
        have HN := Lib.hid (hW.out.pass hkl (by have : t[k] = t.data.toList[k]'(by exact hlt) := rfl; rw [this] at hc; simpa only [HTL.out] using hc))
        clear hc hW
        go_wp2
        go_roundw
        case rel => exact ⟨k + 1, f, ws, by omega, by go_num, rfl, Lib.hid HN.out, HG.out⟩
        case measure => simp [intOf]; omega
    · have HE := Lib.hid (hW.out.last (by rw [← HNL.out]; exact hlt))
      clear hW
      go_wp2
      go_ret
      exact ⟨_, rfl, by rw [← HE.out]; exact HG.out⟩
end Go.Proofs.YtgkhelbpccehcaaGreatDoor

/- The start line of the document's head. Conditions: lines of at most a thousand bytes. -/
namespace Go.Proofs.YtgkhelbpccehcaaGreatDoor
open Go.RowKit
set_option linter.unusedVariables false
set_option linter.unusedSimpArgs false

theorem gt_three {w w' : World} {a b c : List UInt8} {u : Value} (h : Gt w 9 1 ([a, b, c] : List (List UInt8)).length (strW [a, b, c]) u w') :
    ∃ (g cap : Nat), u = .slice (some ⟨g, 0, none⟩) 3 cap ∧ w'.cell? ⟨g, 0, none⟩ = some (.string (ofL a)) ∧ w'.cell? ⟨g, 1, none⟩ = some (.string (ofL b)) ∧ w'.cell? ⟨g, 2, none⟩ = some (.string (ofL c)) ∧ w.heap.size ≤ g ∧ g < w'.heap.size ∧ Mods [] w w' := by
  rcases h.row.2 with ⟨_, h0⟩ | ⟨g, cap, cur, rfl, hb, hg, hcap, _, hsz, ht⟩
  · cases h0
  · have hr : Row w' g 9 cur := hg
    have hk : ∀ j, j < 3 → cur[j]? = (strW [a, b, c])[j]? := fun j hj => by
      rw [← ht, List.getElem?_take_of_lt (by show j < 3 * 1; omega)]
      exact (Array.getElem?_toList).symm
    exact ⟨g, cap, rfl, by rw [hr.cell, hk 0 (by decide)]; rfl, by rw [hr.cell, hk 1 (by decide)]; rfl, by rw [hr.cell, hk 2 (by decide)]; rfl, hb, hr.lt, h.low⟩
theorem words_x3 (s : ByteArray) (hs : s.size ≤ 1000) (w : World) {a b c : List UInt8} (hw : wordsL s.data.toList = [a, b, c]) : Calls Tryz.prog 69 #[.string s] w fun e w' =>
    ∃ (g cap : Nat), e = .returned (.slice (some ⟨g, 0, none⟩) 3 cap) ∧ w'.cell? ⟨g, 0, none⟩ = some (.string (ofL a)) ∧ w'.cell? ⟨g, 1, none⟩ = some (.string (ofL b)) ∧ w'.cell? ⟨g, 2, none⟩ = some (.string (ofL c)) ∧ w.heap.size ≤ g ∧ g < w'.heap.size ∧ Mods [] w w' := by
  refine (words_x s hs w).mono fun e w' ⟨u, he, hg⟩ => ?_
  rw [hw] at hg
  obtain ⟨g, cap, rfl, r⟩ := gt_three hg
  exact ⟨g, cap, he, r⟩
theorem words_xn (s : ByteArray) (hs : s.size ≤ 1000) (w : World) : Calls Tryz.prog 69 #[.string s] w fun e w' => ∃ A cap, e = .returned (.slice A (wordsL s.data.toList).length cap) ∧ Mods [] w w' := by
  refine (words_x s hs w).mono fun e w' ⟨u, he, hg⟩ => ?_
  obtain ⟨A, cap, rfl⟩ := hg.form
  exact ⟨A, cap, he, hg.low⟩
theorem verS_not8 {v : List UInt8} (h : v.length ≠ 8) : verS v = 400 := by unfold verS; rw [if_neg (fun x => h x.1)]
theorem verS_not5 {v : List UInt8} (h : v.take 5 ≠ hvL) : verS v = 400 := by unfold verS; rw [if_neg (fun x => h x.2.1)]
theorem ver_form {v : List UInt8} (h8 : v.length = 8) (h5 : v.take 5 = hvL) : ∃ a b c, v = hvL ++ [a, b, c] := by
  obtain ⟨a, b, c, h⟩ := three_of (r := v.drop 5) (by rw [List.length_drop, h8])
  exact ⟨a, b, c, by rw [← h5, ← h, List.take_append_drop]⟩
/-- What start stores. -/
theorem HdX.begun {xb : Nat} {v : Value} {w : World} {h : HdP} {z e : Int} {m : ByteArray} {f : Int} {x y k : ByteArray} (c : HdX xb v w h z e) :
    HdX xb v ((((((w.setCell ⟨xb, 11, none⟩ (.bool true)).setCell ⟨xb, 1, none⟩ (.string m)).setCell ⟨xb, 2, none⟩ (.int .i64 f)).setCell ⟨xb, 3, none⟩ (.string x)).setCell ⟨xb, 4, none⟩ (.string y)).setCell ⟨xb, 5, none⟩ (.string k)) { h with started := true, meth := m, tgt := ⟨f, x, y, k⟩ } z e := by
  have h1 := c.set 11 (.bool true) (h' := { h with started := true }) (z' := z) (e' := e) rfl rfl
  have h2 := HdX.set h1 1 (.string m) (h' := { h with started := true, meth := m }) (z' := z) (e' := e) rfl rfl
  have h3 := HdX.set h2 2 (.int .i64 f) (h' := { h with started := true, meth := m, tgt := ⟨f, h.tgt.host, h.tgt.path, h.tgt.query⟩ }) (z' := z) (e' := e) rfl rfl
  have h4 := HdX.set h3 3 (.string x) (h' := { h with started := true, meth := m, tgt := ⟨f, x, h.tgt.path, h.tgt.query⟩ }) (z' := z) (e' := e) rfl rfl
  have h5 := HdX.set h4 4 (.string y) (h' := { h with started := true, meth := m, tgt := ⟨f, x, y, h.tgt.query⟩ }) (z' := z) (e' := e) rfl rfl
  exact HdX.set h5 5 (.string k) (h' := { h with started := true, meth := m, tgt := ⟨f, x, y, k⟩ }) (z' := z) (e' := e) rfl rfl
theorem begun_mods {xb : Nat} {w : World} {m : ByteArray} {f : Int} {x y k : ByteArray} :
    Mods [xb] w ((((((w.setCell ⟨xb, 11, none⟩ (.bool true)).setCell ⟨xb, 1, none⟩ (.string m)).setCell ⟨xb, 2, none⟩ (.int .i64 f)).setCell ⟨xb, 3, none⟩ (.string x)).setCell ⟨xb, 4, none⟩ (.string y)).setCell ⟨xb, 5, none⟩ (.string k)) :=
  ((((((Mods.refl [xb] w).setCell (.inl (by simp)) _).setCell (.inl (by simp)) _).setCell (.inl (by simp)) _).setCell (.inl (by simp)) _).setCell (.inl (by simp)) _).setCell (.inl (by simp)) _
set_option maxRecDepth 10000 in
set_option maxHeartbeats 2000000 in
theorem start_x {xb : Nat} {v : Value} {w : World} {h : HdP} {z e : Int} (s : ByteArray) (hs : s.size ≤ 1000) (hmin : h.minor = 0) (c : HdX xb v w h z e) :
    Calls Tryz.prog 56 #[ptr xb, .string s] w fun r w' => r = .returned (.int .i64 (startS s.data.toList)) ∧ Hid (HdX xb v w' (begP h s.data.toList) z e) ∧ Mods [xb] w w' := by
  have hpl := fun p hp => words_parts (l := s.data.toList) (p := p) hp
  have hsl : s.data.toList.length = s.size := rfl
  have HC := Lib.hid (fun W (hm : Mods [] w W) => FldE.low c hm)
  by_cases h3 : (wordsL s.data.toList).length = 3
  · obtain ⟨a, b, v0, hw⟩ := three_of h3
    have HSP := Lib.hid (words_x3 s hs w hw)
    rw [hw] at hpl
    have ha := (hpl a (by simp)).2
    have hb1 := (hpl b (by simp)).2
    have hv1 := (hpl v0 (by simp)).2
    have za : (ofL a).size ≤ 1000 := by rw [ofL_size]; omega
    have zb : (ofL b).size ≤ 1000 := by rw [ofL_size]; omega
    have zv : (ofL v0).size ≤ 1000 := by rw [ofL_size]; omega
    have HI := Lib.hid (fun (t : Bool) (ht : tokL a = t) w => istokR (ofL a) (r := t) (by rw [ofL_list]; exact ht) (by omega) w)
    have HT := Lib.hid (fun w => tparse_r (ofL a) (ofL b) w (by omega) (by omega))
    simp only [ofL_list] at HT
    have hvl := ofL_list v0
    have hvz := ofL_size v0
    obtain ⟨xa, hxa⟩ : ∃ x, x = ofL a := ⟨_, rfl⟩
    obtain ⟨xc, hxb⟩ : ∃ x, x = ofL b := ⟨_, rfl⟩
    obtain ⟨xv, hxv⟩ : ∃ x, x = ofL v0 := ⟨_, rfl⟩
    rw [← hxa] at HI HT HSP
    rw [← hxb] at HT HSP
    rw [← hxv] at HSP hvl hvz zv
    have HXA := Lib.hid hxa
    have HWD := Lib.hid hw
    have HMI := Lib.hid hmin
    have HVL := Lib.hid hvl
    clear hpl ha hb1 hv1 za zb hxa hxb hxv c hs hsl h3 hmin
    unfold ptr at *
    cases ht : tokL a with
    | false =>
      have HX := Lib.hid (start_tok hw ht)
      have HB := Lib.hid (begP_no (h := h) (l := s.data.toList) (by rw [HX.out]; decide))
      have HI := Lib.hid (HI.out false ht)
      have HDA := Lib.hid True.intro
      have HDC := Lib.hid True.intro
      clear ht hw
      go_enter Tryz.func56, Tryz.ntmps56
      go_wp2_with (first
        | (go_at_call 69; refine HSP.out.mono ?_; rintro e w1 ⟨g, cap, rfl, d0, d1, d2, hg1, hg2, hm⟩; have M1 := Lib.hid hm; clear hm)
        | (go_at_call 70; refine (HI.out _).mono ?_; rintro e w2 ⟨rfl, rfl⟩))
      go_ret
      exact ⟨by rw [HX.out]; rfl, Lib.hid (by rw [HB.out]; exact HC.out _ M1.out), M1.out.more (by simp)⟩
    | true =>
      have HI := Lib.hid (HI.out true ht)
      by_cases h8 : v0.length = 8
      · have z8 : xv.size = 8 := by omega
        by_cases h5 : v0.take 5 = hvL
        · obtain ⟨a5, b5, c5, hv5⟩ := ver_form h8 h5
          have hex : ((xv.extract 0 5).toList == [72, 84, 84, 80, 47]) = true := text_eq (by
            rw [ByteArray.data_extract, Array.toList_extract, List.extract_eq_take_drop, hvl]
            simpa [hvL] using h5)
          have x5 : xv[5]'(by rw [z8]; decide) = a5 := by
            have : xv[5]'(by rw [z8]; decide) = xv.data.toList[5]'(by show 5 < xv.size; rw [z8]; decide) := rfl
            rw [this]; simp only [hvl, hv5]; rfl
          have x6 : xv[6]'(by rw [z8]; decide) = b5 := by
            have : xv[6]'(by rw [z8]; decide) = xv.data.toList[6]'(by show 6 < xv.size; rw [z8]; decide) := rfl
            rw [this]; simp only [hvl, hv5]; rfl
          have x7 : xv[7]'(by rw [z8]; decide) = c5 := by
            have : xv[7]'(by rw [z8]; decide) = xv.data.toList[7]'(by show 7 < xv.size; rw [z8]; decide) := rfl
            rw [this]; simp only [hvl, hv5]; rfl
          have e1 : ((b5.toNat : Int) == 46) = decide (b5 = 46) := byte_eq b5 46 (by decide)
          have e2 : ((a5.toNat : Int) == 49) = decide (a5 = 49) := byte_eq a5 49 (by decide)
          have e3 : ((c5.toNat : Int) == 48) = decide (c5 = 48) := byte_eq c5 48 (by decide)
          have n1 : ((b5.toNat : Int) != 46) = !decide (b5 = 46) := by rw [bne, e1]
          have n2 : ((a5.toNat : Int) != 49) = !decide (a5 = 49) := by rw [bne, e2]
          have n3 : ((c5.toNat : Int) != 48) = !decide (c5 = 48) := by rw [bne, e3]
          have hv := ver5 a5 b5 c5
          have hm : verM v0 = if decide (c5 = 48) = true then 0 else 1 := by rw [hv5, verM_three]; simp only [decide_eq_true_eq]
          rw [← hv5] at hv
          have hda := digit_x a5
          have hdc := digit_x c5
          generalize isD a5 = t1 at *
          generalize isD c5 = t3 at *
          generalize decide (b5 = 46) = t2 at *
          generalize decide (a5 = 49) = t4 at *
          generalize decide (c5 = 48) = t5 at *
          have HDA := Lib.hid hda
          have HDC := Lib.hid hdc
          clear e1 e2 e3 hv5 h5 h8 hvl hda hdc hvz
          by_cases hok : t1 = true ∧ t2 = true ∧ t3 = true ∧ t4 = true
          · obtain ⟨rfl, rfl, rfl, rfl⟩ := hok
            have hv : verS v0 = 0 := hv
            simp only [Bool.not_true] at n1 n2
            have hx := start_par hw ht hv
            have HMN := Lib.hid hm
            have HWN := Lib.hid (show wordN s.data.toList 0 = a ∧ wordN s.data.toList 1 = b ∧ wordN s.data.toList 2 = v0 by unfold wordN; rw [hw]; exact ⟨rfl, rfl, rfl⟩)
            unfold TAns at HT
            obtain ⟨r, hr⟩ : ∃ r, r = parT a b := ⟨_, rfl⟩
            rw [← hr] at HT hx
            have HR := Lib.hid hr
            obtain ⟨⟨f, th, tp, tq⟩, n⟩ := r
            simp only [Tgt.cells] at HT hx
            have HX := Lib.hid hx
            clear hx hr hv ht hw hm
            go_enter Tryz.func56, Tryz.ntmps56
            go_upto_region 9 with (first
              | (go_at_call 69; refine HSP.out.mono ?_; rintro e w1 ⟨pb, cap, rfl, d0, d1, d2, hg1, hg2, hm⟩; have M1 := Lib.hid hm; clear hm)
              | (go_at_call 70; refine (HI.out _).mono ?_; rintro e w2 ⟨rfl, rfl⟩)
              | (go_at_call 71; (with_reducible show Calls _ _ #[.int .u8 (a5.toNat : Int)] _ _); refine (HDA.out _).mono ?_; rintro e w2 ⟨rfl, rfl⟩)
              | (go_at_call 71; (with_reducible show Calls _ _ #[.int .u8 (c5.toNat : Int)] _ _); refine (HDC.out _).mono ?_; rintro e w2 ⟨rfl, rfl⟩))
            have np1 : ¬ pb = w1.heap.size := by omega
            have np2 : ¬ w1.heap.size = pb := by omega
            have HPB := Lib.hid hg1
            go_cut [7, 8] (fun t er wx => ∃ tb, t = .pointer (some ⟨tb, 0, none⟩) ∧ er = .int .i64 n ∧ Hid (Row wx tb 37 (⟨f, th, tp, tq⟩ : Tgt).cells ∧ Mods [] w1 wx))
            case first =>
              go_region_held3 (fun w' => w'.cell? ⟨pb, 0, none⟩ = some (.string xa) ∧ w'.cell? ⟨pb, 1, none⟩ = some (.string xc)) (go_keep) (first
                | (go_at_call 72; refine (HT.out _).mono ?_; rintro e w2 ⟨rfl, hm⟩; have hm2 := ((Mods.refl [] w1).drew).trans hm (fun _ h => nomatch h); have M2 := Lib.hid hm2; have q0 := cell_mods d0 hm2 (by simp); have q1 := cell_mods d1 hm2 (by simp); clear hm hm2)
                | (go_at_call 72; refine (HT.out _).mono ?_; rintro e w2 ⟨rfl, hm⟩; have hm2 := (((Mods.refl [] w1).alloc (.cells #[.int .i64 0, .string ⟨#[]⟩, .string ⟨#[]⟩, .string ⟨#[]⟩] 37)).drew).trans hm (fun _ h => nomatch h); have M2 := Lib.hid hm2; have R2 := Lib.hid (show Row w2 w1.heap.size 37 noT.cells from (Row.new w1 _ _).mods (of_drewT hm) (by simp)); obtain ⟨k0, k1, k2, k3, f0, f1, f2, f3⟩ := R2.out.facts; simp only [noT, noB] at k0 k1 k2 k3; have q0 := cell_mods d0 hm2 (by simp); have q1 := cell_mods d1 hm2 (by simp); clear hm hm2))
              · go_wp2
                go_meet
                case rel => exact ⟨_, rfl, rfl, Lib.hid ⟨Row.new _ _ _, M2.out.alloc _⟩⟩
              · go_wp2
                go_meet
                case rel => exact ⟨_, rfl, rfl, Lib.hid ⟨R2.out.put ⟨f, th, tp, tq⟩, M2.out.put (.inr (Nat.le_refl _)) ⟨f, th, tp, tq⟩⟩⟩
            case rest =>
              obtain ⟨tb, rfl, rfl, hq⟩ := hcut
              have RT := Lib.hid hq.out.1
              have MT := Lib.hid (M1.out.on hq.out.2)
              have g0 := cell_mods d0 hq.out.2 (by simp)
              clear hq
              obtain ⟨wx, rfl⟩ : ∃ wx : World, wx = wc := ⟨_, rfl⟩
              have CX := Lib.hid (HC.out _ MT.out)
              clear d0 d1 d2 hg1 hg2
              by_cases n0 : n = 0
              · subst n0
                have h0 : startS s.data.toList = 0 := HX.out
                have HB := Lib.hid (show begP h s.data.toList = { h with started := true, meth := xa, tgt := ⟨f, th, tp, tq⟩, minor := if t5 = true then 0 else 1 } by
                  unfold begP
                  rw [if_pos h0, HWN.out.1, HWN.out.2.1, HWN.out.2.2, ← HXA.out, ← HR.out, HMN.out])
                have H0 := Lib.hid h0
                obtain ⟨s0, s1, s2, s3, -⟩ := RT.out.facts
                simp only at s0 s1 s2 s3
                have hr := HdX.row' CX.out
                obtain ⟨-, p1, p2, p3, p4, p5, p6, -, -, -, -, p11, -⟩ := HdX.facts CX.out
                have f1 := hr.free 1
                have f2 := hr.free 2
                have f3 := hr.free 3
                have f4 := hr.free 4
                have f5 := hr.free 5
                have f6 := hr.free 6
                have f11 := hr.free 11
                have m1 : ¬ xb = tb := Row.type_ne hr RT.out (by decide)
                have m2 : ¬ tb = xb := fun e => m1 e.symm
                have m3 : ¬ xb = pb := by
                  have a1 := HPB.out
                  have a2 := (HdX.row' (HC.out w (Mods.refl [] w))).lt
                  omega
                have m4 : ¬ pb = xb := fun e => m3 e.symm
                clear hr
                go_upto_region 15 with fail
                go_region
                have b0 := FldE.low (HdX.begun CX.out (m := xa) (f := f) (x := th) (y := tp) (k := tq)) ((Mods.refl [] _).drew)
                have b1 := (begun_mods (xb := xb) (w := wx) (m := xa) (f := f) (x := th) (y := tp) (k := tq)).drew
                obtain ⟨W2, hW2⟩ : ∃ W2, W2 = ((((((wx.setCell ⟨xb, 11, none⟩ (.bool true)).setCell ⟨xb, 1, none⟩ (.string xa)).setCell ⟨xb, 2, none⟩ (.int .i64 f)).setCell ⟨xb, 3, none⟩ (.string th)).setCell ⟨xb, 4, none⟩ (.string tp)).setCell ⟨xb, 5, none⟩ (.string tq)).drew := ⟨_, rfl⟩
                rw [← hW2] at b0 b1 ⊢
                have B0 := Lib.hid (show HdX xb v W2 { h with started := true, meth := xa, tgt := ⟨f, th, tp, tq⟩ } z e from b0)
                have B1 := Lib.hid b1
                have r6 : W2.cell? ⟨xb, 6, none⟩ = some (.int .i64 h.minor) := (HdX.row' B0.out).cell 6
                have w6 := (HdX.row' B0.out).free 6
                clear hW2 b0 b1 p1 p2 p3 p4 p5 p6 p11 f1 f2 f3 f4 f5 f6 f11 s0 s1 s2 s3 g0 h0
                have HMF := Lib.hid ((MT.out.more (F2 := [xb]) (by simp)).trans B1.out (fun k hk => .inl hk))
                cases t5 with
                | true =>
                  simp only [Bool.not_true] at n3
                  go_wp2
                  go_ret
                  have he : ({ h with started := true, meth := xa, tgt := ⟨f, th, tp, tq⟩, minor := 0 } : HdP) = { h with started := true, meth := xa, tgt := ⟨f, th, tp, tq⟩ } := by rw [← HMI.out]
                  have hbb := HB.out
                  simp only [if_true] at hbb
                  rw [he] at hbb
                  exact ⟨by rw [H0.out]; rfl, Lib.hid (by rw [hbb]; exact B0.out), HMF.out⟩
                | false =>
                  simp only [Bool.not_false] at n3
                  go_wp2
                  go_ret
                  exact ⟨by rw [H0.out]; rfl, Lib.hid (by rw [HB.out]; exact HdX.set B0.out 6 (.int .i64 1) (h' := { h with started := true, meth := xa, tgt := ⟨f, th, tp, tq⟩, minor := 1 }) rfl rfl), HMF.out.setCell (.inl (by simp)) _⟩
              · have hb0 : (n != 0) = true := by simpa using n0
                have h0 : startS s.data.toList ≠ 0 := by
                  rw [HX.out]
                  by_cases h9 : n = 9
                  · rw [if_pos h9]; decide
                  · rw [if_neg h9, if_pos n0]; decide
                have HB := Lib.hid (begP_no (h := h) h0)
                clear h0
                by_cases h9 : n = 9
                · subst h9
                  have HX2 := Lib.hid (show startS s.data.toList = 414 from HX.out)
                  clear n0 hb0
                  go_wp2_with fail
                  go_ret
                  exact ⟨by rw [HX2.out]; rfl, Lib.hid (by rw [HB.out]; exact CX.out), MT.out.more (by simp)⟩
                · have HX2 := Lib.hid (show startS s.data.toList = 400 by rw [HX.out, if_neg h9, if_pos n0])
                  have hb9 : (n == 9) = false := by simpa using h9
                  clear n0 h9
                  go_wp2_with fail
                  go_ret
                  exact ⟨by rw [HX2.out]; rfl, Lib.hid (by rw [HB.out]; exact CX.out), MT.out.more (by simp)⟩
          · have hne : verS v0 ≠ 0 := by
              rw [hv]
              revert hok
              cases t1 <;> cases t2 <;> cases t3 <;> cases t4 <;> simp
            have hx := start_ver hw ht hne
            rw [hv] at hx
            have HB := Lib.hid (begP_no (h := h) (l := s.data.toList) (by rw [start_ver hw ht hne]; exact hne))
            clear hw ht hne hv hm n3
            cases t1 with
            | false =>
              have HX := Lib.hid (show startS s.data.toList = 400 from hx)
              clear hx hok
              go_enter Tryz.func56, Tryz.ntmps56
              go_wp2_with (first
                | (go_at_call 69; refine HSP.out.mono ?_; rintro e w1 ⟨g, cap, rfl, d0, d1, d2, hg1, hg2, hm⟩; have M1 := Lib.hid hm; clear hm)
                | (go_at_call 70; refine (HI.out _).mono ?_; rintro e w2 ⟨rfl, rfl⟩)
                | (go_at_call 71; (with_reducible show Calls _ _ #[.int .u8 (a5.toNat : Int)] _ _); refine (HDA.out _).mono ?_; rintro e w2 ⟨rfl, rfl⟩)
                | (go_at_call 71; (with_reducible show Calls _ _ #[.int .u8 (c5.toNat : Int)] _ _); refine (HDC.out _).mono ?_; rintro e w2 ⟨rfl, rfl⟩))
              go_ret
              exact ⟨by rw [HX.out]; rfl, Lib.hid (by rw [HB.out]; exact HC.out _ M1.out), M1.out.more (by simp)⟩
            | true => cases t2 with
              | false =>
                have HX := Lib.hid (show startS s.data.toList = 400 from hx)
                simp only [Bool.not_false] at n1
                clear hx hok
                go_enter Tryz.func56, Tryz.ntmps56
                go_wp2_with (first
                  | (go_at_call 69; refine HSP.out.mono ?_; rintro e w1 ⟨g, cap, rfl, d0, d1, d2, hg1, hg2, hm⟩; have M1 := Lib.hid hm; clear hm)
                  | (go_at_call 70; refine (HI.out _).mono ?_; rintro e w2 ⟨rfl, rfl⟩)
                  | (go_at_call 71; (with_reducible show Calls _ _ #[.int .u8 (a5.toNat : Int)] _ _); refine (HDA.out _).mono ?_; rintro e w2 ⟨rfl, rfl⟩)
                  | (go_at_call 71; (with_reducible show Calls _ _ #[.int .u8 (c5.toNat : Int)] _ _); refine (HDC.out _).mono ?_; rintro e w2 ⟨rfl, rfl⟩))
                go_ret
                exact ⟨by rw [HX.out]; rfl, Lib.hid (by rw [HB.out]; exact HC.out _ M1.out), M1.out.more (by simp)⟩
              | true => cases t3 with
                | false =>
                  have HX := Lib.hid (show startS s.data.toList = 400 from hx)
                  simp only [Bool.not_true] at n1
                  clear hx hok
                  go_enter Tryz.func56, Tryz.ntmps56
                  go_wp2_with (first
                    | (go_at_call 69; refine HSP.out.mono ?_; rintro e w1 ⟨g, cap, rfl, d0, d1, d2, hg1, hg2, hm⟩; have M1 := Lib.hid hm; clear hm)
                    | (go_at_call 70; refine (HI.out _).mono ?_; rintro e w2 ⟨rfl, rfl⟩)
                    | (go_at_call 71; (with_reducible show Calls _ _ #[.int .u8 (a5.toNat : Int)] _ _); refine (HDA.out _).mono ?_; rintro e w2 ⟨rfl, rfl⟩)
                    | (go_at_call 71; (with_reducible show Calls _ _ #[.int .u8 (c5.toNat : Int)] _ _); refine (HDC.out _).mono ?_; rintro e w2 ⟨rfl, rfl⟩))
                  go_ret
                  exact ⟨by rw [HX.out]; rfl, Lib.hid (by rw [HB.out]; exact HC.out _ M1.out), M1.out.more (by simp)⟩
                | true => cases t4 with
                  | false =>
                    have HX := Lib.hid (show startS s.data.toList = 505 from hx)
                    simp only [Bool.not_false, Bool.not_true] at n1 n2
                    clear hx hok
                    go_enter Tryz.func56, Tryz.ntmps56
                    go_wp2_with (first
                      | (go_at_call 69; refine HSP.out.mono ?_; rintro e w1 ⟨g, cap, rfl, d0, d1, d2, hg1, hg2, hm⟩; have M1 := Lib.hid hm; clear hm)
                      | (go_at_call 70; refine (HI.out _).mono ?_; rintro e w2 ⟨rfl, rfl⟩)
                      | (go_at_call 71; (with_reducible show Calls _ _ #[.int .u8 (a5.toNat : Int)] _ _); refine (HDA.out _).mono ?_; rintro e w2 ⟨rfl, rfl⟩)
                      | (go_at_call 71; (with_reducible show Calls _ _ #[.int .u8 (c5.toNat : Int)] _ _); refine (HDC.out _).mono ?_; rintro e w2 ⟨rfl, rfl⟩))
                    go_ret
                    exact ⟨by rw [HX.out]; rfl, Lib.hid (by rw [HB.out]; exact HC.out _ M1.out), M1.out.more (by simp)⟩
                  | true => exact absurd ⟨rfl, rfl, rfl, rfl⟩ hok
        · have hv := verS_not5 h5
          have HX := Lib.hid (show startS s.data.toList = 400 by rw [start_ver hw ht (by rw [hv]; decide), hv])
          have HB := Lib.hid (begP_no (h := h) (l := s.data.toList) (by rw [HX.out]; decide))
          have hex : ((xv.extract 0 5).toList == [72, 84, 84, 80, 47]) = false := text_ne (by
            rw [ByteArray.data_extract, Array.toList_extract, List.extract_eq_take_drop, hvl]
            simpa [hvL] using h5)
          clear hw ht hv h5 h8 hvl hvz
          go_enter Tryz.func56, Tryz.ntmps56
          go_wp2_with (first
            | (go_at_call 69; refine HSP.out.mono ?_; rintro e w1 ⟨g, cap, rfl, d0, d1, d2, hg1, hg2, hm⟩; have M1 := Lib.hid hm; clear hm)
            | (go_at_call 70; refine (HI.out _).mono ?_; rintro e w2 ⟨rfl, rfl⟩))
          go_ret
          exact ⟨by rw [HX.out]; rfl, Lib.hid (by rw [HB.out]; exact HC.out _ M1.out), M1.out.more (by simp)⟩
      · have hv := verS_not8 h8
        have HX := Lib.hid (show startS s.data.toList = 400 by rw [start_ver hw ht (by rw [hv]; decide), hv])
        have HB := Lib.hid (begP_no (h := h) (l := s.data.toList) (by rw [HX.out]; decide))
        have z8 : ((xv.size : Int) != 8) = true := by rw [bne_iff_ne]; omega
        clear hw ht hv h8 hvl hvz
        go_enter Tryz.func56, Tryz.ntmps56
        go_wp2_with (first
          | (go_at_call 69; refine HSP.out.mono ?_; rintro e w1 ⟨g, cap, rfl, d0, d1, d2, hg1, hg2, hm⟩; have M1 := Lib.hid hm; clear hm)
          | (go_at_call 70; refine (HI.out _).mono ?_; rintro e w2 ⟨rfl, rfl⟩))
        go_ret
        exact ⟨by rw [HX.out]; rfl, Lib.hid (by rw [HB.out]; exact HC.out _ M1.out), M1.out.more (by simp)⟩
  · have HX := Lib.hid (startS_parts h3)
    have HB := Lib.hid (begP_no (h := h) (l := s.data.toList) (by rw [HX.out]; decide))
    have HSP := Lib.hid (words_xn s hs w)
    obtain ⟨n, hn⟩ : ∃ n, n = (wordsL s.data.toList).length := ⟨_, rfl⟩
    rw [← hn] at h3 HSP
    have n3 : ((n : Int) != 3) = true := by rw [bne_iff_ne]; omega
    clear hn h3 hpl c
    unfold ptr
    go_enter Tryz.func56, Tryz.ntmps56
    go_wp2_with (go_at_call 69; refine HSP.out.mono ?_; rintro e w1 ⟨A, cap, rfl, hm⟩; have M1 := Lib.hid hm; clear hm)
    go_ret
    exact ⟨by rw [HX.out]; rfl, Lib.hid (by rw [HB.out]; exact HC.out _ M1.out), M1.out.more (by simp)⟩
end Go.Proofs.YtgkhelbpccehcaaGreatDoor

/- A line of the document's head. Conditions: lines of at most a million bytes. -/
namespace Go.Proofs.YtgkhelbpccehcaaGreatDoor
open Go.RowKit
set_option linter.unusedVariables false
set_option linter.unusedSimpArgs false

section
variable {xb : Nat} {v u : Value} {w w' : World} {h h' : HdP} {e z : Int}
theorem HdX.as (c : HdX xb v w h z e) (h1 : h'.S = h.S) (h2 : refCells z e h' = refCells z e h) : HdX xb v w h' z e := by
  show FldE _ (refCells z e h') _ _ _ h'.S
  rw [h1, h2]; exact c
/-- What a line has made, ahead of the storing of its status. -/
def TookX (xb : Nat) (v : Value) (w : World) (h' : HdP) (w' : World) : Prop :=
  ∃ (u : Value) (z' e' : Int), HdX xb u w' { h' with status := 0 } z' e' ∧ (h'.whole = false → h'.status = 0 → e' = (h'.empty : Int) ∧ z' = (h'.bytes : Int)) ∧ Mods (xb :: v.ownBlock.toList) w w' ∧ ∀ k ∈ u.ownBlock.toList, k ∈ v.ownBlock.toList ∨ w.heap.size ≤ k
theorem tookX_long {n : Int} (c : HdX xb v w' h z e) (hm : Mods [xb] w w') (h0 : h.status = 0) (hn : n ≠ 0) : TookX xb v w { h with status := n } w' :=
  ⟨v, z, e, c.as rfl (by unfold refCells; simp only [h0]), fun _ h => absurd h hn, hm.more (by simp), fun k hk => .inl hk⟩
theorem tookX_pass {n b : Nat} (c : HdX xb v w' h z e) (hm : Mods [xb] w w') (h0 : h.status = 0) (hz : z = (b : Int)) (hk : e = (n : Int) + 1) :
    TookX xb v w { h with bytes := b, empty := n + 1, status := if 4 < n + 1 then 400 else 0 } w' :=
  ⟨v, z, e, c.as rfl (by unfold refCells; simp only [h0]), fun _ _ => ⟨hk, hz⟩, hm.more (by simp), fun k hk => .inl hk⟩
theorem tookX_start {b : Nat} {l : List UInt8} (c : HdX xb v w' (begP h l) z (h.empty : Int)) (hm : Mods [xb] w w') (h0 : h.status = 0) (hz : z = (b : Int)) : TookX xb v w (startP { h with bytes := b } l) w' := by
  refine ⟨v, z, h.empty, ?_, ?_, hm.more (by simp), fun k hk => .inl hk⟩
  · by_cases e0 : startS l = 0
    · rw [startP_yes e0]
      unfold begP at c
      rw [if_pos e0] at c
      exact c.as rfl (by unfold refCells; simp only [h0])
    · rw [startP_bad e0]
      rw [begP_no e0] at c
      exact c.as rfl (by unfold refCells; simp only [h0])
  · intro _ hs
    by_cases e0 : startS l = 0
    · rw [startP_yes e0]; exact ⟨rfl, hz⟩
    · rw [startP_bad e0] at hs; exact absurd hs e0
theorem tookX_end {b : Nat} (c : HdX xb v w' (h.end (frm h.minor h.S)) z e) (hm : Mods [xb] w w') (h0 : h.status = 0) :
    TookX xb v w { h with bytes := b, how := (frm h.minor h.S).1, whole := decide ((frm h.minor h.S).2 = 0), status := (frm h.minor h.S).2 } w' := by
  refine ⟨v, z, e, c.as rfl (by unfold refCells HdP.end; simp only [h0]), fun h1 h2 => ?_, hm.more (by simp), fun k hk => .inl hk⟩
  simp only at h1 h2
  rw [h2] at h1; cases h1
theorem tookX_lay {W : World} {b : Nat} {s : ByteArray} (h1 : h.started = true) (h2 : s.size ≠ 0) (hm0 : Mods [xb] w W) (c : HdX xb u w' (layP h s) z (h.empty : Int)) (hm : Mods (xb :: v.ownBlock.toList) W w') (hu : ∀ k ∈ u.ownBlock.toList, k ∈ v.ownBlock.toList ∨ W.heap.size ≤ k) (h0 : h.status = 0) (hz : z = (b : Int)) :
    TookX xb v w (bodyP { h with bytes := b } s) w' := by
  refine ⟨u, z, h.empty, ?_, ?_, (hm0.more (F2 := xb :: v.ownBlock.toList) (by simp)).trans hm (fun k hk => .inl hk), fun k hk => (hu k hk).imp id (Nat.le_trans hm0.size)⟩
  · by_cases e1 : (parR s).2 = 0
    · by_cases e2 : 24 ≤ h.S.length
      · rw [bodyP_full (h := { h with bytes := b }) h1 h2 e1 e2]
        have hl : layS h s = 431 := by unfold layS; rw [if_neg (by simp [e1]), if_pos e2]
        unfold layP at c
        rw [hl, if_neg (by decide)] at c
        exact c.as rfl (by unfold refCells; simp only [h0])
      · rw [bodyP_add (h := { h with bytes := b }) h1 h2 e1 e2]
        have hl : layS h s = 0 := by unfold layS; rw [if_neg (by simp [e1]), if_neg e2]
        unfold layP at c
        rw [hl, if_pos rfl] at c
        exact c.as rfl (by unfold refCells; simp only [h0])
    · rw [bodyP_bad (h := { h with bytes := b }) h1 h2 e1]
      have hl : layS h s = 400 := by unfold layS; rw [if_pos e1]
      unfold layP at c
      rw [hl, if_neg (by decide)] at c
      exact c.as rfl (by unfold refCells; simp only [h0])
  · intro _ hs
    by_cases e1 : (parR s).2 = 0
    · by_cases e2 : 24 ≤ h.S.length
      · rw [bodyP_full (h := { h with bytes := b }) h1 h2 e1 e2] at hs; cases hs
      · rw [bodyP_add (h := { h with bytes := b }) h1 h2 e1 e2]; exact ⟨rfl, hz⟩
    · rw [bodyP_bad (h := { h with bytes := b }) h1 h2 e1] at hs; cases hs
theorem HdX.ends {k l n : Int} {c x : Bool} (a : HdX xb v w h z e) :
    HdX xb v (((((w.setCell ⟨xb, 7, none⟩ (.int .i64 k)).setCell ⟨xb, 8, none⟩ (.int .i64 l)).setCell ⟨xb, 9, none⟩ (.bool c)).setCell ⟨xb, 10, none⟩ (.bool x)).setCell ⟨xb, 12, none⟩ (.bool (n == 0))) (h.end (⟨k, l, c, x⟩, n)) z e := by
  have h1 := a.set 7 (.int .i64 k) (h' := { h with how := ⟨k, h.how.length, h.how.close, h.how.expect⟩ }) (e' := e) (z' := z) rfl rfl
  have h2 := HdX.set h1 8 (.int .i64 l) (h' := { h with how := ⟨k, l, h.how.close, h.how.expect⟩ }) (e' := e) (z' := z) rfl rfl
  have h3 := HdX.set h2 9 (.bool c) (h' := { h with how := ⟨k, l, c, h.how.expect⟩ }) (e' := e) (z' := z) rfl rfl
  have h4 := HdX.set h3 10 (.bool x) (h' := { h with how := ⟨k, l, c, x⟩ }) (e' := e) (z' := z) rfl rfl
  exact HdX.set h4 12 (.bool (n == 0)) (h' := h.end (⟨k, l, c, x⟩, n)) (e' := e) (z' := z) (by rw [beq_dec]; rfl) rfl
theorem endsX_mods {k l n : Int} {c x : Bool} :
    Mods [xb] w (((((w.setCell ⟨xb, 7, none⟩ (.int .i64 k)).setCell ⟨xb, 8, none⟩ (.int .i64 l)).setCell ⟨xb, 9, none⟩ (.bool c)).setCell ⟨xb, 10, none⟩ (.bool x)).setCell ⟨xb, 12, none⟩ (.bool (n == 0))) :=
  (((((Mods.refl [xb] w).setCell (.inl (by simp)) _).setCell (.inl (by simp)) _).setCell (.inl (by simp)) _).setCell (.inl (by simp)) _).setCell (.inl (by simp)) _
theorem res_HR {w w' : World} (h : Mods [] (w.alloc (.cells #[.int .i64 0, .int .i64 0, .bool false, .bool false] 29)) w') : Row w' w.heap.size 29 noH.cells ∧ Mods [] w w' :=
  ⟨(Row.new w _ _).mods h (by simp), ((Mods.refl [] w).alloc _).trans h (fun _ h => nomatch h)⟩
end
theorem FldE.as13 {xb : Nat} {u : Value} {w' : World} {h h' : HdP} {e z : Int} {S' : List FV} (f : FldE 74 (refCells z e h) w' xb u S') (h2 : refCells z e h' = refCells z e h) (h1 : h'.S = S') : HdX xb u w' h' z e := by
  show FldE _ (refCells z e h') _ _ _ h'.S
  rw [h1, h2]; exact f
/-- One field Added, from a row of one. -/
theorem radd_one13 {t : TypeId} {R : List Value} {g b : Nat} {v : Value} {S : List FV} (x y : ByteArray) {w W : World} (h : FldE t R w g v S) (hm : Mods [] w W) (hr : Row W b 81 #[.string x, .string y]) (hb : w.heap.size ≤ b) (h1 : x.size ≤ 1000000) (h2 : y.size ≤ 1000000) (ht : 81 ≠ t) :
    Calls Tryz.prog 59 #[ptr g, .slice (some ⟨b, 0, none⟩) 1 1] W fun e w' =>
      ∃ u, e = .returned (.tuple #[.int .i64 ((addR S.length [(x, y)]).1 : Nat), .int .i64 (addR S.length [(x, y)]).2]) ∧ AddedE t R W g v (addF S [(x, y)]) u w' := by
  refine radd (.slice (some ⟨b, 0, none⟩) 1 1) [(x, y)] _ (h.low hm) (.inr ⟨b, 0, 1, rfl, by simp, hr.lt, fun j hj => ?_⟩) (by simp) ?_ ?_ ht
  · obtain rfl : j = 0 := by (have : j < 1 := hj); omega
    exact ⟨hr.cell 0, hr.cell 1⟩
  · intro p hp; rw [List.mem_singleton] at hp; subst hp; exact ⟨h1, h2⟩
  · intro _ k hk
    have hk2 : k = b := by simpa [Value.ownBlock, eq_comm] using hk
    subst hk2
    exact ⟨fun e => by have := h.row.lt; omega, fun hk3 => by have := h.lt _ hk3; omega⟩
set_option maxRecDepth 10000 in
set_option maxHeartbeats 4000000 in
theorem line_x0 {xb : Nat} {v : Value} {w : World} {h : HdP} (s : ByteArray) (hs : s.size ≤ 1000000) (ok : HdOk h) (h1 : h.whole = false) (h2 : h.status = 0) (c : HdX xb v w h h.bytes h.empty) :
    Calls Tryz.prog 46 #[ptr xb, .string s] w fun r w' => r = .returned (.int .i64 (lineP h s).status) ∧ Hid (TookX xb v w (lineP h s) w') := by
  have hby := ok.bytes
  have hem := ok.low h1 h2
  obtain ⟨b, hb0⟩ : ∃ b, b = h.bytes + (s.size + 2) := ⟨_, rfl⟩
  have hz : (h.bytes : Int) + (s.size : Int) + 2 = (b : Int) := by omega
  obtain ⟨-, -, -, -, -, -, -, -, -, -, -, p11, -, -, p14, p15⟩ := c.facts
  have f14 := c.row'.free 14
  have hwr1 : IntKind.i64.wrap ((h.bytes : Int) + (s.size : Int)) = (h.bytes : Int) + (s.size : Int) := by rw [IntKind.wrap_i64]; omega
  have hwr2 : IntKind.i64.wrap ((h.bytes : Int) + (s.size : Int) + 2) = (b : Int) := by rw [IntKind.wrap_i64]; omega
  have C0 := Lib.hid c
  have H0 := Lib.hid h2
  have HLG := Lib.hid (fun (x : 256 < s.size) => lineP_long (s := s) h1 h2 x)
  have HMU := Lib.hid (fun (x : ¬ 256 < s.size) (y : 1024 < b) => lineP_much (s := s) h1 h2 x (by rw [← hb0]; exact y))
  have HGO := Lib.hid (fun (x : ¬ 256 < s.size) (y : ¬ 1024 < b) => (show lineP h s = bodyP { h with bytes := b } s by rw [hb0]; exact lineP_go (s := s) h1 h2 x (by rw [← hb0]; exact y)))
  unfold ptr at *
  by_cases hl : 256 < s.size
  · have HX := Lib.hid (HLG.out hl)
    have x2 : (256 : Int) < (s.size : Int) := by omega
    clear HLG HMU HGO hl h1 h2 c hem hby hb0 hz
    cases a0 : h.started with
    | false =>
      rw [a0] at p11
      have HL := Lib.hid (longS_n a0)
      clear a0
      go_enter Tryz.func46, Tryz.ntmps46
      go_wp2_with fail
      go_ret
      exact ⟨by rw [HX.out, HL.out]; rfl, Lib.hid (by rw [HX.out, HL.out]; exact tookX_long C0.out (Mods.refl _ _) H0.out (by decide))⟩
    | true =>
      rw [a0] at p11
      have HL := Lib.hid (longS_y a0)
      clear a0
      go_enter Tryz.func46, Tryz.ntmps46
      go_wp2_with fail
      go_ret
      exact ⟨by rw [HX.out, HL.out]; rfl, Lib.hid (by rw [HX.out, HL.out]; exact tookX_long C0.out (Mods.refl _ _) H0.out (by decide))⟩
  · have x2 : decide ((256 : Int) < (s.size : Int)) = false := by simp; omega
    obtain ⟨W1, hW1⟩ : ∃ W1, W1 = w.setCell ⟨xb, 14, none⟩ (.int .i64 (b : Int)) := ⟨_, rfl⟩
    have c1 : HdX xb v W1 h b h.empty := by rw [hW1]; exact c.set 14 _ rfl rfl
    have m1 : Mods [xb] w W1 := by rw [hW1]; exact (Mods.refl _ _).setCell (.inl (by simp)) _
    obtain ⟨-, -, -, -, -, -, q6, -, -, -, -, q11, -, -, q14, q15⟩ := c1.facts
    have C1 := Lib.hid c1
    have M1 := Lib.hid m1
    by_cases hl2 : 1024 < b
    · have HX := Lib.hid (HMU.out hl hl2)
      have y2 : (1024 : Int) < (b : Int) := by omega
      clear HLG HMU HGO hl h1 h2 c hem hby hb0 hz m1 c1 hl2
      cases a0 : h.started with
      | false =>
        rw [a0] at p11 q11
        have HL := Lib.hid (longS_n a0)
        clear a0
        go_enter Tryz.func46, Tryz.ntmps46
        go_upto_region 7 with fail
        rw [← hW1]
        clear hW1 p11 p14 p15 f14
        go_wp2_with fail
        go_ret
        exact ⟨by rw [HX.out, HL.out]; rfl, Lib.hid (by rw [HX.out, HL.out]; exact tookX_long C1.out M1.out H0.out (by decide))⟩
      | true =>
        rw [a0] at p11 q11
        have HL := Lib.hid (longS_y a0)
        clear a0
        go_enter Tryz.func46, Tryz.ntmps46
        go_upto_region 7 with fail
        rw [← hW1]
        clear hW1 p11 p14 p15 f14
        go_wp2_with fail
        go_ret
        exact ⟨by rw [HX.out, HL.out]; rfl, Lib.hid (by rw [HX.out, HL.out]; exact tookX_long C1.out M1.out H0.out (by decide))⟩
    · have hx := HGO.out hl hl2
      have y2 : decide ((1024 : Int) < (b : Int)) = false := by simp; omega
      clear HLG HMU HGO hl2 hb0 hz hby
      cases a0 : h.started with
      | false =>
        rw [a0] at p11 q11
        by_cases z0 : s.size = 0
        · have hem2 := emp_yes z0
          have hx := hx.trans (bodyP_skip (h := { h with bytes := b }) a0 z0)
          simp only at hx
          have f15 := c1.row'.free 15
          have hwe : IntKind.i64.wrap ((h.empty : Int) + 1) = (h.empty : Int) + 1 := by rw [IntKind.wrap_i64]; omega
          have S2 := Lib.hid (c1.set 15 (.int .i64 ((h.empty : Int) + 1)) (h' := h) (z' := (b : Int)) (e' := (h.empty : Int) + 1) rfl rfl)
          have HXX := Lib.hid hx
          by_cases h4 : 4 < h.empty + 1
          · have HX := Lib.hid (show (lineP h s).status = 400 by rw [hx]; exact if_pos h4)
            have g4 : (4 : Int) < (h.empty : Int) + 1 := by omega
            clear hx h1 h2 c m1 c1 a0 z0 hem hl h4
            go_enter Tryz.func46, Tryz.ntmps46
            go_upto_region 7 with fail
            rw [← hW1]
            clear hW1 p11 p14 p15 f14
            go_wp2_with fail
            go_ret
            exact ⟨by rw [HX.out]; rfl, Lib.hid (by rw [HXX.out]; exact tookX_pass S2.out (M1.out.setCell (.inl (by simp)) _) H0.out rfl rfl)⟩
          · have HX := Lib.hid (show (lineP h s).status = 0 by rw [hx]; exact if_neg h4)
            have g4 : decide ((4 : Int) < (h.empty : Int) + 1) = false := by simp; omega
            clear hx h1 h2 c m1 c1 a0 z0 hem hl h4
            go_enter Tryz.func46, Tryz.ntmps46
            go_upto_region 7 with fail
            rw [← hW1]
            clear hW1 p11 p14 p15 f14
            go_wp2_with fail
            go_ret
            exact ⟨by rw [HX.out]; rfl, Lib.hid (by rw [HXX.out]; exact tookX_pass S2.out (M1.out.setCell (.inl (by simp)) _) H0.out rfl rfl)⟩
        · have hem2 := emp_no (s := s) (by omega)
          have HX := Lib.hid (hx.trans (bodyP_start (h := { h with bytes := b }) a0 z0))
          have HB := Lib.hid (start_x s (by omega) (ok.none a0).2.2.1 c1)
          have HS := Lib.hid (start_status (h := { h with bytes := b }) (l := s.data.toList) h2)
          clear hx h1 h2 c m1 c1 a0 z0 hem hl
          unfold ptr at HB
          go_enter Tryz.func46, Tryz.ntmps46
          go_upto_region 7 with fail
          rw [← hW1]
          clear hW1 p11 p14 p15 f14
          go_wp2_with (go_at_call 56; refine HB.out.mono ?_; rintro e w2 ⟨rfl, hk, hm⟩; have HK := Lib.hid hk.out; have M2 := Lib.hid hm; clear hk hm)
          go_ret
          exact ⟨by rw [HX.out, HS.out]; rfl, Lib.hid (by rw [HX.out]; exact tookX_start HK.out (M1.out.trans M2.out (fun k hk => .inl hk)) H0.out rfl)⟩
      | true =>
        rw [a0] at p11 q11
        by_cases z0 : s.size = 0
        · have hem2 := emp_yes z0
          have HX := Lib.hid (hx.trans (bodyP_end (h := { h with bytes := b }) a0 z0))
          have hfm : frm h.minor h.S = frmN h.minor h.S := by
            unfold frm
            rcases ok.minor with e | e <;> rw [e] <;> rfl
          have hmm : max 0 (min 1 h.minor) = h.minor := by rcases ok.minor with e | e <;> rw [e] <;> rfl
          have HO := Lib.hid (fun W (hm : Mods [] W1 W) => of_rfld hmm ok.minor (FldE.low c1 hm) ok.lite)
          unfold HAns at HO
          rw [← hfm] at HO
          have HTE := Lib.hid (fun w' (k : HdX xb v w' (h.end (frm h.minor h.S)) b h.empty) (hm : Mods [xb] w w') => tookX_end (b := b) k hm h2)
          obtain ⟨r, hr⟩ : ∃ r, r = frm h.minor h.S := ⟨_, rfl⟩
          rw [← hr] at HO HTE HX
          obtain ⟨⟨k, l, cl, x⟩, n⟩ := r
          simp only [howV] at HO
          have n1 : ¬ xb = W1.heap.size := Nat.ne_of_lt c1.row'.lt
          have n2 : ¬ W1.heap.size = xb := fun e => n1 e.symm
          have HC := Lib.hid (fun W (hm : Mods [] W1 W) => FldE.low c1 hm)
          clear hx h1 h2 c m1 c1 a0 z0 hem hl hfm hmm hr
          unfold ptr at HO
          go_enter Tryz.func46, Tryz.ntmps46
          go_upto_region 7 with fail
          rw [← hW1]
          clear hW1 p11 p14 p15 f14
          go_upto_region 17 with fail
          go_cut [6, 7] (fun t er wx => ∃ tb, t = .pointer (some ⟨tb, 0, none⟩) ∧ er = .int .i64 n ∧ Hid (Row wx tb 29 (⟨k, l, cl, x⟩ : HowP).cells ∧ Mods [] W1 wx))
          case first =>
            go_region_held3 (fun w' => w'.cell? ⟨xb, 6, none⟩ = some (.int .i64 h.minor)) (go_keep) (first
              | (go_at_call 57; refine (HO.out _ ((Mods.refl [] W1).drew)).mono ?_; rintro e w2 ⟨rfl, hm⟩; have hm2 := ((Mods.refl [] W1).drew).trans hm (fun _ h => nomatch h); have M2 := Lib.hid hm2; have d6 := cell_mods q6 hm2 (by simp); clear hm hm2)
              | (go_at_call 57; refine (HO.out _ (((Mods.refl [] W1).alloc (.cells #[.int .i64 0, .int .i64 0, .bool false, .bool false] 29)).drew)).mono ?_; rintro e w2 ⟨rfl, hm⟩; have hm2 := res_HR (of_drewT hm); have M2 := Lib.hid hm2.2; have R2 := Lib.hid hm2.1; obtain ⟨k0, k1, k2, k3, f0, f1, f2, f3⟩ := R2.out.factsH; simp only [noH] at k0 k1 k2 k3; have d6 := cell_mods q6 hm2.2 (by simp); clear hm hm2))
            · go_wp2
              go_meet
              case rel => exact ⟨_, rfl, rfl, Lib.hid ⟨Row.new _ _ _, M2.out.alloc _⟩⟩
            · go_wp2
              go_meet
              case rel => exact ⟨_, rfl, rfl, Lib.hid ⟨R2.out.putH ⟨k, l, cl, x⟩, M2.out.putH (.inr (Nat.le_refl _)) ⟨k, l, cl, x⟩⟩⟩
          case rest =>
            obtain ⟨tb, rfl, rfl, hq⟩ := hcut
            have MT := Lib.hid hq.out.2
            have hc : HdX xb v wc h b h.empty := HC.out _ hq.out.2
            obtain ⟨k0, k1, k2, k3, -⟩ := hq.out.1.factsH
            simp only at k0 k1 k2 k3
            obtain ⟨-, -, -, -, -, -, -, r7, r8, r9, r10, -, r12, -⟩ := hc.facts
            have f7 := hc.row'.free 7
            have f8 := hc.row'.free 8
            have f9 := hc.row'.free 9
            have f10 := hc.row'.free 10
            have f12 := hc.row'.free 12
            have CX := Lib.hid hc
            clear hq hc q6 q11 q14 q15
            obtain ⟨wx, rfl⟩ : ∃ wx : World, wx = wc := ⟨_, rfl⟩
            go_wp2_with fail
            go_ret
            exact ⟨by rw [HX.out]; rfl, Lib.hid (by rw [HX.out]; exact HTE.out _ (HdX.ends CX.out) ((M1.out.trans (MT.out.more (F2 := [xb]) (by simp)) (fun k hk => .inl hk)).trans endsX_mods (fun k hk => .inl hk)))⟩
        · have hem2 := emp_no (s := s) (by omega)
          have HX := Lib.hid hx
          have HA0 := Lib.hid a0
          have HZ0 := Lib.hid z0
          have HS := Lib.hid (lay_status (b := b) a0 z0 h2)
          have HP := Lib.hid (fparse_r s W1 (by omega))
          have HPO := Lib.hid (par_ok (s := s))
          have HLS := Lib.hid (show layS h s = if (parR s).2 ≠ 0 then 400 else if 24 ≤ h.S.length then 431 else 0 from rfl)
          have HLP := Lib.hid (show layP h s = if layS h s = 0 then { h with S := h.S ++ [(parR s).1] } else h from rfl)
          unfold FPAns at HP
          obtain ⟨r, hr⟩ : ∃ r, r = parR s := ⟨_, rfl⟩
          rw [← hr] at HP HPO HLS HLP
          clear hr
          obtain ⟨⟨x, y⟩, n⟩ := r
          simp only at HP HPO HLS HLP
          have HCM := Lib.hid (fun W (hm : Mods [] W1 W) => FldE.low c1 hm)
          by_cases n0 : n = 0
          · subst n0
            obtain ⟨hok, hx1, hy1⟩ := HPO.out rfl
            have ha := addR_one (n := h.S.length) hok
            have hf := addF_one (S := h.S) hok
            have HL := Lib.hid (show layS h s = if 24 ≤ h.S.length then 431 else 0 by rw [HLS.out]; exact if_neg (by decide))
            have h24 := c1.len
            have HAD := Lib.hid (fun W b (hm : Mods [] W1 W) (hr : Row W b 81 #[.string x, .string y]) (hb : W1.heap.size ≤ b) => radd_one13 x y c1 hm hr hb (by omega) (by omega) (by decide))
            rw [ha, hf] at HAD
            have HLT := Lib.hid (show ∀ k ∈ xb :: v.ownBlock.toList, k < W1.heap.size from fun k hk => by
              rcases List.mem_cons.1 hk with e | e
              · rw [e]; exact c1.row'.lt
              · exact FldE.lt c1 k e)
            obtain ⟨m, hm⟩ : ∃ m, m = h.S.length := ⟨_, rfl⟩
            rw [← hm] at HAD HL h24
            obtain ⟨S', hS'⟩ : ∃ S', S' = (if m = 24 then h.S else h.S ++ [(x, y)]) := ⟨_, rfl⟩
            rw [← hS'] at HAD
            have HS' := Lib.hid hS'
            clear hS' hm HPO HLS hok ha hf hx h1 h2 c m1 c1 a0 z0 hem hl
            unfold ptr at HAD
            by_cases hn : m = 24
            · subst hn
              have HL2 := Lib.hid (show layS h s = 431 from HL.out)
              have HY := Lib.hid (show layP h s = h by rw [HLP.out, HL2.out]; exact if_neg (by decide))
              simp only [if_true] at HAD
              clear HL HLP h24
              go_enter Tryz.func46, Tryz.ntmps46
              go_upto_region 7 with fail
              rw [← hW1]
              clear hW1 p11 p14 p15 f14
              go_upto_region 24 with (go_at_call 58; refine HP.out.mono ?_; rintro e w1 ⟨rfl, hm⟩; have M0 := Lib.hid hm; clear hm)
              obtain ⟨W2, hW2⟩ : ∃ W2, W2 = w1.alloc (.cells #[.string x, .string y] 81) := ⟨_, rfl⟩
              obtain ⟨tb, htb⟩ : ∃ tb, tb = w1.heap.size := ⟨_, rfl⟩
              have m2 : Mods [] W1 W2 := by rw [hW2]; exact M0.out.alloc _
              have r1 : Row W2 tb 81 #[.string x, .string y] := by rw [hW2, htb]; exact Row.new _ _ _
              have htw : W1.heap.size ≤ tb := by rw [htb]; exact M0.out.size
              rw [← hW2, ← htb]
              have t0 : W2.cell? ⟨tb, 0, none⟩ = some (.string x) := r1.cell 0
              have t1 : W2.cell? ⟨tb, 1, none⟩ = some (.string y) := r1.cell 1
              have x3 : ¬ tb = W2.heap.size := Nat.ne_of_lt r1.lt
              have x4 : ¬ W2.heap.size = tb := fun e => x3 e.symm
              have R1 := Lib.hid r1
              have M2 := Lib.hid m2
              have HTW := Lib.hid htw
              clear hW2 htb r1 m2 htw q6 q11 q14 q15
              go_region_held3 (fun w' => w'.cell? ⟨tb, 0, none⟩ = some (.string x) ∧ w'.cell? ⟨tb, 1, none⟩ = some (.string y)) (go_keep) ((go_at_call 59; refine (HAD.out _ W2.heap.size ((M2.out.alloc (.cells #[.string x, .string y] 81)).drew) (Row.new W2 81 #[.string x, .string y]) M2.out.size).mono ?_; rintro e w4 ⟨u, rfl, ha⟩; have HA := Lib.hid ha; have mm := ((Mods.refl _ W2).alloc (.cells #[.string x, .string y] 81)).drew.trans ha.mods (fun k hk => .inl hk); have htg : tb ∉ xb :: v.ownBlock.toList := (fun hk => by (have h1 := HLT.out tb hk; have h2 := HTW.out; omega)); have d1 := cell_mods t0 mm htg; have d2 := cell_mods t1 mm htg; have MM := Lib.hid mm; clear ha mm htg))
              go_wp2
              go_ret
              refine ⟨by rw [HX.out, HS.out, HL2.out]; rfl, Lib.hid (by
                rw [HX.out]
                refine tookX_lay HA0.out HZ0.out M1.out (u := u) ?_ ((M2.out.more (F2 := xb :: v.ownBlock.toList) (by simp)).trans MM.out (fun k hk => .inl hk)) (fun k hk => ?_) H0.out rfl
                · rw [HY.out]
                  exact FldE.as13 HA.out.fld rfl (by rw [HS'.out]; simp)
                · rcases HA.out.news k hk with h1 | h1
                  · exact .inl h1
                  · exact .inr (by have h2 := M2.out.size; simp at h1; omega))⟩
            · have HL2 := Lib.hid (show layS h s = 0 by rw [HL.out]; exact if_neg (by omega))
              have HY := Lib.hid (show layP h s = { h with S := h.S ++ [(x, y)] } by rw [HLP.out, HL2.out]; exact if_pos rfl)
              have HNN := Lib.hid hn
              rw [if_neg hn] at HAD
              clear HL HLP h24 hn
              go_enter Tryz.func46, Tryz.ntmps46
              go_upto_region 7 with fail
              rw [← hW1]
              clear hW1 p11 p14 p15 f14
              go_upto_region 24 with (go_at_call 58; refine HP.out.mono ?_; rintro e w1 ⟨rfl, hm⟩; have M0 := Lib.hid hm; clear hm)
              obtain ⟨W2, hW2⟩ : ∃ W2, W2 = w1.alloc (.cells #[.string x, .string y] 81) := ⟨_, rfl⟩
              obtain ⟨tb, htb⟩ : ∃ tb, tb = w1.heap.size := ⟨_, rfl⟩
              have m2 : Mods [] W1 W2 := by rw [hW2]; exact M0.out.alloc _
              have r1 : Row W2 tb 81 #[.string x, .string y] := by rw [hW2, htb]; exact Row.new _ _ _
              have htw : W1.heap.size ≤ tb := by rw [htb]; exact M0.out.size
              rw [← hW2, ← htb]
              have t0 : W2.cell? ⟨tb, 0, none⟩ = some (.string x) := r1.cell 0
              have t1 : W2.cell? ⟨tb, 1, none⟩ = some (.string y) := r1.cell 1
              have x3 : ¬ tb = W2.heap.size := Nat.ne_of_lt r1.lt
              have x4 : ¬ W2.heap.size = tb := fun e => x3 e.symm
              have R1 := Lib.hid r1
              have M2 := Lib.hid m2
              have HTW := Lib.hid htw
              clear hW2 htb r1 m2 htw q6 q11 q14 q15
              go_region_held3 (fun w' => w'.cell? ⟨tb, 0, none⟩ = some (.string x) ∧ w'.cell? ⟨tb, 1, none⟩ = some (.string y)) (go_keep) ((go_at_call 59; refine (HAD.out _ W2.heap.size ((M2.out.alloc (.cells #[.string x, .string y] 81)).drew) (Row.new W2 81 #[.string x, .string y]) M2.out.size).mono ?_; rintro e w4 ⟨u, rfl, ha⟩; have HA := Lib.hid ha; have mm := ((Mods.refl _ W2).alloc (.cells #[.string x, .string y] 81)).drew.trans ha.mods (fun k hk => .inl hk); have htg : tb ∉ xb :: v.ownBlock.toList := (fun hk => by (have h1 := HLT.out tb hk; have h2 := HTW.out; omega)); have d1 := cell_mods t0 mm htg; have d2 := cell_mods t1 mm htg; have MM := Lib.hid mm; clear ha mm htg))
              go_wp2
              go_ret
              refine ⟨by rw [HX.out, HS.out, HL2.out]; rfl, Lib.hid (by
                rw [HX.out]
                refine tookX_lay HA0.out HZ0.out M1.out (u := u) ?_ ((M2.out.more (F2 := xb :: v.ownBlock.toList) (by simp)).trans MM.out (fun k hk => .inl hk)) (fun k hk => ?_) H0.out rfl
                · rw [HY.out]
                  exact FldE.as13 HA.out.fld rfl (by rw [HS'.out, if_neg HNN.out])
                · rcases HA.out.news k hk with h1 | h1
                  · exact .inl h1
                  · exact .inr (by have h2 := M2.out.size; simp at h1; omega))⟩
          · have hne : (n != 0) = true := by simpa using n0
            have HL2 := Lib.hid (show layS h s = 400 by rw [HLS.out, if_pos n0])
            have HY := Lib.hid (show layP h s = h by rw [HLP.out, HL2.out]; exact if_neg (by decide))
            clear n0 HLS HLP HPO hx h1 h2 c m1 c1 a0 z0 hem hl
            go_enter Tryz.func46, Tryz.ntmps46
            go_upto_region 7 with fail
            rw [← hW1]
            clear hW1 p11 p14 p15 f14
            go_wp2_with (go_at_call 58; refine HP.out.mono ?_; rintro e w1 ⟨rfl, hm⟩; have M0 := Lib.hid hm; clear hm)
            go_ret
            exact ⟨by rw [HX.out, HS.out, HL2.out]; rfl, Lib.hid (by
              rw [HX.out]
              exact tookX_lay HA0.out HZ0.out M1.out (u := v) (by rw [HY.out]; exact HCM.out _ (M0.out.alloc _)) ((M0.out.alloc _).more (by simp)) (fun k hk => .inl hk) H0.out rfl)⟩
end Go.Proofs.YtgkhelbpccehcaaGreatDoor

/- Line of the document's head; both heads side by side. Conditions: lines of at most a million bytes. -/
namespace Go.Proofs.YtgkhelbpccehcaaGreatDoor
open Go.RowKit
set_option linter.unusedVariables false
set_option linter.unusedSimpArgs false

/-- What a call leaves of the document's head. -/
def LinedX (F : List Nat) (w : World) (xb : Nat) (h' : HdP) (w' : World) : Prop := ∃ F', HdR F' w' xb h' ∧ Mods F w w' ∧ ∀ k ∈ F', k ∈ F ∨ w.heap.size ≤ k
theorem LinedX.of_took {xb : Nat} {v : Value} {w w' : World} {h' : HdP} (t : TookX xb v w h' w') (o : HdOk h') : LinedX (xb :: v.ownBlock.toList) w xb h' (w'.setCell ⟨xb, 13, none⟩ (.int .i64 h'.status)) := by
  obtain ⟨u, z', e', c, hz, hm, hn⟩ := t
  refine ⟨xb :: u.ownBlock.toList, ⟨⟨u, z', e', c.set 13 _ (h' := h') rfl rfl, rfl, hz⟩, o⟩, hm.setCell (.inl (by simp)) _, fun k hk => ?_⟩
  rcases List.mem_cons.1 hk with e | e
  · exact .inl (by rw [e]; simp)
  · exact (hn k e).imp (fun h => by simp [h]) id
theorem LinedX.low {F : List Nat} {w w' w2 : World} {xb : Nat} {h' : HdP} (l : LinedX F w xb h' w') (hm : Mods [] w' w2) : LinedX F w xb h' w2 := by
  obtain ⟨F', a, hm0, hn⟩ := l
  exact ⟨F', a.low hm, hm0.trans hm (fun _ h => nomatch h), hn⟩
set_option maxRecDepth 10000 in
set_option maxHeartbeats 2000000 in
theorem line_x {F : List Nat} {w : World} {xb : Nat} {h : HdP} (s : ByteArray) (hs : s.size ≤ 1000000) (a : HdR F w xb h) :
    Calls Tryz.prog 35 #[ptr xb, .string s] w fun r w' => r = .returned (.tuple #[.bool (lineP h s).whole, .int .i64 (lineP h s).status]) ∧ Hid (LinedX F w xb (lineP h s) w') := by
  obtain ⟨v, z, e, c, rfl, hz⟩ := a.ex
  have ok := a.ok
  have HO := Lib.hid (ok.line s)
  have c8 : w.cell? ⟨xb, 12, none⟩ = some (.bool h.whole) := c.row'.cell 12
  have c9 : w.cell? ⟨xb, 13, none⟩ = some (.int .i64 h.status) := c.row'.cell 13
  unfold ptr
  by_cases he : h.whole = true ∨ h.status ≠ 0
  · have HX := Lib.hid (lineP_end s he)
    have HL := Lib.hid (show LinedX (xb :: v.ownBlock.toList) w xb h w from ⟨_, a, Mods.refl _ _, fun k hk => .inl hk⟩)
    have hcase : h.whole = true ∨ (h.whole = false ∧ (h.status == 0) = false) := by
      cases hw : h.whole with
      | true => exact .inl rfl
      | false => exact .inr ⟨rfl, by rw [beq_eq_false_iff_ne]; exact he.resolve_left (by rw [hw]; simp)⟩
    clear a c he hz ok
    obtain ⟨b0, hb0⟩ : ∃ b0, b0 = h.whole := ⟨_, rfl⟩
    obtain ⟨n0, hn0⟩ : ∃ n0, n0 = h.status := ⟨_, rfl⟩
    rw [← hb0] at c8 hcase
    rw [← hn0] at c9 hcase
    have HB := Lib.hid hb0.symm
    have HN := Lib.hid hn0.symm
    clear hb0 hn0
    rcases hcase with rfl | ⟨rfl, hn⟩
    all_goals
      go_enter Tryz.func35, Tryz.ntmps35
      go_upto_region 3 with fail
      go_quiet (fail)
      go_wp2
      go_ret2
      exact ⟨by rw [HX.out, HB.out, HN.out]; rfl, Lib.hid (by rw [HX.out]; exact HL.out.low (by exact (Mods.refl _ _).drewN _))⟩
  · have h1 : h.whole = false := by cases hw : h.whole with | false => rfl | true => exact absurd (.inl hw) he
    have h2 : h.status = 0 := by
      by_cases e : h.status = 0
      · exact e
      · exact absurd (.inr e) he
    obtain ⟨rfl, rfl⟩ := hz h1 h2
    have HT := Lib.hid (line_x0 s hs ok h1 h2 c)
    rw [h1] at c8
    rw [h2] at c9
    clear a c he hz ok h1 h2
    unfold ptr at HT
    generalize lineP h s = h' at *
    go_enter Tryz.func35, Tryz.ntmps35
    go_upto_region 3 with (go_at_call 46; refine HT.out.mono ?_; rintro e w1 ⟨rfl, hk⟩; have HK := Lib.hid hk.out; obtain ⟨u1, z1, e1, k1, -⟩ := hk.out; have d9 : w1.cell? ⟨xb, 13, none⟩ = some (.int .i64 0) := k1.row'.cell 13; have f9 := k1.row'.free 13; clear hk k1)
    have hl := LinedX.of_took HK.out HO.out
    obtain ⟨W2, hW2⟩ : ∃ W2, W2 = w1.setCell ⟨xb, 13, none⟩ (.int .i64 h'.status) := ⟨_, rfl⟩
    rw [← hW2] at hl ⊢
    clear hW2 d9 f9 c8 c9 u1 e1 z1
    have HL := Lib.hid hl
    obtain ⟨F', a2, -, -⟩ := hl
    obtain ⟨v2, z2, e2, cc, -, -⟩ := a2.ex
    have d8 : W2.cell? ⟨xb, 12, none⟩ = some (.bool h'.whole) := cc.row'.cell 12
    have d9 : W2.cell? ⟨xb, 13, none⟩ = some (.int .i64 h'.status) := cc.row'.cell 13
    clear a2 cc F' v2 e2 z2
    go_quiet (fail)
    go_wp2
    go_ret2
    exact ⟨rfl, Lib.hid (HL.out.low (by exact (Mods.refl _ _).drewN _))⟩

/-- Both heads, as a law holds them; W is the world that the law began with. -/
structure Both (W w : World) (hb xb : Nat) (h : HdP) (F G : List Nat) : Prop where
  a : HdA F w hb h
  x : HdR G w xb h
  ap : ∀ k ∈ F, k ∉ G
  bf : ∀ k ∈ F, W.heap.size ≤ k
  bg : ∀ k ∈ G, W.heap.size ≤ k
  low : Mods [] W w
section
variable {W w w' : World} {hb xb : Nat} {h h' : HdP} {F G : List Nat}
theorem Both.quiet (b : Both W w hb xb h F G) (hm : Mods [] w w') : Both W w' hb xb h F G := ⟨b.a.low hm, b.x.low hm, b.ap, b.bf, b.bg, b.low.trans hm (fun _ h => nomatch h)⟩
/-- Both have been given the same line: the code's first. -/
structure Half (W w : World) (hb xb : Nat) (h' h : HdP) (F G : List Nat) : Prop where
  a : HdA F w hb h'
  x : HdR G w xb h
  ap : ∀ k ∈ F, k ∉ G
  bf : ∀ k ∈ F, W.heap.size ≤ k
  bg : ∀ k ∈ G, W.heap.size ≤ k
  low : Mods [] W w
theorem Both.first (b : Both W w hb xb h F G) (l : Lined F w hb h' w') : ∃ F', Half W w' hb xb h' h F' G := by
  obtain ⟨F', a, hm, hn⟩ := l
  refine ⟨F', a, b.x.mods hm (fun k hk hk2 => b.ap k hk2 hk), fun k hk hk2 => ?_, fun k hk => ?_, b.bg, b.low.trans hm (fun k hk => .inr (b.bf k hk))⟩
  · rcases hn k hk with e | e
    · exact b.ap k e hk2
    · have := b.x.lt k hk2; omega
  · rcases hn k hk with e | e
    · exact b.bf k e
    · exact Nat.le_trans b.low.size e
end
end Go.Proofs.YtgkhelbpccehcaaGreatDoor

/- A body in chunks, byte by byte: plain functions of chapter 14. No program but for what Parse answers. -/
namespace Go.Proofs.YtgkhelbpccehcaaGreatDoor
open Go.RowKit
set_option linter.unusedVariables false
set_option linter.unusedSimpArgs false

/-- Where a reader is: 0 a size line, 1 data, 2 what stands behind data, 3 a trailer. -/
structure ChP where
  state : Nat
  line : List UInt8
  left : Nat
  ends : Nat
  body : List UInt8
  trail : List FV
  whole : Bool
  status : Int
def newC : ChP := ⟨0, [], 0, 0, [], [], false, 0⟩
def isHx (c : UInt8) : Bool := decide (digB c < 16)
def hxs (s : List UInt8) : List UInt8 := s.takeWhile isHx
def hxn (s : List UInt8) : Nat := (numB 16 12 (hxs s)).1.toNat
/-- A size line. -/
def sizeP (r : ChP) (s : List UInt8) : ChP :=
  if (hxs s).length < 1 ∨ 6 < (hxs s).length then { r with status := 400 }
  else if parsL (s.drop (hxs s).length) = none then { r with status := 400 }
  else if 2048 < r.body.length + hxn s then { r with status := 413 }
  else if hxn s = 0 then { r with state := 3 }
  else { r with state := 1, left := hxn s }
/-- A trailer, or the empty line. -/
def trailP (r : ChP) (s : List UInt8) : ChP :=
  if s = [] then { r with whole := true }
  else if (parR (ofL s)).2 ≠ 0 then { r with status := 400 }
  else if r.trail.length = 8 ∨ 512 < r.ends + (s.length + 2) then { r with status := 431 }
  else { r with ends := r.ends + (s.length + 2), trail := r.trail ++ [(parR (ofL s)).1] }
def dataP (r : ChP) (c : UInt8) : ChP := { r with body := r.body ++ [c], left := r.left - 1, state := if r.left = 1 then 2 else 1, line := if r.left = 1 then [] else r.line }
def crlfP (r : ChP) (c : UInt8) : ChP :=
  if r.line = [] then (if c = 13 then { r with line := [13] } else { r with status := 400 })
  else (if c = 10 then { r with line := [], state := 0 } else { r with status := 400 })
/-- The bytes of a line that count. -/
def cntL (l : List UInt8) (c : UInt8) : Nat := if c = 13 then l.length else l.length + 1
def endP (r : ChP) : ChP :=
  if r.line.getLast? = some 13 then (if r.state = 0 then sizeP { r with line := [] } r.line.dropLast else trailP { r with line := [] } r.line.dropLast) else { r with status := 400 }
def growP (r : ChP) (c : UInt8) : ChP :=
  if r.state = 0 ∧ 64 < cntL r.line c then { r with status := 400 }
  else if r.state ≠ 0 ∧ (256 < cntL r.line c ∨ 512 < r.ends + cntL r.line c) then { r with status := 431 }
  else { r with line := r.line ++ [c] }
def oneP (r : ChP) (c : UInt8) : ChP :=
  if r.state = 1 then dataP r c else if r.state = 2 then crlfP r c else if c = 10 then endP r else growP r c
def doneC (r : ChP) : Bool := r.whole || decide (r.status ≠ 0)
/-- What a reader is behind bytes; how many it took. -/
def feedP : ChP → List UInt8 → ChP × Nat
  | r, [] => (r, 0)
  | r, c :: l => if doneC r = true then (r, 0) else ((feedP (oneP r c) l).1, (feedP (oneP r c) l).2 + 1)
theorem feed_nil (r : ChP) : feedP r [] = (r, 0) := rfl
theorem feed_done {r : ChP} (h : doneC r = true) : ∀ l, feedP r l = (r, 0)
  | [] => rfl
  | c :: l => by rw [feedP, if_pos h]
theorem feed_cons {r : ChP} (h : doneC r = false) (c : UInt8) (l : List UInt8) : feedP r (c :: l) = ((feedP (oneP r c) l).1, (feedP (oneP r c) l).2 + 1) := by rw [feedP, if_neg (by rw [h]; simp)]
/-- However the bytes are parted. -/
theorem feed_app : ∀ (a b : List UInt8) (r : ChP), feedP r (a ++ b) = ((feedP (feedP r a).1 b).1, (feedP r a).2 + (feedP (feedP r a).1 b).2)
  | [], b, r => by rw [feed_nil, List.nil_append, Nat.zero_add]
  | c :: a, b, r => by
    cases h : doneC r with
    | true => rw [feed_done h, feed_done h]; show (r, 0) = ((feedP r b).1, 0 + (feedP r b).2); rw [feed_done h]; rfl
    | false =>
      rw [List.cons_append, feed_cons h, feed_cons h, feed_app a b (oneP r c)]
      show ((feedP (feedP (oneP r c) a).1 b).1, (feedP (oneP r c) a).2 + (feedP (feedP (oneP r c) a).1 b).2 + 1) = ((feedP (feedP (oneP r c) a).1 b).1, (feedP (oneP r c) a).2 + 1 + (feedP (feedP (oneP r c) a).1 b).2)
      congr 1
      omega
/-! Ways that end nowhere. -/
/-! Data. -/
/-! Lines. -/
end Go.Proofs.YtgkhelbpccehcaaGreatDoor

/- Rows of bytes: read wherever they begin, and an object's own. No text of the program. -/
namespace Go.Proofs.YtgkhelbpccehcaaGreatDoor
open Go.RowKit
set_option linter.unusedVariables false
set_option linter.unusedSimpArgs false

/-- Bytes lie behind a slice, wherever it begins. -/
def BsAt (W : World) (v : Value) (l : List UInt8) : Prop :=
  (l = [] ∧ ∃ a cap, v = .slice a 0 cap) ∨
  ∃ (b off cap : Nat), v = .slice (some ⟨b, off, none⟩) l.length cap ∧ 0 < l.length ∧ b < W.heap.size ∧ l.length ≤ cap ∧ cap ≤ 9223372036854775807 ∧ ∀ j (h : j < l.length), W.cell? ⟨b, off + j, none⟩ = some (.int .u8 (l[j].toNat : Int))
/-- Bytes of an object's own, from their row's head on. -/
def BRow (w : World) (v : Value) (l : List UInt8) : Prop := w.ownsRow 0 5 1 v l.length (bys l)
theorem bys_at (l : List UInt8) (j : Nat) (h : j < l.length) : (bys l)[j]? = some (.int .u8 (l[j].toNat : Int)) := by simp [bys, h]
theorem bys_append (a b : List UInt8) : bys (a ++ b) = bys a ++ bys b := by simp [bys]
theorem bys_one (l : List UInt8) : ∀ u ∈ bys l, u.oneCell' = true := by
  intro u hu
  simp only [bys, List.mem_map] at hu
  obtain ⟨c, _, rfl⟩ := hu
  rfl
section
variable {W W' w w' : World} {v : Value} {l : List UInt8} {F : List Nat} {base : Nat}
theorem BsAt.mods (h : BsAt W v l) (hm : Mods F W W') (hn : ∀ k ∈ v.ownBlock.toList, k ∉ F) : BsAt W' v l := by
  rcases h with h | ⟨b, off, cap, rfl, h0, hlt, h1, h2, hc⟩
  · exact .inl h
  · have hb : b ∉ F := hn b (by simp [Value.ownBlock])
    exact .inr ⟨b, off, cap, rfl, h0, Nat.lt_of_lt_of_le hlt hm.size, h1, h2, fun j hj => cell_mods (hc j hj) hm hb⟩
theorem BsAt.low (h : BsAt W v l) (hm : Mods [] W W') : BsAt W' v l := h.mods hm (by simp)
theorem BsAt.same (h : BsAt W v l) (e : W'.heap = W.heap) : BsAt W' v l := by
  rcases h with h | ⟨b, off, cap, rfl, h0, hlt, h1, h2, hc⟩
  · exact .inl h
  · exact .inr ⟨b, off, cap, rfl, h0, by rw [e]; exact hlt, h1, h2, fun j hj => (World.cell?_of_block (by rw [e])).trans (hc j hj)⟩
theorem BsAt.len (h : BsAt W v l) : ∃ a cap, v = .slice a l.length cap := by
  rcases h with ⟨rfl, a, cap, rfl⟩ | ⟨b, off, cap, rfl, _⟩
  · exact ⟨a, cap, rfl⟩
  · exact ⟨_, cap, rfl⟩
theorem BsAt.lt (h : BsAt W v l) (h0 : 0 < l.length) : ∀ k ∈ v.ownBlock.toList, k < W.heap.size := by
  rcases h with ⟨rfl, _⟩ | ⟨b, off, cap, rfl, _, hlt, _⟩
  · cases h0
  · intro k hk
    have : k = b := by simpa [Value.ownBlock, eq_comm] using hk
    subst this; exact hlt
theorem BsAt.of_row (h : W.ownsRow base 5 1 v l.length (bys l)) : BsAt W v l := by
  rcases h.2 with ⟨rfl, h1⟩ | ⟨g, cap, cur, rfl, hb, hg, hn, hm, hc, ht⟩
  · exact .inl ⟨List.eq_nil_of_length_eq_zero h1, _, _, rfl⟩
  · by_cases h0 : l.length = 0
    · obtain rfl : l = [] := List.eq_nil_of_length_eq_zero h0
      exact .inl ⟨rfl, _, _, rfl⟩
    · refine .inr ⟨g, 0, cap, rfl, by omega, (Array.getElem?_eq_some_iff.1 hg).1, hn, by unfold maxLen at hm; omega, fun j hj => ?_⟩
      have e : cur.toList[j]? = some (.int .u8 (l[j].toNat : Int)) := by
        have h1 : (cur.toList.take (l.length * 1))[j]? = (bys l)[j]? := by rw [ht]
        rw [List.getElem?_take, if_pos (by omega), bys_at l j hj] at h1
        exact h1
      have e2 : cur[j]? = some (.int .u8 (l[j].toNat : Int)) := by rw [← Array.getElem?_toList]; exact e
      rw [Nat.zero_add]
      exact (cell_of_row W g j cur _ (0, 0) hg).trans e2
theorem BsAt.new (W : World) (l : List UInt8) (h0 : 0 < l.length) (h : l.length ≤ 1000000000) : BsAt (W.alloc (.cells (bys l).toArray 5)) (.slice (some ⟨W.heap.size, 0, none⟩) l.length l.length) l := by
  refine .inr ⟨_, 0, _, rfl, h0, by simp, Nat.le_refl _, by omega, fun j hj => ?_⟩
  rw [(Row.new W _ (bys l).toArray).cell, Nat.zero_add, List.getElem?_toArray]
  exact bys_at l j hj
/-- The first k of them. -/
theorem BsAt.to {A : Option Addr} {n c : Nat} (h : BsAt W (.slice A n c) l) (k : Nat) (hk : k ≤ n) : BsAt W (.slice A k c) (l.take k) := by
  rcases h with ⟨rfl, a, cap, hv⟩ | ⟨b, off, cap, hv, h0, hlt, h1, h2, hc⟩
  · injection hv with e1 e2 e3
    subst e1 e2 e3
    obtain rfl : k = 0 := by omega
    exact .inl ⟨rfl, _, _, rfl⟩
  · injection hv with e1 e2 e3
    subst e1 e2 e3
    by_cases hk0 : k = 0
    · subst hk0; exact .inl ⟨by simp, _, _, rfl⟩
    · have hl : (l.take k).length = k := by rw [List.length_take]; omega
      refine .inr ⟨b, off, c, by rw [hl], by omega, hlt, by rw [hl]; omega, h2, fun j hj => ?_⟩
      rw [List.getElem_take]
      exact hc j (by omega)
/-- What stands behind the first k. -/
theorem BsAt.from' {A : Option Addr} {n c : Nat} (h : BsAt W (.slice A n c) l) (k : Nat) (hk : k ≤ n) {A2 : Option Addr} (hA : A2 = if c = k then A else Option.map (fun x => x.add k) A) (n2 c2 : Nat) (hn : n2 = n - k) (hc2 : c2 = c - k) : BsAt W (.slice A2 n2 c2) (l.drop k) := by
  subst hA hn hc2
  rcases h with ⟨rfl, a, cap, hv⟩ | ⟨b, off, cap, hv, h0, hlt, h1, h2, hc⟩
  · injection hv with e1 e2 e3
    subst e1 e2 e3
    obtain rfl : k = 0 := by omega
    exact .inl ⟨rfl, _, _, rfl⟩
  · injection hv with e1 e2 e3
    subst e1 e2 e3
    by_cases hkn : k = l.length
    · subst hkn
      exact .inl ⟨by simp, _, _, by rw [Nat.sub_self]⟩
    · have hne : c ≠ k := by omega
      rw [if_neg hne]
      refine .inr ⟨b, off + k, c - k, by rw [List.length_drop, Option.map_some, add_none], by rw [List.length_drop]; omega, hlt, by rw [List.length_drop]; omega, by omega, fun j hj => ?_⟩
      rw [List.length_drop] at hj
      rw [List.getElem_drop, Nat.add_assoc]
      exact hc (k + j) (by omega)
/-- Bytes turned into a text. -/
theorem BsAt.text (h : BsAt W v l) : (convert 22 9 v).run Tryz.prog W = .ok (.string (ofL l)) W := by
  rcases h with ⟨rfl, a, cap, rfl⟩ | ⟨b, off, cap, rfl, h0, hlt, h1, h2, hc⟩
  · cases a with
    | none => exact run_convert_bytes_nil W 22 5 Tryz.underlying22 Tryz.underlying5 0 cap 9 Tryz.underlying9
    | some a => exact run_convert_bytes_back W 22 9 5 a cap [] Tryz.underlying22 Tryz.underlying5 Tryz.underlying9 (fun j hj => absurd hj (Nat.not_lt_zero _))
  · exact run_convert_bytes_back W 22 9 5 ⟨b, off, none⟩ cap l Tryz.underlying22 Tryz.underlying5 Tryz.underlying9 fun j hj => by
      rw [add_none]; exact hc j hj

theorem BRow.nil (w : World) : BRow w (.slice none 0 0) [] := World.ownsRow_nil _ _ _ _
theorem BRow.mods (h : BRow w v l) (hm : Mods F w w') (hn : ∀ k ∈ v.ownBlock.toList, k ∉ F) : BRow w' v l := own_mods h hm hn
theorem BRow.low (h : BRow w v l) (hm : Mods [] w w') : BRow w' v l := h.mods hm (by simp)
theorem BRow.lt (h : BRow w v l) : ∀ k ∈ v.ownBlock.toList, k < w.heap.size := own_lt h
theorem BRow.form (h : BRow w v l) : ∃ a c, v = .slice a l.length c ∧ l.length ≤ c ∧ c ≤ maxLen := own_slice h
theorem BRow.at (h : BRow w v l) : BsAt w v l := BsAt.of_row h
theorem BRow.cut0 {A : Option Addr} {n c : Nat} (h : BRow w (.slice A n c) l) : BRow w (.slice A 0 c) [] := by
  obtain ⟨h1, h2⟩ := h
  rcases h2 with ⟨hv, h0⟩ | ⟨g, cap, cur, hv, hb, hg, hn, hm, hc, ht⟩
  · injection hv with e1 e2 e3
    subst e1 e2 e3
    exact BRow.nil w
  · injection hv with e1 e2 e3
    subst e1 e2 e3
    exact ⟨rfl, .inr ⟨g, c, cur, rfl, hb, hg, by simp, hm, hc, by simp [bys]⟩⟩
end
theorem cut0_block (A : Option Addr) (n c m d : Nat) : (Value.slice A n c).ownBlock = (Value.slice A m d).ownBlock := by cases A <;> rfl
/-- One byte more behind a row. -/
theorem app_row {w : World} {u : Value} {l : List UInt8} (h : BRow w u l) (hl : l.length ≤ 1000000) (c : UInt8) :
    ∃ (b c' : Nat) (w' : World), (Builtin.append_ #[22, 22] 22 #[u, .slice (some ⟨w.heap.size, 0, none⟩) 1 1]).run Tryz.prog (w.alloc (.cells #[.int .u8 (c.toNat : Int)] 5)) = .ok (.slice (some ⟨b, 0, none⟩) (l.length + 1) c') w' ∧
      BRow w' (.slice (some ⟨b, 0, none⟩) (l.length + 1) c') (l ++ [c]) ∧ Mods u.ownBlock.toList w w' ∧ (some b = u.ownBlock ∨ w.heap.size ≤ b) := by
  obtain ⟨i0, hi, hz0, hz1, hz2⟩ := info_parts infoU8
  obtain ⟨v', w5, hrun, hown', hgrow, -, hbl⟩ := run_append_own_at (P := Tryz.prog) (w := w.alloc (.cells #[.int .u8 (c.toNat : Int)] 5)) 0 22 22 5 i0 (.int .u8 0) 1 1 Tryz.underlying22 hi hz0 hz1 hz2 rfl (by decide)
    u l.length (bys l) (h.low ((Mods.refl [] w).alloc _)) ⟨w.heap.size, 0, none⟩ 1 1 [.int .u8 (c.toNat : Int)] rfl (cells_new w [.int .u8 (c.toNat : Int)] _) (by simp [Value.oneCell']) (by unfold maxLen; omega) (by omega) (Nat.zero_le _)
  obtain ⟨b, c', rfl⟩ := ownsRow_succ hown'
  refine ⟨b, c', w5, hrun, ?_, ((Mods.refl _ w).alloc _).grown hgrow (fun k e => .inl (by rw [e]; simp)), ?_⟩
  · unfold BRow
    rw [List.length_append, bys_append]; exact hown'
  · rcases hbl with h | h
    · exact .inl h
    · have : b = w.heap.size + 1 := by simpa [Value.ownBlock] using h
      exact .inr (by omega)
end Go.Proofs.YtgkhelbpccehcaaGreatDoor

/- append of rows and of texts onto bytes that a function gathers. No text of the program. -/
namespace Go.Proofs.YtgkhelbpccehcaaGreatDoor
open Go.RowKit
set_option linter.unusedVariables false
set_option linter.unusedSimpArgs false

/-- append, by how it runs. -/
theorem wpList_run_app2 {P : Program} {ops : Array Oper} {rest : List Oper} {o : Oper} {a : Act} {w w' : World} {Q : Exit → Act → World → Prop} (hgd : o.guard = none) (s x : Operand) (t t2 : TypeId)
    (ho : o.op = .call { callee := .builtin .append, args := #[s, x], argTypes := #[t, t2] }) {v u v' : Value} (hs : a.eval s = v) (hx : a.eval x = u)
    (hr : (Builtin.append_ #[t, t2] o.type #[v, u]).run P w = .ok v' w') (h : wpList P ops Q rest (a.put o.dst v') w') : wpList P ops Q (o :: rest) a w := by
  refine wpList_plain hgd fun K hK => ?_
  unfold Oper.wp
  simp [execOp, ho, resolve, invoke, builtin, hs, hx, hr, Result.andThen]
  exact hK _ _ h
theorem step_run_appB {P : Program} {ops : Array Oper} {o : Oper} {a : Act} {w w' : World} {K : Act → World → Prop} {Q : Exit → Act → World → Prop} {E : Prop} (hgd : o.guard = none) {s x : Operand} {t t2 : TypeId} {v u v' : Value}
    (ho : o.op = .call { callee := .builtin .append, args := #[s, x], argTypes := #[t, t2] }) (hs : a.eval s = v) (hx : a.eval x = u)
    (hr : (Builtin.append_ #[t, t2] o.type #[v, u]).run P w = .ok v' w') (hK : K (a.put o.dst v') w') : if Region.wanted o (yielded ops a.tmps) = true then Oper.wp P o a w K Q else E := by
  have hw : Region.wanted o (yielded ops a.tmps) = true := by simp [Region.wanted, hgd]
  rw [if_pos hw]
  unfold Oper.wp
  simp [execOp, ho, resolve, invoke, builtin, hs, hx, hr, Result.andThen]
  exact hK
/-- append of nothing. -/
theorem run_app_none {w : World} {n c : Nat} {a A : Option Addr} {k : Nat} (hle : n ≤ c) : (Builtin.append_ #[22, 22] 22 #[.slice a n c, .slice A 0 k]).run Tryz.prog w = .ok (.slice a n c) w := by
  obtain ⟨i0, hi, hz0, hz1, hz2⟩ := info_parts infoU8
  have ht := Tryz.underlying22
  cases a <;> cases A <;> simp [Builtin.append_, run_underlying ht, sizeOf, typeInfo, hi, Builtin.lenOf, Builtin.firstCells, loadCells, loadCellsFrom, hle, storeCells]
/-- append of a row of bytes. -/
theorem app_bs {w0 w : World} {l m : List UInt8} {v u : Value} (h : GB w0 l v w) (hb : BsAt w u m) (hroom : l.length + m.length ≤ 1000000000) :
    ∃ (a : Option Addr) (n c : Nat) (w' : World), (Builtin.append_ #[22, 22] 22 #[v, u]).run Tryz.prog w = .ok (.slice a n c) w' ∧ GB w0 (l ++ m) (.slice a n c) w' := by
  obtain ⟨i0, hi, hz0, hz1, hz2⟩ := info_parts infoU8
  rcases hb with ⟨rfl, A, k, rfl⟩ | ⟨b, off, cap, rfl, h0, hlt, h1, h2, hc⟩
  · obtain ⟨a, c, hv⟩ := h.form
    have hle : l.length ≤ c := by
      rcases h.row.2 with ⟨e, h3⟩ | ⟨g, cap, cur, e, _, _, h3, _⟩
      · omega
      · rw [hv] at e; injection e with _ _ e3; omega
    subst hv
    exact ⟨a, l.length, c, w, run_app_none hle, by simpa using h⟩
  · obtain ⟨v', w5, hrun, hown', hgrow, -, hbl⟩ := run_append_own_at (P := Tryz.prog) (w := w) w0.heap.size 22 22 5 i0 (.int .u8 0) 1 1 Tryz.underlying22 hi hz0 hz1 hz2 rfl (by decide)
      v l.length (bys l) h.row ⟨b, off, none⟩ m.length cap (bys m) (by rw [bys_len, Nat.mul_one]) (fun j x hj => by
        rw [add_none]
        have hj2 : j < m.length := by have := (List.getElem?_eq_some_iff.1 hj).1; rw [bys_len] at this; exact this
        rw [bys_at m j hj2] at hj
        rw [hc j hj2]; exact hj) (bys_one m) (by unfold maxLen; omega) (by omega) h.low.size
    have hg : GB w0 (l ++ m) v' w5 := by
      refine ⟨?_, h.low.grown hgrow h.low.size fun k e => (h.row.lt k e).1⟩
      rw [List.length_append, bys_append]; exact hown'
    obtain ⟨a, c, rfl⟩ := hg.form
    exact ⟨a, _, c, w5, hrun, hg⟩
theorem gb_nilB (w : World) : GB w [] (.slice none 0 0) w := ⟨World.ownsRow_nil _ _ _ _, Below.refl _ _⟩
theorem gb_madeB (w : World) : GB w [] (.slice (some ⟨w.heap.size, 0, none⟩) 0 0) (w.alloc (.cells #[] 5)) :=
  ⟨World.ownsRow_made w #[] 0 (Nat.le_refl _) (by unfold maxLen; omega) (by simp), (Below.refl _ w).alloc (Nat.le_refl _) _⟩
theorem GB.at {w0 w : World} {l : List UInt8} {v : Value} (h : GB w0 l v w) : BsAt w v l := BsAt.of_row h.row
theorem GB.own {w0 w : World} {l : List UInt8} {v : Value} (h : GB w0 l v w) : BRow w v l := own_base (w' := w) h.row (Nat.zero_le _)
theorem GB.mods {w0 w : World} {l : List UInt8} {v : Value} (h : GB w0 l v w) : Mods [] w0 w := Mods.of_below h.low
theorem GB.news {w0 w : World} {l : List UInt8} {v : Value} (h : GB w0 l v w) : ∀ k ∈ v.ownBlock.toList, w0.heap.size ≤ k := by
  intro k hk
  exact (h.row.lt k (by simpa using hk)).1
theorem GB.on {w0 w w' : World} {l : List UInt8} {v : Value} (h : GB w0 l v w) (hm : Mods [] w w') : GB w0 l v w' := h.below hm.below
theorem GB.since {w0 w1 w : World} {l : List UInt8} {v : Value} (h : GB w1 l v w) (hm : Mods [] w0 w1) : GB w0 l v w :=
  ⟨own_base (w' := w) h.row hm.size, (hm.trans (Mods.of_below (F := []) h.low) (fun _ h => nomatch h)).below⟩
end Go.Proofs.YtgkhelbpccehcaaGreatDoor

/- What chapter 14's laws ask of a reader of chunks, in plain terms. No program but for what Parse answers. -/
namespace Go.Proofs.YtgkhelbpccehcaaGreatDoor
open Go.RowKit
set_option linter.unusedVariables false
set_option linter.unusedSimpArgs false

/-! Digits. -/
/-! Chunks. -/
/-! Trailers. -/
/-! The bytes that the laws know. -/
end Go.Proofs.YtgkhelbpccehcaaGreatDoor
