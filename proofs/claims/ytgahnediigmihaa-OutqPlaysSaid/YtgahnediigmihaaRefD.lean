/- What Drop, Done of the reference's queue do. -/
import Derived.Test.YtgahnediigmihaaRefN
import Derived.Deep.DeepCutAuto
import Derived.Deep.CutBlock
namespace Go.Proofs.Ytgahnediigmihaa
open Go.RowKit
set_option maxRecDepth 100000
set_option linter.unusedVariables false
set_option linter.unusedSimpArgs false

/-- Ends behind the first k, drawn up to W. -/
def drawn (E : List Int) (W k : Nat) : List Int := List.replicate k (W : Int) ++ E.drop k
theorem drawn_length (E : List Int) (W k : Nat) (h : k ≤ E.length) : (drawn E W k).length = E.length := by simp [drawn]; omega
theorem drawn_at (D E : List Int) (W k i : Nat) (h : k ≤ E.length) : (iv (D ++ drawn E W k))[i]? = if i < D.length then (D[i]?).map (.int .i64) else if i - D.length < k then some (.int .i64 W) else (E[i - D.length]?).map (.int .i64) := by
  simp only [iv, drawn, List.getElem?_map]
  by_cases h1 : i < D.length
  · rw [if_pos h1, List.getElem?_append_left h1]
  · rw [if_neg h1, List.getElem?_append_right (by omega)]
    by_cases h2 : i - D.length < k
    · rw [if_pos h2, List.getElem?_append_left (by simpa using h2), List.getElem?_replicate, if_pos h2]
      rfl
    · rw [if_neg h2, List.getElem?_append_right (by simp; omega), List.length_replicate, List.getElem?_drop]
      congr 2; omega
theorem drawn_set (D E : List Int) (W k j : Nat) (h : k < E.length) (hj : j = D.length + k) : (iv (D ++ drawn E W k)).set j (.int .i64 W) = iv (D ++ drawn E W (k + 1)) := by
  refine List.ext_getElem? fun i => ?_
  have hl : (iv (D ++ drawn E W k)).length = D.length + E.length := by rw [iv_length, List.length_append, drawn_length _ _ _ (by omega)]
  rw [List.getElem?_set, drawn_at D E W (k + 1) i (by omega), drawn_at D E W k i (by omega)]
  by_cases h1 : j = i
  · rw [if_pos h1, if_pos (by omega), if_neg (by omega), if_pos (by omega)]
  · rw [if_neg h1]
    by_cases h2 : i < D.length
    · rw [if_pos h2, if_pos h2]
    · rw [if_neg h2, if_neg h2]
      by_cases h3 : i - D.length < k
      · rw [if_pos h3, if_pos (by omega)]
      · rw [if_neg h3, if_neg (by omega)]
set_option maxHeartbeats 2000000 in
theorem rdrop_any (w : World) (x : Nat) (F : List Nat) (B E : List Int) (W T : Nat) (h : QefA w x F B E W T) :
    Calls Try.prog 23 #[.pointer (some ⟨x, 0, none⟩)] w fun e w' => e = .returned (.int .i64 B.length) ∧ Hid (QefTo w w' x F [] [] W (T + E.length)) := by
  obtain ⟨vb, ve, D, rfl, h⟩ := h
  obtain ⟨Ab, cb, Ae, ce, rfl, rfl, q1, q2, q3, q4⟩ := h.cells
  have hnum := h.num
  have htop := h.top
  have hdl := h.dl
  have hN : (D ++ E).length = T + E.length := by rw [List.length_append, h.dl]
  have c0 : w.cell? ⟨x, 0, none⟩ = some (.slice Ab B.length cb) := h.row.cell 0
  have c1 : w.cell? ⟨x, 1, none⟩ = some (.slice Ae (D ++ E).length ce) := h.row.cell 1
  have c3 : w.cell? ⟨x, 3, none⟩ = some (.int .i64 T) := h.row.cell 3
  have f0 := h.row.free
  rw [hN] at c1
  have HH := Lib.hid h
  obtain ⟨N, hNN⟩ : ∃ N, N = (D ++ E).length := ⟨_, rfl⟩
  have HNN := Lib.hid hNN
  have HNT := Lib.hid hN
  have n1 : N ≤ T + E.length := by omega
  have n2 : T + E.length ≤ N := by omega
  rw [show T + E.length = N by omega] at c1
  clear h hN q1 q2 hdl
  unfold maxLen at q4
  rw [← hNN] at q3
  clear hNN
  go_enter Try.func23, Try.ntmps23
  go_wp2
  obtain ⟨w1, hw1, HL⟩ : ∃ w1, w1 = w.setCell ⟨x, 0, none⟩ (.slice none 0 0) ∧ Hid (Row w1 x 31 #[.slice none 0 0, .slice Ae N ce, .int .i64 W, .int .i64 T, .int .i64 0] ∧ Own w1 3 (.slice Ae N ce) (iv (D ++ drawn E W 0)) ∧ Mods (foot x (.slice Ab B.length cb) (.slice Ae N ce)) w w1) := by
    refine ⟨_, rfl, Lib.hid ⟨?_, ?_, (Mods.refl _ _).setCell (.inl (by simp [foot])) _⟩⟩
    · have := HH.out.row.set 0 (.slice none 0 0)
      rw [← HNN.out] at this
      simpa using this
    · have ho := HH.out.ends
      rw [← HNN.out] at ho
      have hne := ho.ne_row HH.out.row (by decide)
      rw [show D ++ drawn E W 0 = D ++ E by simp [drawn]]
      exact ho.keep fun b hb => heap_setCell_other w ⟨x, 0, none⟩ b _ (hne b hb)
  try rw [← hw1]
  clear hw1 c0 c1 c3 f0
  go_loopw [4] (fun i wr => ∃ j : Nat, T ≤ j ∧ j ≤ N ∧ i = .int .i64 j ∧ Hid (Row wr x 31 #[.slice none 0 0, .slice Ae N ce, .int .i64 W, .int .i64 T, .int .i64 0] ∧ Own wr 3 (.slice Ae N ce) (iv (D ++ drawn E W (j - T))) ∧ Mods (foot x (.slice Ab B.length cb) (.slice Ae N ce)) w wr)) (fun i _ => N - (intOf i).toNat)
  case atStart => exact ⟨T, Nat.le_refl _, by omega, rfl, Lib.hid (by rw [Nat.sub_self]; exact HL.out)⟩
  case round =>
    clear HL
    obtain ⟨j, hj1, hj2, rfl, hd⟩ := hrel
    have c1 : wr.cell? ⟨x, 1, none⟩ = some (.slice Ae N ce) := hd.out.1.cell 1
    have c2 : wr.cell? ⟨x, 2, none⟩ = some (.int .i64 W) := hd.out.1.cell 2
    have c3 : wr.cell? ⟨x, 3, none⟩ = some (.int .i64 T) := hd.out.1.cell 3
    by_cases hlt : j < N
    · obtain ⟨u, hu⟩ : ∃ u, (iv (D ++ drawn E W (j - T)))[j]? = some u := ⟨_, List.getElem?_eq_getElem (by rw [iv_length, List.length_append, drawn_length _ _ _ (by omega), HH.out.dl]; omega)⟩
      obtain ⟨b, o, rfl, cu⟩ := hd.out.2.1.src j u hu
      have fu := hd.out.2.1.free b o rfl
      have HNX := Lib.hid (hd.out.2.1.ne_row hd.out.1 (by decide))
      have hDD := drawn_set D E W (j - T) j (by omega) (by rw [HH.out.dl]; omega)
      have HS := Lib.hid (show ∀ wq, wq = wr.setCell ⟨b, o + j, none⟩ (.int .i64 W) → Own wq 3 (.slice (some ⟨b, o, none⟩) N ce) (iv (D ++ drawn E W (j + 1 - T))) from fun wq e => by
        subst e
        have := hd.out.2.1.set (i := j) (.int .i64 W) (by rw [iv_length, List.length_append, drawn_length _ _ _ (by omega), HH.out.dl]; omega)
        rw [hDD] at this
        rw [show j + 1 - T = j - T + 1 by omega]
        exact this)
      clear hu hDD
      go_wp2_with fail
      go_region
      all_goals go_wp2
      all_goals
        go_roundw
        case rel =>
          refine ⟨j + 1, by omega, by omega, by go_num, Lib.hid ⟨?_, ?_, ?_⟩⟩
          · exact (hd.out.1.far (p := ⟨b, o + j, none⟩) (fun e => HNX.out b (by simp [Value.ownBlock]) e.symm) (.int .i64 W)).keep rfl
          · exact (HS.out _ rfl).keep fun _ _ => rfl
          · exact (hd.out.2.2.setCell (.inl (by simp [foot, Value.ownBlock])) _).drew
        case measure => simp [intOf]; omega
    · have f0 := hd.out.1.free
      obtain rfl : j = N := by omega
      have HJ := Lib.hid (show j - T = E.length by omega)
      rw [HJ.out] at hd
      go_wp2
      go_ret
      refine ⟨rfl, Lib.hid ⟨_, ⟨.slice none 0 0, .slice Ae j ce, D ++ drawn E W E.length, rfl, ?_, Own.nil _ _, ?_, ?_, by simp, by simp; omega, by simp; omega⟩, ?_, ?_⟩⟩
      · have := hd.out.1.set 3 (.int .i64 (j : Int))
        rw [show ((T + E.length : Nat) : Int) = (j : Int) by omega]
        simpa using this
      · rw [List.append_nil]
        have hne := hd.out.2.1.ne_row hd.out.1 (by decide)
        exact hd.out.2.1.keep fun b hb => heap_setCell_other _ ⟨x, 3, none⟩ b _ (hne b hb)
      · rw [List.length_append, drawn_length _ _ _ (Nat.le_refl _), HH.out.dl]
      · rw [HNN.out] at hd
        exact hd.out.2.2.setCell (.inl (by simp [foot])) _
      · intro b hb
        rw [HNN.out] at hb
        simp only [foot, List.mem_cons, List.mem_append] at hb ⊢
        rcases hb with hb | hb | hb
        · exact .inl (.inl hb)
        · simp [Value.ownBlock] at hb
        · exact .inl (.inr (.inr hb))
/-- In Done's loop, behind k rounds. -/
structure LoopT (w wr : World) (x : Nat) (F : List Nat) (vb ve : Value) (B DE : List Int) (W T k : Nat) (l : Value) : Prop where
  row : Row wr x 31 #[vb, ve, .int .i64 W, .int .i64 ((T : Int) + (k : Int)), .int .i64 0]
  dat : Own wr 5 vb (bv B)
  ends : Own wr 3 ve (iv DE)
  mods : Mods F w wr
  told : Own wr 3 l (iv (upto T k))
  far : ∀ b ∈ l.ownBlock.toList, w.heap.size ≤ b ∧ b ∉ foot x vb ve
theorem LoopT.step {w wr w8 : World} {x : Nat} {F : List Nat} {vb ve l l' : Value} {B DE : List Int} {W T k : Nat} {y : Int} {o : Obj} (h : LoopT w wr x F vb ve B DE W T k l) (hF : x ∈ F) (hy : y = (T : Int) + (k : Int) + 1)
    (ho : Own w8 3 l' (iv (upto T k) ++ [.int .i64 y])) (hm : Mods l.ownBlock.toList ((wr.setCell ⟨x, 3, none⟩ (.int .i64 y)).alloc o) w8 ∧ (l'.ownBlock = l.ownBlock ∨ l'.ownBlock = some ((wr.setCell ⟨x, 3, none⟩ (.int .i64 y)).alloc o).heap.size)) :
    LoopT w w8 x F vb ve B DE W T (k + 1) l' := by
  subst hy
  have h1 : ∀ b ∈ foot x vb ve, b ∉ l.ownBlock.toList := fun b hb hb2 => (h.far b hb2).2 hb
  have hx := h1 x (by simp [foot])
  have hd := fun b hb => h.dat.ne_row h.row (by decide) b hb
  have he := fun b hb => h.ends.ne_row h.row (by decide) b hb
  have hd1 := (h.dat.keep fun b hb => heap_setCell_other wr ⟨x, 3, none⟩ b (.int .i64 ((T : Int) + (k : Int) + 1)) (hd b hb)).alloc o
  have he1 := (h.ends.keep fun b hb => heap_setCell_other wr ⟨x, 3, none⟩ b (.int .i64 ((T : Int) + (k : Int) + 1)) (he b hb)).alloc o
  have hr1 := (h.row.set 3 (.int .i64 ((T : Int) + (k : Int) + 1))).alloc o
  have hms : Mods F w ((wr.setCell ⟨x, 3, none⟩ (.int .i64 ((T : Int) + (k : Int) + 1))).alloc o) := (h.mods.setCell (.inl hF) _).alloc o
  have hfo : ∀ b ∈ foot x vb ve, b < wr.heap.size := fun b hb => by
    simp only [foot, List.mem_cons, List.mem_append] at hb
    rcases hb with rfl | hb | hb
    · exact h.row.lt
    · exact h.dat.lt b hb
    · exact h.ends.lt b hb
  refine ⟨?_, hd1.mods hm.1 (fun b hb => h1 b (by simp only [foot, List.mem_cons, List.mem_append]; exact .inr (.inl hb))), he1.mods hm.1 (fun b hb => h1 b (by simp only [foot, List.mem_cons, List.mem_append]; exact .inr (.inr hb))), hms.trans hm.1 (fun b hb => .inr (h.far b hb).1), ?_, fun b hb => ?_⟩
  · have := hr1.mods hm.1 hx
    rw [show (T : Int) + ((k + 1 : Nat) : Int) = (T : Int) + (k : Int) + 1 by omega]
    simpa using this
  · have e1 : iv (upto T (k + 1)) = iv (upto T k) ++ [.int .i64 ((T : Int) + (k : Int) + 1)] := by rw [upto_snoc, iv_append, show (T : Int) + 1 + (k : Int) = (T : Int) + (k : Int) + 1 by omega]; rfl
    rw [e1]; exact ho
  · rcases hm.2 with e | e
    · rw [e] at hb; exact h.far b hb
    · rw [e] at hb
      have hz := h.mods.size
      simp [World.setCell] at hb
      subst hb
      exact ⟨by first | omega | exact Nat.le_trans hz (Nat.le_refl _) | (simp [World.setCell]; omega), fun hb => by have := hfo _ hb; omega⟩
theorem LoopT.same {w wr w8 : World} {x : Nat} {F : List Nat} {vb ve l : Value} {B DE : List Int} {W T k : Nat} (h : LoopT w wr x F vb ve B DE W T k l) (hm : Mods [] wr w8) : LoopT w w8 x F vb ve B DE W T k l :=
  ⟨h.row.mods hm (by simp), h.dat.mods hm (by simp), h.ends.mods hm (by simp), h.mods.trans hm (by simp), h.told.mods hm (by simp), h.far⟩
theorem Src.onez (w : World) (x : Value) (t : TypeId) (b : Nat) (hb : b = w.heap.size) : Src (w.alloc (.cells #[x] t)) (some ⟨b, 0, none⟩) [x] := by
  subst hb; exact Src.one w x t
/-- What Done leaves, and the numbers that it answers. -/
def QefDone (w w' : World) (x : Nat) (F : List Nat) (B E : List Int) (W T : Nat) (v : Value) (l : List Int) : Prop := QefTo w w' x F B E W T ∧ Own w' 3 v (iv l)
theorem loop_done {w wr : World} {x V T k : Nat} {vb0 vb ve l : Value} {B D E : List Int} (h : LoopT w wr x (foot x vb0 ve) vb ve B (D ++ E) V T k l) (hb : ∀ b ∈ vb.ownBlock.toList, w.heap.size ≤ b) (hD : D.length = T) (hk : k ≤ E.length) (hr : ∀ y ∈ B, 0 ≤ y ∧ y ≤ 255) (htop : V + B.length ≤ 1000000000) (hnum : T + E.length ≤ 1000000000) :
    QefDone w wr x (foot x vb0 ve) B (E.drop k) V (T + k) l (upto T k) := by
  refine ⟨⟨foot x vb ve, ⟨vb, ve, D ++ E.take k, rfl, ?_, h.dat, ?_, ?_, hr, htop, ?_⟩, h.mods, fun b hb2 => ?_⟩, h.told⟩
  · have := h.row
    rw [show ((T + k : Nat) : Int) = (T : Int) + (k : Int) by omega]
    exact this
  · rw [List.append_assoc, List.take_append_drop]; exact h.ends
  · rw [List.length_append, List.length_take, hD]; omega
  · rw [List.length_drop]; omega
  · simp only [foot, List.mem_cons, List.mem_append] at hb2 ⊢
    rcases hb2 with hb2 | hb2 | hb2
    · exact .inl (.inl hb2)
    · exact .inr (hb b hb2)
    · exact .inl (.inr (.inr hb2))
set_option maxHeartbeats 8000000 in
theorem rdone_any (w : World) (x : Nat) (n : Int) (F : List Nat) (B E : List Int) (W T : Nat) (h : QefA w x F B E W T) :
    Calls Try.prog 18 #[.pointer (some ⟨x, 0, none⟩), .int .i64 n] w fun e w' => ∃ v, e = .returned v ∧
      Hid (QefDone w w' x F (B.drop (clamp n B.length)) (E.drop (wh E (W + clamp n B.length : Nat))) (W + clamp n B.length) (T + wh E (W + clamp n B.length : Nat)) v (upto T (wh E (W + clamp n B.length : Nat)))) := by
  obtain ⟨i0, hi, hz, hs, hby⟩ := info_parts u8_info3
  have HI := Lib.hid (And.intro hi (And.intro hz (And.intro hs (show i0.bytes ≤ 8 by omega))))
  clear hi hz hs hby
  obtain ⟨i1, hi, hz, hs, hby⟩ := info_parts int_info3
  have HJ := Lib.hid (And.intro hi (And.intro hz (And.intro hs (show i1.bytes ≤ 8 by omega))))
  obtain ⟨vb, ve, D, rfl, h⟩ := h
  obtain ⟨Ab, cb, Ae, ce, rfl, rfl, q1, q2, q3, q4⟩ := h.cells
  obtain ⟨m, hm⟩ : ∃ m, m = clamp n B.length := ⟨_, rfl⟩
  have hmb : m ≤ B.length := by rw [hm]; exact clamp_le _ _
  have hval : (if 0 < (if (B.length : Int) < n then (B.length : Int) else n) then (if (B.length : Int) < n then (B.length : Int) else n) else 0) = (m : Int) := by
    rw [hm]; unfold clamp; split <;> split <;> omega
  have HV := Lib.hid hval
  rw [← hm]
  obtain ⟨q, hq⟩ : ∃ q, q = wh E ((W + m : Nat) : Int) := ⟨_, rfl⟩
  have hqE : q ≤ E.length := by rw [hq]; exact wh_le _ _
  rw [← hq]
  have HQ := Lib.hid hq
  have HH := Lib.hid h
  have htop := h.top
  have hnum := h.num
  have c0 : w.cell? ⟨x, 0, none⟩ = some (.slice Ab B.length cb) := h.row.cell 0
  have c2 : w.cell? ⟨x, 2, none⟩ = some (.int .i64 W) := h.row.cell 2
  have HN := Lib.hid (show (D ++ E).length = T + E.length by rw [List.length_append, h.dl])
  have HO := Lib.hid (show Own (w.alloc (.cells #[] 5)) 5 (.slice (some ⟨w.heap.size, 0, none⟩) 0 0) [] from Own.of_row (World.ownsRow_lit w #[] 0 (Nat.zero_le _) (by unfold maxLen; omega) rfl))
  have HCS := Lib.hid (show Src (w.alloc (.cells #[] 5)) (if cb = m then Ab else Option.map (fun x => x.add m) Ab) (bv (B.drop m)) by
    have := (h.dat.cut m hmb).src
    rw [bv_drop] at this
    exact this.mods ((Mods.refl [] w).alloc _) (by simp))
  have HBL := Lib.hid (show B.length - m = (bv (B.drop m)).length ∧ ([] : List Value).length + (B.length - m) ≤ 1000000000 by rw [bv_length, List.length_drop]; simp; omega)
  have HRW := Lib.hid (h.row.alloc (.cells #[] 5))
  have HXL := Lib.hid h.row.lt
  have d0 := cell_alloc c0 (.cells #[] 5)
  unfold maxLen at q2 q4
  clear h hi hz hs hby hm hval hq
  go_enter Try.func18, Try.ntmps18
  go_upto_region 2 with fail
  rw [HV.out]
  go_upto_region 4 with (at_builtin; refine wpList_append_own2 _ rfl (.tmp 15) (.tmp 21) 28 rfl 5 i0 (.int .u8 0) Try.underlying28 HI.out.1 HI.out.2.1 HI.out.2.2.1 HI.out.2.2.2 rfl (.slice (some ⟨w.heap.size, 0, none⟩) 0 0) [] rfl HO.out _ _ _ (bv (B.drop m)) rfl HBL.out.1 HCS.out (bv_one _) HBL.out.2 ?_; intro v8 w8 HO8 HM8; have HR8 := Lib.hid (HRW.out.mods HM8.out.1 (fun h => by simp [Value.ownBlock] at h; have := HXL.out; omega)); obtain ⟨A8, n8, c8, rfl, -, -, -⟩ := HO8.out.slice'; have c8' := HR8.out.cell 0; have c82 := HR8.out.cell 2; have f8 := HR8.out.free)
  obtain ⟨V, hV⟩ : ∃ V, V = W + m := ⟨_, rfl⟩
  have hVi : (W : Int) + (m : Int) = (V : Int) := by omega
  rw [hVi]
  obtain ⟨w3, hw3, HL⟩ : ∃ w3, w3 = (w8.setCell ⟨x, 0, none⟩ (.slice A8 n8 c8)).setCell ⟨x, 2, none⟩ (.int .i64 (V : Int)) ∧
      Hid (LoopT w w3 x (foot x (.slice Ab B.length cb) (.slice Ae (D ++ E).length ce)) (.slice A8 n8 c8) (.slice Ae (D ++ E).length ce) (B.drop m) (D ++ E) V T 0 (.slice none 0 0)) := by
    have ho : Own w8 5 (.slice A8 n8 c8) (bv (B.drop m)) := HO8.out
    have hn1 := ho.ne_row HR8.out (by decide)
    have he : Own w8 3 (.slice Ae (D ++ E).length ce) (iv (D ++ E)) := (HH.out.ends.alloc _).mods HM8.out.1 (fun b hb hb2 => by
      have := HH.out.ends.lt b hb
      simp [Value.ownBlock] at hb2; omega)
    have hn2 := he.ne_row HR8.out (by decide)
    refine ⟨_, rfl, Lib.hid ⟨?_, ?_, ?_, ?_, Own.nil _ _, by simp [Value.ownBlock]⟩⟩
    · have := (HR8.out.set 0 (.slice A8 n8 c8)).set 2 (.int .i64 (V : Int))
      simpa using this
    · exact ho.keep fun b hb => (heap_setCell_other _ ⟨x, 2, none⟩ b _ (hn1 b hb)).trans (heap_setCell_other w8 ⟨x, 0, none⟩ b _ (hn1 b hb))
    · exact he.keep fun b hb => (heap_setCell_other _ ⟨x, 2, none⟩ b _ (hn2 b hb)).trans (heap_setCell_other w8 ⟨x, 0, none⟩ b _ (hn2 b hb))
    · exact ((((Mods.refl _ w).alloc _).trans HM8.out.1 (fun k hk => .inr (by simp [Value.ownBlock] at hk; omega))).setCell (.inl (by simp [foot])) _).setCell (.inl (by simp [foot])) _
  have HB8 := Lib.hid (show ∀ b ∈ (Value.slice A8 n8 c8).ownBlock.toList, w.heap.size ≤ b from fun b hb => by
    rcases HM8.out.2 with e | e
    · rw [e] at hb; simp [Value.ownBlock] at hb; omega
    · rw [e] at hb; simp at hb; omega)
  rw [← hw3]
  obtain ⟨N, hN⟩ : ∃ N, N = (D ++ E).length := ⟨_, rfl⟩
  have HNN := Lib.hid hN
  have hNT : N = T + E.length := hN.trans HN.out
  have n1 : N ≤ T + E.length := by omega
  have n2 : T + E.length ≤ N := by omega
  rw [← hN] at HL q3
  have HVV := Lib.hid hV
  clear hw3 c0 c2 d0 c8' c82 f8 hVi hV hN hNT HCS
  generalize (if cb = m then Ab else Option.map (fun x => x.add m) Ab) = Az
  generalize (if (B.length : Int) < n then (B.length : Int) else n) = z12
  go_wp2_with fail
  go_loopw [5] (fun l wr => ∃ (k : Nat) (Al : Option Addr) (cl : Nat), k ≤ E.length ∧ l = .slice Al k cl ∧ Hid (∀ j y, j < k → E[j]? = some y → y ≤ (V : Int)) ∧ Hid (LoopT w wr x (foot x (.slice Ab B.length cb) (.slice Ae N ce)) (.slice A8 n8 c8) (.slice Ae N ce) (B.drop m) (D ++ E) V T k (.slice Al k cl))) (fun l _ => E.length - lenOf l)
  case atStart => exact ⟨0, none, 0, Nat.zero_le _, rfl, Lib.hid fun j y hj => by omega, HL⟩
  case round =>
    clear HL
    obtain ⟨k, Al, cl, hk, rfl, hall, hd⟩ := hrel
    obtain ⟨j, hj⟩ : ∃ j, j = T + k := ⟨_, rfl⟩
    have hji : (T : Int) + (k : Int) = (j : Int) := by omega
    have c1 : wr.cell? ⟨x, 1, none⟩ = some (.slice Ae N ce) := hd.out.row.cell 1
    have c2 : wr.cell? ⟨x, 2, none⟩ = some (.int .i64 V) := hd.out.row.cell 2
    have c3 : wr.cell? ⟨x, 3, none⟩ = some (.int .i64 ((T : Int) + (k : Int))) := hd.out.row.cell 3
    have f3 := hd.out.row.free 3
    rw [hji] at c3
    have HJJ := Lib.hid hj
    by_cases hlt : k < E.length
    · have HX := Lib.hid (List.getElem?_eq_getElem hlt)
      obtain ⟨y, hy⟩ : ∃ y, y = E[k] := ⟨_, rfl⟩
      rw [← hy] at HX
      obtain ⟨b, o, rfl, cc⟩ := hd.out.ends.src j (.int .i64 y) ((iv_at _ _ _).2 ⟨_, by rw [hj, List.getElem?_append_right (by rw [HH.out.dl]; omega), HH.out.dl, Nat.add_sub_cancel_left]; exact HX.out, rfl⟩)
      have hjN : j < N := by omega
      by_cases he : y ≤ (V : Int)
      · have hdd : decide (y ≤ (V : Int)) = true := by simpa using he
        have HB := Lib.hid (show (iv (upto T k)).length + 1 ≤ 1000000000 by rw [iv_length, upto_length]; omega)
        have HT := Lib.hid (show ∀ wq u, Mods [] wr wq → Own (wq.setCell ⟨x, 3, none⟩ u) 3 (.slice Al k cl) (iv (upto T k)) from fun wq u hq => (hd.out.told.mods hq (by simp)).keep fun bb hb => heap_setCell_other wq ⟨x, 3, none⟩ bb u (fun e => (hd.out.far bb hb).2 (by rw [e]; simp [foot])))
        clear hy hj hji
        go_wp2_with fail
        go_quiet (fail)
        go_wp2_with (at_builtin; refine wpList_append_own2 _ rfl (.tmp 68) (.tmp 73) 29 rfl 3 i1 (.int .i64 0) Try.underlying29 HJ.out.1 HJ.out.2.1 HJ.out.2.2.1 HJ.out.2.2.2 rfl (.slice Al k cl) (iv (upto T k)) rfl ((HT.out _ _ ((Mods.refl _ _).drewN _)).alloc _) (some ⟨wr.heap.size, 0, none⟩) 1 1 [.int .i64 ((j : Int) + 1)] rfl rfl (Src.onez _ _ _ _ (by simp [World.setCell])) (by simp [Value.oneCell']) HB.out ?_; intro v9 w9 HO9 HM9; obtain ⟨A9, n9, c9, rfl, hn9, -, -⟩ := HO9.out.slice'; have HN9 := Lib.hid (show n9 = k + 1 by rw [hn9, List.length_append, iv_length, upto_length]; rfl); clear hn9)
        go_roundw
        case rel => exact ⟨k + 1, A9, c9, by omega, by rw [HN9.out], Lib.hid (fun j' y' hj' hy' => by
            by_cases e : j' = k
            · subst e; have := HX.out; rw [hy'] at this; injection this with this; subst this; exact he
            · exact hall.out j' y' (by omega) hy'), Lib.hid (by
            have := (hd.out.same ((Mods.refl [] wr).drewN _)).step (by simp [foot]) (by have := HJJ.out; omega) HO9.out HM9.out
            rw [HN9.out] at this
            exact this)⟩
        case measure => simp [lenOf, HN9.out]; omega
      · have hdd : decide (y ≤ (V : Int)) = false := by simpa using he
        have HW := Lib.hid (wh_of E (V : Int) k hk hall.out (.inr ⟨y, HX.out, he⟩))
        clear hy hj hji
        go_wp2_with fail
        go_quiet (fail)
        go_wp2
        go_ret
        have hkq : k = q := by rw [HQ.out, ← HVV.out]; exact HW.out.symm
        subst hkq
        refine ⟨.slice Al k cl, rfl, Lib.hid ?_⟩
        rw [← HNN.out, ← HVV.out]
        exact loop_done (hd.out.same ((Mods.refl [] wr).drewN _)) HB8.out HH.out.dl hk (fun y hy => HH.out.rng y (List.mem_of_mem_drop hy)) (by rw [List.length_drop, HVV.out]; omega) hnum
    · have HW := Lib.hid (wh_of E (V : Int) k hk hall.out (.inl (by omega)))
      have hjN : ¬ j < N := by omega
      clear hj hji
      go_wp2_with fail
      go_quiet (fail)
      go_wp2
      go_ret
      have hkq : k = q := by rw [HQ.out, ← HVV.out]; exact HW.out.symm
      subst hkq
      refine ⟨.slice Al k cl, rfl, Lib.hid ?_⟩
      rw [← HNN.out, ← HVV.out]
      exact loop_done (hd.out.same ((Mods.refl [] wr).drewN _)) HB8.out HH.out.dl hk (fun y hy => HH.out.rng y (List.mem_of_mem_drop hy)) (by rw [List.length_drop, HVV.out]; omega) hnum
theorem rdone_as (w : World) (g m k : Nat) (n : Int) (F : List Nat) (B E B' E' l : List Int) (W T W' T' : Nat) (h : QefA w g F B E W T) (hm : clamp n B.length = m) (hk : wh E (W + m : Nat) = k) (hB : B.drop m = B') (hE : E.drop k = E') (hW : W + m = W') (hT : T + k = T') (hl : upto T k = l) :
    Calls Try.prog 18 #[.pointer (some ⟨g, 0, none⟩), .int .i64 n] w fun e w' => ∃ A c, e = .returned (.slice A k c) ∧ Hid (QefDone w w' g F B' E' W' T' (.slice A k c) l ∧ k ≤ c ∧ c ≤ maxLen) := by
  have hd := rdone_any w g n F B E W T h
  rw [hm, hk, hB, hE, hW, hT, hl] at hd
  refine hd.mono ?_
  rintro e w' ⟨v, rfl, hd⟩
  obtain ⟨A, c, rfl, h6, h7⟩ := hd.out.2.slice
  have hlk : l.length = k := by rw [← hl, upto_length]
  have hd := hd.out
  rw [iv_length, hlk] at hd h6 ⊢
  exact ⟨A, c, rfl, Lib.hid ⟨hd, h6, h7⟩⟩
#print axioms rdone_as
end Go.Proofs.Ytgahnediigmihaa
