/- The reference's queue in memory, and what Add, Left of it do. -/
import Derived.Test.YtgahnediigmihaaOutE
import Derived.Deep.RegionWith
namespace Go.Proofs.Ytgahnediigmihaa
open Go.RowKit
set_option maxRecDepth 100000
set_option linter.unusedVariables false
set_option linter.unusedSimpArgs false

/-- The reference's queue behind pointer x, over the same plain state: D: where pieces ended that were told or dropped. -/
structure QefF (w : World) (x : Nat) (vb ve : Value) (B D E : List Int) (W T : Nat) : Prop where
  row : Row w x 31 #[vb, ve, .int .i64 W, .int .i64 T, .int .i64 0]
  dat : Own w 5 vb (bv B)
  ends : Own w 3 ve (iv (D ++ E))
  dl : D.length = T
  rng : ∀ x ∈ B, 0 ≤ x ∧ x ≤ 255
  top : W + B.length ≤ 1000000000
  num : T + E.length ≤ 1000000000
def QefA (w : World) (x : Nat) (F : List Nat) (B E : List Int) (W T : Nat) : Prop := ∃ vb ve D, F = foot x vb ve ∧ QefF w x vb ve B D E W T
section
variable {w w' : World} {x W T : Nat} {vb ve : Value} {B D E : List Int} {F : List Nat}
theorem QefF.keep (h : QefF w x vb ve B D E W T) (e : ∀ k ∈ foot x vb ve, w'.heap[k]? = w.heap[k]?) : QefF w' x vb ve B D E W T :=
  ⟨h.row.keep (e _ (by simp [foot])), h.dat.keep (fun k hk => e k (by simp only [foot, List.mem_cons, List.mem_append]; exact .inr (.inl hk))), h.ends.keep (fun k hk => e k (by simp only [foot, List.mem_cons, List.mem_append]; exact .inr (.inr hk))), h.dl, h.rng, h.top, h.num⟩
theorem QefF.lt (h : QefF w x vb ve B D E W T) : ∀ k ∈ foot x vb ve, k < w.heap.size := by
  intro k hk
  simp only [foot, List.mem_cons, List.mem_append] at hk
  rcases hk with rfl | hk | hk
  · exact h.row.lt
  · exact h.dat.lt k hk
  · exact h.ends.lt k hk
theorem QefF.quiet (h : QefF w x vb ve B D E W T) (hm : Mods [] w w') : QefF w' x vb ve B D E W T := h.keep fun k hk => hm.block k (h.lt k hk) (by simp)
theorem QefA.keep (h : QefA w x F B E W T) (e : ∀ k ∈ F, w'.heap[k]? = w.heap[k]?) : QefA w' x F B E W T := by
  obtain ⟨vb, ve, D, rfl, h⟩ := h
  exact ⟨vb, ve, D, rfl, h.keep e⟩
theorem QefA.lt (h : QefA w x F B E W T) : ∀ k ∈ F, k < w.heap.size := by
  obtain ⟨vb, ve, D, rfl, h⟩ := h
  exact h.lt
theorem QefA.mods {G : List Nat} (h : QefA w x F B E W T) (hm : Mods G w w') (hd : ∀ k ∈ F, k ∉ G) : QefA w' x F B E W T :=
  h.keep fun k hk => hm.block k (h.lt k hk) (hd k hk)
theorem QefA.quiet (h : QefA w x F B E W T) (hm : Mods [] w w') : QefA w' x F B E W T := h.mods hm (by simp)
theorem QefF.cells (h : QefF w x vb ve B D E W T) : ∃ Ab cb Ae ce, vb = .slice Ab B.length cb ∧ ve = .slice Ae (D ++ E).length ce ∧ B.length ≤ cb ∧ cb ≤ maxLen ∧ (D ++ E).length ≤ ce ∧ ce ≤ maxLen := by
  obtain ⟨Ad, cd, rfl, h1, h2⟩ := h.dat.slice
  obtain ⟨Ae, ce, rfl, h3, h4⟩ := h.ends.slice
  rw [bv_length] at *
  rw [iv_length] at *
  exact ⟨Ad, cd, Ae, ce, rfl, rfl, h1, h2, h3, h4⟩
end
/-- What a call leaves. -/
def QefTo (w w' : World) (x : Nat) (F : List Nat) (B E : List Int) (W T : Nat) : Prop := ∃ F', QefA w' x F' B E W T ∧ Mods F w w' ∧ ∀ k ∈ F', k ∈ F ∨ w.heap.size ≤ k
section
variable {w wx w8 : World} {x W T : Nat} {vb ve v8 : Value} {B D E l : List Int}
/-- Bytes are appended and stored. -/
theorem qef_appB (h : QefF w x vb ve B D E W T) (ho : Own w8 5 v8 (bv B ++ bv l)) (hm : Mods vb.ownBlock.toList wx w8 ∧ (v8.ownBlock = vb.ownBlock ∨ v8.ownBlock = some wx.heap.size)) (hX : Mods [] w wx)
    (hl : W + B.length + l.length ≤ 1000000000) (hr : ∀ x ∈ l, 0 ≤ x ∧ x ≤ 255) :
    Row w8 x 31 #[vb, ve, .int .i64 W, .int .i64 T, .int .i64 0] ∧
    ∀ w9, w9 = w8.setCell ⟨x, 0, none⟩ v8 → QefF w9 x v8 ve (B ++ l) D E W T ∧ Mods (x :: vb.ownBlock.toList) w w9 ∧ ∀ b ∈ v8.ownBlock.toList, b ∈ vb.ownBlock.toList ∨ w.heap.size ≤ b := by
  have hq := h.quiet hX
  have hr8 := hq.row.mods hm.1 (fun hx => hq.dat.ne_row hq.row (by decide) _ hx rfl)
  refine ⟨hr8, fun w9 e9 => ?_⟩
  subst e9
  have hve : Own w8 3 ve (iv (D ++ E)) := hq.ends.mods hm.1 fun b hb hb2 => hq.ends.ne hq.dat (by decide) b hb hb2
  refine ⟨⟨?_, by rw [bv_append]; exact ho.keep fun b hb => heap_setCell_other w8 ⟨x, 0, none⟩ b _ (ho.ne_row hr8 (by decide) b hb), hve.keep fun b hb => heap_setCell_other w8 ⟨x, 0, none⟩ b _ (hve.ne_row hr8 (by decide) b hb), h.dl, fun x hx => (List.mem_append.1 hx).elim (h.rng x) (hr x), by rw [List.length_append]; omega, h.num⟩, ?_, fun b hb => ?_⟩
  · have := hr8.set 0 v8
    simpa using this
  · exact ((hX.more (by simp)).trans (hm.1.more (F2 := x :: vb.ownBlock.toList) (fun k hk => .inl (List.mem_cons_of_mem _ hk))) (fun k hk => .inl hk)).setCell (.inl (by simp)) _
  · rcases hm.2 with e | e
    · rw [e] at hb; exact .inl hb
    · rw [e] at hb; have := hX.size; simp at hb; right; omega
/-- An end is appended and stored. -/
theorem qef_appE {y : Int} (h : QefF w x vb ve B D E W T) (ho : Own w8 3 v8 (iv (D ++ E) ++ [.int .i64 y])) (hm : Mods ve.ownBlock.toList wx w8 ∧ (v8.ownBlock = ve.ownBlock ∨ v8.ownBlock = some wx.heap.size)) (hX : Mods [] w wx)
    (hl : T + E.length + 1 ≤ 1000000000) :
    Row w8 x 31 #[vb, ve, .int .i64 W, .int .i64 T, .int .i64 0] ∧
    ∀ w9, w9 = w8.setCell ⟨x, 1, none⟩ v8 → QefF w9 x vb v8 B D (E ++ [y]) W T ∧ Mods (x :: ve.ownBlock.toList) w w9 ∧ ∀ b ∈ v8.ownBlock.toList, b ∈ ve.ownBlock.toList ∨ w.heap.size ≤ b := by
  have hq := h.quiet hX
  have hr8 := hq.row.mods hm.1 (fun hx => hq.ends.ne_row hq.row (by decide) _ hx rfl)
  refine ⟨hr8, fun w9 e9 => ?_⟩
  subst e9
  have hvb : Own w8 5 vb (bv B) := hq.dat.mods hm.1 fun b hb hb2 => hq.dat.ne hq.ends (by decide) b hb hb2
  refine ⟨⟨?_, hvb.keep fun b hb => heap_setCell_other w8 ⟨x, 1, none⟩ b _ (hvb.ne_row hr8 (by decide) b hb), ?_, h.dl, h.rng, h.top, by rw [List.length_append]; simp; omega⟩, ?_, fun b hb => ?_⟩
  · have := hr8.set 1 v8
    simpa using this
  · rw [← List.append_assoc, iv_append]
    exact ho.keep fun b hb => heap_setCell_other w8 ⟨x, 1, none⟩ b _ (ho.ne_row hr8 (by decide) b hb)
  · exact ((hX.more (by simp)).trans (hm.1.more (F2 := x :: ve.ownBlock.toList) (fun k hk => .inl (List.mem_cons_of_mem _ hk))) (fun k hk => .inl hk)).setCell (.inl (by simp)) _
  · rcases hm.2 with e | e
    · rw [e] at hb; exact .inl hb
    · rw [e] at hb; have := hX.size; simp at hb; right; omega
end
set_option maxHeartbeats 4000000 in
theorem radd_any (w : World) (x : Nat) (F : List Nat) (B E : List Int) (W T : Nat) (A : Option Addr) (n c : Nat) (rs : List Rw) (h : QefA w x F B E W T) (hp : Parts w F A rs) (hn : n = rs.length) (hnl : n ≤ maxLen) (hl : W + B.length + (flatR rs).length ≤ 1000000000) (hE : T + E.length + 1 ≤ 1000000000) :
    Calls Try.prog 13 #[.pointer (some ⟨x, 0, none⟩), .slice A n c] w fun e w' =>
      e = .returned (.int .i64 ((T : Int) + (E.length : Int) + 1)) ∧ Hid (QefTo w w' x F (B ++ flatR rs) (E ++ [(W : Int) + ((B ++ flatR rs).length : Int)]) W T) := by
  subst hn
  obtain ⟨i0, hi, hz, hs, hby⟩ := info_parts u8_info3
  have HI := Lib.hid (And.intro hi (And.intro hz (And.intro hs (show i0.bytes ≤ 8 by omega))))
  clear hi hz hs hby
  obtain ⟨i1, hi, hz, hs, hby⟩ := info_parts int_info3
  have HJ := Lib.hid (And.intro hi (And.intro hz (And.intro hs (show i1.bytes ≤ 8 by omega))))
  obtain ⟨vb, ve, D, rfl, h⟩ := h
  have HH := Lib.hid h
  have HP := Lib.hid hp
  unfold maxLen at hnl
  obtain ⟨B', hB'⟩ : ∃ B', B' = B ++ flatR rs := ⟨_, rfl⟩
  rw [← hB']
  have HBX := Lib.hid hB'
  clear h hp hB' hi hz hs hby
  go_enter Try.func13, Try.ntmps13
  go_wp2
  go_loopw [5] (fun i wr => ∃ k : Nat, k ≤ rs.length ∧ i = .int .i64 k ∧ Hid (∃ vb', QefF wr x vb' ve (B ++ flatR (rs.take k)) D E W T ∧ Mods (foot x vb ve) w wr ∧ ∀ b ∈ vb'.ownBlock.toList, b ∈ foot x vb ve ∨ w.heap.size ≤ b)) (fun i _ => rs.length - (intOf i).toNat)
  case atStart => exact ⟨0, Nat.zero_le _, rfl, Lib.hid ⟨vb, by simpa [flatR] using HH.out, Mods.refl _ _, fun b hb => .inl (by simp only [foot, List.mem_cons, List.mem_append]; exact .inr (.inl hb))⟩⟩
  case round =>
    obtain ⟨k, hk, rfl, hd⟩ := hrel
    obtain ⟨vb', hq, hm, hb⟩ := hd.out
    have HQ := Lib.hid hq
    have HM := Lib.hid hm
    have HB := Lib.hid hb
    clear hd hq hm hb
    by_cases hlt : k < rs.length
    · have HPk := Lib.hid (HP.out.mods HM.out k rs[k] (List.getElem?_eq_getElem hlt))
      obtain ⟨⟨bb, oo, rfl, _, hbF, hc⟩, _⟩ := HPk.out
      have HSN := Lib.hid (flatR_snoc rs k hlt)
      have HLE := Lib.hid (flatR_le rs (k + 1))
      obtain ⟨r, hr⟩ : ∃ r, r = rs[k] := ⟨_, rfl⟩
      rw [← hr] at HPk hc HSN
      obtain ⟨P, hP⟩ : ∃ P, P = B ++ flatR (rs.take k) := ⟨_, rfl⟩
      have HPE := Lib.hid hP
      rw [← hP] at HQ
      have HFL := Lib.hid (show W + P.length + r.l.length ≤ 1000000000 by have := HLE.out; rw [HSN.out, List.length_append] at this; rw [hP, List.length_append]; omega)
      obtain ⟨Ab, cb, Ae, ce, rfl, rfl, q1, q2, q3, q4⟩ := HQ.out.cells
      have c0 := HQ.out.row.cell 0
      have c0 : wr.cell? ⟨x, 0, none⟩ = some (.slice Ab P.length cb) := c0
      have HSR := Lib.hid (HPk.out.2.1.srcs)
      have HBD := Lib.hid (show (bv P).length + r.l.length ≤ 1000000000 by rw [bv_length]; have := HFL.out; omega)
      unfold maxLen at q2 q4
      clear hr hP
      go_wp2_with fail
      go_region_law (refine step_append_own2 rfl (.tmp 16) (.tmp 20) 28 rfl 5 i0 (.int .u8 0) Try.underlying28 HI.out.1 HI.out.2.1 HI.out.2.2.1 HI.out.2.2.2 rfl (.slice Ab P.length cb) (bv P) rfl (HQ.out.dat.keep fun _ _ => rfl) r.A r.l.length r.c (bv r.l) rfl (bv_length _).symm (HSR.out.same rfl) (bv_one _) HBD.out ?_; intro v8 w8 HO8 HM8; obtain ⟨hr8, hq8⟩ := qef_appB HQ.out HO8.out HM8.out ((Mods.refl [] wr).same rfl rfl rfl rfl) HFL.out HPk.out.2.1.range; obtain ⟨A8, n8, c8, rfl, -, -, -⟩ := HO8.out.slice'; have HQ8 := Lib.hid hq8; have c8 := hr8.cell 0; have f8 := hr8.free; clear hq8 hr8)
      all_goals
        go_wp2
        go_roundw
        case rel =>
          obtain ⟨hq, hm, hb⟩ := HQ8.out _ rfl
          refine ⟨k + 1, by omega, by go_num, Lib.hid ⟨_, by rw [HSN.out, ← List.append_assoc, ← HPE.out]; exact hq, HM.out.trans hm (fun b hb => ?_), fun b hb2 => ?_⟩⟩
          · rcases List.mem_cons.1 hb with rfl | hb
            · exact .inl (by simp [foot])
            · exact HB.out b hb
          · exact (hb b hb2).elim (HB.out b) (fun h => .inr (Nat.le_trans HM.out.size h))
        case measure => simp [intOf]; omega
    · have HK := Lib.hid (show rs.take k = rs from List.take_of_length_le (by omega))
      rw [HK.out, ← HBX.out] at HQ
      obtain ⟨Ab, cb, Ae, ce, rfl, rfl, q1, q2, q3, q4⟩ := HQ.out.cells
      have c0 : wr.cell? ⟨x, 0, none⟩ = some (.slice Ab B'.length cb) := HQ.out.row.cell 0
      have c1 : wr.cell? ⟨x, 1, none⟩ = some (.slice Ae (D ++ E).length ce) := HQ.out.row.cell 1
      have c2 : wr.cell? ⟨x, 2, none⟩ = some (.int .i64 W) := HQ.out.row.cell 2
      have d1 := fun o => cell_alloc c1 o
      have htop := HQ.out.top
      have hwr : IntKind.i64.wrap ((W : Int) + (B'.length : Int)) = (W : Int) + (B'.length : Int) := by rw [IntKind.wrap_i64]; omega
      have HDL := Lib.hid (show (iv (D ++ E)).length + 1 ≤ 1000000000 ∧ (D ++ E).length = T + E.length by rw [iv_length, List.length_append, HQ.out.dl]; omega)
      unfold maxLen at q2 q4
      obtain ⟨N, hN⟩ : ∃ N, N = (D ++ E).length := ⟨_, rfl⟩
      have HNN := Lib.hid hN
      rw [← hN] at c1 d1 q3 HQ
      clear hN
      go_wp2_with fail
      go_region_law (refine step_append_own2 rfl (.tmp 28) (.tmp 39) 29 rfl 3 i1 (.int .i64 0) Try.underlying29 HJ.out.1 HJ.out.2.1 HJ.out.2.2.1 HJ.out.2.2.2 rfl (.slice Ae N ce) (iv (D ++ E)) rfl ((HQ.out.ends.alloc (.cells #[.int .i64 ((W : Int) + (B'.length : Int))] 3)).keep fun _ _ => rfl) (some ⟨wr.heap.size, 0, none⟩) 1 1 [.int .i64 ((W : Int) + (B'.length : Int))] rfl rfl ((Src.one wr _ _).same rfl) (by simp [Value.oneCell']) HDL.out.1 ?_; intro v8 w8 HO8 HM8; obtain ⟨hr8, hq8⟩ := qef_appE HQ.out HO8.out HM8.out (((Mods.refl [] wr).alloc (.cells #[.int .i64 ((W : Int) + (B'.length : Int))] 3)).same rfl rfl rfl rfl) hE; obtain ⟨A8, n8, c8, rfl, hn8, -, -⟩ := HO8.out.slice'; have HN8 := Lib.hid (show n8 = T + E.length + 1 by rw [hn8, List.length_append, iv_length, HDL.out.2]; rfl); have HQ8 := Lib.hid hq8; have c8 := hr8.cell 1; have f8 := hr8.free; clear hq8 hr8 hn8)
      all_goals
        go_wp2
        go_ret
        obtain ⟨hq, hm, hb⟩ := HQ8.out _ rfl
        rw [HNN.out] at hm hb
        refine ⟨ret_i64 (by rw [HN8.out]; omega), Lib.hid ⟨_, ⟨_, _, _, rfl, hq⟩, HM.out.trans hm (fun b hb => .inl ?_), fun b hb2 => ?_⟩⟩
        · simp only [foot, List.mem_cons, List.mem_append] at hb ⊢
          rcases hb with hb | hb
          · exact .inl hb
          · exact .inr (.inr hb)
        · simp only [foot, List.mem_cons, List.mem_append] at hb2 ⊢
          rcases hb2 with hb2 | hb2 | hb2
          · exact .inl (.inl hb2)
          · have := HB.out b hb2
            simpa only [foot, List.mem_cons, List.mem_append] using this
          · rcases hb b hb2 with h | h
            · exact .inl (.inr (.inr h))
            · have := HM.out.size; right; omega
theorem radd_as (w : World) (g : Nat) (F : List Nat) (B E B' E' : List Int) (W T : Nat) (A : Option Addr) (n c : Nat) (rs : List Rw) (x : Int) (h : QefA w g F B E W T) (hp : Parts w F A rs) (hn : n = rs.length) (hnl : n ≤ maxLen) (hB : B ++ flatR rs = B') (hE : E ++ [(W : Int) + (B'.length : Int)] = E') (hx : x = (T : Int) + (E'.length : Int)) (hl : W + B'.length ≤ 1000000000) (hE2 : T + E'.length ≤ 1000000000) :
    Calls Try.prog 13 #[.pointer (some ⟨g, 0, none⟩), .slice A n c] w fun e w' => e = .returned (.int .i64 x) ∧ Hid (QefTo w w' g F B' E' W T) := by
  subst hB
  have e1 : E'.length = E.length + 1 := by rw [← hE, List.length_append]; rfl
  have := radd_any w g F B E W T A n c rs h hp hn hnl (by rw [List.length_append] at hl; omega) (by omega)
  rw [hE] at this
  refine this.mono ?_
  rintro e w' ⟨rfl, hd⟩
  exact ⟨ret_i64 (by omega), hd⟩
/-- How long a slice value is. -/
def lenOf : Value → Nat
  | .slice _ n _ => n
  | _ => 0
theorem upto_snoc (a k : Nat) : upto a (k + 1) = upto a k ++ [(a : Int) + 1 + (k : Int)] := by simp [upto, List.range_succ]
theorem rleft_any (w : World) (x : Nat) (F : List Nat) (B E : List Int) (W T : Nat) (h : QefA w x F B E W T) :
    Calls Try.prog 26 #[.pointer (some ⟨x, 0, none⟩)] w fun e w' => ∃ v, e = .returned v ∧ Hid (FreshO w w' 3 v (iv (upto T E.length))) := by
  obtain ⟨i1, hi, hz, hs, hby⟩ := info_parts int_info3
  have HJ := Lib.hid (And.intro hi (And.intro hz (And.intro hs (show i1.bytes ≤ 8 by omega))))
  obtain ⟨vb, ve, D, rfl, h⟩ := h
  obtain ⟨Ab, cb, Ae, ce, rfl, rfl, q1, q2, q3, q4⟩ := h.cells
  have hnum := h.num
  have c1 : w.cell? ⟨x, 1, none⟩ = some (.slice Ae (D ++ E).length ce) := h.row.cell 1
  have c3 : w.cell? ⟨x, 3, none⟩ = some (.int .i64 T) := h.row.cell 3
  have hN : (D ++ E).length = T + E.length := by rw [List.length_append, h.dl]
  rw [hN] at c1
  have C1 := Lib.hid c1
  have HLT := Lib.hid h.row.lt
  clear h hi hz hs hby hN q1 q2 q3 q4
  go_enter Try.func26, Try.ntmps26
  go_wp2
  go_loopw [3, 4] (fun l i wr => ∃ k : Nat, k ≤ E.length ∧ i = .int .i64 ((T : Int) + (k : Int)) ∧ Hid (FreshO w wr 3 l (iv (upto T k)))) (fun _ i _ => T + E.length - (intOf i).toNat)
  case atStart => exact ⟨0, Nat.zero_le _, by simp, Lib.hid ⟨Own.nil _ _, Mods.refl _ _, by simp [Value.ownBlock]⟩⟩
  case round =>
    obtain ⟨k, hk, rfl, hd⟩ := hrel
    have c1 := cell_mods C1.out hd.out.2.1 (by simp)
    by_cases hlt : k < E.length
    · have HB := Lib.hid (show (iv (upto T k)).length + 1 ≤ 1000000000 by rw [iv_length, upto_length]; omega)
      go_wp2_with (at_builtin; refine wpList_append_own2 _ rfl (.tmp 18) (.tmp 21) 29 rfl 3 i1 (.int .i64 0) Try.underlying29 HJ.out.1 HJ.out.2.1 HJ.out.2.2.1 HJ.out.2.2.2 rfl u3 (iv (upto T k)) rfl (hd.out.1.alloc _) (some ⟨wr.heap.size, 0, none⟩) 1 1 [.int .i64 ((T : Int) + (k : Int) + 1)] rfl rfl (Src.one _ _ _) (by simp [Value.oneCell']) HB.out ?_; intro v2 w2 HO2 HM2)
      go_roundw
      case rel => exact ⟨k + 1, by omega, by go_num, Lib.hid (by
        have e1 : iv (upto T (k + 1)) = iv (upto T k) ++ [.int .i64 ((T : Int) + (k : Int) + 1)] := by rw [upto_snoc, iv_append, show (T : Int) + 1 + (k : Int) = (T : Int) + (k : Int) + 1 by omega]; rfl
        rw [e1]
        refine ⟨HO2.out, (hd.out.2.1.alloc _).trans HM2.out.1 (fun b hb => .inr (hd.out.2.2 b hb)), fun b hb => ?_⟩
        rcases HM2.out.2 with e | e
        · rw [e] at hb; exact hd.out.2.2 b hb
        · rw [e] at hb; have := hd.out.2.1.size; simp at hb; omega)⟩
      case measure => simp [intOf]; omega
    · obtain rfl : k = E.length := by omega
      go_wp2
      go_ret
      exact ⟨_, rfl, hd⟩
theorem rleft_as (w : World) (g k : Nat) (F : List Nat) (B E l : List Int) (W T : Nat) (h : QefA w g F B E W T) (hl : upto T E.length = l) (hk : E.length = k) :
    Calls Try.prog 26 #[.pointer (some ⟨g, 0, none⟩)] w fun e w' => ∃ A c, e = .returned (.slice A k c) ∧ Hid (NewI w w' A k c l) := by
  subst hl hk
  refine (rleft_any w g F B E W T h).mono ?_
  rintro e w' ⟨v, rfl, hd⟩
  have hf := hd.out
  obtain ⟨A, c, rfl, h1, h2⟩ := hf.1.slice
  rw [iv_length, upto_length] at hf h1 ⊢
  exact ⟨A, c, rfl, Lib.hid ⟨hf, upto_length _ _, h1, h2⟩⟩
#print axioms rleft_as
end Go.Proofs.Ytgahnediigmihaa
