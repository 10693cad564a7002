/- What Put of the program's slab answers where a new slot is wanted. -/
import Derived.Test.YthaapkafamdhcaaDoorSlabQ
namespace Go.Proofs.YthaapkafamdhcaaDoor
open Go.RowKit
set_option maxRecDepth 10000
set_option linter.unusedVariables false
set_option linter.unusedSimpArgs false

theorem slot_info : (Tryd.prog.info? 154).map (fun i => (i.zero, i.size, i.bytes)) = some (some (.agg #[.int .i64 0, .int .i64 0]), 2, 16) := by kernel_rfl
theorem slabQ_keep {w w' : World} {g : Nat} {sv : Value} {cs : Array Value} {xs : List Value} {U : Nat → Nat} {S : Slb} {K : Nat} (h : SlabQ w g sv cs xs U S K) (e : ∀ k ∈ g :: sv.ownBlock.toList, w'.heap[k]? = w.heap[k]?) : SlabQ w' g sv cs xs U S K := by
  obtain ⟨hrow, hsz, h0, h1, h2, hU, hown, hx⟩ := h
  exact ⟨hrow.keep (e _ (List.mem_cons_self ..)), hsz, h0, h1, h2, hU, own_keep hown (fun k hk => e k (List.mem_cons_of_mem _ hk)), hx⟩
structure GrowMid (w w1 : World) (g g1 u cap1 cap : Nat) (A : Option Addr) (S : Slb) (K : Nat) : Prop where
  d0 : w1.cell? ⟨g, 0, none⟩ = some (.int .i64 S.lim)
  d1 : w1.cell? ⟨g, 1, none⟩ = some (.int .i64 S.cnt)
  d2 : w1.cell? ⟨g, 2, none⟩ = some (.slice A S.us.length cap)
  d3 : w1.cell? ⟨g, 3 + S.us.length / 64, none⟩ = some (.int .u64 u)
  ul : u < 2 ^ 64
  e1 : w1.cell? ⟨g1, S.us.length * 2, none⟩ = some (.int .i64 0)
  e2 : w1.cell? ⟨g1, S.us.length * 2 + 1, none⟩ = some (.int .i64 0)
  f1 : ∀ j, w1.frozen? ⟨g1, j, none⟩ = false
  f2 : ∀ j, w1.frozen? ⟨g, j, none⟩ = false
  ne : g1 ≠ g
  row : Row w1 w.heap.size 47 #[.int .i64 0, .int .i64 0]
  rg : w.heap.size ≠ g
  r1 : w.heap.size ≠ g1
  rep : SlabA (w1.setCell ⟨g, 2, none⟩ (.slice (some ⟨g1, 0, none⟩) (S.us.length + 1) cap1)) g [g, g1] S.grow K
  mods : Mods (Value.slice A S.us.length cap).ownBlock.toList w w1
  new : g1 ∈ (Value.slice A S.us.length cap).ownBlock.toList ∨ w.heap.size ≤ g1
  c1 : S.us.length + 1 ≤ cap1
  c2 : cap1 ≤ maxLen
theorem grow_mid {w w1 : World} {g g1 cap1 cap nq : Nat} {A : Option Addr} {cs : Array Value} {xs : List Value} {U : Nat → Nat} {S : Slb} {K : Nat} (h : SlabQ w g (.slice A S.us.length cap) cs xs U S K) (hl : S.us.length < S.lim) (hh : S.lim ≤ 4096)
    (hown : w1.ownsRow 0 154 2 (.slice (some ⟨g1, 0, none⟩) (S.us.length + 1) cap1) (S.us.length + 1) (xs ++ [.int .i64 0, .int .i64 0]))
    (hg : (((w.alloc (.cells #[.int .i64 0, .int .i64 0] 47)).drewN nq).alloc (.cells #[.int .i64 0, .int .i64 0] 154)).grownBy w1 (Value.slice A S.us.length cap).ownBlock)
    (ht : (Value.slice A S.us.length cap).ownBlock = some g1 ∨ g1 = w.heap.size + 2) : ∃ u, GrowMid w w1 g g1 u cap1 cap A S K := by
  have hm : Mods (Value.slice A S.us.length cap).ownBlock.toList w w1 := ((((Mods.refl _ w).alloc _).drewN nq).alloc _).grown hg (fun k hk => .inl (by rw [hk]; simp))
  obtain ⟨hrow, hsz, h0, h1, h2, hU, hown0, hx⟩ := id h
  have hlt := own_lt hown0
  have hnot := own_ne_row hown0 hrow (by decide)
  have hgn : g ∉ (Value.slice A S.us.length cap).ownBlock.toList := fun hk => hnot g hk rfl
  have hnew : g1 ∈ (Value.slice A S.us.length cap).ownBlock.toList ∨ w.heap.size ≤ g1 := by
    rcases ht with h | h
    · left; rw [h]; simp
    · right; omega
  have hr1 : w.heap.size ≠ g1 := by
    rcases ht with h | h
    · have := hlt g1 (by rw [h]; simp); omega
    · omega
  have hrg := hrow.lt
  have row1 : Row w1 g 144 cs := hrow.mods hm hgn
  have rowr : Row w1 w.heap.size 47 #[.int .i64 0, .int .i64 0] := by
    have h1 : Row (((w.alloc (.cells #[.int .i64 0, .int .i64 0] 47)).drewN nq).alloc (.cells #[.int .i64 0, .int .i64 0] 154)) w.heap.size 47 #[.int .i64 0, .int .i64 0] := ((Row.new w _ _).drewN nq).alloc _
    refine h1.keep (hg.block _ (by simp; omega) (fun e => ?_))
    have := hlt w.heap.size (by rw [← e]; simp)
    omega
  obtain ⟨hrep, _, hne⟩ := slabA_grown h hl hown hm hnew
  obtain ⟨hu, hul⟩ := hU (S.us.length / 64) (by omega)
  have hxl := hown0.1
  obtain ⟨A', cap', hs, hc1, hc2⟩ := own_slice hown
  injection hs with _ _ hc3
  subst hc3
  refine ⟨U (S.us.length / 64), by rw [row1.cell]; exact h0, by rw [row1.cell]; exact h1, by rw [row1.cell]; exact h2, by rw [row1.cell]; exact hu, hul, ?_, ?_, hown.frozenAt, row1.free, hne, rowr, by omega, hr1, hrep, hm, hnew, hc1, hc2⟩
  · rw [hown.cellAt _ (by omega), List.getElem?_append_right (by omega), show S.us.length * 2 - xs.length = 0 by omega]; rfl
  · rw [hown.cellAt _ (by omega), List.getElem?_append_right (by omega), show S.us.length * 2 + 1 - xs.length = 1 by omega]; rfl
theorem GrowMid.put {w w1 : World} {g g1 u cap1 cap : Nat} {A : Option Addr} {S : Slb} {K : Nat} (h : GrowMid w w1 g g1 u cap1 cap A S K) (hS : S.Ok K) (hl : S.us.length < S.lim) (hn : S.least = S.us.length) (v : Int) :
    PutMid w (((w1.setCell ⟨g, 2, none⟩ (.slice (some ⟨g1, 0, none⟩) (S.us.length + 1) cap1)).setCell ⟨g1, S.us.length * 2, none⟩ (.int .i64 1)).setCell ⟨g1, S.us.length * 2 + 1, none⟩ (.int .i64 v)) g g1 S.us.length u 0 cap1 (S.us.length + 1) v [g, g1] S (S.put v) K ∧
      Mods (g :: (Value.slice A S.us.length cap).ownBlock.toList) w (((w1.setCell ⟨g, 2, none⟩ (.slice (some ⟨g1, 0, none⟩) (S.us.length + 1) cap1)).setCell ⟨g1, S.us.length * 2, none⟩ (.int .i64 1)).setCell ⟨g1, S.us.length * 2 + 1, none⟩ (.int .i64 v)) := by
  have hh := hS.hi
  have hne := h.ne
  have l1 : S.grow.us.length = S.us.length + 1 := by simp [Slb.grow]
  have u1 : S.grow.us.getD S.us.length false = false := by simp only [Slb.grow, getD_snoc_bool]; simp
  have g1' : S.grow.gs.getD S.us.length 0 = 0 := by simp only [Slb.grow, getD_snoc_nat]; rw [if_pos hS.gl.symm]
  have s2 : ∀ j, j ≠ 2 → ∀ x : Value, (w1.setCell ⟨g, 2, none⟩ x).cell? ⟨g, j, none⟩ = w1.cell? ⟨g, j, none⟩ := fun j hj x => World.cell?_setCell_other _ _ _ _ (by simp <;> omega)
  have hf := slabA_fill h.rep (i := S.us.length) (by omega) u1 (sb := g1) (cap := cap1) v (by rw [World.cell?_setCell_same' _ _ _ (by simp [h.d2]), l1]) (by rw [s2 _ (by omega)]; exact h.d3) (or_pow u (S.us.length % 64) h.ul (by omega)) (m := S.cnt + 1) (by rw [Slb.grow_cnt]) (gn := 1) (by rw [g1']; rfl)
  refine ⟨⟨?_, ?_, ?_, ?_, ?_, ?_, ?_, ?_, by simp⟩, ?_⟩
  · rw [World.cell?_setCell_far _ _ _ _ (by exact hne), World.cell?_setCell_far _ _ _ _ (by exact hne), s2 _ (by decide)]; exact h.d1
  · rw [World.cell?_setCell_far _ _ _ _ (by exact hne), World.cell?_setCell_far _ _ _ _ (by exact hne), World.cell?_setCell_same' _ _ _ (by simp [h.d2])]
  · rw [World.cell?_setCell_far _ _ _ _ (by exact hne), World.cell?_setCell_far _ _ _ _ (by exact hne), s2 _ (by omega)]; exact h.d3
  · rw [World.cell?_setCell_other _ _ _ _ (by simp), World.cell?_setCell_same' _ _ _ (by rw [World.cell?_setCell_far _ _ _ _ (by exact hne.symm), h.e1]; rfl)]; rfl
  · intro j
    rw [World.frozen?_setCell, World.frozen?_setCell, World.frozen?_setCell]; exact h.f2 j
  · exact ((h.row.far (by exact h.rg) _).far (by exact h.r1) _).far (by exact h.r1) _
  · rw [Slb.put_grow hS hn v, hn]; exact hf.1
  · intro k hk
    simp only [List.mem_cons, List.mem_nil_iff, or_false] at hk
    rcases hk with rfl | rfl
    · exact h.rg.symm
    · exact h.r1.symm
  · have hnew : g1 ∈ g :: (Value.slice A S.us.length cap).ownBlock.toList ∨ w.heap.size ≤ g1 := h.new.imp (List.mem_cons_of_mem _) id
    exact (((h.mods.more (fun k hk => .inl (List.mem_cons_of_mem _ hk))).setCell (by simp) _).setCell (by exact hnew) _).setCell (by exact hnew) _
set_option maxHeartbeats 1000000 in
theorem put_grow (w : World) (g : Nat) (v : Int) (F : List Nat) (S : Slb) (K : Nat) (h : SlabA w g F S K) (hT : TzTab w) (hc : S.cnt < S.lim) (hK : K ≤ 4000000000000) (hn : S.least = S.us.length) :
    Calls Tryd.prog 59 #[.pointer (some ⟨g, 0, none⟩), .int .i64 v] w fun e w' => ∃ g1, e = .returned (.tuple #[.agg #[.int .i64 S.least, .int .i64 S.gen], .int .i64 0]) ∧ SlabA w' g [g, g1] (S.put v) (K + 1) ∧ Mods F w w' ∧ (g1 ∈ F ∨ w.heap.size ≤ g1) := by
  obtain ⟨i0, hi0, hz0, hz1, hz2⟩ := info_parts slot_info
  obtain ⟨sv, cs, xs, U, hF, hq0⟩ := h
  have HQ0 : Hid (SlabQ w g sv cs xs U S K) := Lib.hid hq0
  have HA0 := Lib.hid HQ0.out.toA
  have hsv : ∀ k ∈ sv.ownBlock.toList, k < w.heap.size := own_lt hq0.2.2.2.2.2.2.1
  have hgs := hq0.1.lt
  have HQ := Lib.hid (slabQ_keep (w' := w.alloc (.cells #[.int .i64 0, .int .i64 0] 47)) HQ0.out fun k hk => Below.heap_alloc w _ k (by
    rcases List.mem_cons.1 hk with rfl | hk
    · exact hgs
    · exact hsv k hk))
  have hlt := S.least_lt hq0.2.2.2.2.2.2.2.2.2 hc
  have hok := hq0.2.2.2.2.2.2.2.2.2
  have hh := hok.hi
  have hcl := S.cnt_le
  have HL := Lib.hid (fun (W : World) (H : SlabA W g (g :: sv.ownBlock.toList) S K) (hT : TzTab W) => least_any W g _ S K H hc hT)
  have HT := Lib.hid (TzTab.keep (w' := w.alloc (.cells #[.int .i64 0, .int .i64 0] 47)) hT (Below.heap_alloc w _ _ hT.lt))
  have HG := Lib.hid (show S.gen = 1 by unfold Slb.gen; rw [hn, List.getD_eq_getElem?_getD, List.getElem?_eq_none (by rw [hok.gl]; omega)]; rfl)
  have HP := Lib.hid (S.put_grow hok hn v)
  have HOK := Lib.hid hok
  have HF := Lib.hid hF
  have HN := Lib.hid hn
  have hd : decide (S.lim ≤ S.cnt) = false := by simpa using hc
  rw [hn] at HL hlt HP ⊢
  obtain ⟨hrow, hsz, h0, h1, h2, hU, hown, hx⟩ := HQ.out
  obtain ⟨A, cap, rfl, hcap, hmx⟩ := own_slice hown
  have c0 : (w.alloc (.cells #[.int .i64 0, .int .i64 0] 47)).cell? ⟨g, 0, none⟩ = some (.int .i64 S.lim) := by rw [hrow.cell]; exact h0
  have c1 : (w.alloc (.cells #[.int .i64 0, .int .i64 0] 47)).cell? ⟨g, 1, none⟩ = some (.int .i64 S.cnt) := by rw [hrow.cell]; exact h1
  have c2 : (w.alloc (.cells #[.int .i64 0, .int .i64 0] 47)).cell? ⟨g, 2, none⟩ = some (.slice A S.us.length cap) := by rw [hrow.cell]; exact h2
  have HO := Lib.hid hown
  have ⟨q1, q2, q3, q4, q5, q6⟩ := quo_facts S.us.length (by omega)
  clear hrow hsz h0 h1 h2 hU hown hx hq0 hT hc hok hF hn
  go_enter Tryd.func59, Tryd.ntmps59
  go_wp2
  go_quiet (fail)
  go_wp2_with fail
  refine (HL.out (World.drewN (w.alloc _) nq) (slabA_keep HQ.out.toA fun _ _ => rfl) (HT.out.keep rfl)).mono ?_
  rintro e w' ⟨rfl, rfl⟩
  go_wp2_with (at_builtin; refine wpList_append_lies _ rfl (.tmp 33) (.tmp 35) _ rfl 0 154 i0 _ 2 16 Tryd.underlying140 hi0 hz0 hz1 hz2 rfl (by omega) (.slice A S.us.length cap) S.us.length xs rfl (own_mods HO.out (((Mods.refl [] (w.alloc _)).drewN nq).alloc _) (by simp)) ⟨w.heap.size + 1, 0, none⟩ 1 1 [.int .i64 0, .int .i64 0] rfl rfl (World.news_of_block (new_at (by simp))) (by simp [Value.oneCell']) (by omega) (by unfold maxLen; omega) (by omega) (Nat.zero_le _) (w.heap.size + 2) (by simp) ?_; intro g1 cap1 w1 hown1 hg1 hat1 hlt1; obtain ⟨u, hgm⟩ := grow_mid HQ0.out hlt hh hown1 hg1 hat1; have HM := Lib.hid hgm; have d1 := hgm.d1; have d2 := hgm.d2; have e1 := hgm.e1; have e2 := hgm.e2; have f1 := hgm.f1; have f2 := hgm.f2; have hne := hgm.ne; have hcc := hgm.c1; clear hown1 hg1 hat1 hgm)
  obtain ⟨W, hW, hM, hP⟩ : ∃ W : World, W = (((w1.setCell ⟨g, 2, none⟩ (.slice (some ⟨g1, 0, none⟩) (S.us.length + 1) cap1)).setCell ⟨g1, S.us.length * 2, none⟩ (.int .i64 1)).setCell ⟨g1, S.us.length * 2 + 1, none⟩ (.int .i64 v)) ∧
      Hid (Mods (g :: (Value.slice A S.us.length cap).ownBlock.toList) w W) ∧ Hid (PutMid w W g g1 S.us.length u 0 cap1 (S.us.length + 1) v [g, g1] S (S.put v) K) :=
    ⟨_, rfl, Lib.hid (HM.out.put HOK.out hlt HN.out v).2, Lib.hid (HM.out.put HOK.out hlt HN.out v).1⟩
  rw [← hW]
  clear hW d1 d2 e1 e2 f1 f2 c0 c1 c2
  have k1 := hP.out.k1
  have k2 := hP.out.k2
  have k3 := hP.out.k3
  have k4 : W.cell? ⟨g1, S.us.length * 2, none⟩ = some (.int .i64 1) := hP.out.k4
  have k5 := hP.out.k5
  have r0 : W.cell? ⟨w.heap.size, 0, none⟩ = some (.int .i64 0) := hP.out.row.cell 0
  have r1 : W.cell? ⟨w.heap.size, 1, none⟩ = some (.int .i64 0) := hP.out.row.cell 1
  have r2 := hP.out.row.free
  have hgr := hP.out.far g hP.out.gF
  go_region_with (go_at_call 82; refine (bit_any S.us.length _ (by omega)).mono ?_; rintro e w' ⟨rfl, rfl⟩)
  all_goals go_wp2
  all_goals exact ret_hand Tryd.results59 (((((hP.out.row.far (by exact hgr.symm) _).far (by exact hgr.symm) _).drewN 1).set 0 _).set 1 _) rfl rfl rfl ⟨g1, by rw [HG.out]; rfl, hP.out.fin _ _, by rw [HF.out]; exact ((((hM.out.setCell (by simp) _).setCell (by simp) _).drew).setCell (by simp) _).setCell (by simp) _, by rw [HF.out]; exact HM.out.new.imp (List.mem_cons_of_mem _) id⟩
end Go.Proofs.YthaapkafamdhcaaDoor
