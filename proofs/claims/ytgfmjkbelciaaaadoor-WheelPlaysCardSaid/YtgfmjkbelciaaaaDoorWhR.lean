/- The program's wheel while a timer is set: its parts. -/
import Derived.Test.YtgfmjkbelciaaaaDoorWhK
namespace Go.Proofs.YtgfmjkbelciaaaaDoor
open Go.RowKit
set_option maxRecDepth 10000
set_option linter.unusedVariables false
set_option linter.unusedSimpArgs false
set_option linter.unnecessarySimpa false

/-- The parts of a wheel, its slab ahead of its timers. -/
structure Raw (w : World) (g hg : Nat) (tv : Value) (hF : List Nat) (ps : List (Option Nat)) (Q : Nat → List Nat) (S : Slb) (K now : Nat) (M : List Tm) : Prop where
  base : Base w g hg tv now
  slab : SlabA w hg hF S K
  own : Own w 69 tv (ps.map optr)
  lnk : Lnk w g Q
  qin : ∀ p, p < 257 → ∀ b ∈ Q p, b ∈ M.map (·.b)
  node : ∀ m ∈ M, ∃ x y, Row w m.b 79 #[.int .i64 (m.s : Int), .int .i64 (m.g : Int), .int .i64 (m.a : Int), x, y]
section
variable {w w' : World} {g hg : Nat} {tv : Value} {hF : List Nat} {ps : List (Option Nat)} {Q : Nat → List Nat} {S : Slb} {K now : Nat} {M : List Tm}
theorem WheelM.raw (h : WheelM w g hg tv hF ps Q S K now M) : Raw w g hg tv hF ps Q S K now M := ⟨h.base, h.slab, h.own, h.lnk, h.qin, h.node⟩
theorem Raw.keep (h : Raw w g hg tv hF ps Q S K now M) (e : ∀ k ∈ blks g tv hF M, w'.heap[k]? = w.heap[k]?) : Raw w' g hg tv hF ps Q S K now M :=
  ⟨h.base.keep (e g (by simp [blks])), slabA_keep h.slab fun k hk => e k (by simp [blks, hk]), h.own.keep fun k hk => e k (by simp only [blks, List.mem_cons, List.mem_append]; exact .inr (.inr (.inl hk))),
   h.lnk.keep (e g (by simp [blks])) (fun p hp b hb => e b (by simp only [blks, List.mem_cons, List.mem_append]; exact .inr (.inr (.inr (h.qin p hp b hb))))), h.qin, fun m hm => by
    obtain ⟨x, y, r⟩ := h.node m hm
    exact ⟨x, y, r.keep (e m.b (by simp only [blks, List.mem_cons, List.mem_append]; exact .inr (.inr (.inr (List.mem_map_of_mem hm)))))⟩⟩
theorem Raw.lt (h : Raw w g hg tv hF ps Q S K now M) : ∀ k ∈ blks g tv hF M, k < w.heap.size := fun k hk => by
  simp only [blks, List.mem_cons, List.mem_append, List.mem_map] at hk
  rcases hk with rfl | hk | hk | ⟨m, hm, rfl⟩
  · obtain ⟨cs, r⟩ := h.base.row; exact r.lt
  · exact slabA_lt h.slab k hk
  · exact h.own.lt k hk
  · obtain ⟨x, y, r⟩ := h.node m hm; exact r.lt
theorem Raw.mods {G : List Nat} (h : Raw w g hg tv hF ps Q S K now M) (hm : Mods G w w') (hd : ∀ k ∈ blks g tv hF M, k ∉ G) : Raw w' g hg tv hF ps Q S K now M :=
  h.keep fun k hk => hm.block k (h.lt k hk) (hd k hk)
theorem Raw.apart (h : Raw w g hg tv hF ps Q S K now M) : g ∉ hF ∧ g ∉ tv.ownBlock.toList ∧ g ∉ M.map (·.b) ∧ (∀ k ∈ hF, k ∉ tv.ownBlock.toList ∧ k ∉ M.map (·.b)) ∧ (∀ k ∈ tv.ownBlock.toList, k ∉ M.map (·.b)) := by
  obtain ⟨cs, r⟩ := h.base.row
  have k1 := slabA_kinds h.slab
  have nd : ∀ k ∈ M.map (·.b), ∃ cs, Row w k 79 cs := fun k hk => by
    obtain ⟨m, hm, rfl⟩ := List.mem_map.1 hk
    obtain ⟨x, y, r⟩ := h.node m hm
    exact ⟨_, r⟩
  refine ⟨fun hk => ?_, fun hk => h.own.ne_row r (by decide) g hk rfl, fun hk => ?_, fun k hk => ⟨fun hk2 => ?_, fun hk2 => ?_⟩, fun k hk hk2 => ?_⟩
  · obtain ⟨t, c, r2, ht⟩ := k1 g hk
    exact Row.type_ne r r2 (by rcases ht with rfl | rfl <;> decide) rfl
  · obtain ⟨c, r2⟩ := nd g hk
    exact Row.type_ne r r2 (by decide) rfl
  · obtain ⟨t, c, r2, ht⟩ := k1 k hk
    exact h.own.ne_row r2 (by rcases ht with rfl | rfl <;> decide) k hk2 rfl
  · obtain ⟨t, c, r2, ht⟩ := k1 k hk
    obtain ⟨c3, r3⟩ := nd k hk2
    exact Row.type_ne r2 r3 (by rcases ht with rfl | rfl <;> decide) rfl
  · obtain ⟨c3, r3⟩ := nd k hk2
    exact h.own.ne_row r3 (by decide) k hk rfl
/-- Another slab. -/
theorem Raw.slabbed {hF' : List Nat} {S' : Slb} {K' : Nat} (h : Raw w g hg tv hF ps Q S K now M) (hs : SlabA w' hg hF' S' K') (hm : Mods hF w w') : Raw w' g hg tv hF' ps Q S' K' now M := by
  obtain ⟨a1, a2, a3, a4, a5⟩ := h.apart
  have e : ∀ k ∈ blks g tv hF M, k ∉ hF → w'.heap[k]? = w.heap[k]? := fun k hk hn => hm.block k (h.lt k hk) hn
  have sg := e g (by simp [blks]) a1
  have sb : ∀ b ∈ M.map (·.b), w'.heap[b]? = w.heap[b]? := fun b hb => e b (by simp only [blks, List.mem_cons, List.mem_append]; exact .inr (.inr (.inr hb))) (fun hk => (a4 b hk).2 hb)
  exact ⟨h.base.keep sg, hs, h.own.keep fun k hk => e k (by simp only [blks, List.mem_cons, List.mem_append]; exact .inr (.inr (.inl hk))) (fun hk2 => (a4 k hk2).1 hk), h.lnk.keep sg (fun p hp b hb => sb b (h.qin p hp b hb)), h.qin, fun m hm => by
    obtain ⟨x, y, r⟩ := h.node m hm
    exact ⟨x, y, r.keep (sb m.b (List.mem_map_of_mem hm))⟩⟩
/-- Another row of timers, that is stored. -/
theorem Raw.rowed {tv' : Value} {ps' : List (Option Nat)} (h : Raw w g hg tv hF ps Q S K now M) (ho : Own w' 69 tv' (ps'.map optr)) (hm : Mods tv.ownBlock.toList w w') (hg' : g ∉ tv'.ownBlock.toList) :
    Raw (w'.setCell ⟨g, 2, none⟩ tv') g hg tv' hF ps' Q S K now M := by
  obtain ⟨a1, a2, a3, a4, a5⟩ := h.apart
  have e : ∀ k ∈ blks g tv hF M, k ∉ tv.ownBlock.toList → w'.heap[k]? = w.heap[k]? := fun k hk hn => hm.block k (h.lt k hk) hn
  have sg := e g (by simp [blks]) a2
  have far : ∀ k, k ≠ g → (w'.setCell ⟨g, 2, none⟩ tv').heap[k]? = w'.heap[k]? := fun k hk => heap_setCell_other _ _ _ _ (by exact hk)
  have sb : ∀ b ∈ M.map (·.b), (w'.setCell ⟨g, 2, none⟩ tv').heap[b]? = w.heap[b]? := fun b hb => (far b (fun e => a3 (e ▸ hb))).trans (e b (by simp only [blks, List.mem_cons, List.mem_append]; exact .inr (.inr (.inr hb))) (fun hk => a5 b hk hb))
  have cg : ∀ j, j ≠ 2 → (w'.setCell ⟨g, 2, none⟩ tv').cell? ⟨g, j, none⟩ = w.cell? ⟨g, j, none⟩ := fun j hj => (cell_far (by simp [hj])).trans (World.cell?_of_block (w := w) sg)
  refine ⟨?_, slabA_keep h.slab fun k hk => (far k (fun e => a1 (e ▸ hk))).trans (e k (by simp [blks, hk]) (a4 k hk).1), ho.keep fun k hk => far k (fun e => hg' (e ▸ hk)), ⟨fun p hp => ?_, fun p hp => ?_, fun p hp => ?_, h.lnk.nd, h.lnk.dis, h.lnk.out⟩, h.qin, fun m hm => ?_⟩
  · obtain ⟨cs, r, e0, e1, e2, e3⟩ := h.base
    refine ⟨_, (r.keep sg).set 2 _, by simpa using e0, ?_, ?_, ?_⟩
    · rw [Array.getElem?_setIfInBounds_ne (by omega)]; exact e1
    · rw [Array.getElem?_setIfInBounds_ne (by omega)]; exact e2
    · rw [Array.getElem?_setIfInBounds_self, if_pos (by omega)]
  · rw [cg _ (by omega)]; exact h.lnk.first p hp
  · rw [cg _ (by omega)]; exact h.lnk.last p hp
  · exact (h.lnk.seg p hp).keep fun b hb i _ => World.cell?_of_block (w := w) (sb b (h.qin p hp b hb))
  · obtain ⟨x, y, r⟩ := h.node m hm
    exact ⟨x, y, r.keep (sb m.b (List.mem_map_of_mem hm))⟩
/-- A pointer of the row is turned. -/
theorem Raw.pointed {tb tof n cap i : Nat} {q : Option Nat} (h : Raw w g hg (.slice (some ⟨tb, tof, none⟩) n cap) hF ps Q S K now M) (hi : i < ps.length) :
    Raw (w.setCell ⟨tb, tof + i, none⟩ (optr q)) g hg (.slice (some ⟨tb, tof, none⟩) n cap) hF (ps.set i q) Q S K now M := by
  obtain ⟨a1, a2, a3, a4, a5⟩ := h.apart
  have ht : tb ∈ (Value.slice (some ⟨tb, tof, none⟩) n cap).ownBlock.toList := by simp [Value.ownBlock]
  have far : ∀ k, k ≠ tb → (w.setCell ⟨tb, tof + i, none⟩ (optr q)).heap[k]? = w.heap[k]? := fun k hk => heap_setCell_other _ _ _ _ (by exact hk)
  have sg := far g (fun e => a2 (e ▸ ht))
  have sb : ∀ b ∈ M.map (·.b), (w.setCell ⟨tb, tof + i, none⟩ (optr q)).heap[b]? = w.heap[b]? := fun b hb => far b (fun e => a5 tb ht (e ▸ hb))
  refine ⟨h.base.keep sg, slabA_keep h.slab fun k hk => far k (fun e => (a4 k hk).1 (e ▸ ht)), ?_, h.lnk.keep sg (fun p hp b hb => sb b (h.qin p hp b hb)), h.qin, fun m hm => ?_⟩
  · have := h.own.set (optr q) (i := i) (by rw [List.length_map]; exact hi)
    rwa [← List.map_set] at this
  · obtain ⟨x, y, r⟩ := h.node m hm
    exact ⟨x, y, r.keep (sb m.b (List.mem_map_of_mem hm))⟩
end
end Go.Proofs.YtgfmjkbelciaaaaDoor

/- A timer that is set: slots and timers agree again. -/
namespace Go.Proofs.YtgfmjkbelciaaaaDoor
open Go.RowKit
set_option maxRecDepth 10000
set_option linter.unusedVariables false
set_option linter.unusedSimpArgs false
set_option linter.unnecessarySimpa false

theorem put_len {S : Slb} {K : Nat} (hS : S.Ok K) (v : Int) : (S.put v).us.length = if S.least = S.us.length then S.us.length + 1 else S.us.length := by
  unfold Slb.put
  split
  · simp
  · simp
theorem put_us {S : Slb} {K : Nat} (hS : S.Ok K) (v : Int) (i : Nat) : (S.put v).us.getD i false = if i = S.least then true else S.us.getD i false := by
  have hl := S.least_le
  unfold Slb.put
  split
  · rename_i h
    simp only []
    rw [getD_snoc_bool, h]
  · rename_i h
    simp only []
    rw [getD_set_bool]
    by_cases e : i = S.least
    · rw [if_pos ⟨e.symm, by omega⟩, if_pos e]
    · rw [if_neg (fun h2 => e h2.1.symm), if_neg e]
theorem put_gs {S : Slb} {K : Nat} (hS : S.Ok K) (v : Int) (i : Nat) : (S.put v).gs.getD i 0 = if i = S.least then S.gen else S.gs.getD i 0 := by
  have hl := S.least_le
  have hg := hS.gl
  unfold Slb.put Slb.gen
  split
  · rename_i h
    simp only []
    rw [getD_snoc_nat, hg]
    by_cases e : i = S.us.length
    · rw [if_pos e, if_pos (by omega), List.getD_eq_getElem?_getD, List.getElem?_eq_none (by omega)]; rfl
    · rw [if_neg e, if_neg (by omega)]
  · rename_i h
    simp only []
    rw [getD_set_nat]
    by_cases e : i = S.least
    · rw [if_pos ⟨e.symm, by omega⟩, if_pos e]
    · rw [if_neg (fun h2 => e h2.1.symm), if_neg e]
theorem WOk.free {S : Slb} {now : Nat} {M : List Tm} (h : WOk S now M) : ∀ m ∈ M, m.s ≠ S.least := fun m hm e => by
  have := (h.use m hm).2.1
  rw [e, S.least_getD] at this
  cases this
theorem WOk.put {S : Slb} {K now : Nat} {M : List Tm} (h : WOk S now M) (hS : S.Ok K) (v : Int) (b a : Nat) (hb : b ∉ M.map (·.b)) (ha : a ≤ 1099511627776) : WOk (S.put v) now (M ++ [⟨b, S.least, S.gen, a⟩]) := by
  refine ⟨?_, ?_, fun m hm => ?_, fun i hi => ?_, ?_, h.time, fun m hm => ?_, by rw [S.put_lim]; exact h.lim⟩
  · rw [List.map_append]
    refine List.nodup_append.2 ⟨h.bnd, by simp, fun x hx y hy e => ?_⟩
    simp only [List.map_cons, List.map_nil, List.mem_cons, List.mem_nil_iff, or_false] at hy
    exact hb (hy ▸ e ▸ hx)
  · rw [List.map_append]
    refine List.nodup_append.2 ⟨h.slots, by simp, fun x hx y hy e => ?_⟩
    simp only [List.map_cons, List.map_nil, List.mem_cons, List.mem_nil_iff, or_false] at hy
    obtain ⟨m, hm, rfl⟩ := List.mem_map.1 hx
    exact h.free m hm (e.trans hy)
  · rw [put_us hS, put_gs hS, put_len hS]
    rcases List.mem_append.1 hm with hm | hm
    · obtain ⟨h1, h2, h3⟩ := h.use m hm
      rw [if_neg (h.free m hm), if_neg (h.free m hm)]
      exact ⟨by split <;> omega, h2, h3⟩
    · simp only [List.mem_cons, List.mem_nil_iff, or_false] at hm
      subst hm
      have := S.least_le
      simp only [if_true]
      exact ⟨by split <;> omega, trivial, trivial⟩
  · rw [put_us hS] at hi
    by_cases e : i = S.least
    · exact ⟨_, List.mem_append_right _ (List.mem_singleton.2 rfl), e.symm⟩
    · rw [if_neg e] at hi
      obtain ⟨m, hm, e2⟩ := h.all i hi
      exact ⟨m, List.mem_append_left _ hm, e2⟩
  · rw [List.length_append, S.put_cnt, h.cnt]; rfl
  · rcases List.mem_append.1 hm with hm | hm
    · exact h.times m hm
    · simp only [List.mem_cons, List.mem_nil_iff, or_false] at hm
      subst hm; exact ha
theorem bySlot_snoc {M : List Tm} {m : Tm} (h : ∀ x ∈ M, x.s ≠ m.s) (i : Nat) : bySlot (M ++ [m]) i = if i = m.s then some m.b else bySlot M i := by
  unfold bySlot
  rw [List.find?_append]
  by_cases e : i = m.s
  · subst e
    rw [if_pos rfl, List.find?_eq_none.2 (fun x hx => by simpa using h x hx)]
    simp
  · rw [if_neg e]
    cases hf : M.find? (fun x => x.s == i) with
    | none => simp [Ne.symm e]
    | some x => simp
/-- The wheel behind Put and the new timer, which lies in no list yet. -/
theorem WheelM.put {w W : World} {g hg : Nat} {tv tv' : Value} {hF hF' : List Nat} {ps : List (Option Nat)} {Q : Nat → List Nat} {S : Slb} {K now b a : Nat} {M : List Tm} {v : Int} {x y : Value}
    (h : WheelM w g hg tv hF ps Q S K now M) (hS : S.Ok K) (hr : Raw W g hg tv' hF' (if S.least = S.us.length then ps ++ [some b] else ps.set S.least (some b)) Q (S.put v) (K + 1) now M) (hb : b ∉ M.map (·.b)) (ha : a ≤ 1099511627776)
    (hrow : Row W b 79 #[.int .i64 (S.least : Int), .int .i64 (S.gen : Int), .int .i64 (a : Int), x, y]) :
    WheelM W g hg tv' hF' (if S.least = S.us.length then ps ++ [some b] else ps.set S.least (some b)) Q (S.put v) (K + 1) now (M ++ [⟨b, S.least, S.gen, a⟩]) := by
  have hpl := h.plen
  have hl := S.least_le
  refine ⟨hr.base, hr.slab, hr.own, ?_, fun i hi => ?_, hr.lnk, fun p hp c hc => ?_, fun m hm => ?_, h.ok.put hS v b a hb ha⟩
  · rw [put_len hS]
    split
    · simp [hpl]
    · simp [hpl]
  · rw [bySlot_snoc (m := ⟨b, S.least, S.gen, a⟩) h.ok.free]
    split at hi
    · rename_i e
      rw [if_pos e]
      rw [List.length_append] at hi
      rcases Nat.lt_or_ge i ps.length with h1 | h1
      · rw [List.getElem?_append_left h1, if_neg (by simp only []; omega)]
        exact h.pat i h1
      · have : i = ps.length := by simp at hi; omega
        subst this
        rw [List.getElem?_append_right (by omega), if_pos (by simp only []; omega)]
        simp
    · rename_i e
      rw [if_neg e]
      rw [List.length_set] at hi
      rw [List.getElem?_set]
      by_cases e2 : S.least = i
      · rw [if_pos e2, if_pos (by omega), if_pos e2.symm]
      · rw [if_neg e2, if_neg (fun h => e2 h.symm)]
        exact h.pat i hi
  · have := hr.qin p hp c hc
    rw [List.map_append]
    exact List.mem_append_left _ this
  · rcases List.mem_append.1 hm with hm | hm
    · exact hr.node m hm
    · simp only [List.mem_cons, List.mem_nil_iff, or_false] at hm
      subst hm
      exact ⟨x, y, hrow⟩
theorem ql_snoc (now : Nat) (M : List Tm) (m : Tm) : ql now (M ++ [m]) = upd (ql now M) (plc now m.a) (ql now M (plc now m.a) ++ [m.b]) := by
  funext p
  unfold upd ql
  rw [List.filter_append, List.map_append]
  by_cases e : p = plc now m.a
  · subst e
    rw [if_pos rfl]
    simp
  · rw [if_neg e]
    simp [Ne.symm e]
end Go.Proofs.YtgfmjkbelciaaaaDoor

/- What Add of the program's wheel answers. -/
namespace Go.Proofs.YtgfmjkbelciaaaaDoor
open Go.RowKit
set_option maxRecDepth 10000
set_option linter.unusedVariables false
set_option linter.unusedSimpArgs false
set_option linter.unnecessarySimpa false

theorem ret_hand67 {fn : Func} {a : Act} {W : World} {R : Ending → World → Prop} {r : Nat} {x y : Int} {v : Value} (hres : fn.results = #[.cell 6 32, .tmp 7]) (hr : Row W r 32 #[.int .i64 x, .int .i64 y])
    (h4 : a.tmps.getD 6 undef = .pointer (some ⟨r, 0, none⟩)) (h5 : a.tmps.getD 7 undef = v) (hd : a.defers = []) (hR : R (.returned (.tuple #[.agg #[.int .i64 x, .int .i64 y], v])) W) : bodyPost Tryd.prog fn R .ret a W := by
  have k0 := hr.cell 0
  have k1 := hr.cell 1
  refine bodyPost_ret (v := .tuple #[.agg #[.int .i64 x, .int .i64 y], v]) ?_ hd hR
  have g4 : a.tmps[6]?.getD undef = .pointer (some ⟨r, 0, none⟩) := by simpa using h4
  have g5 : a.tmps[7]?.getD undef = v := by simpa using h5
  have k0 : W.cell? ⟨r, 0, none⟩ = some (.int .i64 x) := k0
  have k1 : W.cell? ⟨r, 1, none⟩ = some (.int .i64 y) := k1
  simp [results, hres, go_sem, g4, g5, k0, k1]
theorem no_time {n : Int} (h : n < 0 ∨ 1099511627776 < n) : (decide (0 ≤ n) && decide (n ≤ 1099511627776)) = false := by
  rw [Bool.and_eq_false_iff]
  rcases h with h | h
  · exact .inl (decide_eq_false (by omega))
  · exact .inr (decide_eq_false (by omega))
theorem is_time {a : Nat} (h : a ≤ 1099511627776) : (decide (0 ≤ (a : Int)) && decide ((a : Int) ≤ 1099511627776)) = true := by
  rw [Bool.and_eq_true]
  exact ⟨decide_eq_true (by omega), decide_eq_true (by omega)⟩
theorem add_nil (n v : Int) (w : World) : Calls Tryd.prog 14 #[.pointer none, .int .i64 n, .int .i64 v] w fun e w' => e = .returned (.tuple #[.agg #[.int .i64 0, .int .i64 0], .int .i64 1]) ∧ Mods [] w w' := by
  have he := eql_whl
  go_enter Tryd.func14, Tryd.ntmps14
  go_wp2
  exact ret_hand67 Tryd.results14 (Row.new w _ _) rfl rfl rfl ⟨rfl, (Mods.refl [] w).alloc _⟩
theorem add_no (g : Nat) (n v : Int) (w : World) (h : n < 0 ∨ 1099511627776 < n) : Calls Tryd.prog 14 #[ptr g, .int .i64 n, .int .i64 v] w fun e w' => e = .returned (.tuple #[.agg #[.int .i64 0, .int .i64 0], .int .i64 1]) ∧ Mods [] w w' := by
  have he := eql_whl
  have HT := Lib.hid (isTime_any n (w.alloc (.cells #[.int .i64 0, .int .i64 0] 32)))
  rw [no_time h] at HT
  clear h
  go_enter Tryd.func14, Tryd.ntmps14
  go_wp2_with fail
  refine HT.out.mono ?_
  rintro e w1 ⟨rfl, rfl⟩
  go_wp2
  exact ret_hand67 Tryd.results14 (Row.new w _ _) rfl rfl rfl ⟨rfl, (Mods.refl [] w).alloc _⟩
theorem add_full (w : World) (g a : Nat) (v : Int) (F : List Nat) (S : Slb) (K now : Nat) (M : List Tm) (h : WheelA w g F S K now M) (ha : a ≤ 1099511627776) (hc : S.lim ≤ S.cnt) :
    Calls Tryd.prog 14 #[ptr g, .int .i64 (a : Int), .int .i64 v] w fun e w' => e = .returned (.tuple #[.agg #[.int .i64 0, .int .i64 0], .int .i64 3]) ∧ Mods [] w w' := by
  obtain ⟨hg, tv, hF, ps, rfl, h⟩ := h
  have he := eql_whl
  obtain ⟨k0, k1, k2, f1⟩ := h.base.cells
  have k1a := cell_alloc k1 (.cells #[.int .i64 0, .int .i64 0] 32)
  have HT := Lib.hid (isTime_any (a : Int) (w.alloc (.cells #[.int .i64 0, .int .i64 0] 32)))
  rw [is_time ha] at HT
  have HP := Lib.hid (put_full (w.alloc (.cells #[.int .i64 0, .int .i64 0] 32)) hg v hF S K (slabA_keep h.slab fun k hk => Below.heap_alloc w _ k (slabA_lt h.slab k hk)) hc)
  clear h hc
  go_enter Tryd.func14, Tryd.ntmps14
  go_wp2_with fail
  refine HT.out.mono ?_
  rintro e w1 ⟨rfl, rfl⟩
  go_wp2_with fail
  refine HP.out.mono ?_
  rintro e w2 ⟨rfl, hm⟩
  have r1 := Lib.hid ((Row.new w 32 #[.int .i64 0, .int .i64 0]).mods hm (by simp))
  have c0 := cell_new hm (by simp) 0
  have c1 := cell_new hm (by simp) 1
  have c0a := fun o => cell_alloc c0 o
  have c1a := fun o => cell_alloc c1 o
  have fr := fun o i => (r1.out.alloc o).free i
  have H1 := Lib.hid (((Mods.refl [] w).alloc (.cells #[.int .i64 0, .int .i64 0] 32)).trans hm (by simp))
  clear hm
  go_wp2
  exact ret_hand67 Tryd.results14 (((r1.out.alloc _).set 0 _).set 1 _) rfl rfl rfl ⟨rfl, ((H1.out.alloc _).setCell (.inr (by exact Nat.le_refl _)) _).setCell (.inr (by exact Nat.le_refl _)) _⟩
/-- What Add hands back, and the wheel behind it. -/
def Added (w w' : World) (g : Nat) (F : List Nat) (S : Slb) (K now a : Nat) (v : Int) (M : List Tm) : Prop :=
  ∃ F' b, WheelA w' g F' (S.put v) (K + 1) now (M ++ [⟨b, S.least, S.gen, a⟩]) ∧ Mods F w w' ∧ ∀ k ∈ F', k ∈ F ∨ w.heap.size ≤ k
theorem grow_row {w3 : World} {g hg cap2 n2 : Nat} {A2 : Option Addr} {tv : Value} {hF : List Nat} {ps : List (Option Nat)} {Q : Nat → List Nat} {S : Slb} {K now : Nat} {M : List Tm} {w : World} (h : Raw w g hg tv hF ps Q S K now M) (ho : Own w3 69 (.slice A2 n2 cap2) (ps.map optr ++ [.pointer none])) (hm : Mods tv.ownBlock.toList w w3) :
    w3.cell? ⟨g, 2, none⟩ = some tv ∧ (∀ i, w3.frozen? ⟨g, i, none⟩ = false) ∧ Raw (w3.setCell ⟨g, 2, none⟩ (.slice A2 n2 cap2)) g hg (.slice A2 n2 cap2) hF (ps ++ [none]) Q S K now M := by
  have hgn := h.apart.2.1
  obtain ⟨_, _, c2, f⟩ := h.base.cells
  obtain ⟨cs, r⟩ := h.base.row
  have r3 := r.mods hm hgn
  refine ⟨cell_mods c2 hm hgn, r3.free, h.rowed (by rw [List.map_append]; exact ho) hm (fun hk => ho.ne_row r3 (by decide) g hk rfl)⟩
/-- What is known where the new timer is laid into the row. -/
structure Slot (w W : World) (r h8 g hg B off N cp ls ge : Nat) (F hF' : List Nat) (ps ps0 : List (Option Nat)) (S : Slb) (K now : Nat) (v : Int) (M : List Tm) : Prop where
  raw : Raw W g hg (.slice (some ⟨B, off, none⟩) N cp) hF' ps0 (ql now M) (S.put v) (K + 1) now M
  lt : ls < N
  len : N = ps0.length
  cap : N ≤ cp
  pss : ∀ b, ps0.set ls (some b) = if S.least = S.us.length then ps ++ [some b] else ps.set S.least (some b)
  rh : Row W h8 32 #[.int .i64 (ls : Int), .int .i64 (ge : Int)]
  rr : Row W r 32 #[.int .i64 0, .int .i64 0]
  mods : Mods F w W
  news : ∀ k ∈ blks g (.slice (some ⟨B, off, none⟩) N cp) hF' M, k ∈ F ∨ w.heap.size ≤ k
  hr : r = w.heap.size
  h8r : r < h8
theorem Slot.cells {w W : World} {r h8 g hg B off N cp ls ge : Nat} {F hF' : List Nat} {ps ps0 : List (Option Nat)} {S : Slb} {K now : Nat} {v : Int} {M : List Tm} (h : Slot w W r h8 g hg B off N cp ls ge F hF' ps ps0 S K now v M) :
    W.cell? ⟨g, 2, none⟩ = some (.slice (some ⟨B, off, none⟩) N cp) ∧ W.cell? ⟨h8, 0, none⟩ = some (.int .i64 (ls : Int)) ∧ W.cell? ⟨h8, 1, none⟩ = some (.int .i64 (ge : Int)) ∧ (∃ u, W.cell? ⟨B, off + ls, none⟩ = some u) ∧ (∀ i, W.frozen? ⟨B, i, none⟩ = false) := by
  obtain ⟨_, _, c2, _⟩ := h.raw.base.cells
  refine ⟨c2, by rw [h.rh.cell]; rfl, by rw [h.rh.cell]; rfl, ?_, h.raw.own.free B off rfl⟩
  obtain ⟨b, o, e, hc⟩ := h.raw.own.src ls ((ps0.map optr)[ls]'(by rw [List.length_map, ← h.len]; exact h.lt)) (List.getElem?_eq_getElem _)
  injection e with e
  injection e with e1 e2
  subst e1 e2
  exact ⟨_, hc⟩
theorem slot_grow {w W w3 : World} {r h8 g hg n n2 cap cp2 ls ge : Nat} {A A2 : Option Addr} {F hF' : List Nat} {ps : List (Option Nat)} {S : Slb} {K now : Nat} {v : Int} {M : List Tm}
    (hraw : Raw W g hg (.slice A n cap) hF' ps (ql now M) (S.put v) (K + 1) now M) (hn : S.least = S.us.length) (hpl : ps.length = S.us.length) (hls : S.least = ls)
    (ho : Own w3 69 (.slice A2 n2 cp2) (ps.map optr ++ [.pointer none])) (hm : Mods (Value.slice A n cap).ownBlock.toList W w3) (hb : (Value.slice A2 n2 cp2).ownBlock = (Value.slice A n cap).ownBlock ∨ ∃ k, (Value.slice A2 n2 cp2).ownBlock = some k ∧ W.heap.size ≤ k)
    (rh : Row W h8 32 #[.int .i64 (ls : Int), .int .i64 (ge : Int)]) (rr : Row W r 32 #[.int .i64 0, .int .i64 0]) (mods : Mods F w W) (hF : ∀ k ∈ blks g (.slice A n cap) hF' M, k ∈ F ∨ w.heap.size ≤ k) (hr : r = w.heap.size) (h8r : r < h8) :
    ∃ B off, A2 = some ⟨B, off, none⟩ ∧ Slot w (w3.setCell ⟨g, 2, none⟩ (.slice A2 n2 cp2)) r h8 g hg B off n2 cp2 ls ge F hF' ps (ps ++ [none]) S K now v M := by
  obtain ⟨c2, f, h4⟩ := grow_row hraw ho hm
  have hlen : n2 = ps.length + 1 := by
    obtain ⟨_, _, hs, _⟩ := ho.slice
    injection hs with _ h2 _
    rw [h2]; simp
  obtain ⟨b, o, rfl, _⟩ := ho.src ls (.pointer none) (by rw [List.getElem?_append_right (by rw [List.length_map]; omega), List.length_map, show ls - ps.length = 0 by omega]; rfl)
  obtain ⟨_, cp, hs, hcp, _⟩ := ho.slice
  injection hs with _ _ h3
  subst h3
  obtain ⟨cs, rg⟩ := hraw.base.row
  have n8 : h8 ≠ g := Row.type_ne rh rg (by decide)
  have nr : r ≠ g := Row.type_ne rr rg (by decide)
  have m8 := hraw.own.ne_row rh (by decide)
  have mr := hraw.own.ne_row rr (by decide)
  have hgF : g ∈ F ∨ w.heap.size ≤ g := hF g (by simp [blks])
  refine ⟨b, o, rfl, ⟨h4, by omega, by simp [hlen], by simp at hcp; omega, fun b' => ?_, (rh.mods hm (fun hk => m8 _ hk rfl)).far n8 _, (rr.mods hm (fun hk => mr _ hk rfl)).far nr _, ?_, fun k hk => ?_, hr, h8r⟩⟩
  · rw [if_pos hn]
    exact set_snoc ps none (some b') ls (by omega)
  · refine (mods.trans hm (fun k hk => hF k ?_)).setCell (by exact hgF) _
    simp only [blks, List.mem_cons, List.mem_append]; exact .inr (.inr (.inl hk))
  · simp only [blks, List.mem_cons, List.mem_append] at hk
    rcases hk with h1 | h1 | h1 | h1
    · exact hF k (by simp [blks, h1])
    · exact hF k (by simp [blks, h1])
    · rcases hb with e | ⟨j, e, hj⟩
      · rw [e] at h1
        exact hF k (by simp only [blks, List.mem_cons, List.mem_append]; exact .inr (.inr (.inl h1)))
      · right
        have : k = j := by rw [e] at h1; simpa [eq_comm] using h1
        have := mods.size
        omega
    · exact hF k (by simp only [blks, List.mem_cons, List.mem_append]; exact .inr (.inr (.inr h1)))
/-- The new timer laid into its place of the row. -/
theorem Slot.made {w W W5 : World} {r h8 g hg B off N cp ls ge a : Nat} {F hF' : List Nat} {ps ps0 : List (Option Nat)} {S : Slb} {K now : Nat} {v : Int} {M : List Tm} {tv : Value} {hF : List Nat} (h : Slot w W r h8 g hg B off N cp ls ge F hF' ps ps0 S K now v M)
    (h0 : WheelM w g hg tv hF ps (ql now M) S K now M) (hF0 : F = blks g tv hF M) (hok : S.Ok K) (ha : a ≤ 1099511627776) (hl : S.least = ls) (hg' : S.gen = ge) (hW : W5.heap = ((W.alloc (.cells #[.int .i64 (ls : Int), .int .i64 (ge : Int), .int .i64 (a : Int), .pointer none, .pointer none] 79)).setCell ⟨B, off + ls, none⟩ (.pointer (some ⟨W.heap.size, 0, none⟩))).heap) (ho : W5.os = W.os) (ht : W5.tape = W.tape) (hout : W5.output = W.output) :
    WheelM W5 g hg (.slice (some ⟨B, off, none⟩) N cp) hF' (if S.least = S.us.length then ps ++ [some W.heap.size] else ps.set S.least (some W.heap.size)) (ql now M) (S.put v) (K + 1) now (M ++ [⟨W.heap.size, S.least, S.gen, a⟩]) ∧
      W5.cell? ⟨B, off + ls, none⟩ = some (.pointer (some ⟨W.heap.size, 0, none⟩)) ∧ W5.cell? ⟨g, 2, none⟩ = some (.slice (some ⟨B, off, none⟩) N cp) ∧ Row W5 h8 32 #[.int .i64 (ls : Int), .int .i64 (ge : Int)] ∧ Row W5 r 32 #[.int .i64 0, .int .i64 0] ∧ Mods F w W5 ∧ W.heap.size < W5.heap.size := by
  have hc := h.cells
  have r1 := h.raw.keep (w' := W.alloc (.cells #[.int .i64 (ls : Int), .int .i64 (ge : Int), .int .i64 (a : Int), .pointer none, .pointer none] 79)) fun k hk => Below.heap_alloc W _ k (h.raw.lt k hk)
  have r2 := r1.pointed (i := ls) (q := some W.heap.size) (by rw [← h.len]; exact h.lt)
  rw [h.pss] at r2
  have r3 : Raw W5 g hg (.slice (some ⟨B, off, none⟩) N cp) hF' (if S.least = S.us.length then ps ++ [some W.heap.size] else ps.set S.least (some W.heap.size)) (ql now M) (S.put v) (K + 1) now M := r2.keep fun k hk => by rw [hW]; rfl
  have hBl : B < W.heap.size := h.raw.lt B (by simp only [blks, List.mem_cons, List.mem_append]; exact .inr (.inr (.inl (by simp [Value.ownBlock]))))
  have hnew : Row W5 W.heap.size 79 #[.int .i64 (S.least : Int), .int .i64 (S.gen : Int), .int .i64 (a : Int), .pointer none, .pointer none] := by
    rw [hl, hg']
    have := (Row.new W 79 #[.int .i64 (ls : Int), .int .i64 (ge : Int), .int .i64 (a : Int), .pointer none, .pointer none]).far (p := ⟨B, off + ls, none⟩) (by exact fun e => by simp at e; omega) (.pointer (some ⟨W.heap.size, 0, none⟩))
    exact this.keep (by rw [hW])
  have hnb : W.heap.size ∉ M.map (·.b) := fun hk => by
    have := h.raw.lt W.heap.size (by simp only [blks, List.mem_cons, List.mem_append]; exact .inr (.inr (.inr hk)))
    omega
  have m8 := h.raw.own.ne_row h.rh (by decide) B (by simp [Value.ownBlock])
  have mr := h.raw.own.ne_row h.rr (by decide) B (by simp [Value.ownBlock])
  refine ⟨h0.put hok r3 hnb ha hnew, ?_, r3.base.cells.2.2.1, ((h.rh.alloc _).far (p := ⟨B, off + ls, none⟩) (by exact fun e => m8 e.symm) _).keep (by rw [hW]), ((h.rr.alloc _).far (p := ⟨B, off + ls, none⟩) (by exact fun e => mr e.symm) _).keep (by rw [hW]), ?_, by rw [hW]; simp [World.setCell]⟩
  · obtain ⟨u, hu⟩ := hc.2.2.2.1
    have := cell_at (u := .pointer (some ⟨W.heap.size, 0, none⟩)) (cell_alloc hu (.cells #[.int .i64 (ls : Int), .int .i64 (ge : Int), .int .i64 (a : Int), .pointer none, .pointer none] 79))
    exact (World.cell?_of_block (by rw [hW])).trans this
  · have := (h.mods.alloc (.cells #[.int .i64 (ls : Int), .int .i64 (ge : Int), .int .i64 (a : Int), .pointer none, .pointer none] 79)).setCell (p := ⟨B, off + ls, none⟩) (by exact h.news B (by simp only [blks, List.mem_cons, List.mem_append]; exact .inr (.inr (.inl (by simp [Value.ownBlock]))))) (.pointer (some ⟨W.heap.size, 0, none⟩))
    exact this.same hW (by rw [ho]; rfl) (by rw [ht]; rfl) (by rw [hout]; rfl)
end Go.Proofs.YtgfmjkbelciaaaaDoor
