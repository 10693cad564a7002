/- The reference's slab in memory, and what New, Is, Get, Set answer. -/
import Derived.Test.YthaapkafamdhcaaDoorProg
import Derived.WalkKit
import Derived.ProofKit
import Derived.RegionTactic
import Derived.Deep.QuietTactic
import Derived.BigQuiet
import Derived.Outline
import Derived.LoopTactic
import Derived.WalkLawsBesides
import Derived.WalkSpells
import Derived.Deep.RegionHeld3
import Derived.Deep.RegionWith
import Derived.BigRegion
import Derived.Deep.AppendLies
import Derived.OwnWalk
import Derived.Test.YthaapkafamdhcaaDoorMem
import Derived.Test.YthaapkafamdhcaaDoorSlabMath
import Derived.Test.YthaapkafamdhcaaDoorSlabQ
import Derived.Deep.Cut
import Derived.Test.YthaapkafamdhcaaDoorSlabH
namespace Go.Proofs.YthaapkafamdhcaaDoor
open Go.RowKit
set_option maxRecDepth 10000
set_option linter.unusedVariables false
set_option linter.unusedSimpArgs false

def ints (l : List Nat) : List Value := l.map fun (n : Nat) => .int .i64 (n : Int)
def zs (l : List Int) : List Value := l.map fun n => .int .i64 n
def bs (l : List Bool) : List Value := l.map Value.bool
/-- The reference's slab: its three rows, whatever they hold. -/
def RefQ (w : World) (x : Nat) (uv gv vv : Value) (lim cnt : Nat) (us : List Bool) (gs : List Nat) (vs : List Int) : Prop :=
  Row w x 56 #[.int .i64 lim, uv, gv, vv, .int .i64 cnt] ∧ w.ownsRow 0 4 1 uv us.length (bs us) ∧ w.ownsRow 0 3 1 gv gs.length (ints gs) ∧ w.ownsRow 0 3 1 vv vs.length (zs vs) ∧
    (∀ k ∈ gv.ownBlock.toList, k ∉ vv.ownBlock.toList)
def SlabB (w : World) (x : Nat) (F : List Nat) (S : Slb) (K : Nat) : Prop :=
  ∃ uv gv vv, F = x :: (uv.ownBlock.toList ++ (gv.ownBlock.toList ++ vv.ownBlock.toList)) ∧ RefQ w x uv gv vv S.lim S.cnt S.us S.gs S.vs ∧ S.Ok K
theorem refQ_keep {w w' : World} {x : Nat} {uv gv vv : Value} {lim cnt : Nat} {us : List Bool} {gs : List Nat} {vs : List Int} (h : RefQ w x uv gv vv lim cnt us gs vs)
    (e : ∀ k ∈ x :: (uv.ownBlock.toList ++ (gv.ownBlock.toList ++ vv.ownBlock.toList)), w'.heap[k]? = w.heap[k]?) : RefQ w' x uv gv vv lim cnt us gs vs := by
  obtain ⟨h1, h2, h3, h4, h5⟩ := h
  refine ⟨h1.keep (e _ (by simp)), own_keep h2 fun k hk => e k ?_, own_keep h3 fun k hk => e k ?_, own_keep h4 fun k hk => e k ?_, h5⟩
  · exact List.mem_cons_of_mem _ (List.mem_append_left _ hk)
  · exact List.mem_cons_of_mem _ (List.mem_append_right _ (List.mem_append_left _ hk))
  · exact List.mem_cons_of_mem _ (List.mem_append_right _ (List.mem_append_right _ hk))
theorem slabB_lt {w : World} {x : Nat} {F : List Nat} {S : Slb} {K : Nat} (h : SlabB w x F S K) : ∀ k ∈ F, k < w.heap.size := by
  obtain ⟨uv, gv, vv, rfl, ⟨h1, h2, h3, h4, h5⟩, _⟩ := h
  intro k hk
  simp only [List.mem_cons, List.mem_append] at hk
  rcases hk with rfl | hk | hk | hk
  · exact h1.lt
  · exact own_lt h2 k hk
  · exact own_lt h3 k hk
  · exact own_lt h4 k hk
theorem slabB_keep {w w' : World} {x : Nat} {F : List Nat} {S : Slb} {K : Nat} (h : SlabB w x F S K) (e : ∀ k ∈ F, w'.heap[k]? = w.heap[k]?) : SlabB w' x F S K := by
  obtain ⟨uv, gv, vv, rfl, hq, hok⟩ := h
  exact ⟨uv, gv, vv, rfl, refQ_keep hq e, hok⟩
theorem slabB_mods {w w' : World} {x : Nat} {F G : List Nat} {S : Slb} {K : Nat} (h : SlabB w x F S K) (hm : Mods G w w') (hd : ∀ k ∈ F, k ∉ G) : SlabB w' x F S K :=
  slabB_keep h fun k hk => hm.block k (slabB_lt h k hk) (hd k hk)

theorem Slb.new_ok' {n : Nat} (h : 1 ≤ n) (h2 : n ≤ 4096) : (⟨n, [], [], []⟩ : Slb).Ok 0 := ⟨h, h2, by simp, rfl, rfl, by simp⟩
theorem rsnew_no (n : Int) (w : World) (h : n < 1 ∨ 4096 < n) : Calls Tryd.prog 28 #[.int .i64 n] w fun e w' => e = .returned (.tuple #[.pointer none, .int .i64 1]) ∧ w = w' := by
  rcases h with h | h
  · go_enter Tryd.func28, Tryd.ntmps28
    go_wp2
    go_ret2
    exact ⟨rfl, rfl⟩
  · have h' : ¬ n < 1 := by omega
    go_enter Tryd.func28, Tryd.ntmps28
    go_wp2
    go_ret2
    exact ⟨rfl, rfl⟩
theorem rsnew_any (n : Nat) (w : World) (h : 1 ≤ n) (h2 : n ≤ 4096) : Calls Tryd.prog 28 #[.int .i64 n] w fun e w' =>
    e = .returned (.tuple #[.pointer (some ⟨w.heap.size, 0, none⟩), .int .i64 0]) ∧ SlabB w' w.heap.size [w.heap.size] ⟨n, [], [], []⟩ 0 ∧ Mods [] w w' := by
  go_enter Tryd.func28, Tryd.ntmps28
  go_wp2
  go_ret2
  exact ⟨rfl, ⟨.slice none 0 0, .slice none 0 0, .slice none 0 0, by simp [Value.ownBlock], ⟨Row.new _ _ _, ⟨rfl, .inl ⟨rfl, rfl⟩⟩, ⟨rfl, .inl ⟨rfl, rfl⟩⟩, ⟨rfl, .inl ⟨rfl, rfl⟩⟩, by simp [Value.ownBlock]⟩, Slb.new_ok' h h2⟩, (Mods.refl _ _).alloc _⟩

/-- The cells of slot i, and the slices. -/
structure RefAt (w : World) (x i nu ng nv lim cnt : Nat) (U G V : Option Addr) (cu cg cv : Nat) : Prop where
  a0 : w.cell? ⟨x, 0, none⟩ = some (.int .i64 lim)
  a1 : w.cell? ⟨x, 1, none⟩ = some (.slice U nu cu)
  a2 : w.cell? ⟨x, 2, none⟩ = some (.slice G ng cg)
  a3 : w.cell? ⟨x, 3, none⟩ = some (.slice V nv cv)
  a4 : w.cell? ⟨x, 4, none⟩ = some (.int .i64 cnt)
  f : ∀ j, w.frozen? ⟨x, j, none⟩ = false
  mu : nu ≤ cu
  mg : ng ≤ cg
  mv : nv ≤ cv
  lu : cu ≤ maxLen
  lg : cg ≤ maxLen
  lv : cv ≤ maxLen
theorem refQ_at {w : World} {x : Nat} {uv gv vv : Value} {lim cnt : Nat} {us : List Bool} {gs : List Nat} {vs : List Int} (h : RefQ w x uv gv vv lim cnt us gs vs) (i : Nat) :
    ∃ U G V cu cg cv, uv = .slice U us.length cu ∧ gv = .slice G gs.length cg ∧ vv = .slice V vs.length cv ∧ RefAt w x i us.length gs.length vs.length lim cnt U G V cu cg cv := by
  obtain ⟨h1, h2, h3, h4, h5⟩ := h
  obtain ⟨U, cu, rfl, u1, u2⟩ := own_slice h2
  obtain ⟨G, cg, rfl, g1, g2⟩ := own_slice h3
  obtain ⟨V, cv, rfl, v1, v2⟩ := own_slice h4
  exact ⟨U, G, V, cu, cg, cv, rfl, rfl, rfl, ⟨h1.cell 0, h1.cell 1, h1.cell 2, h1.cell 3, h1.cell 4, h1.free, u1, g1, v1, u2, g2, v2⟩⟩
theorem own_cell {w : World} {e : TypeId} {v : Value} {n i : Nat} {xs : List Value} {u : Value} (h : w.ownsRow 0 e 1 v n xs) (hi : i < n) (hx : xs[i]? = some u) :
    ∃ b cap, v = .slice (some ⟨b, 0, none⟩) n cap ∧ w.cell? ⟨b, i, none⟩ = some u ∧ (∀ j, w.frozen? ⟨b, j, none⟩ = false) := by
  obtain ⟨b, cap, rfl, _, _, _⟩ := own_some h (by omega)
  exact ⟨b, cap, rfl, by rw [h.cellAt _ (by omega)]; exact hx, h.frozenAt⟩
theorem bs_at (l : List Bool) (i : Nat) (h : i < l.length) : (bs l)[i]? = some (.bool (l.getD i false)) := by
  simp [bs, List.getElem?_eq_getElem h]
theorem ints_at (l : List Nat) (i : Nat) (h : i < l.length) : (ints l)[i]? = some (.int .i64 (l.getD i 0 : Nat)) := by
  simp [ints, List.getElem?_eq_getElem h]
theorem zs_at (l : List Int) (i : Nat) (h : i < l.length) : (zs l)[i]? = some (.int .i64 (l.getD i 0)) := by
  simp [zs, List.getElem?_eq_getElem h]

theorem ret_boolR {a b : Bool} (h : a = b) : Ending.returned (.bool a) = .returned (.bool b) := by rw [h]
theorem is_any (w : World) (x : Nat) (a b : Int) (F : List Nat) (S : Slb) (K : Nat) (ha : -9223372036854775808 ≤ a) (ha' : a ≤ 9223372036854775807) (h : SlabB w x F S K) :
    Calls Tryd.prog 68 #[.pointer (some ⟨x, 0, none⟩), .agg #[.int .i64 a, .int .i64 b]] w fun e w' => e = .returned (.bool (S.is a b)) ∧ Mods [] w w' := by
  have HA := Lib.hid h
  obtain ⟨uv, gv, vv, hF, hq, hok⟩ := h
  obtain ⟨U, G, V, cu, cg, cv, rfl, rfl, rfl, hat⟩ := refQ_at hq 0
  obtain ⟨hrow, hu, hg, hv, _⟩ := hq
  have b1 := fun o => cell_alloc hat.a1 o
  have b2 := fun o => cell_alloc hat.a2 o
  have hl := hok.len
  have hh := hok.hi
  have hgl := hok.gl
  have hmu := hat.mu
  have hmg := hat.mg
  have hlu := hat.lu
  have hlg := hat.lg
  unfold maxLen at hlu hlg
  by_cases c1 : 0 ≤ a
  case neg =>
    have hd1 : decide (0 ≤ a) = false := by simpa using c1
    clear hrow hu hg hv hF hok hat
    go_enter Tryd.func68, Tryd.ntmps68
    go_wp2
    go_quiet (fail)
    go_wp2
    go_ret
    exact ⟨ret_boolR (by simp only [Slb.is]; rw [hd1]; rfl), ((Mods.refl _ _).alloc _).drewN _⟩
  case pos =>
  obtain ⟨i, rfl⟩ := Int.eq_ofNat_of_zero_le c1
  by_cases c2 : i < S.us.length
  case neg =>
    have hd : decide (i < S.us.length) = false := by simpa using c2
    have hgg : S.us.getD i false = false := by rw [List.getD_eq_getElem?_getD, List.getElem?_eq_none (by omega)]; rfl
    clear hrow hu hg hv hF hok hat
    have HG := Lib.hid hgg
    clear hgg
    go_enter Tryd.func68, Tryd.ntmps68
    go_wp2
    go_quiet (fail)
    go_wp2
    go_ret
    exact ⟨ret_boolR (by simp only [Slb.is, Int.toNat_natCast, HG.out]; simp), ((Mods.refl _ _).alloc _).drewN _⟩
  case pos =>
    have hd : decide (i < S.us.length) = true := by simpa using c2
    obtain ⟨ub, _, e1, d1, _⟩ := own_cell hu c2 (bs_at _ _ c2)
    injection e1 with e1 _ _
    subst e1
    obtain ⟨gb, _, e2, d2, _⟩ := own_cell hg (i := i) (by omega) (ints_at _ _ (by omega))
    injection e2 with e2 _ _
    subst e2
    have d1 := fun o => cell_alloc d1 o
    have d2 := fun o => cell_alloc d2 o
    have q1 : (i : Int) < S.gs.length := by omega
    by_cases c3 : S.us.getD i false = true
    case neg =>
      have c3' : S.us.getD i false = false := by simpa using c3
      have HG := Lib.hid c3'
      rw [c3'] at d1
      clear hrow hu hg hv hF hok hat c3 c3'
      go_enter Tryd.func68, Tryd.ntmps68
      go_wp2
      go_quiet (fail)
      go_wp2
      go_ret
      exact ⟨ret_boolR (by simp only [Slb.is, Int.toNat_natCast, HG.out]; simp), ((Mods.refl _ _).alloc _).drewN _⟩
    case pos =>
      have HI := Lib.hid (show S.is (i : Int) b = decide ((S.gs.getD i 0 : Int) = b) by simp only [Slb.is, Int.toNat_natCast, c3]; simp)
      rw [c3] at d1
      generalize S.gs.getD i 0 = gi at *
      clear hrow hu hg hv hF hok hat c3
      go_enter Tryd.func68, Tryd.ntmps68
      go_wp2
      go_quiet (fail)
      go_wp2
      go_ret
      exact ⟨ret_boolR (by rw [HI.out]; rfl), ((Mods.refl _ _).alloc _).drewN _⟩
end Go.Proofs.YthaapkafamdhcaaDoor

/- What Get, Set, Take of the reference's slab answer. -/
namespace Go.Proofs.YthaapkafamdhcaaDoor
open Go.RowKit
set_option maxRecDepth 10000
set_option linter.unusedVariables false
set_option linter.unusedSimpArgs false

theorem slabB_slot {w : World} {x i : Nat} {F : List Nat} {S : Slb} {K : Nat} (h : SlabB w x F S K) (hi : i < S.us.length) :
    ∃ vb cap, vb ∈ F ∧ vb ≠ x ∧ w.cell? ⟨x, 3, none⟩ = some (.slice (some ⟨vb, 0, none⟩) S.vs.length cap) ∧ S.vs.length ≤ cap ∧ cap ≤ maxLen ∧ w.cell? ⟨vb, i, none⟩ = some (.int .i64 (S.vs.getD i 0)) ∧ (∀ j, w.frozen? ⟨vb, j, none⟩ = false) := by
  obtain ⟨uv, gv, vv, rfl, ⟨h1, h2, h3, h4, h5⟩, hok⟩ := h
  have hvl := hok.vl
  obtain ⟨vb, cap, rfl, hc, hf⟩ := own_cell h4 (i := i) (by omega) (zs_at _ _ (by omega))
  obtain ⟨_, _, e, e1, e2⟩ := own_slice h4
  injection e with _ _ e
  subst e
  exact ⟨vb, cap, by simp [Value.ownBlock], own_ne_row h4 h1 (by decide) vb (by simp [Value.ownBlock]), h1.cell 3, e1, e2, hc, hf⟩
theorem slabB_set {w : World} {x : Nat} {F : List Nat} {S : Slb} {K i : Nat} (h : SlabB w x F S K) (hi : i < S.us.length) {vb cap : Nat} (v : Int)
    (c1 : w.cell? ⟨x, 3, none⟩ = some (.slice (some ⟨vb, 0, none⟩) S.vs.length cap)) :
    SlabB (w.setCell ⟨vb, i, none⟩ (.int .i64 v)) x F (S.set i v) K ∧ Mods F w (w.setCell ⟨vb, i, none⟩ (.int .i64 v)) := by
  obtain ⟨uv, gv, vv, rfl, ⟨h1, h2, h3, h4, h5⟩, hok⟩ := h
  rw [show w.cell? ⟨x, 3, none⟩ = some vv from h1.cell 3] at c1
  obtain rfl := Option.some.inj c1
  have hvx : vb ≠ x := own_ne_row h4 h1 (by decide) vb (by simp [Value.ownBlock])
  have hvl := hok.vl
  have hvg : ∀ k ∈ gv.ownBlock.toList, k ≠ vb := fun k hk e => h5 k hk (by simp [Value.ownBlock, e])
  have hvu : ∀ k ∈ uv.ownBlock.toList, k ≠ vb := by
    intro k hk e
    subst e
    rcases h4.2 with ⟨h, _⟩ | ⟨g', cap', cur, h, _, hh, _⟩
    · cases h
    · injection h with h _ _
      injection h with h
      injection h with h _ _
      subst h
      exact own_ne_row h2 (t := 3) hh (by decide) _ hk rfl
  have hs := (h4.stored i (.int .i64 v)).1
  refine ⟨⟨uv, gv, _, rfl, ⟨h1.far (by exact hvx.symm) _, own_keep h2 fun k hk => heap_setCell_other _ _ _ _ (by exact hvu k hk), own_keep h3 fun k hk => heap_setCell_other _ _ _ _ (by exact hvg k hk), ?_, h5⟩, Slb.set_ok hok i v⟩, (Mods.refl _ _).setCell (by simp [Value.ownBlock]) _⟩
  have e : zs (S.set i v).vs = (zs S.vs).set i (.int .i64 v) := by simp [zs, Slb.set]
  have e2 : (S.set i v).vs.length = S.vs.length := by simp [Slb.set]
  rw [e, e2]
  exact hs
end Go.Proofs.YthaapkafamdhcaaDoor

/- What All of the reference's slab answers. -/
namespace Go.Proofs.YthaapkafamdhcaaDoor
open Go.RowKit
set_option maxRecDepth 10000
set_option linter.unusedVariables false
set_option linter.unusedSimpArgs false

theorem rnew_at {w : World} {o : Obj} {n : Nat} (h : w.heap.size = n) : (w.alloc o).heap[n]? = some o := by subst h; exact heap_alloc_new w o
theorem rhand_info : (Tryd.prog.info? 47).map (fun i => (i.zero, i.size, i.bytes)) = some (some (.agg #[.int .i64 0, .int .i64 0]), 2, 16) := by kernel_rfl
theorem slabB_row {w : World} {x : Nat} {F : List Nat} {S : Slb} {K : Nat} (h : SlabB w x F S K) :
    ∃ U G cu cg, w.cell? ⟨x, 1, none⟩ = some (.slice U S.us.length cu) ∧ w.cell? ⟨x, 2, none⟩ = some (.slice G S.gs.length cg) ∧ S.us.length ≤ cu ∧ cu ≤ maxLen ∧ S.gs.length ≤ cg ∧ cg ≤ maxLen ∧
      (∀ i, i < S.us.length → ∃ ub gb, U = some ⟨ub, 0, none⟩ ∧ G = some ⟨gb, 0, none⟩ ∧ w.cell? ⟨ub, i, none⟩ = some (.bool (S.us.getD i false)) ∧ w.cell? ⟨gb, i, none⟩ = some (.int .i64 (S.gs.getD i 0))) ∧ S.Ok K := by
  obtain ⟨uv, gv, vv, rfl, ⟨h1, h2, h3, h4, h5⟩, hok⟩ := h
  obtain ⟨U, cu, rfl, u1, u2⟩ := own_slice h2
  obtain ⟨G, cg, rfl, g1, g2⟩ := own_slice h3
  refine ⟨U, G, cu, cg, h1.cell 1, h1.cell 2, u1, u2, g1, g2, fun i hi => ?_, hok⟩
  have hgl := hok.gl
  obtain ⟨ub, _, e1, d1, _⟩ := own_cell h2 hi (bs_at _ _ hi)
  obtain ⟨gb, _, e2, d2, _⟩ := own_cell h3 (i := i) (by omega) (ints_at _ _ (by omega))
  injection e1 with e1 _ _
  injection e2 with e2 _ _
  exact ⟨ub, gb, e1, e2, d1, d2⟩
set_option maxHeartbeats 1000000 in
theorem rall_any (w : World) (g : Nat) (F : List Nat) (S : Slb) (K : Nat) (h : SlabB w g F S K) :
    Calls Tryd.prog 53 #[.pointer (some ⟨g, 0, none⟩)] w fun e w' =>
      ∃ v, e = .returned v ∧ Hid (OwnPairs w' 47 v S.all ∧ (∀ b ∈ v.ownBlock.toList, w.heap.size ≤ b) ∧ Mods [] w w') := by
  obtain ⟨i0, hi0, hz0, hz1, hz2⟩ := info_parts rhand_info
  have HA := Lib.hid h
  obtain ⟨U, G, cu, cg, c1, c2, l1, l2, l3, l4, hx, hok⟩ := slabB_row h
  have hl := hok.len
  have hh := hok.hi
  have hgl := hok.gl
  have HX := Lib.hid hx
  have HS := Lib.hid (fun k => S.allTo_len k)
  have C1 := Lib.hid c1
  have C2 := Lib.hid c2
  clear h hok hx
  go_enter Tryd.func53, Tryd.ntmps53
  go_wp2
  clear c1 c2
  go_loopw [3, 4] (fun v i wr => ∃ k : Nat, k ≤ S.us.length ∧ i = .int .i64 k ∧ Hid (OwnPairs wr 47 v (S.allTo k) ∧ (∀ b ∈ v.ownBlock.toList, w.heap.size ≤ b) ∧ Mods [] w wr)) (fun _ i _ => S.us.length - (intOf i).toNat)
  case atStart => exact ⟨0, by omega, rfl, Lib.hid ⟨⟨rfl, .inl ⟨rfl, rfl⟩⟩, by simp [Value.ownBlock], Mods.refl _ _⟩⟩
  case round =>
    obtain ⟨k, hk, rfl, hr⟩ := hrel
    have c1 := cell_mods C1.out hr.out.2.2 (by simp)
    have c2 := cell_mods C2.out hr.out.2.2 (by simp)
    by_cases hlt : k < S.us.length
    · obtain ⟨ub, gb, rfl, rfl, e1, e2⟩ := HX.out k hlt
      have e1 := cell_mods e1 hr.out.2.2 (by simp)
      have e2 := cell_mods e2 hr.out.2.2 (by simp)
      have hN := HS.out k
      have hg2 : k < S.gs.length := by omega
      cases hu : S.us.getD k false
      · have HU := Lib.hid hu
        rw [hu] at e1
        have H1 := Lib.hid (show S.allTo (k + 1) = S.allTo k by simp [Slb.allTo]; simpa using hu)
        clear hu
        go_wp2
        go_roundw
        case rel => exact ⟨k + 1, by omega, by go_num, Lib.hid (by rw [H1.out]; exact hr.out)⟩
        case measure => simp [intOf]; omega
      · have HU := Lib.hid hu
        rw [hu] at e1
        have H1 := Lib.hid (show S.allTo (k + 1) = S.allTo k ++ [((k : Int), (S.gs.getD k 0 : Int))] by simp only [Slb.allTo]; rw [if_pos hu])
        clear hu
        generalize S.gs.getD k 0 = gk at *
        go_wp2_with (at_builtin; refine wpList_append_lies _ rfl (.tmp 21) (.tmp 31) _ rfl 0 47 i0 _ 2 16 Tryd.underlying48 hi0 hz0 hz1 hz2 rfl (by omega) u3 (S.allTo k).length (flat (S.allTo k)) rfl (own_mods hr.out.1 ((Mods.refl [] wr).alloc _) (by simp)) ⟨wr.heap.size, 0, none⟩ 1 1 [.int .i64 k, .int .i64 gk] rfl rfl (World.news_of_block (rnew_at (by simp))) (by simp [Value.oneCell']) (by omega) (by unfold maxLen; omega) (by omega) (Nat.zero_le _) (wr.heap.size + 1) (by simp) ?_; intro g1 cap1 w1 hown1 hg1 hat1 hlt1; have HO1 := Lib.hid hown1; have HG1 := Lib.hid hg1; have HT1 := Lib.hid hat1; clear hown1 hg1 hat1)
        go_roundw
        case rel => exact ⟨k + 1, by omega, by go_num, Lib.hid (by
          rw [H1.out]
          refine ⟨?_, ?_, ?_⟩
          · unfold OwnPairs
            rw [flat_append, List.length_append]
            exact HO1.out
          · intro b hb
            have e : b = g1 := by simpa [Value.ownBlock, eq_comm] using hb
            subst e
            rcases HT1.out with h | h
            · exact hr.out.2.1 b (by rw [h]; simp)
            · have := hr.out.2.2.size; omega
          · refine (hr.out.2.2.alloc _).grown HG1.out (fun b hb => .inr (hr.out.2.1 b (by rw [hb]; simp))))⟩
        case measure => simp [intOf]; omega
    · have e : k = S.us.length := by omega
      subst e
      go_wp2
      go_ret
      exact ⟨_, rfl, hr⟩
end Go.Proofs.YthaapkafamdhcaaDoor

/- What Take of the reference's slab answers. -/
namespace Go.Proofs.YthaapkafamdhcaaDoor
open Go.RowKit
set_option maxRecDepth 10000
set_option linter.unusedVariables false
set_option linter.unusedSimpArgs false

theorem slabB_used {w : World} {x i : Nat} {F : List Nat} {S : Slb} {K : Nat} (h : SlabB w x F S K) (hi : i < S.us.length) :
    ∃ ub cap, ub ∈ F ∧ ub ≠ x ∧ w.cell? ⟨x, 1, none⟩ = some (.slice (some ⟨ub, 0, none⟩) S.us.length cap) ∧ S.us.length ≤ cap ∧ cap ≤ maxLen ∧ w.cell? ⟨ub, i, none⟩ = some (.bool (S.us.getD i false)) ∧ (∀ j, w.frozen? ⟨ub, j, none⟩ = false) ∧
      w.cell? ⟨x, 4, none⟩ = some (.int .i64 S.cnt) ∧ (∀ j, w.frozen? ⟨x, j, none⟩ = false) := by
  obtain ⟨uv, gv, vv, rfl, ⟨h1, h2, h3, h4, h5⟩, hok⟩ := h
  obtain ⟨ub, cap, rfl, hc, hf⟩ := own_cell h2 (i := i) hi (bs_at _ _ hi)
  obtain ⟨_, _, e, e1, e2⟩ := own_slice h2
  injection e with _ _ e
  subst e
  exact ⟨ub, cap, by simp [Value.ownBlock], own_ne_row h2 h1 (by decide) ub (by simp [Value.ownBlock]), h1.cell 1, e1, e2, hc, hf, h1.cell 4, h1.free⟩
theorem own_type_ne {w : World} {e e' : TypeId} {v v' : Value} {n n' s s' : Nat} {xs xs' : List Value} (h : w.ownsRow 0 e s v n xs) (h' : w.ownsRow 0 e' s' v' n' xs') (hne : e ≠ e') : ∀ k ∈ v.ownBlock.toList, k ∉ v'.ownBlock.toList := by
  intro k hk hk'
  rcases h'.2 with ⟨rfl, _⟩ | ⟨g', cap', cur, rfl, _, hh, _⟩
  · simp [Value.ownBlock] at hk'
  · have : k = g' := by simpa [Value.ownBlock, eq_comm] using hk'
    subst this
    exact own_ne_row h hh hne _ hk rfl
theorem slabB_take {w : World} {x : Nat} {F : List Nat} {S : Slb} {K i : Nat} (h : SlabB w x F S K) (hi : i < S.us.length) (hu : S.us.getD i false = true) {ub cap : Nat} {m : Int}
    (c1 : w.cell? ⟨x, 1, none⟩ = some (.slice (some ⟨ub, 0, none⟩) S.us.length cap)) (hm : m = (S.cnt : Int) - 1) :
    SlabB ((w.setCell ⟨ub, i, none⟩ (.bool false)).setCell ⟨x, 4, none⟩ (.int .i64 m)) x F (S.take i) K ∧ Mods F w ((w.setCell ⟨ub, i, none⟩ (.bool false)).setCell ⟨x, 4, none⟩ (.int .i64 m)) := by
  obtain ⟨uv, gv, vv, rfl, ⟨h1, h2, h3, h4, h5⟩, hok⟩ := h
  rw [show w.cell? ⟨x, 1, none⟩ = some uv from h1.cell 1] at c1
  obtain rfl := Option.some.inj c1
  have hux : ub ≠ x := own_ne_row h2 h1 (by decide) ub (by simp [Value.ownBlock])
  have hgx := own_ne_row h3 h1 (by decide)
  have hvx := own_ne_row h4 h1 (by decide)
  have hgu : ∀ k ∈ gv.ownBlock.toList, k ≠ ub := fun k hk e => own_type_ne h3 h2 (by decide) k hk (by simp [Value.ownBlock, e])
  have hvu : ∀ k ∈ vv.ownBlock.toList, k ≠ ub := fun k hk e => own_type_ne h4 h2 (by decide) k hk (by simp [Value.ownBlock, e])
  have hs := (h2.stored i (.bool false)).1
  have hcnt := Slb.take_cnt hi hu
  have hmc : m = ((S.take i).cnt : Int) := by omega
  refine ⟨⟨_, gv, vv, rfl, ⟨?_, ?_, own_keep h3 fun k hk => ?_, own_keep h4 fun k hk => ?_, h5⟩, Slb.take_ok hok i⟩, ((Mods.refl _ _).setCell (by simp [Value.ownBlock]) _).setCell (by simp) _⟩
  · have := (h1.far (p := ⟨ub, i, none⟩) (by exact hux.symm) (.bool false)).set 4 (.int .i64 m)
    rw [hmc] at this ⊢
    exact this
  · have e : bs (S.take i).us = (bs S.us).set i (.bool false) := by simp [bs, Slb.take]
    have e2 : (S.take i).us.length = S.us.length := by simp [Slb.take]
    rw [e, e2]
    refine own_keep hs fun k hk => heap_setCell_other _ _ _ _ ?_
    have : k = ub := by simpa [Value.ownBlock, eq_comm] using hk
    subst this
    exact hux
  · rw [heap_setCell_other _ _ _ _ (by exact hgx k hk), heap_setCell_other _ _ _ _ (by exact hgu k hk)]
  · rw [heap_setCell_other _ _ _ _ (by exact hvx k hk), heap_setCell_other _ _ _ _ (by exact hvu k hk)]

set_option maxHeartbeats 1000000 in
theorem rtake_any (w : World) (g hb c : Nat) (l : List (Int × Int)) (F : List Nat) (S : Slb) (K : Nat) (h : SlabB w g F S K) (hl : l.length ≤ 100000) (hp : Pairs w hb l) (hbF : hb ∉ F) :
    Calls Tryd.prog 69 #[.pointer (some ⟨g, 0, none⟩), .slice (some ⟨hb, 0, none⟩) l.length c] w fun e w' => e = .returned (.int .i64 (S.taken l)) ∧ SlabB w' g F (S.takes l) K ∧ Mods F w w' := by
  have HA := Lib.hid h
  have HP := Lib.hid hp
  have HT := Lib.hid (fun k => S.taken_le (l.take k))
  clear h hp
  go_enter Tryd.func69, Tryd.ntmps69
  go_wp2
  go_loopw [5, 6] (fun n i wr => ∃ k : Nat, k ≤ l.length ∧ i = .int .i64 k ∧ n = .int .i64 (S.taken (l.take k)) ∧ Hid (SlabB wr g F (S.takes (l.take k)) K ∧ Mods F w wr)) (fun _ i _ => l.length - (intOf i).toNat)
  case atStart => exact ⟨0, by omega, rfl, by simp [Slb.taken], Lib.hid ⟨HA.out, Mods.refl _ _⟩⟩
  case round =>
    obtain ⟨k, hk, rfl, rfl, hr⟩ := hrel
    by_cases hlt : k < l.length
    · have ht := HT.out k
      have htl : (l.take k).length ≤ 100000 := by simp; omega
      have hq := List.getElem?_eq_getElem hlt
      have hnx := take_next l k hlt
      generalize l[k] = q at hq hnx
      obtain ⟨a, b⟩ := q
      have HPr := Lib.hid (HP.out.mods hr.out.2 hbF)
      obtain ⟨p1, p2, ⟨p3, p4⟩, p5, p6⟩ := HPr.out k (a, b) hq
      have P1 := Lib.hid p1
      have hT1 : S.taken (l.take (k + 1)) = S.taken (l.take k) + ((S.takes (l.take k)).is a b).toNat := by rw [hnx, Slb.taken_snoc]
      have hS1 : S.takes (l.take (k + 1)) = (S.takes (l.take k)).take1 (a, b) := by rw [hnx, Slb.takes_snoc]
      generalize hS2 : S.takes (l.take k) = S2 at *
      generalize S.taken (l.take k) = m at *
      cases hs : S2.is a b
      · have HS := Lib.hid hs
        have H1 := Lib.hid (show S.taken (l.take (k + 1)) = m by rw [hT1, hs]; rfl)
        have H2 := Lib.hid (show S.takes (l.take (k + 1)) = S2 by rw [hS1]; unfold Slb.take1; simp only [hs]; rfl)
        clear hs hT1 hS1 hS2 hnx hq
        go_wp2_with fail
        refine (is_any _ g a b F S2 K p3 p4 hr.out.1).mono ?_
        rw [HS.out]
        rintro e w1 ⟨rfl, hd⟩
        have H3 := Lib.hid hd
        clear hd
        go_wp2
        go_roundw
        case rel => exact ⟨k + 1, by omega, by go_num, by rw [H1.out], Lib.hid ⟨by rw [H2.out]; exact slabB_mods hr.out.1 H3.out (by simp), hr.out.2.trans H3.out (by simp)⟩⟩
        case measure => simp [intOf]; omega
      · obtain ⟨h0, hi, hu, _⟩ := Slb.is_lt hs
        obtain ⟨i, rfl⟩ := Int.eq_ofNat_of_zero_le h0
        rw [Int.toNat_natCast] at hi hu
        have HS := Lib.hid hs
        have H1 := Lib.hid (show S.taken (l.take (k + 1)) = m + 1 by rw [hT1, hs]; rfl)
        have H2 := Lib.hid (show S.takes (l.take (k + 1)) = S2.take i by rw [hS1]; unfold Slb.take1; simp only [hs]; rfl)
        have HU := Lib.hid hu
        have hi2 : (i : Int) < S2.us.length := by omega
        have hcl := S2.cnt_le
        have hok : S2.Ok K := by obtain ⟨_, _, _, _, _, hok⟩ := hr.out.1; exact hok
        have hl2 := hok.len
        have hl3 := hok.hi
        clear hs hT1 hS1 hS2 hnx hq hu hok
        go_wp2_with fail
        refine (is_any _ g i b F S2 K p3 p4 hr.out.1).mono ?_
        rw [HS.out]
        rintro e w1 ⟨rfl, hd⟩
        have H3 := Lib.hid hd
        have HB := Lib.hid (slabB_mods hr.out.1 hd (by simp))
        have c4 := cell_mods P1.out hd (by simp)
        clear hd p1 p2
        obtain ⟨ub, cap, hF, hne, d1, d2, d3, d4, d5, d6, d7⟩ := slabB_used HB.out hi
        have HT2 := Lib.hid (slabB_take HB.out hi HU.out d1 (m := (S2.cnt : Int) - 1) rfl)
        clear hF hi
        go_wp2
        go_region
        all_goals go_wp2
        all_goals go_roundw
        case rel => exact ⟨k + 1, by omega, by go_num, by rw [H1.out]; go_num, Lib.hid ⟨by rw [H2.out]; exact slabB_keep HT2.out.1 (fun _ _ => rfl), (hr.out.2.trans H3.out (by simp)).trans (HT2.out.2.drew) (fun k hk => .inl hk)⟩⟩
        case measure => simp [intOf]; omega
    · have e : k = l.length := by omega
      subst e
      have HZ := Lib.hid hr.out
      rw [List.take_length] at HZ
      have e2 := Lib.hid (show S.taken (l.take l.length) = S.taken l by rw [List.take_length])
      go_wp2
      go_ret
      exact ⟨by rw [← e2.out]; rfl, HZ.out⟩
end Go.Proofs.YthaapkafamdhcaaDoor

/- What Put of the reference's slab makes of memory. -/
namespace Go.Proofs.YthaapkafamdhcaaDoor
open Go.RowKit
set_option maxRecDepth 10000
set_option linter.unusedVariables false
set_option linter.unusedSimpArgs false

/-- What Put's end asks of memory. -/
structure RefTail (W : World) (x ub gb vb r i nu ng nv cu cg cv lim cnt gi : Nat) (z : Int) : Prop where
  a0 : W.cell? ⟨x, 0, none⟩ = some (.int .i64 lim)
  a1 : W.cell? ⟨x, 1, none⟩ = some (.slice (some ⟨ub, 0, none⟩) nu cu)
  a2 : W.cell? ⟨x, 2, none⟩ = some (.slice (some ⟨gb, 0, none⟩) ng cg)
  a3 : W.cell? ⟨x, 3, none⟩ = some (.slice (some ⟨vb, 0, none⟩) nv cv)
  a4 : W.cell? ⟨x, 4, none⟩ = some (.int .i64 cnt)
  d1 : W.cell? ⟨ub, i, none⟩ = some (.bool false)
  d2 : W.cell? ⟨gb, i, none⟩ = some (.int .i64 gi)
  d3 : W.cell? ⟨vb, i, none⟩ = some (.int .i64 z)
  f0 : ∀ j, W.frozen? ⟨x, j, none⟩ = false
  f1 : ∀ j, W.frozen? ⟨ub, j, none⟩ = false
  f2 : ∀ j, W.frozen? ⟨gb, j, none⟩ = false
  f3 : ∀ j, W.frozen? ⟨vb, j, none⟩ = false
  n1 : ub ≠ x
  n2 : gb ≠ x
  n3 : vb ≠ x
  n4 : ub ≠ gb
  n5 : ub ≠ vb
  n6 : gb ≠ vb
  r1 : r ≠ x
  r2 : r ≠ ub
  r3 : r ≠ gb
  r4 : r ≠ vb
theorem bs_set (l : List Bool) (i : Nat) (b : Bool) : bs (l.set i b) = (bs l).set i (.bool b) := by simp [bs]
theorem ints_set (l : List Nat) (i n : Nat) : ints (l.set i n) = (ints l).set i (.int .i64 (n : Nat)) := by simp [ints]
theorem zs_set (l : List Int) (i : Nat) (n : Int) : zs (l.set i n) = (zs l).set i (.int .i64 n) := by simp [zs]
theorem slabB_tail {W : World} {x r i : Nat} {F : List Nat} {S : Slb} {K : Nat} (h : SlabB W x F S K) (hi : i < S.us.length) (hu : S.us.getD i false = false) (hr : r ∉ F) :
    ∃ ub gb vb cu cg cv z, F = [x, ub, gb, vb] ∧ RefTail W x ub gb vb r i S.us.length S.gs.length S.vs.length cu cg cv S.lim S.cnt (S.gs.getD i 0) z := by
  obtain ⟨uv, gv, vv, rfl, ⟨h1, h2, h3, h4, h5⟩, hok⟩ := h
  have hgl := hok.gl
  have hvl := hok.vl
  have xu := own_ne_row h2 h1 (by decide)
  have xg := own_ne_row h3 h1 (by decide)
  have xv := own_ne_row h4 h1 (by decide)
  have ug := own_type_ne h2 h3 (by decide)
  have uv' := own_type_ne h2 h4 (by decide)
  obtain ⟨ub, cu, rfl, d1, f1⟩ := own_cell h2 hi (bs_at _ _ hi)
  obtain ⟨gb, cg, rfl, d2, f2⟩ := own_cell h3 (i := i) (by omega) (ints_at _ _ (by omega))
  obtain ⟨vb, cv, rfl, d3, f3⟩ := own_cell h4 (i := i) (by omega) (zs_at _ _ (by omega))
  simp only [Value.ownBlock, Option.toList, List.mem_cons, List.mem_nil_iff, or_false, List.mem_append, not_or] at hr xu xg xv ug uv' h5
  rw [hu] at d1
  exact ⟨ub, gb, vb, cu, cg, cv, _, by simp [Value.ownBlock], ⟨h1.cell 0, h1.cell 1, h1.cell 2, h1.cell 3, h1.cell 4, d1, d2, d3, h1.free, f1, f2, f3, xu ub rfl, xg gb rfl, xv vb rfl,
    ug ub rfl, uv' ub rfl, h5 gb rfl, hr.1, hr.2.1, hr.2.2.1, hr.2.2.2⟩⟩
theorem slabB_fill {W : World} {x i : Nat} {S : Slb} {K ub gb vb cu cg cv : Nat} (v : Int) (h : SlabB W x [x, ub, gb, vb] S K) (hi : i < S.us.length) (hu : S.us.getD i false = false)
    (a1 : W.cell? ⟨x, 1, none⟩ = some (.slice (some ⟨ub, 0, none⟩) S.us.length cu)) (a2 : W.cell? ⟨x, 2, none⟩ = some (.slice (some ⟨gb, 0, none⟩) S.gs.length cg)) (a3 : W.cell? ⟨x, 3, none⟩ = some (.slice (some ⟨vb, 0, none⟩) S.vs.length cv))
    {gn m : Int} (hgn : gn = (S.gs.getD i 0 : Int) + 1) (hm : m = (S.cnt : Int) + 1) :
    SlabB ((((W.setCell ⟨ub, i, none⟩ (.bool true)).setCell ⟨gb, i, none⟩ (.int .i64 gn)).setCell ⟨vb, i, none⟩ (.int .i64 v)).setCell ⟨x, 4, none⟩ (.int .i64 m)) x [x, ub, gb, vb] (S.fill i v) (K + 1) ∧
      Mods [x, ub, gb, vb] W ((((W.setCell ⟨ub, i, none⟩ (.bool true)).setCell ⟨gb, i, none⟩ (.int .i64 gn)).setCell ⟨vb, i, none⟩ (.int .i64 v)).setCell ⟨x, 4, none⟩ (.int .i64 m)) := by
  obtain ⟨uv, gv, vv, hF, ⟨h1, h2, h3, h4, h5⟩, hok⟩ := h
  rw [show W.cell? ⟨x, 1, none⟩ = some uv from h1.cell 1] at a1
  rw [show W.cell? ⟨x, 2, none⟩ = some gv from h1.cell 2] at a2
  rw [show W.cell? ⟨x, 3, none⟩ = some vv from h1.cell 3] at a3
  obtain rfl := Option.some.inj a1
  obtain rfl := Option.some.inj a2
  obtain rfl := Option.some.inj a3
  have xu : ub ≠ x := own_ne_row h2 h1 (by decide) ub (by simp [Value.ownBlock])
  have xg : gb ≠ x := own_ne_row h3 h1 (by decide) gb (by simp [Value.ownBlock])
  have xv : vb ≠ x := own_ne_row h4 h1 (by decide) vb (by simp [Value.ownBlock])
  have ug : ub ≠ gb := fun e => own_type_ne h2 h3 (by decide) ub (by simp [Value.ownBlock]) (by simp [Value.ownBlock, e])
  have uv' : ub ≠ vb := fun e => own_type_ne h2 h4 (by decide) ub (by simp [Value.ownBlock]) (by simp [Value.ownBlock, e])
  have gv' : gb ≠ vb := fun e => h5 gb (by simp [Value.ownBlock]) (by simp [Value.ownBlock, e])
  have hcnt := Slb.fill_cnt v hi hu
  have hmc : m = ((S.fill i v).cnt : Int) := by omega
  have one : ∀ (b n c : Nat) (k : Nat), k ∈ (Value.slice (some ⟨b, 0, none⟩) n c).ownBlock.toList → k = b := fun b n c k hk => by simpa [Value.ownBlock, eq_comm] using hk
  refine ⟨⟨_, _, _, hF, ⟨?_, ?_, ?_, ?_, h5⟩, Slb.fill_ok hok i v⟩, ((((Mods.refl _ _).setCell (by simp) _).setCell (by simp) _).setCell (by simp) _).setCell (by simp) _⟩
  · have := (((h1.far (p := ⟨ub, i, none⟩) (by exact xu.symm) (.bool true)).far (p := ⟨gb, i, none⟩) (by exact xg.symm) (.int .i64 gn)).far (p := ⟨vb, i, none⟩) (by exact xv.symm) (.int .i64 v)).set 4 (.int .i64 m)
    rw [hmc] at this ⊢
    exact this
  · have e2 : (S.fill i v).us.length = S.us.length := by simp [Slb.fill]
    rw [show bs (S.fill i v).us = (bs S.us).set i (.bool true) from bs_set _ _ _, e2]
    refine own_keep (h2.stored i (.bool true)).1 fun k hk => ?_
    obtain rfl := one _ _ _ k hk
    rw [heap_setCell_other _ _ _ _ (by exact xu), heap_setCell_other _ _ _ _ (by exact uv'), heap_setCell_other _ _ _ _ (by exact ug)]
  · have e2 : (S.fill i v).gs.length = S.gs.length := by simp [Slb.fill]
    have e3 : ints (S.fill i v).gs = (ints S.gs).set i (.int .i64 gn) := by rw [show ints (S.fill i v).gs = (ints S.gs).set i _ from ints_set _ _ _, hgn]; rfl
    rw [e3, e2]
    have h3' : (W.setCell ⟨ub, i, none⟩ (.bool true)).ownsRow 0 3 1 (.slice (some ⟨gb, 0, none⟩) S.gs.length cg) S.gs.length (ints S.gs) := own_keep h3 fun k hk => by
      obtain rfl := one _ _ _ k hk
      rw [heap_setCell_other _ _ _ _ (by exact ug.symm)]
    refine own_keep (h3'.stored i (.int .i64 gn)).1 fun k hk => ?_
    obtain rfl := one _ _ _ k hk
    rw [heap_setCell_other _ _ _ _ (by exact xg), heap_setCell_other _ _ _ _ (by exact gv')]
  · have e2 : (S.fill i v).vs.length = S.vs.length := by simp [Slb.fill]
    rw [show zs (S.fill i v).vs = (zs S.vs).set i (.int .i64 v) from zs_set _ _ _, e2]
    have h4' : ((W.setCell ⟨ub, i, none⟩ (.bool true)).setCell ⟨gb, i, none⟩ (.int .i64 gn)).ownsRow 0 3 1 (.slice (some ⟨vb, 0, none⟩) S.vs.length cv) S.vs.length (zs S.vs) := own_keep h4 fun k hk => by
      obtain rfl := one _ _ _ k hk
      rw [heap_setCell_other _ _ _ _ (by exact gv'.symm), heap_setCell_other _ _ _ _ (by exact uv'.symm)]
    refine own_keep (h4'.stored i (.int .i64 v)).1 fun k hk => ?_
    obtain rfl := one _ _ _ k hk
    rw [heap_setCell_other _ _ _ _ (by exact xv)]
theorem rput_full (w : World) (g : Nat) (v : Int) (F : List Nat) (S : Slb) (K : Nat) (h : SlabB w g F S K) (hc : S.lim ≤ S.cnt) :
    Calls Tryd.prog 67 #[.pointer (some ⟨g, 0, none⟩), .int .i64 v] w fun e w' => e = .returned (.tuple #[.agg #[.int .i64 0, .int .i64 0], .int .i64 3]) ∧ Mods [] w w' := by
  obtain ⟨uv, gv, vv, hF, ⟨hrow, h2, h3, h4, h5⟩, hok⟩ := h
  have c0 : w.cell? ⟨g, 0, none⟩ = some (.int .i64 S.lim) := hrow.cell 0
  have c1 : w.cell? ⟨g, 4, none⟩ = some (.int .i64 S.cnt) := hrow.cell 4
  have a0 := fun o => cell_alloc c0 o
  have a1 := fun o => cell_alloc c1 o
  have hd : decide (S.lim ≤ S.cnt) = true := by simpa using hc
  clear hrow h2 h3 h4 h5 hok hF
  go_enter Tryd.func67, Tryd.ntmps67
  go_wp2
  go_quiet (fail)
  go_wp2
  exact ret_hand Tryd.results67 ((((Row.new w _ _).drewN nq).set 0 _).set 1 _) rfl rfl rfl ⟨rfl, ((((Mods.refl _ _).alloc _).drewN _).setCell (by simp) _).setCell (by simp) _⟩
end Go.Proofs.YthaapkafamdhcaaDoor

/- What Put of the reference's slab answers. -/
namespace Go.Proofs.YthaapkafamdhcaaDoor
open Go.RowKit
set_option maxRecDepth 10000
set_option linter.unusedVariables false
set_option linter.unusedSimpArgs false

theorem rslab_loop_facts {w : World} {x : Nat} {F : List Nat} {S : Slb} {K : Nat} (h : SlabB w x F S K) :
    ∃ U cu, w.cell? ⟨x, 1, none⟩ = some (.slice U S.us.length cu) ∧ S.us.length ≤ cu ∧ cu ≤ maxLen ∧ (∀ i, i < S.us.length → ∃ ub, U = some ⟨ub, 0, none⟩ ∧ w.cell? ⟨ub, i, none⟩ = some (.bool (S.us.getD i false))) ∧
      w.cell? ⟨x, 0, none⟩ = some (.int .i64 S.lim) ∧ w.cell? ⟨x, 4, none⟩ = some (.int .i64 S.cnt) ∧ S.Ok K := by
  obtain ⟨uv, gv, vv, rfl, ⟨h1, h2, h3, h4, h5⟩, hok⟩ := h
  obtain ⟨U, cu, rfl, u1, u2⟩ := own_slice h2
  refine ⟨U, cu, h1.cell 1, u1, u2, fun i hi => ?_, h1.cell 0, h1.cell 4, hok⟩
  obtain ⟨ub, _, e1, d1, _⟩ := own_cell h2 hi (bs_at _ _ hi)
  injection e1 with e1 _ _
  exact ⟨ub, e1, d1⟩
theorem RefTail.drewN {W : World} {x ub gb vb r i nu ng nv cu cg cv lim cnt gi : Nat} {z : Int} (h : RefTail W x ub gb vb r i nu ng nv cu cg cv lim cnt gi z) (n : Nat) : RefTail (W.drewN n) x ub gb vb r i nu ng nv cu cg cv lim cnt gi z :=
  ⟨h.a0, h.a1, h.a2, h.a3, h.a4, h.d1, h.d2, h.d3, h.f0, h.f1, h.f2, h.f3, h.n1, h.n2, h.n3, h.n4, h.n5, h.n6, h.r1, h.r2, h.r3, h.r4⟩
/-- Where Put stands ahead of its four stores. -/
structure RefEnd (w W : World) (x ub gb vb i nu ng nv cu cg cv gi : Nat) (z v : Int) (lim cnt : Nat) (S' : Slb) (K : Nat) : Prop where
  tail : RefTail W x ub gb vb w.heap.size i nu ng nv cu cg cv lim cnt gi z
  row : Row W w.heap.size 47 #[.int .i64 0, .int .i64 0]
  rep : SlabB ((((W.setCell ⟨ub, i, none⟩ (.bool true)).setCell ⟨gb, i, none⟩ (.int .i64 ((gi : Int) + 1))).setCell ⟨vb, i, none⟩ (.int .i64 v)).setCell ⟨x, 4, none⟩ (.int .i64 ((cnt : Int) + 1))) x [x, ub, gb, vb] S' (K + 1)
  mods : Mods [x, ub, gb, vb] W ((((W.setCell ⟨ub, i, none⟩ (.bool true)).setCell ⟨gb, i, none⟩ (.int .i64 ((gi : Int) + 1))).setCell ⟨vb, i, none⟩ (.int .i64 v)).setCell ⟨x, 4, none⟩ (.int .i64 ((cnt : Int) + 1)))
theorem RefEnd.fin {w W : World} {x ub gb vb i nu ng nv cu cg cv gi lim cnt : Nat} {z v : Int} {S' : Slb} {K : Nat} (h : RefEnd w W x ub gb vb i nu ng nv cu cg cv gi z v lim cnt S' K) (a b : Value) :
    SlabB ((((((W.setCell ⟨ub, i, none⟩ (.bool true)).setCell ⟨gb, i, none⟩ (.int .i64 ((gi : Int) + 1))).setCell ⟨vb, i, none⟩ (.int .i64 v)).setCell ⟨x, 4, none⟩ (.int .i64 ((cnt : Int) + 1))).setCell ⟨w.heap.size, 0, none⟩ a).setCell ⟨w.heap.size, 1, none⟩ b) x [x, ub, gb, vb] S' (K + 1) :=
  slabB_keep h.rep fun k hk => by
    have hk' : k ≠ w.heap.size := by
      simp only [List.mem_cons, List.mem_nil_iff, or_false] at hk
      rcases hk with rfl | rfl | rfl | rfl
      · exact h.tail.r1.symm
      · exact h.tail.r2.symm
      · exact h.tail.r3.symm
      · exact h.tail.r4.symm
    rw [heap_setCell_other _ _ _ _ (by exact hk'), heap_setCell_other _ _ _ _ (by exact hk')]
theorem RefEnd.rows {w W : World} {x ub gb vb i nu ng nv cu cg cv gi lim cnt : Nat} {z v : Int} {S' : Slb} {K : Nat} (h : RefEnd w W x ub gb vb i nu ng nv cu cg cv gi z v lim cnt S' K) (a b : Value) :
    Row ((((((W.setCell ⟨ub, i, none⟩ (.bool true)).setCell ⟨gb, i, none⟩ (.int .i64 ((gi : Int) + 1))).setCell ⟨vb, i, none⟩ (.int .i64 v)).setCell ⟨x, 4, none⟩ (.int .i64 ((cnt : Int) + 1))).setCell ⟨w.heap.size, 0, none⟩ a).setCell ⟨w.heap.size, 1, none⟩ b) w.heap.size 47 #[a, b] :=
  ((((((h.row.far (by exact h.tail.r2) _).far (by exact h.tail.r3) _).far (by exact h.tail.r4) _).far (by exact h.tail.r1) _).set 0 a).set 1 b)
set_option maxHeartbeats 1000000 in
theorem rput_fill (w : World) (g : Nat) (v : Int) (F : List Nat) (S : Slb) (K : Nat) (h : SlabB w g F S K) (hc : S.cnt < S.lim) (hK : K ≤ 4000000000000) (hn : S.least ≠ S.us.length) :
    Calls Tryd.prog 67 #[.pointer (some ⟨g, 0, none⟩), .int .i64 v] w fun e w' => e = .returned (.tuple #[.agg #[.int .i64 S.least, .int .i64 S.gen], .int .i64 0]) ∧ SlabB w' g F (S.put v) (K + 1) ∧ Mods F w w' := by
  have hil : S.least < S.us.length := by have := S.least_le; omega
  have hrF : w.heap.size ∉ F := fun hk => by have := slabB_lt h _ hk; omega
  have HA := Lib.hid (slabB_keep (w' := w.alloc (.cells #[.int .i64 0, .int .i64 0] 47)) h fun k hk => Below.heap_alloc w _ k (slabB_lt h k hk))
  obtain ⟨ub, gb, vb, cu, cg, cv, z, rfl, ht⟩ := slabB_tail HA.out hil S.least_getD hrF
  obtain ⟨U, cu', c1, l1, l2, hx, c0, c4, hok⟩ := rslab_loop_facts HA.out
  have e0 := ht.a1
  rw [c1] at e0
  injection e0 with e0
  injection e0 with e0 _ e1
  subst e0
  subst e1
  have hh := hok.hi
  have hl := hok.len
  have hgl := hok.gl
  have hvl := hok.vl
  have hgk := hok.gk S.least
  have HX := Lib.hid (show ∀ k, k < S.least → (w.alloc (.cells #[.int .i64 0, .int .i64 0] 47)).cell? ⟨ub, k, none⟩ = some (.bool true) from fun k hk => by
    obtain ⟨ub', e, h⟩ := hx k (by omega)
    injection e with e
    injection e with e _ _
    rw [e, h, S.below_least k hk])
  have HP := Lib.hid (S.put_fill hn v)
  have HG := Lib.hid (show S.gen = S.gs.getD S.least 0 + 1 from rfl)
  have HF := Lib.hid (slabB_fill v HA.out hil S.least_getD ht.a1 ht.a2 ht.a3 (gn := (S.gs.getD S.least 0 : Int) + 1) rfl (m := (S.cnt : Int) + 1) rfl)
  have hd : decide (S.lim ≤ S.cnt) = false := by simpa using hc
  have hcl := S.cnt_le
  generalize S.least = i at *
  generalize S.gen = gn at *
  generalize S.gs.getD i 0 = gi at *
  have HT := Lib.hid ht
  have d1 := ht.d1
  have d2 := ht.d2
  have d3 := ht.d3
  have a2 := ht.a2
  have a3 := ht.a3
  have f0 := ht.f0
  have f1 := ht.f1
  have f2 := ht.f2
  have f3 := ht.f3
  have n1 := ht.n1
  have n2 := ht.n2
  have n3 := ht.n3
  have n4 := ht.n4
  have n5 := ht.n5
  have n6 := ht.n6
  have r1 := ht.r1
  have r2 := ht.r2
  have r3 := ht.r3
  have r4 := ht.r4
  have q1 : (i : Int) < S.gs.length := by omega
  have q2 : (i : Int) < S.vs.length := by omega
  have q3 : ((i : Int) == (S.us.length : Int)) = false := by simp; omega
  clear h hc hok hx ht hn
  go_enter Tryd.func67, Tryd.ntmps67
  go_wp2
  go_quiet (fail)
  go_wp2
  go_loop [6] (fun j => ∃ k : Nat, k ≤ i ∧ j = .int .i64 k) (fun j => i - (intOf j).toNat)
  case atStart => exact ⟨0, by omega, rfl⟩
  case round =>
    obtain ⟨k, hk, rfl⟩ := hrel
    by_cases hlt : k < i
    · have hk2 := HX.out k hlt
      have hk3 : k < S.us.length := by omega
      go_wp2
      go_round
      case rel => exact ⟨k + 1, by omega, by go_num⟩
      case measure => simp [intOf]; omega
    · have e : k = i := by omega
      subst e
      clear hlt hk
      go_upto_region 10 with (fail)
      obtain ⟨W, hW, hM, hE⟩ : ∃ W : World, W = (w.alloc (.cells #[.int .i64 0, .int .i64 0] 47)).drewN nq ∧ Hid (Mods [g, ub, gb, vb] w W) ∧ Hid (RefEnd w W g ub gb vb k S.us.length S.gs.length S.vs.length cu' cg cv gi z v S.lim S.cnt (S.put v) K) :=
        ⟨_, rfl, Lib.hid (((Mods.refl _ w).alloc _).drewN nq), Lib.hid ⟨HT.out.drewN nq, (Row.new w _ _).drewN nq, by rw [HP.out]; exact slabB_keep HF.out.1 (fun _ _ => rfl), by
          have h := HF.out.2
          exact ⟨h.os, h.tape, h.output, h.size, h.block⟩⟩⟩
      rw [← hW]
      clear hW d1 d2 d3 a2 a3 f0 f1 f2 f3 c0 c1 c4
      have a1 := hE.out.tail.a1
      have a2 := hE.out.tail.a2
      have a3 := hE.out.tail.a3
      have a4 := hE.out.tail.a4
      have d1 := hE.out.tail.d1
      have d2 := hE.out.tail.d2
      have d3 := hE.out.tail.d3
      have f0 := hE.out.tail.f0
      have f1 := hE.out.tail.f1
      have f2 := hE.out.tail.f2
      have f3 := hE.out.tail.f3
      have s0 : W.cell? ⟨w.heap.size, 0, none⟩ = some (.int .i64 0) := hE.out.row.cell 0
      have s1 : W.cell? ⟨w.heap.size, 1, none⟩ = some (.int .i64 0) := hE.out.row.cell 1
      have s2 := hE.out.row.free
      go_wp2
      exact ret_hand Tryd.results67 (hE.out.rows _ _) rfl rfl rfl ⟨by rw [HG.out]; rfl, hE.out.fin _ _, ((hM.out.trans hE.out.mods (fun k hk => .inl hk)).setCell (by simp) _).setCell (by simp) _⟩
end Go.Proofs.YthaapkafamdhcaaDoor

/- What Put of the reference's slab answers where a new slot is wanted. -/
namespace Go.Proofs.YthaapkafamdhcaaDoor
open Go.RowKit
set_option maxRecDepth 10000
set_option linter.unusedVariables false
set_option linter.unusedSimpArgs false

def foot (x : Nat) (uv gv vv : Value) : List Nat := x :: (uv.ownBlock.toList ++ (gv.ownBlock.toList ++ vv.ownBlock.toList))
theorem foot_u {x : Nat} {uv gv vv : Value} : ∀ k ∈ uv.ownBlock.toList, k ∈ foot x uv gv vv := fun k hk => List.mem_cons_of_mem _ (List.mem_append_left _ hk)
theorem foot_g {x : Nat} {uv gv vv : Value} : ∀ k ∈ gv.ownBlock.toList, k ∈ foot x uv gv vv := fun k hk => List.mem_cons_of_mem _ (List.mem_append_right _ (List.mem_append_left _ hk))
theorem foot_v {x : Nat} {uv gv vv : Value} : ∀ k ∈ vv.ownBlock.toList, k ∈ foot x uv gv vv := fun k hk => List.mem_cons_of_mem _ (List.mem_append_right _ (List.mem_append_right _ hk))
theorem own_slice_block {g n c : Nat} : ∀ k ∈ (Value.slice (some ⟨g, 0, none⟩) n c).ownBlock.toList, k = g := fun k hk => by simpa [Value.ownBlock, eq_comm] using hk
theorem grow_new {w0 wa w1 : World} {v : Value} {g1 H : Nat} (hm : Mods [] w0 wa) (hg : wa.grownBy w1 v.ownBlock) (ht : v.ownBlock = some g1 ∨ g1 = H) (hH : w0.heap.size ≤ H) : Mods v.ownBlock.toList w0 w1 ∧ (g1 ∈ v.ownBlock.toList ∨ w0.heap.size ≤ g1) := by
  refine ⟨(hm.more (fun k hk => by cases hk)).grown hg (fun k hk => .inl (by rw [hk]; simp)), ?_⟩
  rcases ht with h | h
  · left; rw [h]; simp
  · right; omega
structure Grown1 (w0 w1 : World) (x o : Nat) (s : Value) (uv gv vv uv' gv' vv' : Value) (lim cnt : Nat) (us : List Bool) (gs : List Nat) (vs : List Int) : Prop where
  row : Row w1 x 56 #[.int .i64 lim, uv, gv, vv, .int .i64 cnt]
  q : RefQ (w1.setCell ⟨x, o, none⟩ s) x uv' gv' vv' lim cnt us gs vs
  mods : Mods (foot x uv gv vv) w0 (w1.setCell ⟨x, o, none⟩ s)
  new : ∀ k ∈ foot x uv' gv' vv', k ∈ foot x uv gv vv ∨ w0.heap.size ≤ k
theorem grow1 {w0 w1 : World} {x g1 cap1 lim cnt : Nat} {uv gv vv : Value} {us : List Bool} {gs : List Nat} {vs : List Int} (h : RefQ w0 x uv gv vv lim cnt us gs vs)
    (hm : Mods uv.ownBlock.toList w0 w1) (hn : g1 ∈ uv.ownBlock.toList ∨ w0.heap.size ≤ g1)
    (hown : w1.ownsRow 0 4 1 (.slice (some ⟨g1, 0, none⟩) (us.length + 1) cap1) (us.length + 1) (bs us ++ [.bool false])) :
    Grown1 w0 w1 x 1 (.slice (some ⟨g1, 0, none⟩) (us.length + 1) cap1) uv gv vv (.slice (some ⟨g1, 0, none⟩) (us.length + 1) cap1) gv vv lim cnt (us ++ [false]) gs vs := by
  obtain ⟨h1, h2, h3, h4, h5⟩ := h
  have xu := own_ne_row h2 h1 (by decide)
  have xg := own_ne_row h3 h1 (by decide)
  have xv := own_ne_row h4 h1 (by decide)
  have row1 := h1.mods hm (fun hk => xu x hk rfl)
  have o3 := own_mods h3 hm (fun k hk => own_type_ne h3 h2 (by decide) k hk)
  have o4 := own_mods h4 hm (fun k hk => own_type_ne h4 h2 (by decide) k hk)
  have hx1 : g1 ≠ x := by
    rcases hn with h | h
    · exact xu g1 h
    · have := h1.lt; omega
  refine ⟨row1, ⟨row1.set 1 _, ?_, own_keep o3 fun k hk => heap_setCell_other _ _ _ _ (by exact xg k hk), own_keep o4 fun k hk => heap_setCell_other _ _ _ _ (by exact xv k hk), h5⟩, (hm.more (fun k hk => .inl (foot_u k hk))).setCell (by simp [foot]) _, ?_⟩
  · have e : bs (us ++ [false]) = bs us ++ [.bool false] := by simp [bs]
    rw [e, List.length_append]
    exact own_keep hown fun k hk => by rw [heap_setCell_other _ _ _ _ (by rw [own_slice_block k hk]; exact hx1)]
  · intro k hk
    simp only [foot, List.mem_cons, List.mem_append] at hk
    rcases hk with rfl | hk | hk | hk
    · left; simp [foot]
    · rw [own_slice_block k hk]; exact hn.imp (foot_u g1) id
    · exact .inl (foot_g k hk)
    · exact .inl (foot_v k hk)
theorem grow2 {w0 w1 : World} {x g1 cap1 lim cnt : Nat} {uv gv vv : Value} {us : List Bool} {gs : List Nat} {vs : List Int} (h : RefQ w0 x uv gv vv lim cnt us gs vs)
    (hm : Mods gv.ownBlock.toList w0 w1) (hn : g1 ∈ gv.ownBlock.toList ∨ w0.heap.size ≤ g1)
    (hown : w1.ownsRow 0 3 1 (.slice (some ⟨g1, 0, none⟩) (gs.length + 1) cap1) (gs.length + 1) (ints gs ++ [.int .i64 0])) :
    Grown1 w0 w1 x 2 (.slice (some ⟨g1, 0, none⟩) (gs.length + 1) cap1) uv gv vv uv (.slice (some ⟨g1, 0, none⟩) (gs.length + 1) cap1) vv lim cnt us (gs ++ [0]) vs := by
  obtain ⟨h1, h2, h3, h4, h5⟩ := h
  have xu := own_ne_row h2 h1 (by decide)
  have xg := own_ne_row h3 h1 (by decide)
  have xv := own_ne_row h4 h1 (by decide)
  have row1 := h1.mods hm (fun hk => xg x hk rfl)
  have o2 := own_mods h2 hm (fun k hk => own_type_ne h2 h3 (by decide) k hk)
  have o4 := own_mods h4 hm (fun k hk hk' => h5 k hk' hk)
  have hx1 : g1 ≠ x := by
    rcases hn with h | h
    · exact xg g1 h
    · have := h1.lt; omega
  refine ⟨row1, ⟨row1.set 2 _, own_keep o2 fun k hk => heap_setCell_other _ _ _ _ (by exact xu k hk), ?_, own_keep o4 fun k hk => heap_setCell_other _ _ _ _ (by exact xv k hk), ?_⟩, (hm.more (fun k hk => .inl (foot_g k hk))).setCell (by simp [foot]) _, ?_⟩
  · have e : ints (gs ++ [0]) = ints gs ++ [.int .i64 0] := by simp [ints]
    rw [e, List.length_append]
    exact own_keep hown fun k hk => by rw [heap_setCell_other _ _ _ _ (by rw [own_slice_block k hk]; exact hx1)]
  · intro k hk
    rw [own_slice_block k hk]
    intro hv
    rcases hn with h | h
    · exact h5 g1 h hv
    · have := own_lt h4 g1 hv; omega
  · intro k hk
    simp only [foot, List.mem_cons, List.mem_append] at hk
    rcases hk with rfl | hk | hk | hk
    · left; simp [foot]
    · exact .inl (foot_u k hk)
    · rw [own_slice_block k hk]; exact hn.imp (foot_g g1) id
    · exact .inl (foot_v k hk)
theorem grow3 {w0 w1 : World} {x g1 cap1 lim cnt : Nat} {uv gv vv : Value} {us : List Bool} {gs : List Nat} {vs : List Int} (h : RefQ w0 x uv gv vv lim cnt us gs vs)
    (hm : Mods vv.ownBlock.toList w0 w1) (hn : g1 ∈ vv.ownBlock.toList ∨ w0.heap.size ≤ g1)
    (hown : w1.ownsRow 0 3 1 (.slice (some ⟨g1, 0, none⟩) (vs.length + 1) cap1) (vs.length + 1) (zs vs ++ [.int .i64 0])) :
    Grown1 w0 w1 x 3 (.slice (some ⟨g1, 0, none⟩) (vs.length + 1) cap1) uv gv vv uv gv (.slice (some ⟨g1, 0, none⟩) (vs.length + 1) cap1) lim cnt us gs (vs ++ [0]) := by
  obtain ⟨h1, h2, h3, h4, h5⟩ := h
  have xu := own_ne_row h2 h1 (by decide)
  have xg := own_ne_row h3 h1 (by decide)
  have xv := own_ne_row h4 h1 (by decide)
  have row1 := h1.mods hm (fun hk => xv x hk rfl)
  have o2 := own_mods h2 hm (fun k hk => own_type_ne h2 h4 (by decide) k hk)
  have o3 := own_mods h3 hm h5
  have hx1 : g1 ≠ x := by
    rcases hn with h | h
    · exact xv g1 h
    · have := h1.lt; omega
  refine ⟨row1, ⟨row1.set 3 _, own_keep o2 fun k hk => heap_setCell_other _ _ _ _ (by exact xu k hk), own_keep o3 fun k hk => heap_setCell_other _ _ _ _ (by exact xg k hk), ?_, ?_⟩, (hm.more (fun k hk => .inl (foot_v k hk))).setCell (by simp [foot]) _, ?_⟩
  · have e : zs (vs ++ [0]) = zs vs ++ [.int .i64 0] := by simp [zs]
    rw [e, List.length_append]
    exact own_keep hown fun k hk => by rw [heap_setCell_other _ _ _ _ (by rw [own_slice_block k hk]; exact hx1)]
  · intro k hk hv
    rw [own_slice_block k hv] at hk
    rcases hn with h | h
    · exact h5 g1 hk h
    · have := own_lt h3 g1 hk; omega
  · intro k hk
    simp only [foot, List.mem_cons, List.mem_append] at hk
    rcases hk with rfl | hk | hk | hk
    · left; simp [foot]
    · exact .inl (foot_u k hk)
    · exact .inl (foot_g k hk)
    · rw [own_slice_block k hk]; exact hn.imp (foot_v g1) id
theorem grown_end {w W : World} {x : Nat} {s1 s2 s3 : Value} {S : Slb} {K : Nat} (v : Int) (hq : RefQ W x s1 s2 s3 S.lim S.cnt (S.us ++ [false]) (S.gs ++ [0]) (S.vs ++ [0])) (hok : S.Ok K) (hl : S.us.length < S.lim) (hn : S.least = S.us.length)
    (hr : w.heap.size ∉ foot x s1 s2 s3) (hrow : Row W w.heap.size 47 #[.int .i64 0, .int .i64 0]) :
    ∃ ub gb vb cu cg cv z, foot x s1 s2 s3 = [x, ub, gb, vb] ∧ RefEnd w W x ub gb vb S.us.length (S.us.length + 1) (S.gs.length + 1) (S.vs.length + 1) cu cg cv 0 z v S.lim S.cnt (S.put v) K := by
  have hgl := hok.gl
  have l1 : S.grow.us.length = S.us.length + 1 := by simp [Slb.grow]
  have l2 : S.grow.gs.length = S.gs.length + 1 := by simp [Slb.grow]
  have l3 : S.grow.vs.length = S.vs.length + 1 := by simp [Slb.grow]
  have u1 : S.grow.us.getD S.us.length false = false := by simp only [Slb.grow, getD_snoc_bool]; simp
  have g1 : S.grow.gs.getD S.us.length 0 = 0 := by simp only [Slb.grow, getD_snoc_nat]; rw [if_pos hgl.symm]
  have c1 : S.grow.cnt = S.cnt := S.grow_cnt
  have hB : SlabB W x (foot x s1 s2 s3) S.grow K := ⟨s1, s2, s3, rfl, by rw [c1]; exact hq, Slb.grow_ok hok hl⟩
  obtain ⟨ub, gb, vb, cu, cg, cv, z, hF, ht⟩ := slabB_tail hB (i := S.us.length) (by omega) u1 hr
  rw [hF] at hB
  have hf := slabB_fill v hB (i := S.us.length) (by omega) u1 ht.a1 ht.a2 ht.a3 (gn := ((0 : Nat) : Int) + 1) (by rw [g1]) (m := (S.cnt : Int) + 1) (by rw [c1])
  rw [l1, l2, l3, c1, g1] at ht
  exact ⟨ub, gb, vb, cu, cg, cv, z, hF, ht, hrow, by rw [Slb.put_grow hok hn v, hn]; exact hf.1, hf.2⟩
theorem bool_info : (Tryd.prog.info? 4).map (fun i => (i.zero, i.size, i.bytes)) = some (some (.bool false), 1, 1) := by kernel_rfl
theorem int_info : (Tryd.prog.info? 3).map (fun i => (i.zero, i.size, i.bytes)) = some (some (.int .i64 0), 1, 8) := by kernel_rfl
set_option maxHeartbeats 2000000 in
theorem rput_grow (w : World) (g : Nat) (v : Int) (F : List Nat) (S : Slb) (K : Nat) (h : SlabB w g F S K) (hc : S.cnt < S.lim) (hK : K ≤ 4000000000000) (hn : S.least = S.us.length) :
    Calls Tryd.prog 67 #[.pointer (some ⟨g, 0, none⟩), .int .i64 v] w fun e w' => e = .returned (.tuple #[.agg #[.int .i64 S.least, .int .i64 S.gen], .int .i64 0]) ∧ Hid (∃ F', SlabB w' g F' (S.put v) (K + 1) ∧ Mods F w w' ∧ ∀ k ∈ F', k ∈ F ∨ w.heap.size ≤ k) := by
  obtain ⟨ib, hb0, hb1, hb2, hb3⟩ := info_parts bool_info
  obtain ⟨ii, hi0, hi1, hi2, hi3⟩ := info_parts int_info
  have HF := Lib.hid (fun k hk => slabB_lt h k hk)
  have HA := Lib.hid (slabB_keep (w' := w.alloc (.cells #[.int .i64 0, .int .i64 0] 47)) h fun k hk => Below.heap_alloc w _ k (slabB_lt h k hk))
  obtain ⟨uv, gv, vv, hF, hq, hok⟩ := HA.out
  obtain ⟨U, G, V, cu, cg, cv, rfl, rfl, rfl, hat⟩ := refQ_at hq 0
  obtain ⟨U', cu', c1, l1, l2, hx, c0, c4, _⟩ := rslab_loop_facts HA.out
  have e0 := hat.a1
  rw [c1] at e0
  injection e0 with e0
  injection e0 with e0 _ e1
  subst e0
  subst e1
  have HQ := Lib.hid hq
  have HOK := Lib.hid hok
  have HFF := Lib.hid hF
  have HN := Lib.hid hn
  have hlt := S.least_lt hok hc
  have hh := hok.hi
  have hl := hok.len
  have hgl := hok.gl
  have hvl := hok.vl
  have HX := Lib.hid (show ∀ k, k < S.us.length → ∃ ub, U' = some ⟨ub, 0, none⟩ ∧ (w.alloc (.cells #[.int .i64 0, .int .i64 0] 47)).cell? ⟨ub, k, none⟩ = some (.bool true) from fun k hk => by
    obtain ⟨ub', e, h⟩ := hx k hk
    exact ⟨ub', e, by rw [h, S.below_least k (by omega)]⟩)
  have HP := Lib.hid (S.put_grow hok hn v)
  have HG := Lib.hid (show S.gen = 1 by unfold Slb.gen; rw [hn, List.getD_eq_getElem?_getD, List.getElem?_eq_none (by rw [hok.gl]; omega)]; rfl)
  have hd : decide (S.lim ≤ S.cnt) = false := by simpa using hc
  have hcl := S.cnt_le
  rw [hn] at hlt HP ⊢
  have b1 := hat.a1
  have b2 := hat.a2
  have b3 := hat.a3
  have b4 := hat.a4
  have b5 := hat.f
  have hgl1 : S.gs.length ≤ S.us.length := by omega
  have hgl2 : S.us.length ≤ S.gs.length := by omega
  have hvl1 : S.vs.length ≤ S.us.length := by omega
  have hvl2 : S.us.length ≤ S.vs.length := by omega
  clear h hc hok hx hq hF hat hn hgl hvl
  go_enter Tryd.func67, Tryd.ntmps67
  go_wp2
  go_quiet (fail)
  go_wp2
  go_loop [6] (fun j => ∃ k : Nat, k ≤ S.us.length ∧ j = .int .i64 k) (fun j => S.us.length - (intOf j).toNat)
  case atStart => exact ⟨0, by omega, rfl⟩
  case round =>
    obtain ⟨k, hk, rfl⟩ := hrel
    by_cases hlt2 : k < S.us.length
    · obtain ⟨ub, rfl, hk2⟩ := HX.out k hlt2
      go_wp2
      go_round
      case rel => exact ⟨k + 1, by omega, by go_num⟩
      case measure => simp [intOf]; omega
    · have e : k = S.us.length := by omega
      subst e
      clear hlt2 hk
      go_upto_region 10 with (first
        | (at_builtin; refine wpList_append_lies _ rfl (.tmp 46) (.tmp 47) _ rfl 0 4 ib _ 1 1 Tryd.underlying54 hb0 hb1 hb2 hb3 rfl (by omega) (.slice U' S.us.length cu') S.us.length (bs S.us) rfl (own_mods HQ.out.2.1 (((Mods.refl [] (w.alloc _)).drewN nq).alloc _) (by simp)) ⟨w.heap.size + 1, 0, none⟩ 1 1 [.bool false] rfl rfl (World.news_of_block (new_at (by simp))) (by simp [Value.oneCell']) (by omega) (by unfold maxLen; omega) (by omega) (Nat.zero_le _) (w.heap.size + 2) (by simp) ?_; intro g1 cap1 w1 hown1 hg1 hat1 hlt1; obtain ⟨hm1, hn1⟩ := grow_new (((Mods.refl [] (w.alloc _)).drewN nq).alloc _) hg1 hat1 (by simp); have M1 := Lib.hid (grow1 HQ.out hm1 hn1 hown1); clear hown1 hg1 hat1 hm1 hn1; have r11 := M1.out.row.cell 1; have r12 := M1.out.row.cell 2; have r13 := M1.out.row.cell 3; have r14 := M1.out.row.cell 4; have r1f := M1.out.row.free; have z1 : w.heap.size + 1 ≤ w1.heap.size := by (have := M1.out.mods.size; simpa [World.setCell] using this))
        | (at_builtin; refine wpList_append_lies _ rfl (.tmp 55) (.tmp 56) _ rfl 0 3 ii _ 1 8 Tryd.underlying23 hi0 hi1 hi2 hi3 rfl (by omega) (.slice G S.gs.length cg) S.gs.length (ints S.gs) rfl (own_mods M1.out.q.2.2.1 ((Mods.refl [] (w1.setCell _ _)).alloc _) (by simp)) ⟨w1.heap.size, 0, none⟩ 1 1 [.int .i64 0] rfl rfl (World.news_of_block (new_at (by simp))) (by simp [Value.oneCell']) (by omega) (by unfold maxLen; omega) (by omega) (Nat.zero_le _) (w1.heap.size + 1) (by simp) ?_; intro g2 cap2 w2 hown1 hg1 hat1 hlt2; obtain ⟨hm1, hn1⟩ := grow_new ((Mods.refl [] (w1.setCell _ _)).alloc _) hg1 hat1 (by simp [World.setCell]); have M2 := Lib.hid (grow2 M1.out.q hm1 hn1 hown1); clear hown1 hg1 hat1 hm1 hn1; have r21 := M2.out.row.cell 1; have r22 := M2.out.row.cell 2; have r23 := M2.out.row.cell 3; have r24 := M2.out.row.cell 4; have r2f := M2.out.row.free)
        | (at_builtin; refine wpList_append_lies _ rfl (.tmp 64) (.tmp 65) _ rfl 0 3 ii _ 1 8 Tryd.underlying23 hi0 hi1 hi2 hi3 rfl (by omega) (.slice V S.vs.length cv) S.vs.length (zs S.vs) rfl (own_mods M2.out.q.2.2.2.1 ((Mods.refl [] (w2.setCell _ _)).alloc _) (by simp)) ⟨w2.heap.size, 0, none⟩ 1 1 [.int .i64 0] rfl rfl (World.news_of_block (new_at (by simp))) (by simp [Value.oneCell']) (by omega) (by unfold maxLen; omega) (by omega) (Nat.zero_le _) (w2.heap.size + 1) (by simp) ?_; intro g3 cap3 w3 hown1 hg1 hat1 hlt3; obtain ⟨hm1, hn1⟩ := grow_new ((Mods.refl [] (w2.setCell _ _)).alloc _) hg1 hat1 (by simp [World.setCell]); have M3 := Lib.hid (grow3 M2.out.q hm1 hn1 hown1); clear hown1 hg1 hat1 hm1 hn1; have r31 := M3.out.row.cell 1; have r32 := M3.out.row.cell 2; have r33 := M3.out.row.cell 3; have r34 := M3.out.row.cell 4; have r3f := M3.out.row.free))
      obtain ⟨W, ub, gb, vb, cu, cg, cv, z, F', hW, hE, hM, hN, hFe⟩ : ∃ (W : World) (ub gb vb cu cg cv : Nat) (z : Int) (F' : List Nat), W = w3.setCell ⟨g, 3, none⟩ (.slice (some ⟨g3, 0, none⟩) (S.vs.length + 1) cap3) ∧
          Hid (RefEnd w W g ub gb vb S.us.length (S.us.length + 1) (S.gs.length + 1) (S.vs.length + 1) cu cg cv 0 z v S.lim S.cnt (S.put v) K) ∧ Hid (Mods F w W) ∧ Hid (∀ k ∈ F', k ∈ F ∨ w.heap.size ≤ k) ∧ Hid (F' = [g, ub, gb, vb]) := by
        have m1 := M1.out.mods
        have m2 := M2.out.mods
        have m3 := M3.out.mods
        have n2 : ∀ k ∈ foot g (.slice (some ⟨g1, 0, none⟩) (S.us.length + 1) cap1) (.slice (some ⟨g2, 0, none⟩) (S.gs.length + 1) cap2) (.slice V S.vs.length cv), k ∈ foot g (.slice U' S.us.length cu') (.slice G S.gs.length cg) (.slice V S.vs.length cv) ∨ (w.alloc (.cells #[.int .i64 0, .int .i64 0] 47)).heap.size ≤ k := fun k hk => by
          rcases M2.out.new k hk with h | h
          · exact M1.out.new k h
          · exact .inr (Nat.le_trans m1.size h)
        have m12 := m1.trans m2 M1.out.new
        have n3 := fun k hk => show k ∈ foot g (.slice U' S.us.length cu') (.slice G S.gs.length cg) (.slice V S.vs.length cv) ∨ (w.alloc (.cells #[.int .i64 0, .int .i64 0] 47)).heap.size ≤ k from by
          rcases M3.out.new k hk with h | h
          · exact n2 k h
          · exact .inr (Nat.le_trans m12.size h)
        have m123 := m12.trans m3 n2
        have e : foot g (.slice U' S.us.length cu') (.slice G S.gs.length cg) (.slice V S.vs.length cv) = F := HFF.out.symm
        rw [e] at m123 n3
        have hz : (w.alloc (.cells #[.int .i64 0, .int .i64 0] 47)).heap.size = w.heap.size + 1 := by simp
        rw [hz] at n3
        have hrF : w.heap.size ∉ F := fun hk => by have := HF.out _ hk; omega
        obtain ⟨ub, gb, vb, cu, cg, cv, z, hF, hE⟩ := grown_end v M3.out.q HOK.out hlt HN.out (fun hk => by
          rcases n3 _ hk with h | h
          · exact hrF h
          · omega) ((Row.new w _ _).mods m123 hrF)
        exact ⟨_, ub, gb, vb, cu, cg, cv, z, _, rfl, Lib.hid hE, Lib.hid (((Mods.refl F w).alloc _).trans m123 (fun k hk => .inl hk)), Lib.hid (fun k hk => by
          rcases n3 k hk with h | h
          · exact .inl h
          · exact .inr (by omega)), Lib.hid hF⟩
      rw [← hW]
      clear hW b1 b2 b3 b4 b5 c0 c1 c4 r11 r12 r13 r14 r1f r21 r22 r23 r24 r2f r31 r32 r33 r34 r3f M1 M2 M3 hlt1 hlt2 hlt3
      have a1 := hE.out.tail.a1
      have a2 := hE.out.tail.a2
      have a3 := hE.out.tail.a3
      have a4 := hE.out.tail.a4
      have d1 := hE.out.tail.d1
      have d2 : W.cell? ⟨gb, S.us.length, none⟩ = some (.int .i64 0) := hE.out.tail.d2
      have d3 := hE.out.tail.d3
      have f0 := hE.out.tail.f0
      have f1 := hE.out.tail.f1
      have f2 := hE.out.tail.f2
      have f3 := hE.out.tail.f3
      have n1 := hE.out.tail.n1
      have n2 := hE.out.tail.n2
      have n3 := hE.out.tail.n3
      have n4 := hE.out.tail.n4
      have n5 := hE.out.tail.n5
      have n6 := hE.out.tail.n6
      have t1 := hE.out.tail.r1
      have t2 := hE.out.tail.r2
      have t3 := hE.out.tail.r3
      have t4 := hE.out.tail.r4
      have s0 : W.cell? ⟨w.heap.size, 0, none⟩ = some (.int .i64 0) := hE.out.row.cell 0
      have s1 : W.cell? ⟨w.heap.size, 1, none⟩ = some (.int .i64 0) := hE.out.row.cell 1
      have s2 := hE.out.row.free
      go_wp2
      exact ret_hand Tryd.results67 (hE.out.rows _ _) rfl rfl rfl ⟨by rw [HG.out]; rfl, Lib.hid ⟨F', by rw [hFe.out]; exact hE.out.fin _ _, ((hM.out.trans hE.out.mods (by rw [← hFe.out]; exact hN.out)).setCell (by simp) _).setCell (by simp) _, hN.out⟩⟩
end Go.Proofs.YthaapkafamdhcaaDoor

/- Put of the reference's slab, whatever slot is next. -/
namespace Go.Proofs.YthaapkafamdhcaaDoor
open Go.RowKit

theorem rput_any (w : World) (g : Nat) (v : Int) (F : List Nat) (S : Slb) (K : Nat) (h : SlabB w g F S K) (hc : S.cnt < S.lim) (hK : K ≤ 4000000000000) :
    Calls Tryd.prog 67 #[.pointer (some ⟨g, 0, none⟩), .int .i64 v] w fun e w' => e = .returned (.tuple #[.agg #[.int .i64 S.least, .int .i64 S.gen], .int .i64 0]) ∧
      Hid (∃ F', SlabB w' g F' (S.put v) (K + 1) ∧ Mods F w w' ∧ ∀ k ∈ F', k ∈ F ∨ w.heap.size ≤ k) := by
  by_cases hn : S.least = S.us.length
  · exact rput_grow w g v F S K h hc hK hn
  · exact (rput_fill w g v F S K h hc hK hn).mono fun e w' ⟨he, hs, hm⟩ => ⟨he, Lib.hid ⟨F, hs, hm, fun k hk => .inl hk⟩⟩
#print axioms rput_any
end Go.Proofs.YthaapkafamdhcaaDoor
