/- What Put of the reference's slab makes of memory. -/
import Derived.Test.YtgfmjkbelciaaaaDoorRefT
import Derived.Test.YtgfmjkbelciaaaaDoorSlabQ
import Derived.Deep.Cut
namespace Go.Proofs.YtgfmjkbelciaaaaDoor
open Go.RowKit
set_option maxRecDepth 10000
set_option linter.unusedVariables false
set_option linter.unusedSimpArgs false

/-- What Put's end asks of memory. -/
structure RefTail (W : World) (x ub gb vb r i nu ng nv cu cg cv lim cnt gi : Nat) (z : Int) : Prop where
  a0 : W.cell? ⟨x, 0, none⟩ = some (.int .i64 lim)
  a1 : W.cell? ⟨x, 1, none⟩ = some (.slice (some ⟨ub, 0, none⟩) nu cu)
  a2 : W.cell? ⟨x, 2, none⟩ = some (.slice (some ⟨gb, 0, none⟩) ng cg)
  a3 : W.cell? ⟨x, 3, none⟩ = some (.slice (some ⟨vb, 0, none⟩) nv cv)
  a4 : W.cell? ⟨x, 4, none⟩ = some (.int .i64 cnt)
  d1 : W.cell? ⟨ub, i, none⟩ = some (.bool false)
  d2 : W.cell? ⟨gb, i, none⟩ = some (.int .i64 gi)
  d3 : W.cell? ⟨vb, i, none⟩ = some (.int .i64 z)
  f0 : ∀ j, W.frozen? ⟨x, j, none⟩ = false
  f1 : ∀ j, W.frozen? ⟨ub, j, none⟩ = false
  f2 : ∀ j, W.frozen? ⟨gb, j, none⟩ = false
  f3 : ∀ j, W.frozen? ⟨vb, j, none⟩ = false
  n1 : ub ≠ x
  n2 : gb ≠ x
  n3 : vb ≠ x
  n4 : ub ≠ gb
  n5 : ub ≠ vb
  n6 : gb ≠ vb
  r1 : r ≠ x
  r2 : r ≠ ub
  r3 : r ≠ gb
  r4 : r ≠ vb
theorem bs_set (l : List Bool) (i : Nat) (b : Bool) : bs (l.set i b) = (bs l).set i (.bool b) := by simp [bs]
theorem ints_set (l : List Nat) (i n : Nat) : ints (l.set i n) = (ints l).set i (.int .i64 (n : Nat)) := by simp [ints]
theorem zs_set (l : List Int) (i : Nat) (n : Int) : zs (l.set i n) = (zs l).set i (.int .i64 n) := by simp [zs]
theorem slabB_tail {W : World} {x r i : Nat} {F : List Nat} {S : Slb} {K : Nat} (h : SlabB W x F S K) (hi : i < S.us.length) (hu : S.us.getD i false = false) (hr : r ∉ F) :
    ∃ ub gb vb cu cg cv z, F = [x, ub, gb, vb] ∧ RefTail W x ub gb vb r i S.us.length S.gs.length S.vs.length cu cg cv S.lim S.cnt (S.gs.getD i 0) z := by
  obtain ⟨uv, gv, vv, rfl, ⟨h1, h2, h3, h4, h5⟩, hok⟩ := h
  have hgl := hok.gl
  have hvl := hok.vl
  have xu := own_ne_row h2 h1 (by decide)
  have xg := own_ne_row h3 h1 (by decide)
  have xv := own_ne_row h4 h1 (by decide)
  have ug := own_type_ne h2 h3 (by decide)
  have uv' := own_type_ne h2 h4 (by decide)
  obtain ⟨ub, cu, rfl, d1, f1⟩ := own_cell h2 hi (bs_at _ _ hi)
  obtain ⟨gb, cg, rfl, d2, f2⟩ := own_cell h3 (i := i) (by omega) (ints_at _ _ (by omega))
  obtain ⟨vb, cv, rfl, d3, f3⟩ := own_cell h4 (i := i) (by omega) (zs_at _ _ (by omega))
  simp only [Value.ownBlock, Option.toList, List.mem_cons, List.mem_nil_iff, or_false, List.mem_append, not_or] at hr xu xg xv ug uv' h5
  rw [hu] at d1
  exact ⟨ub, gb, vb, cu, cg, cv, _, by simp [Value.ownBlock], ⟨h1.cell 0, h1.cell 1, h1.cell 2, h1.cell 3, h1.cell 4, d1, d2, d3, h1.free, f1, f2, f3, xu ub rfl, xg gb rfl, xv vb rfl,
    ug ub rfl, uv' ub rfl, h5 gb rfl, hr.1, hr.2.1, hr.2.2.1, hr.2.2.2⟩⟩
theorem slabB_fill {W : World} {x i : Nat} {S : Slb} {K ub gb vb cu cg cv : Nat} (v : Int) (h : SlabB W x [x, ub, gb, vb] S K) (hi : i < S.us.length) (hu : S.us.getD i false = false)
    (a1 : W.cell? ⟨x, 1, none⟩ = some (.slice (some ⟨ub, 0, none⟩) S.us.length cu)) (a2 : W.cell? ⟨x, 2, none⟩ = some (.slice (some ⟨gb, 0, none⟩) S.gs.length cg)) (a3 : W.cell? ⟨x, 3, none⟩ = some (.slice (some ⟨vb, 0, none⟩) S.vs.length cv))
    {gn m : Int} (hgn : gn = (S.gs.getD i 0 : Int) + 1) (hm : m = (S.cnt : Int) + 1) :
    SlabB ((((W.setCell ⟨ub, i, none⟩ (.bool true)).setCell ⟨gb, i, none⟩ (.int .i64 gn)).setCell ⟨vb, i, none⟩ (.int .i64 v)).setCell ⟨x, 4, none⟩ (.int .i64 m)) x [x, ub, gb, vb] (S.fill i v) (K + 1) ∧
      Mods [x, ub, gb, vb] W ((((W.setCell ⟨ub, i, none⟩ (.bool true)).setCell ⟨gb, i, none⟩ (.int .i64 gn)).setCell ⟨vb, i, none⟩ (.int .i64 v)).setCell ⟨x, 4, none⟩ (.int .i64 m)) := by
  obtain ⟨uv, gv, vv, hF, ⟨h1, h2, h3, h4, h5⟩, hok⟩ := h
  rw [show W.cell? ⟨x, 1, none⟩ = some uv from h1.cell 1] at a1
  rw [show W.cell? ⟨x, 2, none⟩ = some gv from h1.cell 2] at a2
  rw [show W.cell? ⟨x, 3, none⟩ = some vv from h1.cell 3] at a3
  obtain rfl := Option.some.inj a1
  obtain rfl := Option.some.inj a2
  obtain rfl := Option.some.inj a3
  have xu : ub ≠ x := own_ne_row h2 h1 (by decide) ub (by simp [Value.ownBlock])
  have xg : gb ≠ x := own_ne_row h3 h1 (by decide) gb (by simp [Value.ownBlock])
  have xv : vb ≠ x := own_ne_row h4 h1 (by decide) vb (by simp [Value.ownBlock])
  have ug : ub ≠ gb := fun e => own_type_ne h2 h3 (by decide) ub (by simp [Value.ownBlock]) (by simp [Value.ownBlock, e])
  have uv' : ub ≠ vb := fun e => own_type_ne h2 h4 (by decide) ub (by simp [Value.ownBlock]) (by simp [Value.ownBlock, e])
  have gv' : gb ≠ vb := fun e => h5 gb (by simp [Value.ownBlock]) (by simp [Value.ownBlock, e])
  have hcnt := Slb.fill_cnt v hi hu
  have hmc : m = ((S.fill i v).cnt : Int) := by omega
  have one : ∀ (b n c : Nat) (k : Nat), k ∈ (Value.slice (some ⟨b, 0, none⟩) n c).ownBlock.toList → k = b := fun b n c k hk => by simpa [Value.ownBlock, eq_comm] using hk
  refine ⟨⟨_, _, _, hF, ⟨?_, ?_, ?_, ?_, h5⟩, Slb.fill_ok hok i v⟩, ((((Mods.refl _ _).setCell (by simp) _).setCell (by simp) _).setCell (by simp) _).setCell (by simp) _⟩
  · have := (((h1.far (p := ⟨ub, i, none⟩) (by exact xu.symm) (.bool true)).far (p := ⟨gb, i, none⟩) (by exact xg.symm) (.int .i64 gn)).far (p := ⟨vb, i, none⟩) (by exact xv.symm) (.int .i64 v)).set 4 (.int .i64 m)
    rw [hmc] at this ⊢
    exact this
  · have e2 : (S.fill i v).us.length = S.us.length := by simp [Slb.fill]
    rw [show bs (S.fill i v).us = (bs S.us).set i (.bool true) from bs_set _ _ _, e2]
    refine own_keep (h2.stored i (.bool true)).1 fun k hk => ?_
    obtain rfl := one _ _ _ k hk
    rw [heap_setCell_other _ _ _ _ (by exact xu), heap_setCell_other _ _ _ _ (by exact uv'), heap_setCell_other _ _ _ _ (by exact ug)]
  · have e2 : (S.fill i v).gs.length = S.gs.length := by simp [Slb.fill]
    have e3 : ints (S.fill i v).gs = (ints S.gs).set i (.int .i64 gn) := by rw [show ints (S.fill i v).gs = (ints S.gs).set i _ from ints_set _ _ _, hgn]; rfl
    rw [e3, e2]
    have h3' : (W.setCell ⟨ub, i, none⟩ (.bool true)).ownsRow 0 3 1 (.slice (some ⟨gb, 0, none⟩) S.gs.length cg) S.gs.length (ints S.gs) := own_keep h3 fun k hk => by
      obtain rfl := one _ _ _ k hk
      rw [heap_setCell_other _ _ _ _ (by exact ug.symm)]
    refine own_keep (h3'.stored i (.int .i64 gn)).1 fun k hk => ?_
    obtain rfl := one _ _ _ k hk
    rw [heap_setCell_other _ _ _ _ (by exact xg), heap_setCell_other _ _ _ _ (by exact gv')]
  · have e2 : (S.fill i v).vs.length = S.vs.length := by simp [Slb.fill]
    rw [show zs (S.fill i v).vs = (zs S.vs).set i (.int .i64 v) from zs_set _ _ _, e2]
    have h4' : ((W.setCell ⟨ub, i, none⟩ (.bool true)).setCell ⟨gb, i, none⟩ (.int .i64 gn)).ownsRow 0 3 1 (.slice (some ⟨vb, 0, none⟩) S.vs.length cv) S.vs.length (zs S.vs) := own_keep h4 fun k hk => by
      obtain rfl := one _ _ _ k hk
      rw [heap_setCell_other _ _ _ _ (by exact gv'.symm), heap_setCell_other _ _ _ _ (by exact uv'.symm)]
    refine own_keep (h4'.stored i (.int .i64 v)).1 fun k hk => ?_
    obtain rfl := one _ _ _ k hk
    rw [heap_setCell_other _ _ _ _ (by exact xv)]
theorem rput_full (w : World) (g : Nat) (v : Int) (F : List Nat) (S : Slb) (K : Nat) (h : SlabB w g F S K) (hc : S.lim ≤ S.cnt) :
    Calls Tryd.prog 34 #[.pointer (some ⟨g, 0, none⟩), .int .i64 v] w fun e w' => e = .returned (.tuple #[.agg #[.int .i64 0, .int .i64 0], .int .i64 3]) ∧ Mods [] w w' := by
  obtain ⟨uv, gv, vv, hF, ⟨hrow, h2, h3, h4, h5⟩, hok⟩ := h
  have c0 : w.cell? ⟨g, 0, none⟩ = some (.int .i64 S.lim) := hrow.cell 0
  have c1 : w.cell? ⟨g, 4, none⟩ = some (.int .i64 S.cnt) := hrow.cell 4
  have a0 := fun o => cell_alloc c0 o
  have a1 := fun o => cell_alloc c1 o
  have hd : decide (S.lim ≤ S.cnt) = true := by simpa using hc
  clear hrow h2 h3 h4 h5 hok hF
  go_enter Tryd.func34, Tryd.ntmps34
  go_wp2
  go_quiet (fail)
  go_wp2
  exact ret_hand Tryd.results34 ((((Row.new w _ _).drewN nq).set 0 _).set 1 _) rfl rfl rfl ⟨rfl, ((((Mods.refl _ _).alloc _).drewN _).setCell (by simp) _).setCell (by simp) _⟩
end Go.Proofs.YtgfmjkbelciaaaaDoor
