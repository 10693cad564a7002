/- What Get, Set, Take of the reference's slab answer. -/
import Derived.Test.YtdkcdljhpopakaaDoorRefA
namespace Go.Proofs.YtdkcdljhpopakaaDoor
open Go.RowKit
set_option maxRecDepth 10000
set_option linter.unusedVariables false
set_option linter.unusedSimpArgs false

theorem slabB_slot {w : World} {x i : Nat} {F : List Nat} {S : Slb} {K : Nat} (h : SlabB w x F S K) (hi : i < S.us.length) :
    ∃ vb cap, vb ∈ F ∧ vb ≠ x ∧ w.cell? ⟨x, 3, none⟩ = some (.slice (some ⟨vb, 0, none⟩) S.vs.length cap) ∧ S.vs.length ≤ cap ∧ cap ≤ maxLen ∧ w.cell? ⟨vb, i, none⟩ = some (.int .i64 (S.vs.getD i 0)) ∧ (∀ j, w.frozen? ⟨vb, j, none⟩ = false) := by
  obtain ⟨uv, gv, vv, rfl, ⟨h1, h2, h3, h4, h5⟩, hok⟩ := h
  have hvl := hok.vl
  obtain ⟨vb, cap, rfl, hc, hf⟩ := own_cell h4 (i := i) (by omega) (zs_at _ _ (by omega))
  obtain ⟨_, _, e, e1, e2⟩ := own_slice h4
  injection e with _ _ e
  subst e
  exact ⟨vb, cap, by simp [Value.ownBlock], own_ne_row h4 h1 (by decide) vb (by simp [Value.ownBlock]), h1.cell 3, e1, e2, hc, hf⟩
theorem slabB_set {w : World} {x : Nat} {F : List Nat} {S : Slb} {K i : Nat} (h : SlabB w x F S K) (hi : i < S.us.length) {vb cap : Nat} (v : Int)
    (c1 : w.cell? ⟨x, 3, none⟩ = some (.slice (some ⟨vb, 0, none⟩) S.vs.length cap)) :
    SlabB (w.setCell ⟨vb, i, none⟩ (.int .i64 v)) x F (S.set i v) K ∧ Mods F w (w.setCell ⟨vb, i, none⟩ (.int .i64 v)) := by
  obtain ⟨uv, gv, vv, rfl, ⟨h1, h2, h3, h4, h5⟩, hok⟩ := h
  rw [show w.cell? ⟨x, 3, none⟩ = some vv from h1.cell 3] at c1
  obtain rfl := Option.some.inj c1
  have hvx : vb ≠ x := own_ne_row h4 h1 (by decide) vb (by simp [Value.ownBlock])
  have hvl := hok.vl
  have hvg : ∀ k ∈ gv.ownBlock.toList, k ≠ vb := fun k hk e => h5 k hk (by simp [Value.ownBlock, e])
  have hvu : ∀ k ∈ uv.ownBlock.toList, k ≠ vb := by
    intro k hk e
    subst e
    rcases h4.2 with ⟨h, _⟩ | ⟨g', cap', cur, h, _, hh, _⟩
    · cases h
    · injection h with h _ _
      injection h with h
      injection h with h _ _
      subst h
      exact own_ne_row h2 (t := 3) hh (by decide) _ hk rfl
  have hs := (h4.stored i (.int .i64 v)).1
  refine ⟨⟨uv, gv, _, rfl, ⟨h1.far (by exact hvx.symm) _, own_keep h2 fun k hk => heap_setCell_other _ _ _ _ (by exact hvu k hk), own_keep h3 fun k hk => heap_setCell_other _ _ _ _ (by exact hvg k hk), ?_, h5⟩, Slb.set_ok hok i v⟩, (Mods.refl _ _).setCell (by simp [Value.ownBlock]) _⟩
  have e : zs (S.set i v).vs = (zs S.vs).set i (.int .i64 v) := by simp [zs, Slb.set]
  have e2 : (S.set i v).vs.length = S.vs.length := by simp [Slb.set]
  rw [e, e2]
  exact hs
theorem rget_no (w : World) (g : Nat) (a b : Int) (F : List Nat) (S : Slb) (K : Nat) (ha : -9223372036854775808 ≤ a) (ha' : a ≤ 9223372036854775807) (h : SlabB w g F S K) (hs : S.is a b = false) :
    Calls Tryd.prog 17 #[.pointer (some ⟨g, 0, none⟩), .agg #[.int .i64 a, .int .i64 b]] w fun e w' => e = .returned (.tuple #[.int .i64 0, .int .i64 10]) ∧ Mods [] w w' := by
  have HA := Lib.hid h
  have HS := Lib.hid hs
  clear h hs
  go_enter Tryd.func17, Tryd.ntmps17
  go_wp2_with fail
  refine (is_any _ g a b F S K ha ha' (slabB_keep HA.out fun k hk => Below.heap_alloc w _ k (slabB_lt HA.out k hk))).mono ?_
  rw [HS.out]
  rintro e w1 ⟨rfl, hd⟩
  have H1 := Lib.hid (((Mods.refl [] w).alloc _).trans hd (by simp))
  clear hd
  go_wp2
  go_ret2
  exact ⟨rfl, H1.out⟩
theorem rget_yes (w : World) (g i : Nat) (b : Int) (F : List Nat) (S : Slb) (K : Nat) (hi : i < 4096) (h : SlabB w g F S K) (hs : S.is i b = true) :
    Calls Tryd.prog 17 #[.pointer (some ⟨g, 0, none⟩), .agg #[.int .i64 i, .int .i64 b]] w fun e w' => e = .returned (.tuple #[.int .i64 (S.vs.getD i 0), .int .i64 0]) ∧ Mods [] w w' := by
  have HA := Lib.hid h
  have HS := Lib.hid hs
  obtain ⟨_, hl, hu, _⟩ := Slb.is_lt hs
  rw [Int.toNat_natCast] at hl hu
  have hok : S.Ok K := by obtain ⟨_, _, _, _, _, hok⟩ := h; exact hok
  have hvl := hok.vl
  obtain ⟨vb, cap, hF, hne, c2, hcap, hmx, c3, hfr⟩ := slabB_slot h hl
  have C2 := Lib.hid c2
  have C3 := Lib.hid c3
  have q1 : (0 : Int) ≤ (i : Int) := by omega
  have q2 : (i : Int) < S.vs.length := by omega
  clear h hs hu c2 c3 hF hok
  generalize S.vs.getD i 0 = z at *
  go_enter Tryd.func17, Tryd.ntmps17
  go_wp2_with fail
  refine (is_any _ g i b F S K (by omega) (by omega) (slabB_keep HA.out fun k hk => Below.heap_alloc w _ k (slabB_lt HA.out k hk))).mono ?_
  rw [HS.out]
  rintro e w1 ⟨rfl, hd⟩
  have H1 := Lib.hid (((Mods.refl [] w).alloc _).trans hd (by simp))
  have c2 := cell_mods C2.out H1.out (by simp)
  have c3 := cell_mods C3.out H1.out (by simp)
  have c4 := cell_new hd (by simp) 0
  clear hd
  go_wp2
  go_quiet (fail)
  go_wp2
  go_ret2
  exact ⟨rfl, H1.out.drewN _⟩
theorem rset_no (w : World) (g : Nat) (a b v : Int) (F : List Nat) (S : Slb) (K : Nat) (ha : -9223372036854775808 ≤ a) (ha' : a ≤ 9223372036854775807) (h : SlabB w g F S K) (hs : S.is a b = false) :
    Calls Tryd.prog 13 #[.pointer (some ⟨g, 0, none⟩), .agg #[.int .i64 a, .int .i64 b], .int .i64 v] w fun e w' => e = .returned (.int .i64 10) ∧ Mods [] w w' := by
  have HA := Lib.hid h
  have HS := Lib.hid hs
  clear h hs
  go_enter Tryd.func13, Tryd.ntmps13
  go_wp2_with fail
  refine (is_any _ g a b F S K ha ha' (slabB_keep HA.out fun k hk => Below.heap_alloc w _ k (slabB_lt HA.out k hk))).mono ?_
  rw [HS.out]
  rintro e w1 ⟨rfl, hd⟩
  have H1 := Lib.hid (((Mods.refl [] w).alloc _).trans hd (by simp))
  clear hd
  go_wp2
  go_ret
  exact ⟨rfl, H1.out⟩
theorem rset_yes (w : World) (g i : Nat) (b v : Int) (F : List Nat) (S : Slb) (K : Nat) (hi : i < 4096) (h : SlabB w g F S K) (hs : S.is i b = true) :
    Calls Tryd.prog 13 #[.pointer (some ⟨g, 0, none⟩), .agg #[.int .i64 i, .int .i64 b], .int .i64 v] w fun e w' => e = .returned (.int .i64 0) ∧ SlabB w' g F (S.set i v) K ∧ Mods F w w' := by
  have HA := Lib.hid h
  have HS := Lib.hid hs
  obtain ⟨_, hl, hu, _⟩ := Slb.is_lt hs
  rw [Int.toNat_natCast] at hl hu
  have hok : S.Ok K := by obtain ⟨_, _, _, _, _, hok⟩ := h; exact hok
  have hvl := hok.vl
  obtain ⟨vb, cap, hF, hne, c2, hcap, hmx, c3, hfr⟩ := slabB_slot h hl
  have C2 := Lib.hid c2
  have C3 := Lib.hid c3
  have HF := Lib.hid hfr
  have q1 : (0 : Int) ≤ (i : Int) := by omega
  have q2 : (i : Int) < S.vs.length := by omega
  clear h hs hu c2 c3 hF hfr hok
  generalize S.vs.getD i 0 = z at *
  go_enter Tryd.func13, Tryd.ntmps13
  go_wp2_with fail
  refine (is_any _ g i b F S K (by omega) (by omega) (slabB_keep HA.out fun k hk => Below.heap_alloc w _ k (slabB_lt HA.out k hk))).mono ?_
  rw [HS.out]
  rintro e w1 ⟨rfl, hd⟩
  have H1 := Lib.hid (((Mods.refl [] w).alloc _).trans hd (by simp))
  have c2 := cell_mods C2.out H1.out (by simp)
  have c3 := cell_mods C3.out H1.out (by simp)
  have c4 := cell_new hd (by simp) 0
  have f3 : w1.frozen? ⟨vb, i, none⟩ = false := (H1.out.frozen (World.block_lt_of_cell? w _ C3.out) (by simp)).trans (HF.out _)
  have HR := Lib.hid (slabB_set (slabB_mods HA.out H1.out (by simp)) hl v c2)
  clear hd hl
  go_wp2
  go_region
  all_goals go_wp2
  all_goals go_ret
  all_goals exact ⟨rfl, HR.out.1, (H1.out.more (by simp)).trans HR.out.2.drew (by intro k hk; exact .inl hk)⟩
end Go.Proofs.YtdkcdljhpopakaaDoor
