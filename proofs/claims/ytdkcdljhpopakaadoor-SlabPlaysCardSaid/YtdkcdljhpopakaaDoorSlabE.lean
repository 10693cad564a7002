/- What Set, Take of the program's slab answer. -/
import Derived.Test.YtdkcdljhpopakaaDoorSlabD
import Derived.BigRegion
namespace Go.Proofs.YtdkcdljhpopakaaDoor
open Go.RowKit
set_option maxRecDepth 10000

theorem set_nil (a b v : Int) (w : World) :
    Calls Tryd.prog 12 #[.pointer none, .agg #[.int .i64 a, .int .i64 b], .int .i64 v] w fun e w' => e = .returned (.int .i64 1) ∧ Mods [] w w' := by
  go_enter Tryd.func12, Tryd.ntmps12
  go_wp2
  go_ret
  exact ⟨rfl, (Mods.refl [] w).alloc _⟩
theorem set_no (w : World) (g : Nat) (a b v : Int) (F : List Nat) (S : Slb) (K : Nat) (ha : -9223372036854775808 ≤ a) (ha' : a ≤ 9223372036854775807) (h : SlabA w g F S K) (hs : S.is a b = false) :
    Calls Tryd.prog 12 #[.pointer (some ⟨g, 0, none⟩), .agg #[.int .i64 a, .int .i64 b], .int .i64 v] w fun e w' => e = .returned (.int .i64 10) ∧ Mods [] w w' := by
  have HA := Lib.hid h
  have HS := Lib.hid hs
  clear h hs
  go_enter Tryd.func12, Tryd.ntmps12
  go_wp2_with fail
  refine (inUse_any _ g a b F S K ha ha' (slabA_keep HA.out fun k hk => Below.heap_alloc w _ k (slabA_lt HA.out k hk))).mono ?_
  rw [HS.out]
  rintro e w1 ⟨rfl, hd⟩
  have H1 := Lib.hid (((Mods.refl [] w).alloc _).trans hd (by simp))
  clear hd
  go_wp2
  go_ret
  exact ⟨rfl, H1.out⟩
theorem set_yes (w : World) (g i : Nat) (b v : Int) (F : List Nat) (S : Slb) (K : Nat) (hi : i < 4096) (h : SlabA w g F S K) (hs : S.is i b = true) :
    Calls Tryd.prog 12 #[.pointer (some ⟨g, 0, none⟩), .agg #[.int .i64 i, .int .i64 b], .int .i64 v] w fun e w' => e = .returned (.int .i64 0) ∧ SlabA w' g F (S.set i v) K ∧ Mods F w w' := by
  have HA := Lib.hid h
  have HS := Lib.hid hs
  obtain ⟨_, hl, hu, _⟩ := Slb.is_lt hs
  rw [Int.toNat_natCast] at hl hu
  obtain ⟨sb, cap, hF, hne, c2, hcap, hmx, c3, hfr⟩ := slabA_slot h hl hu
  have C2 := Lib.hid c2
  have C3 := Lib.hid c3
  have HF := Lib.hid hfr
  have HL := Lib.hid hl
  have HFF := Lib.hid hF
  have q1 : (0 : Int) ≤ (i : Int) := by omega
  have q2 : (i : Int) < S.us.length := by omega
  clear h hs hu c2 c3 hF hfr
  go_enter Tryd.func12, Tryd.ntmps12
  go_wp2_with fail
  refine (inUse_any _ g i b F S K (by omega) (by omega) (slabA_keep HA.out fun k hk => Below.heap_alloc w _ k (slabA_lt HA.out k hk))).mono ?_
  rw [HS.out]
  rintro e w1 ⟨rfl, hd⟩
  have H1 := Lib.hid (((Mods.refl [] w).alloc _).trans hd (by simp))
  have c2 := cell_mods C2.out H1.out (by simp)
  have c3 := cell_mods C3.out H1.out (by simp)
  have c4 := cell_new hd (by simp) 0
  have f3 : w1.frozen? ⟨sb, i * 2 + 1, none⟩ = false := (H1.out.frozen (World.block_lt_of_cell? w _ C3.out) (by simp)).trans (HF.out _)
  have HR := Lib.hid (slabA_set (slabA_mods HA.out H1.out (by simp)) hl v c2)
  clear hd hl
  go_wp2
  go_region
  all_goals go_wp2
  all_goals go_ret
  all_goals exact ⟨rfl, HR.out.1, (H1.out.more (by simp)).trans HR.out.2.drew (by intro k hk; exact .inl hk)⟩
end Go.Proofs.YtdkcdljhpopakaaDoor
