/- What free, Len, Get, Set of the program's slab answer. -/
import Derived.Test.YthaapkafamdhcaaDoorSlabR
import Derived.Deep.RegionHeld3
import Derived.StillTailTactics
import Derived.Deep.RegionWith
namespace Go.Proofs.YthaapkafamdhcaaDoor
open Go.RowKit
set_option maxRecDepth 10000

theorem andNot_pow (x k : Nat) (hx : x < 2 ^ 64) (hk : k < 64) : bits .andNot .u64 (x : Int) ((2 : Int) ^ k) = ((x &&& (18446744073709551615 - 2 ^ k) : Nat) : Int) := by
  have h1 : (2 : Nat) ^ k < 2 ^ 64 := Nat.pow_lt_pow_right (by decide) hk
  have e : ((2 : Int) ^ k) = ((2 ^ k : Nat) : Int) := by simp
  rw [e, u64_andNot_nat _ _ hx h1]
theorem free_any (w : World) (g i : Nat) (F : List Nat) (S : Slb) (K : Nat) (h : SlabA w g F S K) (hi : i < S.us.length) (hu : S.us.getD i false = true) :
    Calls Tryd.prog 86 #[.pointer (some ⟨g, 0, none⟩), .int .i64 i] w fun e w' => e = .returned (.tuple #[]) ∧ SlabA w' g F (S.take i) K ∧ Mods F w w' := by
  have HA := Lib.hid h
  obtain ⟨sv, cs, xs, U, hF, hrow, hsz, h0, h1, h2, hU, hown, hx, hbit, hok⟩ := h
  have hl := hok.len
  have hh := hok.hi
  obtain ⟨sb, cap, rfl, hsb, hcap, hmx⟩ := own_some hown (by omega)
  have hne : sb ≠ g := own_ne_row hown hrow (by decide) sb (by simp [Value.ownBlock])
  obtain ⟨hx1, v, hx2, hv⟩ := hx i hi
  obtain ⟨hUi, hUl⟩ := hU (i / 64) (by omega)
  have c0 : w.cell? ⟨g, 1, none⟩ = some (.int .i64 S.cnt) := by rw [hrow.cell]; exact h1
  have c1 : w.cell? ⟨g, 2, none⟩ = some (.slice (some ⟨sb, 0, none⟩) S.us.length cap) := by rw [hrow.cell]; exact h2
  have c2 : w.cell? ⟨g, 3 + i / 64, none⟩ = some (.int .u64 (U (i / 64))) := by rw [hrow.cell]; exact hUi
  have c3 : w.cell? ⟨sb, i * 2 + 1, none⟩ = some (.int .i64 v) := by
    rw [hown.cellAt _ (by omega), Nat.mul_comm]; exact hx2
  have f1 := hrow.free
  have f2 := hown.frozenAt
  have hcnt : S.cnt ≤ S.us.length := S.cnt_le
  have HB := Lib.hid (slabA_free HA.out hi hu c1 c2 (andNot_pow (U (i / 64)) (i % 64) hUl (by omega)) (m := S.cnt - 1) rfl)
  clear hu
  have q1 : (0 : Int) ≤ (i : Int) / 64 := by omega
  have q2 : (i : Int) / 64 < 64 := by omega
  clear hx hU hbit h0 h1 h2 hown hF hok hx1 hx2 hUi hv
  go_enter Tryd.func86, Tryd.ntmps86
  have q3 : IntKind.i64.wrap ((i : Int).tdiv 64) = (i : Int) / 64 := by
    rw [Int.tdiv_eq_ediv_of_nonneg (by omega), IntKind.wrap_i64]; omega
  have q4 : IntKind.i64.wrap ((i : Int) / 64) = (i : Int) / 64 := by
    rw [IntKind.wrap_i64]; omega
  have q5 : (i : Int).tdiv 64 = (i : Int) / 64 := Int.tdiv_eq_ediv_of_nonneg (by omega)
  have q6 : ((i : Int) / 64).toNat = i / 64 := by omega
  go_wp2
  go_region_with (go_at_call 82; refine (bit_any i _ (by omega)).mono ?_; rintro e w' ⟨rfl, rfl⟩)
  all_goals go_wp2
  all_goals go_end0
  all_goals exact ⟨rfl, HB.out.1, HB.out.2.drew⟩
end Go.Proofs.YthaapkafamdhcaaDoor
