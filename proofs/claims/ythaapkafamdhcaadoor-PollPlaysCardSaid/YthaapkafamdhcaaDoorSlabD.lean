/- What Len, Get, Set of the program's slab answer. -/
import Derived.Test.YthaapkafamdhcaaDoorSlabC
namespace Go.Proofs.YthaapkafamdhcaaDoor
open Go.RowKit
set_option maxRecDepth 10000

theorem slen_nil (w : World) : Calls Tryd.prog 49 #[.pointer none] w fun e w' => e = .returned (.int .i64 0) ∧ w = w' := by
  go_enter Tryd.func49, Tryd.ntmps49
  go_wp2
  go_ret
  exact ⟨rfl, rfl⟩
theorem slen_any (w : World) (g : Nat) (F : List Nat) (S : Slb) (K : Nat) (h : SlabA w g F S K) :
    Calls Tryd.prog 49 #[.pointer (some ⟨g, 0, none⟩)] w fun e w' => e = .returned (.int .i64 S.cnt) ∧ w = w' := by
  obtain ⟨sv, cs, xs, U, hF, hrow, hsz, h0, h1, h2, hU, hown, hx, hbit, hok⟩ := h
  have c0 : w.cell? ⟨g, 1, none⟩ = some (.int .i64 S.cnt) := by rw [hrow.cell]; exact h1
  clear hx hU hbit h0 h1 h2 hown hF hok
  go_enter Tryd.func49, Tryd.ntmps49
  go_wp2
  go_ret
  exact ⟨rfl, rfl⟩

/-- The cells of a slot that is in use. -/
theorem slabA_slot {w : World} {g i : Nat} {F : List Nat} {S : Slb} {K : Nat} (h : SlabA w g F S K) (hi : i < S.us.length) (hu : S.us.getD i false = true) :
    ∃ sb cap, F = [g, sb] ∧ sb ≠ g ∧ w.cell? ⟨g, 2, none⟩ = some (.slice (some ⟨sb, 0, none⟩) S.us.length cap) ∧ S.us.length ≤ cap ∧ cap ≤ maxLen ∧ w.cell? ⟨sb, i * 2 + 1, none⟩ = some (.int .i64 (S.vs.getD i 0)) ∧ (∀ j, w.frozen? ⟨sb, j, none⟩ = false) := by
  obtain ⟨sv, cs, xs, U, hF, hrow, hsz, h0, h1, h2, hU, hown, hx, hbit, hok⟩ := h
  obtain ⟨sb, cap, rfl, hsb, hcap, hmx⟩ := own_some hown (by omega)
  obtain ⟨hx1, v, hx2, hv⟩ := hx i hi
  obtain rfl := hv hu
  refine ⟨sb, cap, by simpa [Value.ownBlock] using hF, own_ne_row hown hrow (by decide) sb (by simp [Value.ownBlock]), by rw [hrow.cell]; exact h2, hcap, hmx, ?_, hown.frozenAt⟩
  rw [hown.cellAt _ (by omega), Nat.mul_comm]; exact hx2
theorem not_nil_get (a b : Int) (w : World) :
    Calls Tryd.prog 65 #[.pointer none, .agg #[.int .i64 a, .int .i64 b]] w fun e w' => e = .returned (.tuple #[.int .i64 0, .int .i64 10]) ∧ Mods [] w w' := by
  go_enter Tryd.func65, Tryd.ntmps65
  go_wp2_with fail
  refine (inUse_nil _ _ _).mono ?_
  rintro e w1 ⟨rfl, hd⟩
  have H1 := Lib.hid (((Mods.refl [] w).alloc _).trans hd (by simp))
  clear hd
  go_wp2
  go_ret2
  exact ⟨rfl, H1.out⟩
theorem get_no (w : World) (g : Nat) (a b : Int) (F : List Nat) (S : Slb) (K : Nat) (ha : -9223372036854775808 ≤ a) (ha' : a ≤ 9223372036854775807) (h : SlabA w g F S K) (hs : S.is a b = false) :
    Calls Tryd.prog 65 #[.pointer (some ⟨g, 0, none⟩), .agg #[.int .i64 a, .int .i64 b]] w fun e w' => e = .returned (.tuple #[.int .i64 0, .int .i64 10]) ∧ Mods [] w w' := by
  have HA := Lib.hid h
  have HS := Lib.hid hs
  clear h hs
  go_enter Tryd.func65, Tryd.ntmps65
  go_wp2_with fail
  refine (inUse_any _ g a b F S K ha ha' (slabA_keep HA.out fun k hk => Below.heap_alloc w _ k (slabA_lt HA.out k hk))).mono ?_
  rw [HS.out]
  rintro e w1 ⟨rfl, hd⟩
  have H1 := Lib.hid (((Mods.refl [] w).alloc _).trans hd (by simp))
  clear hd
  go_wp2
  go_ret2
  exact ⟨rfl, H1.out⟩
theorem get_yes (w : World) (g i : Nat) (b : Int) (F : List Nat) (S : Slb) (K : Nat) (hi : i < 4096) (h : SlabA w g F S K) (hs : S.is i b = true) :
    Calls Tryd.prog 65 #[.pointer (some ⟨g, 0, none⟩), .agg #[.int .i64 i, .int .i64 b]] w fun e w' => e = .returned (.tuple #[.int .i64 (S.vs.getD i 0), .int .i64 0]) ∧ Mods [] w w' := by
  have HA := Lib.hid h
  have HS := Lib.hid hs
  obtain ⟨_, hl, hu, _⟩ := Slb.is_lt hs
  rw [Int.toNat_natCast] at hl hu
  obtain ⟨sb, cap, hF, hne, c2, hcap, hmx, c3, hfr⟩ := slabA_slot h hl hu
  have C2 := Lib.hid c2
  have C3 := Lib.hid c3
  have HU := Lib.hid hu
  have q1 : (0 : Int) ≤ (i : Int) := by omega
  have q2 : (i : Int) < S.us.length := by omega
  clear h hs hu c2 c3 hF
  go_enter Tryd.func65, Tryd.ntmps65
  go_wp2_with fail
  refine (inUse_any _ g i b F S K (by omega) (by omega) (slabA_keep HA.out fun k hk => Below.heap_alloc w _ k (slabA_lt HA.out k hk))).mono ?_
  rw [HS.out]
  rintro e w1 ⟨rfl, hd⟩
  have H1 := Lib.hid (((Mods.refl [] w).alloc _).trans hd (by simp))
  have c2 := cell_mods C2.out H1.out (by simp)
  have c3 := cell_mods C3.out H1.out (by simp)
  have c4 := cell_new hd (by simp) 0
  clear hd
  go_wp2
  go_quiet (fail)
  go_wp2
  go_ret2
  exact ⟨rfl, H1.out.drewN _⟩
end Go.Proofs.YthaapkafamdhcaaDoor
