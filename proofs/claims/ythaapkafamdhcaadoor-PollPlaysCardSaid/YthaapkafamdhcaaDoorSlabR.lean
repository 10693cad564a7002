/- What stores make of the program's slab in memory. -/
import Derived.Test.YthaapkafamdhcaaDoorSlabB
namespace Go.Proofs.YthaapkafamdhcaaDoor
open Go.RowKit
set_option linter.unusedSimpArgs false

theorem testBit_clear (x k j : Nat) (hx : x < 2 ^ 64) (hk : k < 64) : (x &&& (18446744073709551615 - 2 ^ k)).testBit j = (x.testBit j && !decide (k = j)) := by
  have h1 : (2 : Nat) ^ k < 2 ^ 64 := Nat.pow_lt_pow_right (by decide) hk
  rw [Nat.testBit_and, show 18446744073709551615 - 2 ^ k = 2 ^ 64 - (2 ^ k + 1) by omega, Nat.testBit_two_pow_sub_succ h1, Nat.testBit_two_pow]
  rcases Nat.lt_or_ge j 64 with hj | hj
  · simp [hj]
  · rw [Nat.testBit_lt_two_pow (Nat.lt_of_lt_of_le hx (Nat.pow_le_pow_right (by decide) hj))]; simp
theorem clear_lt (x y : Nat) (hx : x < 2 ^ 64) : x &&& y < 2 ^ 64 := Nat.lt_of_le_of_lt Nat.and_le_left hx

theorem slabA_free {w : World} {g : Nat} {F : List Nat} {S : Slb} {K i : Nat} (h : SlabA w g F S K) (hi : i < S.us.length) (hu : S.us.getD i false = true) {sb cap u : Nat} {x m : Int}
    (c1 : w.cell? ⟨g, 2, none⟩ = some (.slice (some ⟨sb, 0, none⟩) S.us.length cap)) (c2 : w.cell? ⟨g, 3 + i / 64, none⟩ = some (.int .u64 u))
    (hx : x = ((u &&& (18446744073709551615 - 2 ^ (i % 64)) : Nat) : Int)) (hm : m = (S.cnt : Int) - 1) :
    SlabA (((w.setCell ⟨sb, i * 2 + 1, none⟩ (.int .i64 0)).setCell ⟨g, 3 + i / 64, none⟩ (.int .u64 x)).setCell ⟨g, 1, none⟩ (.int .i64 m)) g F (S.take i) K ∧
      Mods F w (((w.setCell ⟨sb, i * 2 + 1, none⟩ (.int .i64 0)).setCell ⟨g, 3 + i / 64, none⟩ (.int .u64 x)).setCell ⟨g, 1, none⟩ (.int .i64 m)) := by
  obtain ⟨sv, cs, xs, U, rfl, hrow, hsz, h0, h1, h2, hU, hown, hxs, hbit, hok⟩ := h
  have hl := hok.len
  have hh := hok.hi
  rw [hrow.cell, h2] at c1
  obtain rfl := Option.some.inj c1
  obtain ⟨hUi, hUl⟩ := hU (i / 64) (by omega)
  rw [hrow.cell, hUi] at c2
  have e2 : U (i / 64) = u := by injection c2 with c2; injection c2 with _ c2; omega
  have hne : sb ≠ g := own_ne_row hown hrow (by decide) sb (by simp [Value.ownBlock])
  have hcnt := Slb.take_cnt hi hu
  refine ⟨⟨_, (cs.setIfInBounds (3 + i / 64) (.int .u64 x)).setIfInBounds 1 (.int .i64 m), xs.set (i * 2 + 1) (.int .i64 0), fun j => if j = i / 64 then u &&& (18446744073709551615 - 2 ^ (i % 64)) else U j,
    rfl, ((hrow.far (by exact hne.symm) _).set _ _).set _ _, by simp [hsz], ?_, ?_, ?_, ?_, ?_, ?_, ?_, Slb.take_ok hok i⟩, ?_⟩
  · simp [Array.getElem?_setIfInBounds, h0, Slb.take]
  · simp [Array.getElem?_setIfInBounds, hsz]; omega
  · simp [Array.getElem?_setIfInBounds, h2, Slb.take]; omega
  · intro j hj
    obtain ⟨ha, hb⟩ := hU j hj
    have n1 : (1 : Nat) ≠ 3 + j := by omega
    by_cases e : j = i / 64
    · subst e
      simp only [if_true]
      refine ⟨?_, clear_lt _ _ (by omega)⟩
      rw [Array.getElem?_setIfInBounds_ne n1, Array.getElem?_setIfInBounds_self_of_lt (by omega), hx]
    · simp only [if_neg e]
      refine ⟨?_, hb⟩
      rw [Array.getElem?_setIfInBounds_ne n1, Array.getElem?_setIfInBounds_ne (by omega)]
      exact ha
  · have hs := (hown.stored (i * 2 + 1) (.int .i64 0)).1
    have hlen : (S.take i).us.length = S.us.length := by simp [Slb.take]
    rw [hlen]
    refine own_keep hs fun k hk => ?_
    have hkb : k = sb := by simpa [Value.ownBlock, eq_comm] using hk
    subst hkb
    rw [heap_setCell_other _ _ _ _ (by exact hne), heap_setCell_other _ _ _ _ (by exact hne)]
  · intro j hj
    have hj' : j < S.us.length := by simpa [Slb.take] using hj
    obtain ⟨ha, v, hb, hv⟩ := hxs j hj'
    have n1 : i * 2 + 1 ≠ 2 * j := by omega
    refine ⟨by rw [List.getElem?_set_ne n1]; exact ha, ?_⟩
    by_cases e : j = i
    · subst e
      refine ⟨0, by rw [Nat.mul_comm, List.getElem?_set_self (by have := hown.1; omega)], fun hf => ?_⟩
      have hz : (S.take j).us.getD j false = false := by simp only [Slb.take, getD_set_bool]; rw [if_pos (by simpa using hi)]
      rw [hz] at hf
      cases hf
    · refine ⟨v, by rw [List.getElem?_set_ne (by omega)]; exact hb, fun hf => hv ?_⟩
      simp only [Slb.take, getD_set_bool] at hf
      rwa [if_neg (by omega)] at hf
  · intro j hj
    simp only [Slb.take, getD_set_bool]
    by_cases e : j / 64 = i / 64
    · rw [if_pos e, testBit_clear _ _ _ (by omega) (by omega), ← e2, ← e, hbit j hj]
      by_cases e3 : i = j
      · subst e3; simp [hi]
      · rw [if_neg (by omega)]
        have : decide (i % 64 = j % 64) = false := by simp; omega
        simp [this]
    · rw [if_neg e, if_neg (by omega)]; exact hbit j hj
  · exact (((Mods.refl _ _).setCell (by simp [Value.ownBlock]) _).setCell (by simp) _).setCell (by simp) _
theorem getD_set_int (l : List Int) (i j : Nat) (x : Int) : (l.set i x).getD j 0 = if i = j ∧ i < l.length then x else l.getD j 0 := by
  simp only [List.getD_eq_getElem?_getD, List.getElem?_set]
  by_cases h : i = j
  · subst h
    by_cases h2 : i < l.length
    · simp [h2]
    · simp [h2]
  · simp [h]
theorem slabA_set {w : World} {g : Nat} {F : List Nat} {S : Slb} {K i : Nat} (h : SlabA w g F S K) (hi : i < S.us.length) {sb cap : Nat} (v : Int)
    (c1 : w.cell? ⟨g, 2, none⟩ = some (.slice (some ⟨sb, 0, none⟩) S.us.length cap)) :
    SlabA (w.setCell ⟨sb, i * 2 + 1, none⟩ (.int .i64 v)) g F (S.set i v) K ∧ Mods F w (w.setCell ⟨sb, i * 2 + 1, none⟩ (.int .i64 v)) := by
  obtain ⟨sv, cs, xs, U, rfl, hrow, hsz, h0, h1, h2, hU, hown, hxs, hbit, hok⟩ := h
  rw [hrow.cell, h2] at c1
  obtain rfl := Option.some.inj c1
  have hne : sb ≠ g := own_ne_row hown hrow (by decide) sb (by simp [Value.ownBlock])
  have hvl := hok.vl
  refine ⟨⟨_, cs, xs.set (i * 2 + 1) (.int .i64 v), U, rfl, hrow.far (by exact hne.symm) _, hsz, h0, h1, h2, hU, (hown.stored (i * 2 + 1) (.int .i64 v)).1, ?_, hbit, Slb.set_ok hok i v⟩, ?_⟩
  · intro j hj
    obtain ⟨ha, u, hb, hv⟩ := hxs j hj
    have n1 : i * 2 + 1 ≠ 2 * j := by omega
    refine ⟨by rw [List.getElem?_set_ne n1]; exact ha, ?_⟩
    by_cases e : j = i
    · subst e
      refine ⟨v, by rw [Nat.mul_comm, List.getElem?_set_self (by have := hown.1; have : j < S.us.length := hi; omega)], fun _ => ?_⟩
      simp only [Slb.set, getD_set_int]
      rw [if_pos (by simp; omega)]
    · refine ⟨u, by rw [List.getElem?_set_ne (by omega)]; exact hb, fun hf => ?_⟩
      simp only [Slb.set, getD_set_int]
      rw [if_neg (by omega)]
      exact hv hf
  · exact (Mods.refl _ _).setCell (by simp [Value.ownBlock]) _
end Go.Proofs.YthaapkafamdhcaaDoor
