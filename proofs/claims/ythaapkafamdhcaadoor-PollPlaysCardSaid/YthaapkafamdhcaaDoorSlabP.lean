/- What Put of the program's slab makes of memory. -/
import Derived.Test.YthaapkafamdhcaaDoorSlabN
namespace Go.Proofs.YthaapkafamdhcaaDoor
open Go.RowKit
set_option linter.unusedSimpArgs false
set_option linter.unusedVariables false

def Slb.grow (S : Slb) : Slb := { S with us := S.us ++ [false], gs := S.gs ++ [0], vs := S.vs ++ [0] }
def Slb.fill (S : Slb) (i : Nat) (v : Int) : Slb := { S with us := S.us.set i true, gs := S.gs.set i (S.gs.getD i 0 + 1), vs := S.vs.set i v }
theorem set_snoc {α : Type} (l : List α) (x y : α) (n : Nat) (h : n = l.length) : (l ++ [x]).set n y = l ++ [y] := by
  subst h; simp
theorem Slb.put_grow {S : Slb} {K : Nat} (hS : S.Ok K) (h : S.least = S.us.length) (v : Int) : S.put v = S.grow.fill S.least v := by
  unfold Slb.put Slb.fill Slb.grow
  rw [if_pos h]
  simp only
  rw [set_snoc _ _ _ _ h, set_snoc _ _ _ _ (by rw [hS.gl]; exact h), set_snoc _ _ _ _ (by rw [hS.vl]; exact h), getD_snoc_nat, if_pos (by rw [hS.gl]; exact h)]
theorem Slb.put_fill {S : Slb} (h : S.least ≠ S.us.length) (v : Int) : S.put v = S.fill S.least v := by
  unfold Slb.put Slb.fill
  rw [if_neg h]
theorem Slb.grow_ok {S : Slb} {K : Nat} (hS : S.Ok K) (h : S.us.length < S.lim) : S.grow.Ok K := by
  have := hS.gl; have := hS.vl
  refine ⟨hS.lo, hS.hi, by simp [Slb.grow]; omega, by simp [Slb.grow]; omega, by simp [Slb.grow]; omega, fun i => ?_⟩
  have := hS.gk i
  simp only [Slb.grow, getD_snoc_nat]
  split <;> omega
theorem Slb.fill_ok {S : Slb} {K : Nat} (hS : S.Ok K) (i : Nat) (v : Int) : (S.fill i v).Ok (K + 1) := by
  refine ⟨hS.lo, hS.hi, by simpa [Slb.fill] using hS.len, by simpa [Slb.fill] using hS.gl, by simpa [Slb.fill] using hS.vl, fun j => ?_⟩
  have h1 := hS.gk i; have h2 := hS.gk j
  simp only [Slb.fill, getD_set_nat]
  split <;> omega
theorem Slb.fill_cnt {S : Slb} {i : Nat} (v : Int) (hi : i < S.us.length) (h : S.us.getD i false = false) : (S.fill i v).cnt = S.cnt + 1 := by
  refine count_set_true _ _ hi ?_
  rw [List.getD_eq_getElem?_getD, List.getElem?_eq_getElem hi] at h
  simpa using h
theorem Slb.grow_cnt (S : Slb) : S.grow.cnt = S.cnt := by simp [Slb.grow, Slb.cnt]

def SlabQ (w : World) (g : Nat) (sv : Value) (cs : Array Value) (xs : List Value) (U : Nat → Nat) (S : Slb) (K : Nat) : Prop :=
  Row w g 144 cs ∧ cs.size = 67 ∧
    cs[0]? = some (.int .i64 S.lim) ∧ cs[1]? = some (.int .i64 S.cnt) ∧ cs[2]? = some sv ∧ (∀ j, j < 64 → cs[3 + j]? = some (.int .u64 (U j)) ∧ U j < 2 ^ 64) ∧
    w.ownsRow 0 154 2 sv S.us.length xs ∧
    (∀ i, i < S.us.length → xs[2 * i]? = some (.int .i64 (S.gs.getD i 0)) ∧ ∃ v : Int, xs[2 * i + 1]? = some (.int .i64 v) ∧ (S.us.getD i false = true → v = S.vs.getD i 0)) ∧
    (∀ i, i < 4096 → (U (i / 64)).testBit (i % 64) = S.us.getD i false) ∧ S.Ok K
theorem SlabQ.toA {w : World} {g : Nat} {sv : Value} {cs : Array Value} {xs : List Value} {U : Nat → Nat} {S : Slb} {K : Nat} (h : SlabQ w g sv cs xs U S K) : SlabA w g (g :: sv.ownBlock.toList) S K :=
  ⟨sv, cs, xs, U, rfl, h⟩

/-- A new slot behind the others. -/
theorem slabA_grown {w w1 : World} {g g1 cap : Nat} {sv : Value} {cs : Array Value} {xs : List Value} {U : Nat → Nat} {S : Slb} {K : Nat} (h : SlabQ w g sv cs xs U S K) (hl : S.us.length < S.lim)
    (hown : w1.ownsRow 0 154 2 (.slice (some ⟨g1, 0, none⟩) (S.us.length + 1) cap) (S.us.length + 1) (xs ++ [.int .i64 0, .int .i64 0]))
    (hm : Mods sv.ownBlock.toList w w1) (hg1 : g1 ∈ sv.ownBlock.toList ∨ w.heap.size ≤ g1) :
    SlabA (w1.setCell ⟨g, 2, none⟩ (.slice (some ⟨g1, 0, none⟩) (S.us.length + 1) cap)) g [g, g1] S.grow K ∧ Mods (g :: sv.ownBlock.toList) w (w1.setCell ⟨g, 2, none⟩ (.slice (some ⟨g1, 0, none⟩) (S.us.length + 1) cap)) ∧ g1 ≠ g := by
  obtain ⟨hrow, hsz, h0, h1, h2, hU, hown0, hxs, hbit, hok⟩ := h
  have hne0 := own_ne_row hown0 hrow (by decide)
  have hne : g1 ≠ g := by
    rcases hg1 with h | h
    · exact hne0 g1 h
    · have := hrow.lt; omega
  have hrow1 : Row w1 g 144 cs := hrow.mods hm (fun hm => hne0 g hm rfl)
  have hgl := hok.gl
  have hvl := hok.vl
  have hxl := hown0.1
  refine ⟨⟨.slice (some ⟨g1, 0, none⟩) (S.us.length + 1) cap, cs.setIfInBounds 2 (.slice (some ⟨g1, 0, none⟩) (S.us.length + 1) cap), xs ++ [.int .i64 0, .int .i64 0], U, by simp [Value.ownBlock], hrow1.set _ _, by simpa using hsz, ?_, ?_, ?_, ?_, ?_, ?_, ?_, Slb.grow_ok hok hl⟩, ?_, hne⟩
  · rw [Array.getElem?_setIfInBounds_ne (by decide)]; exact h0
  · rw [Array.getElem?_setIfInBounds_ne (by decide), Slb.grow_cnt]; exact h1
  · rw [Array.getElem?_setIfInBounds_self_of_lt (by omega)]
  · intro j hj
    rw [Array.getElem?_setIfInBounds_ne (by omega)]; exact hU j hj
  · have e : S.grow.us.length = S.us.length + 1 := by simp [Slb.grow]
    rw [e]
    refine own_keep hown fun k hk => ?_
    have : k = g1 := by simpa [Value.ownBlock, eq_comm] using hk
    subst this
    exact heap_setCell_other _ _ _ _ (by exact hne)
  · intro i hi
    have hi' : i < S.us.length + 1 := by simpa [Slb.grow] using hi
    simp only [Slb.grow, getD_snoc_nat, getD_snoc_bool]
    by_cases e : i = S.us.length
    · subst e
      refine ⟨?_, 0, ?_, ?_⟩
      · rw [List.getElem?_append_right (by omega), if_pos hgl.symm, show 2 * S.us.length - xs.length = 0 by omega]; rfl
      · rw [List.getElem?_append_right (by omega), show 2 * S.us.length + 1 - xs.length = 1 by omega]; rfl
      · simp
    · obtain ⟨ha, v, hb, hv⟩ := hxs i (by omega)
      refine ⟨?_, v, ?_, ?_⟩
      · rw [List.getElem?_append_left (by omega), if_neg (by omega)]; exact ha
      · rw [List.getElem?_append_left (by omega)]; exact hb
      · rw [if_neg e]
        intro hf
        rw [hv hf]
        simp only [List.getD_eq_getElem?_getD]
        rw [List.getElem?_append_left (by omega)]
  · intro i hi
    rw [hbit i hi]
    simp only [Slb.grow, getD_snoc_bool]
    split
    · rename_i e; rw [List.getD_eq_getElem?_getD, List.getElem?_eq_none (by omega)]; rfl
    · rfl
  · exact (hm.more (fun k hk => .inl (List.mem_cons_of_mem _ hk))).setCell (by simp) _

theorem slabA_fill {w : World} {g : Nat} {F : List Nat} {S : Slb} {K i : Nat} (h : SlabA w g F S K) (hi : i < S.us.length) (hu : S.us.getD i false = false) {sb cap u : Nat} {x m gn : Int} (v : Int)
    (c1 : w.cell? ⟨g, 2, none⟩ = some (.slice (some ⟨sb, 0, none⟩) S.us.length cap)) (c2 : w.cell? ⟨g, 3 + i / 64, none⟩ = some (.int .u64 u))
    (hx : x = ((u ||| 2 ^ (i % 64) : Nat) : Int)) (hm : m = (S.cnt : Int) + 1) (hgn : gn = (S.gs.getD i 0 : Int) + 1) :
    SlabA ((((w.setCell ⟨sb, i * 2, none⟩ (.int .i64 gn)).setCell ⟨sb, i * 2 + 1, none⟩ (.int .i64 v)).setCell ⟨g, 3 + i / 64, none⟩ (.int .u64 x)).setCell ⟨g, 1, none⟩ (.int .i64 m)) g F (S.fill i v) (K + 1) ∧
      Mods F w ((((w.setCell ⟨sb, i * 2, none⟩ (.int .i64 gn)).setCell ⟨sb, i * 2 + 1, none⟩ (.int .i64 v)).setCell ⟨g, 3 + i / 64, none⟩ (.int .u64 x)).setCell ⟨g, 1, none⟩ (.int .i64 m)) := by
  obtain ⟨sv, cs, xs, U, rfl, hrow, hsz, h0, h1, h2, hU, hown, hxs, hbit, hok⟩ := h
  have hl := hok.len
  have hh := hok.hi
  have hgl := hok.gl
  have hvl := hok.vl
  have hxl := hown.1
  rw [hrow.cell, h2] at c1
  obtain rfl := Option.some.inj c1
  obtain ⟨hUi, hUl⟩ := hU (i / 64) (by omega)
  rw [hrow.cell, hUi] at c2
  have e2 : U (i / 64) = u := by injection c2 with c2; injection c2 with _ c2; omega
  have hne : sb ≠ g := own_ne_row hown hrow (by decide) sb (by simp [Value.ownBlock])
  have hcnt := Slb.fill_cnt v hi hu
  have hpl : (2 : Nat) ^ (i % 64) < 2 ^ 64 := Nat.pow_lt_pow_right (by decide) (by omega)
  refine ⟨⟨_, (cs.setIfInBounds (3 + i / 64) (.int .u64 x)).setIfInBounds 1 (.int .i64 m), (xs.set (i * 2) (.int .i64 gn)).set (i * 2 + 1) (.int .i64 v), fun j => if j = i / 64 then u ||| 2 ^ (i % 64) else U j,
    rfl, (((hrow.far (by exact hne.symm) _).far (by exact hne.symm) _).set _ _).set _ _, by simp [hsz], ?_, ?_, ?_, ?_, ?_, ?_, ?_, Slb.fill_ok hok i v⟩, ?_⟩
  · rw [Array.getElem?_setIfInBounds_ne (by decide), Array.getElem?_setIfInBounds_ne (by omega)]; exact h0
  · rw [Array.getElem?_setIfInBounds_self_of_lt (by simp; omega), hcnt, hm]; rfl
  · rw [Array.getElem?_setIfInBounds_ne (by decide), Array.getElem?_setIfInBounds_ne (by omega), h2]
  · intro j hj
    obtain ⟨ha, hb⟩ := hU j hj
    have n1 : (1 : Nat) ≠ 3 + j := by omega
    by_cases e : j = i / 64
    · subst e
      simp only [if_true]
      refine ⟨?_, Nat.or_lt_two_pow (by omega) hpl⟩
      rw [Array.getElem?_setIfInBounds_ne n1, Array.getElem?_setIfInBounds_self_of_lt (by omega), hx]
    · simp only [if_neg e]
      refine ⟨?_, hb⟩
      rw [Array.getElem?_setIfInBounds_ne n1, Array.getElem?_setIfInBounds_ne (by omega)]
      exact ha
  · have hs := ((hown.stored (i * 2) (.int .i64 gn)).1.stored (i * 2 + 1) (.int .i64 v)).1
    have hlen : (S.fill i v).us.length = S.us.length := by simp [Slb.fill]
    rw [hlen]
    refine own_keep hs fun k hk => ?_
    have hkb : k = sb := by simpa [Value.ownBlock, eq_comm] using hk
    subst hkb
    rw [heap_setCell_other _ _ _ _ (by exact hne), heap_setCell_other _ _ _ _ (by exact hne)]
  · intro j hj
    have hj' : j < S.us.length := by simpa [Slb.fill] using hj
    obtain ⟨ha, y, hb, hv⟩ := hxs j hj'
    simp only [Slb.fill, getD_set_nat, getD_set_bool, getD_set_int]
    by_cases e : j = i
    · subst e
      refine ⟨?_, v, ?_, fun _ => by rw [if_pos (by simp; omega)]⟩
      · rw [List.getElem?_set_ne (by omega), Nat.mul_comm, List.getElem?_set_self (by omega), if_pos (by simp; omega), hgn]; rfl
      · rw [Nat.mul_comm, List.getElem?_set_self (by simp; omega)]
    · refine ⟨?_, y, ?_, ?_⟩
      · rw [List.getElem?_set_ne (by omega), List.getElem?_set_ne (by omega), if_neg (by omega)]; exact ha
      · rw [List.getElem?_set_ne (by omega), List.getElem?_set_ne (by omega)]; exact hb
      · rw [if_neg (by omega), if_neg (by omega)]; exact hv
  · intro j hj
    simp only [Slb.fill, getD_set_bool]
    by_cases e : j / 64 = i / 64
    · rw [if_pos e, testBit_or_pow, ← e2, ← e, hbit j hj]
      by_cases e3 : i = j
      · subst e3; simp [hi]
      · rw [if_neg (by omega)]
        have : decide (i % 64 = j % 64) = false := by simp; omega
        simp [this]
    · rw [if_neg e, if_neg (by omega)]; exact hbit j hj
  · exact ((((Mods.refl _ _).setCell (by simp [Value.ownBlock]) _).setCell (by simp [Value.ownBlock]) _).setCell (by simp) _).setCell (by simp) _
end Go.Proofs.YthaapkafamdhcaaDoor
