/- What Advance of the reference's wheel does: what is due, taken out one by one. -/
import Derived.Test.YtgfmjkbelciaaaaDoorRwA
import Derived.BigQuiet
namespace Go.Proofs.YtgfmjkbelciaaaaDoor
open Go.RowKit
set_option maxRecDepth 10000
set_option linter.unusedVariables false
set_option linter.unusedSimpArgs false
set_option linter.unnecessarySimpa false

/-- By time, then by number. -/
def lexle (x y : Rt) : Prop := x.a < y.a ∨ (x.a = y.a ∧ x.q ≤ y.q)
/-- Where the search stands, ahead of element i. -/
def Scan (t : Nat) (L : List Rt) (i : Nat) (j : Int) : Prop :=
  (j = -1 ∧ ∀ m y, m < i → L[m]? = some y → t < y.a) ∨
  ∃ (n : Nat) (x : Rt), j = (n : Int) ∧ n < i ∧ L[n]? = some x ∧ x.a ≤ t ∧ ∀ m y, m < i → L[m]? = some y → y.a ≤ t → lexle x y
theorem scan_zero (t : Nat) (L : List Rt) : Scan t L 0 (-1) := .inl ⟨rfl, fun m y h => absurd h (by omega)⟩
theorem scan_far {t i : Nat} {L : List Rt} {j : Int} {y : Rt} (h : Scan t L i j) (hy : L[i]? = some y) (hd : t < y.a) : Scan t L (i + 1) j := by
  rcases h with ⟨h1, h2⟩ | ⟨n, x, h1, h2, h3, h4, h5⟩
  · refine .inl ⟨h1, fun m z hm hz => ?_⟩
    rcases Nat.lt_or_ge m i with h | h
    · exact h2 m z h hz
    · obtain rfl : m = i := by omega
      rw [hy] at hz
      rw [← Option.some.inj hz]; exact hd
  · refine .inr ⟨n, x, h1, by omega, h3, h4, fun m z hm hz hz2 => ?_⟩
    rcases Nat.lt_or_ge m i with h | h
    · exact h5 m z h hz hz2
    · obtain rfl : m = i := by omega
      rw [hy] at hz
      rw [← Option.some.inj hz] at hz2; omega
theorem scan_first {t i : Nat} {L : List Rt} {y : Rt} (h : Scan t L i (-1)) (hy : L[i]? = some y) (hd : y.a ≤ t) : Scan t L (i + 1) (i : Int) := by
  rcases h with ⟨h1, h2⟩ | ⟨n, x, h1, _⟩
  · refine .inr ⟨i, y, rfl, by omega, hy, hd, fun m z hm hz hz2 => ?_⟩
    rcases Nat.lt_or_ge m i with h | h
    · have := h2 m z h hz; omega
    · obtain rfl : m = i := by omega
      rw [hy] at hz
      rw [← Option.some.inj hz]; exact .inr ⟨rfl, Nat.le_refl _⟩
  · omega
theorem scan_keep {t i n : Nat} {L : List Rt} {x y : Rt} (h : Scan t L i (n : Int)) (hx : L[n]? = some x) (hy : L[i]? = some y) (hd : lexle x y) : Scan t L (i + 1) (n : Int) := by
  rcases h with ⟨h1, _⟩ | ⟨n', x', h1, h2, h3, h4, h5⟩
  · omega
  · obtain rfl : n' = n := by omega
    rw [hx] at h3
    obtain rfl := Option.some.inj h3
    refine .inr ⟨n', x, rfl, by omega, hx, h4, fun m z hm hz hz2 => ?_⟩
    rcases Nat.lt_or_ge m i with h | h
    · exact h5 m z h hz hz2
    · obtain rfl : m = i := by omega
      rw [hy] at hz
      rw [← Option.some.inj hz]; exact hd
theorem scan_new {t i n : Nat} {L : List Rt} {x y : Rt} (h : Scan t L i (n : Int)) (hx : L[n]? = some x) (hy : L[i]? = some y) (hd : y.a ≤ t) (hl : lexle y x) : Scan t L (i + 1) (i : Int) := by
  rcases h with ⟨h1, _⟩ | ⟨n', x', h1, h2, h3, h4, h5⟩
  · omega
  · obtain rfl : n' = n := by omega
    rw [hx] at h3
    obtain rfl := Option.some.inj h3
    refine .inr ⟨i, y, rfl, by omega, hy, hd, fun m z hm hz hz2 => ?_⟩
    rcases Nat.lt_or_ge m i with h | h
    · have := h5 m z h hz hz2
      unfold lexle at *
      omega
    · obtain rfl : m = i := by omega
      rw [hy] at hz
      rw [← Option.some.inj hz]; exact .inr ⟨rfl, Nat.le_refl _⟩
/-- What has fired, one by one, and what is left. -/
inductive Fired (t : Nat) (L : List Rt) : List Rt → List Rt → Prop
  | none : Fired t L [] L
  | more {R Lc : List Rt} {k : Nat} {x : Rt} : Fired t L R Lc → Lc[k]? = some x → x.a ≤ t → (∀ y ∈ Lc, y.a ≤ t → lexle x y) → Fired t L (R ++ [x]) (Lc.eraseIdx k)
theorem Fired.len {t : Nat} {L R Lc : List Rt} (h : Fired t L R Lc) : R.length + Lc.length = L.length := by
  induction h with
  | none => simp
  | more h1 h2 h3 h4 ih =>
    have := (List.getElem?_eq_some_iff.1 h2).1
    rw [List.length_append, List.length_eraseIdx_of_lt this]
    simp; omega
theorem Fired.sub {t : Nat} {L R Lc : List Rt} (h : Fired t L R Lc) : ∀ y ∈ Lc, y ∈ L := by
  induction h with
  | none => exact fun y hy => hy
  | more h1 h2 h3 h4 ih => exact fun y hy => ih y (List.mem_of_mem_eraseIdx hy)
theorem scan_end {t : Nat} {L : List Rt} {j : Int} (h : Scan t L L.length j) : (j = -1 ∧ ∀ y ∈ L, t < y.a) ∨ ∃ (n : Nat) (x : Rt), j = (n : Int) ∧ n < L.length ∧ L[n]? = some x ∧ x.a ≤ t ∧ ∀ y ∈ L, y.a ≤ t → lexle x y := by
  rcases h with ⟨h1, h2⟩ | ⟨n, x, h1, h2, h3, h4, h5⟩
  · refine .inl ⟨h1, fun y hy => ?_⟩
    obtain ⟨m, hm, e⟩ := List.getElem_of_mem hy
    exact h2 m y hm (by rw [List.getElem?_eq_getElem hm, e])
  · refine .inr ⟨n, x, h1, h2, h3, h4, fun y hy => ?_⟩
    obtain ⟨m, hm, e⟩ := List.getElem_of_mem hy
    exact h5 m y hm (by rw [List.getElem?_eq_getElem hm, e])
/-- Slots that are given back. -/
def takeR (S : Slb) (R : List Rt) : Slb := S.takes (R.map fun y => ((y.s : Int), (y.g : Int)))
theorem takeR_snoc (S : Slb) (R : List Rt) (x : Rt) : takeR S (R ++ [x]) = (takeR S R).take1 ((x.s : Int), (x.g : Int)) := by
  unfold takeR
  rw [List.map_append, List.map_singleton, Slb.takes_snoc]
def lenS : Value → Nat
  | .slice _ n _ => n
  | _ => 0
section
variable {w w1 w' : World} {x sg K now t q : Nat} {lv : Value} {hF : List Nat} {S : Slb} {L : List Rt}
/-- Time goes by. -/
theorem RefW.ticked (h : RefW w x sg lv hF S K now L q) (ht : t ≤ 1099511627776) : RefW (w.setCell ⟨x, 2, none⟩ (.int .i64 (t : Int))) x sg lv hF S K t L q := by
  obtain ⟨a1, a2, a3⟩ := h.apart
  have hm : Mods [x] w (w.setCell ⟨x, 2, none⟩ (.int .i64 (t : Int))) := (Mods.refl _ _).setCell (by simp) _
  exact ⟨h.row.set 2 _, slabB_mods h.slab hm (fun k hk hx => a1 (by rw [← List.mem_singleton.1 hx]; exact hk)), own_mods h.own hm (fun k hk hx => a2 (by rw [← List.mem_singleton.1 hx]; exact hk)), h.len, h.rng, ht⟩
end
/-- Where Advance stands. -/
structure AdvR (w wr : World) (x sg : Nat) (lv lv0 : Value) (hF : List Nat) (S : Slb) (K t q : Nat) (L R Lc : List Rt) (out : Value) : Prop where
  ref : RefW wr x sg lv hF (takeR S R) K t Lc q
  fired : Fired t L R Lc
  own : Own wr 3 out (iv (R.map (·.v)))
  new : ∀ b ∈ out.ownBlock.toList, w.heap.size ≤ b
  lnew : ∀ b ∈ lv.ownBlock.toList, b ∈ lv0.ownBlock.toList ∨ w.heap.size ≤ b
  low : ∀ b ∈ foot6 x hF lv0, b < w.heap.size
  mods : Mods (foot6 x hF lv0) w wr
theorem AdvR.far {w wr : World} {x sg K t q : Nat} {lv lv0 out : Value} {hF : List Nat} {S : Slb} {L R Lc : List Rt} (h : AdvR w wr x sg lv lv0 hF S K t q L R Lc out) : ∀ b ∈ out.ownBlock.toList, b ∉ foot6 x hF lv := fun b hb hk => by
  simp only [foot6, List.mem_cons, List.mem_append] at hk
  have h1 := h.new b hb
  rcases hk with hk | hk | hk
  · have := h.low b (by simp [foot6, hk]); omega
  · have := h.low b (by simp only [foot6, List.mem_cons, List.mem_append]; exact .inr (.inl hk)); omega
  · rcases h.ref.own.2 with ⟨e, _⟩ | ⟨g', cap, cur, e, _, hh, _⟩
    · rw [e] at hk; simp [Value.ownBlock] at hk
    · have e2 : b = g' := by rw [e] at hk; simpa [Value.ownBlock, eq_comm] using hk
      subst e2
      exact h.own.ne_row (show Row wr b 83 cur from hh) (by decide) b hb rfl
end Go.Proofs.YtgfmjkbelciaaaaDoor
