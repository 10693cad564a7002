/- Connections in memory: a row each, with three slices of bytes of its own. No text of the program. -/
import Derived.Test.YthaapkafamdhcaaDoorOwn
namespace Go.Proofs.YthaapkafamdhcaaDoor
open Go.RowKit
set_option linter.unusedVariables false
set_option linter.unusedSimpArgs false

/-- Where a connection lies: its block, its slices of bytes (0 came, 1 was read, 2 was written). -/
structure Cb where
  b : Nat
  v : Fin 3 → Value
def Cb.ft (x : Cb) : List Nat := x.b :: ((x.v 0).ownBlock.toList ++ ((x.v 1).ownBlock.toList ++ (x.v 2).ownBlock.toList))
def Cb.set (x : Cb) (i : Fin 3) (u : Value) : Cb := ⟨x.b, fun j => if j = i then u else x.v j⟩
theorem Cb.set_b (x : Cb) (i : Fin 3) (u : Value) : (x.set i u).b = x.b := rfl
theorem Cb.set_same (x : Cb) (i : Fin 3) (u : Value) : (x.set i u).v i = u := by simp [Cb.set]
theorem Cb.set_ne (x : Cb) {i j : Fin 3} (u : Value) (h : j ≠ i) : (x.set i u).v j = x.v j := by simp [Cb.set, h]
theorem Cb.mem_ft (x : Cb) (k : Nat) : k ∈ x.ft ↔ k = x.b ∨ ∃ i, k ∈ (x.v i).ownBlock.toList := by
  simp only [Cb.ft, List.mem_cons, List.mem_append]
  constructor
  · rintro (h | h | h | h)
    · exact .inl h
    · exact .inr ⟨0, h⟩
    · exact .inr ⟨1, h⟩
    · exact .inr ⟨2, h⟩
  · rintro (h | ⟨i, h⟩)
    · exact .inl h
    · match i, h with
      | 0, h => exact .inr (.inl h)
      | 1, h => exact .inr (.inr (.inl h))
      | 2, h => exact .inr (.inr (.inr h))
/-- A kind of connection: its row's type and cells, its bytes. -/
structure Kd (σ : Type) where
  t : TypeId
  row : Cb → σ → Array Value
  by_ : σ → Fin 3 → List Int
  ne : 5 ≠ t
section
variable {σ : Type} (K : Kd σ)
structure CnA (w : World) (x : Cb) (s : σ) : Prop where
  row : Row w x.b K.t (K.row x s)
  own : ∀ i, Own w 5 (x.v i) (bv (K.by_ s i))
  dis : ∀ i j, i ≠ j → ∀ k ∈ (x.v i).ownBlock.toList, k ∉ (x.v j).ownBlock.toList
  rng : ∀ i, ∀ y ∈ K.by_ s i, 0 ≤ y ∧ y ≤ 255
variable {K} {w w' w1 : World} {x x' : Cb} {s s' : σ}
theorem CnA.keep (h : CnA K w x s) (e : ∀ k ∈ x.ft, w'.heap[k]? = w.heap[k]?) : CnA K w' x s :=
  ⟨h.row.keep (e _ ((x.mem_ft _).2 (.inl rfl))), fun i => (h.own i).keep fun k hk => e k ((x.mem_ft _).2 (.inr ⟨i, hk⟩)), h.dis, h.rng⟩
theorem CnA.lt (h : CnA K w x s) : ∀ k ∈ x.ft, k < w.heap.size := by
  intro k hk
  rcases (x.mem_ft k).1 hk with rfl | ⟨i, hk⟩
  · exact h.row.lt
  · exact (h.own i).lt k hk
theorem CnA.mods {G : List Nat} (h : CnA K w x s) (hm : Mods G w w') (hd : ∀ k ∈ x.ft, k ∉ G) : CnA K w' x s :=
  h.keep fun k hk => hm.block k (h.lt k hk) (hd k hk)
theorem CnA.nb (h : CnA K w x s) (i : Fin 3) : ∀ k ∈ (x.v i).ownBlock.toList, k ≠ x.b := (h.own i).ne_row h.row K.ne
theorem CnA.ptr {g : Nat} {t : TypeId} {cs : Array Value} (h : CnA K w x s) (hg : Row w g t cs) (h1 : K.t ≠ t) (h2 : 5 ≠ t) : g ∉ x.ft := by
  intro hk
  rcases (x.mem_ft g).1 hk with rfl | ⟨i, hk⟩
  · exact Row.type_ne h.row hg h1 rfl
  · exact (h.own i).ne_row hg h2 _ hk rfl
theorem CnA.noptr {v : Value} {e : TypeId} {ys : List Value} (h : CnA K w x s) (hv : Own w e v ys) (h1 : e ≠ K.t) (h2 : e ≠ 5) : ∀ k ∈ v.ownBlock.toList, k ∉ x.ft := by
  intro k hk hk2
  rcases (x.mem_ft k).1 hk2 with rfl | ⟨i, hi⟩
  · exact hv.ne_row h.row h1 _ hk rfl
  · exact hv.ne (h.own i) h2 k hk hi
/-- A cell of the row is another one, its bytes are the same. -/
theorem CnA.put (h : CnA K w x s) (i : Nat) (u : Value) (hr : (K.row x s).setIfInBounds i u = K.row x s') (hb : ∀ j, K.by_ s' j = K.by_ s j) : CnA K (w.setCell ⟨x.b, i, none⟩ u) x s' := by
  refine ⟨by rw [← hr]; exact h.row.set i u, fun j => ?_, h.dis, fun j => by rw [hb]; exact h.rng j⟩
  rw [hb]
  exact (h.own j).keep fun k hk => heap_setCell_other w ⟨x.b, i, none⟩ k u (h.nb j k hk)
/-- One slice is another one, that lies where it lay or in new memory. -/
theorem CnA.swap (h : CnA K w x s) (a : Fin 3) (i : Nat) (v : Value) (hm : Mods (x.v a).ownBlock.toList w w1) (ho : Own w1 5 v (bv (K.by_ s' a))) (hv : ∀ k ∈ v.ownBlock.toList, k ∈ (x.v a).ownBlock.toList ∨ w.heap.size ≤ k)
    (hr : (K.row x s).setIfInBounds i v = K.row (x.set a v) s') (hb : ∀ j, j ≠ a → K.by_ s' j = K.by_ s j) (hg : ∀ y ∈ K.by_ s' a, 0 ≤ y ∧ y ≤ 255) :
    CnA K (w1.setCell ⟨x.b, i, none⟩ v) (x.set a v) s' := by
  have hrow : Row w1 x.b K.t (K.row x s) := h.row.mods hm fun hk => h.nb a _ hk rfl
  have hold : ∀ j, j ≠ a → Own w1 5 (x.v j) (bv (K.by_ s j)) := fun j hj => (h.own j).mods hm (h.dis j a hj)
  refine ⟨by rw [← hr]; exact hrow.set i v, fun j => ?_, fun j l hjl k hk => ?_, fun j => ?_⟩
  · by_cases hj : j = a
    · subst hj
      rw [Cb.set_same]
      exact ho.keep fun k hk => heap_setCell_other w1 ⟨x.b, i, none⟩ k v (ho.ne_row hrow K.ne k hk)
    · rw [Cb.set_ne _ _ hj, hb j hj]
      exact (hold j hj).keep fun k hk => heap_setCell_other w1 ⟨x.b, i, none⟩ k v (h.nb j k hk)
  · by_cases hj : j = a
    · subst hj
      rw [Cb.set_same] at hk
      rw [Cb.set_ne _ _ (Ne.symm hjl)]
      rcases hv k hk with h1 | h1
      · exact h.dis j l hjl k h1
      · intro h2
        have := (h.own l).lt k h2
        omega
    · rw [Cb.set_ne _ _ hj] at hk
      by_cases hl : l = a
      · subst hl
        rw [Cb.set_same]
        intro h2
        rcases hv k h2 with h1 | h1
        · exact h.dis j l hjl k hk h1
        · have := (h.own j).lt k hk
          omega
      · rw [Cb.set_ne _ _ hl]
        exact h.dis j l hjl k hk
  · by_cases hj : j = a
    · subst hj; exact hg
    · rw [hb j hj]; exact h.rng j
theorem Cb.set_ft (x : Cb) (a : Fin 3) (v : Value) {n : Nat} (hv : ∀ k ∈ v.ownBlock.toList, k ∈ (x.v a).ownBlock.toList ∨ n ≤ k) : ∀ k ∈ (x.set a v).ft, k ∈ x.ft ∨ n ≤ k := by
  intro k hk
  rcases ((x.set a v).mem_ft k).1 hk with h | ⟨i, h⟩
  · exact .inl ((x.mem_ft k).2 (.inl h))
  · by_cases hi : i = a
    · subst hi
      rw [Cb.set_same] at h
      rcases hv k h with h | h
      · exact .inl ((x.mem_ft k).2 (.inr ⟨i, h⟩))
      · exact .inr h
    · rw [Cb.set_ne _ _ hi] at h
      exact .inl ((x.mem_ft k).2 (.inr ⟨i, h⟩))
variable (K)
/-- All connections. -/
structure Cs (w : World) (X : List Cb) (L : List σ) : Prop where
  len : X.length = L.length
  at_ : ∀ (i : Nat) (x : Cb) (s : σ), X[i]? = some x → L[i]? = some s → CnA K w x s
  apart : ∀ (i j : Nat) (x y : Cb), X[i]? = some x → X[j]? = some y → i ≠ j → ∀ k ∈ x.ft, k ∉ y.ft
def fts (X : List Cb) : List Nat := X.flatMap Cb.ft
variable {K} {X : List Cb} {L : List σ} {i : Nat}
theorem mem_fts {k : Nat} {X : List Cb} : k ∈ fts X ↔ ∃ (i : Nat) (x : Cb), X[i]? = some x ∧ k ∈ x.ft := by
  simp only [fts, List.mem_flatMap]
  constructor
  · rintro ⟨x, hx, hk⟩
    obtain ⟨i, hi⟩ := List.mem_iff_getElem?.1 hx
    exact ⟨i, x, hi, hk⟩
  · rintro ⟨i, x, hi, hk⟩
    exact ⟨x, List.mem_of_getElem? hi, hk⟩
theorem Cs.nil (w : World) : Cs K w [] [] := ⟨rfl, fun i x s h => by simp at h, fun i j x y h => by simp at h⟩
theorem Cs.at1 (h : Cs K w X L) (hs : L[i]? = some s) : ∃ x, X[i]? = some x := by
  have := (List.getElem?_eq_some_iff.1 hs).1
  exact ⟨X[i]'(by rw [h.len]; exact this), List.getElem?_eq_getElem _⟩
theorem Cs.at2 (h : Cs K w X L) (hs : X[i]? = some x) : ∃ s, L[i]? = some s := by
  have := (List.getElem?_eq_some_iff.1 hs).1
  exact ⟨L[i]'(by rw [← h.len]; exact this), List.getElem?_eq_getElem _⟩
theorem Cs.keep (h : Cs K w X L) (e : ∀ k ∈ fts X, w'.heap[k]? = w.heap[k]?) : Cs K w' X L :=
  ⟨h.len, fun i x s hx hs => (h.at_ i x s hx hs).keep fun k hk => e k (mem_fts.2 ⟨i, x, hx, hk⟩), h.apart⟩
theorem Cs.lt (h : Cs K w X L) : ∀ k ∈ fts X, k < w.heap.size := by
  intro k hk
  obtain ⟨i, x, hx, hk⟩ := mem_fts.1 hk
  obtain ⟨s, hs⟩ := h.at2 hx
  exact (h.at_ i x s hx hs).lt k hk
theorem Cs.mods {G : List Nat} (h : Cs K w X L) (hm : Mods G w w') (hd : ∀ k ∈ fts X, k ∉ G) : Cs K w' X L :=
  h.keep fun k hk => hm.block k (h.lt k hk) (hd k hk)
theorem Cs.row {g : Nat} {t : TypeId} {cs : Array Value} (h : Cs K w X L) (hg : Row w g t cs) (h1 : K.t ≠ t) (h2 : 5 ≠ t) : g ∉ fts X := by
  intro hk
  obtain ⟨i, x, hx, hk⟩ := mem_fts.1 hk
  obtain ⟨s, hs⟩ := h.at2 hx
  exact (h.at_ i x s hx hs).ptr hg h1 h2 hk
theorem Cs.slice {v : Value} {e : TypeId} {ys : List Value} (h : Cs K w X L) (hv : Own w e v ys) (h1 : e ≠ K.t) (h2 : e ≠ 5) : ∀ k ∈ v.ownBlock.toList, k ∉ fts X := by
  intro k hk hk2
  obtain ⟨i, x, hx, hk2⟩ := mem_fts.1 hk2
  obtain ⟨s, hs⟩ := h.at2 hx
  exact (h.at_ i x s hx hs).noptr hv h1 h2 k hk hk2
/-- One connection has turned, and what is none of the others'. -/
theorem Cs.turn2 {G : List Nat} (h : Cs K w X L) (hx : X[i]? = some x) (hc : CnA K w' x' s') (hm : Mods G w w') (hd : ∀ (j : Nat) (y : Cb), X[j]? = some y → i ≠ j → ∀ k ∈ y.ft, k ∉ G) (hf : ∀ k ∈ x'.ft, k ∈ x.ft ∨ w.heap.size ≤ k) : Cs K w' (X.set i x') (L.set i s') := by
  have hi := (List.getElem?_eq_some_iff.1 hx).1
  have far : ∀ (j : Nat) (y : Cb), X[j]? = some y → i ≠ j → (∀ k ∈ x'.ft, k ∉ y.ft) := fun j y hy hij k hk hk2 => by
    rcases hf k hk with h1 | h1
    · exact h.apart i j x y hx hy hij k h1 hk2
    · have := h.lt k (mem_fts.2 ⟨j, y, hy, hk2⟩)
      omega
  refine ⟨by rw [List.length_set, List.length_set]; exact h.len, fun j y u hy hu => ?_, fun j l y z hy hz hjl k hk => ?_⟩
  · rw [List.getElem?_set] at hy hu
    by_cases hij : i = j
    · subst hij
      have hi' : i < L.length := by rw [← h.len]; exact hi
      simp only [if_pos rfl, if_pos hi, if_pos hi', if_true] at hy hu
      injection hy with hy
      injection hu with hu
      subst hy hu
      exact hc
    · rw [if_neg hij] at hy hu
      exact (h.at_ j y u hy hu).mods hm (hd j y hy hij)
  · rw [List.getElem?_set] at hy hz
    by_cases hij : i = j
    · subst hij
      rw [if_neg hjl] at hz
      simp only [if_pos rfl, if_pos hi, if_true] at hy
      injection hy with hy
      subst hy
      exact far l z hz hjl k hk
    · rw [if_neg hij] at hy
      by_cases hil : i = l
      · subst hil
        simp only [if_pos rfl, if_pos hi, if_true] at hz
        injection hz with hz
        subst hz
        intro hk2
        exact far j y hy hij k hk2 hk
      · rw [if_neg hil] at hz
        exact h.apart j l y z hy hz hjl k hk
theorem Cs.turn (h : Cs K w X L) (hx : X[i]? = some x) (hc : CnA K w' x' s') (hm : Mods x.ft w w') (hf : ∀ k ∈ x'.ft, k ∈ x.ft ∨ w.heap.size ≤ k) : Cs K w' (X.set i x') (L.set i s') :=
  h.turn2 hx hc hm (fun j y hy hij k hk hk2 => h.apart i j x y hx hy hij k hk2 hk) hf
theorem fts_set (hx : X[i]? = some x) {n : Nat} (hf : ∀ k ∈ x'.ft, k ∈ x.ft ∨ n ≤ k) : ∀ k ∈ fts (X.set i x'), k ∈ fts X ∨ n ≤ k := by
  intro k hk
  obtain ⟨j, y, hy, hk⟩ := mem_fts.1 hk
  rw [List.getElem?_set] at hy
  split at hy
  · split at hy
    · injection hy with hy
      subst hy
      rcases hf k hk with h | h
      · exact .inl (mem_fts.2 ⟨i, x, hx, h⟩)
      · exact .inr h
    · cases hy
  · exact .inl (mem_fts.2 ⟨j, y, hy, hk⟩)
/-- One more connection, of new memory. -/
theorem Cs.snoc (h : Cs K w X L) (hc : CnA K w' x s) (hk : Cs K w' X L) (hf : ∀ k ∈ x.ft, w.heap.size ≤ k) : Cs K w' (X ++ [x]) (L ++ [s]) := by
  have far : ∀ (j : Nat) (y : Cb), X[j]? = some y → ∀ k ∈ x.ft, k ∉ y.ft := fun j y hy k hk hk2 => by
    have := h.lt k (mem_fts.2 ⟨j, y, hy, hk2⟩)
    have := hf k hk
    omega
  have last : ∀ {α : Type} (l : List α) (a y : α) (j : Nat), (l ++ [a])[j]? = some y → (j < l.length ∧ l[j]? = some y) ∨ (j = l.length ∧ y = a) := by
    intro α l a y j hj
    by_cases h : j < l.length
    · rw [List.getElem?_append_left h] at hj
      exact .inl ⟨h, hj⟩
    · rw [List.getElem?_append_right (by omega)] at hj
      by_cases h0 : j - l.length = 0
      · rw [h0] at hj
        simp at hj
        exact .inr ⟨by omega, hj.symm⟩
      · rw [List.getElem?_eq_none (by simp; omega)] at hj
        cases hj
  refine ⟨by simp [h.len], fun j y u hy hu => ?_, fun j l y z hy hz hjl k hk2 => ?_⟩
  · rcases last X x y j hy with ⟨h1, h2⟩ | ⟨h1, rfl⟩
    · rcases last L s u j hu with ⟨h3, h4⟩ | ⟨h3, rfl⟩
      · exact hk.at_ j y u h2 h4
      · have := h.len; omega
    · rcases last L s u j hu with ⟨h3, h4⟩ | ⟨h3, rfl⟩
      · have := h.len; omega
      · exact hc
  · rcases last X x y j hy with ⟨h1, h2⟩ | ⟨h1, rfl⟩
    · rcases last X x z l hz with ⟨h3, h4⟩ | ⟨h3, rfl⟩
      · exact h.apart j l y z h2 h4 hjl k hk2
      · intro h5; exact far j y h2 k h5 hk2
    · rcases last X y z l hz with ⟨h3, h4⟩ | ⟨h3, rfl⟩
      · exact far l z h4 k hk2
      · omega
theorem fts_snoc (X : List Cb) (x : Cb) : fts (X ++ [x]) = fts X ++ x.ft := by simp [fts]
end
theorem Src.at_one (w : World) (x : Value) (t : TypeId) (n : Nat) (h : n = w.heap.size) : Src (w.alloc (.cells #[x] t)) (some ⟨n, 0, none⟩) [x] := by subst h; exact Src.one w x t
/-- Pointers to connections. -/
def pv (X : List Cb) : List Value := X.map fun x => .pointer (some ⟨x.b, 0, none⟩)
theorem pv_length (X : List Cb) : (pv X).length = X.length := by simp [pv]
theorem pv_one (X : List Cb) : ∀ u ∈ pv X, u.oneCell' = true := by
  intro u hu
  obtain ⟨x, _, rfl⟩ := List.mem_map.1 hu
  rfl
theorem pv_at {X : List Cb} {i : Nat} {x : Cb} (h : X[i]? = some x) : (pv X)[i]? = some (.pointer (some ⟨x.b, 0, none⟩)) := by simp [pv, h]
theorem pv_set {X : List Cb} {i : Nat} {x x' : Cb} (h : X[i]? = some x) (hb : x'.b = x.b) : pv (X.set i x') = pv X := by
  apply List.ext_getElem?
  intro j
  simp only [pv, List.getElem?_map, List.getElem?_set]
  split
  · rename_i hij
    subst hij
    split
    · simp [h, hb]
    · rw [List.getElem?_eq_none (by omega)]
  · rfl
theorem pv_snoc (X : List Cb) (x : Cb) : pv (X ++ [x]) = pv X ++ [.pointer (some ⟨x.b, 0, none⟩)] := by simp [pv]
section
variable {σ : Type} (K : Kd σ)
/-- What a call on one connection leaves. -/
def CnTo (w w' : World) (x : Cb) (s' : σ) : Prop := ∃ x', CnA K w' x' s' ∧ x'.b = x.b ∧ Mods x.ft w w' ∧ ∀ k ∈ x'.ft, k ∈ x.ft ∨ w.heap.size ≤ k
variable {K} {w w' w1 wx w8 : World} {x x' : Cb} {s s' s2 : σ}
theorem CnTo.refl (h : CnA K w x s) : CnTo K w w x s := ⟨x, h, rfl, Mods.refl _ _, fun k hk => .inl hk⟩
theorem CnTo.quiet (h : CnTo K w w1 x s) (hm : Mods [] w1 w') : CnTo K w w' x s := by
  obtain ⟨x1, h1, h2, h3, h4⟩ := h
  exact ⟨x1, h1.mods hm (by simp), h2, h3.trans hm (by simp), h4⟩
theorem CnTo.trans (h2 : x'.b = x.b) (h3 : Mods x.ft w w1) (h4 : ∀ k ∈ x'.ft, k ∈ x.ft ∨ w.heap.size ≤ k) (h : CnTo K w1 w' x' s) : CnTo K w w' x s := by
  obtain ⟨x2, g1, g2, g3, g4⟩ := h
  refine ⟨x2, g1, g2.trans h2, h3.trans g3 h4, fun k hk => ?_⟩
  rcases g4 k hk with h | h
  · exact h4 k h
  · exact .inr (Nat.le_trans h3.size h)
/-- Bytes that lie elsewhere still do. -/
theorem At.other {A : Option Addr} {l : List Int} (h : At w x.ft A l) (h3 : Mods x.ft w w1) (h4 : ∀ k ∈ x'.ft, k ∈ x.ft ∨ w.heap.size ≤ k) : At w1 x'.ft A l := by
  have h5 : At w (x.ft ++ x'.ft) A l := h.sub fun k hk => by
    rcases List.mem_append.1 hk with h | h
    · exact .inl h
    · exact h4 k h
  exact (h5.mods (h3.more fun k hk => .inl (List.mem_append_left _ hk))).sub fun k hk => .inl (List.mem_append_right _ hk)
/-- A cell is stored. -/
theorem CnTo.put (h : CnTo K w w1 x s) (i : Nat) (u : Value) (hr : ∀ y, (K.row y s).setIfInBounds i u = K.row y s') (hb : ∀ j, K.by_ s' j = K.by_ s j) : CnTo K w (w1.setCell ⟨x.b, i, none⟩ u) x s' := by
  obtain ⟨x1, h1, h2, h3, h4⟩ := h
  refine ⟨x1, ?_, h2, h3.setCell (.inl ((x.mem_ft _).2 (.inl rfl))) _, h4⟩
  rw [← h2]
  exact h1.put i u (hr x1) hb
/-- A slice of no byte is stored. -/
theorem CnTo.nil (h : CnTo K w w1 x s) (a : Fin 3) (i : Nat) (hr : ∀ y, (K.row y s).setIfInBounds i (.slice none 0 0) = K.row (y.set a (.slice none 0 0)) s') (hb : ∀ j, j ≠ a → K.by_ s' j = K.by_ s j) (h0 : K.by_ s' a = []) : CnTo K w (w1.setCell ⟨x.b, i, none⟩ (.slice none 0 0)) x s' := by
  obtain ⟨x1, h1, h2, h3, h4⟩ := h
  refine ⟨x1.set a (.slice none 0 0), ?_, h2, h3.setCell (.inl ((x.mem_ft _).2 (.inl rfl))) _, fun k hk => ?_⟩
  · rw [← h2]
    refine h1.swap a i _ (Mods.refl _ _) ?_ (by simp [Value.ownBlock]) (hr x1) hb (by rw [h0]; simp)
    rw [h0]; exact Own.nil _ _
  · rcases Cb.set_ft x1 a (.slice none 0 0) (n := w.heap.size) (by simp [Value.ownBlock]) k hk with h | h
    · exact h4 k h
    · exact .inr h
/-- Bytes were appended to slice a, in a world that w has quietly become. -/
theorem CnA.app (h : CnA K w x s) (a : Fin 3) (i : Nat) {v0 v8 : Value} {news : List Int} (ho : Own w8 5 v8 (bv (K.by_ s a) ++ bv news)) (hm : Mods v0.ownBlock.toList wx w8 ∧ (v8.ownBlock = v0.ownBlock ∨ v8.ownBlock = some wx.heap.size)) (hv0 : x.v a = v0) (hX : Mods [] w wx)
    (hr : (K.row x s).setIfInBounds i v8 = K.row (x.set a v8) s') (hb : ∀ j, j ≠ a → K.by_ s' j = K.by_ s j) (ha : K.by_ s' a = K.by_ s a ++ news) (hg : ∀ y ∈ news, 0 ≤ y ∧ y ≤ 255) :
    Row w8 x.b K.t (K.row x s) ∧ ∀ w9, w9 = w8.setCell ⟨x.b, i, none⟩ v8 → CnTo K w w9 x s' := by
  subst hv0
  have hq := h.mods hX (by simp)
  have hv : ∀ k ∈ v8.ownBlock.toList, k ∈ (x.v a).ownBlock.toList ∨ wx.heap.size ≤ k := fun k hk => by
    rcases hm.2 with e | e
    · rw [e] at hk; exact .inl hk
    · rw [e] at hk; right; simp at hk; omega
  have hx : Mods x.ft wx w8 := hm.1.more fun k hk => .inl ((x.mem_ft k).2 (.inr ⟨a, hk⟩))
  refine ⟨hq.row.mods hm.1 fun hk => hq.nb a _ hk rfl, fun w9 e9 => ?_⟩
  subst e9
  refine ⟨x.set a v8, hq.swap a i v8 hm.1 ?_ hv hr hb ?_, rfl, ?_, fun k hk => ?_⟩
  · rw [ha, show bv (K.by_ s a ++ news) = bv (K.by_ s a) ++ bv news by simp [bv]]; exact ho
  · rw [ha]
    exact fun y hy => (List.mem_append.1 hy).elim (h.rng a y) (hg y)
  · exact ((hX.more (by simp)).trans hx fun k hk => .inl hk).setCell (.inl ((x.mem_ft _).2 (.inl rfl))) _
  · rcases Cb.set_ft x a v8 hv k hk with h | h
    · exact .inl h
    · exact .inr (Nat.le_trans hX.size h)
/-- Slice a is another cut of the same row. -/
theorem CnTo.cut (h : CnTo K w w1 x s) (a : Fin 3) (i : Nat) (hr : ∀ y v, (K.row y s).setIfInBounds i v = K.row (y.set a v) s') (hb : ∀ j, j ≠ a → K.by_ s' j = K.by_ s j)
    (hc : ∀ y, CnA K w1 y s → y.b = x.b → ∃ v, Own w1 5 v (bv (K.by_ s' a)) ∧ (∀ k ∈ v.ownBlock.toList, k ∈ (y.v a).ownBlock.toList) ∧ w' = w1.setCell ⟨x.b, i, none⟩ v) (hg : ∀ y ∈ K.by_ s' a, y ∈ K.by_ s a) : CnTo K w w' x s' := by
  obtain ⟨x1, h1, h2, h3, h4⟩ := h
  obtain ⟨v, ho, hv, rfl⟩ := hc x1 h1 h2
  refine ⟨x1.set a v, ?_, h2, h3.setCell (.inl ((x.mem_ft _).2 (.inl rfl))) _, fun k hk => ?_⟩
  · rw [← h2]
    exact h1.swap a i v (Mods.refl _ _) ho (fun k hk => .inl (hv k hk)) (hr x1 v) hb fun y hy => h1.rng a y (hg y hy)
  · rcases Cb.set_ft x1 a v (n := w.heap.size) (fun k hk => .inl (hv k hk)) k hk with h | h
    · exact h4 k h
    · exact .inr h
end
#print axioms Cs.turn
end Go.Proofs.YthaapkafamdhcaaDoor
