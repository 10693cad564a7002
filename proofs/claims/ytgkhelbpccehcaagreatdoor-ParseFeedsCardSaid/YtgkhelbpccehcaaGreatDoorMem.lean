/- Words for memory: which blocks a call has turned, and what a row of its own holds. No text of the program. -/
import Derived.Below
import Derived.Laws.OwnMore
import Derived.Laws.Rows
import Derived.Deep.Draws
import Derived.Lib.Hide
namespace Go.Proofs.YtgkhelbpccehcaaGreatDoor
open Go.RowKit

/-- Of the blocks that were there, those of F alone may have turned. -/
structure Mods (F : List Nat) (w w' : World) : Prop where
  os : w'.os = w.os
  tape : w'.tape = w.tape
  output : w'.output = w.output
  size : w.heap.size ≤ w'.heap.size
  block : ∀ k, k < w.heap.size → k ∉ F → w'.heap[k]? = w.heap[k]?

section
variable {F F1 F2 : List Nat} {a b w w' w1 w2 : World}
theorem Mods.refl (F : List Nat) (w : World) : Mods F w w := ⟨rfl, rfl, rfl, Nat.le_refl _, fun _ _ _ => rfl⟩
/-- What the second may turn is of the first's, or new to it. -/
theorem Mods.trans (h1 : Mods F1 w w1) (h2 : Mods F2 w1 w2) (hF : ∀ k ∈ F2, k ∈ F1 ∨ w.heap.size ≤ k) : Mods F1 w w2 :=
  ⟨h2.os.trans h1.os, h2.tape.trans h1.tape, h2.output.trans h1.output, Nat.le_trans h1.size h2.size, fun k hk hn =>
    (h2.block k (Nat.lt_of_lt_of_le hk h1.size) (fun hm => by
      rcases hF k hm with h | h
      · exact hn h
      · omega)).trans (h1.block k hk hn)⟩
theorem Mods.more (h : Mods F1 w w') (hF : ∀ k ∈ F1, k ∈ F2 ∨ w.heap.size ≤ k) : Mods F2 w w' :=
  ⟨h.os, h.tape, h.output, h.size, fun k hk hn => h.block k hk (fun hm => by
    rcases hF k hm with h | h
    · exact hn h
    · omega)⟩
theorem Mods.drew (h : Mods F a w) : Mods F a w.drew := ⟨h.os, h.tape, h.output, h.size, h.block⟩
theorem Mods.drewN (h : Mods F a w) (n : Nat) : Mods F a (w.drewN n) := ⟨h.os, h.tape, h.output, h.size, h.block⟩
theorem Mods.alloc (h : Mods F a w) (o : Obj) : Mods F a (w.alloc o) :=
  ⟨h.os, h.tape, h.output, Nat.le_trans h.size (by simp), fun k hk hn => (Below.heap_alloc w o k (Nat.lt_of_lt_of_le hk h.size)).trans (h.block k hk hn)⟩
theorem Mods.setCell (h : Mods F a w) {p : Addr} (hp : p.block ∈ F ∨ a.heap.size ≤ p.block) (u : Value) : Mods F a (w.setCell p u) :=
  ⟨h.os, h.tape, h.output, by simpa [World.setCell] using h.size, fun k hk hn => (Below.heap_setCell w p u k (fun e => by
    subst e
    rcases hp with h | h
    · exact hn h
    · omega)).trans (h.block k hk hn)⟩
theorem Mods.grown {row : Option Nat} (h : Mods F a w) (hg : w.grownBy w' row) (hr : ∀ k, row = some k → k ∈ F ∨ a.heap.size ≤ k) : Mods F a w' :=
  ⟨hg.os.trans h.os, hg.tape.trans h.tape, hg.output.trans h.output, Nat.le_trans h.size hg.size, fun k hk hn =>
    (hg.block k (Nat.lt_of_lt_of_le hk h.size) (fun e => by
      rcases hr k e.symm with h | h
      · exact hn h
      · omega)).trans (h.block k hk hn)⟩
theorem Mods.below_ {B : Nat} (h : Mods F w w') (hF : ∀ k ∈ F, B ≤ k) (hB : B ≤ w.heap.size) : Below B w w' :=
  ⟨h.os, h.tape, h.output, h.size, fun k hk => h.block k (by omega) (fun hm => by have := hF k hm; omega)⟩
theorem Mods.below (h : Mods [] w w') : Below w.heap.size w w' := h.below_ (fun _ hk => by cases hk) (Nat.le_refl _)
theorem Mods.of_below (h : Below w.heap.size w w') : Mods F w w' := ⟨h.os, h.tape, h.output, h.size, fun k hk _ => h.block k hk⟩
theorem Mods.cell (h : Mods F w w') {p : Addr} (hp : p.block < w.heap.size) (hn : p.block ∉ F) : w'.cell? p = w.cell? p := World.cell?_of_block (w := w) (h.block p.block hp hn)
theorem Mods.frozen (h : Mods F w w') {p : Addr} (hp : p.block < w.heap.size) (hn : p.block ∉ F) : w'.frozen? p = w.frozen? p := World.frozen?_of_block (w := w) (h.block p.block hp hn)

end
theorem Mods.same {F : List Nat} {w w1 w2 : World} (h : Mods F w w1) (h1 : w2.heap = w1.heap) (h2 : w2.os = w1.os) (h3 : w2.tape = w1.tape) (h4 : w2.output = w1.output) : Mods F w w2 :=
  ⟨h2.trans h.os, h3.trans h.tape, h4.trans h.output, by rw [h1]; exact h.size, fun k hk hn => by rw [h1]; exact h.block k hk hn⟩
section
variable {F F1 F2 : List Nat} {a b w w' w1 w2 : World}
/-- Block g is just these cells, none frozen. -/
def Row (w : World) (g : Nat) (t : TypeId) (cs : Array Value) : Prop := w.heap[g]? = some (.cells cs t (0, 0))
variable {g : Nat} {t : TypeId} {cs : Array Value}
theorem Row.lt (h : Row w g t cs) : g < w.heap.size := (Array.getElem?_eq_some_iff.1 h).1
theorem Row.cell (h : Row w g t cs) (i : Nat) : w.cell? ⟨g, i, none⟩ = cs[i]? := cell_of_row w g i cs t (0, 0) h
theorem Row.free (h : Row w g t cs) (i : Nat) : w.frozen? ⟨g, i, none⟩ = false := frozen_of_row w g i cs t h
theorem Row.keep (h : Row w g t cs) (e : w'.heap[g]? = w.heap[g]?) : Row w' g t cs := Eq.trans e h
theorem Row.mods (h : Row w g t cs) (hm : Mods F w w') (hn : g ∉ F) : Row w' g t cs := h.keep (hm.block g h.lt hn)
theorem Row.set (h : Row w g t cs) (i : Nat) (u : Value) : Row (w.setCell ⟨g, i, none⟩ u) g t (cs.setIfInBounds i u) := heap_setCell_same w g i cs t u h
theorem Row.far (h : Row w g t cs) {p : Addr} (hp : g ≠ p.block) (u : Value) : Row (w.setCell p u) g t cs := h.keep (heap_setCell_other w p g u hp)
theorem Row.new (w : World) (t : TypeId) (cs : Array Value) : Row (w.alloc (.cells cs t)) w.heap.size t cs := heap_alloc_new w _
theorem Row.alloc (h : Row w g t cs) (o : Obj) : Row (w.alloc o) g t cs := h.keep (heap_alloc_old w o g h.lt)
theorem Row.cellA (h : Row w g t cs) (o : Obj) (i : Nat) : (w.alloc o).cell? ⟨g, i, none⟩ = cs[i]? := (h.alloc o).cell i
theorem cell_alloc {p : Addr} {u : Value} (h : w.cell? p = some u) (o : Obj) : (w.alloc o).cell? p = some u :=
  (World.cell?_of_block (w := w) (heap_alloc_old w o p.block (World.block_lt_of_cell? w p h))).trans h
theorem cell_mods {p : Addr} {u : Value} (h : w.cell? p = some u) (hm : Mods F w w') (hn : p.block ∉ F) : w'.cell? p = some u :=
  (hm.cell (World.block_lt_of_cell? w p h) hn).trans h
theorem cell_new {o : Array Value} (hm : Mods F (w.alloc (.cells o t)) w') (hF : w.heap.size ∉ F) (i : Nat) : w'.cell? ⟨w.heap.size, i, none⟩ = o[i]? :=
  (hm.cell (p := ⟨w.heap.size, i, none⟩) (by simp) hF).trans ((Row.new w t o).cell i)
theorem Row.type_ne {g' : Nat} {t' : TypeId} {cs' : Array Value} (h : Row w g t cs) (h' : Row w g' t' cs') (hne : t ≠ t') : g ≠ g' := by
  rintro rfl
  unfold Row at h h'
  rw [h] at h'
  injection h' with h'
  injection h' with _ ht
  exact hne ht

/-! A row of the call's own behind a slice. -/
variable {e : TypeId} {size n : Nat} {v : Value} {xs : List Value}
theorem own_keep (h : w.ownsRow 0 e size v n xs) (hk : ∀ k ∈ v.ownBlock.toList, w'.heap[k]? = w.heap[k]?) : w'.ownsRow 0 e size v n xs := by
  refine ⟨h.1, ?_⟩
  rcases h.2 with hn | ⟨g, cap, cur, rfl, hb, hg, r⟩
  · exact .inl hn
  · exact .inr ⟨g, cap, cur, rfl, hb, (hk g (by simp [Value.ownBlock])).trans hg, r⟩
theorem own_lt (h : w.ownsRow 0 e size v n xs) : ∀ k ∈ v.ownBlock.toList, k < w.heap.size := fun k hk => (h.lt k (by simpa using hk)).2
theorem own_mods (h : w.ownsRow 0 e size v n xs) (hm : Mods F w w') (hn : ∀ k ∈ v.ownBlock.toList, k ∉ F) : w'.ownsRow 0 e size v n xs :=
  own_keep h fun k hk => hm.block k (own_lt h k hk) (hn k hk)
theorem own_ne_row (h : w.ownsRow 0 e size v n xs) (hg : Row w g t cs) (hne : e ≠ t) : ∀ k ∈ v.ownBlock.toList, k ≠ g := by
  rcases h.2 with ⟨rfl, _⟩ | ⟨g', cap, cur, rfl, _, hh, _⟩
  · intro k hk; simp [Value.ownBlock] at hk
  · intro k hk he
    have : k = g' := by simpa [Value.ownBlock, eq_comm] using hk
    subst this; subst he
    exact Row.type_ne (t := e) hh hg hne rfl
/-- A slice value, its cells by index. -/
theorem own_slice (h : w.ownsRow 0 e size v n xs) : ∃ A cap, v = .slice A n cap ∧ n ≤ cap ∧ cap ≤ maxLen := by
  rcases h.2 with ⟨rfl, rfl⟩ | ⟨g', cap, cur, rfl, _, _, h1, h2, _⟩
  · exact ⟨none, 0, rfl, Nat.le_refl _, by unfold maxLen; omega⟩
  · exact ⟨_, cap, rfl, h1, h2⟩
theorem own_some (h : w.ownsRow 0 e size v n xs) (hn : 0 < n) : ∃ g cap, v = .slice (some ⟨g, 0, none⟩) n cap ∧ g < w.heap.size ∧ n ≤ cap ∧ cap ≤ maxLen := by
  rcases h.2 with ⟨rfl, rfl⟩ | ⟨g', cap, cur, rfl, _, hh, h1, h2, _⟩
  · omega
  · exact ⟨g', cap, rfl, (Array.getElem?_eq_some_iff.1 hh).1, h1, h2⟩
end
/-- Pairs of integers in a row, from its head on. -/
def Pairs (w : World) (b : Nat) (l : List (Int × Int)) : Prop :=
  ∀ j p, l[j]? = some p → w.cell? ⟨b, j * 2, none⟩ = some (.int .i64 p.1) ∧ w.cell? ⟨b, j * 2 + 1, none⟩ = some (.int .i64 p.2) ∧ (-9223372036854775808 ≤ p.1 ∧ p.1 ≤ 9223372036854775807) ∧ (-9223372036854775808 ≤ p.2 ∧ p.2 ≤ 9223372036854775807)
theorem Pairs.mods {F : List Nat} {w w' : World} {b : Nat} {l : List (Int × Int)} (h : Pairs w b l) (hm : Mods F w w') (hb : b ∉ F) : Pairs w' b l := fun j p hp =>
  ⟨cell_mods (h j p hp).1 hm hb, cell_mods (h j p hp).2.1 hm hb, (h j p hp).2.2⟩
/-- A list of pairs of integers as cells. -/
def flat : List (Int × Int) → List Value
  | [] => []
  | p :: l => .int .i64 p.1 :: .int .i64 p.2 :: flat l
theorem flat_append (l m : List (Int × Int)) : flat (l ++ m) = flat l ++ flat m := by
  induction l with
  | nil => rfl
  | cons p l ih => simp [flat, ih]
theorem flat_length (l : List (Int × Int)) : (flat l).length = l.length * 2 := by
  induction l with
  | nil => rfl
  | cons p l ih => simp [flat, ih]; omega
theorem flat_at (l : List (Int × Int)) : ∀ (j : Nat) (p : Int × Int), l[j]? = some p → (flat l)[j * 2]? = some (.int .i64 p.1) ∧ (flat l)[j * 2 + 1]? = some (.int .i64 p.2) := by
  induction l with
  | nil => intro j p h; simp at h
  | cons q l ih =>
    intro j p h
    cases j with
    | zero => simp at h; subst h; exact ⟨rfl, rfl⟩
    | succ j =>
      have := ih j p (by simpa using h)
      rw [show (j + 1) * 2 = j * 2 + 1 + 1 by omega]
      exact this
/-- A slice value of the call's own that holds these pairs. -/
def OwnPairs (w : World) (t : TypeId) (v : Value) (l : List (Int × Int)) : Prop := w.ownsRow 0 t 2 v l.length (flat l)
#print axioms own_ne_row
end Go.Proofs.YtgkhelbpccehcaaGreatDoor
