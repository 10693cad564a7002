/- Plain mathematics of a stable sort: no text of the program. -/
import Derived.Lib.Hide
namespace Go.Proofs.YtgfmjkbelciaaaaDoor

section
variable {key : Nat → Int}
/-- Sorted by key. -/
def Srt (key : Nat → Int) (l : List Nat) : Prop := l.Pairwise (fun x y => key x ≤ key y)
/-- Of each key the same ones, in the same order. -/
def Same (key : Nat → Int) (l m : List Nat) : Prop := ∀ k, l.filter (fun x => key x == k) = m.filter (fun x => key x == k)
theorem Same.refl (key : Nat → Int) (l : List Nat) : Same key l l := fun _ => rfl
theorem Same.symm {l m : List Nat} (h : Same key l m) : Same key m l := fun k => (h k).symm
theorem Same.trans {l m n : List Nat} (h : Same key l m) (h' : Same key m n) : Same key l n := fun k => (h k).trans (h' k)
theorem Same.append {l l' m m' : List Nat} (h : Same key l l') (h' : Same key m m') : Same key (l ++ m) (l' ++ m') := fun k => by
  rw [List.filter_append, List.filter_append, h k, h' k]
theorem Same.perm {l m : List Nat} (h : Same key l m) : l.Perm m := List.perm_iff_count.2 fun a => by
  have e := h (key a)
  rw [← List.count_filter (l := l) (p := fun x => key x == key a) (a := a) (by simp), ← List.count_filter (l := m) (p := fun x => key x == key a) (a := a) (by simp), e]
theorem Same.length {l m : List Nat} (h : Same key l m) : l.length = m.length := h.perm.length_eq
theorem Same.mem {l m : List Nat} (h : Same key l m) {x : Nat} : x ∈ l ↔ x ∈ m := h.perm.mem_iff
theorem Same.swap {l m : List Nat} (h : ∀ x ∈ l, ∀ y ∈ m, key x ≠ key y) : Same key (l ++ m) (m ++ l) := fun k => by
  rw [List.filter_append, List.filter_append]
  by_cases hl : ∃ x ∈ l, key x = k
  · obtain ⟨x, hx, hk⟩ := hl
    have e : m.filter (fun x => key x == k) = [] := List.filter_eq_nil_iff.2 fun y hy he => h x hx y hy (hk.trans (Eq.symm (by simpa using he)))
    rw [e]; simp
  · have e : l.filter (fun x => key x == k) = [] := List.filter_eq_nil_iff.2 fun y hy he => hl ⟨y, hy, by simpa using he⟩
    rw [e]; simp
theorem Same.filter {l m : List Nat} (h : Same key l m) (p : Nat → Bool) : Same key (l.filter p) (m.filter p) := fun k => by
  have e := congrArg (List.filter p) (h k)
  simp only [List.filter_filter] at e ⊢
  simpa [Bool.and_comm] using e
theorem Same.nil {m : List Nat} (h : Same key [] m) : m = [] := by
  have := h.length
  exact List.eq_nil_of_length_eq_zero (by simpa using this.symm)
theorem srt_cons {x : Nat} {l : List Nat} : Srt key (x :: l) ↔ (∀ y ∈ l, key x ≤ key y) ∧ Srt key l := List.pairwise_cons
theorem srt_append {l m : List Nat} : Srt key (l ++ m) ↔ Srt key l ∧ Srt key m ∧ ∀ x ∈ l, ∀ y ∈ m, key x ≤ key y := List.pairwise_append
theorem srt_one (x : Nat) : Srt key [x] := List.pairwise_singleton _ _
theorem srt_nil : Srt key [] := List.Pairwise.nil
/-- There is one stable sort. -/
theorem srt_uniq : ∀ {l m : List Nat}, Srt key l → Srt key m → Same key l m → l = m := by
  intro l
  induction l with
  | nil => intro m _ _ h; exact h.nil.symm
  | cons x l ih =>
    intro m hl hm h
    cases m with
    | nil => exact h.symm.nil
    | cons y m =>
      have hx := srt_cons.1 hl
      have hy := srt_cons.1 hm
      have e1 : key x ≤ key y := by
        rcases List.mem_cons.1 (h.mem.2 (List.mem_cons_self (a := y))) with e | e
        · rw [e]; exact Int.le_refl _
        · exact hx.1 y e
      have e2 : key y ≤ key x := by
        rcases List.mem_cons.1 (h.mem.1 (List.mem_cons_self (a := x))) with e | e
        · rw [e]; exact Int.le_refl _
        · exact hy.1 x e
      have ek : key x = key y := Int.le_antisymm e1 e2
      have h0 := h (key x)
      rw [List.filter_cons, List.filter_cons, if_pos (by simp), if_pos (by simp [ek])] at h0
      injection h0 with h1 h2
      subst h1
      refine congrArg (x :: ·) (ih hx.2 hy.2 fun k => ?_)
      have h3 := h k
      rw [List.filter_cons, List.filter_cons] at h3
      by_cases hk : (key x == k) = true
      · rw [if_pos hk, if_pos hk] at h3
        injection h3
      · rw [if_neg hk, if_neg hk] at h3
        exact h3
/-- Two sorted rows, cut so that what stands ahead is not above what stands behind, are merged by parts. -/
theorem srt_merge {A1 A2 B1 B2 Z1 Z2 : List Nat} (hA : Srt key (A1 ++ A2)) (hB : Srt key (B1 ++ B2)) (h1 : ∀ y ∈ B1, ∀ x ∈ A2, key y < key x) (h2 : ∀ x ∈ A1, ∀ y ∈ B2, key x ≤ key y)
    (s1 : Srt key Z1) (e1 : Same key (A1 ++ B1) Z1) (s2 : Srt key Z2) (e2 : Same key (A2 ++ B2) Z2) : Srt key (Z1 ++ Z2) ∧ Same key ((A1 ++ A2) ++ (B1 ++ B2)) (Z1 ++ Z2) := by
  refine ⟨srt_append.2 ⟨s1, s2, fun x hx y hy => ?_⟩, ?_⟩
  · rcases List.mem_append.1 (e1.mem.2 hx) with hx | hx <;> rcases List.mem_append.1 (e2.mem.2 hy) with hy | hy
    · exact (srt_append.1 hA).2.2 x hx y hy
    · exact h2 x hx y hy
    · exact Int.le_of_lt (h1 x hx y hy)
    · exact (srt_append.1 hB).2.2 x hx y hy
  · have s : Same key (A2 ++ B1) (B1 ++ A2) := Same.swap fun x hx y hy e => by have := h1 y hy x hx; omega
    have : Same key (A1 ++ (A2 ++ B1) ++ B2) (A1 ++ (B1 ++ A2) ++ B2) := ((Same.refl key A1).append s).append (Same.refl key B2)
    refine Same.trans ?_ (e1.append e2)
    simpa [List.append_assoc] using this
end
theorem getD_mid (A B : List Nat) (i : Nat) : (A ++ B).getD (A.length + i) 0 = B.getD i 0 := by
  rw [List.getD_eq_getElem?_getD, List.getD_eq_getElem?_getD, List.getElem?_append_right (by omega), Nat.add_sub_cancel_left]
theorem getD_front (A B : List Nat) (i : Nat) (h : i < A.length) : (A ++ B).getD i 0 = A.getD i 0 := by
  rw [List.getD_eq_getElem?_getD, List.getD_eq_getElem?_getD, List.getElem?_append_left h]
theorem getD_mem (l : List Nat) (i : Nat) (h : i < l.length) : l.getD i 0 ∈ l := by
  rw [List.getD_eq_getElem?_getD, List.getElem?_eq_getElem h]
  exact List.getElem_mem h
theorem mem_getD {l : List Nat} {x : Nat} (h : x ∈ l) : ∃ i, i < l.length ∧ l.getD i 0 = x := by
  obtain ⟨i, hi, rfl⟩ := List.getElem_of_mem h
  exact ⟨i, hi, by rw [List.getD_eq_getElem?_getD, List.getElem?_eq_getElem hi]; rfl⟩
theorem at_getD {l : List Nat} {i : Nat} (h : i < l.length) : l[i]? = some (l.getD i 0) := by
  rw [List.getD_eq_getElem?_getD, List.getElem?_eq_getElem h]; rfl
theorem srt_at {key : Nat → Int} {l : List Nat} (h : Srt key l) {i j : Nat} (hij : i ≤ j) (hj : j < l.length) : key (l.getD i 0) ≤ key (l.getD j 0) := by
  rcases Nat.lt_or_ge i j with hlt | hge
  · have := List.pairwise_iff_getElem.1 h i j (by omega) hj hlt
    rw [List.getD_eq_getElem?_getD, List.getD_eq_getElem?_getD, List.getElem?_eq_getElem hj, List.getElem?_eq_getElem (by omega)]
    exact this
  · obtain rfl : i = j := by omega
    exact Int.le_refl _
theorem set_swap (A M B : List Nat) (x y : Nat) : ((A ++ x :: (M ++ y :: B)).set A.length y).set (A.length + 1 + M.length) x = A ++ y :: (M ++ x :: B) := by
  rw [List.set_append_right _ _ (by omega), Nat.sub_self, List.set_cons_zero, List.set_append_right _ _ (by omega), show A.length + 1 + M.length - A.length = M.length + 1 by omega, List.set_cons_succ, List.set_append_right _ _ (by omega), Nat.sub_self, List.set_cons_zero]
theorem set_swap' (A M B : List Nat) (x y : Nat) : ((A ++ x :: (M ++ y :: B)).set (A.length + 1 + M.length) x).set A.length y = A ++ y :: (M ++ x :: B) := by
  rw [List.set_comm _ _ (by omega), set_swap]
#print axioms srt_uniq
end Go.Proofs.YtgfmjkbelciaaaaDoor
