/- Which rings are lent, in plain words. No text of the program. -/
import Derived.Test.YtdocifbkocbiiaaRingD
namespace Go.Proofs.Ytdocifbkocbiiaa
set_option linter.unusedVariables false

/-- How many are lent. -/
def cnt (O : List Bool) : Nat := O.count true
/-- Their marks. -/
def mk (b : Bool) : Int := if b then 1 else 0
def marks (O : List Bool) : List Int := O.map mk
/-- The least that is not lent. -/
def lo : List Bool → Nat
  | [] => 0
  | true :: l => lo l + 1
  | false :: _ => 0
def lentAt (O : List Bool) (i : Int) : Bool := decide (0 ≤ i) && (O[i.toNat]?).getD false
def put1 (O : List Bool) (i : Int) : List Bool := if lentAt O i = true then O.set i.toNat false else O
def puts (O : List Bool) (l : List Int) : List Bool := l.foldl put1 O
theorem marks_length (O : List Bool) : (marks O).length = O.length := by simp [marks]
theorem mk_range (b : Bool) : 0 ≤ mk b ∧ mk b ≤ 255 := by cases b <;> simp [mk]
theorem cnt_le (O : List Bool) : cnt O ≤ O.length := List.count_le_length
theorem cnt_set (O : List Bool) (i : Nat) (b : Bool) (h : i < O.length) : cnt (O.set i b) = cnt O - (if O[i] = true then 1 else 0) + (if b = true then 1 else 0) := by
  unfold cnt; rw [List.count_set h]; simp
theorem cnt_take (O : List Bool) (i : Nat) (h : O[i]? = some false) : cnt (O.set i true) = cnt O + 1 := by
  obtain ⟨hi, e⟩ := List.getElem?_eq_some_iff.1 h
  rw [cnt_set O i true hi, e]; simp
theorem cnt_give (O : List Bool) (i : Nat) (h : O[i]? = some true) : cnt (O.set i false) + 1 = cnt O := by
  obtain ⟨hi, e⟩ := List.getElem?_eq_some_iff.1 h
  have hp : 0 < cnt O := List.count_pos_iff.2 (e ▸ List.getElem_mem hi)
  rw [cnt_set O i false hi, e]; simp; omega
theorem lentAt_iff (O : List Bool) (i : Int) : lentAt O i = true ↔ 0 ≤ i ∧ O[i.toNat]? = some true := by
  unfold lentAt
  rw [Bool.and_eq_true, decide_eq_true_iff]
  cases O[i.toNat]? with
  | none => simp
  | some b => simp
theorem put1_length (O : List Bool) (i : Int) : (put1 O i).length = O.length := by unfold put1; split <;> simp
theorem put1_yes (O : List Bool) (i : Int) (h : lentAt O i = true) : put1 O i = O.set i.toNat false ∧ cnt (put1 O i) + 1 = cnt O ∧ 0 ≤ i ∧ i < O.length ∧ O[i.toNat]? = some true := by
  obtain ⟨h0, h1⟩ := (lentAt_iff O i).1 h
  have h2 : put1 O i = O.set i.toNat false := by unfold put1; rw [if_pos h]
  have h3 := (List.getElem?_eq_some_iff.1 h1).1
  exact ⟨h2, by rw [h2]; exact cnt_give O _ h1, h0, by omega, h1⟩
theorem put1_no (O : List Bool) (i : Int) (h : lentAt O i = false) : put1 O i = O := by unfold put1; rw [if_neg (by simp [h])]
theorem put1_cnt (O : List Bool) (i : Int) : cnt (put1 O i) ≤ cnt O := by
  cases h : lentAt O i with
  | false => rw [put1_no O i h]; exact Nat.le_refl _
  | true => have := (put1_yes O i h).2.1; omega
theorem puts_snoc (O : List Bool) (l : List Int) (k : Nat) (h : k < l.length) : puts O (l.take (k + 1)) = put1 (puts O (l.take k)) l[k] := by
  unfold puts; rw [List.take_succ_eq_append_getElem h, List.foldl_append]; rfl
theorem puts_length (l : List Int) : ∀ O : List Bool, (puts O l).length = O.length := by
  induction l with
  | nil => intro O; rfl
  | cons i l ih => intro O; exact (ih (put1 O i)).trans (put1_length O i)
theorem puts_cnt (l : List Int) : ∀ O : List Bool, cnt (puts O l) ≤ cnt O := by
  induction l with
  | nil => intro O; exact Nat.le_refl _
  | cons i l ih => intro O; exact Nat.le_trans (ih (put1 O i)) (put1_cnt O i)
theorem lo_le (O : List Bool) : lo O ≤ O.length := by
  induction O with
  | nil => exact Nat.le_refl _
  | cons b l ih => cases b <;> simp [lo, ih]
theorem lo_at (O : List Bool) (h : lo O < O.length) : O[lo O]? = some false := by
  induction O with
  | nil => simp at h
  | cons b l ih =>
    cases b with
    | false => rfl
    | true => simp only [lo, List.length_cons] at h ⊢; rw [List.getElem?_cons_succ]; exact ih (by omega)
theorem lo_low (O : List Bool) : ∀ j, j < lo O → O[j]? = some true := by
  induction O with
  | nil => intro j h; simp [lo] at h
  | cons b l ih =>
    cases b with
    | false => intro j h; simp [lo] at h
    | true =>
      intro j h
      cases j with
      | zero => rfl
      | succ j => rw [List.getElem?_cons_succ]; simp only [lo] at h; exact ih j (by omega)
theorem lo_idx (O : List Bool) : idx (marks O) 0 = if lo O < O.length then (lo O : Int) else -1 := by
  induction O with
  | nil => rfl
  | cons b l ih =>
    cases b with
    | false => simp [marks, idx, mk, lo]
    | true =>
      have e : idx (marks (true :: l)) 0 = if idx (marks l) 0 = -1 then -1 else idx (marks l) 0 + 1 := by
        show (if (1 : Int) = 0 then _ else _) = _
        rw [if_neg (by decide)]; rfl
      have e2 : lo (true :: l) = lo l + 1 := rfl
      have e3 : (true :: l).length = l.length + 1 := rfl
      rw [e, ih, e2, e3]
      by_cases h : lo l < l.length
      · rw [if_pos h, if_neg (by omega), if_pos (show lo l + 1 < l.length + 1 by omega)]; omega
      · rw [if_neg h, if_pos rfl, if_neg (show ¬ lo l + 1 < l.length + 1 by omega)]
theorem bv_marks_at (O : List Bool) (i : Nat) (b : Bool) (h : O[i]? = some b) : (bv (marks O)).toArray[i]? = some (.int .u8 (mk b)) := by
  rw [List.getElem?_toArray]
  exact (bv_at _ _ _).2 ⟨mk b, by simp [marks, h], rfl⟩
theorem bv_marks_set (O : List Bool) (i : Nat) (b : Bool) : (bv (marks O)).toArray.setIfInBounds i (.int .u8 (mk b)) = (bv (marks (O.set i b))).toArray := by
  simp [bv, marks, List.map_set, List.setIfInBounds_toArray]
theorem bv_marks_new (n : Nat) : (bv (marks (List.replicate n false))).toArray = madeCells #[.int .u8 0] n := by
  refine Array.ext ?_ ?_
  · simp [bv, marks, size_madeCells]
  · intro i h1 h2
    have h0 : i % 1 = 0 := Nat.mod_one i
    simp [bv, marks, madeCells, h0, mk]
#print axioms lo_idx
end Go.Proofs.Ytdocifbkocbiiaa
