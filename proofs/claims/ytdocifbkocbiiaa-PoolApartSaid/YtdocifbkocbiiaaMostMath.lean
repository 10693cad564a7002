/- Rings that are lent from the first on, and given back from the first on. No text of the program. -/
import Derived.Test.YtdocifbkocbiiaaPoolMath
namespace Go.Proofs.Ytdocifbkocbiiaa
set_option linter.unusedVariables false

/-- Of N the first k are lent. -/
def up (N k : Nat) : List Bool := List.replicate k true ++ List.replicate (N - k) false
/-- Of N the first k are not lent. -/
def down (N k : Nat) : List Bool := List.replicate k false ++ List.replicate (N - k) true
theorem up_zero (N : Nat) : up N 0 = List.replicate N false := by simp [up]
theorem up_all (N : Nat) : up N N = down N 0 := by simp [up, down]
theorem up_length {N k : Nat} (h : k ≤ N) : (up N k).length = N := by simp [up]; omega
theorem down_length {N k : Nat} (h : k ≤ N) : (down N k).length = N := by simp [down]; omega
theorem up_cnt (N k : Nat) : cnt (up N k) = k := by simp [up, cnt, List.count_replicate]
theorem down_cnt (N k : Nat) : cnt (down N k) = N - k := by simp [down, cnt, List.count_replicate]
theorem up_lo {N k : Nat} (h : k ≤ N) : lo (up N k) = k := by
  unfold up
  generalize hr : N - k = r
  clear h hr
  induction k with
  | zero => cases r <;> simp [lo, List.replicate_succ]
  | succ k ih => simp only [List.replicate_succ, List.cons_append, lo, ih]
theorem half_set (a b : Bool) {N k : Nat} (h : k < N) : (List.replicate k a ++ List.replicate (N - k) b).set k a = List.replicate (k + 1) a ++ List.replicate (N - (k + 1)) b := by
  obtain ⟨r, rfl⟩ : ∃ r, N = k + (r + 1) := ⟨N - k - 1, by omega⟩
  rw [show k + (r + 1) - k = r + 1 by omega, show k + (r + 1) - (k + 1) = r by omega, List.replicate_succ (n := r), List.set_append_right _ _ (by simp), List.length_replicate, Nat.sub_self, List.set_cons_zero, List.replicate_succ' (n := k), List.append_assoc]
  rfl
theorem up_set {N k : Nat} (h : k < N) : (up N k).set k true = up N (k + 1) := by
  exact half_set true false h
theorem down_give {N k : Nat} (h : k < N) : puts (down N k) [(k : Int)] = down N (k + 1) := by
  have hk : (down N k)[k]? = some true := by
    simp only [down, List.getElem?_append, List.getElem?_replicate, List.length_replicate]
    rw [if_neg (by omega), if_pos (by omega)]
  have hl : lentAt (down N k) k = true := (lentAt_iff _ _).2 ⟨by omega, by simpa using hk⟩
  show put1 (down N k) k = _
  rw [(put1_yes _ _ hl).1]
  rw [Int.toNat_natCast]
  exact half_set false true h
theorem down_past {N k : Nat} (h : N ≤ k) : puts (down N N) [(k : Int)] = down N N := by
  have hl : lentAt (down N N) k = false := by
    unfold lentAt
    rw [List.getElem?_eq_none (by rw [down_length (Nat.le_refl _)]; simpa using h)]
    simp
  exact put1_no _ _ hl
theorem down_step {N j p : Nat} (hp : p = min j N) : puts (down N p) [(j : Int)] = down N (min (j + 1) N) := by
  by_cases h : j < N
  · rw [hp, Nat.min_eq_left (by omega), Nat.min_eq_left (by omega)]; exact down_give h
  · rw [hp, Nat.min_eq_right (by omega), Nat.min_eq_right (by omega)]; exact down_past (by omega)
#print axioms down_step
end Go.Proofs.Ytdocifbkocbiiaa
