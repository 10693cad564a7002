/- The digits of a number, and that they are read back as the number. Conditions: a base from 2 to 16. -/
import Derived.Test.YtgkhelbpccehcaaGreatDoorNum
import Derived.Lib.ItoaNum
import Derived.Lib.ItoaMem
namespace Go.Proofs.YtgkhelbpccehcaaGreatDoor
open Go.RowKit
set_option linter.unusedVariables false

/-- The byte of a digit. -/
def dgt (d : Nat) : UInt8 := if d < 10 then UInt8.ofNat (48 + d) else UInt8.ofNat (87 + d)
/-- The digits of a number. -/
def digs (b u : Nat) : List UInt8 := if h : u < b ∨ b < 2 then [dgt u] else digs b (u / b) ++ [dgt (u % b)]
  termination_by u
  decreasing_by exact Nat.div_lt_self (by omega) (by omega)
theorem digs_low {b u : Nat} (h : u < b) : digs b u = [dgt u] := by rw [digs, dif_pos (Or.inl h)]
theorem digs_high {b u : Nat} (h : b ≤ u) (hb : 2 ≤ b) : digs b u = digs b (u / b) ++ [dgt (u % b)] := by rw [digs, dif_neg (by omega)]
theorem digs_dec (u : Nat) : digs 10 u = Lib.decDigits u := by
  induction u using Nat.strongRecOn with
  | ind u ih =>
    rw [Lib.decDigits]
    by_cases h : u < 10
    · rw [digs_low h, dif_pos h]; unfold dgt; rw [if_pos h]
    · rw [digs_high (by omega) (by decide), dif_neg h, ih (u / 10) (by omega)]
      unfold dgt; rw [if_pos (by omega)]
theorem digB_dgt (d : Nat) (h : d < 16) : digB (dgt d) = d := by
  have := List.all_eq_true.1 (show (List.range 16).all (fun d => decide (digB (dgt d) = (d : Int))) = true by decide +kernel) d (by rw [List.mem_range]; exact h)
  simpa using this
theorem numL_snoc (b : Int) (c : UInt8) (hc : digB c < b) : ∀ (l : List UInt8) (n m : Int), numL b n l = (m, true) → numL b n (l ++ [c]) = (m * b + digB c, true)
  | [], n, m, h => by
    rw [numL_nil] at h; obtain ⟨rfl, _⟩ := Prod.mk.injEq .. ▸ h
    rw [List.nil_append, numL_good hc, numL_nil]
  | x :: l, n, m, h => by
    by_cases hx : b ≤ digB x
    · rw [numL_bad hx] at h; cases h
    · rw [numL_good (by omega)] at h
      rw [List.cons_append, numL_good (by omega), numL_snoc b c hc l _ _ h]
theorem numL_digs (b : Nat) (hb : 2 ≤ b) (hb2 : b ≤ 16) (u : Nat) : numL b 0 (digs b u) = ((u : Int), true) := by
  induction u using Nat.strongRecOn with
  | ind u ih =>
    by_cases h : u < b
    · rw [digs_low h, numL_good (by rw [digB_dgt u (by omega)]; omega), numL_nil, digB_dgt u (by omega)]; simp
    · have hm : u % b < b := Nat.mod_lt _ (by omega)
      rw [digs_high (by omega) hb, numL_snoc _ _ (by rw [digB_dgt _ (by omega)]; omega) _ _ _ (ih (u / b) (Nat.div_lt_self (by omega) (by omega))), digB_dgt _ (by omega)]
      have := Nat.div_add_mod u b
      rw [Nat.mul_comm] at this
      congr 1
      rw [← Int.natCast_mul, ← Int.natCast_add, this]
theorem digs_pos (b u : Nat) : digs b u ≠ [] := by
  rw [digs]; split <;> simp
theorem digs_le (b : Nat) (hb : 2 ≤ b) (m u : Nat) (h : u < b ^ (m + 1)) : (digs b u).length ≤ m + 1 := by
  induction m generalizing u with
  | zero => rw [digs_low (by simpa using h)]; exact Nat.le_refl _
  | succ m ih =>
    by_cases hu : u < b
    · rw [digs_low hu]; simp
    · rw [digs_high (by omega) hb, List.length_append]
      have := ih (u / b) (by rw [Nat.div_lt_iff_lt_mul (by omega), ← Nat.pow_succ]; exact h)
      simp only [List.length_cons, List.length_nil]; omega
theorem numB_digs (b : Nat) (hb : 2 ≤ b) (hb2 : b ≤ 16) (m u : Nat) (h : u < b ^ (m + 1)) : numB b (m + 1) (digs b u) = ((u : Int), true) := by
  unfold numB
  rw [if_neg]
  · exact numL_digs b hb hb2 u
  · rintro (e | e)
    · exact digs_pos b u e
    · have := digs_le b hb m u h; omega
end Go.Proofs.YtgkhelbpccehcaaGreatDoor
