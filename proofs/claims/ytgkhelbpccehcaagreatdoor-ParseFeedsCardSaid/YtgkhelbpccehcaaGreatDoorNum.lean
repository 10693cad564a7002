/- The code's and the document's reading of a text as a number answer one plain function. Conditions: a base from 2 to 16, so many digits that no number passes 2^53. -/
import Derived.Test.YtgkhelbpccehcaaGreatDoorDig
namespace Go.Proofs.YtgkhelbpccehcaaGreatDoor
open Go.RowKit
set_option linter.unusedVariables false

def numL (b : Int) : Int → List UInt8 → Int × Bool
  | n, [] => (n, true)
  | n, c :: l => if b ≤ digB c then (0, false) else numL b (n * b + digB c) l
def numB (b : Int) (m : Nat) (l : List UInt8) : Int × Bool := if l = [] ∨ m < l.length then (0, false) else numL b 0 l
def pw (b : Int) (k : Nat) : Int := b ^ k

theorem numL_nil (b n : Int) : numL b n [] = (n, true) := rfl
theorem numL_bad {b n : Int} {c : UInt8} {l : List UInt8} (h : b ≤ digB c) : numL b n (c :: l) = (0, false) := by simp [numL, h]
theorem numL_good {b n : Int} {c : UInt8} {l : List UInt8} (h : digB c < b) : numL b n (c :: l) = numL b (n * b + digB c) l := by
  have : ¬ b ≤ digB c := by omega
  simp [numL, this]

theorem pw_mono (b : Int) (hb : 2 ≤ b) (k m : Nat) (h : k ≤ m) : pw b k ≤ pw b m := by
  induction m with
  | zero => obtain rfl : k = 0 := by omega
            exact Int.le_refl _
  | succ m ih =>
    by_cases e : k = m + 1
    · subst e; exact Int.le_refl _
    · have h1 := ih (by omega)
      have h2 : 0 ≤ pw b m := Int.pow_nonneg (by omega)
      have h3 : pw b (m + 1) = pw b m * b := Int.pow_succ b m
      have h4 : pw b m * 2 ≤ pw b m * b := Int.mul_le_mul_of_nonneg_left hb h2
      omega

theorem num_step (b : Int) (m k : Nat) (n d : Int) (hb : 2 ≤ b) (h0 : 0 ≤ n) (hn : n < pw b k) (hd : 0 ≤ d) (hd2 : d < b) (hk : k < m) (hp : pw b m ≤ 9007199254740992) :
    0 ≤ n * b ∧ n * b ≤ 9007199254740992 ∧ n * b + d < pw b (k + 1) := by
  have h1 := pw_mono b hb (k + 1) m (by omega)
  have h3 : pw b (k + 1) = pw b k * b := Int.pow_succ b k
  have h4 : (n + 1) * b ≤ pw b k * b := Int.mul_le_mul_of_nonneg_right (by omega) (by omega)
  have h5 : (n + 1) * b = n * b + b := by rw [Int.add_mul, Int.one_mul]
  have h6 : 0 ≤ n * b := Int.mul_nonneg h0 (by omega)
  omega

theorem drop_cons (s : ByteArray) (k : Nat) (h : k < s.size) : s.data.toList.drop k = s[k] :: s.data.toList.drop (k + 1) := by
  rw [List.drop_eq_getElem_cons (by simpa using h)]; rfl

theorem ret_num {p : Int × Bool} {a : Int} {c : Bool} (h : p = (a, c)) : Ending.returned (.tuple #[.int .i64 a, .bool c]) = .returned (.tuple #[.int .i64 p.1, .bool p.2]) := by rw [h]

theorem len_data (s : ByteArray) : s.data.toList.length = s.size := rfl
theorem emp_yes {s : ByteArray} (h : s.size = 0) : s.toList = [] := by
  rw [ByteArray.toList_eq]; exact List.eq_nil_of_length_eq_zero (by rw [len_data]; exact h)
theorem emp_no {s : ByteArray} (h : 0 < s.size) : s.toList.isEmpty = false ∧ ¬ s.toList = [] := by
  have : s.toList ≠ [] := by
    rw [ByteArray.toList_eq]; intro e; have : s.size = 0 := by rw [← len_data, e]; rfl
    omega
  exact ⟨by simpa using this, this⟩
theorem numB_out {b : Int} {m : Nat} {s : ByteArray} (h : s.size = 0 ∨ m < s.size) : numB b m s.data.toList = (0, false) := by
  unfold numB; rw [if_pos]
  rcases h with h | h
  · left; exact List.eq_nil_of_length_eq_zero (by rw [len_data]; exact h)
  · right; rw [len_data]; exact h
theorem numB_in {b : Int} {m : Nat} {s : ByteArray} (h : 0 < s.size) (h2 : s.size ≤ m) : numB b m s.data.toList = numL b 0 s.data.toList := by
  unfold numB; rw [if_neg]
  rw [len_data]
  rintro (e | e)
  · have : s.size = 0 := by rw [← len_data, e]; rfl
    omega
  · omega

set_option maxRecDepth 10000 in
theorem num_a (s : ByteArray) (b : Int) (m : Nat) (w : World) (hs : s.size ≤ maxLen) (hb : 2 ≤ b) (hb2 : b ≤ 16) (hp : pw b m ≤ 9007199254740992) (hm : m ≤ 100) :
    Calls Tryz.prog 196 #[.string s, .int .i64 b, .int .i64 (m : Int)] w fun e w' => e = .returned (.tuple #[.int .i64 (numB b m s.data.toList).1, .bool (numB b m s.data.toList).2]) ∧ w = w' := by
  unfold maxLen at hs
  rcases (by omega : s.size = 0 ∨ (0 < s.size ∧ m < s.size) ∨ (0 < s.size ∧ s.size ≤ m)) with he | ⟨h0, he⟩ | ⟨h0, he⟩
  · have H := Lib.hid (numB_out (b := b) (m := m) (s := s) (Or.inl he))
    have h1 := emp_yes he
    clear he
    go_enter Tryz.func196, Tryz.ntmps196
    go_wp2
    go_ret2
    exact ⟨ret_num H.out, rfl⟩
  · have H := Lib.hid (numB_out (b := b) (m := m) (s := s) (Or.inr he))
    obtain ⟨h1, h2⟩ := emp_no h0
    go_enter Tryz.func196, Tryz.ntmps196
    go_wp2
    go_ret2
    exact ⟨ret_num H.out, rfl⟩
  · have H := Lib.hid (numB_in (b := b) (m := m) (s := s) h0 he)
    obtain ⟨h1, h2⟩ := emp_no h0
    have HP := Lib.hid hp
    have hB : decide (m < s.size) = false := by simpa using he
    clear hp
    go_enter Tryz.func196, Tryz.ntmps196
    go_wp2
    go_loop [8, 21] (fun n i => ∃ (k : Nat) (q : Int), k ≤ s.size ∧ i = .int .i64 k ∧ n = .int .i64 q ∧ 0 ≤ q ∧ q < pw b k ∧ numL b 0 s.data.toList = numL b q (s.data.toList.drop k)) (fun _ i => s.size - (intOf i).toNat)
    case atStart => exact ⟨0, 0, Nat.zero_le _, rfl, rfl, by omega, by show (0 : Int) < b ^ 0; simp, rfl⟩
    case round =>
      obtain ⟨k, q, hk, rfl, rfl, hq, hqk, hl⟩ := hrel
      have HL := Lib.hid hl
      have HQ := Lib.hid hqk
      clear hl hqk
      by_cases hlt : k < s.size
      · have hd := digB_le s[k]
        have HD := Lib.hid (drop_cons s k hlt)
        by_cases hbad : b ≤ digB s[k]
        · go_wp2_with (go_at_call 211; refine (dig_a _ _).mono ?_; rintro e w' ⟨rfl, rfl⟩)
          go_ret2
          exact ⟨ret_num (by rw [H.out, HL.out, HD.out, numL_bad hbad]), rfl⟩
        · have hs1 := num_step b m k q (digB s[k]) hb hq HQ.out hd.1 (by omega) (by omega) HP.out
          obtain ⟨hs1, hs2, hs3⟩ := hs1
          have HS := Lib.hid hs3
          clear hs3
          go_wp2_with (go_at_call 211; refine (dig_a _ _).mono ?_; rintro e w' ⟨rfl, rfl⟩)
          go_round
          case rel => exact ⟨k + 1, _, by omega, by go_num, rfl, by omega, HS.out, by rw [HL.out, HD.out, numL_good (by omega)]⟩
          case measure => simp [intOf]; omega
      · go_wp2
        go_ret2
        exact ⟨ret_num (by rw [H.out, HL.out, List.drop_of_length_le (by rw [len_data]; omega), numL_nil]), rfl⟩
set_option maxRecDepth 10000 in
theorem num_r (s : ByteArray) (b : Int) (m : Nat) (w : World) (hs : s.size ≤ maxLen) (hb : 2 ≤ b) (hb2 : b ≤ 16) (hp : pw b m ≤ 9007199254740992) (hm : m ≤ 100) :
    Calls Tryz.prog 114 #[.string s, .int .i64 b, .int .i64 (m : Int)] w fun e w' => e = .returned (.tuple #[.int .i64 (numB b m s.data.toList).1, .bool (numB b m s.data.toList).2]) ∧ w = w' := by
  unfold maxLen at hs
  rcases (by omega : s.size = 0 ∨ (0 < s.size ∧ m < s.size) ∨ (0 < s.size ∧ s.size ≤ m)) with he | ⟨h0, he⟩ | ⟨h0, he⟩
  · have H := Lib.hid (numB_out (b := b) (m := m) (s := s) (Or.inl he))
    have h1 : (s.size : Int) < 1 := by omega
    clear he
    go_enter Tryz.func114, Tryz.ntmps114
    go_wp2
    go_ret2
    exact ⟨ret_num H.out, rfl⟩
  · have H := Lib.hid (numB_out (b := b) (m := m) (s := s) (Or.inr he))
    have h1 : decide ((s.size : Int) < 1) = false := by simp; omega
    go_enter Tryz.func114, Tryz.ntmps114
    go_wp2
    go_ret2
    exact ⟨ret_num H.out, rfl⟩
  · have H := Lib.hid (numB_in (b := b) (m := m) (s := s) h0 he)
    have h1 : decide ((s.size : Int) < 1) = false := by simp; omega
    have HP := Lib.hid hp
    have hB : decide (m < s.size) = false := by simpa using he
    clear hp
    go_enter Tryz.func114, Tryz.ntmps114
    go_wp2
    go_loop [8, 9] (fun n i => ∃ (k : Nat) (q : Int), k ≤ s.size ∧ i = .int .i64 k ∧ n = .int .i64 q ∧ 0 ≤ q ∧ q < pw b k ∧ numL b 0 s.data.toList = numL b q (s.data.toList.drop k)) (fun _ i => s.size - (intOf i).toNat)
    case atStart => exact ⟨0, 0, Nat.zero_le _, rfl, rfl, by omega, by show (0 : Int) < b ^ 0; simp, rfl⟩
    case round =>
      obtain ⟨k, q, hk, rfl, rfl, hq, hqk, hl⟩ := hrel
      have HL := Lib.hid hl
      have HQ := Lib.hid hqk
      clear hl hqk
      by_cases hlt : k < s.size
      · have hd := digB_le s[k]
        have HD := Lib.hid (drop_cons s k hlt)
        by_cases hbad : b ≤ digB s[k]
        · by_cases h16 : digB s[k] = 16
          · have hr : digR s[k] < 0 := by rw [digR_eq, if_pos h16]; omega
            clear h16
            go_wp2_with (go_at_call 93; refine (dig_r _ _).mono ?_; rintro e w' ⟨rfl, rfl⟩)
            go_ret2
            exact ⟨ret_num (by rw [H.out, HL.out, HD.out, numL_bad hbad]), rfl⟩
          · have hr : ¬ digR s[k] < 0 := by rw [digR_eq, if_neg h16]; omega
            have hr2 : b ≤ digR s[k] := by rw [digR_eq, if_neg h16]; omega
            clear h16
            go_wp2_with (go_at_call 93; refine (dig_r _ _).mono ?_; rintro e w' ⟨rfl, rfl⟩)
            go_ret2
            exact ⟨ret_num (by rw [H.out, HL.out, HD.out, numL_bad hbad]), rfl⟩
        · have hr : digR s[k] = digB s[k] := by rw [digR_eq, if_neg (by omega)]
          have hs1 := num_step b m k q (digB s[k]) hb hq HQ.out hd.1 (by omega) (by omega) HP.out
          rw [← hr] at hs1 hbad hd
          have HR := Lib.hid hr
          clear hr
          obtain ⟨hs1, hs2, hs3⟩ := hs1
          obtain ⟨hd1, hd2⟩ := hd
          have HS := Lib.hid hs3
          clear hs3
          go_wp2_with (go_at_call 93; refine (dig_r _ _).mono ?_; rintro e w' ⟨rfl, rfl⟩)
          go_round
          case rel => exact ⟨k + 1, _, by omega, by go_num, rfl, by omega, HS.out, by rw [HL.out, HD.out, HR.out, numL_good (by rw [← HR.out]; omega)]⟩
          case measure => simp [intOf]; omega
      · go_wp2
        go_ret2
        exact ⟨ret_num (by rw [H.out, HL.out, List.drop_of_length_le (by rw [len_data]; omega), numL_nil]), rfl⟩
end Go.Proofs.YtgkhelbpccehcaaGreatDoor
