/- What digit, isTime, place of the program's wheel answer. -/
import Derived.Test.YtgfmjkbelciaaaaDoorWhA
import Derived.Shelf.Small.Bits
namespace Go.Proofs.YtgfmjkbelciaaaaDoor
open Go.Shelf Go.RowKit
set_option maxRecDepth 10000
set_option linter.unusedVariables false
set_option linter.unusedSimpArgs false
set_option linter.unnecessarySimpa false

def l125_ren : Go.Shelf.Ren := ⟨fun | 125 => 54 | 128 => 61 | 129 => 62 | n => n, fun | 3 => 3 | 4 => 4 | 5 => 5 | 9 => 9 | 46 => 105 | 51 => 112 | 53 => 91 | n => n, fun | n => n⟩
theorem l125 : Go.Proofs.Lays.n125 Tryd.prog l125_ren := {
  mixed := by kernel_rfl
  f125 := Tryd.func54.trans (congrArg some (by kernel_rfl))
  f128 := Tryd.func61.trans (congrArg some (by kernel_rfl))
  f129 := Tryd.func62.trans (congrArg some (by kernel_rfl))
  t3 := Tryd.underlying3
  a3 := Tryd.isAgg3
  z3 := Tryd.sizeOf3
  v3 := Tryd.zeroValue3
  t4 := Tryd.underlying4
  a4 := Tryd.isAgg4
  z4 := Tryd.sizeOf4
  v4 := Tryd.zeroValue4
  t5 := Tryd.underlying5
  a5 := Tryd.isAgg5
  z5 := Tryd.sizeOf5
  v5 := Tryd.zeroValue5
  t9 := Tryd.underlying9
  a9 := Tryd.isAgg9
  z9 := Tryd.sizeOf9
  v9 := Tryd.zeroValue9
  t46 := Tryd.underlying105
  a46 := Tryd.isAgg105
  z46 := Tryd.sizeOf105
  v46 := Tryd.zeroValue105
  t51 := Tryd.underlying112
  a51 := Tryd.isAgg112
  z51 := Tryd.sizeOf112
  v51 := Tryd.zeroValue112
  t53 := Tryd.underlying91
  a53 := Tryd.isAgg91
  z53 := Tryd.sizeOf91
  v53 := Tryd.zeroValue91 }

theorem len_bits (x : Nat) (hx : x < 18446744073709551616) (w : World) : Calls Tryd.prog 54 #[.int .u64 (x : Int)] w fun e w' => e = .returned (.int .i64 (Lib.bitLen x)) ∧ w' = w := by
  have := Any.bits_Len l125 (x : Int) w (by omega) (by omega)
  rw [Int.toNat_natCast] at this
  exact this
theorem isTime_any (n : Int) (w : World) : Calls Tryd.prog 29 #[.int .i64 n] w fun e w' => e = .returned (.bool (decide (0 ≤ n) && decide (n ≤ 1099511627776))) ∧ w = w' := by
  by_cases h : 0 ≤ n
  · have hd : decide (0 ≤ n) = true := decide_eq_true h
    go_enter Tryd.func29, Tryd.ntmps29
    go_wp2
    go_ret
    exact ⟨by rw [hd]; rfl, rfl⟩
  · have hd : decide (0 ≤ n) = false := decide_eq_false h
    go_enter Tryd.func29, Tryd.ntmps29
    go_wp2
    go_ret
    exact ⟨by simp only [hd, Bool.false_and]; rfl, rfl⟩
theorem digit0 (a : Nat) (w : World) (h : a ≤ 4000000000000) : Calls Tryd.prog 53 #[.int .i64 (a : Int), .int .i64 0] w fun e w' => e = .returned (.int .i64 ((a % 64 : Nat) : Int)) ∧ w = w' := by
  go_enter Tryd.func53, Tryd.ntmps53
  go_wp2
  go_ret
  exact ⟨ret_i64 (by omega), rfl⟩
theorem digit1 (a : Nat) (w : World) (h : a ≤ 4000000000000) : Calls Tryd.prog 53 #[.int .i64 (a : Int), .int .i64 1] w fun e w' => e = .returned (.int .i64 ((a / 64 % 64 : Nat) : Int)) ∧ w = w' := by
  go_enter Tryd.func53, Tryd.ntmps53
  go_wp2
  go_ret
  exact ⟨ret_i64 (by omega), rfl⟩
theorem digit2 (a : Nat) (w : World) (h : a ≤ 4000000000000) : Calls Tryd.prog 53 #[.int .i64 (a : Int), .int .i64 2] w fun e w' => e = .returned (.int .i64 ((a / 4096 % 64 : Nat) : Int)) ∧ w = w' := by
  go_enter Tryd.func53, Tryd.ntmps53
  go_wp2
  go_ret
  exact ⟨ret_i64 (by omega), rfl⟩
theorem digit3 (a : Nat) (w : World) (h : a ≤ 4000000000000) : Calls Tryd.prog 53 #[.int .i64 (a : Int), .int .i64 3] w fun e w' => e = .returned (.int .i64 ((a / 262144 % 64 : Nat) : Int)) ∧ w = w' := by
  go_enter Tryd.func53, Tryd.ntmps53
  go_wp2
  go_ret
  exact ⟨ret_i64 (by omega), rfl⟩
theorem xor_nat (a b : Nat) (ha : a ≤ 4000000000000) (hb : b ≤ 4000000000000) : bits .xor .i64 (a : Int) (b : Int) = ((a ^^^ b : Nat) : Int) := by
  have hx : a ^^^ b < 2 ^ 63 := Nat.xor_lt_two_pow (by omega) (by omega)
  have h1 : (BitVec.ofInt 64 (a : Int)).toNat = a := by
    rw [BitVec.ofInt_natCast, BitVec.toNat_ofNat]; exact Nat.mod_eq_of_lt (by omega)
  have h2 : (BitVec.ofInt 64 (b : Int)).toNat = b := by
    rw [BitVec.ofInt_natCast, BitVec.toNat_ofNat]; exact Nat.mod_eq_of_lt (by omega)
  show IntKind.i64.wrap ((BitVec.ofInt 64 (a : Int) ^^^ BitVec.ofInt 64 (b : Int)).toNat : Int) = _
  rw [BitVec.toNat_xor, h1, h2, IntKind.wrap_i64]
  omega
theorem tdiv_six (n : Nat) (h : 1 ≤ n) : ((n : Int) - 1).tdiv 6 = (((n - 1) / 6 : Nat) : Int) := by
  rw [show (n : Int) - 1 = ((n - 1 : Nat) : Int) by omega]
  exact (Int.ofNat_tdiv (n - 1) 6).symm
theorem place_any (w : World) (g now a : Nat) (h : w.cell? ⟨g, 0, none⟩ = some (.int .i64 (now : Int))) (hn : now ≤ 4000000000000) (ha : a ≤ 4000000000000) :
    Calls Tryd.prog 41 #[.pointer (some ⟨g, 0, none⟩), .int .i64 (a : Int)] w fun e w' => e = .returned (.int .i64 (plc now a : Nat)) ∧ w = w' := by
  by_cases hle : a ≤ now
  · have q1 : (a : Int) ≤ (now : Int) := by omega
    have hp : plc now a = now % 64 := by unfold plc; rw [if_pos hle]
    go_enter Tryd.func41, Tryd.ntmps41
    go_wp2_with (go_at_call 53; refine (digit0 now _ hn).mono ?_; rintro e w' ⟨rfl, rfl⟩)
    go_ret
    exact ⟨by rw [hp]; rfl, rfl⟩
  · have q1 : ¬ (a : Int) ≤ (now : Int) := by omega
    obtain ⟨L, h1, h2, h3, h4, h5⟩ := lvl_cases (now := now) (a := a) (by omega) (by omega)
    have hx := xor_nat a now ha hn
    have HB := fun W => len_bits (a ^^^ now) (by omega) W
    have hw : IntKind.u64.wrap ((a ^^^ now : Nat) : Int) = ((a ^^^ now : Nat) : Int) := by rw [IntKind.wrap_u64]; omega
    generalize a ^^^ now = x at *
    generalize Lib.bitLen x = n at *
    have hn1 : IntKind.i64.wrap ((n : Int) - 1) = (n : Int) - 1 := by rw [IntKind.wrap_i64]; omega
    have hn2 : IntKind.i64.wrap (((n : Int) - 1).tdiv 6) = (L : Int) := by rw [tdiv_six n h2, IntKind.wrap_i64]; omega
    have hL : L ≤ 10 := by omega
    have HH := Lib.hid h1
    have HB' := Lib.hid HB
    clear h1 HB
    rcases h5 with ⟨rfl, hp⟩ | ⟨rfl, hp⟩ | ⟨rfl, hp⟩ | ⟨rfl, hp⟩ | ⟨hL, hp⟩
    · go_enter Tryd.func41, Tryd.ntmps41
      go_wp2_with fail
      refine (HB'.out _).mono ?_
      rintro e w' ⟨rfl, rfl⟩
      go_wp2_with (go_at_call 53; refine (digit0 a _ ha).mono ?_; rintro e w' ⟨rfl, rfl⟩)
      go_ret
      exact ⟨by rw [hp]; exact ret_i64 (by first | rfl | omega), rfl⟩
    · go_enter Tryd.func41, Tryd.ntmps41
      go_wp2_with fail
      refine (HB'.out _).mono ?_
      rintro e w' ⟨rfl, rfl⟩
      go_wp2_with (go_at_call 53; refine (digit1 a _ ha).mono ?_; rintro e w' ⟨rfl, rfl⟩)
      go_ret
      exact ⟨by rw [hp]; exact ret_i64 (by first | rfl | omega), rfl⟩
    · go_enter Tryd.func41, Tryd.ntmps41
      go_wp2_with fail
      refine (HB'.out _).mono ?_
      rintro e w' ⟨rfl, rfl⟩
      go_wp2_with (go_at_call 53; refine (digit2 a _ ha).mono ?_; rintro e w' ⟨rfl, rfl⟩)
      go_ret
      exact ⟨by rw [hp]; exact ret_i64 (by first | rfl | omega), rfl⟩
    · go_enter Tryd.func41, Tryd.ntmps41
      go_wp2_with fail
      refine (HB'.out _).mono ?_
      rintro e w' ⟨rfl, rfl⟩
      go_wp2_with (go_at_call 53; refine (digit3 a _ ha).mono ?_; rintro e w' ⟨rfl, rfl⟩)
      go_ret
      exact ⟨by rw [hp]; exact ret_i64 (by first | rfl | omega), rfl⟩
    · have hq : (4 : Int) ≤ (L : Int) := by omega
      go_enter Tryd.func41, Tryd.ntmps41
      go_wp2_with fail
      refine (HB'.out _).mono ?_
      rintro e w' ⟨rfl, rfl⟩
      go_wp2
      go_ret
      exact ⟨by rw [hp]; rfl, rfl⟩
end Go.Proofs.YtgfmjkbelciaaaaDoor
