/- What leastFree, free, Len, Get, Set of the program's slab answer. -/
import Derived.Test.YthaapkafamdhcaaDoorSlabA
import Derived.Test.YthaapkafamdhcaaDoorTz
namespace Go.Proofs.YthaapkafamdhcaaDoor
open Go.RowKit
set_option maxRecDepth 10000

theorem xor_all (x : Nat) (hx : x < 2 ^ 64) : bits .xor .u64 (x : Int) 18446744073709551615 = ((2 ^ 64 - 1 - x : Nat) : Int) := by
  have h := bits_xor_u64_nat x 18446744073709551615 hx (by omega)
  have e : x ^^^ 18446744073709551615 = 2 ^ 64 - 1 - x := by
    apply Nat.eq_of_testBit_eq
    intro i
    rw [Nat.testBit_xor, show (18446744073709551615 : Nat) = 2 ^ 64 - 1 from rfl, Nat.testBit_two_pow_sub_one, show 2 ^ 64 - 1 - x = 2 ^ 64 - (x + 1) by omega, Nat.testBit_two_pow_sub_succ hx]
    rcases Nat.lt_or_ge i 64 with hi | hi
    · simp [hi]
    · rw [Nat.testBit_lt_two_pow (Nat.lt_of_lt_of_le hx (Nat.pow_le_pow_right (by decide) hi))]
      simp
  rw [e] at h
  exact h
theorem xor_max (x : Nat) (hx : x < 2 ^ 64) : bits .xor .u64 IntKind.u64.max (x : Int) = ((2 ^ 64 - 1 - x : Nat) : Int) := by
  have h : bits .xor .u64 IntKind.u64.max (x : Int) = bits .xor .u64 (x : Int) 18446744073709551615 := by
    show IntKind.u64.wrap ((BitVec.ofInt 64 IntKind.u64.max ^^^ BitVec.ofInt 64 (x : Int)).toNat : Int) = IntKind.u64.wrap ((BitVec.ofInt 64 (x : Int) ^^^ BitVec.ofInt 64 18446744073709551615).toNat : Int)
    rw [BitVec.xor_comm]; rfl
  rw [h, xor_all x hx]
theorem least_any (w : World) (g : Nat) (F : List Nat) (S : Slb) (K : Nat) (h : SlabA w g F S K) (hc : S.cnt < S.lim) (hT : TzTab w) :
    Calls Tryd.prog 81 #[.pointer (some ⟨g, 0, none⟩)] w fun e w' => e = .returned (.int .i64 S.least) ∧ w = w' := by
  obtain ⟨sv, cs, xs, U, hF, hrow, hsz, h0, h1, h2, hU, hown, hx, hbit, hok⟩ := h
  have HW := Lib.hid fun q (hq : q < 64) => least_of_words hok hc U (fun j hj => (hU j hj).2) hbit q hq
  have HN := Lib.hid fun q (hq : q ≤ 64) => not_all_full hok hc U hbit q hq
  have HC := Lib.hid (show ∀ j, j < 64 → w.cell? ⟨g, 3 + j, none⟩ = some (.int .u64 (U j)) from fun j hj => by rw [hrow.cell]; exact (hU j hj).1)
  have HL := Lib.hid fun j (hj : j < 64) => (hU j hj).2
  have HT := Lib.hid hT
  clear hU hx hbit h0 h1 h2 hown hF hok hc hT
  go_enter Tryd.func81, Tryd.ntmps81
  go_wp2
  go_loop [3] (fun i => ∃ q : Nat, q ≤ 64 ∧ i = .int .i64 q ∧ Hid (∀ j, j < q → U j = 2 ^ 64 - 1)) (fun i => 64 - (intOf i).toNat)
  case atStart => exact ⟨0, by omega, rfl, Lib.hid fun j hj => by omega⟩
  case round =>
    obtain ⟨q, hq, rfl, hfull⟩ := hrel
    have hq2 := HN.out q hq hfull.out
    have hcell := HC.out q hq2
    have hl := HL.out q hq2
    by_cases hlt : U q = 2 ^ 64 - 1
    · have e : ((U q : Int) == 18446744073709551615) = true := by rw [hlt]; rfl
      have H1 := Lib.hid hlt
      clear hlt
      go_wp2
      go_round
      case rel => exact ⟨q + 1, by omega, by go_num, Lib.hid fun j hj => by
        rcases Nat.lt_succ_iff_lt_or_eq.1 hj with h | h
        · exact hfull.out j h
        · subst h; exact H1.out⟩
      case measure => simp [intOf]; omega
    · have e : ((U q : Int) == 18446744073709551615) = false := by
        simp; omega
      obtain ⟨k, hkd, hk, hkl⟩ : ∃ k, Hid (Lib.ctz 64 (2 ^ 64 - 1 - U q) = k) ∧ k < 64 ∧ Hid (q * 64 + k = S.least) :=
        ⟨_, Lib.hid rfl, (HW.out q hq2 hfull.out hlt).1, Lib.hid (HW.out q hq2 hfull.out hlt).2⟩
      have HX := Lib.hid (xor_max (U q) hl)
      have HZ := Lib.hid (tz64 (2 ^ 64 - 1 - U q) (by omega) w HT.out)
      clear hlt
      go_wp2_with fail
      rw [HX.out]
      refine HZ.out.mono ?_
      rw [hkd.out]
      rintro e w' ⟨rfl, rfl⟩
      go_wp2
      go_ret
      exact ⟨ret_i64 (by have := hkl.out; omega), rfl⟩
end Go.Proofs.YthaapkafamdhcaaDoor
