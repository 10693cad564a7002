/- The law's known words hold; Num and Hex answer one plain function. Conditions: none. -/
import Derived.Test.YtfeoiopmnijbmabJoin
namespace Go.Proofs.Ytfeoiopmnijbmab
open Go.RowKit
set_option linter.unusedVariables false

theorem pw10 : pw 10 15 ≤ 9007199254740992 := by unfold pw; decide
theorem pw16 : pw 16 12 ≤ 9007199254740992 := by unfold pw; decide
def NumIs (b : Int) (m : Nat) (s : ByteArray) (w : World) (e : Ending) (w' : World) : Prop :=
  e = .returned (.tuple #[.int .i64 (numB b m s.data.toList).1, .bool (numB b m s.data.toList).2]) ∧ w = w'

theorem hex_a (s : ByteArray) (w : World) (hs : s.size ≤ maxLen) : Calls Try.prog 10 #[.string s] w (NumIs 16 12 s w) := by
  go_enter Try.func10, Try.ntmps10
  go_wp2_with (go_at_call 15; refine (num_a _ 16 12 _ hs (by decide) (by decide) pw16 (by decide)).mono ?_; rintro e w' ⟨rfl, rfl⟩)
  go_ret2
  exact ⟨rfl, rfl⟩

def abF (j : Nat) : ByteArray := if j = 0 then ⟨#[97]⟩ else if j = 1 then ⟨#[]⟩ else ⟨#[98]⟩
theorem known_hex : numB 16 12 [48, 97, 70] = (175, true) := by decide +kernel
theorem known_same : sameL ⟨#[72, 111, 115, 116]⟩ ⟨#[104, 79, 83, 84]⟩ = true := by decide +kernel
theorem known_tok : tokL [97, 32, 98] = false := by decide +kernel
theorem hex_known (w : World) : Calls Try.prog 10 #[.string { data := #[48, 97, 70] }] w fun e w' => e = .returned (.tuple #[.int .i64 175, .bool true]) ∧ w = w' :=
  (hex_a _ w (by unfold maxLen; decide)).mono fun e w' ⟨he, hw⟩ => ⟨by rw [he]; show Ending.returned (.tuple #[.int .i64 (numB 16 12 [48, 97, 70]).1, .bool (numB 16 12 [48, 97, 70]).2]) = _; rw [known_hex], hw⟩
theorem same_known (w : World) : Calls Try.prog 11 #[.string { data := #[72, 111, 115, 116] }, .string { data := #[104, 79, 83, 84] }] w fun e w' => e = .returned (.bool true) ∧ Drawn w w' :=
  (same_a _ _ w (by unfold maxLen; decide) (by unfold maxLen; decide)).mono fun e w' ⟨he, hw⟩ => ⟨by rw [he, known_same], hw⟩
theorem tok_known (w : World) : Calls Try.prog 5 #[.string { data := #[97, 32, 98] }] w fun e w' => e = .returned (.bool false) ∧ w = w' :=
  (istok_a _ w (by unfold maxLen; decide)).mono fun e w' ⟨he, hw⟩ => ⟨by rw [he]; show Ending.returned (.bool (tokL [97, 32, 98])) = _; rw [known_tok], hw⟩

theorem join_known (w : World) : Calls Try.prog 12 #[.slice (some ⟨w.heap.size, 0, none⟩) 3 3]
    (w.alloc (.cells #[.string { data := #[97] }, .string { data := #[] }, .string { data := #[98] }] 9)) fun e w' => e = .returned (.string { data := #[97, 98] }) ∧ Below w.heap.size w w' := by
  refine (join_a w.heap.size 0 3 3 abF _ (by simp) (by unfold maxLen; decide) ?_ (by decide)).mono ?_
  · intro j hj
    rw [Nat.zero_add]
    rcases (by omega : j = 0 ∨ j = 1 ∨ j = 2) with rfl | rfl | rfl <;> simp [abF]
  · rintro e w' ⟨rfl, hb⟩
    exact ⟨rfl, ((Below.refl _ _).alloc (Nat.le_refl _) _).trans (hb.mono (by simp))⟩
set_option maxRecDepth 10000 in
theorem known_a (w : World) : Calls Try.prog 7 #[] w fun e w' => e = .returned (.bool true) ∧ Below w.heap.size w w' := by
  go_enter Try.func7, Try.ntmps7
  go_wp2_with (go_at_call 10; refine (hex_known _).mono ?_; rintro e w' ⟨rfl, rfl⟩)
  go_wp2_with (go_at_call 11; refine (same_known _).mono ?_; rintro e w1 ⟨rfl, hd⟩; have HD := Lib.hid hd; clear hd)
  go_wp2_with (go_at_call 5; refine (tok_known _).mono ?_; rintro e w' ⟨rfl, rfl⟩)
  refine (join_known _).mono ?_
  rintro e w2 ⟨rfl, hb⟩
  have HB := Lib.hid hb
  clear hb
  go_wp2
  go_ret
  exact ⟨rfl, HD.out.below.trans (HB.out.mono HD.out.below.size)⟩
end Go.Proofs.Ytfeoiopmnijbmab
