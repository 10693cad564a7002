/- The laws' known words hold. Conditions: none. -/
import Derived.Test.YtgckpoecdaioiaaTq11
namespace Go.Proofs.Ytgckpoecdaioiaa
open Go.RowKit
set_option linter.unusedVariables false
set_option linter.unusedSimpArgs false

theorem k1_ans : parT getL [47, 97, 47, 46, 47, 98, 37, 50, 102, 46, 46, 63, 120, 61, 37, 50, 48] = (⟨1, noB, ⟨#[47, 97, 47]⟩, ⟨#[120, 61, 37, 50, 48]⟩⟩, 0) := by
  apply Prod.ext
  · apply Tgt.ext' <;> decide +kernel
  · decide +kernel
theorem k2_ans : parT getL [47, 46, 46, 47, 97] = (noT, 8) := by
  apply Prod.ext
  · apply Tgt.ext' <;> decide +kernel
  · decide +kernel
theorem k1_par (w : World) : Calls Try.prog 11 #[.string { data := #[71, 69, 84] }, .string { data := #[47, 97, 47, 46, 47, 98, 37, 50, 102, 46, 46, 63, 120, 61, 37, 50, 48] }] w fun e w' => e = .returned (.tuple #[.agg #[.int .i64 1, .string { data := #[] }, .string { data := #[47, 97, 47] }, .string { data := #[120, 61, 37, 50, 48] }], .int .i64 0]) ∧ Mods [] w w' := by
  have h := parse_a ⟨#[71, 69, 84]⟩ ⟨#[47, 97, 47, 46, 47, 98, 37, 50, 102, 46, 46, 63, 120, 61, 37, 50, 48]⟩ w (by decide) (by decide)
  unfold TAns at h
  rw [show (⟨#[71, 69, 84]⟩ : ByteArray).data.toList = getL from rfl, show (⟨#[47, 97, 47, 46, 47, 98, 37, 50, 102, 46, 46, 63, 120, 61, 37, 50, 48]⟩ : ByteArray).data.toList = [47, 97, 47, 46, 47, 98, 37, 50, 102, 46, 46, 63, 120, 61, 37, 50, 48] from rfl, k1_ans] at h
  exact h
theorem k2_par (w : World) : Calls Try.prog 11 #[.string { data := #[71, 69, 84] }, .string { data := #[47, 46, 46, 47, 97] }] w fun e w' => e = .returned (.tuple #[.agg #[.int .i64 0, .string { data := #[] }, .string { data := #[] }, .string { data := #[] }], .int .i64 8]) ∧ Mods [] w w' := by
  have h := parse_a ⟨#[71, 69, 84]⟩ ⟨#[47, 46, 46, 47, 97]⟩ w (by decide) (by decide)
  unfold TAns at h
  rw [show (⟨#[71, 69, 84]⟩ : ByteArray).data.toList = getL from rfl, show (⟨#[47, 46, 46, 47, 97]⟩ : ByteArray).data.toList = [47, 46, 46, 47, 97] from rfl, k2_ans] at h
  exact h
set_option maxRecDepth 10000 in
theorem known_l (w : World) : Calls Try.prog 13 #[] w fun e w' => e = .returned (.bool true) ∧ Mods [] w w' := by
  have H1 := Lib.hid k1_par
  have H2 := Lib.hid k2_par
  go_enter Try.func13, Try.ntmps13
  go_wp2_with fail
  refine (H1.out _).mono ?_
  rintro e w1 ⟨rfl, hm⟩
  have M1 := Lib.hid hm
  clear hm
  go_wp2_with fail
  refine (H2.out _).mono ?_
  rintro e w2 ⟨rfl, hm⟩
  have hm2 := M1.out.on (((Mods.refl [] w1).alloc _).on hm)
  have t := (Row.new w1 23 #[.int .i64 1, .string { data := #[] }, .string { data := #[47, 97, 47] }, .string { data := #[120, 61, 37, 50, 48] }]).mods hm (by simp)
  have T := Lib.hid t
  have M2 := Lib.hid hm2
  clear hm hm2 t
  have c0 := cell_alloc (T.out.cell 0) (.cells #[.int .i64 0, .string { data := #[] }, .string { data := #[] }, .string { data := #[] }] 23)
  have c1 := cell_alloc (T.out.cell 1) (.cells #[.int .i64 0, .string { data := #[] }, .string { data := #[] }, .string { data := #[] }] 23)
  have c2 := cell_alloc (T.out.cell 2) (.cells #[.int .i64 0, .string { data := #[] }, .string { data := #[] }, .string { data := #[] }] 23)
  have c3 := cell_alloc (T.out.cell 3) (.cells #[.int .i64 0, .string { data := #[] }, .string { data := #[] }, .string { data := #[] }] 23)
  go_wp2
  go_ret
  exact ⟨rfl, M2.out.alloc _⟩
end Go.Proofs.Ytgckpoecdaioiaa
