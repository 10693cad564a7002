/- Parse of the code. Conditions: a method and a text of at most a million bytes. -/
import Derived.Test.YtgckpoecdaioiaaTk11
namespace Go.Proofs.Ytgckpoecdaioiaa
open Go.RowKit
set_option linter.unusedVariables false
set_option linter.unusedSimpArgs false

theorem lowerK (s : ByteArray) (hs : s.size ≤ 1000000) (w : World) : Calls Try.prog 43 #[.string s] w fun e w' => e = .returned (.string (ofL (lowL s.data.toList))) ∧ Mods [] w w' :=
  (lower_a s w (by unfold maxLen; omega)).mono fun e w' ⟨h1, h2⟩ => ⟨h1, .of_below h2⟩
theorem sameK (a b : ByteArray) (ha : a.size ≤ 1000000) (hb : b.size ≤ 1000000) (w : World) : Calls Try.prog 46 #[.string a, .string b] w fun e w' => e = .returned (.bool (sameL a b)) ∧ Mods [] w w' :=
  (same_a a b w (by unfold maxLen; omega) (by unfold maxLen; omega)).mono fun e w' ⟨h1, h2⟩ => ⟨h1, .of_below h2.below⟩
def pickF (x y z : ByteArray) (j : Nat) : ByteArray := if j = 0 then x else if j = 1 then y else z
theorem join2 (x y : ByteArray) (hx : x.size ≤ 1000000) (hy : y.size ≤ 1000000) (w : World) (b : Nat) (hb : b = w.heap.size) :
    Calls Try.prog 47 #[.slice (some ⟨b, 0, none⟩) 2 2] (w.alloc (.cells #[.string x, .string y] 9)) fun e w' => e = .returned (.string (ofL (x.data.toList ++ y.data.toList))) ∧ Mods [] w w' := by
  subst hb
  refine (join_a w.heap.size 0 2 2 (pickF x y noB) _ (by simp) (by unfold maxLen; decide) ?_ ?_).mono ?_
  · intro j hj
    rw [Nat.zero_add]
    rcases (by omega : j = 0 ∨ j = 1) with rfl | rfl <;> simp [pickF]
  · simp only [joinF, pickF, List.length_append, len_data, List.nil_append]; simp; omega
  · rintro e w' ⟨rfl, hb⟩
    exact ⟨by simp [joinF, pickF, ofL], ((Mods.refl [] _).alloc _).on (.of_below hb)⟩
theorem join3 (x y z : ByteArray) (hx : x.size ≤ 1000000) (hy : y.size ≤ 1000000) (hz : z.size ≤ 10000000) (w : World) (b : Nat) (hb : b = w.heap.size) :
    Calls Try.prog 47 #[.slice (some ⟨b, 0, none⟩) 3 3] (w.alloc (.cells #[.string x, .string y, .string z] 9)) fun e w' => e = .returned (.string (ofL (x.data.toList ++ y.data.toList ++ z.data.toList))) ∧ Mods [] w w' := by
  subst hb
  refine (join_a w.heap.size 0 3 3 (pickF x y z) _ (by simp) (by unfold maxLen; decide) ?_ ?_).mono ?_
  · intro j hj
    rw [Nat.zero_add]
    rcases (by omega : j = 0 ∨ j = 1 ∨ j = 2) with rfl | rfl | rfl <;> simp [pickF]
  · simp only [joinF, pickF, List.length_append, len_data, List.nil_append]; simp; omega
  · rintro e w' ⟨rfl, hb⟩
    exact ⟨by simp [joinF, pickF, ofL], ((Mods.refl [] _).alloc _).on (.of_below hb)⟩

theorem in_58 (l : List UInt8) : (upL (isC 58) l = l) ↔ inL l 58 = false := by
  rw [upL_full]
  unfold inL
  rw [List.any_eq_false]
  constructor
  · intro h x hx; have := h x hx; simpa [isC] using this
  · intro h x hx; have := h x hx; simpa [isC] using this
theorem authL_no {l : List UInt8} (h : hostL l = false ∨ inL l 58 = false) : authL l = (noT, 8) := by
  unfold authL; rw [if_neg]; rintro ⟨h1, h2⟩; rcases h with h | h
  · rw [h] at h1; cases h1
  · rw [h] at h2; cases h2
theorem authL_yes {l : List UInt8} (h : hostL l = true) (h2 : inL l 58 = true) : authL l = (⟨3, ofL (lowL l), noB, noB⟩, 0) := by unfold authL; rw [if_pos ⟨h, h2⟩]
theorem lowA_size (l : List UInt8) : (ofL (lowL l)).size = l.length := by rw [ofL_size]; simp [lowL]

set_option maxRecDepth 10000 in
set_option maxHeartbeats 1000000 in
theorem authority_a (s : ByteArray) (hs : s.size ≤ 1000000) (w : World) : Calls Try.prog 22 #[.string s] w (TAns w (authL s.data.toList)) := by
  have HH := Lib.hid (fun w => host_a s w hs)
  cases hh : hostL s.data.toList with
  | false =>
    rw [hh] at HH
    have HX := Lib.hid (authL_no (.inl hh))
    clear hh
    go_enter Try.func22, Try.ntmps22
    go_wp2_with (go_at_call 20; refine (HH.out _).mono ?_; rintro e w' ⟨rfl, rfl⟩)
    exact end_N rfl rfl rfl rfl HX.out
  | true =>
    rw [hh] at HH
    have HU := Lib.hid (fun w => upto_a s ⟨#[58]⟩ hs w)
    have hul := up_58 s
    obtain ⟨u, hu⟩ : ∃ u, u = upA ⟨#[58]⟩ s := ⟨_, rfl⟩
    rw [← hu] at HU hul
    clear hu
    cases hi : inL s.data.toList 58 with
    | false =>
      have hus : u = s := bytes_ext (by rw [hul]; exact (in_58 _).2 hi)
      have e1 := (bytes_eqT hus).1
      have HX := Lib.hid (authL_no (.inr hi))
      clear hh hi hus hul
      go_enter Try.func22, Try.ntmps22
      go_wp2_with (first
        | (go_at_call 20; refine (HH.out _).mono ?_; rintro e w' ⟨rfl, rfl⟩)
        | (go_at_call 36; refine (HU.out _).mono ?_; rintro e w' ⟨rfl, rfl⟩))
      exact end_N rfl rfl rfl rfl HX.out
    | true =>
      have hus : u ≠ s := fun e => by
        have := (in_58 s.data.toList).1 (by rw [← hul, e])
        rw [hi] at this; cases this
      have e1 := (bytes_neT hus).1
      have HX := Lib.hid (authL_yes hh hi)
      have HL := Lib.hid (fun w => lowerK s hs w)
      obtain ⟨l, hl⟩ : ∃ l, l = ofL (lowL s.data.toList) := ⟨_, rfl⟩
      rw [← hl] at HX HL
      clear hh hi hus hul hl
      go_enter Try.func22, Try.ntmps22
      go_wp2_with (first
        | (go_at_call 20; refine (HH.out _).mono ?_; rintro e w' ⟨rfl, rfl⟩)
        | (go_at_call 36; refine (HU.out _).mono ?_; rintro e w' ⟨rfl, rfl⟩)
        | (go_at_call 43; refine (HL.out _).mono ?_; rintro e w1 ⟨rfl, hm⟩; have r1 := res_T hm; have R1 := Lib.hid r1; obtain ⟨c0, c1, c2, c3, f0, f1, f2, f3⟩ := r1.1.facts; simp only [noT, noB] at c0 c1 c2 c3; clear hm r1))
      exact end_T rfl R1.out.1 rfl rfl rfl HX.out R1.out.2 (Nat.le_refl _)

theorem up_end (s : ByteArray) : (upA ⟨#[47, 63]⟩ s).data.toList = hostOf s.data.toList := by
  rw [upA_list]
  have : inI (⟨#[47, 63]⟩ : ByteArray).data.toList = endB := funext fun c => by
    have := by_byte (fun c => inI [47, 63] c == endB c) (by decide +kernel) c
    simpa using this
  rw [this]; rfl
theorem absL_no {l : List UInt8} (h : hostL (hostOf l) = false) : absL l = (noT, 8) := by unfold absL; rw [if_neg (by rw [h]; simp)]
theorem absL_yes {l : List UInt8} (h : hostL (hostOf l) = true) : absL l = orgF 2 (ofL (lowL (hostOf l))) (restOf l) := by unfold absL; rw [if_pos h]
theorem orgF_cases (l : List UInt8) : (orgL l = none) ∨ ∃ p q, orgL l = some (p, q) := by
  cases h : orgL l with
  | none => exact .inl rfl
  | some x => exact .inr ⟨x.1, x.2, rfl⟩
end Go.Proofs.Ytgckpoecdaioiaa
