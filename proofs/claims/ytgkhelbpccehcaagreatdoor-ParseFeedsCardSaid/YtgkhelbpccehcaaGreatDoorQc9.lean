/- The code's Quoted answers what a quoted text at the beginning is. Conditions: a text of at most a million bytes. -/
import Derived.Test.YtgkhelbpccehcaaGreatDoorGa9
import Derived.Test.YtgkhelbpccehcaaGreatDoorQd9
namespace Go.Proofs.YtgkhelbpccehcaaGreatDoor
open Go.RowKit
set_option linter.unusedVariables false

theorem int_eq {c : UInt8} {n : Nat} (hn : n < 256) : ((c.toNat : Int) == (n : Int)) = (c == UInt8.ofNat n) := toNat_lit hn
theorem byte_yes {c : UInt8} {n : Nat} (hn : n < 256) (h : c = UInt8.ofNat n) : ((c.toNat : Int) == (n : Int)) = true ∧ ((c.toNat : Int) != (n : Int)) = false := by
  have := int_eq (c := c) hn
  rw [h] at this ⊢
  simp at this
  simp [this]
theorem byte_no {c : UInt8} {n : Nat} (hn : n < 256) (h : c ≠ UInt8.ofNat n) : ((c.toNat : Int) == (n : Int)) = false ∧ ((c.toNat : Int) != (n : Int)) = true := by
  have h1 : ((c.toNat : Int) == (n : Int)) = false := by rw [int_eq hn]; simpa using h
  exact ⟨h1, by simp only [bne, h1]; rfl⟩
/-- How many bytes a quoted text has, with both quotes; 0: there is none. -/
def qlenN (l : List UInt8) : Nat := match l with
  | [] => 0
  | c :: r => if c = 34 then (match qlen r with | some n => n + 1 | none => 0) else 0
theorem qlen_92 (r : List UInt8) : qlen (92 :: r) = (qlen (r.drop 1)).map (· + 2) := by
  cases r with
  | nil => simp [qlen]
  | cons d r => conv => lhs; unfold qlen
                simp
theorem qlen_34 (r : List UInt8) : qlen (34 :: r) = some 1 := by unfold qlen; simp
theorem qlen_on {c : UInt8} (h : c ≠ 34) (h2 : c ≠ 92) (r : List UInt8) : qlen (c :: r) = (qlen r).map (· + 1) := by
  conv => lhs; unfold qlen
  rw [if_neg h, if_neg h2]
theorem prefix_one (s : ByteArray) (c : UInt8) : Lib.hasPrefix s.data.toList [c] = (match s.data.toList with | [] => false | x :: _ => x == c) := by
  unfold Lib.hasPrefix
  cases s.data.toList with
  | nil => rfl
  | cons x r =>
    show List.isPrefixOf [c] (x :: r) = (x == c)
    by_cases h : x = c
    · subst h
      show ((x == x) && List.isPrefixOf [] r) = (x == x)
      simp
    · have h2 : c ≠ x := fun e => h e.symm
      show ((c == x) && List.isPrefixOf [] r) = (x == c)
      rw [show (c == x) = false by simpa using h2, show (x == c) = false by simpa using h]; rfl
theorem prefix_c (s : ByteArray) (c : UInt8) (w : World) :
    Calls Tryz.prog 226 #[.string s, .string { data := #[c] }] w fun e w' => e = .returned (.bool (match s.data.toList with | [] => false | x :: _ => x == c)) ∧ w = w' :=
  (prefix_shelf s ⟨#[c]⟩ w).mono fun e w' ⟨he, hw⟩ => ⟨by rw [he, ← prefix_one], hw.symm⟩

set_option maxRecDepth 10000 in
theorem qlen_a (s : ByteArray) (w : World) (hs : s.size ≤ 1000000) :
    Calls Tryz.prog 224 #[.string s] w fun e w' => e = .returned (.int .i64 (qlenN s.data.toList : Int)) ∧ w = w' := by
  have HPF := prefix_c s 34 w
  cases hl : s.data.toList with
  | nil =>
    rw [hl] at HPF
    clear hl
    go_enter Tryz.func224, Tryz.ntmps224
    go_wp2_with (go_at_call 226; refine HPF.mono ?_; rintro e w' ⟨rfl, rfl⟩)
    go_ret
    exact ⟨rfl, rfl⟩
  | cons x r =>
    rw [hl] at HPF
    dsimp only at HPF
    by_cases hx : x = 34
    · subst hx
      rw [show ((34 : UInt8) == 34) = true from rfl] at HPF
      have hr : r = s.data.toList.drop 1 := by rw [hl]; rfl
      have hsz : 1 ≤ s.size := by rw [← len_data, hl]; simp
      have HRR := Lib.hid hr
      clear hl hr
      go_enter Tryz.func224, Tryz.ntmps224
      go_wp2_with (go_at_call 226; refine HPF.mono ?_; rintro e w' ⟨rfl, rfl⟩)
      clear HPF
      go_loop [3] (fun i => ∃ (k : Nat), 1 ≤ k ∧ k ≤ s.size + 1 ∧ i = .int .i64 k ∧ qlen r = (qlen (s.data.toList.drop k)).map (· + (k - 1))) (fun i => s.size + 1 - (intOf i).toNat)
      case atStart => exact ⟨1, Nat.le_refl _, by omega, rfl, by rw [← HRR.out]; simp⟩
      case round =>
        obtain ⟨k, hk1, hk, rfl, hq⟩ := hrel
        have HQ := Lib.hid hq
        clear hq
        by_cases hlt : k < s.size
        · by_cases h34 : s[k] = 34
          · have h1 := (byte_yes (c := s[k]) (n := 34) (by decide) h34).1
            have hn : qlenN (34 :: r) = k + 1 := by
              have := HQ.out; rw [drop_cons s k hlt, h34, qlen_34] at this
              unfold qlenN; simp only [if_true]; rw [this]; simp; omega
            have HN := Lib.hid hn
            clear hn h34
            go_wp2
            go_ret
            exact ⟨by rw [HN.out]; rfl, rfl⟩
          · by_cases h92 : s[k] = 92
            · have h1 := (byte_no (c := s[k]) (n := 34) (by decide) h34).1
              have h2 := (byte_yes (c := s[k]) (n := 92) (by decide) h92).1
              have hn : qlen r = (qlen (s.data.toList.drop (k + 2))).map (· + (k + 2 - 1)) := by
                rw [HQ.out, drop_cons s k hlt, h92, qlen_92, List.drop_drop, Option.map_map]
                rw [show k + 1 + 1 = k + 2 from rfl]
                congr 1; funext n; simp; omega
              have HN := Lib.hid hn
              clear hn h34 h92
              go_wp2
              go_round
              case rel => exact ⟨k + 2, by omega, by omega, by go_num, HN.out⟩
              case measure => simp [intOf]; omega
            · have h1 := (byte_no (c := s[k]) (n := 34) (by decide) h34).1
              have h2 := (byte_no (c := s[k]) (n := 92) (by decide) h92).1
              have hn : qlen r = (qlen (s.data.toList.drop (k + 1))).map (· + (k + 1 - 1)) := by
                rw [HQ.out, drop_cons s k hlt, qlen_on h34 h92, Option.map_map]
                congr 1; funext n; simp; omega
              have HN := Lib.hid hn
              clear hn h34 h92
              go_wp2
              go_round
              case rel => exact ⟨k + 1, by omega, by omega, by go_num, HN.out⟩
              case measure => simp [intOf]; omega
        · have hn : qlenN (34 :: r) = 0 := by
            have := HQ.out; rw [List.drop_of_length_le (by rw [len_data]; omega)] at this
            unfold qlenN; simp only [if_true]; rw [this]; rfl
          have HN := Lib.hid hn
          clear hn
          go_wp2
          go_ret
          exact ⟨by rw [HN.out]; rfl, rfl⟩
    · rw [show (x == 34) = false by simpa using hx] at HPF
      have HN := Lib.hid (show qlenN (x :: r) = 0 by unfold qlenN; simp [hx])
      clear hl
      go_enter Tryz.func224, Tryz.ntmps224
      go_wp2_with (go_at_call 226; refine HPF.mono ?_; rintro e w' ⟨rfl, rfl⟩)
      go_ret
      exact ⟨by rw [HN.out]; rfl, rfl⟩
end Go.Proofs.YtgkhelbpccehcaaGreatDoor
