/- The document's blanks and token. Conditions: a text of at most a million bytes. -/
import Derived.Test.YtfnjkkjpffnbiaaDoorPz9
import Derived.Test.YtfnjkkjpffnbiaaDoorTokR
namespace Go.Proofs.YtfnjkkjpffnbiaaDoor
open Go.RowKit
set_option linter.unusedVariables false

theorem tk_more {p : UInt8 → Bool} : ∀ {l : List UInt8} {k : Nat} (hk : k < l.length), k ≤ (l.takeWhile p).length → p l[k] = true → k + 1 ≤ (l.takeWhile p).length
  | c :: r, 0, _, _, hb => by
    have hb : p c = true := hb
    rw [List.takeWhile_cons, if_pos hb]; simp
  | c :: r, k + 1, hk, hle, hb => by
    by_cases hc : p c = true
    · rw [List.takeWhile_cons, if_pos hc] at hle ⊢
      simp only [List.length_cons] at hle ⊢
      have := tk_more (l := r) (k := k) (by simp at hk; omega) (by omega) hb
      omega
    · rw [List.takeWhile_cons, if_neg hc] at hle; simp at hle
theorem tk_stop {p : UInt8 → Bool} : ∀ {l : List UInt8} {k : Nat} (hk : k < l.length), k ≤ (l.takeWhile p).length → p l[k] = false → (l.takeWhile p).length = k
  | c :: r, 0, _, _, hb => by
    have hb : p c = false := hb
    rw [List.takeWhile_cons, if_neg (by rw [hb]; simp)]; rfl
  | c :: r, k + 1, hk, hle, hb => by
    by_cases hc : p c = true
    · rw [List.takeWhile_cons, if_pos hc] at hle ⊢
      simp only [List.length_cons] at hle ⊢
      have := tk_stop (l := r) (k := k) (by simp at hk; omega) (by omega) hb
      omega
    · rw [List.takeWhile_cons, if_neg hc] at hle; simp at hle
theorem tk_le (p : UInt8 → Bool) (l : List UInt8) : (l.takeWhile p).length ≤ l.length := by
  have := congrArg List.length (List.takeWhile_append_dropWhile (p := p) (l := l)); rw [List.length_append] at this; omega
theorem tk_drop (p : UInt8 → Bool) (l : List UInt8) : l.drop (l.takeWhile p).length = l.dropWhile p := by
  have h := List.takeWhile_append_dropWhile (p := p) (l := l)
  conv => lhs; rw [← h]
  rw [List.drop_append_of_le_length (by rw [h]; exact Nat.le_refl _)]
  simp [h]
/-- How many blanks stand at the beginning; how many bytes the token there has. -/
def bkw (s : ByteArray) : Nat := (s.data.toList.takeWhile blk).length
def tkw (s : ByteArray) : Nat := (tw s.data.toList).length
theorem bkw_le (s : ByteArray) : bkw s ≤ s.size := tk_le blk _
theorem tkw_le (s : ByteArray) : tkw s ≤ s.size := tw_len _
theorem bkw_drop (s : ByteArray) : (s.extract (bkw s) s.size).data.toList = tlL s.data.toList := by rw [ext_drop]; exact tk_drop blk _
theorem tkw_drop (s : ByteArray) : (s.extract (tkw s) s.size).data.toList = dwt s.data.toList := by rw [ext_drop]; exact dwt_drop _
theorem tkw_take (s : ByteArray) : (s.extract 0 (tkw s)).data.toList = tw s.data.toList := by rw [ext_list, List.drop_zero, Nat.sub_zero]; exact tw_take _
theorem blk_or (c : UInt8) : blk c = (((c.toNat : Int) == 9) || ((c.toNat : Int) == 32)) := by
  cases h9 : ((c.toNat : Int) == 9)
  · cases h32 : ((c.toNat : Int) == 32)
    · rw [blk_no h9 h32]; rfl
    · rw [blk_32 h32]; rfl
  · rw [blk_9 h9]; rfl
set_option maxRecDepth 10000 in
theorem blanks_r (s : ByteArray) (w : World) (hs : s.size ≤ 1000000) : Calls Tryd.prog 35 #[.string s] w fun e w' => e = .returned (.int .i64 (bkw s : Int)) ∧ w = w' := by
  go_enter Tryd.func35, Tryd.ntmps35
  go_wp2
  go_loop [3] (fun i => ∃ (k : Nat), k ≤ s.size ∧ i = .int .i64 k ∧ k ≤ bkw s) (fun i => s.size - (intOf i).toNat)
  case atStart => exact ⟨0, Nat.zero_le _, rfl, Nat.zero_le _⟩
  case round =>
    obtain ⟨k, hk, rfl, hle⟩ := hrel
    have HLE := Lib.hid hle
    clear hle
    by_cases hlt : k < s.size
    · have hlt' : k < s.data.toList.length := hlt
      cases h9 : ((s[k].toNat : Int) == 9)
      · cases h32 : ((s[k].toNat : Int) == 32)
        · have HK := Lib.hid (show bkw s = k from tk_stop (p := blk) (l := s.data.toList) hlt' HLE.out (show blk s[k] = false from blk_no h9 h32))
          go_wp2
          go_ret
          exact ⟨by rw [HK.out]; rfl, rfl⟩
        · have HK := Lib.hid (show k + 1 ≤ bkw s from tk_more (p := blk) (l := s.data.toList) hlt' HLE.out (show blk s[k] = true from blk_32 h32))
          go_wp2
          go_round
          case rel => exact ⟨k + 1, by omega, by go_num, HK.out⟩
          case measure => simp [intOf]; omega
      · have HK := Lib.hid (show k + 1 ≤ bkw s from tk_more (p := blk) (l := s.data.toList) hlt' HLE.out (show blk s[k] = true from blk_9 h9))
        go_wp2
        go_round
        case rel => exact ⟨k + 1, by omega, by go_num, HK.out⟩
        case measure => simp [intOf]; omega
    · have HK := Lib.hid (show bkw s = k by have := HLE.out; have := bkw_le s; omega)
      go_wp2
      go_ret
      exact ⟨by rw [HK.out]; rfl, rfl⟩
set_option maxRecDepth 10000 in
theorem token_r (s : ByteArray) (w : World) (hs : s.size ≤ 1000000) : Calls Tryd.prog 36 #[.string s] w fun e w' => e = .returned (.int .i64 (tkw s : Int)) ∧ w = w' := by
  go_enter Tryd.func36, Tryd.ntmps36
  go_wp2
  go_loop [3] (fun i => ∃ (k : Nat), k ≤ s.size ∧ i = .int .i64 k ∧ k ≤ tkw s) (fun i => s.size - (intOf i).toNat)
  case atStart => exact ⟨0, Nat.zero_le _, rfl, Nat.zero_le _⟩
  case round =>
    obtain ⟨k, hk, rfl, hle⟩ := hrel
    have HLE := Lib.hid hle
    clear hle
    by_cases hlt : k < s.size
    · have hlt' : k < s.data.toList.length := hlt
      have hT := fun w => tok_r s[k] w
      cases hb : tokB s[k]
      · have HK := Lib.hid (show tkw s = k from tk_stop (p := tokB) (l := s.data.toList) hlt' HLE.out hb)
        rw [hb] at hT
        clear hb
        go_wp2_with (go_at_call 42; refine (hT _).mono ?_; rintro e w' ⟨rfl, rfl⟩)
        go_ret
        exact ⟨by rw [HK.out]; rfl, rfl⟩
      · have HK := Lib.hid (show k + 1 ≤ tkw s from tk_more (p := tokB) (l := s.data.toList) hlt' HLE.out hb)
        rw [hb] at hT
        clear hb
        go_wp2_with (go_at_call 42; refine (hT _).mono ?_; rintro e w' ⟨rfl, rfl⟩)
        go_round
        case rel => exact ⟨k + 1, by omega, by go_num, HK.out⟩
        case measure => simp [intOf]; omega
    · have HK := Lib.hid (show tkw s = k by have := HLE.out; have := tkw_le s; omega)
      go_wp2
      go_ret
      exact ⟨by rw [HK.out]; rfl, rfl⟩
end Go.Proofs.YtfnjkkjpffnbiaaDoor
