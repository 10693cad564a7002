/- Decode of the code. Conditions: a text of at most a million bytes. -/
import Derived.Test.YtgckpoecdaioiaaTg11
namespace Go.Proofs.Ytgckpoecdaioiaa
open Go.RowKit
set_option linter.unusedVariables false
set_option linter.unusedSimpArgs false

theorem digB_lt {c : UInt8} (h : digB c ≠ 16) : 0 ≤ digB c ∧ digB c < 16 := by have := digB_le c; omega
theorem hx_nat {a b : UInt8} (h : digB a ≠ 16) (h2 : digB b ≠ 16) : ((hxB a b).toNat : Int) = digB a * 16 + digB b := by
  have h3 := digB_lt h; have h4 := digB_lt h2
  unfold hxB
  rw [if_neg (by omega), UInt8.toNat_ofNat']
  omega
theorem hex_two (a b : UInt8) : (numB 16 12 [a, b]).1 = ((hxB a b).toNat : Int) := by
  unfold numB
  rw [if_neg (by simp)]
  have ha := digB_le a
  have hb := digB_le b
  by_cases h1 : digB a = 16
  · rw [numL_bad (by omega)]; unfold hxB; rw [if_pos (Or.inl h1)]; rfl
  · rw [numL_good (by omega)]
    by_cases h2 : digB b = 16
    · rw [numL_bad (by omega)]; unfold hxB; rw [if_pos (Or.inr h2)]; rfl
    · rw [numL_good (by omega), numL_nil, hx_nat h1 h2]
      show (0 * 16 + digB a) * 16 + digB b = _
      omega
theorem u8_same {n : Int} (h : 0 ≤ n) (h2 : n < 256) : IntKind.u8.wrap n = n := by
  rw [IntKind.wrap_u8]; omega

set_option maxRecDepth 10000 in
theorem hexbyte_a (s : ByteArray) (hs : s.size ≤ 1000000) (w : World) : Calls Try.prog 34 #[.string s] w fun e w' => e = .returned (.int .u8 ((hexL s.data.toList).toNat : Int)) ∧ w = w' := by
  by_cases h2 : s.size < 2
  · have H := Lib.hid (show hexL s.data.toList = 0 by
      have : s.data.toList.length < 2 := h2
      match hl : s.data.toList, this with
      | [], _ => rfl
      | [_], _ => rfl)
    go_enter Try.func34, Try.ntmps34
    go_wp2
    go_ret
    exact ⟨by rw [H.out]; rfl, rfl⟩
  · have hd : s.data.toList = s[0]'(by omega) :: s[1]'(by omega) :: s.data.toList.drop 2 := by
      have e1 := drop_cons s 0 (by omega)
      have e2 := drop_cons s 1 (by omega)
      rw [List.drop_zero] at e1
      rw [e2] at e1; exact e1
    have hl : (s.extract 0 2).data.toList = [s[0]'(by omega), s[1]'(by omega)] := by
      rw [ByteArray.data_extract, Array.toList_extract]
      show (s.data.toList.drop 0).take 2 = _
      rw [List.drop_zero, hd]; rfl
    have hx : hexL s.data.toList = hxB (s[0]'(by omega)) (s[1]'(by omega)) := by rw [hd]; rfl
    have hsz := ext_le s 0 2
    obtain ⟨u, hu⟩ : ∃ u, u = s.extract 0 2 := ⟨_, rfl⟩
    rw [← hu] at hl hsz
    have HU := Lib.hid hu
    have HH := Lib.hid (fun w => hex_a u w (by omega))
    unfold NumIs at HH
    rw [hl, hex_two, ← hx] at HH
    clear hl hu hd hx
    have hb := (hexL s.data.toList).toNat_lt
    obtain ⟨n, hn⟩ : ∃ n, n = (hexL s.data.toList).toNat := ⟨_, rfl⟩
    rw [← hn] at hb HH ⊢
    have hw := u8_same (n := (n : Int)) (by omega) (by omega)
    have c2 : (2 : Int) ≤ (s.size : Int) := by omega
    obtain ⟨ok, hok⟩ : ∃ ok, ok = (numB 16 12 [s[0]'(by omega), s[1]'(by omega)]).2 := ⟨_, rfl⟩
    rw [← hok] at HH
    clear hn hok
    go_enter Try.func34, Try.ntmps34
    go_wp2_with (go_at_call 51; try rw [← HU.out]; refine (HH.out _).mono ?_; rintro e w' ⟨rfl, rfl⟩)
    go_ret
    exact ⟨rfl, rfl⟩

/-- What Decode answers. -/
def decA (l : List UInt8) : ByteArray × Int := match decL l with | some d => (ofL d, 0) | none => (⟨#[]⟩, 8)
theorem decA_no {l : List UInt8} (h : decL l = none) : decA l = (⟨#[]⟩, 8) := by unfold decA; rw [h]
theorem decA_yes {l d : List UInt8} (h : decL l = some d) : decA l = (ofL d, 0) := by unfold decA; rw [h]
theorem ret_si {p : ByteArray × Int} {a : ByteArray} {c : Int} (h : p = (a, c)) : Ending.returned (.tuple #[.string a, .int .i64 c]) = .returned (.tuple #[.string p.1, .int .i64 p.2]) := by rw [h]
theorem drop_two (s : ByteArray) (k : Nat) (h : k + 1 < s.size) : s.data.toList.drop k = s[k] :: s[k + 1] :: s.data.toList.drop (k + 2) := by
  rw [drop_cons s k (by omega), drop_cons s (k + 1) h]
theorem hexL_drop {s : ByteArray} {k : Nat} (h : hexL (s.data.toList.drop k) ≠ 0) : ∃ (h1 : k + 1 < s.size), hexL (s.data.toList.drop k) = hxB (s[k]'(by omega)) s[k + 1] := by
  rcases Nat.lt_or_ge (k + 1) s.size with h1 | h1
  · exact ⟨h1, by rw [drop_two s k h1]; rfl⟩
  · exfalso; apply h
    have : (s.data.toList.drop k).length < 2 := by rw [List.length_drop, len_data]; omega
    match hl : s.data.toList.drop k, this with
    | [], _ => rfl
    | [_], _ => rfl

set_option maxRecDepth 10000 in
set_option maxHeartbeats 1000000 in
theorem decode_a (s : ByteArray) (hs : s.size ≤ 1000000) (w : World) :
    Calls Try.prog 16 #[.string s] w fun e w' => e = .returned (.tuple #[.string (decA s.data.toList).1, .int .i64 (decA s.data.toList).2]) ∧ Mods [] w w' := by
  have hmk := make_cap s.size hs w
  have HM := Lib.hid (gb_made w s.size hs)
  go_enter Try.func16, Try.ntmps16
  go_wp2
  clear hmk
  go_loopw [4, 5] (fun v i wr => ∃ (k : Nat) (acc : List UInt8), k ≤ s.size ∧ i = .int .i64 k ∧ acc.length ≤ k ∧ decL s.data.toList = decT acc (s.data.toList.drop k) ∧ GB w acc v wr) (fun _ i _ => s.size - (intOf i).toNat)
  case atStart => exact ⟨0, [], Nat.zero_le _, rfl, Nat.le_refl _, by rw [List.drop_zero, decT_start], HM.out⟩
  case round =>
    obtain ⟨k, acc, hk, rfl, hacc, hd, hG⟩ := hrel
    have HD := Lib.hid hd
    have HG := Lib.hid hG
    clear hd hG
    by_cases hlt : k < s.size
    · have hdc := drop_cons s k hlt
      by_cases hc : s[k] = 37
      · have e1 : ((s[k].toNat : Int) == 37) = true := by rw [hc]; rfl
        have hl := ext_from s (k + 1)
        have hsz := ext_le s (k + 1) s.size
        have c1 : (0 : Int) ≤ (k : Int) + 1 := by omega
        have c2 : (k : Int) + 1 ≤ (s.size : Int) := by omega
        obtain ⟨u, hu⟩ : ∃ u, u = s.extract (k + 1) s.size := ⟨_, rfl⟩
        rw [← hu] at hl hsz
        have HU := Lib.hid hu
        have HH := Lib.hid (fun w => hexbyte_a u (by omega) w)
        rw [hl] at HH
        clear hu hl
        by_cases hz : hexL (s.data.toList.drop (k + 1)) = 0
        · have HN := Lib.hid (show decL s.data.toList = none by rw [HD.out, hdc, hc, decT_bad hz])
          rw [hz] at HH
          clear hz hdc hc
          go_wp2_with (go_at_call 34; try rw [← HU.out]; refine (HH.out _).mono ?_; rintro e w' ⟨rfl, rfl⟩)
          go_ret2
          exact ⟨ret_si (decA_no HN.out), .of_below HG.out.low⟩
        · obtain ⟨h1, he⟩ := hexL_drop hz
          have HN := Lib.hid (show decL s.data.toList = decT (acc ++ [hexL (s.data.toList.drop (k + 1))]) (s.data.toList.drop (k + 3)) by
            rw [HD.out, hdc, hc, drop_two s (k + 1) h1, decT_hex (by rw [← he]; exact hz)]; rfl)
          have hne : (((hexL (s.data.toList.drop (k + 1))).toNat : Int) == 0) = false := by
            have := (ne_int hz).1; simpa using this
          obtain ⟨b, hb⟩ : ∃ b, b = hexL (s.data.toList.drop (k + 1)) := ⟨_, rfl⟩
          rw [← hb] at HH HN hne
          clear hz hdc hc he hb
          obtain ⟨g, n', c', w3, hrun, hg4⟩ := app_byte HG.out (by omega) b
          have HG4 := Lib.hid hg4
          clear hg4
          go_wp2_with (first
            | (go_at_call 34; try rw [← HU.out]; refine (HH.out _).mono ?_; rintro e w' ⟨rfl, rfl⟩)
            | (at_builtin; refine wpList_run_app rfl (.tmp 30) (.tmp 32) 42 42 rfl rfl rfl hrun ?_))
          go_roundw
          case rel => exact ⟨k + 3, _, by omega, by go_num, by rw [List.length_append]; simp; omega, HN.out, HG4.out⟩
          case measure => simp [intOf]; omega
      · have e1 : ((s[k].toNat : Int) == 37) = false := by have := (ne_int (x := s[k]) (y := 37) hc).1; simpa using this
        have HN := Lib.hid (show decL s.data.toList = decT (acc ++ [s[k]]) (s.data.toList.drop (k + 1)) by rw [HD.out, hdc, decT_plain hc])
        clear hdc hc
        obtain ⟨g, n', c', w3, hrun, hg4⟩ := app_byte HG.out (by omega) s[k]
        have HG4 := Lib.hid hg4
        clear hg4
        go_wp2_with (at_builtin; refine wpList_run_app rfl (.tmp 30) (.tmp 32) 42 42 rfl rfl rfl hrun ?_)
        go_roundw
        case rel => exact ⟨k + 1, _, by omega, by go_num, by rw [List.length_append]; simp; omega, HN.out, HG4.out⟩
        case measure => simp [intOf]; omega
    · obtain rfl : k = s.size := by omega
      have HN := Lib.hid (show decL s.data.toList = some acc by rw [HD.out, List.drop_of_length_le (by rw [len_data]; exact Nat.le_refl _), decT_nil])
      obtain ⟨A, c, rfl⟩ := HG.out.form
      have hback := conv_gat HG.out
      go_wp2
      go_ret2
      exact ⟨ret_si (decA_yes HN.out), .of_below HG.out.low⟩
end Go.Proofs.Ytgckpoecdaioiaa
