/- Decode of the document. Conditions: a text of at most a million bytes. -/
import Derived.Test.YtgckpoecdaioiaaTe11
namespace Go.Proofs.Ytgckpoecdaioiaa
open Go.RowKit
set_option linter.unusedVariables false
set_option linter.unusedSimpArgs false

theorem dig_as (c : UInt8) {d : Int} (h : digR c = d) (w : World) : Calls Try.prog 35 #[.int .u8 (c.toNat : Int)] w fun e w' => e = .returned (.int .i64 d) ∧ w = w' := by
  subst h; exact dig_r c w
theorem digR_lt {c : UInt8} (h : digB c = 16) : digR c < 0 := by rw [digR_eq, if_pos h]; omega
theorem digR_ge {c : UInt8} (h : digB c ≠ 16) : digR c = digB c := by rw [digR_eq, if_neg h]
theorem hex_bits (a b : Nat) (ha : a < 16) (hb : b < 16) : bits BinOp.or IntKind.i64 ((a : Int) * 16) (b : Int) = (a : Int) * 16 + b := by
  have : (List.range 16).all (fun x => (List.range 16).all (fun y => decide (bits BinOp.or IntKind.i64 ((x : Int) * 16) (y : Int) = (x : Int) * 16 + y))) = true := by decide +kernel
  have h1 := List.all_eq_true.1 this a (by rw [List.mem_range]; exact ha)
  have h2 := List.all_eq_true.1 h1 b (by rw [List.mem_range]; exact hb)
  exact of_decide_eq_true h2
theorem dec_short {acc l : List UInt8} (h : l.length < 2) : decT acc (37 :: l) = none := decT_bad (by
  match l, h with
  | [], _ => rfl
  | [_], _ => rfl)
theorem hxB_zero {a b : UInt8} (h : digB a = 16 ∨ digB b = 16) : hxB a b = 0 := by unfold hxB; rw [if_pos h]

set_option maxRecDepth 10000 in
set_option maxHeartbeats 1000000 in
theorem decode_r (s : ByteArray) (hs : s.size ≤ 1000000) (w : World) :
    Calls Try.prog 17 #[.string s] w fun e w' => e = .returned (.tuple #[.string (decA s.data.toList).1, .int .i64 (decA s.data.toList).2]) ∧ Mods [] w w' := by
  have HM := Lib.hid (gb_nil w)
  go_enter Try.func17, Try.ntmps17
  go_wp2
  go_loopw [4, 5] (fun v i wr => ∃ (k : Nat) (acc : List UInt8), k ≤ s.size ∧ i = .int .i64 k ∧ acc.length ≤ k ∧ decL s.data.toList = decT acc (s.data.toList.drop k) ∧ GB w acc v wr) (fun _ i _ => s.size - (intOf i).toNat)
  case atStart => exact ⟨0, [], Nat.zero_le _, rfl, Nat.le_refl _, by rw [List.drop_zero, decT_start], HM.out⟩
  case round =>
    obtain ⟨k, acc, hk, rfl, hacc, hd, hG⟩ := hrel
    have HD := Lib.hid hd
    have HG := Lib.hid hG
    clear hd hG
    by_cases hlt : k < s.size
    · have hdc := drop_cons s k hlt
      by_cases hc : s[k] = 37
      · have e1 : ((s[k].toNat : Int) != 37) = false := by rw [hc]; rfl
        by_cases h2 : k + 2 < s.size
        · have e0 : decide ((s.size : Int) ≤ (k : Int) + 2) = false := by simp; omega
          have h1 : k + 1 < s.size := by omega
          have hdd : s.data.toList.drop (k + 1) = s[k + 1] :: s[k + 2] :: s.data.toList.drop (k + 3) := drop_two s (k + 1) (by omega)
          rw [hdd] at hdc
          by_cases ha : digB s[k + 1] = 16
          · have HN := Lib.hid (show decL s.data.toList = none by rw [HD.out, hdc, hc]; exact decT_bad (hxB_zero (.inl ha)))
            have hra := digR_lt ha
            obtain ⟨da, hda⟩ : ∃ d, d = digR s[k + 1] := ⟨_, rfl⟩
            have HDA := Lib.hid (fun w => dig_as s[k + 1] hda.symm w)
            rw [← hda] at hra
            clear hdc hdd hc ha hda
            go_wp2_with (go_at_call 35; (with_reducible show Calls _ _ #[.int .u8 (s[k + 1].toNat : Int)] _ _); refine (HDA.out _).mono ?_; rintro e w' ⟨rfl, rfl⟩)
            go_ret2
            exact ⟨ret_si (decA_no HN.out), .of_below HG.out.low⟩
          · have hra := digR_ge ha
            have hla := digB_lt ha
            by_cases hb : digB s[k + 2] = 16
            · have HN := Lib.hid (show decL s.data.toList = none by rw [HD.out, hdc, hc]; exact decT_bad (hxB_zero (.inr hb)))
              have hrb := digR_lt hb
              obtain ⟨da, hda⟩ : ∃ d, d = digR s[k + 1] := ⟨_, rfl⟩
              obtain ⟨db, hdb⟩ : ∃ d, d = digR s[k + 2] := ⟨_, rfl⟩
              have HDA := Lib.hid (fun w => dig_as s[k + 1] hda.symm w)
              have HDB := Lib.hid (fun w => dig_as s[k + 2] hdb.symm w)
              have hra2 : 0 ≤ da := by rw [hda, hra]; exact hla.1
              rw [← hdb] at hrb
              clear hdc hdd hc ha hb hra hla hda hdb
              go_wp2_with (first
                | (go_at_call 35; (with_reducible show Calls _ _ #[.int .u8 (s[k + 1].toNat : Int)] _ _); refine (HDA.out _).mono ?_; rintro e w' ⟨rfl, rfl⟩)
                | (go_at_call 35; (with_reducible show Calls _ _ #[.int .u8 (s[k + 2].toNat : Int)] _ _); refine (HDB.out _).mono ?_; rintro e w' ⟨rfl, rfl⟩))
              go_ret2
              exact ⟨ret_si (decA_no HN.out), .of_below HG.out.low⟩
            · have hrb := digR_ge hb
              have hlb := digB_lt hb
              have hx := hx_nat ha hb
              have hdx : decL s.data.toList = decT acc (37 :: s[k + 1] :: s[k + 2] :: s.data.toList.drop (k + 3)) := by rw [HD.out, hdc, hc]
              obtain ⟨x, hxx⟩ : ∃ x, x = hxB s[k + 1] s[k + 2] := ⟨_, rfl⟩
              have HBAD := Lib.hid (show x = 0 → decL s.data.toList = none from fun h => by rw [hdx]; exact decT_bad (hxx.symm.trans h))
              have HGOOD := Lib.hid (show x ≠ 0 → decL s.data.toList = decT (acc ++ [x]) (s.data.toList.drop (k + 3)) from fun h => by rw [hdx, decT_hex (by rw [← hxx]; exact h), ← hxx])
              rw [← hxx] at hx
              obtain ⟨a0, ha0⟩ := Int.eq_ofNat_of_zero_le hla.1
              obtain ⟨b0, hb0⟩ := Int.eq_ofNat_of_zero_le hlb.1
              have HDA := Lib.hid (fun w => dig_as s[k + 1] (hra.trans ha0) w)
              have HDB := Lib.hid (fun w => dig_as s[k + 2] (hrb.trans hb0) w)
              rw [ha0] at hla hx
              rw [hb0] at hlb hx
              have ha16 : a0 < 16 := by omega
              have hb16 : b0 < 16 := by omega
              have hor := hex_bits a0 b0 ha16 hb16
              have hw := u8_same (n := (a0 : Int) * 16 + b0) (by omega) (by omega)
              have hxb := x.toNat_lt
              rw [← hx] at hor hw
              have HX := Lib.hid hx
              clear hdc hdd hc ha hb hra hla hrb hlb ha0 hb0 hdx hxx hx
              by_cases hz : x = 0
              · have HN := Lib.hid (HBAD.out hz)
                have hz1 : ((x.toNat : Int) == 0) = true := by rw [hz]; rfl
                clear hz
                go_wp2_with (first
                  | (go_at_call 35; (with_reducible show Calls _ _ #[.int .u8 (s[k + 1].toNat : Int)] _ _); refine (HDA.out _).mono ?_; rintro e w' ⟨rfl, rfl⟩)
                  | (go_at_call 35; (with_reducible show Calls _ _ #[.int .u8 (s[k + 2].toNat : Int)] _ _); refine (HDB.out _).mono ?_; rintro e w' ⟨rfl, rfl⟩))
                go_quiet (first | (go_at_call 35; (with_reducible show Calls _ _ #[.int .u8 (s[k + 1].toNat : Int)] _ _); exact quiet_left (HDA.out _)) | (go_at_call 35; (with_reducible show Calls _ _ #[.int .u8 (s[k + 2].toNat : Int)] _ _); exact quiet_left (HDB.out _)))
                go_wp2
                go_ret2
                exact ⟨ret_si (decA_no HN.out), .of_below (HG.out.low.trans ((Drawn.more (Drawn.refl wr) _).below.mono HG.out.low.size))⟩
              · have HN := Lib.hid (HGOOD.out hz)
                have hz1 : ((x.toNat : Int) == 0) = false := by have := (b_no 0 hz).1; simpa using this
                clear hz
                go_wp2_with (first
                  | (go_at_call 35; (with_reducible show Calls _ _ #[.int .u8 (s[k + 1].toNat : Int)] _ _); refine (HDA.out _).mono ?_; rintro e w' ⟨rfl, rfl⟩)
                  | (go_at_call 35; (with_reducible show Calls _ _ #[.int .u8 (s[k + 2].toNat : Int)] _ _); refine (HDB.out _).mono ?_; rintro e w' ⟨rfl, rfl⟩))
                go_quiet (first | (go_at_call 35; (with_reducible show Calls _ _ #[.int .u8 (s[k + 1].toNat : Int)] _ _); exact quiet_left (HDA.out _)) | (go_at_call 35; (with_reducible show Calls _ _ #[.int .u8 (s[k + 2].toNat : Int)] _ _); exact quiet_left (HDB.out _)))
                obtain ⟨wd, hwd⟩ : ∃ wd, wd = wr.drewN nq := ⟨_, rfl⟩
                have hg2 : GB w acc u4 wd := by rw [hwd]; exact HG.out.below ((Drawn.more (Drawn.refl wr) nq).below)
                rw [← hwd]
                clear hwd
                obtain ⟨g, n', c', w3, hrun, hg4⟩ := app_byte hg2 (by omega) x
                have HG4 := Lib.hid hg4
                clear hg4 hg2
                go_wp2_with (at_builtin; refine wpList_run_app rfl (.tmp 59) (.tmp 61) 42 42 rfl rfl rfl hrun ?_)
                go_roundw
                case rel => exact ⟨k + 3, _, by omega, by go_num, by rw [List.length_append]; simp; omega, HN.out, HG4.out⟩
                case measure => simp [intOf]; omega
        · have e0 : (s.size : Int) ≤ (k : Int) + 2 := by omega
          have HN := Lib.hid (show decL s.data.toList = none by rw [HD.out, hdc, hc]; exact dec_short (by rw [List.length_drop, len_data]; omega))
          clear hdc hc h2
          go_wp2
          go_ret2
          exact ⟨ret_si (decA_no HN.out), .of_below HG.out.low⟩
      · have e1 : ((s[k].toNat : Int) != 37) = true := by have := (b_no 37 hc).2; simpa using this
        have HN := Lib.hid (show decL s.data.toList = decT (acc ++ [s[k]]) (s.data.toList.drop (k + 1)) by rw [HD.out, hdc, decT_plain hc])
        clear hdc hc
        obtain ⟨g, n', c', w3, hrun, hg4⟩ := app_byte HG.out (by omega) s[k]
        have HG4 := Lib.hid hg4
        clear hg4
        go_wp2_with (at_builtin; refine wpList_run_app rfl (.tmp 17) (.tmp 21) 42 42 rfl rfl rfl hrun ?_)
        go_roundw
        case rel => exact ⟨k + 1, _, by omega, by go_num, by rw [List.length_append]; simp; omega, HN.out, HG4.out⟩
        case measure => simp [intOf]; omega
    · obtain rfl : k = s.size := by omega
      have HN := Lib.hid (show decL s.data.toList = some acc by rw [HD.out, List.drop_of_length_le (by rw [len_data]; exact Nat.le_refl _), decT_nil])
      obtain ⟨A, c, rfl⟩ := HG.out.form
      have hback := conv_gat HG.out
      go_wp2
      go_ret2
      exact ⟨ret_si (decA_yes HN.out), .of_below HG.out.low⟩
end Go.Proofs.Ytgckpoecdaioiaa
