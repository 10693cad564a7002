/- The document's Quoted. Conditions: a text of at most a million bytes. -/
import Derived.Test.YtgkhelbpccehcaaGreatDoorQp9
namespace Go.Proofs.YtgkhelbpccehcaaGreatDoor
open Go.RowKit
set_option linter.unusedVariables false

theorem qscan_34 (r : List UInt8) : qscan (34 :: r) = some ([], 1) := by unfold qscan; simp
theorem qscan_92 (d : UInt8) (r : List UInt8) : qscan (92 :: d :: r) = if valB d = true then (qscan r).map (fun p => (d :: p.1, p.2 + 2)) else none := by
  conv => lhs; unfold qscan
  rw [if_neg (by decide), if_pos rfl]
theorem qscan_last : qscan [92] = none := by unfold qscan; simp
theorem qscan_on {c : UInt8} (h : c ≠ 34) (h2 : c ≠ 92) (r : List UInt8) : qscan (c :: r) = if valB c = true then (qscan r).map (fun p => (c :: p.1, p.2 + 1)) else none := by
  conv => lhs; unfold qscan
  rw [if_neg h, if_neg h2]
/-- The rest of the scan, behind k bytes that gave l. -/
def qrest (l : List UInt8) (k : Nat) (o : Option (List UInt8 × Nat)) : Option (List UInt8 × Nat) := o.map fun p => (l ++ p.1, p.2 + k)
theorem qrest_map (l : List UInt8) (k : Nat) (d : UInt8) (j : Nat) (o : Option (List UInt8 × Nat)) : qrest l k (o.map (fun p => (d :: p.1, p.2 + j))) = qrest (l ++ [d]) (k + j) o := by
  cases o with
  | none => rfl
  | some p => simp [qrest]; omega
theorem qans_of {l : List UInt8} {r : List UInt8} {o : Option (List UInt8 × Nat)} (h : quotedL l = (qscan r).map (fun p => (p.1, p.2 + 1))) : qans l = ((qscan r).map (fun p => (p.1, p.2 + 1))).getD ([], 0) := by unfold qans; rw [h]

set_option maxRecDepth 10000 in
set_option maxHeartbeats 2000000 in
theorem refquoted (s : ByteArray) (w : World) (hs : s.size ≤ 1000000) : Calls Tryz.prog 117 #[.string s] w (QAns w s) := by
  by_cases h0 : s.size = 0
  · have HQ := Lib.hid (show qans s.data.toList = ([], 0) by rw [nil_of_size h0]; rfl)
    have hz : ((s.size : Int) == 0) = true := by simp [h0]
    go_enter Tryz.func117, Tryz.ntmps117
    go_wp2
    go_ret2
    exact ⟨by rw [HQ.out]; rfl, Below.refl _ _⟩
  · have h00 : 0 < s.size := by omega
    have hz : ((s.size : Int) == 0) = false := by rw [beq_eq_false_iff_ne]; omega
    by_cases h34 : s[0] = 34
    · have h1 : ((s[0].toNat : Int) != 34) = false := (byte_yes (c := s[0]) (n := 34) (by decide) h34).2
      obtain ⟨r, hr⟩ : ∃ r, r = s.data.toList.drop 1 := ⟨_, rfl⟩
      have hq : qans s.data.toList = ((qscan r).map (fun p => (p.1, p.2 + 1))).getD ([], 0) := by
        unfold qans; rw [list_head s h00, h34, quoted_yes, hr]
      have HQ := Lib.hid hq
      have HR := Lib.hid hr
      clear hq hr h34
      go_enter Tryz.func117, Tryz.ntmps117
      go_wp2
      go_loopw [4, 5] (fun v i wr => ∃ (k : Nat) (l : List UInt8), 1 ≤ k ∧ k ≤ s.size ∧ i = .int .i64 k ∧ l.length ≤ k ∧ qscan r = qrest l (k - 1) (qscan (s.data.toList.drop k)) ∧ GB w l v wr) (fun _ i _ => s.size - (intOf i).toNat)
      case atStart => exact ⟨1, [], Nat.le_refl _, by omega, rfl, by simp, by rw [← HR.out]; cases qscan r <;> simp [qrest], gb_nil w⟩
      case round =>
        obtain ⟨k, l, hk1, hk, rfl, hll, hp, hg⟩ := hrel
        have HP := Lib.hid hp
        have HG := Lib.hid hg
        clear hp hg
        by_cases hlt : k < s.size
        · by_cases h34 : s[k] = 34
          · have h1 := (byte_yes (c := s[k]) (n := 34) (by decide) h34).1
            have hcv := conv_gat HG.out
            have hq := HQ.out
            rw [HP.out, drop_cons s k hlt, h34, qscan_34] at hq
            have HQ2 := Lib.hid (show qans s.data.toList = (l, k + 1) by rw [hq]; simp [qrest]; omega)
            clear hq h34
            go_wp2
            go_ret2
            exact ⟨by rw [HQ2.out]; rfl, HG.out.low⟩
          · have h1 := (byte_no (c := s[k]) (n := 34) (by decide) h34).1
            by_cases h92 : s[k] = 92
            · have h2 := (byte_yes (c := s[k]) (n := 92) (by decide) h92).1
              by_cases hlt2 : k + 1 < s.size
              · have h3 : (((k : Int) + 1) == (s.size : Int)) = false := by simp; omega
                have hstep := HP.out
                rw [drop_cons s k hlt, h92, drop_cons s (k + 1) hlt2, qscan_92] at hstep
                have HS := Lib.hid hstep
                clear hstep h92 h34
                cases hv : valB s[k + 1]
                · have hst := HS.out
                  rw [hv, if_neg (by simp)] at hst
                  have HQ2 := Lib.hid (show qans s.data.toList = ([], 0) by rw [HQ.out, hst]; rfl)
                  clear hst
                  go_wp2_with (go_at_call 122; refine (val_r _ _).mono ?_; rintro e w' ⟨rfl, rfl⟩)
                  go_ret2
                  exact ⟨by rw [HQ2.out]; rfl, HG.out.low⟩
                · have hst := HS.out
                  rw [hv, if_pos rfl, qrest_map] at hst
                  have HS2 := Lib.hid hst
                  clear hst
                  obtain ⟨g, n', c', w3, hrun, hg'⟩ := app_byte HG.out (by omega) s[k + 1]
                  have HG2 := Lib.hid hg'
                  clear hg'
                  go_wp2_with (first
                    | (go_at_call 122; refine (val_r _ _).mono ?_; rintro e w' ⟨rfl, rfl⟩)
                    | (at_builtin; refine wpList_run_app rfl (.tmp 44) (.tmp 46) 22 rfl rfl rfl hrun ?_))
                  go_roundw
                  case rel => exact ⟨k + 2, l ++ [s[k + 1]], by omega, by omega, by go_num, by simp; omega, by rw [HS2.out, show k - 1 + 2 = k + 2 - 1 by omega], HG2.out⟩
                  case measure => simp [intOf]; omega
              · have h3 : (((k : Int) + 1) == (s.size : Int)) = true := by simp; omega
                have hst := HP.out
                rw [drop_cons s k hlt, h92, List.drop_of_length_le (by rw [len_data]; omega), qscan_last] at hst
                have HQ2 := Lib.hid (show qans s.data.toList = ([], 0) by rw [HQ.out, hst]; rfl)
                clear hst h92 h34
                go_wp2
                go_ret2
                exact ⟨by rw [HQ2.out]; rfl, HG.out.low⟩
            · have h2 := (byte_no (c := s[k]) (n := 92) (by decide) h92).1
              have hstep := HP.out
              rw [drop_cons s k hlt, qscan_on h34 h92] at hstep
              have HS := Lib.hid hstep
              clear hstep h92 h34
              cases hv : valB s[k]
              · have hst := HS.out
                rw [hv, if_neg (by simp)] at hst
                have HQ2 := Lib.hid (show qans s.data.toList = ([], 0) by rw [HQ.out, hst]; rfl)
                clear hst
                go_wp2_with (go_at_call 122; refine (val_r _ _).mono ?_; rintro e w' ⟨rfl, rfl⟩)
                go_ret2
                exact ⟨by rw [HQ2.out]; rfl, HG.out.low⟩
              · have hst := HS.out
                rw [hv, if_pos rfl, qrest_map] at hst
                have HS2 := Lib.hid hst
                clear hst
                obtain ⟨g, n', c', w3, hrun, hg'⟩ := app_byte HG.out (by omega) s[k]
                have HG2 := Lib.hid hg'
                clear hg'
                go_wp2_with (first
                  | (go_at_call 122; refine (val_r _ _).mono ?_; rintro e w' ⟨rfl, rfl⟩)
                  | (at_builtin; refine wpList_run_app rfl (.tmp 44) (.tmp 46) 22 rfl rfl rfl hrun ?_))
                go_roundw
                case rel => exact ⟨k + 1, l ++ [s[k]], by omega, by omega, by go_num, by simp; omega, by rw [HS2.out, show k - 1 + 1 = k + 1 - 1 by omega], HG2.out⟩
                case measure => simp [intOf]; omega
        · have hst := HP.out
          rw [List.drop_of_length_le (by rw [len_data]; omega)] at hst
          have HQ2 := Lib.hid (show qans s.data.toList = ([], 0) by rw [HQ.out, hst]; rfl)
          clear hst
          go_wp2
          go_ret2
          exact ⟨by rw [HQ2.out]; rfl, HG.out.low⟩
    · have h1 : ((s[0].toNat : Int) != 34) = true := (byte_no (c := s[0]) (n := 34) (by decide) h34).2
      have HQ := Lib.hid (show qans s.data.toList = ([], 0) by unfold qans; rw [list_head s h00, quoted_no h34]; rfl)
      clear h34
      go_enter Tryz.func117, Tryz.ntmps117
      go_wp2
      go_ret2
      exact ⟨by rw [HQ.out]; rfl, Below.refl _ _⟩
end Go.Proofs.YtgkhelbpccehcaaGreatDoor
