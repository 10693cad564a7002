/- A path written with percents, of the document. Conditions: a text of at most a thousand bytes. -/
import Derived.Test.YtgckpoecdaioiaaTu11
namespace Go.Proofs.Ytgckpoecdaioiaa
open Go.RowKit
set_option linter.unusedVariables false
set_option linter.unusedSimpArgs false

theorem split3 (c : UInt8) : (alB c = true) ∨ (alB c = false ∧ inL pmarks c = true) ∨ (alB c = false ∧ inL pmarks c = false) := by
  cases ha : alB c with
  | true => exact .inl rfl
  | false =>
    cases hi : inL pmarks c with
    | true => exact .inr (.inl ⟨rfl, rfl⟩)
    | false => exact .inr (.inr ⟨rfl, rfl⟩)
set_option maxRecDepth 10000 in
set_option maxHeartbeats 1000000 in
theorem path_r (s : ByteArray) (hp : s.size ≤ 1000) (w : World) :
    Calls Try.prog 33 #[.string s] w fun e w' => e = .returned (.string (ofL (pathL s.data.toList))) ∧ Mods [] w w' := by
  have HG0 := Lib.hid (gb_nil w)
  go_enter Try.func33, Try.ntmps33
  go_wp2
  go_loopw [3, 4] (fun v i wr => ∃ (k : Nat), k ≤ s.size ∧ i = .int .i64 k ∧ GB w (pathL (s.data.toList.take k)) v wr) (fun _ i _ => s.size - (intOf i).toNat)
  case atStart => exact ⟨0, Nat.zero_le _, rfl, HG0.out⟩
  case round =>
    obtain ⟨k, hk, rfl, hG⟩ := hrel
    have HG := Lib.hid hG
    have hlen := (pathL_len (s.data.toList.take k)).2
    rw [take_len s hk] at hlen
    clear hG
    by_cases hlt : k < s.size
    · have hsn := pathL_snoc (s.data.toList.take k) s[k]
      rw [← take_snoc s k hlt] at hsn
      have HI := Lib.hid (fun w => inR ⟨pmarks.toArray⟩ s[k] (by decide) w)
      rcases (split3 s[k] : (alB s[k] = true) ∨ (alB s[k] = false ∧ inL pmarks s[k] = true) ∨ (alB s[k] = false ∧ inL pmarks s[k] = false)) with ha | ⟨ha, hi⟩ | ⟨ha, hi⟩
      · rw [show pathB s[k] = [s[k]] by unfold pathB plainB; rw [ha]; rfl] at hsn
        have HC := Lib.hid (fun w => ha ▸ alnum_r s[k] w)
        obtain ⟨g, n', c', w3, hrun, hg4⟩ := app_byte HG.out (by omega) s[k]
        rw [← hsn] at hg4
        have HG4 := Lib.hid hg4
        clear hg4 ha hsn
        go_wp2_with (first
          | (go_at_call 41; refine (HC.out _).mono ?_; rintro e w' ⟨rfl, rfl⟩)
          | (go_at_call 27; refine (HI.out _).mono ?_; rintro e w' ⟨rfl, rfl⟩)
          | (at_builtin; refine wpList_run_app rfl (.tmp 21) (.tmp 23) 42 42 rfl rfl rfl hrun ?_))
        go_roundw
        case rel => exact ⟨k + 1, by omega, by go_num, HG4.out⟩
        case measure => simp [intOf]; omega
      · rw [show pathB s[k] = [s[k]] by unfold pathB plainB; rw [ha, hi]; rfl] at hsn
        have HC := Lib.hid (fun w => ha ▸ alnum_r s[k] w)
        obtain ⟨g, n', c', w3, hrun, hg4⟩ := app_byte HG.out (by omega) s[k]
        rw [← hsn] at hg4
        have HG4 := Lib.hid hg4
        rw [show (⟨pmarks.toArray⟩ : ByteArray).data.toList = pmarks from rfl, hi] at HI
        clear hi
        clear hg4 ha hsn
        go_wp2_with (first
          | (go_at_call 41; refine (HC.out _).mono ?_; rintro e w' ⟨rfl, rfl⟩)
          | (go_at_call 27; refine (HI.out _).mono ?_; rintro e w' ⟨rfl, rfl⟩)
          | (at_builtin; refine wpList_run_app rfl (.tmp 21) (.tmp 23) 42 42 rfl rfl rfl hrun ?_))
        go_roundw
        case rel => exact ⟨k + 1, by omega, by go_num, HG4.out⟩
        case measure => simp [intOf]; omega
      · have hpl : plainB s[k] = false := by unfold plainB; rw [ha, hi]; rfl
        rw [show pathB s[k] = pctL s[k] by unfold pathB; rw [if_neg (by rw [hpl]; simp)]] at hsn
        rw [show (⟨pmarks.toArray⟩ : ByteArray).data.toList = pmarks from rfl, hi] at HI
        have HC := Lib.hid (fun w => ha ▸ alnum_r s[k] w)
        clear hi ha
        have hb := s[k].toNat_lt
        have i1 : (0 : Int) ≤ (s[k].toNat : Int) / 16 := by omega
        have i2 : (s[k].toNat : Int) / 16 < 16 := by omega
        have hand := and15 s[k]
        have i3 : 0 ≤ bits BinOp.and IntKind.u8 (s[k].toNat : Int) 15 := by omega
        have i4 : bits BinOp.and IntKind.u8 (s[k].toNat : Int) 15 < 16 := by omega
        have hi1 : ((s[k].toNat : Int) / 16).toNat < (⟨#[48, 49, 50, 51, 52, 53, 54, 55, 56, 57, 65, 66, 67, 68, 69, 70]⟩ : ByteArray).size := by show _ < 16; omega
        have hi2 : (bits BinOp.and IntKind.u8 (s[k].toNat : Int) 15).toNat < (⟨#[48, 49, 50, 51, 52, 53, 54, 55, 56, 57, 65, 66, 67, 68, 69, 70]⟩ : ByteArray).size := by show _ < 16; omega
        obtain ⟨g, n', c', w3, hrun, hg4⟩ := app3 HG.out.drew (by omega) ((⟨#[48, 49, 50, 51, 52, 53, 54, 55, 56, 57, 65, 66, 67, 68, 69, 70]⟩ : ByteArray)[((s[k].toNat : Int) / 16).toNat]'hi1) ((⟨#[48, 49, 50, 51, 52, 53, 54, 55, 56, 57, 65, 66, 67, 68, 69, 70]⟩ : ByteArray)[(bits BinOp.and IntKind.u8 (s[k].toNat : Int) 15).toNat]'hi2)
        rw [caps_at _ (s[k].toNat / 16) (by omega) (by omega) hi1, caps_at _ (s[k].toNat % 16) (by omega) (by omega) hi2] at hg4
        rw [show (pathL (s.data.toList.take k) ++ [37, capsL.getD (s[k].toNat / 16) 0, capsL.getD (s[k].toNat % 16) 0]) = pathL (s.data.toList.take (k + 1)) from hsn.symm] at hg4
        have HG4 := Lib.hid hg4
        simp only [World.size_drew] at hrun
        change Sem.run _ _ (World.drew (World.alloc wr _)) = _ at hrun
        clear hg4 hpl hsn hb hand
        go_upto_region 8 with (first
          | (go_at_call 41; refine (HC.out _).mono ?_; rintro e w' ⟨rfl, rfl⟩)
          | (go_at_call 27; refine (HI.out _).mono ?_; rintro e w' ⟨rfl, rfl⟩))
        go_region_law (refine step_app2 rfl rfl rfl rfl hrun ?_)
        all_goals
          clear hrun
          go_wp2
          go_roundw
          case rel => exact ⟨k + 1, by omega, by go_num, HG4.out⟩
          case measure => simp [intOf]; omega
    · have htk : s.data.toList.take k = s.data.toList := List.take_of_length_le (by rw [len_data]; omega)
      rw [htk] at HG
      clear hlen htk
      obtain ⟨A, c, rfl⟩ := HG.out.form
      have hback := conv_gat HG.out
      go_wp2
      go_ret
      exact ⟨rfl, .of_below (HG.out.low)⟩
end Go.Proofs.Ytgckpoecdaioiaa
