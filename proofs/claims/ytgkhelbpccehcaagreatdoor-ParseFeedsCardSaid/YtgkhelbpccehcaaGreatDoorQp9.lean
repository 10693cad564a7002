/- The code's and the document's Quoted answer one plain function. Conditions: a text of at most a million bytes. -/
import Derived.Test.YtgkhelbpccehcaaGreatDoorQc9
namespace Go.Proofs.YtgkhelbpccehcaaGreatDoor
open Go.RowKit
set_option linter.unusedVariables false

theorem plain_92 (d : UInt8) (r : List UInt8) : plainL (92 :: d :: r) = d :: plainL r := by
  conv => lhs; unfold plainL
  rw [if_pos rfl]
theorem plain_on {c : UInt8} (h : c ≠ 92) (r : List UInt8) : plainL (c :: r) = c :: plainL r := by cases r <;> simp [plainL, h]
theorem esc_92 {r : List UInt8} (h : okEsc (92 :: r) = true) : ∃ d r', r = d :: r' ∧ okEsc r' = true := by
  cases r with
  | nil => simp [okEsc] at h
  | cons d r => exact ⟨d, r, rfl, by unfold okEsc at h; simpa using h⟩
theorem esc_on {c : UInt8} (h : c ≠ 92) {r : List UInt8} (he : okEsc (c :: r) = true) : okEsc r = true := by
  unfold okEsc at he; rw [if_neg h] at he; exact he

set_option maxRecDepth 10000 in
set_option maxHeartbeats 1000000 in
theorem plain_a (s : ByteArray) (w : World) (hs : s.size ≤ 1000000) (hok : okEsc s.data.toList = true) :
    Calls Tryz.prog 225 #[.string s] w fun e w' => e = .returned (.string ⟨(plainL s.data.toList).toArray⟩) ∧ Below w.heap.size w w' := by
  have hmk := make_cap s.size hs w
  have HM := Lib.hid (gb_made w s.size hs)
  have HO := Lib.hid hok
  clear hok
  go_enter Tryz.func225, Tryz.ntmps225
  go_wp2
  clear hmk
  go_loopw [3, 4] (fun v i wr => ∃ (k : Nat) (l : List UInt8), k ≤ s.size ∧ i = .int .i64 k ∧ l.length ≤ k ∧ plainL s.data.toList = l ++ plainL (s.data.toList.drop k) ∧ okEsc (s.data.toList.drop k) = true ∧ GB w l v wr) (fun _ i _ => s.size - (intOf i).toNat)
  case atStart => exact ⟨0, [], Nat.zero_le _, rfl, Nat.le_refl _, rfl, HO.out, HM.out⟩
  case round =>
    obtain ⟨k, l, hk, rfl, hll, hp, ho, hg⟩ := hrel
    have HP := Lib.hid hp
    have HOK := Lib.hid ho
    have HG := Lib.hid hg
    clear hp ho hg
    by_cases hlt : k < s.size
    · by_cases h92 : s[k] = 92
      · have h1 := (byte_yes (c := s[k]) (n := 92) (by decide) h92).1
        have hok2 := HOK.out
        rw [drop_cons s k hlt, h92] at hok2
        obtain ⟨d, r', hr, hr2⟩ := esc_92 hok2
        have hlt2 : k + 1 < s.size := by
          have := congrArg List.length hr
          rw [List.length_drop, len_data] at this; simp only [List.length_cons] at this; omega
        rw [drop_cons s (k + 1) hlt2] at hr
        injection hr with hd hr3
        have HP2 := Lib.hid (show plainL s.data.toList = (l ++ [s[k + 1]]) ++ plainL (s.data.toList.drop (k + 2)) by
          rw [HP.out, drop_cons s k hlt, h92, drop_cons s (k + 1) hlt2, plain_92]; simp)
        have HOK2 := Lib.hid (show okEsc (s.data.toList.drop (k + 2)) = true by rw [show s.data.toList.drop (k + 2) = r' from hr3]; exact hr2)
        obtain ⟨g, n', c', w', hrun, hg'⟩ := app_byte HG.out (by omega) s[k + 1]
        have HG2 := Lib.hid hg'
        clear h92 hok2 hr2 hd hr3 hg'
        go_wp2_with (at_builtin; refine wpList_run_app rfl (.tmp 20) (.tmp 24) 22 rfl rfl rfl hrun ?_)
        go_roundw
        case rel => exact ⟨k + 2, l ++ [s[k + 1]], by omega, by go_num, by simp; omega, HP2.out, HOK2.out, HG2.out⟩
        case measure => simp [intOf]; omega
      · have h1 := (byte_no (c := s[k]) (n := 92) (by decide) h92).1
        have HP2 := Lib.hid (show plainL s.data.toList = (l ++ [s[k]]) ++ plainL (s.data.toList.drop (k + 1)) by
          rw [HP.out, drop_cons s k hlt, plain_on h92]; simp)
        have HOK2 := Lib.hid (show okEsc (s.data.toList.drop (k + 1)) = true by have := HOK.out; rw [drop_cons s k hlt] at this; exact esc_on h92 this)
        obtain ⟨g, n', c', w', hrun, hg'⟩ := app_byte HG.out (by omega) s[k]
        have HG2 := Lib.hid hg'
        clear h92 hg'
        go_wp2_with (at_builtin; refine wpList_run_app rfl (.tmp 20) (.tmp 24) 22 rfl rfl rfl hrun ?_)
        go_roundw
        case rel => exact ⟨k + 1, l ++ [s[k]], by omega, by go_num, by simp; omega, HP2.out, HOK2.out, HG2.out⟩
        case measure => simp [intOf]; omega
    · have hcv := conv_gat HG.out
      have hp := HP.out
      rw [List.drop_of_length_le (by rw [len_data]; omega), show plainL [] = [] from rfl, List.append_nil] at hp
      have HPP := Lib.hid hp
      clear hp
      go_wp2
      go_ret
      exact ⟨by rw [HPP.out]; rfl, HG.out.low⟩

/-- What Quoted answers. -/
def qans (l : List UInt8) : List UInt8 × Nat := (quotedL l).getD ([], 0)
def QAns (w : World) (s : ByteArray) (e : Ending) (w' : World) : Prop :=
  e = .returned (.tuple #[.string ⟨(qans s.data.toList).1.toArray⟩, .int .i64 ((qans s.data.toList).2 : Int)]) ∧ Below w.heap.size w w'
theorem qlenN_eq (l : List UInt8) : quotedL l = if qlenN l = 0 then none else if valL ((l.drop 1).take (qlenN l - 2)) = true then some (plainL ((l.drop 1).take (qlenN l - 2)), qlenN l) else none := by
  cases l with
  | nil => rfl
  | cons c r =>
    by_cases hc : c = 34
    · subst hc
      rw [quoted_yes, qscan_eq]
      unfold qlenN
      simp only [if_true]
      cases hq : qlen r with
      | none => simp
      | some n =>
        have := (qlen_le _ _ hq).1
        simp only [Option.bind_some]
        rw [show List.drop 1 (34 :: r) = r from rfl, show n + 1 - 2 = n - 1 by omega]
        cases hv : valL (r.take (n - 1)) <;> simp
    · rw [quoted_no hc]; unfold qlenN; simp [hc]
theorem qlenN_esc {l : List UInt8} (h : qlenN l ≠ 0) : 2 ≤ qlenN l ∧ qlenN l ≤ l.length ∧ okEsc ((l.drop 1).take (qlenN l - 2)) = true := by
  cases l with
  | nil => exact absurd rfl h
  | cons c r =>
    by_cases hc : c = 34
    · subst hc
      cases hq : qlen r with
      | none => exfalso; apply h; unfold qlenN; simp [hq]
      | some n =>
        have h1 := qlen_le _ _ hq
        have e : qlenN (34 :: r) = n + 1 := by unfold qlenN; simp [hq]
        rw [e]
        refine ⟨by omega, by simp only [List.length_cons]; omega, ?_⟩
        rw [show List.drop 1 (34 :: r) = r from rfl, show n + 1 - 2 = n - 1 by omega]
        exact qlen_esc _ _ hq
    · exfalso; apply h; unfold qlenN; simp [hc]
set_option maxRecDepth 10000 in
theorem quoted_a (s : ByteArray) (w : World) (hs : s.size ≤ 1000000) : Calls Tryz.prog 221 #[.string s] w (QAns w s) := by
  have hQ := qlenN_eq s.data.toList
  have HA := qlen_a s w hs
  obtain ⟨n, hn⟩ : ∃ n, n = qlenN s.data.toList := ⟨_, rfl⟩
  have hesc := @qlenN_esc s.data.toList
  rw [← hn] at hQ HA hesc
  clear hn
  by_cases h0 : n = 0
  · subst h0
    have HQ := Lib.hid (show qans s.data.toList = ([], 0) by unfold qans; rw [hQ]; rfl)
    clear hQ hesc
    go_enter Tryz.func221, Tryz.ntmps221
    go_wp2_with (go_at_call 224; refine HA.mono ?_; rintro e w' ⟨rfl, rfl⟩)
    go_ret2
    exact ⟨by rw [HQ.out]; rfl, Below.refl _ _⟩
  · obtain ⟨h2, hle, hes⟩ := hesc h0
    rw [if_neg h0] at hQ
    have hle2 : n ≤ s.size := hle
    have hin : (s.extract 1 (n - 1)).data.toList = (s.data.toList.drop 1).take (n - 2) := by rw [ext_list, show n - 1 - 1 = n - 2 by omega]
    rw [← hin] at hQ hes
    have hisz : (s.extract 1 (n - 1)).size ≤ 1000000 := by rw [extract_size _ _ _ (by omega)]; omega
    have him : (s.extract 1 (n - 1)).size ≤ maxLen := by unfold maxLen; omega
    have HES := Lib.hid hes
    have HQ0 := Lib.hid hQ
    have hn1 : n - 1 ≤ s.size := by omega
    have h3 : ((n : Int) - 1) = ((n - 1 : Nat) : Int) := by omega
    have hz : ((n : Int) == 0) = false := by simp; omega
    have h4 : 1 ≤ n - 1 := by omega
    clear hQ hes hin hle hesc
    have hiv := fun w => isval_a (s.extract 1 (n - 1)) w him
    obtain ⟨vb, hvb⟩ : ∃ vb, vb = valL (s.extract 1 (n - 1)).data.toList := ⟨_, rfl⟩
    rw [← hvb] at hiv
    obtain ⟨T, hT⟩ : ∃ T : ByteArray, T = ⟨(plainL (s.extract 1 (n - 1)).data.toList).toArray⟩ := ⟨_, rfl⟩
    have hpl := fun w => plain_a (s.extract 1 (n - 1)) w hisz HES.out
    rw [← hT] at hpl
    cases vb
    · have HQ := Lib.hid (show qans s.data.toList = ([], 0) by unfold qans; rw [HQ0.out, ← hvb]; rfl)
      clear HQ0 hvb hT
      go_enter Tryz.func221, Tryz.ntmps221
      go_wp2_with (first
        | (go_at_call 224; refine HA.mono ?_; rintro e w' ⟨rfl, rfl⟩)
        | (go_at_call 123; refine (hiv _).mono ?_; rintro e w' ⟨rfl, rfl⟩))
      go_ret2
      exact ⟨by rw [HQ.out]; rfl, Below.refl _ _⟩
    · have HQ := Lib.hid (show qans s.data.toList = (plainL (s.extract 1 (n - 1)).data.toList, n) by unfold qans; rw [HQ0.out, ← hvb]; rfl)
      have HT := Lib.hid hT
      clear HQ0 hvb hT
      go_enter Tryz.func221, Tryz.ntmps221
      go_wp2_with (first
        | (go_at_call 224; refine HA.mono ?_; rintro e w' ⟨rfl, rfl⟩)
        | (go_at_call 123; refine (hiv _).mono ?_; rintro e w' ⟨rfl, rfl⟩)
        | (go_at_call 225; refine (hpl _).mono ?_; rintro e w' ⟨rfl, hb⟩; have HB := Lib.hid hb; clear hb))
      go_ret2
      exact ⟨by rw [HQ.out, HT.out]; rfl, HB.out⟩
end Go.Proofs.YtgkhelbpccehcaaGreatDoor
