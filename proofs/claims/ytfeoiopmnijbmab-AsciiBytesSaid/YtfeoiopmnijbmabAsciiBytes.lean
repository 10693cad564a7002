/- For every byte, whether it may be in a token and in a value is as the document lists, and a byte of a token is one of a value: the law returns true. Condition: none. -/
import Derived.Test.YtfeoiopmnijbmabRows
import Derived.WalkKit
import Derived.ProofKit
import Derived.OpenShut
import Derived.ShutString
import Derived.ChangeOld
import Derived.Below
import Derived.SizedLaws
import Derived.Test.YtfeoiopmnijbmabKnown
import Derived.Test.YtfeoiopmnijbmabVal
namespace Go.Proofs.Ytfeoiopmnijbmab.asciiBytes
open Go.ChangeShapes Go.WideShapes Go.ChangeAt Go.RowKit
open Go.ChangeMaps (open_string shut_string)
set_option linter.unusedVariables false

def markK (ms : ByteArray) (c : UInt8) (k : Nat) : Bool := (ms.data.toList.take k).any (fun x => x == c)
theorem markK_succ (ms : ByteArray) (c : UInt8) (k : Nat) (h : k < ms.size) : markK ms c (k + 1) = (markK ms c k || (ms[k] == c)) := by
  unfold markK; rw [take_snoc ms k h, List.any_append]; simp
def isAl (c : UInt8) : Bool := (decide (97 ≤ c.toNat) && decide (c.toNat ≤ 122)) || (decide (65 ≤ c.toNat) && decide (c.toNat ≤ 90)) || (decide (48 ≤ c.toNat) && decide (c.toNat ≤ 57))
def oneB (c : UInt8) : ByteArray := ⟨#[c]⟩

theorem back_one (c : UInt8) (w : World) : (convert 25 9 (.slice (some ⟨w.heap.size, 0, none⟩) 1 1)).run Try.prog (w.alloc (.cells #[.int .u8 (c.toNat : Int)] 5)) = .ok (.string (oneB c)) (w.alloc (.cells #[.int .u8 (c.toNat : Int)] 5)) :=
  run_convert_bytes_back (P := Try.prog) (w.alloc (.cells #[.int .u8 (c.toNat : Int)] 5)) 25 9 5 ⟨w.heap.size, 0, none⟩ 1 [c] Try.underlying25 Try.underlying5 Try.underlying9 (fun j hj => by
    have hj0 : j = 0 := by simpa using hj
    subst hj0
    simp [Addr.add])
def msA : ByteArray := ⟨#[33, 35, 36, 37, 38, 39, 42, 43, 45, 46, 94, 95, 124, 126]⟩
theorem one_tok (c : UInt8) : tokL (oneB c).data.toList = tokB c := by simp [tokL, oneB]
theorem one_val (c : UInt8) : valL (oneB c).data.toList = valB c := by simp [valL, oneB]
theorem one_size (c : UInt8) : (oneB c).size ≤ maxLen := by show 1 ≤ maxLen; unfold maxLen; decide
theorem by_toNat (p : UInt8 → Bool) (h : (List.range 256).all (fun n => p (UInt8.ofNat n)) = true) (c : UInt8) : p c = true := by
  have := List.all_eq_true.1 h c.toNat (by rw [List.mem_range]; exact c.toNat_lt)
  rwa [UInt8.ofNat_toNat] at this
theorem mark_eq (c : UInt8) (h : isAl c = false) : tokB c = (markK msA c 14 || (c.toNat == 96)) := by
  have := by_toNat (fun c => isAl c || (tokB c == (markK msA c 14 || (c.toNat == 96)))) (by decide +kernel) c
  simpa [h] using this
theorem mark_al (c : UInt8) (h : isAl c = true) : tokB c = true := by
  have := by_toNat (fun c => !isAl c || tokB c) (by decide +kernel) c
  simpa [h] using this
theorem tok_val (c : UInt8) (h : tokB c = true) : valB c = true := by
  have := by_toNat (fun c => !tokB c || valB c) (by decide +kernel) c
  simpa [h] using this
theorem tok_of (s : ByteArray) (w : World) (hs : s.size ≤ maxLen) (x : Bool) (h : tokL s.data.toList = x) : Calls Try.prog 5 #[.string s] w fun e w' => e = .returned (.bool x) ∧ w = w' :=
  (istok_a s w hs).mono fun e w' ⟨he, hw⟩ => ⟨by rw [he, h], hw⟩
theorem val_of (s : ByteArray) (w : World) (hs : s.size ≤ maxLen) (x : Bool) (h : valL s.data.toList = x) : Calls Try.prog 6 #[.string s] w fun e w' => e = .returned (.bool x) ∧ w = w' :=
  (isval_a s w hs).mono fun e w' ⟨he, hw⟩ => ⟨by rw [he, h], hw⟩
theorem eq_int {x y : UInt8} (h : x = y) : ((x.toNat : Int) == (y.toNat : Int)) = true := by rw [h]; simp

set_option maxRecDepth 10000 in
set_option maxHeartbeats 2000000 in
theorem core0 (c : UInt8) (w : World) (h1 : 0 ≤ (c.toNat : Int)) (h2 : (c.toNat : Int) ≤ 8) :
    Calls Try.prog 4 #[.int .u8 (c.toNat : Int)] w fun e w' => e = .returned (.bool true) ∧ Below w.heap.size w w' := by
  have hback := back_one c w
  have e96 : ((c.toNat : Int) == 96) = false := by simp; omega
  have e9 : ((c.toNat : Int) == 9) = false := by simp; omega
  have e127 : ((c.toNat : Int) != 127) = true := by simp; omega
  have d57 : decide ((c.toNat : Int) ≤ 57) = true := by simp; omega
  have d90 : decide ((c.toNat : Int) ≤ 90) = true := by simp; omega
  have d122 : decide ((c.toNat : Int) ≤ 122) = true := by simp; omega
  have b48 : decide (48 ≤ (c.toNat : Int)) = false := by simp; omega
  have b65 : decide (65 ≤ (c.toNat : Int)) = false := by simp; omega
  have b97 : decide (97 ≤ (c.toNat : Int)) = false := by simp; omega
  have HV := Lib.hid (show valL (oneB c).data.toList = false by rw [one_val]; unfold valB; simp; omega)
  have HT0 := Lib.hid (show tokL (oneB c).data.toList = (markK msA c 14 || (c.toNat == 96)) by rw [one_tok]; exact mark_eq c (by unfold isAl; simp; omega))
  have H96 := Lib.hid (show (c.toNat == 96) = false by simp; omega)
  go_enter Try.func4, Try.ntmps4
  go_wp2
  have hms : (⟨#[33, 35, 36, 37, 38, 39, 42, 43, 45, 46, 94, 95, 124, 126]⟩ : ByteArray) = msA := rfl
  rw [hms]
  have hsz : msA.size = 14 := rfl
  have HZ := Lib.hid hsz
  have hsl : msA.size ≤ 14 := by omega
  have hsg : 14 ≤ msA.size := by omega
  clear hms hsz
  go_loop [5, 7] (fun s i => ∃ (k : Nat) (sg : Bool), k ≤ msA.size ∧ i = .int .i64 k ∧ s = .bool sg ∧ markK msA c k = sg) (fun _ i => msA.size - (intOf i).toNat)
  case atStart => exact ⟨0, false, Nat.zero_le _, rfl, rfl, rfl⟩
  case round =>
    obtain ⟨k, sg, hk, rfl, rfl, hm⟩ := hrel
    have HM := Lib.hid hm
    clear hm
    by_cases hlt : k < msA.size
    · have HS := Lib.hid (markK_succ msA c k hlt)
      cases sg
      · by_cases he : msA[k] = c
        · have e1 := eq_int he
          have HE := Lib.hid he
          clear he
          go_wp2
          go_round
          case rel => exact ⟨k + 1, true, by omega, by go_num, rfl, by rw [HS.out, HM.out, HE.out]; simp⟩
          case measure => simp [intOf]; omega
        · have e1 := (ne_int he).1
          have HE := Lib.hid he
          clear he
          go_wp2
          go_round
          case rel => exact ⟨k + 1, false, by omega, by go_num, rfl, by rw [HS.out, HM.out]; simpa using HE.out⟩
          case measure => simp [intOf]; omega
      · go_wp2
        go_round
        case rel => exact ⟨k + 1, true, by omega, by go_num, rfl, by rw [HS.out, HM.out]; rfl⟩
        case measure => simp [intOf]; omega
    · have hk14 : k = 14 := by have := HZ.out; omega
      have HK := Lib.hid hk14
      clear hk14
      cases sg
      · have HT := Lib.hid (show tokL (oneB c).data.toList = false by rw [HT0.out, ← HK.out, HM.out, H96.out]; rfl)
        go_wp2_with fail
        refine (tok_of _ _ (one_size c) _ HT.out).mono ?_
        rintro e w' ⟨rfl, rfl⟩
        go_wp2_with fail
        refine (val_of _ _ (one_size c) _ HV.out).mono ?_
        rintro e w' ⟨rfl, rfl⟩
        go_wp2_with fail
        refine (tok_of _ _ (one_size c) _ HT.out).mono ?_
        rintro e w' ⟨rfl, rfl⟩
        go_wp2_with fail
        refine (known_a _).mono ?_
        rintro e w1 ⟨rfl, hd⟩
        have H1 := Lib.hid (((Below.refl _ _).alloc (Nat.le_refl _) _).trans (hd.mono (by simp)))
        clear hd
        go_wp2
        go_ret
        exact ⟨rfl, H1.out⟩
      · have HT := Lib.hid (show tokL (oneB c).data.toList = true by rw [HT0.out, ← HK.out, HM.out]; rfl)
        exfalso
        have h3 := tok_val c (by rw [← one_tok]; exact HT.out)
        have h4 := HV.out
        rw [one_val, h3] at h4
        cases h4

set_option maxRecDepth 10000 in
set_option maxHeartbeats 2000000 in
theorem core1 (c : UInt8) (w : World) (h1 : 9 ≤ (c.toNat : Int)) (h2 : (c.toNat : Int) ≤ 9) :
    Calls Try.prog 4 #[.int .u8 (c.toNat : Int)] w fun e w' => e = .returned (.bool true) ∧ Below w.heap.size w w' := by
  have hback := back_one c w
  have e96 : ((c.toNat : Int) == 96) = false := by simp; omega
  have e9 : ((c.toNat : Int) == 9) = true := by simp; omega
  have e127 : ((c.toNat : Int) != 127) = true := by simp; omega
  have d57 : decide ((c.toNat : Int) ≤ 57) = true := by simp; omega
  have d90 : decide ((c.toNat : Int) ≤ 90) = true := by simp; omega
  have d122 : decide ((c.toNat : Int) ≤ 122) = true := by simp; omega
  have b48 : decide (48 ≤ (c.toNat : Int)) = false := by simp; omega
  have b65 : decide (65 ≤ (c.toNat : Int)) = false := by simp; omega
  have b97 : decide (97 ≤ (c.toNat : Int)) = false := by simp; omega
  have HV := Lib.hid (show valL (oneB c).data.toList = true by rw [one_val]; unfold valB; simp; omega)
  have HT0 := Lib.hid (show tokL (oneB c).data.toList = (markK msA c 14 || (c.toNat == 96)) by rw [one_tok]; exact mark_eq c (by unfold isAl; simp; omega))
  have H96 := Lib.hid (show (c.toNat == 96) = false by simp; omega)
  go_enter Try.func4, Try.ntmps4
  go_wp2
  have hms : (⟨#[33, 35, 36, 37, 38, 39, 42, 43, 45, 46, 94, 95, 124, 126]⟩ : ByteArray) = msA := rfl
  rw [hms]
  have hsz : msA.size = 14 := rfl
  have HZ := Lib.hid hsz
  have hsl : msA.size ≤ 14 := by omega
  have hsg : 14 ≤ msA.size := by omega
  clear hms hsz
  go_loop [5, 7] (fun s i => ∃ (k : Nat) (sg : Bool), k ≤ msA.size ∧ i = .int .i64 k ∧ s = .bool sg ∧ markK msA c k = sg) (fun _ i => msA.size - (intOf i).toNat)
  case atStart => exact ⟨0, false, Nat.zero_le _, rfl, rfl, rfl⟩
  case round =>
    obtain ⟨k, sg, hk, rfl, rfl, hm⟩ := hrel
    have HM := Lib.hid hm
    clear hm
    by_cases hlt : k < msA.size
    · have HS := Lib.hid (markK_succ msA c k hlt)
      cases sg
      · by_cases he : msA[k] = c
        · have e1 := eq_int he
          have HE := Lib.hid he
          clear he
          go_wp2
          go_round
          case rel => exact ⟨k + 1, true, by omega, by go_num, rfl, by rw [HS.out, HM.out, HE.out]; simp⟩
          case measure => simp [intOf]; omega
        · have e1 := (ne_int he).1
          have HE := Lib.hid he
          clear he
          go_wp2
          go_round
          case rel => exact ⟨k + 1, false, by omega, by go_num, rfl, by rw [HS.out, HM.out]; simpa using HE.out⟩
          case measure => simp [intOf]; omega
      · go_wp2
        go_round
        case rel => exact ⟨k + 1, true, by omega, by go_num, rfl, by rw [HS.out, HM.out]; rfl⟩
        case measure => simp [intOf]; omega
    · have hk14 : k = 14 := by have := HZ.out; omega
      have HK := Lib.hid hk14
      clear hk14
      cases sg
      · have HT := Lib.hid (show tokL (oneB c).data.toList = false by rw [HT0.out, ← HK.out, HM.out, H96.out]; rfl)
        go_wp2_with fail
        refine (tok_of _ _ (one_size c) _ HT.out).mono ?_
        rintro e w' ⟨rfl, rfl⟩
        go_wp2_with fail
        refine (val_of _ _ (one_size c) _ HV.out).mono ?_
        rintro e w' ⟨rfl, rfl⟩
        go_wp2_with fail
        refine (tok_of _ _ (one_size c) _ HT.out).mono ?_
        rintro e w' ⟨rfl, rfl⟩
        go_wp2_with fail
        refine (known_a _).mono ?_
        rintro e w1 ⟨rfl, hd⟩
        have H1 := Lib.hid (((Below.refl _ _).alloc (Nat.le_refl _) _).trans (hd.mono (by simp)))
        clear hd
        go_wp2
        go_ret
        exact ⟨rfl, H1.out⟩
      · have HT := Lib.hid (show tokL (oneB c).data.toList = true by rw [HT0.out, ← HK.out, HM.out]; rfl)
        go_wp2_with fail
        refine (tok_of _ _ (one_size c) _ HT.out).mono ?_
        rintro e w' ⟨rfl, rfl⟩
        go_wp2_with fail
        refine (val_of _ _ (one_size c) _ HV.out).mono ?_
        rintro e w' ⟨rfl, rfl⟩
        go_wp2_with fail
        refine (tok_of _ _ (one_size c) _ HT.out).mono ?_
        rintro e w' ⟨rfl, rfl⟩
        go_wp2_with fail
        refine (val_of _ _ (one_size c) _ HV.out).mono ?_
        rintro e w' ⟨rfl, rfl⟩
        go_wp2_with fail
        refine (known_a _).mono ?_
        rintro e w1 ⟨rfl, hd⟩
        have H1 := Lib.hid (((Below.refl _ _).alloc (Nat.le_refl _) _).trans (hd.mono (by simp)))
        clear hd
        go_wp2
        go_ret
        exact ⟨rfl, H1.out⟩

set_option maxRecDepth 10000 in
set_option maxHeartbeats 2000000 in
theorem core2 (c : UInt8) (w : World) (h1 : 10 ≤ (c.toNat : Int)) (h2 : (c.toNat : Int) ≤ 31) :
    Calls Try.prog 4 #[.int .u8 (c.toNat : Int)] w fun e w' => e = .returned (.bool true) ∧ Below w.heap.size w w' := by
  have hback := back_one c w
  have e96 : ((c.toNat : Int) == 96) = false := by simp; omega
  have e9 : ((c.toNat : Int) == 9) = false := by simp; omega
  have e127 : ((c.toNat : Int) != 127) = true := by simp; omega
  have d57 : decide ((c.toNat : Int) ≤ 57) = true := by simp; omega
  have d90 : decide ((c.toNat : Int) ≤ 90) = true := by simp; omega
  have d122 : decide ((c.toNat : Int) ≤ 122) = true := by simp; omega
  have b48 : decide (48 ≤ (c.toNat : Int)) = false := by simp; omega
  have b65 : decide (65 ≤ (c.toNat : Int)) = false := by simp; omega
  have b97 : decide (97 ≤ (c.toNat : Int)) = false := by simp; omega
  have HV := Lib.hid (show valL (oneB c).data.toList = false by rw [one_val]; unfold valB; simp; omega)
  have HT0 := Lib.hid (show tokL (oneB c).data.toList = (markK msA c 14 || (c.toNat == 96)) by rw [one_tok]; exact mark_eq c (by unfold isAl; simp; omega))
  have H96 := Lib.hid (show (c.toNat == 96) = false by simp; omega)
  go_enter Try.func4, Try.ntmps4
  go_wp2
  have hms : (⟨#[33, 35, 36, 37, 38, 39, 42, 43, 45, 46, 94, 95, 124, 126]⟩ : ByteArray) = msA := rfl
  rw [hms]
  have hsz : msA.size = 14 := rfl
  have HZ := Lib.hid hsz
  have hsl : msA.size ≤ 14 := by omega
  have hsg : 14 ≤ msA.size := by omega
  clear hms hsz
  go_loop [5, 7] (fun s i => ∃ (k : Nat) (sg : Bool), k ≤ msA.size ∧ i = .int .i64 k ∧ s = .bool sg ∧ markK msA c k = sg) (fun _ i => msA.size - (intOf i).toNat)
  case atStart => exact ⟨0, false, Nat.zero_le _, rfl, rfl, rfl⟩
  case round =>
    obtain ⟨k, sg, hk, rfl, rfl, hm⟩ := hrel
    have HM := Lib.hid hm
    clear hm
    by_cases hlt : k < msA.size
    · have HS := Lib.hid (markK_succ msA c k hlt)
      cases sg
      · by_cases he : msA[k] = c
        · have e1 := eq_int he
          have HE := Lib.hid he
          clear he
          go_wp2
          go_round
          case rel => exact ⟨k + 1, true, by omega, by go_num, rfl, by rw [HS.out, HM.out, HE.out]; simp⟩
          case measure => simp [intOf]; omega
        · have e1 := (ne_int he).1
          have HE := Lib.hid he
          clear he
          go_wp2
          go_round
          case rel => exact ⟨k + 1, false, by omega, by go_num, rfl, by rw [HS.out, HM.out]; simpa using HE.out⟩
          case measure => simp [intOf]; omega
      · go_wp2
        go_round
        case rel => exact ⟨k + 1, true, by omega, by go_num, rfl, by rw [HS.out, HM.out]; rfl⟩
        case measure => simp [intOf]; omega
    · have hk14 : k = 14 := by have := HZ.out; omega
      have HK := Lib.hid hk14
      clear hk14
      cases sg
      · have HT := Lib.hid (show tokL (oneB c).data.toList = false by rw [HT0.out, ← HK.out, HM.out, H96.out]; rfl)
        go_wp2_with fail
        refine (tok_of _ _ (one_size c) _ HT.out).mono ?_
        rintro e w' ⟨rfl, rfl⟩
        go_wp2_with fail
        refine (val_of _ _ (one_size c) _ HV.out).mono ?_
        rintro e w' ⟨rfl, rfl⟩
        go_wp2_with fail
        refine (tok_of _ _ (one_size c) _ HT.out).mono ?_
        rintro e w' ⟨rfl, rfl⟩
        go_wp2_with fail
        refine (known_a _).mono ?_
        rintro e w1 ⟨rfl, hd⟩
        have H1 := Lib.hid (((Below.refl _ _).alloc (Nat.le_refl _) _).trans (hd.mono (by simp)))
        clear hd
        go_wp2
        go_ret
        exact ⟨rfl, H1.out⟩
      · have HT := Lib.hid (show tokL (oneB c).data.toList = true by rw [HT0.out, ← HK.out, HM.out]; rfl)
        exfalso
        have h3 := tok_val c (by rw [← one_tok]; exact HT.out)
        have h4 := HV.out
        rw [one_val, h3] at h4
        cases h4

set_option maxRecDepth 10000 in
set_option maxHeartbeats 2000000 in
theorem core3 (c : UInt8) (w : World) (h1 : 32 ≤ (c.toNat : Int)) (h2 : (c.toNat : Int) ≤ 47) :
    Calls Try.prog 4 #[.int .u8 (c.toNat : Int)] w fun e w' => e = .returned (.bool true) ∧ Below w.heap.size w w' := by
  have hback := back_one c w
  have e96 : ((c.toNat : Int) == 96) = false := by simp; omega
  have e9 : ((c.toNat : Int) == 9) = false := by simp; omega
  have e127 : ((c.toNat : Int) != 127) = true := by simp; omega
  have d57 : decide ((c.toNat : Int) ≤ 57) = true := by simp; omega
  have d90 : decide ((c.toNat : Int) ≤ 90) = true := by simp; omega
  have d122 : decide ((c.toNat : Int) ≤ 122) = true := by simp; omega
  have b48 : decide (48 ≤ (c.toNat : Int)) = false := by simp; omega
  have b65 : decide (65 ≤ (c.toNat : Int)) = false := by simp; omega
  have b97 : decide (97 ≤ (c.toNat : Int)) = false := by simp; omega
  have HV := Lib.hid (show valL (oneB c).data.toList = true by rw [one_val]; unfold valB; simp; omega)
  have HT0 := Lib.hid (show tokL (oneB c).data.toList = (markK msA c 14 || (c.toNat == 96)) by rw [one_tok]; exact mark_eq c (by unfold isAl; simp; omega))
  have H96 := Lib.hid (show (c.toNat == 96) = false by simp; omega)
  go_enter Try.func4, Try.ntmps4
  go_wp2
  have hms : (⟨#[33, 35, 36, 37, 38, 39, 42, 43, 45, 46, 94, 95, 124, 126]⟩ : ByteArray) = msA := rfl
  rw [hms]
  have hsz : msA.size = 14 := rfl
  have HZ := Lib.hid hsz
  have hsl : msA.size ≤ 14 := by omega
  have hsg : 14 ≤ msA.size := by omega
  clear hms hsz
  go_loop [5, 7] (fun s i => ∃ (k : Nat) (sg : Bool), k ≤ msA.size ∧ i = .int .i64 k ∧ s = .bool sg ∧ markK msA c k = sg) (fun _ i => msA.size - (intOf i).toNat)
  case atStart => exact ⟨0, false, Nat.zero_le _, rfl, rfl, rfl⟩
  case round =>
    obtain ⟨k, sg, hk, rfl, rfl, hm⟩ := hrel
    have HM := Lib.hid hm
    clear hm
    by_cases hlt : k < msA.size
    · have HS := Lib.hid (markK_succ msA c k hlt)
      cases sg
      · by_cases he : msA[k] = c
        · have e1 := eq_int he
          have HE := Lib.hid he
          clear he
          go_wp2
          go_round
          case rel => exact ⟨k + 1, true, by omega, by go_num, rfl, by rw [HS.out, HM.out, HE.out]; simp⟩
          case measure => simp [intOf]; omega
        · have e1 := (ne_int he).1
          have HE := Lib.hid he
          clear he
          go_wp2
          go_round
          case rel => exact ⟨k + 1, false, by omega, by go_num, rfl, by rw [HS.out, HM.out]; simpa using HE.out⟩
          case measure => simp [intOf]; omega
      · go_wp2
        go_round
        case rel => exact ⟨k + 1, true, by omega, by go_num, rfl, by rw [HS.out, HM.out]; rfl⟩
        case measure => simp [intOf]; omega
    · have hk14 : k = 14 := by have := HZ.out; omega
      have HK := Lib.hid hk14
      clear hk14
      cases sg
      · have HT := Lib.hid (show tokL (oneB c).data.toList = false by rw [HT0.out, ← HK.out, HM.out, H96.out]; rfl)
        go_wp2_with fail
        refine (tok_of _ _ (one_size c) _ HT.out).mono ?_
        rintro e w' ⟨rfl, rfl⟩
        go_wp2_with fail
        refine (val_of _ _ (one_size c) _ HV.out).mono ?_
        rintro e w' ⟨rfl, rfl⟩
        go_wp2_with fail
        refine (tok_of _ _ (one_size c) _ HT.out).mono ?_
        rintro e w' ⟨rfl, rfl⟩
        go_wp2_with fail
        refine (known_a _).mono ?_
        rintro e w1 ⟨rfl, hd⟩
        have H1 := Lib.hid (((Below.refl _ _).alloc (Nat.le_refl _) _).trans (hd.mono (by simp)))
        clear hd
        go_wp2
        go_ret
        exact ⟨rfl, H1.out⟩
      · have HT := Lib.hid (show tokL (oneB c).data.toList = true by rw [HT0.out, ← HK.out, HM.out]; rfl)
        go_wp2_with fail
        refine (tok_of _ _ (one_size c) _ HT.out).mono ?_
        rintro e w' ⟨rfl, rfl⟩
        go_wp2_with fail
        refine (val_of _ _ (one_size c) _ HV.out).mono ?_
        rintro e w' ⟨rfl, rfl⟩
        go_wp2_with fail
        refine (tok_of _ _ (one_size c) _ HT.out).mono ?_
        rintro e w' ⟨rfl, rfl⟩
        go_wp2_with fail
        refine (val_of _ _ (one_size c) _ HV.out).mono ?_
        rintro e w' ⟨rfl, rfl⟩
        go_wp2_with fail
        refine (known_a _).mono ?_
        rintro e w1 ⟨rfl, hd⟩
        have H1 := Lib.hid (((Below.refl _ _).alloc (Nat.le_refl _) _).trans (hd.mono (by simp)))
        clear hd
        go_wp2
        go_ret
        exact ⟨rfl, H1.out⟩

set_option maxRecDepth 10000 in
set_option maxHeartbeats 2000000 in
theorem core4 (c : UInt8) (w : World) (h1 : 48 ≤ (c.toNat : Int)) (h2 : (c.toNat : Int) ≤ 57) :
    Calls Try.prog 4 #[.int .u8 (c.toNat : Int)] w fun e w' => e = .returned (.bool true) ∧ Below w.heap.size w w' := by
  have hback := back_one c w
  have e96 : ((c.toNat : Int) == 96) = false := by simp; omega
  have e9 : ((c.toNat : Int) == 9) = false := by simp; omega
  have e127 : ((c.toNat : Int) != 127) = true := by simp; omega
  have d57 : decide ((c.toNat : Int) ≤ 57) = true := by simp; omega
  have d90 : decide ((c.toNat : Int) ≤ 90) = true := by simp; omega
  have d122 : decide ((c.toNat : Int) ≤ 122) = true := by simp; omega
  have b48 : decide (48 ≤ (c.toNat : Int)) = true := by simp; omega
  have b65 : decide (65 ≤ (c.toNat : Int)) = false := by simp; omega
  have b97 : decide (97 ≤ (c.toNat : Int)) = false := by simp; omega
  have HV := Lib.hid (show valL (oneB c).data.toList = true by rw [one_val]; unfold valB; simp; omega)
  have HT := Lib.hid (show tokL (oneB c).data.toList = true by rw [one_tok]; exact mark_al c (by unfold isAl; simp; omega))
  go_enter Try.func4, Try.ntmps4
  go_wp2
  have hms : (⟨#[33, 35, 36, 37, 38, 39, 42, 43, 45, 46, 94, 95, 124, 126]⟩ : ByteArray) = msA := rfl
  rw [hms]
  have hsz : msA.size = 14 := rfl
  have HZ := Lib.hid hsz
  have hsl : msA.size ≤ 14 := by omega
  have hsg : 14 ≤ msA.size := by omega
  clear hms hsz
  go_loop [5, 7] (fun s i => ∃ (k : Nat) (sg : Bool), k ≤ msA.size ∧ i = .int .i64 k ∧ s = .bool sg ∧ markK msA c k = sg) (fun _ i => msA.size - (intOf i).toNat)
  case atStart => exact ⟨0, false, Nat.zero_le _, rfl, rfl, rfl⟩
  case round =>
    obtain ⟨k, sg, hk, rfl, rfl, hm⟩ := hrel
    have HM := Lib.hid hm
    clear hm
    by_cases hlt : k < msA.size
    · have HS := Lib.hid (markK_succ msA c k hlt)
      cases sg
      · by_cases he : msA[k] = c
        · have e1 := eq_int he
          have HE := Lib.hid he
          clear he
          go_wp2
          go_round
          case rel => exact ⟨k + 1, true, by omega, by go_num, rfl, by rw [HS.out, HM.out, HE.out]; simp⟩
          case measure => simp [intOf]; omega
        · have e1 := (ne_int he).1
          have HE := Lib.hid he
          clear he
          go_wp2
          go_round
          case rel => exact ⟨k + 1, false, by omega, by go_num, rfl, by rw [HS.out, HM.out]; simpa using HE.out⟩
          case measure => simp [intOf]; omega
      · go_wp2
        go_round
        case rel => exact ⟨k + 1, true, by omega, by go_num, rfl, by rw [HS.out, HM.out]; rfl⟩
        case measure => simp [intOf]; omega
    · have hk14 : k = 14 := by have := HZ.out; omega
      have HK := Lib.hid hk14
      clear hk14
      cases sg
      all_goals
        go_wp2_with fail
        refine (tok_of _ _ (one_size c) _ HT.out).mono ?_
        rintro e w' ⟨rfl, rfl⟩
        go_wp2_with fail
        refine (val_of _ _ (one_size c) _ HV.out).mono ?_
        rintro e w' ⟨rfl, rfl⟩
        go_wp2_with fail
        refine (tok_of _ _ (one_size c) _ HT.out).mono ?_
        rintro e w' ⟨rfl, rfl⟩
        go_wp2_with fail
        refine (val_of _ _ (one_size c) _ HV.out).mono ?_
        rintro e w' ⟨rfl, rfl⟩
        go_wp2_with fail
        refine (known_a _).mono ?_
        rintro e w1 ⟨rfl, hd⟩
        have H1 := Lib.hid (((Below.refl _ _).alloc (Nat.le_refl _) _).trans (hd.mono (by simp)))
        clear hd
        go_wp2
        go_ret
        exact ⟨rfl, H1.out⟩

set_option maxRecDepth 10000 in
set_option maxHeartbeats 2000000 in
theorem core5 (c : UInt8) (w : World) (h1 : 58 ≤ (c.toNat : Int)) (h2 : (c.toNat : Int) ≤ 64) :
    Calls Try.prog 4 #[.int .u8 (c.toNat : Int)] w fun e w' => e = .returned (.bool true) ∧ Below w.heap.size w w' := by
  have hback := back_one c w
  have e96 : ((c.toNat : Int) == 96) = false := by simp; omega
  have e9 : ((c.toNat : Int) == 9) = false := by simp; omega
  have e127 : ((c.toNat : Int) != 127) = true := by simp; omega
  have d57 : decide ((c.toNat : Int) ≤ 57) = false := by simp; omega
  have d90 : decide ((c.toNat : Int) ≤ 90) = true := by simp; omega
  have d122 : decide ((c.toNat : Int) ≤ 122) = true := by simp; omega
  have b48 : decide (48 ≤ (c.toNat : Int)) = true := by simp; omega
  have b65 : decide (65 ≤ (c.toNat : Int)) = false := by simp; omega
  have b97 : decide (97 ≤ (c.toNat : Int)) = false := by simp; omega
  have HV := Lib.hid (show valL (oneB c).data.toList = true by rw [one_val]; unfold valB; simp; omega)
  have HT0 := Lib.hid (show tokL (oneB c).data.toList = (markK msA c 14 || (c.toNat == 96)) by rw [one_tok]; exact mark_eq c (by unfold isAl; simp; omega))
  have H96 := Lib.hid (show (c.toNat == 96) = false by simp; omega)
  go_enter Try.func4, Try.ntmps4
  go_wp2
  have hms : (⟨#[33, 35, 36, 37, 38, 39, 42, 43, 45, 46, 94, 95, 124, 126]⟩ : ByteArray) = msA := rfl
  rw [hms]
  have hsz : msA.size = 14 := rfl
  have HZ := Lib.hid hsz
  have hsl : msA.size ≤ 14 := by omega
  have hsg : 14 ≤ msA.size := by omega
  clear hms hsz
  go_loop [5, 7] (fun s i => ∃ (k : Nat) (sg : Bool), k ≤ msA.size ∧ i = .int .i64 k ∧ s = .bool sg ∧ markK msA c k = sg) (fun _ i => msA.size - (intOf i).toNat)
  case atStart => exact ⟨0, false, Nat.zero_le _, rfl, rfl, rfl⟩
  case round =>
    obtain ⟨k, sg, hk, rfl, rfl, hm⟩ := hrel
    have HM := Lib.hid hm
    clear hm
    by_cases hlt : k < msA.size
    · have HS := Lib.hid (markK_succ msA c k hlt)
      cases sg
      · by_cases he : msA[k] = c
        · have e1 := eq_int he
          have HE := Lib.hid he
          clear he
          go_wp2
          go_round
          case rel => exact ⟨k + 1, true, by omega, by go_num, rfl, by rw [HS.out, HM.out, HE.out]; simp⟩
          case measure => simp [intOf]; omega
        · have e1 := (ne_int he).1
          have HE := Lib.hid he
          clear he
          go_wp2
          go_round
          case rel => exact ⟨k + 1, false, by omega, by go_num, rfl, by rw [HS.out, HM.out]; simpa using HE.out⟩
          case measure => simp [intOf]; omega
      · go_wp2
        go_round
        case rel => exact ⟨k + 1, true, by omega, by go_num, rfl, by rw [HS.out, HM.out]; rfl⟩
        case measure => simp [intOf]; omega
    · have hk14 : k = 14 := by have := HZ.out; omega
      have HK := Lib.hid hk14
      clear hk14
      cases sg
      · have HT := Lib.hid (show tokL (oneB c).data.toList = false by rw [HT0.out, ← HK.out, HM.out, H96.out]; rfl)
        go_wp2_with fail
        refine (tok_of _ _ (one_size c) _ HT.out).mono ?_
        rintro e w' ⟨rfl, rfl⟩
        go_wp2_with fail
        refine (val_of _ _ (one_size c) _ HV.out).mono ?_
        rintro e w' ⟨rfl, rfl⟩
        go_wp2_with fail
        refine (tok_of _ _ (one_size c) _ HT.out).mono ?_
        rintro e w' ⟨rfl, rfl⟩
        go_wp2_with fail
        refine (known_a _).mono ?_
        rintro e w1 ⟨rfl, hd⟩
        have H1 := Lib.hid (((Below.refl _ _).alloc (Nat.le_refl _) _).trans (hd.mono (by simp)))
        clear hd
        go_wp2
        go_ret
        exact ⟨rfl, H1.out⟩
      · have HT := Lib.hid (show tokL (oneB c).data.toList = true by rw [HT0.out, ← HK.out, HM.out]; rfl)
        go_wp2_with fail
        refine (tok_of _ _ (one_size c) _ HT.out).mono ?_
        rintro e w' ⟨rfl, rfl⟩
        go_wp2_with fail
        refine (val_of _ _ (one_size c) _ HV.out).mono ?_
        rintro e w' ⟨rfl, rfl⟩
        go_wp2_with fail
        refine (tok_of _ _ (one_size c) _ HT.out).mono ?_
        rintro e w' ⟨rfl, rfl⟩
        go_wp2_with fail
        refine (val_of _ _ (one_size c) _ HV.out).mono ?_
        rintro e w' ⟨rfl, rfl⟩
        go_wp2_with fail
        refine (known_a _).mono ?_
        rintro e w1 ⟨rfl, hd⟩
        have H1 := Lib.hid (((Below.refl _ _).alloc (Nat.le_refl _) _).trans (hd.mono (by simp)))
        clear hd
        go_wp2
        go_ret
        exact ⟨rfl, H1.out⟩

set_option maxRecDepth 10000 in
set_option maxHeartbeats 2000000 in
theorem core6 (c : UInt8) (w : World) (h1 : 65 ≤ (c.toNat : Int)) (h2 : (c.toNat : Int) ≤ 90) :
    Calls Try.prog 4 #[.int .u8 (c.toNat : Int)] w fun e w' => e = .returned (.bool true) ∧ Below w.heap.size w w' := by
  have hback := back_one c w
  have e96 : ((c.toNat : Int) == 96) = false := by simp; omega
  have e9 : ((c.toNat : Int) == 9) = false := by simp; omega
  have e127 : ((c.toNat : Int) != 127) = true := by simp; omega
  have d57 : decide ((c.toNat : Int) ≤ 57) = false := by simp; omega
  have d90 : decide ((c.toNat : Int) ≤ 90) = true := by simp; omega
  have d122 : decide ((c.toNat : Int) ≤ 122) = true := by simp; omega
  have b48 : decide (48 ≤ (c.toNat : Int)) = true := by simp; omega
  have b65 : decide (65 ≤ (c.toNat : Int)) = true := by simp; omega
  have b97 : decide (97 ≤ (c.toNat : Int)) = false := by simp; omega
  have HV := Lib.hid (show valL (oneB c).data.toList = true by rw [one_val]; unfold valB; simp; omega)
  have HT := Lib.hid (show tokL (oneB c).data.toList = true by rw [one_tok]; exact mark_al c (by unfold isAl; simp; omega))
  go_enter Try.func4, Try.ntmps4
  go_wp2
  have hms : (⟨#[33, 35, 36, 37, 38, 39, 42, 43, 45, 46, 94, 95, 124, 126]⟩ : ByteArray) = msA := rfl
  rw [hms]
  have hsz : msA.size = 14 := rfl
  have HZ := Lib.hid hsz
  have hsl : msA.size ≤ 14 := by omega
  have hsg : 14 ≤ msA.size := by omega
  clear hms hsz
  go_loop [5, 7] (fun s i => ∃ (k : Nat) (sg : Bool), k ≤ msA.size ∧ i = .int .i64 k ∧ s = .bool sg ∧ markK msA c k = sg) (fun _ i => msA.size - (intOf i).toNat)
  case atStart => exact ⟨0, false, Nat.zero_le _, rfl, rfl, rfl⟩
  case round =>
    obtain ⟨k, sg, hk, rfl, rfl, hm⟩ := hrel
    have HM := Lib.hid hm
    clear hm
    by_cases hlt : k < msA.size
    · have HS := Lib.hid (markK_succ msA c k hlt)
      cases sg
      · by_cases he : msA[k] = c
        · have e1 := eq_int he
          have HE := Lib.hid he
          clear he
          go_wp2
          go_round
          case rel => exact ⟨k + 1, true, by omega, by go_num, rfl, by rw [HS.out, HM.out, HE.out]; simp⟩
          case measure => simp [intOf]; omega
        · have e1 := (ne_int he).1
          have HE := Lib.hid he
          clear he
          go_wp2
          go_round
          case rel => exact ⟨k + 1, false, by omega, by go_num, rfl, by rw [HS.out, HM.out]; simpa using HE.out⟩
          case measure => simp [intOf]; omega
      · go_wp2
        go_round
        case rel => exact ⟨k + 1, true, by omega, by go_num, rfl, by rw [HS.out, HM.out]; rfl⟩
        case measure => simp [intOf]; omega
    · have hk14 : k = 14 := by have := HZ.out; omega
      have HK := Lib.hid hk14
      clear hk14
      cases sg
      all_goals
        go_wp2_with fail
        refine (tok_of _ _ (one_size c) _ HT.out).mono ?_
        rintro e w' ⟨rfl, rfl⟩
        go_wp2_with fail
        refine (val_of _ _ (one_size c) _ HV.out).mono ?_
        rintro e w' ⟨rfl, rfl⟩
        go_wp2_with fail
        refine (tok_of _ _ (one_size c) _ HT.out).mono ?_
        rintro e w' ⟨rfl, rfl⟩
        go_wp2_with fail
        refine (val_of _ _ (one_size c) _ HV.out).mono ?_
        rintro e w' ⟨rfl, rfl⟩
        go_wp2_with fail
        refine (known_a _).mono ?_
        rintro e w1 ⟨rfl, hd⟩
        have H1 := Lib.hid (((Below.refl _ _).alloc (Nat.le_refl _) _).trans (hd.mono (by simp)))
        clear hd
        go_wp2
        go_ret
        exact ⟨rfl, H1.out⟩

set_option maxRecDepth 10000 in
set_option maxHeartbeats 2000000 in
theorem core7 (c : UInt8) (w : World) (h1 : 91 ≤ (c.toNat : Int)) (h2 : (c.toNat : Int) ≤ 95) :
    Calls Try.prog 4 #[.int .u8 (c.toNat : Int)] w fun e w' => e = .returned (.bool true) ∧ Below w.heap.size w w' := by
  have hback := back_one c w
  have e96 : ((c.toNat : Int) == 96) = false := by simp; omega
  have e9 : ((c.toNat : Int) == 9) = false := by simp; omega
  have e127 : ((c.toNat : Int) != 127) = true := by simp; omega
  have d57 : decide ((c.toNat : Int) ≤ 57) = false := by simp; omega
  have d90 : decide ((c.toNat : Int) ≤ 90) = false := by simp; omega
  have d122 : decide ((c.toNat : Int) ≤ 122) = true := by simp; omega
  have b48 : decide (48 ≤ (c.toNat : Int)) = true := by simp; omega
  have b65 : decide (65 ≤ (c.toNat : Int)) = true := by simp; omega
  have b97 : decide (97 ≤ (c.toNat : Int)) = false := by simp; omega
  have HV := Lib.hid (show valL (oneB c).data.toList = true by rw [one_val]; unfold valB; simp; omega)
  have HT0 := Lib.hid (show tokL (oneB c).data.toList = (markK msA c 14 || (c.toNat == 96)) by rw [one_tok]; exact mark_eq c (by unfold isAl; simp; omega))
  have H96 := Lib.hid (show (c.toNat == 96) = false by simp; omega)
  go_enter Try.func4, Try.ntmps4
  go_wp2
  have hms : (⟨#[33, 35, 36, 37, 38, 39, 42, 43, 45, 46, 94, 95, 124, 126]⟩ : ByteArray) = msA := rfl
  rw [hms]
  have hsz : msA.size = 14 := rfl
  have HZ := Lib.hid hsz
  have hsl : msA.size ≤ 14 := by omega
  have hsg : 14 ≤ msA.size := by omega
  clear hms hsz
  go_loop [5, 7] (fun s i => ∃ (k : Nat) (sg : Bool), k ≤ msA.size ∧ i = .int .i64 k ∧ s = .bool sg ∧ markK msA c k = sg) (fun _ i => msA.size - (intOf i).toNat)
  case atStart => exact ⟨0, false, Nat.zero_le _, rfl, rfl, rfl⟩
  case round =>
    obtain ⟨k, sg, hk, rfl, rfl, hm⟩ := hrel
    have HM := Lib.hid hm
    clear hm
    by_cases hlt : k < msA.size
    · have HS := Lib.hid (markK_succ msA c k hlt)
      cases sg
      · by_cases he : msA[k] = c
        · have e1 := eq_int he
          have HE := Lib.hid he
          clear he
          go_wp2
          go_round
          case rel => exact ⟨k + 1, true, by omega, by go_num, rfl, by rw [HS.out, HM.out, HE.out]; simp⟩
          case measure => simp [intOf]; omega
        · have e1 := (ne_int he).1
          have HE := Lib.hid he
          clear he
          go_wp2
          go_round
          case rel => exact ⟨k + 1, false, by omega, by go_num, rfl, by rw [HS.out, HM.out]; simpa using HE.out⟩
          case measure => simp [intOf]; omega
      · go_wp2
        go_round
        case rel => exact ⟨k + 1, true, by omega, by go_num, rfl, by rw [HS.out, HM.out]; rfl⟩
        case measure => simp [intOf]; omega
    · have hk14 : k = 14 := by have := HZ.out; omega
      have HK := Lib.hid hk14
      clear hk14
      cases sg
      · have HT := Lib.hid (show tokL (oneB c).data.toList = false by rw [HT0.out, ← HK.out, HM.out, H96.out]; rfl)
        go_wp2_with fail
        refine (tok_of _ _ (one_size c) _ HT.out).mono ?_
        rintro e w' ⟨rfl, rfl⟩
        go_wp2_with fail
        refine (val_of _ _ (one_size c) _ HV.out).mono ?_
        rintro e w' ⟨rfl, rfl⟩
        go_wp2_with fail
        refine (tok_of _ _ (one_size c) _ HT.out).mono ?_
        rintro e w' ⟨rfl, rfl⟩
        go_wp2_with fail
        refine (known_a _).mono ?_
        rintro e w1 ⟨rfl, hd⟩
        have H1 := Lib.hid (((Below.refl _ _).alloc (Nat.le_refl _) _).trans (hd.mono (by simp)))
        clear hd
        go_wp2
        go_ret
        exact ⟨rfl, H1.out⟩
      · have HT := Lib.hid (show tokL (oneB c).data.toList = true by rw [HT0.out, ← HK.out, HM.out]; rfl)
        go_wp2_with fail
        refine (tok_of _ _ (one_size c) _ HT.out).mono ?_
        rintro e w' ⟨rfl, rfl⟩
        go_wp2_with fail
        refine (val_of _ _ (one_size c) _ HV.out).mono ?_
        rintro e w' ⟨rfl, rfl⟩
        go_wp2_with fail
        refine (tok_of _ _ (one_size c) _ HT.out).mono ?_
        rintro e w' ⟨rfl, rfl⟩
        go_wp2_with fail
        refine (val_of _ _ (one_size c) _ HV.out).mono ?_
        rintro e w' ⟨rfl, rfl⟩
        go_wp2_with fail
        refine (known_a _).mono ?_
        rintro e w1 ⟨rfl, hd⟩
        have H1 := Lib.hid (((Below.refl _ _).alloc (Nat.le_refl _) _).trans (hd.mono (by simp)))
        clear hd
        go_wp2
        go_ret
        exact ⟨rfl, H1.out⟩

set_option maxRecDepth 10000 in
set_option maxHeartbeats 2000000 in
theorem core8 (c : UInt8) (w : World) (h1 : 96 ≤ (c.toNat : Int)) (h2 : (c.toNat : Int) ≤ 96) :
    Calls Try.prog 4 #[.int .u8 (c.toNat : Int)] w fun e w' => e = .returned (.bool true) ∧ Below w.heap.size w w' := by
  have hback := back_one c w
  have e96 : ((c.toNat : Int) == 96) = true := by simp; omega
  have e9 : ((c.toNat : Int) == 9) = false := by simp; omega
  have e127 : ((c.toNat : Int) != 127) = true := by simp; omega
  have d57 : decide ((c.toNat : Int) ≤ 57) = false := by simp; omega
  have d90 : decide ((c.toNat : Int) ≤ 90) = false := by simp; omega
  have d122 : decide ((c.toNat : Int) ≤ 122) = true := by simp; omega
  have b48 : decide (48 ≤ (c.toNat : Int)) = true := by simp; omega
  have b65 : decide (65 ≤ (c.toNat : Int)) = true := by simp; omega
  have b97 : decide (97 ≤ (c.toNat : Int)) = false := by simp; omega
  have HV := Lib.hid (show valL (oneB c).data.toList = true by rw [one_val]; unfold valB; simp; omega)
  have HT0 := Lib.hid (show tokL (oneB c).data.toList = (markK msA c 14 || (c.toNat == 96)) by rw [one_tok]; exact mark_eq c (by unfold isAl; simp; omega))
  have H96 := Lib.hid (show (c.toNat == 96) = true by simp; omega)
  go_enter Try.func4, Try.ntmps4
  go_wp2
  have hms : (⟨#[33, 35, 36, 37, 38, 39, 42, 43, 45, 46, 94, 95, 124, 126]⟩ : ByteArray) = msA := rfl
  rw [hms]
  have hsz : msA.size = 14 := rfl
  have HZ := Lib.hid hsz
  have hsl : msA.size ≤ 14 := by omega
  have hsg : 14 ≤ msA.size := by omega
  clear hms hsz
  go_loop [5, 7] (fun s i => ∃ (k : Nat) (sg : Bool), k ≤ msA.size ∧ i = .int .i64 k ∧ s = .bool sg ∧ markK msA c k = sg) (fun _ i => msA.size - (intOf i).toNat)
  case atStart => exact ⟨0, false, Nat.zero_le _, rfl, rfl, rfl⟩
  case round =>
    obtain ⟨k, sg, hk, rfl, rfl, hm⟩ := hrel
    have HM := Lib.hid hm
    clear hm
    by_cases hlt : k < msA.size
    · have HS := Lib.hid (markK_succ msA c k hlt)
      cases sg
      · by_cases he : msA[k] = c
        · have e1 := eq_int he
          have HE := Lib.hid he
          clear he
          go_wp2
          go_round
          case rel => exact ⟨k + 1, true, by omega, by go_num, rfl, by rw [HS.out, HM.out, HE.out]; simp⟩
          case measure => simp [intOf]; omega
        · have e1 := (ne_int he).1
          have HE := Lib.hid he
          clear he
          go_wp2
          go_round
          case rel => exact ⟨k + 1, false, by omega, by go_num, rfl, by rw [HS.out, HM.out]; simpa using HE.out⟩
          case measure => simp [intOf]; omega
      · go_wp2
        go_round
        case rel => exact ⟨k + 1, true, by omega, by go_num, rfl, by rw [HS.out, HM.out]; rfl⟩
        case measure => simp [intOf]; omega
    · have hk14 : k = 14 := by have := HZ.out; omega
      have HK := Lib.hid hk14
      clear hk14
      cases sg
      · have HT := Lib.hid (show tokL (oneB c).data.toList = true by rw [HT0.out, ← HK.out, HM.out, H96.out]; rfl)
        go_wp2_with fail
        refine (tok_of _ _ (one_size c) _ HT.out).mono ?_
        rintro e w' ⟨rfl, rfl⟩
        go_wp2_with fail
        refine (val_of _ _ (one_size c) _ HV.out).mono ?_
        rintro e w' ⟨rfl, rfl⟩
        go_wp2_with fail
        refine (tok_of _ _ (one_size c) _ HT.out).mono ?_
        rintro e w' ⟨rfl, rfl⟩
        go_wp2_with fail
        refine (val_of _ _ (one_size c) _ HV.out).mono ?_
        rintro e w' ⟨rfl, rfl⟩
        go_wp2_with fail
        refine (known_a _).mono ?_
        rintro e w1 ⟨rfl, hd⟩
        have H1 := Lib.hid (((Below.refl _ _).alloc (Nat.le_refl _) _).trans (hd.mono (by simp)))
        clear hd
        go_wp2
        go_ret
        exact ⟨rfl, H1.out⟩
      · have HT := Lib.hid (show tokL (oneB c).data.toList = true by rw [HT0.out, ← HK.out, HM.out]; rfl)
        go_wp2_with fail
        refine (tok_of _ _ (one_size c) _ HT.out).mono ?_
        rintro e w' ⟨rfl, rfl⟩
        go_wp2_with fail
        refine (val_of _ _ (one_size c) _ HV.out).mono ?_
        rintro e w' ⟨rfl, rfl⟩
        go_wp2_with fail
        refine (tok_of _ _ (one_size c) _ HT.out).mono ?_
        rintro e w' ⟨rfl, rfl⟩
        go_wp2_with fail
        refine (val_of _ _ (one_size c) _ HV.out).mono ?_
        rintro e w' ⟨rfl, rfl⟩
        go_wp2_with fail
        refine (known_a _).mono ?_
        rintro e w1 ⟨rfl, hd⟩
        have H1 := Lib.hid (((Below.refl _ _).alloc (Nat.le_refl _) _).trans (hd.mono (by simp)))
        clear hd
        go_wp2
        go_ret
        exact ⟨rfl, H1.out⟩

set_option maxRecDepth 10000 in
set_option maxHeartbeats 2000000 in
theorem core9 (c : UInt8) (w : World) (h1 : 97 ≤ (c.toNat : Int)) (h2 : (c.toNat : Int) ≤ 122) :
    Calls Try.prog 4 #[.int .u8 (c.toNat : Int)] w fun e w' => e = .returned (.bool true) ∧ Below w.heap.size w w' := by
  have hback := back_one c w
  have e96 : ((c.toNat : Int) == 96) = false := by simp; omega
  have e9 : ((c.toNat : Int) == 9) = false := by simp; omega
  have e127 : ((c.toNat : Int) != 127) = true := by simp; omega
  have d57 : decide ((c.toNat : Int) ≤ 57) = false := by simp; omega
  have d90 : decide ((c.toNat : Int) ≤ 90) = false := by simp; omega
  have d122 : decide ((c.toNat : Int) ≤ 122) = true := by simp; omega
  have b48 : decide (48 ≤ (c.toNat : Int)) = true := by simp; omega
  have b65 : decide (65 ≤ (c.toNat : Int)) = true := by simp; omega
  have b97 : decide (97 ≤ (c.toNat : Int)) = true := by simp; omega
  have HV := Lib.hid (show valL (oneB c).data.toList = true by rw [one_val]; unfold valB; simp; omega)
  have HT := Lib.hid (show tokL (oneB c).data.toList = true by rw [one_tok]; exact mark_al c (by unfold isAl; simp; omega))
  go_enter Try.func4, Try.ntmps4
  go_wp2
  have hms : (⟨#[33, 35, 36, 37, 38, 39, 42, 43, 45, 46, 94, 95, 124, 126]⟩ : ByteArray) = msA := rfl
  rw [hms]
  have hsz : msA.size = 14 := rfl
  have HZ := Lib.hid hsz
  have hsl : msA.size ≤ 14 := by omega
  have hsg : 14 ≤ msA.size := by omega
  clear hms hsz
  go_loop [5, 7] (fun s i => ∃ (k : Nat) (sg : Bool), k ≤ msA.size ∧ i = .int .i64 k ∧ s = .bool sg ∧ markK msA c k = sg) (fun _ i => msA.size - (intOf i).toNat)
  case atStart => exact ⟨0, false, Nat.zero_le _, rfl, rfl, rfl⟩
  case round =>
    obtain ⟨k, sg, hk, rfl, rfl, hm⟩ := hrel
    have HM := Lib.hid hm
    clear hm
    by_cases hlt : k < msA.size
    · have HS := Lib.hid (markK_succ msA c k hlt)
      cases sg
      · by_cases he : msA[k] = c
        · have e1 := eq_int he
          have HE := Lib.hid he
          clear he
          go_wp2
          go_round
          case rel => exact ⟨k + 1, true, by omega, by go_num, rfl, by rw [HS.out, HM.out, HE.out]; simp⟩
          case measure => simp [intOf]; omega
        · have e1 := (ne_int he).1
          have HE := Lib.hid he
          clear he
          go_wp2
          go_round
          case rel => exact ⟨k + 1, false, by omega, by go_num, rfl, by rw [HS.out, HM.out]; simpa using HE.out⟩
          case measure => simp [intOf]; omega
      · go_wp2
        go_round
        case rel => exact ⟨k + 1, true, by omega, by go_num, rfl, by rw [HS.out, HM.out]; rfl⟩
        case measure => simp [intOf]; omega
    · have hk14 : k = 14 := by have := HZ.out; omega
      have HK := Lib.hid hk14
      clear hk14
      cases sg
      all_goals
        go_wp2_with fail
        refine (tok_of _ _ (one_size c) _ HT.out).mono ?_
        rintro e w' ⟨rfl, rfl⟩
        go_wp2_with fail
        refine (val_of _ _ (one_size c) _ HV.out).mono ?_
        rintro e w' ⟨rfl, rfl⟩
        go_wp2_with fail
        refine (tok_of _ _ (one_size c) _ HT.out).mono ?_
        rintro e w' ⟨rfl, rfl⟩
        go_wp2_with fail
        refine (val_of _ _ (one_size c) _ HV.out).mono ?_
        rintro e w' ⟨rfl, rfl⟩
        go_wp2_with fail
        refine (known_a _).mono ?_
        rintro e w1 ⟨rfl, hd⟩
        have H1 := Lib.hid (((Below.refl _ _).alloc (Nat.le_refl _) _).trans (hd.mono (by simp)))
        clear hd
        go_wp2
        go_ret
        exact ⟨rfl, H1.out⟩

set_option maxRecDepth 10000 in
set_option maxHeartbeats 2000000 in
theorem core10 (c : UInt8) (w : World) (h1 : 123 ≤ (c.toNat : Int)) (h2 : (c.toNat : Int) ≤ 126) :
    Calls Try.prog 4 #[.int .u8 (c.toNat : Int)] w fun e w' => e = .returned (.bool true) ∧ Below w.heap.size w w' := by
  have hback := back_one c w
  have e96 : ((c.toNat : Int) == 96) = false := by simp; omega
  have e9 : ((c.toNat : Int) == 9) = false := by simp; omega
  have e127 : ((c.toNat : Int) != 127) = true := by simp; omega
  have d57 : decide ((c.toNat : Int) ≤ 57) = false := by simp; omega
  have d90 : decide ((c.toNat : Int) ≤ 90) = false := by simp; omega
  have d122 : decide ((c.toNat : Int) ≤ 122) = false := by simp; omega
  have b48 : decide (48 ≤ (c.toNat : Int)) = true := by simp; omega
  have b65 : decide (65 ≤ (c.toNat : Int)) = true := by simp; omega
  have b97 : decide (97 ≤ (c.toNat : Int)) = true := by simp; omega
  have HV := Lib.hid (show valL (oneB c).data.toList = true by rw [one_val]; unfold valB; simp; omega)
  have HT0 := Lib.hid (show tokL (oneB c).data.toList = (markK msA c 14 || (c.toNat == 96)) by rw [one_tok]; exact mark_eq c (by unfold isAl; simp; omega))
  have H96 := Lib.hid (show (c.toNat == 96) = false by simp; omega)
  go_enter Try.func4, Try.ntmps4
  go_wp2
  have hms : (⟨#[33, 35, 36, 37, 38, 39, 42, 43, 45, 46, 94, 95, 124, 126]⟩ : ByteArray) = msA := rfl
  rw [hms]
  have hsz : msA.size = 14 := rfl
  have HZ := Lib.hid hsz
  have hsl : msA.size ≤ 14 := by omega
  have hsg : 14 ≤ msA.size := by omega
  clear hms hsz
  go_loop [5, 7] (fun s i => ∃ (k : Nat) (sg : Bool), k ≤ msA.size ∧ i = .int .i64 k ∧ s = .bool sg ∧ markK msA c k = sg) (fun _ i => msA.size - (intOf i).toNat)
  case atStart => exact ⟨0, false, Nat.zero_le _, rfl, rfl, rfl⟩
  case round =>
    obtain ⟨k, sg, hk, rfl, rfl, hm⟩ := hrel
    have HM := Lib.hid hm
    clear hm
    by_cases hlt : k < msA.size
    · have HS := Lib.hid (markK_succ msA c k hlt)
      cases sg
      · by_cases he : msA[k] = c
        · have e1 := eq_int he
          have HE := Lib.hid he
          clear he
          go_wp2
          go_round
          case rel => exact ⟨k + 1, true, by omega, by go_num, rfl, by rw [HS.out, HM.out, HE.out]; simp⟩
          case measure => simp [intOf]; omega
        · have e1 := (ne_int he).1
          have HE := Lib.hid he
          clear he
          go_wp2
          go_round
          case rel => exact ⟨k + 1, false, by omega, by go_num, rfl, by rw [HS.out, HM.out]; simpa using HE.out⟩
          case measure => simp [intOf]; omega
      · go_wp2
        go_round
        case rel => exact ⟨k + 1, true, by omega, by go_num, rfl, by rw [HS.out, HM.out]; rfl⟩
        case measure => simp [intOf]; omega
    · have hk14 : k = 14 := by have := HZ.out; omega
      have HK := Lib.hid hk14
      clear hk14
      cases sg
      · have HT := Lib.hid (show tokL (oneB c).data.toList = false by rw [HT0.out, ← HK.out, HM.out, H96.out]; rfl)
        go_wp2_with fail
        refine (tok_of _ _ (one_size c) _ HT.out).mono ?_
        rintro e w' ⟨rfl, rfl⟩
        go_wp2_with fail
        refine (val_of _ _ (one_size c) _ HV.out).mono ?_
        rintro e w' ⟨rfl, rfl⟩
        go_wp2_with fail
        refine (tok_of _ _ (one_size c) _ HT.out).mono ?_
        rintro e w' ⟨rfl, rfl⟩
        go_wp2_with fail
        refine (known_a _).mono ?_
        rintro e w1 ⟨rfl, hd⟩
        have H1 := Lib.hid (((Below.refl _ _).alloc (Nat.le_refl _) _).trans (hd.mono (by simp)))
        clear hd
        go_wp2
        go_ret
        exact ⟨rfl, H1.out⟩
      · have HT := Lib.hid (show tokL (oneB c).data.toList = true by rw [HT0.out, ← HK.out, HM.out]; rfl)
        go_wp2_with fail
        refine (tok_of _ _ (one_size c) _ HT.out).mono ?_
        rintro e w' ⟨rfl, rfl⟩
        go_wp2_with fail
        refine (val_of _ _ (one_size c) _ HV.out).mono ?_
        rintro e w' ⟨rfl, rfl⟩
        go_wp2_with fail
        refine (tok_of _ _ (one_size c) _ HT.out).mono ?_
        rintro e w' ⟨rfl, rfl⟩
        go_wp2_with fail
        refine (val_of _ _ (one_size c) _ HV.out).mono ?_
        rintro e w' ⟨rfl, rfl⟩
        go_wp2_with fail
        refine (known_a _).mono ?_
        rintro e w1 ⟨rfl, hd⟩
        have H1 := Lib.hid (((Below.refl _ _).alloc (Nat.le_refl _) _).trans (hd.mono (by simp)))
        clear hd
        go_wp2
        go_ret
        exact ⟨rfl, H1.out⟩

set_option maxRecDepth 10000 in
set_option maxHeartbeats 2000000 in
theorem core11 (c : UInt8) (w : World) (h1 : 127 ≤ (c.toNat : Int)) (h2 : (c.toNat : Int) ≤ 127) :
    Calls Try.prog 4 #[.int .u8 (c.toNat : Int)] w fun e w' => e = .returned (.bool true) ∧ Below w.heap.size w w' := by
  have hback := back_one c w
  have e96 : ((c.toNat : Int) == 96) = false := by simp; omega
  have e9 : ((c.toNat : Int) == 9) = false := by simp; omega
  have e127 : ((c.toNat : Int) != 127) = false := by simp; omega
  have d57 : decide ((c.toNat : Int) ≤ 57) = false := by simp; omega
  have d90 : decide ((c.toNat : Int) ≤ 90) = false := by simp; omega
  have d122 : decide ((c.toNat : Int) ≤ 122) = false := by simp; omega
  have b48 : decide (48 ≤ (c.toNat : Int)) = true := by simp; omega
  have b65 : decide (65 ≤ (c.toNat : Int)) = true := by simp; omega
  have b97 : decide (97 ≤ (c.toNat : Int)) = true := by simp; omega
  have HV := Lib.hid (show valL (oneB c).data.toList = false by rw [one_val]; unfold valB; simp; omega)
  have HT0 := Lib.hid (show tokL (oneB c).data.toList = (markK msA c 14 || (c.toNat == 96)) by rw [one_tok]; exact mark_eq c (by unfold isAl; simp; omega))
  have H96 := Lib.hid (show (c.toNat == 96) = false by simp; omega)
  go_enter Try.func4, Try.ntmps4
  go_wp2
  have hms : (⟨#[33, 35, 36, 37, 38, 39, 42, 43, 45, 46, 94, 95, 124, 126]⟩ : ByteArray) = msA := rfl
  rw [hms]
  have hsz : msA.size = 14 := rfl
  have HZ := Lib.hid hsz
  have hsl : msA.size ≤ 14 := by omega
  have hsg : 14 ≤ msA.size := by omega
  clear hms hsz
  go_loop [5, 7] (fun s i => ∃ (k : Nat) (sg : Bool), k ≤ msA.size ∧ i = .int .i64 k ∧ s = .bool sg ∧ markK msA c k = sg) (fun _ i => msA.size - (intOf i).toNat)
  case atStart => exact ⟨0, false, Nat.zero_le _, rfl, rfl, rfl⟩
  case round =>
    obtain ⟨k, sg, hk, rfl, rfl, hm⟩ := hrel
    have HM := Lib.hid hm
    clear hm
    by_cases hlt : k < msA.size
    · have HS := Lib.hid (markK_succ msA c k hlt)
      cases sg
      · by_cases he : msA[k] = c
        · have e1 := eq_int he
          have HE := Lib.hid he
          clear he
          go_wp2
          go_round
          case rel => exact ⟨k + 1, true, by omega, by go_num, rfl, by rw [HS.out, HM.out, HE.out]; simp⟩
          case measure => simp [intOf]; omega
        · have e1 := (ne_int he).1
          have HE := Lib.hid he
          clear he
          go_wp2
          go_round
          case rel => exact ⟨k + 1, false, by omega, by go_num, rfl, by rw [HS.out, HM.out]; simpa using HE.out⟩
          case measure => simp [intOf]; omega
      · go_wp2
        go_round
        case rel => exact ⟨k + 1, true, by omega, by go_num, rfl, by rw [HS.out, HM.out]; rfl⟩
        case measure => simp [intOf]; omega
    · have hk14 : k = 14 := by have := HZ.out; omega
      have HK := Lib.hid hk14
      clear hk14
      cases sg
      · have HT := Lib.hid (show tokL (oneB c).data.toList = false by rw [HT0.out, ← HK.out, HM.out, H96.out]; rfl)
        go_wp2_with fail
        refine (tok_of _ _ (one_size c) _ HT.out).mono ?_
        rintro e w' ⟨rfl, rfl⟩
        go_wp2_with fail
        refine (val_of _ _ (one_size c) _ HV.out).mono ?_
        rintro e w' ⟨rfl, rfl⟩
        go_wp2_with fail
        refine (tok_of _ _ (one_size c) _ HT.out).mono ?_
        rintro e w' ⟨rfl, rfl⟩
        go_wp2_with fail
        refine (known_a _).mono ?_
        rintro e w1 ⟨rfl, hd⟩
        have H1 := Lib.hid (((Below.refl _ _).alloc (Nat.le_refl _) _).trans (hd.mono (by simp)))
        clear hd
        go_wp2
        go_ret
        exact ⟨rfl, H1.out⟩
      · have HT := Lib.hid (show tokL (oneB c).data.toList = true by rw [HT0.out, ← HK.out, HM.out]; rfl)
        exfalso
        have h3 := tok_val c (by rw [← one_tok]; exact HT.out)
        have h4 := HV.out
        rw [one_val, h3] at h4
        cases h4

set_option maxRecDepth 10000 in
set_option maxHeartbeats 2000000 in
theorem core12 (c : UInt8) (w : World) (h1 : 128 ≤ (c.toNat : Int)) (h2 : (c.toNat : Int) ≤ 255) :
    Calls Try.prog 4 #[.int .u8 (c.toNat : Int)] w fun e w' => e = .returned (.bool true) ∧ Below w.heap.size w w' := by
  have hback := back_one c w
  have e96 : ((c.toNat : Int) == 96) = false := by simp; omega
  have e9 : ((c.toNat : Int) == 9) = false := by simp; omega
  have e127 : ((c.toNat : Int) != 127) = true := by simp; omega
  have d57 : decide ((c.toNat : Int) ≤ 57) = false := by simp; omega
  have d90 : decide ((c.toNat : Int) ≤ 90) = false := by simp; omega
  have d122 : decide ((c.toNat : Int) ≤ 122) = false := by simp; omega
  have b48 : decide (48 ≤ (c.toNat : Int)) = true := by simp; omega
  have b65 : decide (65 ≤ (c.toNat : Int)) = true := by simp; omega
  have b97 : decide (97 ≤ (c.toNat : Int)) = true := by simp; omega
  have HV := Lib.hid (show valL (oneB c).data.toList = true by rw [one_val]; unfold valB; simp; omega)
  have HT0 := Lib.hid (show tokL (oneB c).data.toList = (markK msA c 14 || (c.toNat == 96)) by rw [one_tok]; exact mark_eq c (by unfold isAl; simp; omega))
  have H96 := Lib.hid (show (c.toNat == 96) = false by simp; omega)
  go_enter Try.func4, Try.ntmps4
  go_wp2
  have hms : (⟨#[33, 35, 36, 37, 38, 39, 42, 43, 45, 46, 94, 95, 124, 126]⟩ : ByteArray) = msA := rfl
  rw [hms]
  have hsz : msA.size = 14 := rfl
  have HZ := Lib.hid hsz
  have hsl : msA.size ≤ 14 := by omega
  have hsg : 14 ≤ msA.size := by omega
  clear hms hsz
  go_loop [5, 7] (fun s i => ∃ (k : Nat) (sg : Bool), k ≤ msA.size ∧ i = .int .i64 k ∧ s = .bool sg ∧ markK msA c k = sg) (fun _ i => msA.size - (intOf i).toNat)
  case atStart => exact ⟨0, false, Nat.zero_le _, rfl, rfl, rfl⟩
  case round =>
    obtain ⟨k, sg, hk, rfl, rfl, hm⟩ := hrel
    have HM := Lib.hid hm
    clear hm
    by_cases hlt : k < msA.size
    · have HS := Lib.hid (markK_succ msA c k hlt)
      cases sg
      · by_cases he : msA[k] = c
        · have e1 := eq_int he
          have HE := Lib.hid he
          clear he
          go_wp2
          go_round
          case rel => exact ⟨k + 1, true, by omega, by go_num, rfl, by rw [HS.out, HM.out, HE.out]; simp⟩
          case measure => simp [intOf]; omega
        · have e1 := (ne_int he).1
          have HE := Lib.hid he
          clear he
          go_wp2
          go_round
          case rel => exact ⟨k + 1, false, by omega, by go_num, rfl, by rw [HS.out, HM.out]; simpa using HE.out⟩
          case measure => simp [intOf]; omega
      · go_wp2
        go_round
        case rel => exact ⟨k + 1, true, by omega, by go_num, rfl, by rw [HS.out, HM.out]; rfl⟩
        case measure => simp [intOf]; omega
    · have hk14 : k = 14 := by have := HZ.out; omega
      have HK := Lib.hid hk14
      clear hk14
      cases sg
      · have HT := Lib.hid (show tokL (oneB c).data.toList = false by rw [HT0.out, ← HK.out, HM.out, H96.out]; rfl)
        go_wp2_with fail
        refine (tok_of _ _ (one_size c) _ HT.out).mono ?_
        rintro e w' ⟨rfl, rfl⟩
        go_wp2_with fail
        refine (val_of _ _ (one_size c) _ HV.out).mono ?_
        rintro e w' ⟨rfl, rfl⟩
        go_wp2_with fail
        refine (tok_of _ _ (one_size c) _ HT.out).mono ?_
        rintro e w' ⟨rfl, rfl⟩
        go_wp2_with fail
        refine (known_a _).mono ?_
        rintro e w1 ⟨rfl, hd⟩
        have H1 := Lib.hid (((Below.refl _ _).alloc (Nat.le_refl _) _).trans (hd.mono (by simp)))
        clear hd
        go_wp2
        go_ret
        exact ⟨rfl, H1.out⟩
      · have HT := Lib.hid (show tokL (oneB c).data.toList = true by rw [HT0.out, ← HK.out, HM.out]; rfl)
        go_wp2_with fail
        refine (tok_of _ _ (one_size c) _ HT.out).mono ?_
        rintro e w' ⟨rfl, rfl⟩
        go_wp2_with fail
        refine (val_of _ _ (one_size c) _ HV.out).mono ?_
        rintro e w' ⟨rfl, rfl⟩
        go_wp2_with fail
        refine (tok_of _ _ (one_size c) _ HT.out).mono ?_
        rintro e w' ⟨rfl, rfl⟩
        go_wp2_with fail
        refine (val_of _ _ (one_size c) _ HV.out).mono ?_
        rintro e w' ⟨rfl, rfl⟩
        go_wp2_with fail
        refine (known_a _).mono ?_
        rintro e w1 ⟨rfl, hd⟩
        have H1 := Lib.hid (((Below.refl _ _).alloc (Nat.le_refl _) _).trans (hd.mono (by simp)))
        clear hd
        go_wp2
        go_ret
        exact ⟨rfl, H1.out⟩

theorem core (c : UInt8) (w : World) :
    Calls Try.prog 4 #[.int .u8 (c.toNat : Int)] w fun e w' => e = .returned (.bool true) ∧ Below w.heap.size w w' := by
  have hb : (c.toNat : Int) < 256 := by have := c.toNat_lt; omega
  have h0 : (0 : Int) ≤ (c.toNat : Int) := by omega
  by_cases h1 : (c.toNat : Int) ≤ 8
  · exact core0 c w (by omega) h1
  by_cases h2 : (c.toNat : Int) ≤ 9
  · exact core1 c w (by omega) h2
  by_cases h3 : (c.toNat : Int) ≤ 31
  · exact core2 c w (by omega) h3
  by_cases h4 : (c.toNat : Int) ≤ 47
  · exact core3 c w (by omega) h4
  by_cases h5 : (c.toNat : Int) ≤ 57
  · exact core4 c w (by omega) h5
  by_cases h6 : (c.toNat : Int) ≤ 64
  · exact core5 c w (by omega) h6
  by_cases h7 : (c.toNat : Int) ≤ 90
  · exact core6 c w (by omega) h7
  by_cases h8 : (c.toNat : Int) ≤ 95
  · exact core7 c w (by omega) h8
  by_cases h9 : (c.toNat : Int) ≤ 96
  · exact core8 c w (by omega) h9
  by_cases h10 : (c.toNat : Int) ≤ 122
  · exact core9 c w (by omega) h10
  by_cases h11 : (c.toNat : Int) ≤ 126
  · exact core10 c w (by omega) h11
  by_cases h12 : (c.toNat : Int) ≤ 127
  · exact core11 c w (by omega) h12
  exact core12 c w (by omega) (by omega)

theorem walk (a : Int) (wf : (Lit.int .u8 a).wf = true) (w : World) :
    Calls Try.prog 4 #[.int .u8 a] w fun e w' => e = .returned (.bool true) ∧ Below w.heap.size w w' := by
  have hx : 0 ≤ a ∧ a ≤ 255 := by simpa [Lit.wf, IntKind.min, IntKind.max, IntKind.signed, IntKind.bits] using wf
  have h := core (UInt8.ofNat a.toNat) w
  rw [show ((UInt8.ofNat a.toNat).toNat : Int) = a by rw [UInt8.toNat_ofNat']; omega] at h
  exact h

theorem own : ownKnob Try.prog.godebug = none := by kernel_rfl
theorem laidOut : laidOutB Try.prog = true := by kernel_rfl
set_option maxRecDepth 100000 in
theorem lifted (os : Os) (started : os.Started) (H : Type) (enc : TypeId × Value → H) :
    ReturnsInHanded {} Try.checked os 4 .any (Rows.asciiBytesSpec.pre6 enc Try.prog Try.f4 Rows.asciiBytesRow.domain false) (Rows.asciiBytesSpec.post enc Try.prog Try.f4 false true false false) := by
  refine returnsInHanded_of_change_sized (C := Try.checked) own started (by kernel_rfl) Try.func4
    (ChangeSpec.witness6 (enc := enc) (C := Try.checked) false ⟨#[], #[.int .u8 0], []⟩ 8 (by kernel_rfl) (by kernel_rfl) (by kernel_rfl) (by kernel_rfl)) ?_
  intro W base args ds gs before hval0 hW hcnd hsz0 _
  have hsz : (DataW.weightsEach Try.prog (Try.f4.params.toList ++ Rows.asciiBytesSpec.plain.varTypes Try.prog) (ds ++ gs)).all (· ≤ reachBytes) = true := hsz0
  have hval : ∀ (j : Nat) t v, Try.f4.params[j]? = some t → args[j]? = some v → Value.okWide Try.prog W .any base t v := hval0
  have hW' := hW
  obtain ⟨p, q, hA0, hV, rfl, hfz, hnd⟩ := hW
  have hA : DataW.TrodAll enc Try.prog W 0 (fun _ => true) true Try.f4.params.toList args.toList ds p := hA0
  rw [Try.params4] at hA hval hsz
  obtain ⟨v0, vs0, d0, ds0, p0, q0, hargs, rfl, rfl, h0, r0⟩ := trodAll_cons hA
  obtain ⟨rfl, rfl, rfl⟩ := trodAll_nil r0
  obtain rfl : args = #[v0] := by cases args; simp_all
  obtain ⟨rfl, rfl⟩ := trodVars_none hV
  obtain ⟨a0, rfl, rfl, rfl, w0⟩ := open_int Try.underlying5 (hval 0 5 v0 rfl rfl) h0
  clear hA0 hval0 hsz0 hsz
  refine (walk a0 w0 W).mono fun e W' ⟨he, bel⟩ => ?_
  subst he
  exact ⟨_, rfl, _, _, _, [], _, [], hW', trodAll_mk1 (shut_bool Try.underlying4 _), (trodAll_cons_mk (shut_int Try.underlying5 w0) trodAll_mk0), rfl, bel.frame _, fun h => by cases h⟩

theorem over : Rows.asciiBytesRow.holds Try.pinned (OpenSpec.ofChange Rows.asciiBytesSpec) :=
  OpenClaim.holds_of_wide 4 Try.f4 rfl rfl rfl rfl rfl rfl rfl ⟨rfl, rfl, rfl, rfl, rfl⟩ rfl rfl rfl rfl rfl (by kernel_rfl) Try.func4 (by kernel_rfl)
    (of_decide_eq_true (by kernel_rfl)) (by unfold Func.isWrapper; first | (rw [if_pos (by decide +kernel)]; kernel_rfl) | (rw [if_neg (by decide +kernel)]; exact ⟨rfl, rfl⟩))
    (fun os started H enc _ => lifted os started H enc)

theorem proved : Rows.AsciiBytesSaid := over
end Go.Proofs.Ytfeoiopmnijbmab.asciiBytes
