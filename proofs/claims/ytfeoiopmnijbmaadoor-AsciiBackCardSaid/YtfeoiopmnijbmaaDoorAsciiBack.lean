/- For every number, ascii.Dec and ascii.HexText write its digits as the document says, and a number below 2^47 and not below 0 is read back by ascii.Num and ascii.Hex: the law returns true. Condition: none of ours; the card ties the listed library tables to the program's text. -/
import Derived.Test.YtfeoiopmnijbmaaDoorCards
import Derived.Test.YtfeoiopmnijbmaaDoorTie
import Derived.Lay
import Derived.LaidOnce
import Derived.MakeChecks
import Derived.SevenTiedAt
import Derived.WalkKit
import Derived.ProofKit
import Derived.OpenShut
import Derived.ShutString
import Derived.ChangeOld
import Derived.Below
import Derived.SizedLaws
import Derived.LaidSub
import Derived.Lib.LaidTab
import Derived.Test.YtfeoiopmnijbmaaDoorKnown
import Derived.Test.YtfeoiopmnijbmaaDoorTextR
namespace Go.Proofs.YtfeoiopmnijbmaaDoor.asciiBack
open Go.ChangeShapes Go.WideShapes Go.ChangeAt Go.RowKit
open Go.ChangeMaps (open_string shut_string)
set_option linter.unusedVariables false

theorem ten_data : (Rows.laid_internal_strconv_uint64pow10 : DataW Unit) = Lib.tabData .u64 Lib.pow10Tab := by kernel_rfl
def debruijn64 : List Int := [0, 1, 56, 2, 57, 49, 28, 3, 61, 58, 42, 50, 38, 29, 17, 4, 62, 47, 59, 36, 45, 43, 51, 22, 53, 39, 33, 30, 24, 18, 12, 5, 63, 55, 48, 27, 60, 41, 37, 16, 46, 35, 44, 21, 52, 32, 23, 11, 54, 26, 40, 15, 34, 20, 31, 10, 25, 14, 19, 9, 13, 8, 7, 6]
theorem tz_data : (Rows.laid_math_bits_deBruijn64tab : DataW Unit) = Lib.tabData .u8 debruijn64 := by kernel_rfl
theorem gTz : Tryd.prog.globalNamed "math/bits.deBruijn64tab" = some 5 := by kernel_rfl
theorem ten_of {W : World} (h : laidMet Tryd.prog Rows.asciiBackRow.laid W) : Ten W := by
  have h1 : laidMet Tryd.prog [("internal/strconv.uint64pow10", Rows.laid_internal_strconv_uint64pow10)] W := h.filter (fun x => x.1 == "internal/strconv.uint64pow10")
  rw [ten_data] at h1
  exact Lib.tabIs_of_head (rest := []) gTen (by kernel_rfl) Tryd.underlying73 Tryd.underlying63 (by kernel_rfl) (by kernel_rfl) h1
theorem tz_of {W : World} (h : laidMet Tryd.prog Rows.asciiBackRow.laid W) : Tz W := by
  have h1 : laidMet Tryd.prog [("math/bits.deBruijn64tab", Rows.laid_math_bits_deBruijn64tab)] W := h.filter (fun x => x.1 == "math/bits.deBruijn64tab")
  rw [tz_data] at h1
  have h2 := Lib.tabIs_of_head (rest := []) gTz (by kernel_rfl) Tryd.underlying86 Tryd.underlying5 (by kernel_rfl) (by kernel_rfl) h1
  exact h2.cell gTz 15 (by decide)

theorem dec_r (n : Int) (hn : n ≤ 9223372036854775807) (w : World) :
    Calls Tryd.prog 17 #[.int .i64 n] w fun e w' => e = .returned (.string (decA 10 n.toNat)) ∧ Below w.heap.size w w' := by
  go_enter Tryd.func17, Tryd.ntmps17
  go_wp2_with fail
  refine (text_r10 n hn _).mono ?_
  rintro e w1 ⟨rfl, hd⟩
  have H1 := Lib.hid hd
  clear hd
  go_wp2
  go_ret
  exact ⟨rfl, H1.out⟩
theorem hex_text_r (n : Int) (hn : n ≤ 9223372036854775807) (w : World) :
    Calls Tryd.prog 18 #[.int .i64 n] w fun e w' => e = .returned (.string (decA 16 n.toNat)) ∧ Below w.heap.size w w' := by
  go_enter Tryd.func18, Tryd.ntmps18
  go_wp2_with fail
  refine (text_r16 n hn _).mono ?_
  rintro e w1 ⟨rfl, hd⟩
  have H1 := Lib.hid hd
  clear hd
  go_wp2
  go_ret
  exact ⟨rfl, H1.out⟩
theorem eq_self (s : ByteArray) : (s.toList == s.toList) = true := by simp
theorem decA_size (b : Nat) (hb : 2 ≤ b) (n : Nat) (h : n < 9223372036854775808) : (decA b n).size ≤ maxLen := by
  have h1 := digs_le b hb 62 n (Nat.lt_of_lt_of_le h (by
    have : 2 ^ 63 ≤ b ^ 63 := Nat.pow_le_pow_left hb 63
    omega))
  have h2 : (decA b n).size = (digs b n).length := rfl
  unfold maxLen; omega
theorem num_back (n : Nat) (h : n < 140737488355328) (w : World) : Calls Tryd.prog 19 #[.string (decA 10 n)] w fun e w' => e = .returned (.tuple #[.int .i64 (n : Int), .bool true]) ∧ w = w' :=
  (num_A _ w (decA_size 10 (by decide) n (by omega))).mono fun e w' ⟨he, hw⟩ => ⟨by
    rw [he]
    show Ending.returned (.tuple #[.int .i64 (numB (10 : Nat) 15 (digs 10 n)).1, .bool (numB (10 : Nat) 15 (digs 10 n)).2]) = _
    rw [numB_digs 10 (by decide) (by decide) 14 n (by omega)], hw⟩
theorem hex_back (n : Nat) (h : n < 140737488355328) (w : World) : Calls Tryd.prog 20 #[.string (decA 16 n)] w fun e w' => e = .returned (.tuple #[.int .i64 (n : Int), .bool true]) ∧ w = w' :=
  (hex_a _ w (decA_size 16 (by decide) n (by omega))).mono fun e w' ⟨he, hw⟩ => ⟨by
    rw [he]
    show Ending.returned (.tuple #[.int .i64 (numB (16 : Nat) 12 (digs 16 n)).1, .bool (numB (16 : Nat) 12 (digs 16 n)).2]) = _
    rw [numB_digs 16 (by decide) (by decide) 11 n (by omega)], hw⟩

set_option maxRecDepth 100000 in
set_option maxHeartbeats 1000000 in
theorem walk0 (n : Int) (h0 : -9223372036854775808 ≤ n) (hn : n ≤ 9223372036854775807) (w : World) (ht : Tz w) (hd : Ten w) :
    Calls Tryd.prog 4 #[.int .i64 n] w fun e w' => e = .returned (.bool true) ∧ Below w.heap.size w w' := by
  have HT := Lib.hid ht
  have HD := Lib.hid hd
  have e1 := eq_self (decA 10 n.toNat)
  have e2 := eq_self (decA 16 n.toNat)
  clear ht hd
  have key : n < 0 ∨ 140737488355328 ≤ n ∨ (0 ≤ n ∧ n ≤ 140737488355327) := by omega
  rcases key with h | h | ⟨h, h2⟩
  case inr.inr =>
    obtain ⟨m, rfl⟩ := Int.eq_ofNat_of_zero_le h
    have HM := Lib.hid (show m < 140737488355328 by omega)
    rw [Int.toNat_natCast] at e1 e2
    go_enter Tryd.func4, Tryd.ntmps4
    go_wp2_with fail
    refine (dec_a _ hn _ HD.out).mono ?_
    rw [Int.toNat_natCast]
    rintro e w1 ⟨rfl, hd⟩
    have H1 := Lib.hid hd
    clear hd
    go_wp2_with fail
    refine (hextext _ hn _ (HT.out.below H1.out)).mono ?_
    rw [Int.toNat_natCast]
    rintro e w2 ⟨rfl, hd⟩
    have H2 := Lib.hid (H1.out.trans (hd.mono H1.out.size))
    clear hd
    go_wp2_with fail
    refine (dec_r _ hn _).mono ?_
    rw [Int.toNat_natCast]
    rintro e w3 ⟨rfl, hd⟩
    have H3 := Lib.hid (H2.out.trans (hd.mono H2.out.size))
    clear hd
    go_wp2_with fail
    refine (hex_text_r _ hn _).mono ?_
    rw [Int.toNat_natCast]
    rintro e w4 ⟨rfl, hd⟩
    have H4 := Lib.hid (H3.out.trans (hd.mono H3.out.size))
    clear hd
    go_wp2_with fail
    refine (num_back m HM.out _).mono ?_
    rintro e w' ⟨rfl, rfl⟩
    go_wp2_with fail
    refine (hex_back m HM.out _).mono ?_
    rintro e w' ⟨rfl, rfl⟩
    go_wp2_with fail
    refine (known_a _).mono ?_
    rintro e w5 ⟨rfl, hd⟩
    have H5 := Lib.hid (H4.out.trans (hd.mono H4.out.size))
    clear hd
    go_wp2
    go_ret
    exact ⟨rfl, H5.out⟩
  all_goals
    go_enter Tryd.func4, Tryd.ntmps4
    go_wp2_with fail
    refine (dec_a _ hn _ HD.out).mono ?_
    rintro e w1 ⟨rfl, hd⟩
    have H1 := Lib.hid hd
    clear hd
    go_wp2_with fail
    refine (hextext _ hn _ (HT.out.below H1.out)).mono ?_
    rintro e w2 ⟨rfl, hd⟩
    have H2 := Lib.hid (H1.out.trans (hd.mono H1.out.size))
    clear hd
    go_wp2_with fail
    refine (dec_r _ hn _).mono ?_
    rintro e w3 ⟨rfl, hd⟩
    have H3 := Lib.hid (H2.out.trans (hd.mono H2.out.size))
    clear hd
    go_wp2_with fail
    refine (hex_text_r _ hn _).mono ?_
    rintro e w4 ⟨rfl, hd⟩
    have H4 := Lib.hid (H3.out.trans (hd.mono H3.out.size))
    clear hd
    go_wp2_with fail
    refine (known_a _).mono ?_
    rintro e w5 ⟨rfl, hd⟩
    have H5 := Lib.hid (H4.out.trans (hd.mono H4.out.size))
    clear hd
    go_wp2
    go_ret
    exact ⟨rfl, H5.out⟩

theorem walk (n : Int) (wf : (Lit.int .i64 n).wf = true) (w : World) (hL : laidMetH Tryd.prog Rows.asciiBackRow.laid w) :
    Calls Tryd.prog 4 #[.int .i64 n] w fun e w' => e = .returned (.bool true) ∧ Below w.heap.size w w' := by
  have hx : -9223372036854775808 ≤ n ∧ n ≤ 9223372036854775807 := by simpa [Lit.wf, IntKind.min, IntKind.max, IntKind.signed, IntKind.bits] using wf
  rw [MakeChecks.laidMetH_plain _ _ _ (by kernel_rfl)] at hL
  exact walk0 n hx.1 hx.2 w (tz_of hL) (ten_of hL)

theorem own : ownKnob Tryd.prog.godebug = none := by kernel_rfl
theorem laidOut : laidOutB Tryd.prog = true := by kernel_rfl
set_option maxRecDepth 100000 in
theorem lifted (os : Os) (started : os.Started) (H : Type) (enc : TypeId × Value → H) :
    ReturnsInHanded {} Tryd.checked os 4 .any (fun w args => (Rows.asciiBackSpec.pre enc Tryd.prog Tryd.f4 [] false w args ∧ laidMetH Tryd.prog Rows.asciiBackRow.laid w) ∧ sizedMet enc Tryd.prog Tryd.f4 (OpenSpec.ofChange Rows.asciiBackSpec) false w args)
      (Rows.asciiBackSpec.post enc Tryd.prog Tryd.f4 false true false false) := by
  refine returnsInHanded_of_change_and (C := Tryd.checked) (X := fun w _ => laidMetH Tryd.prog Rows.asciiBackRow.laid w) (fun _ _ _ hh h => h.of_heap hh) own started (by kernel_rfl) Tryd.func4
    (ChangeSpec.witness_shaped (enc := enc) (C := Tryd.checked) (os := os) (X := fun w _ => laidMetH Tryd.prog Rows.asciiBackRow.laid w) false (World.laidAll Tryd.prog os Rows.asciiBackRow.laid) #[.int .i64 0] 8 (World.laidAll_os _ _ _)
      (World.shaped_of_ZipB (by kernel_rfl) (by kernel_rfl)) (by kernel_rfl) (by kernel_rfl) (by kernel_rfl)
      (by rw [MakeChecks.laidMetH_plain _ _ _ (by kernel_rfl)]; exact laidMet_laidAll _ (by kernel_rfl) (by kernel_rfl))) ?_
  intro W base args ds gs before hval0 hW hcnd hsz0 hL _
  have hsz : (DataW.weightsEach Tryd.prog (Tryd.f4.params.toList ++ Rows.asciiBackSpec.plain.varTypes Tryd.prog) (ds ++ gs)).all (· ≤ reachBytes) = true := hsz0
  have hval : ∀ (j : Nat) t v, Tryd.f4.params[j]? = some t → args[j]? = some v → Value.okWide Tryd.prog W .any base t v := hval0
  have hW' := hW
  obtain ⟨p, q, hA0, hV, rfl, hfz, hnd⟩ := hW
  have hA : DataW.TrodAll enc Tryd.prog W 0 (fun _ => true) true Tryd.f4.params.toList args.toList ds p := hA0
  rw [Tryd.params4] at hA hval hsz
  obtain ⟨v0, vs0, d0, ds0, p0, q0, hargs, rfl, rfl, h0, r0⟩ := trodAll_cons hA
  obtain ⟨rfl, rfl, rfl⟩ := trodAll_nil r0
  obtain rfl : args = #[v0] := by cases args; simp_all
  obtain ⟨rfl, rfl⟩ := trodVars_none hV
  obtain ⟨a0, rfl, rfl, rfl, w0⟩ := open_int Tryd.underlying3 (hval 0 3 v0 rfl rfl) h0
  clear hA0 hval0 hsz0 hsz
  refine (walk a0 w0 W hL).mono fun e W' ⟨he, bel⟩ => ?_
  subst he
  exact ⟨_, rfl, _, _, _, [], _, [], hW', trodAll_mk1 (shut_bool Tryd.underlying4 _), (trodAll_cons_mk (shut_int Tryd.underlying3 w0) trodAll_mk0), rfl, bel.frame _, fun h => by cases h⟩

theorem over : Rows.asciiBackRow.holds Tryd.pinned (OpenSpec.ofChange Rows.asciiBackSpec) :=
  OpenClaim.holds_of_wide 4 Tryd.f4 rfl rfl rfl rfl rfl rfl rfl ⟨rfl, rfl, rfl, rfl, rfl⟩ rfl rfl rfl rfl rfl (by kernel_rfl) Tryd.func4 (by kernel_rfl)
    (of_decide_eq_true (by kernel_rfl)) (by unfold Func.isWrapper; first | (rw [if_pos (by decide +kernel)]; kernel_rfl) | (rw [if_neg (by decide +kernel)]; exact ⟨rfl, rfl⟩))
    (fun os started H enc _ => lifted os started H enc)

theorem said : Rows.AsciiBackSaid := over
theorem plain (f : FuncId) (fn : Func) (hf : Tryd.pinned.checked.prog.funcNamed "usher/usherlaw1.AsciiBack" = some f) (hfn : Tryd.pinned.checked.prog.funcs[f]? = some fn) :
    false = Tryd.pinned.checked.prog.looks [] ∧ ∀ (j : Nat) t, fn.params[j]? = some t → Tryd.pinned.checked.prog.wantsStandIn t = false := by
  obtain rfl : f = 4 := Option.some.inj ((show Tryd.prog.funcNamed "usher/usherlaw1.AsciiBack" = some 4 by kernel_rfl).symm.trans hf) |>.symm
  obtain rfl : fn = Tryd.f4 := (Option.some.inj (Tryd.func4.symm.trans hfn)).symm
  refine ⟨by kernel_rfl, fun j t ht => ?_⟩
  rw [Tryd.params4] at ht
  have hm : t ∈ [3] := by simpa using Array.mem_of_getElem? ht
  simp only [List.mem_cons, List.mem_nil_iff, or_false] at hm
  rcases hm with rfl
  · exact (show Tryd.prog.wantsStandIn 3 = false by kernel_rfl)
theorem proved : Rows.AsciiBackCardSaid :=
  Claim7.holds_tied_plain_at .later [] _ _ _ _ said (fun _ h => by cases h) (by kernel_rfl) (fun _ h => by cases h) asciiBack_row_tie rfl ⟨rfl, rfl⟩ (by kernel_rfl) rfl plain (by kernel_rfl)
end Go.Proofs.YtfeoiopmnijbmaaDoor.asciiBack
