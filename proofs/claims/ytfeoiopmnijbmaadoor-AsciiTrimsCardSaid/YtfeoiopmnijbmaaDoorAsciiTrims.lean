/- For every text, with up to seven blanks laid about it, ascii.Trim answers the text without blanks about it, which has none at its ends: the law returns true. Condition: none of ours; the card ties the listed library tables to the program's text. -/
import Derived.Test.YtfeoiopmnijbmaaDoorCards
import Derived.Test.YtfeoiopmnijbmaaDoorTie
import Derived.Lay
import Derived.LaidOnce
import Derived.MakeChecks
import Derived.SevenTiedAt
import Derived.WalkKit
import Derived.ProofKit
import Derived.OpenShut
import Derived.ShutString
import Derived.ChangeOld
import Derived.Below
import Derived.SizedLaws
import Derived.Test.YtfeoiopmnijbmaaDoorKnown
import Derived.Test.YtfeoiopmnijbmaaDoorTrim
namespace Go.Proofs.YtfeoiopmnijbmaaDoor.asciiTrims
open Go.ChangeShapes Go.WideShapes Go.ChangeAt Go.RowKit
open Go.ChangeMaps (open_string shut_string)
set_option linter.unusedVariables false

theorem and7 (a : Int) : 0 ≤ bits BinOp.and IntKind.i64 a 7 ∧ bits BinOp.and IntKind.i64 a 7 ≤ 7 := by
  have h : (BitVec.ofInt 64 a &&& BitVec.ofInt 64 7).toNat ≤ 7 := by
    rw [BitVec.toNat_and]; exact Nat.and_le_right
  have e : bits BinOp.and IntKind.i64 a 7 = IntKind.i64.wrap ((BitVec.ofInt 64 a &&& BitVec.ofInt 64 7).toNat : Int) := rfl
  rw [e, IntKind.wrap_i64]
  omega
def spA (n : Nat) : ByteArray := ⟨Array.replicate n 32⟩
def tbA (n : Nat) : ByteArray := ⟨Array.replicate n 9⟩
theorem sp_succ (n : Nat) : spA n ++ ⟨#[32]⟩ = spA (n + 1) := by
  apply bytes_inj; simp [spA, ByteArray.data_append, List.replicate_succ']
theorem tb_succ (n : Nat) : tbA n ++ ⟨#[9]⟩ = tbA (n + 1) := by
  apply bytes_inj; simp [tbA, ByteArray.data_append, List.replicate_succ']
theorem sp_size (n : Nat) : (spA n).size = n := by show (Array.replicate n (32 : UInt8)).size = n; simp
theorem tb_size (n : Nat) : (tbA n).size = n := by show (Array.replicate n (9 : UInt8)).size = n; simp
theorem append_list (a b : ByteArray) : (a ++ b).data.toList = a.data.toList ++ b.data.toList := by simp [ByteArray.data_append]
theorem append_size (a b : ByteArray) : (a ++ b).size = a.size + b.size := by
  have := congrArg List.length (append_list a b)
  rw [List.length_append] at this; exact this
theorem tl_sp (n : Nat) (l : List UInt8) : tlL (List.replicate n 32 ++ l) = tlL l := by
  induction n with
  | zero => rfl
  | succ n ih => rw [List.replicate_succ, List.cons_append, tl_cons_yes (by decide), ih]
theorem tr_tb (n : Nat) (l : List UInt8) : trL (l ++ List.replicate n 9) = trL l := by
  induction n with
  | zero => simp
  | succ n ih => rw [List.replicate_succ', ← List.append_assoc, trL_snoc_yes _ _ (by decide), ih]
theorem trim_about (s : ByteArray) (k m : Nat) : trimA (spA k ++ s ++ tbA m) = trimA s := by
  apply bytes_inj
  show trimL (spA k ++ s ++ tbA m).data.toList = trimL s.data.toList
  rw [append_list, append_list, trimL_eq, trimL_eq]
  have e1 : (spA k).data.toList = List.replicate k 32 := by simp [spA]
  have e2 : (tbA m).data.toList = List.replicate m 9 := by simp [tbA]
  rw [e1, e2, List.append_assoc, tl_sp, ← tl_tr, tr_tb, tl_tr]
theorem tl_tl (l : List UInt8) : tlL (tlL l) = tlL l := by
  induction l with
  | nil => rfl
  | cons c r ih =>
    cases h : blk c
    · rw [tl_cons_no h, tl_cons_no h]
    · rw [tl_cons_yes h, ih]
theorem tr_tr (l : List UInt8) : trL (trL l) = trL l := by
  have h := tl_tl l.reverse
  unfold trL
  rw [List.reverse_reverse]
  unfold tlL at h
  rw [h]
theorem trim_trim (s : ByteArray) : trimA (trimA s) = trimA s := by
  apply bytes_inj
  show trimL (trimL s.data.toList) = trimL s.data.toList
  rw [trimL_eq s.data.toList, trimL_eq, tl_tr, tl_tl, tr_tr]
theorem tl_trim (s : ByteArray) : tlL (trimA s).data.toList = (trimA s).data.toList := by
  show tlL (trimL s.data.toList) = trimL s.data.toList
  rw [trimL_eq, tl_tr, tl_tl]
theorem tr_trim (s : ByteArray) : trL (trimA s).data.toList = (trimA s).data.toList := by
  show trL (trimL s.data.toList) = trimL s.data.toList
  rw [trimL_eq, tr_tr]
theorem head_ok (s : ByteArray) (h : 0 < (trimA s).size) : blk (trimA s)[0] = false := by
  cases hb : blk (trimA s)[0]
  · rfl
  · have h1 := tl_trim s
    rw [list_head _ h, tl_cons_yes hb] at h1
    have h2 := congrArg List.length h1
    have h3 : (tlL ((trimA s).data.toList.drop 1)).length ≤ ((trimA s).data.toList.drop 1).length := tlL_le _
    rw [List.length_cons] at h2
    omega
theorem last_ok (s : ByteArray) (h : 0 < (trimA s).size) : blk ((trimA s)[(trimA s).size - 1]'(by omega)) = false := by
  cases hb : blk ((trimA s)[(trimA s).size - 1]'(by omega))
  · rfl
  · have h1 := tr_step h hb
    rw [tr_trim] at h1
    have h2 := congrArg List.length h1
    have h3 := trL_le ((trimA s).extract 0 ((trimA s).size - 1)).data.toList
    have h4 : ((trimA s).extract 0 ((trimA s).size - 1)).data.toList.length = (trimA s).size - 1 := init_size _ h
    have h5 : (trimA s).data.toList.length = (trimA s).size := rfl
    omega
theorem ne_blk {c : UInt8} (h : blk c = false) : ((c.toNat : Int) != 9) = true ∧ ((c.toNat : Int) != 32) = true := by
  constructor
  · cases h1 : ((c.toNat : Int) == 9)
    · simp [bne, h1]
    · rw [blk_9 h1] at h; cases h
  · cases h1 : ((c.toNat : Int) == 32)
    · simp [bne, h1]
    · rw [blk_32 h1] at h; cases h
theorem eq_self (s : ByteArray) : (s.toList == s.toList) = true := by simp

set_option maxRecDepth 10000 in
set_option maxHeartbeats 2000000 in
theorem walk (s : ByteArray) (hs : s.size ≤ 140737488351232) (a : Int) (wa : (Lit.int .i64 a).wf = true) (b : Int) (wb : (Lit.int .i64 b).wf = true) (w : World) :
    Calls Tryd.prog 5 #[.string s, .int .i64 a, .int .i64 b] w fun e w' => e = .returned (.bool true) ∧ Below w.heap.size w w' := by
  clear wa wb
  by_cases hl : s.size ≤ 2000
  · obtain ⟨a0, a7⟩ := and7 a
    obtain ⟨b0, b7⟩ := and7 b
    go_enter Tryd.func5, Tryd.ntmps5
    go_wp2_with fail
    refine (trim_a _ _ hs).mono ?_
    rintro e w1 ⟨rfl, hd⟩
    have H1 := Lib.hid hd
    clear hd
    go_wp2
    go_loop [8, 10] (fun v i => ∃ (k : Nat), i = .int .i64 k ∧ v = .string (spA k) ∧ k ≤ 7) (fun _ i => 8 - (intOf i).toNat)
    case atStart => exact ⟨0, rfl, rfl, by omega⟩
    case round =>
      obtain ⟨k, rfl, rfl, hk⟩ := hrel
      have hsz : (spA k).size ≤ 7 := by rw [sp_size]; exact hk
      by_cases ht : (k : Int) < bits BinOp.and IntKind.i64 a 7
      · have HS := Lib.hid (sp_succ k)
        go_wp2
        go_round
        case rel => exact ⟨k + 1, by go_num, by rw [HS.out], by omega⟩
        case measure => simp [intOf]; omega
      · go_wp2
        go_loop [9, 11] (fun v i => ∃ (m : Nat), i = .int .i64 m ∧ v = .string (tbA m) ∧ m ≤ 7) (fun _ i => 8 - (intOf i).toNat)
        case atStart => exact ⟨0, rfl, rfl, by omega⟩
        case round =>
          obtain ⟨m, rfl, rfl, hm⟩ := hrel
          have hsm : (tbA m).size ≤ 7 := by rw [tb_size]; exact hm
          by_cases hu : (m : Int) < bits BinOp.and IntKind.i64 b 7
          · have HS := Lib.hid (tb_succ m)
            go_wp2
            go_round
            case rel => exact ⟨m + 1, by go_num, by rw [HS.out], by omega⟩
            case measure => simp [intOf]; omega
          · have hsum : (spA k ++ s).size ≤ 3000 := by rw [append_size]; omega
            have hall : (spA k ++ s ++ tbA m).size ≤ 140737488351232 := by rw [append_size]; omega
            have HA := Lib.hid (trim_about s k m)
            have HT := Lib.hid (trim_trim s)
            have hts : (trimA s).size ≤ 140737488351232 := by have := trimA_size s; omega
            have heq := eq_self (trimA s)
            go_wp2_with fail
            refine (trim_a _ _ hall).mono ?_
            rw [HA.out]
            rintro e w2 ⟨rfl, hd⟩
            have H2 := Lib.hid (H1.out.trans (hd.mono H1.out.size))
            clear hd
            go_wp2_with fail
            refine (trim_a _ _ hts).mono ?_
            rw [HT.out]
            rintro e w3 ⟨rfl, hd⟩
            have H3 := Lib.hid (H2.out.trans (hd.mono H2.out.size))
            clear hd
            by_cases h0 : 0 < (trimA s).size
            · obtain ⟨e1, e2⟩ := ne_blk (head_ok s h0)
              obtain ⟨e3, e4⟩ := ne_blk (last_ok s h0)
              obtain ⟨e5, e6⟩ := emp_no h0
              have hlt : (trimA s).size - 1 < (trimA s).size := by omega
              go_wp2_with fail
              refine (known_a _).mono ?_
              rintro e w4 ⟨rfl, hd⟩
              have H4 := Lib.hid (H3.out.trans (hd.mono H3.out.size))
              clear hd
              go_wp2
              go_ret
              exact ⟨rfl, H4.out⟩
            · have e5 := emp_yes (s := trimA s) (by omega)
              go_wp2_with fail
              refine (known_a _).mono ?_
              rintro e w4 ⟨rfl, hd⟩
              have H4 := Lib.hid (H3.out.trans (hd.mono H3.out.size))
              clear hd
              go_wp2
              go_ret
              exact ⟨rfl, H4.out⟩
  · go_enter Tryd.func5, Tryd.ntmps5
    go_wp2
    go_ret
    exact ⟨rfl, Below.refl _ _⟩
theorem own : ownKnob Tryd.prog.godebug = none := by kernel_rfl
theorem laidOut : laidOutB Tryd.prog = true := by kernel_rfl
set_option maxRecDepth 100000 in
theorem lifted (os : Os) (started : os.Started) (H : Type) (enc : TypeId × Value → H) :
    ReturnsInHanded {} Tryd.checked os 5 .any (fun w args => (Rows.asciiTrimsSpec.pre enc Tryd.prog Tryd.f5 [] false w args ∧ laidMetH Tryd.prog Rows.asciiTrimsRow.laid w) ∧ sizedMet enc Tryd.prog Tryd.f5 (OpenSpec.ofChange Rows.asciiTrimsSpec) false w args)
      (Rows.asciiTrimsSpec.post enc Tryd.prog Tryd.f5 false true false false) := by
  refine returnsInHanded_of_change_and (C := Tryd.checked) (X := fun w _ => laidMetH Tryd.prog Rows.asciiTrimsRow.laid w) (fun _ _ _ hh h => h.of_heap hh) own started (by kernel_rfl) Tryd.func5
    (ChangeSpec.witness_shaped (enc := enc) (C := Tryd.checked) (os := os) (X := fun w _ => laidMetH Tryd.prog Rows.asciiTrimsRow.laid w) false (World.laidAll Tryd.prog os Rows.asciiTrimsRow.laid) #[.string ByteArray.empty, .int .i64 0, .int .i64 0] 8 (World.laidAll_os _ _ _)
      (World.shaped_of_ZipB (by kernel_rfl) (by kernel_rfl)) (by kernel_rfl) (by kernel_rfl) (by kernel_rfl)
      (by rw [MakeChecks.laidMetH_plain _ _ _ (by kernel_rfl)]; exact laidMet_laidAll _ (by kernel_rfl) (by kernel_rfl))) ?_
  intro W base args ds gs before hval0 hW hcnd hsz0 hL _
  have hsz : (DataW.weightsEach Tryd.prog (Tryd.f5.params.toList ++ Rows.asciiTrimsSpec.plain.varTypes Tryd.prog) (ds ++ gs)).all (· ≤ reachBytes) = true := hsz0
  have hval : ∀ (j : Nat) t v, Tryd.f5.params[j]? = some t → args[j]? = some v → Value.okWide Tryd.prog W .any base t v := hval0
  have hW' := hW
  obtain ⟨p, q, hA0, hV, rfl, hfz, hnd⟩ := hW
  have hA : DataW.TrodAll enc Tryd.prog W 0 (fun _ => true) true Tryd.f5.params.toList args.toList ds p := hA0
  rw [Tryd.params5] at hA hval hsz
  obtain ⟨v0, vs0, d0, ds0, p0, q0, hargs, rfl, rfl, h0, r0⟩ := trodAll_cons hA
  obtain ⟨v1, vs1, d1, ds1, p1, q1, rfl, rfl, rfl, h1, r1⟩ := trodAll_cons r0
  obtain ⟨v2, vs2, d2, ds2, p2, q2, rfl, rfl, rfl, h2, r2⟩ := trodAll_cons r1
  obtain ⟨rfl, rfl, rfl⟩ := trodAll_nil r2
  obtain rfl : args = #[v0, v1, v2] := by cases args; simp_all
  obtain ⟨rfl, rfl⟩ := trodVars_none hV
  obtain ⟨a0, rfl, rfl, rfl, w0⟩ := open_string Tryd.underlying9 (hval 0 9 v0 rfl rfl) h0
  have g0 : a0.size ≤ 140737488351232 := sized_string hsz (j := 0) (t := 9) rfl rfl
  obtain ⟨a1, rfl, rfl, rfl, w1⟩ := open_int Tryd.underlying3 (hval 1 3 v1 rfl rfl) h1
  obtain ⟨a2, rfl, rfl, rfl, w2⟩ := open_int Tryd.underlying3 (hval 2 3 v2 rfl rfl) h2
  clear hA0 hval0 hsz0 hsz
  refine (walk a0 g0 a1 w1 a2 w2 W).mono fun e W' ⟨he, bel⟩ => ?_
  subst he
  exact ⟨_, rfl, _, _, _, [], _, [], hW', trodAll_mk1 (shut_bool Tryd.underlying4 _), (trodAll_cons_mk (shut_string Tryd.underlying9 w0) (trodAll_cons_mk (shut_int Tryd.underlying3 w1) (trodAll_cons_mk (shut_int Tryd.underlying3 w2) trodAll_mk0))), rfl, bel.frame _, fun h => by cases h⟩

theorem over : Rows.asciiTrimsRow.holds Tryd.pinned (OpenSpec.ofChange Rows.asciiTrimsSpec) :=
  OpenClaim.holds_of_wide 5 Tryd.f5 rfl rfl rfl rfl rfl rfl rfl ⟨rfl, rfl, rfl, rfl, rfl⟩ rfl rfl rfl rfl rfl (by kernel_rfl) Tryd.func5 (by kernel_rfl)
    (of_decide_eq_true (by kernel_rfl)) (by unfold Func.isWrapper; first | (rw [if_pos (by decide +kernel)]; kernel_rfl) | (rw [if_neg (by decide +kernel)]; exact ⟨rfl, rfl⟩))
    (fun os started H enc _ => lifted os started H enc)

theorem said : Rows.AsciiTrimsSaid := over
theorem plain (f : FuncId) (fn : Func) (hf : Tryd.pinned.checked.prog.funcNamed "usher/usherlaw1.AsciiTrims" = some f) (hfn : Tryd.pinned.checked.prog.funcs[f]? = some fn) :
    false = Tryd.pinned.checked.prog.looks [] ∧ ∀ (j : Nat) t, fn.params[j]? = some t → Tryd.pinned.checked.prog.wantsStandIn t = false := by
  obtain rfl : f = 5 := Option.some.inj ((show Tryd.prog.funcNamed "usher/usherlaw1.AsciiTrims" = some 5 by kernel_rfl).symm.trans hf) |>.symm
  obtain rfl : fn = Tryd.f5 := (Option.some.inj (Tryd.func5.symm.trans hfn)).symm
  refine ⟨by kernel_rfl, fun j t ht => ?_⟩
  rw [Tryd.params5] at ht
  have hm : t ∈ [9, 3] := by simpa using Array.mem_of_getElem? ht
  simp only [List.mem_cons, List.mem_nil_iff, or_false] at hm
  rcases hm with rfl | rfl
  · exact (show Tryd.prog.wantsStandIn 9 = false by kernel_rfl)
  · exact (show Tryd.prog.wantsStandIn 3 = false by kernel_rfl)
theorem proved : Rows.AsciiTrimsCardSaid :=
  Claim7.holds_tied_plain_at .later [] _ _ _ _ said (fun _ h => by cases h) (by kernel_rfl) (fun _ h => by cases h) asciiTrims_row_tie rfl ⟨rfl, rfl⟩ (by kernel_rfl) rfl plain (by kernel_rfl)
end Go.Proofs.YtfeoiopmnijbmaaDoor.asciiTrims
