/- For every name and value and any two numbers of blanks, a field that is written as a line is parsed as it is: the law returns true. Condition: the library's tables are laid as its initialisers lay them. -/
import Derived.Test.YtakimadhbgpedaaDoorCards
import Derived.Test.YtakimadhbgpedaaDoorTie
import Derived.Lay
import Derived.LaidOnce
import Derived.MakeChecks
import Derived.SevenTiedAt
import Derived.WalkKit
import Derived.ProofKit
import Derived.OpenShut
import Derived.ShutString
import Derived.ChangeOld
import Derived.Below
import Derived.SizedLaws
import Derived.Test.YtakimadhbgpedaaDoorFi10
import Derived.Carry

namespace Go.Proofs.YtakimadhbgpedaaDoor.fieldBack
open Go.ChangeShapes Go.WideShapes Go.ChangeAt Go.RowKit
open Go.ChangeMaps (open_string shut_string)
set_option linter.unusedVariables false
theorem and7 (a : Int) : 0 ≤ bits BinOp.and IntKind.i64 a 7 ∧ bits BinOp.and IntKind.i64 a 7 ≤ 7 := by
  have h : (BitVec.ofInt 64 a &&& BitVec.ofInt 64 7).toNat ≤ 7 := by
    rw [BitVec.toNat_and]; exact Nat.and_le_right
  have e : bits BinOp.and IntKind.i64 a 7 = IntKind.i64.wrap ((BitVec.ofInt 64 a &&& BitVec.ofInt 64 7).toNat : Int) := rfl
  rw [e, IntKind.wrap_i64]
  omega
def spA (n : Nat) : ByteArray := ⟨Array.replicate n 32⟩
def tbA (n : Nat) : ByteArray := ⟨Array.replicate n 9⟩
theorem sp_succ (n : Nat) : spA n ++ ⟨#[32]⟩ = spA (n + 1) := by
  apply bytes_inj; simp [spA, ByteArray.data_append, List.replicate_succ']
theorem tb_succ (n : Nat) : tbA n ++ ⟨#[9]⟩ = tbA (n + 1) := by
  apply bytes_inj; simp [tbA, ByteArray.data_append, List.replicate_succ']
theorem sp_size (n : Nat) : (spA n).size = n := by show (Array.replicate n (32 : UInt8)).size = n; simp
theorem tb_size (n : Nat) : (tbA n).size = n := by show (Array.replicate n (9 : UInt8)).size = n; simp
theorem append_list (a b : ByteArray) : (a ++ b).data.toList = a.data.toList ++ b.data.toList := by simp [ByteArray.data_append]
theorem append_size (a b : ByteArray) : (a ++ b).size = a.size + b.size := by
  have := congrArg List.length (append_list a b)
  rw [List.length_append] at this; exact this
theorem tl_sp (n : Nat) (l : List UInt8) : tlL (List.replicate n 32 ++ l) = tlL l := by
  induction n with
  | zero => rfl
  | succ n ih => rw [List.replicate_succ, List.cons_append, tl_cons_yes (by decide), ih]
theorem tr_tb (n : Nat) (l : List UInt8) : trL (l ++ List.replicate n 9) = trL l := by
  induction n with
  | zero => simp
  | succ n ih => rw [List.replicate_succ', ← List.append_assoc, trL_snoc_yes _ _ (by decide), ih]
theorem trim_about (s : ByteArray) (k m : Nat) : trimA (spA k ++ s ++ tbA m) = trimA s := by
  apply bytes_inj
  show trimL (spA k ++ s ++ tbA m).data.toList = trimL s.data.toList
  rw [append_list, append_list, trimL_eq, trimL_eq]
  have e1 : (spA k).data.toList = List.replicate k 32 := by simp [spA]
  have e2 : (tbA m).data.toList = List.replicate m 9 := by simp [tbA]
  rw [e1, e2, List.append_assoc, tl_sp, ← tl_tr, tr_tb, tl_tr]
theorem colon_tok {l : List UInt8} (h : tokL l = true) : (58 : UInt8) ∉ l := by
  intro hm
  unfold tokL at h
  rw [Bool.and_eq_true] at h
  have := List.all_eq_true.1 h.1 58 hm
  revert this
  decide +kernel
/-- The line. -/
def lineB (n v : ByteArray) (k m : Nat) : ByteArray := n ++ ⟨#[58]⟩ ++ spA k ++ v ++ tbA m
theorem line_size (n v : ByteArray) (k m : Nat) : (lineB n v k m).size = n.size + 1 + k + v.size + m := by
  unfold lineB; rw [append_size, append_size, append_size, append_size, sp_size, tb_size]; rfl
theorem line_list (n v : ByteArray) (k m : Nat) : (lineB n v k m).data.toList = n.data.toList ++ 58 :: (spA k ++ v ++ tbA m).data.toList := by
  unfold lineB; simp only [append_list, List.append_assoc]; rfl
theorem get_list (s : ByteArray) (j : Nat) (h : j < s.size) : s[j] = s.data.toList[j]'(by exact h) := rfl
theorem line_colon {n v : ByteArray} (k m : Nat) (h : tokL n.data.toList = true) : colon (lineB n v k m) = n.size := by
  have hl : n.data.toList.length = n.size := rfl
  refine colon_some (by rw [line_size]; omega) ?_ (fun j hj hjn => ?_)
  · rw [get_list]
    simp only [line_list]
    rw [List.getElem_append_right (by omega)]; simp [hl]
  · rw [get_list]
    simp only [line_list]
    rw [List.getElem_append_left (by omega)]
    intro e
    exact colon_tok h (e ▸ List.getElem_mem _)
theorem line_fld {n v : ByteArray} (k m : Nat) (h : okF (n, v) = true) : fldAt (lineB n v k m) n.size = (n, v) := by
  have hv : trimA v = v := by
    unfold okF at h
    rw [Bool.and_eq_true] at h
    exact of_decide_eq_true h.2
  have hl : n.data.toList.length = n.size := rfl
  unfold fldAt
  refine Prod.ext ?_ ?_
  · apply bytes_inj
    show ((lineB n v k m).extract 0 n.size).data.toList = _
    rw [ByteArray.data_extract, Array.toList_extract]
    show ((lineB n v k m).data.toList.drop 0).take (n.size - 0) = _
    rw [line_list, List.drop_zero, Nat.sub_zero, List.take_append_of_le_length (by omega), List.take_of_length_le (by omega)]
  · refine Eq.trans ?_ ((trim_about v k m).trans hv)
    show trimA _ = trimA _
    congr 1
    apply bytes_inj
    rw [ByteArray.data_extract, Array.toList_extract]
    show ((lineB n v k m).data.toList.drop (n.size + 1)).take ((lineB n v k m).size - (n.size + 1)) = _
    rw [List.take_of_length_le (by rw [List.length_drop]; exact Nat.le_refl _), line_list, List.drop_append, List.drop_of_length_le (by omega), hl]
    simp
theorem tokF {n v : ByteArray} (h : okF (n, v) = true) : tokL n.data.toList = true := by
  unfold okF at h
  rw [Bool.and_eq_true, Bool.and_eq_true] at h
  exact h.1.1
theorem line_par {n v : ByteArray} (k m : Nat) (h : okF (n, v) = true) (hs : (lineB n v k m).size ≤ 256) : parR (lineB n v k m) = ((n, v), 0) := by
  have hc := line_colon (v := v) k m (tokF h)
  have hf := line_fld k m h
  rw [parR_yes (i := n.size) (by omega) hc (by rw [hf]; exact h), hf]

set_option maxRecDepth 10000 in
set_option maxHeartbeats 2000000 in
theorem walk (w : World) (n : ByteArray) (hn : n.size ≤ 140737488351232) (v : ByteArray) (hv : v.size ≤ 140737488351232) (a : Int) (wa : (Lit.int .i64 a).wf = true) (b : Int) (wb : (Lit.int .i64 b).wf = true) :
    Calls Tryd.prog 5 #[.string n, .string v, .int .i64 a, .int .i64 b] w fun e w' => e = .returned (.bool true) ∧ Below w.heap.size w w' := by
  clear wa wb
  by_cases hl : 200 < n.size + v.size
  · go_enter Tryd.func5, Tryd.ntmps5
    go_wp2
    go_ret
    exact ⟨rfl, Below.refl _ _⟩
  · have hn2 : n.size ≤ 200 := by omega
    have hv2 : v.size ≤ 200 := by omega
    have hn6 : n.size ≤ 1000000 := by omega
    have hv6 : v.size ≤ 1000000 := by omega
    cases hok : okF (n, v) with
    | false =>
      have HI := Lib.hid (fun w => isfR (n, v) hok hn6 hv6 w)
      clear hok
      go_enter Tryd.func5, Tryd.ntmps5
      go_wp2_with (first
        | (go_at_call 27; refine (HI.out _).mono ?_; rintro e w1 ⟨rfl, hm⟩; have M1 := Lib.hid hm; clear hm)
        | (go_at_call 11; refine (known_l _).mono ?_; rintro e w3 ⟨rfl, hm⟩; have M3 := Lib.hid (M1.out.trans hm (fun _ h => nomatch h)); clear hm))
      go_ret
      exact ⟨rfl, M3.out.below⟩
    | true =>
      have HI := Lib.hid (fun w => isfR (n, v) hok hn6 hv6 w)
      have HP := Lib.hid (fun k m hs => line_par (n := n) (v := v) k m hok hs)
      clear hok
      obtain ⟨a0, a7⟩ := and7 a
      obtain ⟨b0, b7⟩ := and7 b
      go_enter Tryd.func5, Tryd.ntmps5
      go_wp2_with (go_at_call 27; refine (HI.out _).mono ?_; rintro e w1 ⟨rfl, hm⟩; have M1 := Lib.hid hm; clear hm)
      go_loop [9, 10] (fun t i => ∃ (k : Nat), i = .int .i64 k ∧ t = .string (n ++ ⟨#[58]⟩ ++ spA k) ∧ k ≤ 7) (fun _ i => 8 - (intOf i).toNat)
      case atStart => exact ⟨0, rfl, by rw [show n ++ ⟨#[58]⟩ ++ spA 0 = n ++ ⟨#[58]⟩ from bytes_inj (by rw [append_list]; simp [spA])], by omega⟩
      case round =>
        obtain ⟨k, rfl, rfl, hk⟩ := hrel
        obtain ⟨t, ht⟩ : ∃ t, t = n ++ ⟨#[58]⟩ ++ spA k := ⟨_, rfl⟩
        have hts : t.size ≤ 300 := by rw [ht, append_size, append_size, sp_size]; show n.size + 1 + k ≤ 300; omega
        have HT := Lib.hid (show t ++ ⟨#[32]⟩ = n ++ ⟨#[58]⟩ ++ spA (k + 1) by rw [ht, ← sp_succ]; apply bytes_inj; simp only [append_list, List.append_assoc])
        have HT2 := Lib.hid ht
        rw [← ht]
        clear ht
        by_cases hlt : (k : Int) < bits BinOp.and IntKind.i64 a 7
        · go_wp2
          go_round
          case rel => exact ⟨k + 1, by go_num, by rw [HT.out], by omega⟩
          case measure => simp [intOf]; omega
        · go_wp2
          go_loop [9, 11] (fun u i => ∃ (m : Nat), i = .int .i64 m ∧ u = .string (lineB n v k m) ∧ m ≤ 7) (fun _ i => 8 - (intOf i).toNat)
          case atStart => exact ⟨0, rfl, by rw [show lineB n v k 0 = t ++ v from bytes_inj (by rw [HT2.out]; unfold lineB; simp only [append_list]; simp [tbA])], by omega⟩
          case round =>
            obtain ⟨m, rfl, rfl, hm⟩ := hrel
            have hls := line_size n v k m
            have HL := Lib.hid (show lineB n v k m ++ ⟨#[9]⟩ = lineB n v k (m + 1) by unfold lineB; rw [← tb_succ]; apply bytes_inj; simp only [append_list, List.append_assoc])
            have hpar := HP.out k m (by omega)
            obtain ⟨u, hu⟩ : ∃ u, u = lineB n v k m := ⟨_, rfl⟩
            rw [← hu] at hls HL hpar ⊢
            clear hu
            have hus : u.size ≤ 300 := by omega
            clear hls
            by_cases hu7 : (m : Int) < bits BinOp.and IntKind.i64 b 7
            · clear hpar
              go_wp2
              go_round
              case rel => exact ⟨m + 1, by go_num, by rw [HL.out], by omega⟩
              case measure => simp [intOf]; omega
            · have HA := Lib.hid (fun w => parse_a u w (by omega))
              unfold PAns at HA
              rw [hpar] at HA
              clear hpar
              go_wp2_with (first
                | (go_at_call 9; refine (HA.out _).mono ?_; rintro e w2 ⟨rfl, hm⟩; have M2 := Lib.hid (M1.out.trans hm (fun _ h => nomatch h)); clear hm)
                | (go_at_call 11; refine (known_l _).mono ?_; rintro e w3 ⟨rfl, hm⟩; have M3 := Lib.hid ((M2.out.alloc (.cells #[.string n, .string v] 23)).trans hm (fun _ h => nomatch h)); clear hm))
              go_ret
              exact ⟨rfl, M3.out.below⟩

theorem own : ownKnob Tryd.prog.godebug = none := by kernel_rfl
theorem laidOut : laidOutB Tryd.prog = true := by kernel_rfl
set_option maxRecDepth 100000 in
theorem lifted (os : Os) (started : os.Started) (H : Type) (enc : TypeId × Value → H) :
    ReturnsInHanded {} Tryd.checked os 5 .any (fun w args => (Rows.fieldBackSpec.pre enc Tryd.prog Tryd.f5 [] false w args ∧ laidMetH Tryd.prog Rows.fieldBackRow.laid w) ∧ sizedMet enc Tryd.prog Tryd.f5 (OpenSpec.ofChange Rows.fieldBackSpec) false w args)
      (Rows.fieldBackSpec.post enc Tryd.prog Tryd.f5 false true false false) := by
  refine returnsInHanded_of_change_and (C := Tryd.checked) (X := fun w _ => laidMetH Tryd.prog Rows.fieldBackRow.laid w) (fun _ _ _ hh h => h.of_heap hh) own started (by kernel_rfl) Tryd.func5
    (ChangeSpec.witness_shaped (enc := enc) (C := Tryd.checked) (os := os) (X := fun w _ => laidMetH Tryd.prog Rows.fieldBackRow.laid w) false (World.laidAll Tryd.prog os Rows.fieldBackRow.laid) #[.string ByteArray.empty, .string ByteArray.empty, .int .i64 0, .int .i64 0] 8 (World.laidAll_os _ _ _)
      (World.shaped_of_ZipB (by kernel_rfl) (by kernel_rfl)) (by kernel_rfl) (by kernel_rfl) (by kernel_rfl)
      (by rw [MakeChecks.laidMetH_plain _ _ _ (by kernel_rfl)]; exact laidMet_laidAll _ (by kernel_rfl) (by kernel_rfl))) ?_
  intro W base args ds gs before hval0 hW hcnd hsz0 hL _
  have hsz : (DataW.weightsEach Tryd.prog (Tryd.f5.params.toList ++ Rows.fieldBackSpec.plain.varTypes Tryd.prog) (ds ++ gs)).all (· ≤ reachBytes) = true := hsz0
  have hval : ∀ (j : Nat) t v, Tryd.f5.params[j]? = some t → args[j]? = some v → Value.okWide Tryd.prog W .any base t v := hval0
  have hW' := hW
  obtain ⟨p, q, hA0, hV, rfl, hfz, hnd⟩ := hW
  have hA : DataW.TrodAll enc Tryd.prog W 0 (fun _ => true) true Tryd.f5.params.toList args.toList ds p := hA0
  rw [Tryd.params5] at hA hval hsz
  obtain ⟨v0, vs0, d0, ds0, p0, q0, hargs, rfl, rfl, h0, r0⟩ := trodAll_cons hA
  obtain ⟨v1, vs1, d1, ds1, p1, q1, rfl, rfl, rfl, h1, r1⟩ := trodAll_cons r0
  obtain ⟨v2, vs2, d2, ds2, p2, q2, rfl, rfl, rfl, h2, r2⟩ := trodAll_cons r1
  obtain ⟨v3, vs3, d3, ds3, p3, q3, rfl, rfl, rfl, h3, r3⟩ := trodAll_cons r2
  obtain ⟨rfl, rfl, rfl⟩ := trodAll_nil r3
  obtain rfl : args = #[v0, v1, v2, v3] := by cases args; simp_all
  obtain ⟨rfl, rfl⟩ := trodVars_none hV
  obtain ⟨a0, rfl, rfl, rfl, w0⟩ := open_string Tryd.underlying9 (hval 0 9 v0 rfl rfl) h0
  have g0 : a0.size ≤ 140737488351232 := sized_string hsz (j := 0) (t := 9) rfl rfl
  obtain ⟨a1, rfl, rfl, rfl, w1⟩ := open_string Tryd.underlying9 (hval 1 9 v1 rfl rfl) h1
  have g1 : a1.size ≤ 140737488351232 := sized_string hsz (j := 1) (t := 9) rfl rfl
  obtain ⟨a2, rfl, rfl, rfl, w2⟩ := open_int Tryd.underlying3 (hval 2 3 v2 rfl rfl) h2
  obtain ⟨a3, rfl, rfl, rfl, w3⟩ := open_int Tryd.underlying3 (hval 3 3 v3 rfl rfl) h3
  clear hA0 hval0 hsz0 hsz
  refine (walk W a0 g0 a1 g1 a2 w2 a3 w3).mono fun e W' ⟨he, bel⟩ => ?_
  subst he
  exact ⟨_, rfl, _, _, _, [], _, [], hW', trodAll_mk1 (shut_bool Tryd.underlying4 _), (trodAll_cons_mk (shut_string Tryd.underlying9 w0) (trodAll_cons_mk (shut_string Tryd.underlying9 w1) (trodAll_cons_mk (shut_int Tryd.underlying3 w2) (trodAll_cons_mk (shut_int Tryd.underlying3 w3) trodAll_mk0)))), rfl, bel.frame _, fun h => by cases h⟩

theorem over : Rows.fieldBackRow.holds Tryd.pinned (OpenSpec.ofChange Rows.fieldBackSpec) :=
  OpenClaim.holds_of_wide 5 Tryd.f5 rfl rfl rfl rfl rfl rfl rfl ⟨rfl, rfl, rfl, rfl, rfl⟩ rfl rfl rfl rfl rfl (by kernel_rfl) Tryd.func5 (by kernel_rfl)
    (of_decide_eq_true (by kernel_rfl)) (by unfold Func.isWrapper; first | (rw [if_pos (by decide +kernel)]; kernel_rfl) | (rw [if_neg (by decide +kernel)]; exact ⟨rfl, rfl⟩))
    (fun os started H enc _ => lifted os started H enc)

theorem said : Rows.FieldBackSaid := over
theorem plain (f : FuncId) (fn : Func) (hf : Tryd.pinned.checked.prog.funcNamed "usher/usherlaw10.FieldBack" = some f) (hfn : Tryd.pinned.checked.prog.funcs[f]? = some fn) :
    false = Tryd.pinned.checked.prog.looks [] ∧ ∀ (j : Nat) t, fn.params[j]? = some t → Tryd.pinned.checked.prog.wantsStandIn t = false := by
  obtain rfl : f = 5 := Option.some.inj ((show Tryd.prog.funcNamed "usher/usherlaw10.FieldBack" = some 5 by kernel_rfl).symm.trans hf) |>.symm
  obtain rfl : fn = Tryd.f5 := (Option.some.inj (Tryd.func5.symm.trans hfn)).symm
  refine ⟨by kernel_rfl, fun j t ht => ?_⟩
  rw [Tryd.params5] at ht
  have hm : t ∈ [9, 3] := by simpa using Array.mem_of_getElem? ht
  simp only [List.mem_cons, List.mem_nil_iff, or_false] at hm
  rcases hm with rfl | rfl
  · exact (show Tryd.prog.wantsStandIn 9 = false by kernel_rfl)
  · exact (show Tryd.prog.wantsStandIn 3 = false by kernel_rfl)
theorem proved : Rows.FieldBackCardSaid :=
  Claim7.holds_tied_plain_at .later [] _ _ _ _ said (fun _ h => by cases h) (by kernel_rfl) (fun _ h => by cases h) fieldBack_row_tie rfl ⟨rfl, rfl⟩ (by kernel_rfl) rfl plain (by kernel_rfl)
end Go.Proofs.YtakimadhbgpedaaDoor.fieldBack
