/- For every text, the code's Quoted answers as the document says, and what ends there ends nowhere else: the law returns true. Condition: the library's tables are laid as its initialisers lay them. -/
import Derived.Test.YtfnjkkjpffnbiaaDoorCards
import Derived.Test.YtfnjkkjpffnbiaaDoorTie
import Derived.Lay
import Derived.LaidOnce
import Derived.MakeChecks
import Derived.SevenTiedAt
import Derived.WalkKit
import Derived.ProofKit
import Derived.OpenShut
import Derived.ShutString
import Derived.ChangeOld
import Derived.Below
import Derived.SizedLaws
import Derived.Test.YtfnjkkjpffnbiaaDoorLi9
import Derived.Carry

namespace Go.Proofs.YtfnjkkjpffnbiaaDoor.listQuoted
open Go.ChangeShapes Go.WideShapes Go.ChangeAt Go.RowKit
open Go.ChangeMaps (open_string shut_string)
set_option linter.unusedVariables false

theorem qans_zero {l : List UInt8} (h : (qans l).2 = 0) : qans l = ([], 0) := by
  unfold qans at *
  cases hq : quotedL l with
  | none => rfl
  | some p => obtain ⟨b, n⟩ := p; rw [hq] at h; have := quoted_le hq; simp at h; omega
theorem qans_take {l : List UInt8} (h : (qans l).2 ≠ 0) : qans (l.take (qans l).2) = qans l ∧ qans (l.take ((qans l).2 - 1)) = ([], 0) ∧ 2 ≤ (qans l).2 := by
  unfold qans at *
  cases hq : quotedL l with
  | none => rw [hq] at h; exact absurd rfl h
  | some p =>
    obtain ⟨b, n⟩ := p
    have h2 := quoted_le hq
    simp only [Option.getD_some]
    rw [quoted_take hq n, quoted_take hq (n - 1), if_pos (Nat.le_refl _), if_neg (by omega)]
    exact ⟨rfl, rfl, h2.1⟩
/-- Two short ways to say what Quoted answers. -/
theorem q_ans (s : ByteArray) (hs : s.size ≤ 1000000) (x : ByteArray) (n : Nat) (h : qans s.data.toList = (x.data.toList, n)) (w : World) :
    Calls Tryd.prog 16 #[.string s] w fun e w' => e = .returned (.tuple #[.string x, .int .i64 (n : Int)]) ∧ Below w.heap.size w w' :=
  (quoted_a s w hs).mono fun e w' ⟨he, hb⟩ => ⟨by rw [he, h], hb⟩
set_option maxRecDepth 100000 in
set_option maxHeartbeats 1000000 in
theorem walk (w : World) (s : ByteArray) (gs : s.size ≤ 140737488351232) :
    Calls Tryd.prog 5 #[.string s] w fun e w' => e = .returned (.bool true) ∧ Below w.heap.size w w' := by
  by_cases hbig : 3000 < s.size
  · go_enter Tryd.func5, Tryd.ntmps5
    go_wp2
    go_ret
    exact ⟨rfl, Below.refl _ _⟩
  · have hs : s.size ≤ 1000000 := by omega
    obtain ⟨x, hx⟩ : ∃ x : ByteArray, x = ⟨(qans s.data.toList).1.toArray⟩ := ⟨_, rfl⟩
    obtain ⟨n, hn⟩ : ∃ n, n = (qans s.data.toList).2 := ⟨_, rfl⟩
    have hP := fun w => q_ans s hs x n (by rw [hx, hn]) w
    have hR : ∀ w, Calls Tryd.prog 17 #[.string s] w fun e w' => e = .returned (.tuple #[.string x, .int .i64 (n : Int)]) ∧ Below w.heap.size w w' := fun w => (refquoted s w hs).mono fun e w' ⟨he, hb⟩ => ⟨by rw [he, hx, hn], hb⟩
    have hxe := (bytes_eq (rfl : x = x)).1
    have hnl : n ≤ s.size := by rw [hn]; exact (qans_le _).1
    by_cases h0 : n = 0
    · have hz : ((n : Int) == 0) = true := by rw [h0]; rfl
      clear hx hn h0
      go_enter Tryd.func5, Tryd.ntmps5
      go_wp2_with (first
        | (go_at_call 16; refine (hP _).mono ?_; rintro e w1 ⟨rfl, hb⟩; have HB1 := Lib.hid hb; clear hb)
        | (go_at_call 17; refine (hR _).mono ?_; rintro e w2 ⟨rfl, hb⟩; have HB2 := Lib.hid hb; clear hb)
        | (go_at_call 15; refine (known9 _).mono ?_; rintro e w4 ⟨rfl, hb4⟩; have HB4 := Lib.hid hb4; clear hb4))
      go_ret
      exact ⟨rfl, HB1.out.trans ((HB2.out.trans (HB4.out.mono HB2.out.size)).mono HB1.out.size)⟩
    · have hz : ((n : Int) == 0) = false := by rw [beq_eq_false_iff_ne]; omega
      obtain ⟨ht1, ht2, h2⟩ := qans_take (l := s.data.toList) (by rw [← hn]; exact h0)
      rw [← hn] at ht1 ht2 h2
      have hl1 : (s.extract 0 n).data.toList = s.data.toList.take n := by rw [ext_list, List.drop_zero, Nat.sub_zero]
      have hl2 : (s.extract 0 (n - 1)).data.toList = s.data.toList.take (n - 1) := by rw [ext_list, List.drop_zero, Nat.sub_zero]
      have hP1 := fun w => q_ans (s.extract 0 n) (by rw [extract_size _ _ _ hnl]; omega) x n (by rw [hl1, ht1, hx, hn]) w
      have hP2 := fun w => q_ans (s.extract 0 (n - 1)) (by rw [extract_size _ _ _ (by omega)]; omega) ⟨#[]⟩ 0 (by rw [hl2, ht2]) w
      have h3 : ((n : Int) - 1) = ((n - 1 : Nat) : Int) := by omega
      have hn1 : n - 1 ≤ s.size := by omega
      clear hx hn h0 ht1 ht2 hl1 hl2
      go_enter Tryd.func5, Tryd.ntmps5
      go_wp2_with (first
        | (go_at_call 16; refine (hP _).mono ?_; rintro e w1 ⟨rfl, hb⟩; have HB1 := Lib.hid hb; clear hb hP)
        | (go_at_call 17; refine (hR _).mono ?_; rintro e w2 ⟨rfl, hb⟩; have HB2 := Lib.hid hb; clear hb)
        | (go_at_call 16; refine (hP1 _).mono ?_; rintro e w3 ⟨rfl, hb⟩; have HB3 := Lib.hid hb; clear hb hP1)
        | (go_at_call 16; refine (hP2 _).mono ?_; rintro e w4 ⟨rfl, hb⟩; have HB4 := Lib.hid hb; clear hb hP2)
        | (go_at_call 15; refine (known9 _).mono ?_; rintro e w5 ⟨rfl, hb4⟩; have HB5 := Lib.hid hb4; clear hb4))
      go_ret
      exact ⟨rfl, HB1.out.trans ((HB2.out.trans ((HB3.out.trans ((HB4.out.trans (HB5.out.mono HB4.out.size)).mono HB3.out.size)).mono HB2.out.size)).mono HB1.out.size)⟩

theorem own : ownKnob Tryd.prog.godebug = none := by kernel_rfl
theorem laidOut : laidOutB Tryd.prog = true := by kernel_rfl
set_option maxRecDepth 100000 in
theorem lifted (os : Os) (started : os.Started) (H : Type) (enc : TypeId × Value → H) :
    ReturnsInHanded {} Tryd.checked os 5 .any (fun w args => (Rows.listQuotedSpec.pre enc Tryd.prog Tryd.f5 [] false w args ∧ laidMetH Tryd.prog Rows.listQuotedRow.laid w) ∧ sizedMet enc Tryd.prog Tryd.f5 (OpenSpec.ofChange Rows.listQuotedSpec) false w args)
      (Rows.listQuotedSpec.post enc Tryd.prog Tryd.f5 false true false false) := by
  refine returnsInHanded_of_change_and (C := Tryd.checked) (X := fun w _ => laidMetH Tryd.prog Rows.listQuotedRow.laid w) (fun _ _ _ hh h => h.of_heap hh) own started (by kernel_rfl) Tryd.func5
    (ChangeSpec.witness_shaped (enc := enc) (C := Tryd.checked) (os := os) (X := fun w _ => laidMetH Tryd.prog Rows.listQuotedRow.laid w) false (World.laidAll Tryd.prog os Rows.listQuotedRow.laid) #[.string ByteArray.empty] 8 (World.laidAll_os _ _ _)
      (World.shaped_of_ZipB (by kernel_rfl) (by kernel_rfl)) (by kernel_rfl) (by kernel_rfl) (by kernel_rfl)
      (by rw [MakeChecks.laidMetH_plain _ _ _ (by kernel_rfl)]; exact laidMet_laidAll _ (by kernel_rfl) (by kernel_rfl))) ?_
  intro W base args ds gs before hval0 hW hcnd hsz0 hL _
  have hsz : (DataW.weightsEach Tryd.prog (Tryd.f5.params.toList ++ Rows.listQuotedSpec.plain.varTypes Tryd.prog) (ds ++ gs)).all (· ≤ reachBytes) = true := hsz0
  have hval : ∀ (j : Nat) t v, Tryd.f5.params[j]? = some t → args[j]? = some v → Value.okWide Tryd.prog W .any base t v := hval0
  have hW' := hW
  obtain ⟨p, q, hA0, hV, rfl, hfz, hnd⟩ := hW
  have hA : DataW.TrodAll enc Tryd.prog W 0 (fun _ => true) true Tryd.f5.params.toList args.toList ds p := hA0
  rw [Tryd.params5] at hA hval hsz
  obtain ⟨v0, vs0, d0, ds0, p0, q0, hargs, rfl, rfl, h0, r0⟩ := trodAll_cons hA
  obtain ⟨rfl, rfl, rfl⟩ := trodAll_nil r0
  obtain rfl : args = #[v0] := by cases args; simp_all
  obtain ⟨rfl, rfl⟩ := trodVars_none hV
  obtain ⟨a0, rfl, rfl, rfl, w0⟩ := open_string Tryd.underlying9 (hval 0 9 v0 rfl rfl) h0
  have g0 : a0.size ≤ 140737488351232 := sized_string hsz (j := 0) (t := 9) rfl rfl
  clear hA0 hval0 hsz0 hsz
  refine (walk W a0 g0).mono fun e W' ⟨he, bel⟩ => ?_
  subst he
  exact ⟨_, rfl, _, _, _, [], _, [], hW', trodAll_mk1 (shut_bool Tryd.underlying4 _), (trodAll_cons_mk (shut_string Tryd.underlying9 w0) trodAll_mk0), rfl, bel.frame _, fun h => by cases h⟩

theorem over : Rows.listQuotedRow.holds Tryd.pinned (OpenSpec.ofChange Rows.listQuotedSpec) :=
  OpenClaim.holds_of_wide 5 Tryd.f5 rfl rfl rfl rfl rfl rfl rfl ⟨rfl, rfl, rfl, rfl, rfl⟩ rfl rfl rfl rfl rfl (by kernel_rfl) Tryd.func5 (by kernel_rfl)
    (of_decide_eq_true (by kernel_rfl)) (by unfold Func.isWrapper; first | (rw [if_pos (by decide +kernel)]; kernel_rfl) | (rw [if_neg (by decide +kernel)]; exact ⟨rfl, rfl⟩))
    (fun os started H enc _ => lifted os started H enc)

theorem said : Rows.ListQuotedSaid := over
theorem plain (f : FuncId) (fn : Func) (hf : Tryd.pinned.checked.prog.funcNamed "usher/usherlaw9.ListQuoted" = some f) (hfn : Tryd.pinned.checked.prog.funcs[f]? = some fn) :
    false = Tryd.pinned.checked.prog.looks [] ∧ ∀ (j : Nat) t, fn.params[j]? = some t → Tryd.pinned.checked.prog.wantsStandIn t = false := by
  obtain rfl : f = 5 := Option.some.inj ((show Tryd.prog.funcNamed "usher/usherlaw9.ListQuoted" = some 5 by kernel_rfl).symm.trans hf) |>.symm
  obtain rfl : fn = Tryd.f5 := (Option.some.inj (Tryd.func5.symm.trans hfn)).symm
  refine ⟨by kernel_rfl, fun j t ht => ?_⟩
  rw [Tryd.params5] at ht
  have hm : t ∈ [9] := by simpa using Array.mem_of_getElem? ht
  simp only [List.mem_cons, List.mem_nil_iff, or_false] at hm
  rcases hm with rfl
  · exact (show Tryd.prog.wantsStandIn 9 = false by kernel_rfl)
theorem proved : Rows.ListQuotedCardSaid :=
  Claim7.holds_tied_plain_at .later [] _ _ _ _ said (fun _ h => by cases h) (by kernel_rfl) (fun _ h => by cases h) listQuoted_row_tie rfl ⟨rfl, rfl⟩ (by kernel_rfl) rfl plain (by kernel_rfl)
end Go.Proofs.YtfnjkkjpffnbiaaDoor.listQuoted
