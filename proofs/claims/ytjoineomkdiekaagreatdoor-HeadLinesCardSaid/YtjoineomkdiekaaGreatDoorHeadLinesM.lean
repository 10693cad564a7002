/- For every list of lines, the code's head tells of each what the document says, and has the same start, fields and end: the law returns true. Condition: the library's tables are laid as its initialisers lay them. -/
import Derived.Test.YtjoineomkdiekaaGreatDoorCards
import Derived.Test.YtjoineomkdiekaaGreatDoorTie
import Derived.Lay
import Derived.LaidOnce
import Derived.MakeChecks
import Derived.SevenTiedAt
import Derived.WalkKit
import Derived.ProofKit
import Derived.OpenShut
import Derived.ShutString
import Derived.ChangeOld
import Derived.Below
import Derived.SizedLaws
import Derived.Test.YtjoineomkdiekaaGreatDoorMQF
import Derived.Test.YtjoineomkdiekaaGreatDoorMQE
import Derived.Carry
import Derived.Deep.CutBlock
namespace Go.Proofs.YtjoineomkdiekaaGreatDoor.headLines
open Go.ChangeShapes Go.WideShapes Go.ChangeAt Go.RowKit
open Go.ChangeMaps (open_string shut_string)
set_option linter.unusedVariables false

theorem sizes_snoc : ∀ (l : List ByteArray) (x : ByteArray), sizes (l ++ [x]) = sizes l + (1 + x.size)
  | [], x => by simp [sizes]
  | y :: l, x => by rw [List.cons_append]; unfold sizes; rw [sizes_snoc l x]; omega
theorem sizes_mem : ∀ (l : List ByteArray) (x : ByteArray), x ∈ l → 1 + x.size ≤ sizes l
  | y :: l, x, h => by
    unfold sizes
    rcases List.mem_cons.1 h with rfl | h
    · omega
    · have := sizes_mem l x h; omega
theorem sizes_len : ∀ l : List ByteArray, l.length ≤ sizes l
  | [] => Nat.zero_le _
  | y :: l => by unfold sizes; have := sizes_len l; rw [List.length_cons]; omega

set_option maxRecDepth 10000 in
set_option maxHeartbeats 2000000 in
theorem walk (w : World) (v : Value) (o : IsStrs9 w v) :
    Calls Tryz.prog 3 #[v] w fun e w' => e = .returned (.bool true) ∧ Below w.heap.size w w' := by
  obtain ⟨ts, a, cap, rfl, hcap, hts, hz, hl⟩ := o
  have hss : SsAt w (.slice a ts.length cap) ts := by
    rcases hts with ⟨h1, h2⟩ | ⟨b, off, c2, hv, h0, hb, hc⟩
    · exact .inl ⟨h1, by subst h1; exact ⟨_, _, rfl⟩⟩
    · injection hv with e1 e2 e3
      subst e3
      exact .inr ⟨b, off, cap, by rw [e1], h0, hcap, hb, hc⟩
  have HP := Lib.hid (fun hs1 hs2 W hm => play_l ts (.slice a ts.length cap) W (hss.low hm) hs1 hs2)
  have HN := Lib.hid (show sizes (ts.take ts.length) = sizes ts by rw [List.take_length])
  have HSM := Lib.hid (sizes_mem ts)
  have HSL := Lib.hid (sizes_len ts)
  have HCE := Lib.hid (fun k (hk : k < ts.length) => show ∃ (s : ByteArray), s.size ≤ 140737488351232 ∧ sizes (ts.take (k + 1)) = sizes (ts.take k) + (1 + s.size) ∧ ∃ (b off : Nat), a = some ⟨b, off, none⟩ ∧ w.cell? ⟨b, off + k, none⟩ = some (.string s) from by
    rcases hts with ⟨h1, _⟩ | ⟨b, off, c2, hv, -, hb, hc⟩
    · subst h1; cases hk
    · injection hv with e1 e2 e3
      exact ⟨ts[k], hz _ (List.getElem_mem hk), by rw [List.take_succ_eq_append_getElem hk, sizes_snoc], b, off, e1, hc k hk⟩)
  obtain ⟨n, hn⟩ : ∃ n, n = ts.length := ⟨_, rfl⟩
  rw [← hn] at HP HN HSL HCE hcap hl
  rw [← hn]
  clear hts hz hss hn
  go_enter Tryz.func3, Tryz.ntmps3
  go_wp2
  go_loopw [3, 4] (fun t i wr => ∃ (k : Nat), k ≤ n ∧ i = .int .i64 k ∧ t = .int .i64 (sizes (ts.take k) : Nat) ∧ sizes (ts.take k) ≤ 4000 ∧ w = wr) (fun _ i _ => n - (intOf i).toNat)
  case atStart => exact ⟨0, Nat.zero_le _, rfl, rfl, by simp [sizes], rfl⟩
  case round =>
    obtain ⟨k, hk, rfl, rfl, hle, rfl⟩ := hrel
    by_cases hlt : k < n
    · obtain ⟨s, hs, hsz, b, off, rfl, hc⟩ := HCE.out k hlt
      obtain ⟨q, hq⟩ : ∃ q, q = sizes (ts.take k) := ⟨_, rfl⟩
      rw [← hq] at hle hsz
      rw [← hq]
      have HSZ := Lib.hid hsz
      have hw1 : IntKind.i64.wrap ((q : Int) + 1) = (q : Int) + 1 := by rw [IntKind.wrap_i64]; omega
      have hw2 : IntKind.i64.wrap ((q : Int) + 1 + (s.size : Int)) = (q : Int) + 1 + (s.size : Int) := by rw [IntKind.wrap_i64]; omega
      clear hsz hq
      by_cases h4 : 4000 < q + 1 + s.size
      · have g4 : (4000 : Int) < (q : Int) + 1 + (s.size : Int) := by omega
        clear h4
        go_wp2
        go_ret
        exact ⟨rfl, Below.refl _ _⟩
      · have g4 : decide ((4000 : Int) < (q : Int) + 1 + (s.size : Int)) = false := by simp; omega
        have HQ := Lib.hid (show q + (1 + s.size) ≤ 4000 by omega)
        clear h4
        go_wp2
        go_roundw
        case rel => exact ⟨k + 1, by omega, by go_num, by rw [HSZ.out]; show Value.int _ _ = Value.int _ _; congr 1; omega, by rw [HSZ.out]; exact HQ.out, trivial⟩
        case measure => simp [intOf]; omega
    · obtain rfl : k = n := by omega
      have h1 := HN.out
      rw [h1] at hle ⊢
      have HP2 := Lib.hid (HP.out (by have := HSL.out; omega) (fun x hx => by have := HSM.out x hx; omega) w (Mods.refl _ _))
      clear HP HN HSM HSL HCE h1
      go_wp2_with (first
        | (go_at_call 8; refine HP2.out.mono ?_; rintro e w1 hq; obtain ⟨hb, xb, F, G, rfl, hB⟩ := hq.out; have M1 := Lib.hid hB.low; clear hq hB; unfold ptr)
        | (go_at_call 9; refine (known_13 _).mono ?_; rintro e w2 ⟨rfl, hm⟩; have M2 := Lib.hid (M1.out.on hm); clear hm))
      go_ret
      exact ⟨rfl, M2.out.below⟩

theorem own : ownKnob Tryz.prog.godebug = none := by kernel_rfl
theorem laidOut : laidOutB Tryz.prog = true := by kernel_rfl
set_option maxRecDepth 100000 in
theorem lifted (os : Os) (started : os.Started) (H : Type) (enc : TypeId × Value → H) :
    ReturnsInHanded {} Tryz.checked os 3 .any (fun w args => (Rows.headLinesSpec.pre enc Tryz.prog Tryz.f3 [] false w args ∧ laidMetH Tryz.prog Rows.headLinesRow.laid w) ∧ sizedMet enc Tryz.prog Tryz.f3 (OpenSpec.ofChange Rows.headLinesSpec) false w args)
      (Rows.headLinesSpec.post enc Tryz.prog Tryz.f3 false true false false) := by
  refine returnsInHanded_of_change_and (C := Tryz.checked) (X := fun w _ => laidMetH Tryz.prog Rows.headLinesRow.laid w) (fun _ _ _ hh h => h.of_heap hh) own started (by kernel_rfl) Tryz.func3
    (ChangeSpec.witness_shaped (enc := enc) (C := Tryz.checked) (os := os) (X := fun w _ => laidMetH Tryz.prog Rows.headLinesRow.laid w) false (World.laidAll Tryz.prog os Rows.headLinesRow.laid) #[.slice none 0 0] 8 (World.laidAll_os _ _ _)
      (World.shaped_of_ZipB (by kernel_rfl) (by kernel_rfl)) (by kernel_rfl) (by kernel_rfl) (by kernel_rfl)
      (by rw [MakeChecks.laidMetH_plain _ _ _ (by kernel_rfl)]; exact laidMet_laidAll _ (by kernel_rfl) (by kernel_rfl))) ?_
  intro W base args ds gs before hval0 hW hcnd hsz0 hL _
  have hsz : (DataW.weightsEach Tryz.prog (Tryz.f3.params.toList ++ Rows.headLinesSpec.plain.varTypes Tryz.prog) (ds ++ gs)).all (· ≤ reachBytes) = true := hsz0
  have hval : ∀ (j : Nat) t v, Tryz.f3.params[j]? = some t → args[j]? = some v → Value.okWide Tryz.prog W .any base t v := hval0
  have hW' := hW
  obtain ⟨p, q, hA0, hV, rfl, hfz, hnd⟩ := hW
  have hA : DataW.TrodAll enc Tryz.prog W 0 (fun _ => true) true Tryz.f3.params.toList args.toList ds p := hA0
  rw [Tryz.params3] at hA hval hsz
  obtain ⟨v0, vs0, d0, ds0, p0, q0, hargs, rfl, rfl, h0, r0⟩ := trodAll_cons hA
  obtain ⟨rfl, rfl, rfl⟩ := trodAll_nil r0
  obtain rfl : args = #[v0] := by cases args; simp_all
  obtain ⟨rfl, rfl⟩ := trodVars_none hV
  have k0 := h0
  have lt0 : ∀ x ∈ p0, x.block < W.heap.size := by obtain ⟨m, hm⟩ := k0; exact DataW.trod_lt m _ _ _ hm
  have o0 := open_strs9 Tryz.underlying22 Tryz.underlying9 (by kernel_rfl) (by kernel_rfl) (hval 0 22 v0 rfl rfl) h0 (fun n hn => by simpa using List.all_eq_true.1 hsz n (DataW.weights_mem_each (j := 0) (t := 22) rfl rfl n hn))
  clear hA0 hval0 hsz0 hsz
  refine (walk W v0 o0).mono fun e W' ⟨he, bel⟩ => ?_
  subst he
  exact ⟨_, rfl, _, _, _, [], _, [], hW', trodAll_mk1 (shut_bool Tryz.underlying4 _), (trodAll_cons_mk (Below.trod laidOut (by kernel_rfl) (of_decide_eq_true (by kernel_rfl)) k0 bel lt0) trodAll_mk0), rfl, bel.frame _, fun h => by cases h⟩

theorem over : Rows.headLinesRow.holds Tryz.pinned (OpenSpec.ofChange Rows.headLinesSpec) :=
  OpenClaim.holds_of_wide 3 Tryz.f3 rfl rfl rfl rfl rfl rfl rfl ⟨rfl, rfl, rfl, rfl, rfl⟩ rfl rfl rfl rfl rfl (by kernel_rfl) Tryz.func3 (by kernel_rfl)
    (of_decide_eq_true (by kernel_rfl)) (by unfold Func.isWrapper; first | (rw [if_pos (by decide +kernel)]; kernel_rfl) | (rw [if_neg (by decide +kernel)]; exact ⟨rfl, rfl⟩))
    (fun os started H enc _ => lifted os started H enc)

theorem said : Rows.HeadLinesSaid := over
theorem plain (f : FuncId) (fn : Func) (hf : Tryz.pinned.checked.prog.funcNamed "usher/usherlaw13.HeadLines" = some f) (hfn : Tryz.pinned.checked.prog.funcs[f]? = some fn) :
    false = Tryz.pinned.checked.prog.looks [] ∧ ∀ (j : Nat) t, fn.params[j]? = some t → Tryz.pinned.checked.prog.wantsStandIn t = false := by
  obtain rfl : f = 3 := Option.some.inj ((show Tryz.prog.funcNamed "usher/usherlaw13.HeadLines" = some 3 by kernel_rfl).symm.trans hf) |>.symm
  obtain rfl : fn = Tryz.f3 := (Option.some.inj (Tryz.func3.symm.trans hfn)).symm
  refine ⟨by kernel_rfl, fun j t ht => ?_⟩
  rw [Tryz.params3] at ht
  have hm : t ∈ [22] := by simpa using Array.mem_of_getElem? ht
  simp only [List.mem_cons, List.mem_nil_iff, or_false] at hm
  rcases hm with rfl
  · exact (show Tryz.prog.wantsStandIn 22 = false by kernel_rfl)
theorem proved : Rows.HeadLinesCardSaid :=
  Claim7.holds_tied_plain_at .later [] _ _ _ _ said (fun _ h => by cases h) (by kernel_rfl) (fun _ h => by cases h) headLines_row_tie rfl ⟨rfl, rfl⟩ (by kernel_rfl) rfl plain (by kernel_rfl)
end Go.Proofs.YtjoineomkdiekaaGreatDoor.headLines
