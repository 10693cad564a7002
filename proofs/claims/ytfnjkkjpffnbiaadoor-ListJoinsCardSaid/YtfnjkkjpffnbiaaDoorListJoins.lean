/- For every list of texts, the tokens of several values are those of all of them, joined by commas: the law returns true. Condition: the library's tables are laid as its initialisers lay them. -/
import Derived.Test.YtfnjkkjpffnbiaaDoorCards
import Derived.Test.YtfnjkkjpffnbiaaDoorTie
import Derived.Lay
import Derived.LaidOnce
import Derived.MakeChecks
import Derived.SevenTiedAt
import Derived.WalkKit
import Derived.ProofKit
import Derived.OpenShut
import Derived.ShutString
import Derived.ChangeOld
import Derived.Below
import Derived.SizedLaws
import Derived.Test.YtfnjkkjpffnbiaaDoorLi9
import Derived.Carry

namespace Go.Proofs.YtfnjkkjpffnbiaaDoor.listJoins
open Go.ChangeShapes Go.WideShapes Go.ChangeAt Go.RowKit
open Go.ChangeMaps (open_string shut_string)
set_option linter.unusedVariables false

theorem low_next {w a b : World} (h : Below w.heap.size w a) (k : Below a.heap.size a b) : Below w.heap.size w b := h.trans (k.mono h.size)
theorem strs_one (w : World) (s : ByteArray) : StrsAt (w.alloc (.cells #[.string s] 9)) (.slice (some ⟨w.heap.size, 0, none⟩) 1 1) [s] := strs_new w [s] (by simp)
theorem tok_cong {a b : List ByteArray} (h : partsO a = partsO b) : tokM a = tokM b ∧ tokK a = tokK b := by
  unfold tokM tokK toksO; rw [h]; exact ⟨rfl, rfl⟩
set_option maxRecDepth 100000 in
set_option maxHeartbeats 1000000 in
theorem walk (w : World) (v : Value) (o : IsStrs w v) :
    Calls Tryd.prog 4 #[v] w fun e w' => e = .returned (.bool true) ∧ Below w.heap.size w w' := by
  obtain ⟨ts, hts, hz, hl⟩ := strs_of o
  have hh := heavy_l ts v w hts hz hl
  by_cases hbig : 3000 < sizes ts
  · rw [decide_eq_true hbig] at hh
    obtain ⟨a, ca, rfl⟩ := hts.len
    clear hbig
    go_enter Tryd.func4, Tryd.ntmps4
    go_wp2_with (go_at_call 9; refine hh.mono ?_; rintro e w' ⟨rfl, rfl⟩)
    go_ret
    exact ⟨rfl, Below.refl _ _⟩
  · rw [decide_eq_false hbig] at hh
    have hs3 : sizes ts ≤ 3000 := by omega
    have hs : sizes ts ≤ 1000000 := by omega
    have hML := tokM_len hs
    have hTK := tokens_a ts v w hts hs
    clear hbig hz hl o
    have HTS := Lib.hid hts
    rcases hts with ⟨rfl, a, cap, rfl⟩ | ⟨b, off, cap, rfl, h0, hb, hc⟩
    · go_enter Tryd.func4, Tryd.ntmps4
      go_wp2_with (go_at_call 9; refine hh.mono ?_; rintro e w' ⟨rfl, rfl⟩)
      go_ret
      exact ⟨rfl, Below.refl _ _⟩
    · have hc0 : w.cell? ⟨b, off, none⟩ = some (.string ts[0]) := hc 0 h0
      have hne : ((ts.length : Int) == 0) = false := by rw [beq_eq_false_iff_ne]; omega
      have htl : ts.length ≤ 1000000 := Nat.le_trans (sizes_len ts) hs
      have HC := Lib.hid hc
      have HS3 := Lib.hid hs3
      have H00 := Lib.hid h0
      have hz0 : ts[0].size ≤ 3000 := by have := sizes_at ts 0 h0; omega
      clear hc
      go_enter Tryd.func4, Tryd.ntmps4
      go_wp2_with (go_at_call 9; refine hh.mono ?_; rintro e w' ⟨rfl, rfl⟩)
      go_loop [3, 4] (fun s i => ∃ (k : Nat) (S : ByteArray), 1 ≤ k ∧ k ≤ ts.length ∧ s = .string S ∧ i = .int .i64 k ∧ splitC S.data.toList = partsO (ts.take k) ∧ S.size + 1 = sizes (ts.take k)) (fun _ i => ts.length - (intOf i).toNat)
      case atStart =>
        refine ⟨1, ts[0], Nat.le_refl _, h0, rfl, rfl, ?_, ?_⟩
        · rw [partsO_snoc ts 0 h0]; rfl
        · rw [sizes_step ts 0 h0]; show _ = 0 + 1 + _; omega
      case round =>
        obtain ⟨k, S, hk1, hk, rfl, rfl, hsp, hsz⟩ := hrel
        have HSP := Lib.hid hsp
        have HSZ := Lib.hid hsz
        have hS : S.size ≤ 3000 := by have := sizes_take ts k; have := HS3.out; omega
        clear hsp hsz
        by_cases hlt : k < ts.length
        · have hc1 := HC.out k hlt
          have hzk : ts[k].size ≤ 3000 := by have := sizes_at ts k hlt; have := HS3.out; omega
          go_wp2
          go_round
          case rel =>
            refine ⟨k + 1, _, by omega, hlt, rfl, by go_num, ?_, ?_⟩
            · rw [partsO_snoc ts k hlt, ByteArray.data_append, ByteArray.data_append, Array.toList_append, Array.toList_append, List.append_assoc]
              show splitC (S.data.toList ++ 44 :: ts[k].data.toList) = _
              rw [split_join, HSP.out]
            · rw [sizes_step ts k hlt, ← HSZ.out, ByteArray.size_append, ByteArray.size_append]
              show S.size + 1 + ts[k].size + 1 = _; omega
          case measure => simp [intOf]; omega
        · obtain rfl : k = ts.length := by omega
          have hpp : partsO [S] = partsO ts := by rw [partsO_one, HSP.out, List.take_length]
          obtain ⟨hm1, hm2⟩ := tok_cong hpp
          have hT2 := fun (w : World) h => tokens_a [S] (.slice (some ⟨w.heap.size, 0, none⟩) 1 1) (w.alloc (.cells #[.string S] 9)) h (by show 1 + S.size + 0 ≤ _; omega)
          clear hpp HSP
          go_wp2_with (first
            | (go_at_call 10; refine hTK.mono ?_; rintro e w1 he; obtain ⟨a1, c1, rfl, h1, hb1⟩ := tok_ans he; have H1 := Lib.hid h1; have HB1 := Lib.hid hb1; clear h1 hb1 he hTK)
            | (go_at_call 10; refine (hT2 w1 (strs_one w1 S)).mono ?_; rintro e w2 he; obtain ⟨a2, c2, he2, h2, hb2⟩ := tok_ans he; rw [hm1, hm2] at he2; rw [hm1] at h2; subst he2; have H2 := Lib.hid h2; have hb3 := low_next ((Below.refl w1.heap.size w1).alloc (Nat.le_refl _) _) hb2; have HB2 := Lib.hid hb3; clear h2 hb2 hb3 he hT2)
            | (go_at_call 12; refine (texts_l (tokM ts) (tokM ts) _ _ _ (H1.out.below HB2.out) H2.out hML hML).mono ?_; rintro e w3 ⟨rfl, hd⟩; rw [decide_eq_true (rfl : tokM ts = tokM ts)]; have HB3 := Lib.hid hd.below; clear hd)
            | (go_at_call 15; refine (known9 _).mono ?_; rintro e w7 ⟨rfl, hb7⟩; have HB7 := Lib.hid hb7; clear hb7))
          go_ret
          exact ⟨rfl, low_next (low_next (low_next HB1.out HB2.out) HB3.out) HB7.out⟩

theorem own : ownKnob Tryd.prog.godebug = none := by kernel_rfl
theorem laidOut : laidOutB Tryd.prog = true := by kernel_rfl
set_option maxRecDepth 100000 in
theorem lifted (os : Os) (started : os.Started) (H : Type) (enc : TypeId × Value → H) :
    ReturnsInHanded {} Tryd.checked os 4 .any (fun w args => (Rows.listJoinsSpec.pre enc Tryd.prog Tryd.f4 [] false w args ∧ laidMetH Tryd.prog Rows.listJoinsRow.laid w) ∧ sizedMet enc Tryd.prog Tryd.f4 (OpenSpec.ofChange Rows.listJoinsSpec) false w args)
      (Rows.listJoinsSpec.post enc Tryd.prog Tryd.f4 false true false false) := by
  refine returnsInHanded_of_change_and (C := Tryd.checked) (X := fun w _ => laidMetH Tryd.prog Rows.listJoinsRow.laid w) (fun _ _ _ hh h => h.of_heap hh) own started (by kernel_rfl) Tryd.func4
    (ChangeSpec.witness_shaped (enc := enc) (C := Tryd.checked) (os := os) (X := fun w _ => laidMetH Tryd.prog Rows.listJoinsRow.laid w) false (World.laidAll Tryd.prog os Rows.listJoinsRow.laid) #[.slice none 0 0] 8 (World.laidAll_os _ _ _)
      (World.shaped_of_ZipB (by kernel_rfl) (by kernel_rfl)) (by kernel_rfl) (by kernel_rfl) (by kernel_rfl)
      (by rw [MakeChecks.laidMetH_plain _ _ _ (by kernel_rfl)]; exact laidMet_laidAll _ (by kernel_rfl) (by kernel_rfl))) ?_
  intro W base args ds gs before hval0 hW hcnd hsz0 hL _
  have hsz : (DataW.weightsEach Tryd.prog (Tryd.f4.params.toList ++ Rows.listJoinsSpec.plain.varTypes Tryd.prog) (ds ++ gs)).all (· ≤ reachBytes) = true := hsz0
  have hval : ∀ (j : Nat) t v, Tryd.f4.params[j]? = some t → args[j]? = some v → Value.okWide Tryd.prog W .any base t v := hval0
  have hW' := hW
  obtain ⟨p, q, hA0, hV, rfl, hfz, hnd⟩ := hW
  have hA : DataW.TrodAll enc Tryd.prog W 0 (fun _ => true) true Tryd.f4.params.toList args.toList ds p := hA0
  rw [Tryd.params4] at hA hval hsz
  obtain ⟨v0, vs0, d0, ds0, p0, q0, hargs, rfl, rfl, h0, r0⟩ := trodAll_cons hA
  obtain ⟨rfl, rfl, rfl⟩ := trodAll_nil r0
  obtain rfl : args = #[v0] := by cases args; simp_all
  obtain ⟨rfl, rfl⟩ := trodVars_none hV
  have k0 := h0
  have lt0 : ∀ x ∈ p0, x.block < W.heap.size := by obtain ⟨m, hm⟩ := k0; exact DataW.trod_lt m _ _ _ hm
  have o0 := open_slice_string Tryd.underlying22 Tryd.underlying9 (by kernel_rfl) (by kernel_rfl) (hval 0 22 v0 rfl rfl) h0 (fun n hn => by simpa using List.all_eq_true.1 hsz n (DataW.weights_mem_each (j := 0) (t := 22) rfl rfl n hn))
  clear hA0 hval0 hsz0 hsz
  refine (walk W v0 o0).mono fun e W' ⟨he, bel⟩ => ?_
  subst he
  exact ⟨_, rfl, _, _, _, [], _, [], hW', trodAll_mk1 (shut_bool Tryd.underlying4 _), (trodAll_cons_mk (Below.trod laidOut (by kernel_rfl) (of_decide_eq_true (by kernel_rfl)) k0 bel lt0) trodAll_mk0), rfl, bel.frame _, fun h => by cases h⟩

theorem over : Rows.listJoinsRow.holds Tryd.pinned (OpenSpec.ofChange Rows.listJoinsSpec) :=
  OpenClaim.holds_of_wide 4 Tryd.f4 rfl rfl rfl rfl rfl rfl rfl ⟨rfl, rfl, rfl, rfl, rfl⟩ rfl rfl rfl rfl rfl (by kernel_rfl) Tryd.func4 (by kernel_rfl)
    (of_decide_eq_true (by kernel_rfl)) (by unfold Func.isWrapper; first | (rw [if_pos (by decide +kernel)]; kernel_rfl) | (rw [if_neg (by decide +kernel)]; exact ⟨rfl, rfl⟩))
    (fun os started H enc _ => lifted os started H enc)

theorem said : Rows.ListJoinsSaid := over
theorem plain (f : FuncId) (fn : Func) (hf : Tryd.pinned.checked.prog.funcNamed "usher/usherlaw9.ListJoins" = some f) (hfn : Tryd.pinned.checked.prog.funcs[f]? = some fn) :
    false = Tryd.pinned.checked.prog.looks [] ∧ ∀ (j : Nat) t, fn.params[j]? = some t → Tryd.pinned.checked.prog.wantsStandIn t = false := by
  obtain rfl : f = 4 := Option.some.inj ((show Tryd.prog.funcNamed "usher/usherlaw9.ListJoins" = some 4 by kernel_rfl).symm.trans hf) |>.symm
  obtain rfl : fn = Tryd.f4 := (Option.some.inj (Tryd.func4.symm.trans hfn)).symm
  refine ⟨by kernel_rfl, fun j t ht => ?_⟩
  rw [Tryd.params4] at ht
  have hm : t ∈ [22] := by simpa using Array.mem_of_getElem? ht
  simp only [List.mem_cons, List.mem_nil_iff, or_false] at hm
  rcases hm with rfl
  · exact (show Tryd.prog.wantsStandIn 22 = false by kernel_rfl)
theorem proved : Rows.ListJoinsCardSaid :=
  Claim7.holds_tied_plain_at .later [] _ _ _ _ said (fun _ h => by cases h) (by kernel_rfl) (fun _ h => by cases h) listJoins_row_tie rfl ⟨rfl, rfl⟩ (by kernel_rfl) rfl plain (by kernel_rfl)
end Go.Proofs.YtfnjkkjpffnbiaaDoor.listJoins
