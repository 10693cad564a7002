/- For every list of fields, those that are Added one by one are those that are Added at once, up to the first that is none: the law returns true. Condition: the library's tables are laid as its initialisers lay them. -/
import Derived.Test.YtakimadhbgpedaaDoorCards
import Derived.Test.YtakimadhbgpedaaDoorTie
import Derived.Lay
import Derived.LaidOnce
import Derived.MakeChecks
import Derived.SevenTiedAt
import Derived.WalkKit
import Derived.ProofKit
import Derived.OpenShut
import Derived.ShutString
import Derived.ChangeOld
import Derived.Below
import Derived.SizedLaws
import Derived.Test.YtakimadhbgpedaaDoorFq10
import Derived.Carry

namespace Go.Proofs.YtakimadhbgpedaaDoor.fieldOne
open Go.ChangeShapes Go.WideShapes Go.ChangeAt Go.RowKit
open Go.ChangeMaps (open_string shut_string)
set_option linter.unusedVariables false
theorem one_yes {k : Nat} {x y : ByteArray} (h : okF (x, y) = true) (hk : k < 24) : addR k [(x, y)] = (1, 0) := by
  have : ¬ k = 24 := by omega
  simp [addR, h, this]
theorem one_bad {k : Nat} {x y : ByteArray} (h : okF (x, y) = false) : addR k [(x, y)] = (0, 8) := by simp [addR, h]
theorem one_full {x y : ByteArray} (h : okF (x, y) = true) : addR 24 [(x, y)] = (0, 3) := by simp [addR, h]
theorem addF_one_yes {S : List FV} {x y : ByteArray} (h : okF (x, y) = true) (hk : S.length < 24) : addF S [(x, y)] = S ++ [(x, y)] := by unfold addF; rw [one_yes h hk]; rfl
theorem addF_one_bad {S : List FV} {x y : ByteArray} (h : okF (x, y) = false) : addF S [(x, y)] = S := by unfold addF; rw [one_bad h]; simp
theorem addF_one_full {S : List FV} {x y : ByteArray} (h : okF (x, y) = true) (hk : S.length = 24) : addF S [(x, y)] = S := by unfold addF; rw [hk, one_full h]; simp
set_option maxRecDepth 10000 in
set_option maxHeartbeats 4000000 in
theorem walk (W : World) (r : FRow) (hr : r.Ok W) : Calls Tryd.prog 7 #[r.v] W fun e W' => e = .returned (.bool true) ∧ Below W.heap.size W W' := by
  have HH := Lib.hid (heavy_one W r ⟨#[]⟩ hr (by decide))
  obtain ⟨A, C, l⟩ := r
  have HR := Lib.hid hr
  simp only [FRow.v] at HH ⊢
  clear hr
  go_enter Tryd.func7, Tryd.ntmps7
  go_wp2_with fail
  refine HH.out.mono ?_
  rintro e w1 ⟨hcase, hm1⟩
  rcases hcase with rfl | ⟨rfl, -, hlight⟩
  · have M1 := Lib.hid hm1
    clear hm1
    go_wp2
    go_ret
    exact ⟨rfl, M1.out.below⟩
  · have M1 := Lib.hid hm1
    have HL5 := Lib.hid hlight
    clear hm1 hlight
    go_wp2_with fail
    refine (of_a _ l _ (HR.out.fs.low M1.out) (by have := HL5.out.1; omega) HL5.out.small).mono ?_
    rintro e w2 ⟨ga, va, rfl, hA⟩
    have HA := Lib.hid hA
    clear hA
    unfold ptr at *
    go_wp2_with fail
    refine (of_none _).mono ?_
    rintro e w3 ⟨gb, vb, rfl, hB⟩
    have HT0 := Lib.hid (Two.make HA.out M1.out hB)
    clear hB HA
    have hl5 := HL5.out.1
    obtain ⟨A2, C2, hv, hcell⟩ := HR.out.fs.gen
    injection hv with h1 h2 h3
    subst h1 h3
    have HCL := Lib.hid hcell
    clear h2 hcell
    have HR2 := Lib.hid HR.out.fs
    clear HR
    unfold ptr
    go_wp2
    go_loopw [5] (fun i wr => ∃ (k : Nat) (ub : Value), k ≤ l.length ∧ i = .int .i64 k ∧ (∀ j (hj : j < l.length), j < k → okF l[j] = true) ∧ k ≤ 24 ∧ Two 62 62 W wr ga va (addF [] l) gb ub (l.take k)) (fun i _ => l.length - (intOf i).toNat)
    case atStart => exact ⟨0, vb, Nat.zero_le _, rfl, fun j _ h => absurd h (Nat.not_lt_zero _), Nat.zero_le _, HT0.out⟩
    case round =>
      obtain ⟨k, ub, hk, rfl, hok, hk24, hT⟩ := hrel
      have HK := Lib.hid hok
      have HT1 := Lib.hid hT
      clear hok hT
      by_cases hlt : k < l.length
      · obtain ⟨b, off, rfl, hc1, hc2⟩ := HCL.out k hlt
        have c0 : wr.cell? ⟨b, off + k * 2, none⟩ = some (.string l[k].1) := cell_mods hc1 HT1.out.low (by simp)
        have c1 : wr.cell? ⟨b, off + k * 2 + 1, none⟩ = some (.string l[k].2) := cell_mods hc2 HT1.out.low (by simp)
        have hsz := HL5.out.small l[k] (List.getElem_mem hlt)
        have HTK := Lib.hid (List.take_succ_eq_append_getElem hlt)
        obtain ⟨p, hp⟩ : ∃ p, p = l[k] := ⟨_, rfl⟩
        have HPE := Lib.hid hp
        rw [← hp] at c0 c1 hsz HTK
        clear hp hc1 hc2
        obtain ⟨x, y⟩ := p
        simp only at c0 c1 hsz
        obtain ⟨hs1, hs2⟩ := hsz
        have hsl : (l.take k).length = k := by rw [List.length_take]; omega
        have HAD := Lib.hid (add_one x y wr HT1.out.x hs1 hs2)
        rw [hsl] at HAD
        unfold ptr at HAD
        cases hf : okF (x, y) with
        | false =>
          have HFE := Lib.hid (show addF [] l = l.take k by unfold addF; rw [show ([] : List FV).length = 0 from rfl, addR_bad (k := 0) hlt HK.out (by omega) (by rw [← HPE.out]; exact hf)]; simp)
          rw [one_bad hf, addF_one_bad hf] at HAD
          clear hf hsl
          go_wp2_with fail
          refine HAD.out.mono ?_
          rintro e w4 ⟨u, rfl, ha⟩
          have HT := Lib.hid (HT1.out.xa ha)
          clear ha HT1

          obtain ⟨SK, hSK⟩ : ∃ SK, SK = l.take k := ⟨_, rfl⟩
          have hlk : SK.length = k := by rw [hSK, List.length_take]; omega
          have hq : ((SK.length : Int) == (k : Int)) = true := by rw [beq_iff_eq]; omega
          have HSK := Lib.hid (show SK.length ≤ 1000000 by have := HL5.out.1; omega)
          rw [HFE.out, ← hSK] at HT
          clear hSK hlk HFE
          go_wp2_with fail
          refine (all_a _ HT.out.p).mono ?_
          rintro e w5 ⟨B5, rfl, hG⟩
          have HG5 := Lib.hid hG
          have HT5 := Lib.hid (HT.out.quiet hG.low)
          clear hG
          go_wp2_with fail
          refine (all_a _ HT5.out.x).mono ?_
          rintro e w6 ⟨B6, rfl, hG⟩
          have HG6 := Lib.hid hG
          have HG56 := Lib.hid (HG5.out.mods hG.low)
          have HT6 := Lib.hid (HT5.out.quiet hG.low)
          clear hG
          go_wp2_with fail
          refine (fields_l SK SK _ _ _ (FsAt.of_row HG56.out.row) (FsAt.of_row HG6.out.row) HSK.out HSK.out).mono ?_
          rw [decide_eq_true (rfl : SK = SK)]
          rintro e w7 ⟨rfl, hd⟩
          have HT7 := Lib.hid (HT6.out.quiet (Mods.of_below hd.below))
          clear hd
          go_wp2_with (first
            | (go_at_call 26; refine (len_a _ HT7.out.p).mono ?_; rintro e w8 ⟨rfl, rfl⟩)
            | (go_at_call 11; refine (known_l _).mono ?_; rintro e w9 ⟨rfl, hm⟩; have M9 := Lib.hid (HT7.out.low.trans hm (fun _ h => nomatch h)); clear hm))
          go_ret
          exact ⟨rfl, M9.out.below⟩
        | true =>
          by_cases h24 : k = 24
          · have HFE := Lib.hid (show addF [] l = l.take k by unfold addF; rw [show ([] : List FV).length = 0 from rfl, addR_full (k := 0) hlt HK.out (by omega) (by rw [← HPE.out]; exact hf)]; simp)
            rw [show addR k [(x, y)] = (0, 3) by rw [h24]; exact one_full hf, addF_one_full hf (by rw [hsl]; exact h24)] at HAD
            clear hf hsl h24
            go_wp2_with fail
            refine HAD.out.mono ?_
            rintro e w4 ⟨u, rfl, ha⟩
            have HT := Lib.hid (HT1.out.xa ha)
            clear ha HT1

            obtain ⟨SK, hSK⟩ : ∃ SK, SK = l.take k := ⟨_, rfl⟩
            have hlk : SK.length = k := by rw [hSK, List.length_take]; omega
            have hq : ((SK.length : Int) == (k : Int)) = true := by rw [beq_iff_eq]; omega
            have HSK := Lib.hid (show SK.length ≤ 1000000 by have := HL5.out.1; omega)
            rw [HFE.out, ← hSK] at HT
            clear hSK hlk HFE
            go_wp2_with fail
            refine (all_a _ HT.out.p).mono ?_
            rintro e w5 ⟨B5, rfl, hG⟩
            have HG5 := Lib.hid hG
            have HT5 := Lib.hid (HT.out.quiet hG.low)
            clear hG
            go_wp2_with fail
            refine (all_a _ HT5.out.x).mono ?_
            rintro e w6 ⟨B6, rfl, hG⟩
            have HG6 := Lib.hid hG
            have HG56 := Lib.hid (HG5.out.mods hG.low)
            have HT6 := Lib.hid (HT5.out.quiet hG.low)
            clear hG
            go_wp2_with fail
            refine (fields_l SK SK _ _ _ (FsAt.of_row HG56.out.row) (FsAt.of_row HG6.out.row) HSK.out HSK.out).mono ?_
            rw [decide_eq_true (rfl : SK = SK)]
            rintro e w7 ⟨rfl, hd⟩
            have HT7 := Lib.hid (HT6.out.quiet (Mods.of_below hd.below))
            clear hd
            go_wp2_with (first
              | (go_at_call 26; refine (len_a _ HT7.out.p).mono ?_; rintro e w8 ⟨rfl, rfl⟩)
              | (go_at_call 11; refine (known_l _).mono ?_; rintro e w9 ⟨rfl, hm⟩; have M9 := Lib.hid (HT7.out.low.trans hm (fun _ h => nomatch h)); clear hm))
            go_ret
            exact ⟨rfl, M9.out.below⟩
          · rw [one_yes hf (by omega), addF_one_yes hf (by rw [hsl]; omega)] at HAD
            have HOK := Lib.hid hf
            have hk25 : k + 1 ≤ 24 := by omega
            clear hf hsl h24
            go_wp2_with (go_at_call 15; refine HAD.out.mono ?_; rintro e w4 ⟨u, rfl, ha⟩; have HT := Lib.hid (HT1.out.xa ha); clear ha)
            go_roundw
            case rel =>
              refine ⟨k + 1, u, by omega, by go_num, fun j hj hjk => ?_, hk25, by rw [HTK.out]; exact HT.out⟩
              by_cases e : j = k
              · subst e; rw [← HPE.out]; exact HOK.out
              · exact HK.out j hj (by omega)
            case measure => simp [intOf]; omega
      · have HFE := Lib.hid (show addF [] l = l.take k by
          obtain rfl : k = l.length := by omega
          unfold addF; rw [show ([] : List FV).length = 0 from rfl, addR_end (k := 0) (fun j hj h => HK.out j hj h) (by omega)]; simp)
        have HT := HT1
        clear HT1

        obtain ⟨SK, hSK⟩ : ∃ SK, SK = l.take k := ⟨_, rfl⟩
        have hlk : SK.length = k := by rw [hSK, List.length_take]; omega
        have hq : ((SK.length : Int) == (k : Int)) = true := by rw [beq_iff_eq]; omega
        have HSK := Lib.hid (show SK.length ≤ 1000000 by have := HL5.out.1; omega)
        rw [HFE.out, ← hSK] at HT
        clear hSK hlk HFE
        go_wp2_with fail
        refine (all_a _ HT.out.p).mono ?_
        rintro e w5 ⟨B5, rfl, hG⟩
        have HG5 := Lib.hid hG
        have HT5 := Lib.hid (HT.out.quiet hG.low)
        clear hG
        go_wp2_with fail
        refine (all_a _ HT5.out.x).mono ?_
        rintro e w6 ⟨B6, rfl, hG⟩
        have HG6 := Lib.hid hG
        have HG56 := Lib.hid (HG5.out.mods hG.low)
        have HT6 := Lib.hid (HT5.out.quiet hG.low)
        clear hG
        go_wp2_with fail
        refine (fields_l SK SK _ _ _ (FsAt.of_row HG56.out.row) (FsAt.of_row HG6.out.row) HSK.out HSK.out).mono ?_
        rw [decide_eq_true (rfl : SK = SK)]
        rintro e w7 ⟨rfl, hd⟩
        have HT7 := Lib.hid (HT6.out.quiet (Mods.of_below hd.below))
        clear hd
        go_wp2_with (first
          | (go_at_call 26; refine (len_a _ HT7.out.p).mono ?_; rintro e w8 ⟨rfl, rfl⟩)
          | (go_at_call 11; refine (known_l _).mono ?_; rintro e w9 ⟨rfl, hm⟩; have M9 := Lib.hid (HT7.out.low.trans hm (fun _ h => nomatch h)); clear hm))
        go_ret
        exact ⟨rfl, M9.out.below⟩

theorem own : ownKnob Tryd.prog.godebug = none := by kernel_rfl
theorem laidOut : laidOutB Tryd.prog = true := by kernel_rfl
set_option maxRecDepth 100000 in
theorem lifted (os : Os) (started : os.Started) (H : Type) (enc : TypeId × Value → H) :
    ReturnsInHanded {} Tryd.checked os 7 .any (fun w args => (Rows.fieldOneSpec.pre enc Tryd.prog Tryd.f7 [] false w args ∧ laidMetH Tryd.prog Rows.fieldOneRow.laid w) ∧ sizedMet enc Tryd.prog Tryd.f7 (OpenSpec.ofChange Rows.fieldOneSpec) false w args)
      (Rows.fieldOneSpec.post enc Tryd.prog Tryd.f7 false true false false) := by
  refine returnsInHanded_of_change_and (C := Tryd.checked) (X := fun w _ => laidMetH Tryd.prog Rows.fieldOneRow.laid w) (fun _ _ _ hh h => h.of_heap hh) own started (by kernel_rfl) Tryd.func7
    (ChangeSpec.witness_shaped (enc := enc) (C := Tryd.checked) (os := os) (X := fun w _ => laidMetH Tryd.prog Rows.fieldOneRow.laid w) false (World.laidAll Tryd.prog os Rows.fieldOneRow.laid) #[.slice none 0 0] 8 (World.laidAll_os _ _ _)
      (World.shaped_of_ZipB (by kernel_rfl) (by kernel_rfl)) (by kernel_rfl) (by kernel_rfl) (by kernel_rfl)
      (by rw [MakeChecks.laidMetH_plain _ _ _ (by kernel_rfl)]; exact laidMet_laidAll _ (by kernel_rfl) (by kernel_rfl))) ?_
  intro W base args ds gs before hval0 hW hcnd hsz0 hL _
  have hsz : (DataW.weightsEach Tryd.prog (Tryd.f7.params.toList ++ Rows.fieldOneSpec.plain.varTypes Tryd.prog) (ds ++ gs)).all (· ≤ reachBytes) = true := hsz0
  have hval : ∀ (j : Nat) t v, Tryd.f7.params[j]? = some t → args[j]? = some v → Value.okWide Tryd.prog W .any base t v := hval0
  have hW' := hW
  obtain ⟨p, q, hA0, hV, rfl, hfz, hnd⟩ := hW
  have hA : DataW.TrodAll enc Tryd.prog W 0 (fun _ => true) true Tryd.f7.params.toList args.toList ds p := hA0
  rw [Tryd.params7] at hA hval hsz
  obtain ⟨v0, vs0, d0, ds0, p0, q0, hargs, rfl, rfl, h0, r0⟩ := trodAll_cons hA
  obtain ⟨rfl, rfl, rfl⟩ := trodAll_nil r0
  obtain rfl : args = #[v0] := by cases args; simp_all
  obtain ⟨rfl, rfl⟩ := trodVars_none hV
  have k0 := h0
  have lt0 : ∀ x ∈ p0, x.block < W.heap.size := by obtain ⟨m, hm⟩ := k0; exact DataW.trod_lt m _ _ _ hm
  obtain ⟨r0, rfl, o0⟩ := open_fs (hval 0 31 v0 rfl rfl) k0 (fun n hn => by simpa using List.all_eq_true.1 hsz n (DataW.weights_mem_each (j := 0) (t := 31) rfl rfl n hn))
  clear hA0 hval0 hsz0 hsz
  refine (walk W r0 o0).mono fun e W' ⟨he, bel⟩ => ?_
  subst he
  exact ⟨_, rfl, _, _, _, [], _, [], hW', trodAll_mk1 (shut_bool Tryd.underlying4 _), (trodAll_cons_mk (Below.trod laidOut (by kernel_rfl) (of_decide_eq_true (by kernel_rfl)) k0 bel lt0) trodAll_mk0), rfl, bel.frame _, fun h => by cases h⟩

theorem over : Rows.fieldOneRow.holds Tryd.pinned (OpenSpec.ofChange Rows.fieldOneSpec) :=
  OpenClaim.holds_of_wide 7 Tryd.f7 rfl rfl rfl rfl rfl rfl rfl ⟨rfl, rfl, rfl, rfl, rfl⟩ rfl rfl rfl rfl rfl (by kernel_rfl) Tryd.func7 (by kernel_rfl)
    (of_decide_eq_true (by kernel_rfl)) (by unfold Func.isWrapper; first | (rw [if_pos (by decide +kernel)]; kernel_rfl) | (rw [if_neg (by decide +kernel)]; exact ⟨rfl, rfl⟩))
    (fun os started H enc _ => lifted os started H enc)

theorem said : Rows.FieldOneSaid := over
theorem plain (f : FuncId) (fn : Func) (hf : Tryd.pinned.checked.prog.funcNamed "usher/usherlaw10.FieldOne" = some f) (hfn : Tryd.pinned.checked.prog.funcs[f]? = some fn) :
    false = Tryd.pinned.checked.prog.looks [] ∧ ∀ (j : Nat) t, fn.params[j]? = some t → Tryd.pinned.checked.prog.wantsStandIn t = false := by
  obtain rfl : f = 7 := Option.some.inj ((show Tryd.prog.funcNamed "usher/usherlaw10.FieldOne" = some 7 by kernel_rfl).symm.trans hf) |>.symm
  obtain rfl : fn = Tryd.f7 := (Option.some.inj (Tryd.func7.symm.trans hfn)).symm
  refine ⟨by kernel_rfl, fun j t ht => ?_⟩
  rw [Tryd.params7] at ht
  have hm : t ∈ [31] := by simpa using Array.mem_of_getElem? ht
  simp only [List.mem_cons, List.mem_nil_iff, or_false] at hm
  rcases hm with rfl
  · exact (show Tryd.prog.wantsStandIn 31 = false by kernel_rfl)
theorem proved : Rows.FieldOneCardSaid :=
  Claim7.holds_tied_plain_at .later [] _ _ _ _ said (fun _ h => by cases h) (by kernel_rfl) (fun _ h => by cases h) fieldOne_row_tie rfl ⟨rfl, rfl⟩ (by kernel_rfl) rfl plain (by kernel_rfl)
end Go.Proofs.YtakimadhbgpedaaDoor.fieldOne
