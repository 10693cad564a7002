/- For every list of fields and every name, behind a Drop no field of that name is there, and all others are, in their order: the law returns true. Condition: the library's tables are laid as its initialisers lay them. -/
import Derived.Test.YtakimadhbgpedaaDoorCards
import Derived.Test.YtakimadhbgpedaaDoorTie
import Derived.Lay
import Derived.LaidOnce
import Derived.MakeChecks
import Derived.SevenTiedAt
import Derived.WalkKit
import Derived.ProofKit
import Derived.OpenShut
import Derived.ShutString
import Derived.ChangeOld
import Derived.Below
import Derived.SizedLaws
import Derived.Test.YtakimadhbgpedaaDoorFq10
import Derived.Carry

namespace Go.Proofs.YtakimadhbgpedaaDoor.fieldDrops
open Go.ChangeShapes Go.WideShapes Go.ChangeAt Go.RowKit
open Go.ChangeMaps (open_string shut_string)
set_option linter.unusedVariables false
theorem addR_ok : ∀ (l : List FV) (k : Nat) (p : FV), p ∈ l.take (addR k l).1 → okF p = true
  | [], k, p, h => by simp at h
  | q :: r, k, p, h => by
    unfold addR at h
    split at h
    case isTrue hq =>
      split at h
      · simp at h
      · rw [List.take_succ_cons, List.mem_cons] at h
        rcases h with rfl | h
        · exact hq
        · exact addR_ok r (k + 1) p h
    case isFalse => simp at h
theorem one_ok {x y : ByteArray} (h : okF (x, y) = true) : addF [] [(x, y)] = [(x, y)] := by unfold addF; simp [addR, h]
theorem vals_one (x y n : ByteArray) : (valsF [(x, y)] n).length = if sameL x n = true then 1 else 0 := by
  unfold valsF namedF
  by_cases h : sameL x n = true <;> simp [h]
theorem isIn_one (n x : ByteArray) : isIn [n] x = sameL x n := by unfold isIn; simp [sameL_comm]
theorem drop_vals (S : List FV) (n : ByteArray) : valsF (dropF S [n]) n = [] := by
  unfold valsF namedF dropF
  rw [List.filter_filter, List.map_eq_nil_iff, List.filter_eq_nil_iff]
  intro p _
  rw [isIn_one]
  cases sameL p.1 n <;> simp
theorem drop_count (S : List FV) (n : ByteArray) : (dropF S [n]).length + (valsF S n).length = S.length := by
  unfold valsF namedF dropF
  rw [List.length_map]
  induction S with
  | nil => rfl
  | cons p r ih =>
    simp only [List.filter_cons, isIn_one] at ih ⊢
    cases sameL p.1 n <;> simp <;> omega
set_option maxRecDepth 10000 in
set_option maxHeartbeats 4000000 in
theorem walk (W : World) (r : FRow) (hr : r.Ok W) (nm : ByteArray) (hnm : nm.size ≤ 140737488351232) : Calls Tryd.prog 8 #[r.v, .string nm] W fun e W' => e = .returned (.bool true) ∧ Below W.heap.size W W' := by
  have HH := Lib.hid (heavy_one W r nm hr hnm)
  obtain ⟨A, C, l⟩ := r
  have HR := Lib.hid hr
  simp only [FRow.v] at HH ⊢
  clear hr
  go_enter Tryd.func8, Tryd.ntmps8
  go_wp2_with fail
  refine HH.out.mono ?_
  rintro e w1 ⟨hcase, hm1⟩
  rcases hcase with rfl | ⟨rfl, hn5, hlight⟩
  · have M1 := Lib.hid hm1
    clear hm1
    go_wp2
    go_ret
    exact ⟨rfl, M1.out.below⟩
  · have M1 := Lib.hid hm1
    have HL5 := Lib.hid hlight
    have hn6 : nm.size ≤ 1000000 := by omega
    clear hm1 hlight hn5
    go_wp2_with fail
    refine (of_a _ l _ (HR.out.fs.low M1.out) (by have := HL5.out.1; omega) HL5.out.small).mono ?_
    rintro e w2 ⟨g, v, rfl, hA⟩
    have HOKS := Lib.hid (fun p (hp : p ∈ addF [] l) => addR_ok l 0 p (by simpa [addF] using hp))
    obtain ⟨S, hS⟩ : ∃ S, S = addF [] l := ⟨_, rfl⟩
    rw [← hS] at hA HOKS
    have HA := Lib.hid hA
    clear hA hS HR
    unfold ptr
    go_wp2_with fail
    refine (all_a _ HA.out.fld).mono ?_
    rintro e w3 ⟨B, rfl, hG⟩
    have HG3 := Lib.hid hG
    have HF3 := Lib.hid (HA.out.fld.low hG.low)
    clear hG
    go_wp2_with fail
    refine (vals_a nm _ HF3.out hn6).mono ?_
    rintro e w4 ⟨u4, rfl, hG⟩
    obtain ⟨a4, c4, rfl⟩ := hG.form
    have HG4 := Lib.hid (HG3.out.mods hG.low)
    have HF4 := Lib.hid (HF3.out.low hG.low)
    clear hG HF3
    have hdr := drop_a (.slice (some ⟨w4.heap.size, 0, none⟩) 1 1) [nm] _ (HF4.out.low ((Mods.refl [] w4).alloc (.cells #[.string nm] 9))) (SsAt.new w4 9 [nm] (by simp)) (by simp)
      (by intro p hp; rw [List.mem_singleton] at hp; subst hp; exact hn6) (fun k hk hk2 => by
        have hk3 : k = w4.heap.size := by simpa [Value.ownBlock, eq_comm] using hk
        subst hk3
        exact Nat.lt_irrefl _ (HF4.out.lt _ hk2))
    have HDR := Lib.hid hdr
    clear hdr
    have HCNT := Lib.hid (drop_count S nm)
    have HDV := Lib.hid (drop_vals S nm)
    unfold ptr at HDR
    go_wp2_with fail
    refine HDR.out.mono ?_
    rintro e w5 ⟨u, rfl, hub, hf5, hm5⟩
    have HW5 := Lib.hid (show FsAt w5 (.slice (some ⟨B, 0, none⟩) S.length S.length) S from (FsAt.of_row HG4.out.row).mods (F := bl g v) (((Mods.refl (bl g v) w4).alloc _).trans hm5 (fun k hk => .inl hk)) (fun k hk hk2 => by
      have h1 := HG4.out.news k hk
      have h2 := HA.out.fld.blt k hk2
      omega))
    have HF5 := Lib.hid hf5
    have hnews : ∀ k ∈ bl g v, W.heap.size ≤ k := fun k hk => by
      have hs := M1.out.size
      rw [List.mem_cons] at hk
      rcases hk with rfl | hk
      · exact Nat.le_trans hs HA.out.new
      · exact Nat.le_trans hs (HA.out.news k hk)
    have HLW := Lib.hid (show Mods [] W w5 from ((M1.out.trans HA.out.mods (fun _ h => nomatch h)).trans HG4.out.low (fun _ h => nomatch h)).trans (((Mods.refl (bl g v) w4).alloc _).trans hm5 (fun k hk => .inl hk)) (fun k hk => .inr (hnews k hk)))
    have hs24 := HA.out.fld.len
    have HSM := Lib.hid HA.out.fld.small
    obtain ⟨A2, C2, hv, hcell⟩ := HW5.out.gen
    injection hv with h1 h2 h3
    subst h1 h3
    have HCL := Lib.hid hcell
    clear h2 hcell hub hf5 hm5 hnews HDR HF4 HG4 HA HG3 M1
    have hcnt := HCNT.out
    have hdn : (((S.length : Int) - ((dropF S [nm]).length : Int)) == ((valsF S nm).length : Int)) = true := by rw [beq_iff_eq]; omega
    obtain ⟨D, hD⟩ : ∃ D, D = dropF S [nm] := ⟨_, rfl⟩
    obtain ⟨dn, hdn2⟩ : ∃ dn : Int, dn = (S.length : Int) - ((dropF S [nm]).length : Int) := ⟨_, rfl⟩
    obtain ⟨kn, hkn⟩ : ∃ kn : Nat, kn = (valsF S nm).length := ⟨_, rfl⟩
    rw [← hdn2, ← hkn] at hdn
    rw [← hdn2, ← hkn]
    rw [← hD] at HF5 HDV
    have HDE := Lib.hid hD
    clear hcnt hdn2 hkn hD HCNT
    go_wp2
    go_loopw [9, 10] (fun u i wr => ∃ (k : Nat), k ≤ S.length ∧ i = .int .i64 k ∧ Gt w5 23 2 (dropF (S.take k) [nm]).length (encF (dropF (S.take k) [nm])) u wr) (fun _ i _ => S.length - (intOf i).toNat)
    case atStart => exact ⟨0, Nat.zero_le _, rfl, Gt.nil _ _ _⟩
    case round =>
      obtain ⟨k, hk, rfl, hG⟩ := hrel
      have HG := Lib.hid hG
      clear hG
      by_cases hlt : k < S.length
      · obtain ⟨b, off, hbo, hc1, hc2⟩ := HCL.out k hlt
        injection hbo with hbo
        injection hbo with hbo1 hbo2
        subst hbo1 hbo2
        rw [Nat.zero_add] at hc1 hc2
        have c0 : wr.cell? ⟨B, k * 2, none⟩ = some (.string S[k].1) := cell_mods hc1 HG.out.low (by simp)
        have c1 : wr.cell? ⟨B, k * 2 + 1, none⟩ = some (.string S[k].2) := cell_mods hc2 HG.out.low (by simp)
        have hsz := HSM.out S[k] (List.getElem_mem hlt)
        have hokp := HOKS.out S[k] (List.getElem_mem hlt)
        have HTK := Lib.hid (List.take_succ_eq_append_getElem hlt)
        have HT := Lib.hid (dropF_snoc (S.take k) S[k] [nm])
        have HLN := Lib.hid (dropF_len (S.take k) [nm])
        obtain ⟨p, hp⟩ : ∃ p, p = S[k] := ⟨_, rfl⟩
        rw [← hp] at c0 c1 hsz HTK hokp HT
        clear hp hc1 hc2
        obtain ⟨x, y⟩ := p
        rw [isIn_one] at HT
        simp only at c0 c1 hsz
        obtain ⟨hs1, hs2⟩ := hsz
        have HOF := Lib.hid (of_one x y wr hs1 hs2)
        rw [one_ok hokp] at HOF
        have hv1 := vals_one x y nm
        obtain ⟨va, vc, rfl⟩ := HG.out.form
        have hroom : (dropF (S.take k) [nm]).length + 1 ≤ 1000000 := by have := HLN.out; rw [List.length_take] at this; omega
        unfold ptr at HOF
        clear hokp
        cases hsm : sameL x nm with
        | true =>
          rw [hsm, if_pos rfl, List.append_nil] at HT
          rw [hsm, if_pos rfl] at hv1
          clear hsm
          go_wp2_with fail
          refine HOF.out.mono ?_
          rintro e w6 ⟨g6, u6, rfl, hf6, hm6⟩
          have HF6 := Lib.hid hf6
          have HG6 := Lib.hid (HG.out.mods hm6)
          clear hf6 hm6
          go_wp2_with fail
          refine (vals_a nm _ HF6.out hn6).mono ?_
          rintro e w7 ⟨u7, rfl, hG7⟩
          obtain ⟨a7, c7, rfl⟩ := hG7.form
          have HG7 := Lib.hid (HG6.out.mods hG7.low)
          clear hG7
          rw [hv1]
          go_wp2
          go_roundw
          case rel => exact ⟨k + 1, by omega, by go_num, by rw [HTK.out, HT.out]; exact HG7.out⟩
          case measure => simp [intOf]; omega
        | false =>
          rw [hsm, if_neg (by simp)] at HT
          rw [hsm, if_neg (by simp)] at hv1
          clear hsm
          go_wp2_with fail
          refine HOF.out.mono ?_
          rintro e w6 ⟨g6, u6, rfl, hf6, hm6⟩
          have HF6 := Lib.hid hf6
          have HG6 := Lib.hid (HG.out.mods hm6)
          have HM6 := Lib.hid hm6
          clear hf6 hm6
          go_wp2_with fail
          refine (vals_a nm _ HF6.out hn6).mono ?_
          rintro e w7 ⟨u7, rfl, hG7⟩
          obtain ⟨a7, c7, rfl⟩ := hG7.form
          have d0 := cell_mods (cell_mods c0 HM6.out (by simp)) hG7.low (by simp)
          have d1 := cell_mods (cell_mods c1 HM6.out (by simp)) hG7.low (by simp)
          obtain ⟨g8, n8, c8, w8, hrun, hG8⟩ := (HG6.out.mods hG7.low).app Tryd.underlying31 infoFl rfl (by decide) hroom (by decide) [.string x, .string y] rfl (by simp [Value.oneCell'])
          have HG8 := Lib.hid hG8
          clear hG7 hG8
          rw [hv1]
          go_wp2_with (at_builtin; refine wpList_run_app rfl (.tmp 46) (.tmp 51) 31 rfl rfl rfl hrun ?_)
          go_roundw
          case rel => exact ⟨k + 1, by omega, by go_num, by rw [HTK.out, HT.out, List.length_append, encF_append]; exact HG8.out⟩
          case measure => simp [intOf]; omega
      · have hkl : k = S.length := by omega
        have HGD := HG.out
        rw [hkl, List.take_length, ← HDE.out] at HGD
        have HGD := Lib.hid HGD
        have HF6 := Lib.hid (HF5.out.low HGD.out.low)
        obtain ⟨va, vc, hva⟩ := HGD.out.form
        subst hva
        have hDl := HF6.out.len
        have HHS := Lib.hid (show hasF D nm = false by rw [hasF_vals, HDV.out]; rfl)
        have HGT := Lib.hid (show getF D nm = ⟨#[]⟩ from get_zero HDV.out)
        clear hkl
        have HDS := Lib.hid (show D.length ≤ 1000000 by omega)
        go_wp2_with fail
        refine (has_a nm _ HF6.out hn6).mono ?_
        rw [HHS.out]
        rintro e w9 ⟨rfl, hm⟩
        have HF9 := Lib.hid (HF6.out.low hm)
        have HG9 := Lib.hid (HGD.out.mods hm)
        clear hm
        go_wp2_with fail
        refine (get_a nm _ HF9.out hn6).mono ?_
        rw [HGT.out]
        rintro e w10 ⟨rfl, hm⟩
        have HF10 := Lib.hid (HF9.out.low hm)
        have HG10 := Lib.hid (HG9.out.mods hm)
        clear hm
        go_wp2_with fail
        refine (all_a _ HF10.out).mono ?_
        rintro e w11 ⟨B11, rfl, hG11⟩
        have HR11 := Lib.hid (FsAt.of_row hG11.row)
        have HG11 := Lib.hid (HG10.out.mods hG11.low)
        clear hG11
        go_wp2_with fail
        refine (fields_l D D _ _ _ HR11.out (FsAt.of_row HG11.out.row) HDS.out HDS.out).mono ?_
        rw [decide_eq_true (rfl : D = D)]
        rintro e w12 ⟨rfl, hd⟩
        have HM12 := Lib.hid ((HLW.out.trans HG11.out.low (fun _ h => nomatch h)).trans (Mods.of_below (F := []) hd.below) (fun _ h => nomatch h))
        clear hd
        go_wp2_with (go_at_call 11; refine (known_l _).mono ?_; rintro e w13 ⟨rfl, hm⟩; have M13 := Lib.hid (HM12.out.trans hm (fun _ h => nomatch h)); clear hm)
        go_ret
        exact ⟨rfl, M13.out.below⟩

theorem own : ownKnob Tryd.prog.godebug = none := by kernel_rfl
theorem laidOut : laidOutB Tryd.prog = true := by kernel_rfl
set_option maxRecDepth 100000 in
theorem lifted (os : Os) (started : os.Started) (H : Type) (enc : TypeId × Value → H) :
    ReturnsInHanded {} Tryd.checked os 8 .any (fun w args => (Rows.fieldDropsSpec.pre enc Tryd.prog Tryd.f8 [] false w args ∧ laidMetH Tryd.prog Rows.fieldDropsRow.laid w) ∧ sizedMet enc Tryd.prog Tryd.f8 (OpenSpec.ofChange Rows.fieldDropsSpec) false w args)
      (Rows.fieldDropsSpec.post enc Tryd.prog Tryd.f8 false true false false) := by
  refine returnsInHanded_of_change_and (C := Tryd.checked) (X := fun w _ => laidMetH Tryd.prog Rows.fieldDropsRow.laid w) (fun _ _ _ hh h => h.of_heap hh) own started (by kernel_rfl) Tryd.func8
    (ChangeSpec.witness_shaped (enc := enc) (C := Tryd.checked) (os := os) (X := fun w _ => laidMetH Tryd.prog Rows.fieldDropsRow.laid w) false (World.laidAll Tryd.prog os Rows.fieldDropsRow.laid) #[.slice none 0 0, .string ByteArray.empty] 8 (World.laidAll_os _ _ _)
      (World.shaped_of_ZipB (by kernel_rfl) (by kernel_rfl)) (by kernel_rfl) (by kernel_rfl) (by kernel_rfl)
      (by rw [MakeChecks.laidMetH_plain _ _ _ (by kernel_rfl)]; exact laidMet_laidAll _ (by kernel_rfl) (by kernel_rfl))) ?_
  intro W base args ds gs before hval0 hW hcnd hsz0 hL _
  have hsz : (DataW.weightsEach Tryd.prog (Tryd.f8.params.toList ++ Rows.fieldDropsSpec.plain.varTypes Tryd.prog) (ds ++ gs)).all (· ≤ reachBytes) = true := hsz0
  have hval : ∀ (j : Nat) t v, Tryd.f8.params[j]? = some t → args[j]? = some v → Value.okWide Tryd.prog W .any base t v := hval0
  have hW' := hW
  obtain ⟨p, q, hA0, hV, rfl, hfz, hnd⟩ := hW
  have hA : DataW.TrodAll enc Tryd.prog W 0 (fun _ => true) true Tryd.f8.params.toList args.toList ds p := hA0
  rw [Tryd.params8] at hA hval hsz
  obtain ⟨v0, vs0, d0, ds0, p0, q0, hargs, rfl, rfl, h0, r0⟩ := trodAll_cons hA
  obtain ⟨v1, vs1, d1, ds1, p1, q1, rfl, rfl, rfl, h1, r1⟩ := trodAll_cons r0
  obtain ⟨rfl, rfl, rfl⟩ := trodAll_nil r1
  obtain rfl : args = #[v0, v1] := by cases args; simp_all
  obtain ⟨rfl, rfl⟩ := trodVars_none hV
  have k0 := h0
  have lt0 : ∀ x ∈ p0, x.block < W.heap.size := by obtain ⟨m, hm⟩ := k0; exact DataW.trod_lt m _ _ _ hm
  obtain ⟨fr0, rfl, o0⟩ := open_fs (hval 0 31 v0 rfl rfl) k0 (fun n hn => by simpa using List.all_eq_true.1 hsz n (DataW.weights_mem_each (j := 0) (t := 31) rfl rfl n hn))
  obtain ⟨a1, rfl, rfl, rfl, w1⟩ := open_string Tryd.underlying9 (hval 1 9 v1 rfl rfl) h1
  have g1 : a1.size ≤ 140737488351232 := sized_string hsz (j := 1) (t := 9) rfl rfl
  clear hA0 hval0 hsz0 hsz
  refine (walk W fr0 o0 a1 g1).mono fun e W' ⟨he, bel⟩ => ?_
  subst he
  exact ⟨_, rfl, _, _, _, [], _, [], hW', trodAll_mk1 (shut_bool Tryd.underlying4 _), (trodAll_cons_mk (Below.trod laidOut (by kernel_rfl) (of_decide_eq_true (by kernel_rfl)) k0 bel lt0) (trodAll_cons_mk (shut_string Tryd.underlying9 w1) trodAll_mk0)), rfl, bel.frame _, fun h => by cases h⟩

theorem over : Rows.fieldDropsRow.holds Tryd.pinned (OpenSpec.ofChange Rows.fieldDropsSpec) :=
  OpenClaim.holds_of_wide 8 Tryd.f8 rfl rfl rfl rfl rfl rfl rfl ⟨rfl, rfl, rfl, rfl, rfl⟩ rfl rfl rfl rfl rfl (by kernel_rfl) Tryd.func8 (by kernel_rfl)
    (of_decide_eq_true (by kernel_rfl)) (by unfold Func.isWrapper; first | (rw [if_pos (by decide +kernel)]; kernel_rfl) | (rw [if_neg (by decide +kernel)]; exact ⟨rfl, rfl⟩))
    (fun os started H enc _ => lifted os started H enc)

theorem said : Rows.FieldDropsSaid := over
theorem plain (f : FuncId) (fn : Func) (hf : Tryd.pinned.checked.prog.funcNamed "usher/usherlaw10.FieldDrops" = some f) (hfn : Tryd.pinned.checked.prog.funcs[f]? = some fn) :
    false = Tryd.pinned.checked.prog.looks [] ∧ ∀ (j : Nat) t, fn.params[j]? = some t → Tryd.pinned.checked.prog.wantsStandIn t = false := by
  obtain rfl : f = 8 := Option.some.inj ((show Tryd.prog.funcNamed "usher/usherlaw10.FieldDrops" = some 8 by kernel_rfl).symm.trans hf) |>.symm
  obtain rfl : fn = Tryd.f8 := (Option.some.inj (Tryd.func8.symm.trans hfn)).symm
  refine ⟨by kernel_rfl, fun j t ht => ?_⟩
  rw [Tryd.params8] at ht
  have hm : t ∈ [31, 9] := by simpa using Array.mem_of_getElem? ht
  simp only [List.mem_cons, List.mem_nil_iff, or_false] at hm
  rcases hm with rfl | rfl
  · exact (show Tryd.prog.wantsStandIn 31 = false by kernel_rfl)
  · exact (show Tryd.prog.wantsStandIn 9 = false by kernel_rfl)
theorem proved : Rows.FieldDropsCardSaid :=
  Claim7.holds_tied_plain_at .later [] _ _ _ _ said (fun _ h => by cases h) (by kernel_rfl) (fun _ h => by cases h) fieldDrops_row_tie rfl ⟨rfl, rfl⟩ (by kernel_rfl) rfl plain (by kernel_rfl)
end Go.Proofs.YtakimadhbgpedaaDoor.fieldDrops
