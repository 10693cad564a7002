/- For every list of texts and every text, the code's Tokens and Has answer as the document says: the law returns true. Condition: the library's tables are laid as its initialisers lay them. -/
import Derived.Test.YtfnjkkjpffnbiaaDoorCards
import Derived.Test.YtfnjkkjpffnbiaaDoorTie
import Derived.Lay
import Derived.LaidOnce
import Derived.MakeChecks
import Derived.SevenTiedAt
import Derived.WalkKit
import Derived.ProofKit
import Derived.OpenShut
import Derived.ShutString
import Derived.ChangeOld
import Derived.Below
import Derived.SizedLaws
import Derived.Test.YtfnjkkjpffnbiaaDoorLi9
import Derived.Carry
import Derived.Deep.Upon
namespace Go.Proofs.YtfnjkkjpffnbiaaDoor.listTokens
open Go.ChangeShapes Go.WideShapes Go.ChangeAt Go.RowKit
open Go.ChangeMaps (open_string shut_string)
set_option linter.unusedVariables false

theorem low_next {w a b : World} (h : Below w.heap.size w a) (k : Below a.heap.size a b) : Below w.heap.size w b := h.trans (k.mono h.size)
theorem grow_strs (w : World) (ts : List ByteArray) (b off cap : Nat) (h0 : 0 < ts.length) (hlen : ts.length ≤ 1000000) (hb : b < w.heap.size) (hc : ∀ j (h : j < ts.length), w.cell? ⟨b, off + j, none⟩ = some (.string ts[j])) :
    ∃ (g c' : Nat) (w' : World), (Builtin.append_ #[22, 22] 22 #[.slice (some ⟨w.heap.size, 0, none⟩) 0 0, .slice (some ⟨b, off, none⟩) ts.length cap]).run Tryd.prog (w.alloc (.cells #[] 9)) = .ok (.slice (some ⟨g, 0, none⟩) ts.length c') w' ∧
      StrsAt w' (.slice (some ⟨g, 0, none⟩) ts.length c') ts ∧ Below w.heap.size w w' := by
  obtain ⟨i0, hi, hz0, hz1, hz2⟩ := info_parts infoS
  have hA : Below w.heap.size w (w.alloc (.cells #[] 9)) := (Below.refl _ w).alloc (Nat.le_refl _) _
  have hns : strs9 (ts.map fun t => t.data.toList) = ts.map Value.string := by
    unfold strs9; rw [List.map_map]; exact List.map_congr_left fun t _ => rfl
  have hown := World.ownsRow_made (base := w.heap.size) (e := 9) (size := 1) w #[] 0 (Nat.le_refl _) (by unfold maxLen; omega) rfl
  obtain ⟨v', w5, hrun, hown', hgrow, -, -⟩ := run_append_own_at (P := Tryd.prog) (w := w.alloc (.cells #[] 9)) w.heap.size 22 22 9 i0 (.string ByteArray.empty) 1 16 Tryd.underlying22 hi hz0 hz1 hz2 rfl (by decide)
    _ 0 [] hown ⟨b, off, none⟩ ts.length cap (ts.map Value.string) (by simp) (fun j u hj => by
      rw [add_none]
      obtain ⟨hj1, hj2⟩ := List.getElem?_eq_some_iff.1 hj
      rw [List.length_map] at hj1
      rw [← hj2, List.getElem_map]
      exact (hA.cell (p := ⟨b, off + j, none⟩) hb).trans (hc j hj1)) (fun u hu => by obtain ⟨t, _, rfl⟩ := List.mem_map.1 hu; rfl) (by unfold maxLen; omega) (by omega) (by simp)
  rw [Nat.zero_add, List.nil_append] at hown'
  obtain ⟨k, hk⟩ : ∃ k, ts.length = k + 1 := ⟨ts.length - 1, by omega⟩
  obtain ⟨g, c', hv⟩ := ownsRow_succ (show w5.ownsRow w.heap.size 9 1 v' (k + 1) (ts.map Value.string) by rw [← hk]; exact hown')
  rw [← hk] at hv
  subst hv
  have hs := row_strs (L := ts.map fun t => t.data.toList) (show w5.ownsRow w.heap.size 9 1 _ _ _ by rw [hns, List.length_map]; exact hown')
  rw [List.map_map, show (ba ∘ fun t : ByteArray => t.data.toList) = id from funext ba_data, List.map_id] at hs
  refine ⟨g, c', w5, hrun, hs, hA.grown hgrow (by simp) fun j e => ?_⟩
  have : j = w.heap.size := by simpa [Value.ownBlock] using e.symm
  omega
theorem grow_none (w : World) (a : Option Addr) (cap : Nat) :
    (Builtin.append_ #[22, 22] 22 #[.slice (some ⟨w.heap.size, 0, none⟩) 0 0, .slice a 0 cap]).run Tryd.prog (w.alloc (.cells #[] 9)) = .ok (.slice (some ⟨w.heap.size, 0, none⟩) 0 0) (w.alloc (.cells #[] 9)) := by
  obtain ⟨i0, hi, hz0, hz1, hz2⟩ := info_parts infoS
  refine run_append_nothing _ 22 22 22 9 i0 Tryd.underlying22 hi _ 0 0 (Nat.le_refl _) _ ?_
  cases a with
  | none => exact Src.ofNil _ Tryd.underlying22 cap
  | some a => exact Src.ofSlice _ Tryd.underlying22 a 0 cap [] (by simp) (fun j u h => by simp at h) (fun u h => by simp at h)
set_option maxRecDepth 100000 in
set_option maxHeartbeats 1000000 in
/-- All that follows when v holds what values hold. -/
theorem walk (w : World) (v : Value) (o : IsStrs w v) (s : ByteArray) (gs : s.size ≤ 140737488351232) :
    Calls Tryd.prog 3 #[v, .string s] w fun e w' => e = .returned (.bool true) ∧ Below w.heap.size w w' := by
  obtain ⟨ts, hts, hz, hl⟩ := strs_of o
  have hH := fun w' (h : StrsAt w' v ts) => heavy_l ts v w' h hz hl
  by_cases hbig : 3000 < sizes ts
  · have hh := hH w hts
    rw [decide_eq_true hbig] at hh
    clear hbig
    go_enter Tryd.func3, Tryd.ntmps3
    go_wp2_with (go_at_call 9; refine hh.mono ?_; rintro e w' ⟨rfl, rfl⟩)
    go_ret
    exact ⟨rfl, Below.refl _ _⟩
  · have hh := hH w hts
    rw [decide_eq_false hbig] at hh
    by_cases hbig2 : 3000 < s.size
    · clear hbig
      go_enter Tryd.func3, Tryd.ntmps3
      go_wp2_with (go_at_call 9; refine hh.mono ?_; rintro e w' ⟨rfl, rfl⟩)
      go_ret
      exact ⟨rfl, Below.refl _ _⟩
    · have hs : sizes ts ≤ 1000000 := by omega
      have hss : s.size ≤ 1000000 := by omega
      have htl : ts.length ≤ 1000000 := Nat.le_trans (sizes_len ts) hs
      have hML := tokM_len hs
      have hTK := fun v w h => tokens_a ts v w h hs
      have hRT := fun v w h => reftok ts v w h hs
      have hHA := fun v w h => has_a s ts v w h hs hss
      have hHR := fun v w h => refhas s ts v w h hs hss
      clear hbig hz hl hH
      have HTS := Lib.hid hts
      rcases hts with ⟨rfl, a, cap, rfl⟩ | ⟨b, off, cap, rfl, h0, hb, hc⟩
      · have hrun := grow_none w a cap
        have HVA := Lib.hid (show StrsAt (w.alloc (.cells #[] 9)) (.slice (some ⟨w.heap.size, 0, none⟩) 0 0) [] from .inl ⟨rfl, _, _, rfl⟩)
        have HBA := Lib.hid ((Below.refl w.heap.size w).alloc (Nat.le_refl _) (.cells #[] 9))
        go_enter Tryd.func3, Tryd.ntmps3
        go_wp2_with (first
          | (go_at_call 9; refine hh.mono ?_; rintro e w' ⟨rfl, rfl⟩; clear hh)
          | (at_builtin; refine wpList_run_app rfl (.tmp 17) (.tmp 18) 22 rfl rfl rfl hrun ?_)
          | (go_at_call 10; refine (hTK _ _ HVA.out).mono ?_; rintro e w1 he; obtain ⟨a1, c1, rfl, h1, hb1⟩ := tok_ans he; have H1 := Lib.hid h1; have HB1 := Lib.hid hb1; clear h1 hb1 he hTK)
          | (go_at_call 11; refine (hRT _ _ ((HTS.out.below HBA.out).below (HB1.out))).mono ?_; rintro e w2 he; obtain ⟨a2, c2, rfl, h2, hb2⟩ := tok_ans he; have H2 := Lib.hid h2; have HB2 := Lib.hid hb2; clear h2 hb2 he hRT)
          | (go_at_call 12; refine (texts_l (tokM []) (tokM []) _ _ _ (H1.out.below HB2.out) H2.out hML hML).mono ?_; rintro e w3 ⟨rfl, hd⟩; rw [decide_eq_true (rfl : tokM [] = tokM [])]; have HB3 := Lib.hid hd.below; clear hd hML)
          | (go_at_call 12; refine (texts_l [] [] _ _ _ ((((HVA.out.below HB1.out).below HB2.out).below HB3.out)) ((((HTS.out.below HBA.out).below HB1.out).below HB2.out).below HB3.out) htl htl).mono ?_; rintro e w4 ⟨rfl, hd⟩; rw [decide_eq_true (rfl : ([] : List ByteArray) = [])]; have HB4 := Lib.hid hd.below; clear hd htl)
          | (go_at_call 13; refine (hHA _ _ ((((HVA.out.below HB1.out).below HB2.out).below HB3.out).below HB4.out)).mono ?_; rintro e w5 ⟨rfl, hb5⟩; have HB5 := Lib.hid hb5; clear hb5 hHA)
          | (go_at_call 14; refine (hHR _ _ ((((((HTS.out.below HBA.out).below HB1.out).below HB2.out).below HB3.out).below HB4.out).below HB5.out)).mono ?_; rintro e w6 ⟨rfl, hb6⟩; have HB6 := Lib.hid hb6; clear hb6 hHR)
          | (go_at_call 15; refine (known9 _).mono ?_; rintro e w7 ⟨rfl, hb7⟩; have HB7 := Lib.hid hb7; clear hb7))
        go_ret
        exact ⟨rfl, low_next (low_next (low_next (low_next (low_next (low_next (low_next HBA.out HB1.out) HB2.out) HB3.out) HB4.out) HB5.out) HB6.out) HB7.out⟩
      · obtain ⟨g, c', wa, hrun, hva, hba⟩ := grow_strs w ts b off cap h0 htl hb hc
        have HVA := Lib.hid hva
        have HBA := Lib.hid hba
        clear hva hba hc
        go_enter Tryd.func3, Tryd.ntmps3
        go_wp2_with (first
          | (go_at_call 9; refine hh.mono ?_; rintro e w' ⟨rfl, rfl⟩; clear hh)
          | (at_builtin; refine wpList_run_app rfl (.tmp 17) (.tmp 18) 22 rfl rfl rfl hrun ?_)
          | (go_at_call 10; refine (hTK _ _ HVA.out).mono ?_; rintro e w1 he; obtain ⟨a1, c1, rfl, h1, hb1⟩ := tok_ans he; have H1 := Lib.hid h1; have HB1 := Lib.hid hb1; clear h1 hb1 he hTK)
          | (go_at_call 11; refine (hRT _ _ ((HTS.out.below HBA.out).below (HB1.out))).mono ?_; rintro e w2 he; obtain ⟨a2, c2, rfl, h2, hb2⟩ := tok_ans he; have H2 := Lib.hid h2; have HB2 := Lib.hid hb2; clear h2 hb2 he hRT)
          | (go_at_call 12; refine (texts_l (tokM ts) (tokM ts) _ _ _ (H1.out.below HB2.out) H2.out hML hML).mono ?_; rintro e w3 ⟨rfl, hd⟩; rw [decide_eq_true (rfl : tokM ts = tokM ts)]; have HB3 := Lib.hid hd.below; clear hd hML)
          | (go_at_call 12; refine (texts_l ts ts _ _ _ ((((HVA.out.below HB1.out).below HB2.out).below HB3.out)) ((((HTS.out.below HBA.out).below HB1.out).below HB2.out).below HB3.out) htl htl).mono ?_; rintro e w4 ⟨rfl, hd⟩; rw [decide_eq_true (rfl : ts = ts)]; have HB4 := Lib.hid hd.below; clear hd htl)
          | (go_at_call 13; refine (hHA _ _ ((((HVA.out.below HB1.out).below HB2.out).below HB3.out).below HB4.out)).mono ?_; rintro e w5 ⟨rfl, hb5⟩; have HB5 := Lib.hid hb5; clear hb5 hHA)
          | (go_at_call 14; refine (hHR _ _ ((((((HTS.out.below HBA.out).below HB1.out).below HB2.out).below HB3.out).below HB4.out).below HB5.out)).mono ?_; rintro e w6 ⟨rfl, hb6⟩; have HB6 := Lib.hid hb6; clear hb6 hHR)
          | (go_at_call 15; refine (known9 _).mono ?_; rintro e w7 ⟨rfl, hb7⟩; have HB7 := Lib.hid hb7; clear hb7))
        go_ret
        exact ⟨rfl, low_next (low_next (low_next (low_next (low_next (low_next (low_next HBA.out HB1.out) HB2.out) HB3.out) HB4.out) HB5.out) HB6.out) HB7.out⟩

theorem own : ownKnob Tryd.prog.godebug = none := by kernel_rfl
theorem laidOut : laidOutB Tryd.prog = true := by kernel_rfl
set_option maxRecDepth 100000 in
theorem lifted (os : Os) (started : os.Started) (H : Type) (enc : TypeId × Value → H) :
    ReturnsInHanded {} Tryd.checked os 3 .any (fun w args => (Rows.listTokensSpec.pre enc Tryd.prog Tryd.f3 [] false w args ∧ laidMetH Tryd.prog Rows.listTokensRow.laid w) ∧ sizedMet enc Tryd.prog Tryd.f3 (OpenSpec.ofChange Rows.listTokensSpec) false w args)
      (Rows.listTokensSpec.post enc Tryd.prog Tryd.f3 false true false false) := by
  refine returnsInHanded_of_change_and (C := Tryd.checked) (X := fun w _ => laidMetH Tryd.prog Rows.listTokensRow.laid w) (fun _ _ _ hh h => h.of_heap hh) own started (by kernel_rfl) Tryd.func3
    (ChangeSpec.witness_shaped (enc := enc) (C := Tryd.checked) (os := os) (X := fun w _ => laidMetH Tryd.prog Rows.listTokensRow.laid w) false (World.laidAll Tryd.prog os Rows.listTokensRow.laid) #[.slice none 0 0, .string ByteArray.empty] 8 (World.laidAll_os _ _ _)
      (World.shaped_of_ZipB (by kernel_rfl) (by kernel_rfl)) (by kernel_rfl) (by kernel_rfl) (by kernel_rfl)
      (by rw [MakeChecks.laidMetH_plain _ _ _ (by kernel_rfl)]; exact laidMet_laidAll _ (by kernel_rfl) (by kernel_rfl))) ?_
  intro W base args ds gs before hval0 hW hcnd hsz0 hL _
  have hsz : (DataW.weightsEach Tryd.prog (Tryd.f3.params.toList ++ Rows.listTokensSpec.plain.varTypes Tryd.prog) (ds ++ gs)).all (· ≤ reachBytes) = true := hsz0
  have hval : ∀ (j : Nat) t v, Tryd.f3.params[j]? = some t → args[j]? = some v → Value.okWide Tryd.prog W .any base t v := hval0
  have hW' := hW
  obtain ⟨p, q, hA0, hV, rfl, hfz, hnd⟩ := hW
  have hA : DataW.TrodAll enc Tryd.prog W 0 (fun _ => true) true Tryd.f3.params.toList args.toList ds p := hA0
  rw [Tryd.params3] at hA hval hsz
  obtain ⟨v0, vs0, d0, ds0, p0, q0, hargs, rfl, rfl, h0, r0⟩ := trodAll_cons hA
  obtain ⟨v1, vs1, d1, ds1, p1, q1, rfl, rfl, rfl, h1, r1⟩ := trodAll_cons r0
  obtain ⟨rfl, rfl, rfl⟩ := trodAll_nil r1
  obtain rfl : args = #[v0, v1] := by cases args; simp_all
  obtain ⟨rfl, rfl⟩ := trodVars_none hV
  have k0 := h0
  have lt0 : ∀ x ∈ p0, x.block < W.heap.size := by obtain ⟨m, hm⟩ := k0; exact DataW.trod_lt m _ _ _ hm
  have o0 := open_slice_string Tryd.underlying22 Tryd.underlying9 (by kernel_rfl) (by kernel_rfl) (hval 0 22 v0 rfl rfl) h0 (fun n hn => by simpa using List.all_eq_true.1 hsz n (DataW.weights_mem_each (j := 0) (t := 22) rfl rfl n hn))
  obtain ⟨a1, rfl, rfl, rfl, w1⟩ := open_string Tryd.underlying9 (hval 1 9 v1 rfl rfl) h1
  have g1 : a1.size ≤ 140737488351232 := sized_string hsz (j := 1) (t := 9) rfl rfl
  clear hA0 hval0 hsz0 hsz
  refine (walk W v0 o0 a1 g1).mono fun e W' ⟨he, bel⟩ => ?_
  subst he
  exact ⟨_, rfl, _, _, _, [], _, [], hW', trodAll_mk1 (shut_bool Tryd.underlying4 _), (trodAll_cons_mk (Below.trod laidOut (by kernel_rfl) (of_decide_eq_true (by kernel_rfl)) k0 bel lt0) (trodAll_cons_mk (shut_string Tryd.underlying9 w1) trodAll_mk0)), rfl, bel.frame _, fun h => by cases h⟩

theorem over : Rows.listTokensRow.holds Tryd.pinned (OpenSpec.ofChange Rows.listTokensSpec) :=
  OpenClaim.holds_of_wide 3 Tryd.f3 rfl rfl rfl rfl rfl rfl rfl ⟨rfl, rfl, rfl, rfl, rfl⟩ rfl rfl rfl rfl rfl (by kernel_rfl) Tryd.func3 (by kernel_rfl)
    (of_decide_eq_true (by kernel_rfl)) (by unfold Func.isWrapper; first | (rw [if_pos (by decide +kernel)]; kernel_rfl) | (rw [if_neg (by decide +kernel)]; exact ⟨rfl, rfl⟩))
    (fun os started H enc _ => lifted os started H enc)

theorem said : Rows.ListTokensSaid := over
theorem plain (f : FuncId) (fn : Func) (hf : Tryd.pinned.checked.prog.funcNamed "usher/usherlaw9.ListTokens" = some f) (hfn : Tryd.pinned.checked.prog.funcs[f]? = some fn) :
    false = Tryd.pinned.checked.prog.looks [] ∧ ∀ (j : Nat) t, fn.params[j]? = some t → Tryd.pinned.checked.prog.wantsStandIn t = false := by
  obtain rfl : f = 3 := Option.some.inj ((show Tryd.prog.funcNamed "usher/usherlaw9.ListTokens" = some 3 by kernel_rfl).symm.trans hf) |>.symm
  obtain rfl : fn = Tryd.f3 := (Option.some.inj (Tryd.func3.symm.trans hfn)).symm
  refine ⟨by kernel_rfl, fun j t ht => ?_⟩
  rw [Tryd.params3] at ht
  have hm : t ∈ [22, 9] := by simpa using Array.mem_of_getElem? ht
  simp only [List.mem_cons, List.mem_nil_iff, or_false] at hm
  rcases hm with rfl | rfl
  · exact (show Tryd.prog.wantsStandIn 22 = false by kernel_rfl)
  · exact (show Tryd.prog.wantsStandIn 9 = false by kernel_rfl)
theorem proved : Rows.ListTokensCardSaid :=
  Claim7.holds_tied_plain_at .later [] _ _ _ _ said (fun _ h => by cases h) (by kernel_rfl) (fun _ h => by cases h) listTokens_row_tie rfl ⟨rfl, rfl⟩ (by kernel_rfl) rfl plain (by kernel_rfl)
end Go.Proofs.YtfnjkkjpffnbiaaDoor.listTokens
