/- For every list of texts, each token of the list is among its values, and what is none is not: the law returns true. Condition: the library's tables are laid as its initialisers lay them. -/
import Derived.Test.YtfnjkkjpffnbiaaDoorCards
import Derived.Test.YtfnjkkjpffnbiaaDoorTie
import Derived.Lay
import Derived.LaidOnce
import Derived.MakeChecks
import Derived.SevenTiedAt
import Derived.WalkKit
import Derived.ProofKit
import Derived.OpenShut
import Derived.ShutString
import Derived.ChangeOld
import Derived.Below
import Derived.SizedLaws
import Derived.Test.YtfnjkkjpffnbiaaDoorLi9
import Derived.Carry

namespace Go.Proofs.YtfnjkkjpffnbiaaDoor.listHasAll
open Go.ChangeShapes Go.WideShapes Go.ChangeAt Go.RowKit
open Go.ChangeMaps (open_string shut_string)
set_option linter.unusedVariables false

theorem low_next {w a b : World} (h : Below w.heap.size w a) (k : Below a.heap.size a b) : Below w.heap.size w b := h.trans (k.mono h.size)
set_option maxRecDepth 100000 in
set_option maxHeartbeats 1000000 in
theorem walk (w : World) (v : Value) (o : IsStrs w v) :
    Calls Tryd.prog 8 #[v] w fun e w' => e = .returned (.bool true) ∧ Below w.heap.size w w' := by
  obtain ⟨ts, hts, hz, hl⟩ := strs_of o
  have hh := heavy_l ts v w hts hz hl
  by_cases hbig : 3000 < sizes ts
  · rw [decide_eq_true hbig] at hh
    clear hbig
    go_enter Tryd.func8, Tryd.ntmps8
    go_wp2_with (go_at_call 9; refine hh.mono ?_; rintro e w' ⟨rfl, rfl⟩)
    go_ret
    exact ⟨rfl, Below.refl _ _⟩
  · rw [decide_eq_false hbig] at hh
    have hs : sizes ts ≤ 1000000 := by omega
    have hTK := tokens_a ts v w hts hs
    have hHA := fun s w h hss => has_a s ts v w h hs hss
    have HTS := Lib.hid hts
    clear hbig hz hl o hts
    have hno : ∀ x : ByteArray, tokL x.data.toList = false → x.size ≤ 1000000 → ∀ w', StrsAt w' v ts → Calls Tryd.prog 13 #[.string x, v] w' fun e w2 => e = .returned (.bool false) ∧ Below w'.heap.size w' w2 := fun x hx hxs w' h' =>
      (hHA x w' h' hxs).mono fun e w2 ⟨he, hb⟩ => ⟨by rw [he, has_none hx], hb⟩
    have h1 := hno ⟨#[]⟩ (by decide +kernel) (by decide)
    have h2 := hno ⟨#[97, 32, 98]⟩ (by decide +kernel) (by decide)
    cases hL : toksO ts with
    | none =>
      have h3 : ∀ w', StrsAt w' v ts → Calls Tryd.prog 13 #[.string { data := #[97] }, v] w' fun e w2 => e = .returned (.bool false) ∧ Below w'.heap.size w' w2 := fun w' h' =>
        (hHA ⟨#[97]⟩ w' h' (by decide)).mono fun e w2 ⟨he, hb⟩ => ⟨by rw [he]; unfold hasL; rw [hL], hb⟩
      have HL := Lib.hid hL
      clear hL h1 h2 hno hHA
      go_enter Tryd.func8, Tryd.ntmps8
      go_wp2_with (first
        | (go_at_call 9; refine hh.mono ?_; rintro e w' ⟨rfl, rfl⟩)
        | (go_at_call 10; refine hTK.mono ?_; rintro e w1 ⟨hb, he⟩; rw [HL.out] at he; obtain rfl := he; have HB1 := Lib.hid hb; clear hb)
        | (go_at_call 13; refine (h3 _ (HTS.out.below HB1.out)).mono ?_; rintro e w2 ⟨rfl, hb⟩; have HB2 := Lib.hid hb; clear hb)
        | (go_at_call 15; refine (known9 _).mono ?_; rintro e w7 ⟨rfl, hb7⟩; have HB7 := Lib.hid hb7; clear hb7))
      go_ret
      exact ⟨rfl, low_next (low_next HB1.out HB2.out) HB7.out⟩
    | some L =>
      have hyes : ∀ (k : Nat) (h : k < L.length) w', StrsAt w' v ts → Calls Tryd.prog 13 #[.string (ba L[k]), v] w' fun e w2 => e = .returned (.bool true) ∧ Below w'.heap.size w' w2 := fun k h w' h' =>
        (hHA (ba L[k]) w' h' (by
          rw [ba_size]
          obtain ⟨p, hp, hle⟩ := tokO_size hL (List.getElem_mem h)
          have := partsO_size hp
          omega)).mono fun e w2 ⟨he, hb⟩ => ⟨by rw [he]; show Ending.returned (.bool (hasL L[k] ts)) = _; rw [has_own hL (List.getElem_mem h)], hb⟩
      have hlen := Nat.le_trans (toksO_len hL) hs
      have HL := Lib.hid hL
      clear hL hno hHA
      go_enter Tryd.func8, Tryd.ntmps8
      go_wp2_with (first
        | (go_at_call 9; refine hh.mono ?_; rintro e w' ⟨rfl, rfl⟩)
        | (go_at_call 10; refine hTK.mono ?_; rintro e w1 ⟨hb, he⟩; rw [HL.out] at he; obtain ⟨v1, rfl, hr⟩ := he; have HB1 := Lib.hid hb; have HR := Lib.hid (row_strs hr); clear hb hr))
      obtain ⟨a, ca, hv⟩ := HR.out.len
      rw [List.length_map] at hv
      subst hv
      go_loopw [5] (fun i wr => ∃ (k : Nat), k ≤ L.length ∧ i = .int .i64 k ∧ Below w1.heap.size w1 wr) (fun i _ => L.length - (intOf i).toNat)
      case atStart => exact ⟨0, Nat.zero_le _, rfl, Below.refl _ _⟩
      case round =>
        obtain ⟨k, hk, rfl, hlow⟩ := hrel
        have HLO := Lib.hid hlow
        clear hlow
        by_cases hlt : k < L.length
        · rcases HR.out.below HLO.out with ⟨h0, -⟩ | ⟨b, off, cap, hv2, h0, hb, hc⟩
          · exfalso; have := congrArg List.length h0; rw [List.length_map] at this; simp at this; rw [this] at hlt; simp at hlt
          · injection hv2 with e1 e2 e3
            subst e1
            have hc1 : wr.cell? ⟨b, off + k, none⟩ = some (.string (ba L[k])) := by have := hc k (by rw [List.length_map]; exact hlt); rw [List.getElem_map] at this; exact this
            clear hc h0 e2 e3
            have hY := fun w' h' => hyes k hlt w' h'
            go_wp2_with (go_at_call 13; refine (hY _ ((HTS.out.below HB1.out).below HLO.out)).mono ?_; rintro e w2 ⟨rfl, hb⟩; have HB2 := Lib.hid hb; clear hb)
            go_roundw
            case rel => exact ⟨k + 1, by omega, by go_num, low_next HLO.out HB2.out⟩
            case measure => simp [intOf]; omega
        · go_wp2_with (first
            | (go_at_call 13; refine (h1 _ ((HTS.out.below HB1.out).below HLO.out)).mono ?_; rintro e w2 ⟨rfl, hb⟩; have HB2 := Lib.hid hb; clear hb h1)
            | (go_at_call 13; refine (h2 _ (((HTS.out.below HB1.out).below HLO.out).below HB2.out)).mono ?_; rintro e w3 ⟨rfl, hb⟩; have HB3 := Lib.hid hb; clear hb h2)
            | (go_at_call 15; refine (known9 _).mono ?_; rintro e w7 ⟨rfl, hb7⟩; have HB7 := Lib.hid hb7; clear hb7))
          go_ret
          exact ⟨rfl, low_next (low_next (low_next (low_next HB1.out HLO.out) HB2.out) HB3.out) HB7.out⟩

theorem own : ownKnob Tryd.prog.godebug = none := by kernel_rfl
theorem laidOut : laidOutB Tryd.prog = true := by kernel_rfl
set_option maxRecDepth 100000 in
theorem lifted (os : Os) (started : os.Started) (H : Type) (enc : TypeId × Value → H) :
    ReturnsInHanded {} Tryd.checked os 8 .any (fun w args => (Rows.listHasAllSpec.pre enc Tryd.prog Tryd.f8 [] false w args ∧ laidMetH Tryd.prog Rows.listHasAllRow.laid w) ∧ sizedMet enc Tryd.prog Tryd.f8 (OpenSpec.ofChange Rows.listHasAllSpec) false w args)
      (Rows.listHasAllSpec.post enc Tryd.prog Tryd.f8 false true false false) := by
  refine returnsInHanded_of_change_and (C := Tryd.checked) (X := fun w _ => laidMetH Tryd.prog Rows.listHasAllRow.laid w) (fun _ _ _ hh h => h.of_heap hh) own started (by kernel_rfl) Tryd.func8
    (ChangeSpec.witness_shaped (enc := enc) (C := Tryd.checked) (os := os) (X := fun w _ => laidMetH Tryd.prog Rows.listHasAllRow.laid w) false (World.laidAll Tryd.prog os Rows.listHasAllRow.laid) #[.slice none 0 0] 8 (World.laidAll_os _ _ _)
      (World.shaped_of_ZipB (by kernel_rfl) (by kernel_rfl)) (by kernel_rfl) (by kernel_rfl) (by kernel_rfl)
      (by rw [MakeChecks.laidMetH_plain _ _ _ (by kernel_rfl)]; exact laidMet_laidAll _ (by kernel_rfl) (by kernel_rfl))) ?_
  intro W base args ds gs before hval0 hW hcnd hsz0 hL _
  have hsz : (DataW.weightsEach Tryd.prog (Tryd.f8.params.toList ++ Rows.listHasAllSpec.plain.varTypes Tryd.prog) (ds ++ gs)).all (· ≤ reachBytes) = true := hsz0
  have hval : ∀ (j : Nat) t v, Tryd.f8.params[j]? = some t → args[j]? = some v → Value.okWide Tryd.prog W .any base t v := hval0
  have hW' := hW
  obtain ⟨p, q, hA0, hV, rfl, hfz, hnd⟩ := hW
  have hA : DataW.TrodAll enc Tryd.prog W 0 (fun _ => true) true Tryd.f8.params.toList args.toList ds p := hA0
  rw [Tryd.params8] at hA hval hsz
  obtain ⟨v0, vs0, d0, ds0, p0, q0, hargs, rfl, rfl, h0, r0⟩ := trodAll_cons hA
  obtain ⟨rfl, rfl, rfl⟩ := trodAll_nil r0
  obtain rfl : args = #[v0] := by cases args; simp_all
  obtain ⟨rfl, rfl⟩ := trodVars_none hV
  have k0 := h0
  have lt0 : ∀ x ∈ p0, x.block < W.heap.size := by obtain ⟨m, hm⟩ := k0; exact DataW.trod_lt m _ _ _ hm
  have o0 := open_slice_string Tryd.underlying22 Tryd.underlying9 (by kernel_rfl) (by kernel_rfl) (hval 0 22 v0 rfl rfl) h0 (fun n hn => by simpa using List.all_eq_true.1 hsz n (DataW.weights_mem_each (j := 0) (t := 22) rfl rfl n hn))
  clear hA0 hval0 hsz0 hsz
  refine (walk W v0 o0).mono fun e W' ⟨he, bel⟩ => ?_
  subst he
  exact ⟨_, rfl, _, _, _, [], _, [], hW', trodAll_mk1 (shut_bool Tryd.underlying4 _), (trodAll_cons_mk (Below.trod laidOut (by kernel_rfl) (of_decide_eq_true (by kernel_rfl)) k0 bel lt0) trodAll_mk0), rfl, bel.frame _, fun h => by cases h⟩

theorem over : Rows.listHasAllRow.holds Tryd.pinned (OpenSpec.ofChange Rows.listHasAllSpec) :=
  OpenClaim.holds_of_wide 8 Tryd.f8 rfl rfl rfl rfl rfl rfl rfl ⟨rfl, rfl, rfl, rfl, rfl⟩ rfl rfl rfl rfl rfl (by kernel_rfl) Tryd.func8 (by kernel_rfl)
    (of_decide_eq_true (by kernel_rfl)) (by unfold Func.isWrapper; first | (rw [if_pos (by decide +kernel)]; kernel_rfl) | (rw [if_neg (by decide +kernel)]; exact ⟨rfl, rfl⟩))
    (fun os started H enc _ => lifted os started H enc)

theorem said : Rows.ListHasAllSaid := over
theorem plain (f : FuncId) (fn : Func) (hf : Tryd.pinned.checked.prog.funcNamed "usher/usherlaw9.ListHasAll" = some f) (hfn : Tryd.pinned.checked.prog.funcs[f]? = some fn) :
    false = Tryd.pinned.checked.prog.looks [] ∧ ∀ (j : Nat) t, fn.params[j]? = some t → Tryd.pinned.checked.prog.wantsStandIn t = false := by
  obtain rfl : f = 8 := Option.some.inj ((show Tryd.prog.funcNamed "usher/usherlaw9.ListHasAll" = some 8 by kernel_rfl).symm.trans hf) |>.symm
  obtain rfl : fn = Tryd.f8 := (Option.some.inj (Tryd.func8.symm.trans hfn)).symm
  refine ⟨by kernel_rfl, fun j t ht => ?_⟩
  rw [Tryd.params8] at ht
  have hm : t ∈ [22] := by simpa using Array.mem_of_getElem? ht
  simp only [List.mem_cons, List.mem_nil_iff, or_false] at hm
  rcases hm with rfl
  · exact (show Tryd.prog.wantsStandIn 22 = false by kernel_rfl)
theorem proved : Rows.ListHasAllCardSaid :=
  Claim7.holds_tied_plain_at .later [] _ _ _ _ said (fun _ h => by cases h) (by kernel_rfl) (fun _ h => by cases h) listHasAll_row_tie rfl ⟨rfl, rfl⟩ (by kernel_rfl) rfl plain (by kernel_rfl)
end Go.Proofs.YtfnjkkjpffnbiaaDoor.listHasAll
