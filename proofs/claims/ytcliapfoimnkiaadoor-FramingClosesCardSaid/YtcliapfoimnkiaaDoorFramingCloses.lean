/- For every minor version and every row of words of Connection, the code's Of tells whether another request follows: the law returns true. Condition: the library's tables are laid as its initialisers lay them. -/
import Derived.Test.YtcliapfoimnkiaaDoorCards
import Derived.Test.YtcliapfoimnkiaaDoorTie
import Derived.Lay
import Derived.LaidOnce
import Derived.MakeChecks
import Derived.SevenTiedAt
import Derived.WalkKit
import Derived.ProofKit
import Derived.OpenShut
import Derived.ShutString
import Derived.ChangeOld
import Derived.Below
import Derived.SizedLaws
import Derived.Test.YtcliapfoimnkiaaDoorKn12
import Derived.Test.YtcliapfoimnkiaaDoorRk12
import Derived.Test.YtcliapfoimnkiaaDoorOpen
import Derived.Carry
import Derived.Deep.CutBlock
namespace Go.Proofs.YtcliapfoimnkiaaDoor.framingCloses
open Go.ChangeShapes Go.WideShapes Go.ChangeAt Go.RowKit
open Go.ChangeMaps (open_string shut_string)
set_option linter.unusedVariables false

abbrev wordsA : Array Value := #[.string ⟨#[99, 108, 111, 115, 101]⟩, .string ⟨#[67, 76, 79, 83, 69]⟩, .string ⟨#[107, 101, 101, 112, 45, 97, 108, 105, 118, 101]⟩, .string ⟨#[75, 101, 101, 112, 45, 65, 108, 105, 118, 101]⟩, .string ⟨#[120]⟩, .string ⟨#[]⟩]
theorem words_row {w : World} {b : Nat} (h : Row w b 9 wordsA) : ∀ k, k < 6 → w.cell? ⟨b, k, none⟩ = some (.string (allW k))
  | 0, _ => h.cell 0
  | 1, _ => h.cell 1
  | 2, _ => h.cell 2
  | 3, _ => h.cell 3
  | 4, _ => h.cell 4
  | 5, _ => h.cell 5
  | n + 6, h => absurd h (by omega)
set_option maxRecDepth 10000 in
set_option maxHeartbeats 4000000 in
theorem walk (W : World) (m : Int) (hm : (Lit.int .i64 m).wf = true) (v : Value) (o : IsInts W v) : Calls Tryd.prog 3 #[.int .i64 m, v] W fun e W' => e = .returned (.bool true) ∧ Below W.heap.size W W' := by
  obtain ⟨A, C, xs, rfl, hc⟩ := ints_gen o
  have HC := Lib.hid hc
  clear hm o hc
  by_cases h10 : 10 < xs.length
  · have hd : decide (10 < xs.length) = true := decide_eq_true h10
    go_enter Tryd.func3, Tryd.ntmps3
    go_wp2
    go_ret
    exact ⟨rfl, Below.refl _ _⟩
  · have hlen : xs.length ≤ 10 := by omega
    have hd : decide ((10 : Int) < (xs.length : Int)) = false := decide_eq_false (by omega)
    go_enter Tryd.func3, Tryd.ntmps3
    go_wp2_with fail
    obtain ⟨W1, hW1⟩ : ∃ W1, W1 = W.alloc (.cells wordsA 9) := ⟨_, rfl⟩
    have hR := Row.new W 9 wordsA
    have hM := (Mods.refl [] W).alloc (.cells wordsA 9)
    have hz : W.heap.size + 1 = W1.heap.size := by rw [hW1]; simp
    have hL := Gt.lit W1 25 2 1 #[.string ⟨#[72, 111, 115, 116]⟩, .string ⟨#[97]⟩] rfl (by decide)
    rw [← hW1] at hR hM ⊢
    rw [← hz] at hL
    clear hW1 hz
    have HR := Lib.hid hR
    have HM := Lib.hid hM
    have HL := Lib.hid hL
    clear hR hM hL
    go_loopw [6, 7, 8, 9] (fun l c r i wr => ∃ k : Nat, k ≤ xs.length ∧ i = .int .i64 k ∧ c = .bool (((xs.map kOf).take k).any fun k => decide (k < 2)) ∧ r = .bool (((xs.map kOf).take k).any fun k => decide (k = 2 ∨ k = 3)) ∧ Gt W1 25 2 (closeF (((xs.map kOf).take k).map allW)).length (encF (closeF (((xs.map kOf).take k).map allW))) l wr) (fun _ _ _ i _ => xs.length - (intOf i).toNat)
    case atStart => exact ⟨0, Nat.zero_le _, rfl, rfl, rfl, HL.out⟩
    case round =>
      obtain ⟨k, hk, rfl, rfl, rfl, hG⟩ := hrel
      have HG := Lib.hid hG
      clear hG
      by_cases hlt : k < xs.length
      · obtain ⟨b, o, rfl, hx⟩ := HC.out k hlt
        have ck := cell_mods (cell_mods hx HM.out (by simp)) HG.out.low (by simp)
        have HT := Lib.hid (show (xs.map kOf).take (k + 1) = (xs.map kOf).take k ++ [kOf xs[k]] by rw [List.take_succ_eq_append_getElem (by rw [List.length_map]; exact hlt), List.getElem_map])
        obtain ⟨x, hxx⟩ : ∃ x, x = xs[k] := ⟨_, rfl⟩
        rw [← hxx] at ck HT
        clear hx hxx
        obtain ⟨q0, hq0, hq1⟩ := and_maskK x 1023 (by omega)
        have HKX := Lib.hid (show kOf x = q0 % 6 by unfold kOf; rw [show ((1023 : Nat) : Int) = 1023 from rfl] at hq0; rw [hq0]; simp)
        have cq := cell_mods (words_row HR.out (q0 % 6) (Nat.mod_lt _ (by decide))) HG.out.low (by simp)
        rw [show ((1023 : Nat) : Int) = 1023 from rfl] at hq0
        go_upto_region 10 with fail
        rw [show ((q0 : Int) % 6) = ((q0 % 6 : Nat) : Int) by omega]
        have hq6 : q0 % 6 < 6 := Nat.mod_lt _ (by decide)
        rw [HKX.out] at HT
        generalize q0 % 6 = q at *
        clear hq0 hq1 HKX
        have HON := Lib.hid (show closeF (((xs.map kOf).take (k + 1)).map allW) = closeF (((xs.map kOf).take k).map allW) ++ [(nCon, allW q)] by rw [HT.out, List.map_append]; exact closeF_snoc _ _)
        have HAC := Lib.hid (show (((xs.map kOf).take (k + 1)).any fun k => decide (k < 2)) = ((((xs.map kOf).take k).any fun k => decide (k < 2)) || decide (q < 2)) by rw [HT.out, List.any_append]; simp)
        have HAK := Lib.hid (show (((xs.map kOf).take (k + 1)).any fun k => decide (k = 2 ∨ k = 3)) = ((((xs.map kOf).take k).any fun k => decide (k = 2 ∨ k = 3)) || decide (q = 2 ∨ q = 3)) by rw [HT.out, List.any_append]; simp)
        generalize (((xs.map kOf).take k).any fun k => decide (k < 2)) = rc at *
        generalize (((xs.map kOf).take k).any fun k => decide (k = 2 ∨ k = 3)) = rk at *
        obtain ⟨y, hy⟩ : ∃ y, y = allW q := ⟨_, rfl⟩
        rw [← hy] at cq HON
        clear hy
        have hroom : (closeF (((xs.map kOf).take k).map allW)).length + 1 ≤ 1000000 := by rw [closeF_len]; simp; omega
        obtain ⟨va, vc, rfl⟩ := HG.out.form
        obtain ⟨g5, n5, c5, w3, hrun, hG5⟩ := HG.out.app Tryd.underlying26 infoFl rfl (by decide) hroom (by decide) [.string nCon, .string y] rfl (by simp [Value.oneCell'])
        have HG5 := Lib.hid hG5
        clear hG5
        have hrel' : Gt W1 25 2 (closeF (((xs.map kOf).take (k + 1)).map allW)).length (encF (closeF (((xs.map kOf).take (k + 1)).map allW))) (.slice (some ⟨g5, 0, none⟩) n5 c5) w3 := by
          rw [HON.out, List.length_append, encF_append]; exact HG5.out
        have HREL := Lib.hid hrel'
        clear hrel'
        have HQ2 := Lib.hid (show decide (q < 2) = decide ((q : Int) < 2) by rw [decide_eq_decide]; omega)
        cases rc with
        | true =>
          cases rk with
          | true =>
            go_wp2_with (at_builtin; refine wpList_run_appF rfl (.tmp 34) (.tmp 40) 26 rfl rfl rfl hrun ?_)
            go_roundw
            case rel => exact ⟨k + 1, by omega, by go_num, by rw [HAC.out]; rfl, by rw [HAK.out]; rfl, HREL.out⟩
            case measure => simp [intOf]; omega
          | false =>
            by_cases hq2 : q = 2
            · have HK := Lib.hid (show decide (q = 2 ∨ q = 3) = true from decide_eq_true (.inl hq2))
              have e2 : ((q : Int) == 2) = true := by simp; omega
              clear hq2
              go_wp2_with (at_builtin; refine wpList_run_appF rfl (.tmp 34) (.tmp 40) 26 rfl rfl rfl hrun ?_)
              go_roundw
              case rel => exact ⟨k + 1, by omega, by go_num, by rw [HAC.out]; rfl, by rw [HAK.out, HK.out]; rfl, HREL.out⟩
              case measure => simp [intOf]; omega
            · have e2 : ((q : Int) == 2) = false := by simp; omega
              by_cases hq3 : q = 3
              · have HK := Lib.hid (show decide (q = 2 ∨ q = 3) = true from decide_eq_true (.inr hq3))
                have e3 : ((q : Int) == 3) = true := by simp; omega
                clear hq2 hq3
                go_wp2_with (at_builtin; refine wpList_run_appF rfl (.tmp 34) (.tmp 40) 26 rfl rfl rfl hrun ?_)
                go_roundw
                case rel => exact ⟨k + 1, by omega, by go_num, by rw [HAC.out]; rfl, by rw [HAK.out, HK.out]; rfl, HREL.out⟩
                case measure => simp [intOf]; omega
              · have HK := Lib.hid (show decide (q = 2 ∨ q = 3) = false from decide_eq_false (by omega))
                have e3 : ((q : Int) == 3) = false := by simp; omega
                clear hq2 hq3
                go_wp2_with (at_builtin; refine wpList_run_appF rfl (.tmp 34) (.tmp 40) 26 rfl rfl rfl hrun ?_)
                go_roundw
                case rel => exact ⟨k + 1, by omega, by go_num, by rw [HAC.out]; rfl, by rw [HAK.out, HK.out]; rfl, HREL.out⟩
                case measure => simp [intOf]; omega
        | false =>
          cases rk with
          | true =>
            go_wp2_with (at_builtin; refine wpList_run_appF rfl (.tmp 34) (.tmp 40) 26 rfl rfl rfl hrun ?_)
            go_roundw
            case rel => exact ⟨k + 1, by omega, by go_num, by rw [HAC.out, HQ2.out]; rfl, by rw [HAK.out]; rfl, HREL.out⟩
            case measure => simp [intOf]; omega
          | false =>
            by_cases hq2 : q = 2
            · have HK := Lib.hid (show decide (q = 2 ∨ q = 3) = true from decide_eq_true (.inl hq2))
              have e2 : ((q : Int) == 2) = true := by simp; omega
              clear hq2
              go_wp2_with (at_builtin; refine wpList_run_appF rfl (.tmp 34) (.tmp 40) 26 rfl rfl rfl hrun ?_)
              go_roundw
              case rel => exact ⟨k + 1, by omega, by go_num, by rw [HAC.out, HQ2.out]; rfl, by rw [HAK.out, HK.out]; rfl, HREL.out⟩
              case measure => simp [intOf]; omega
            · have e2 : ((q : Int) == 2) = false := by simp; omega
              by_cases hq3 : q = 3
              · have HK := Lib.hid (show decide (q = 2 ∨ q = 3) = true from decide_eq_true (.inr hq3))
                have e3 : ((q : Int) == 3) = true := by simp; omega
                clear hq2 hq3
                go_wp2_with (at_builtin; refine wpList_run_appF rfl (.tmp 34) (.tmp 40) 26 rfl rfl rfl hrun ?_)
                go_roundw
                case rel => exact ⟨k + 1, by omega, by go_num, by rw [HAC.out, HQ2.out]; rfl, by rw [HAK.out, HK.out]; rfl, HREL.out⟩
                case measure => simp [intOf]; omega
              · have HK := Lib.hid (show decide (q = 2 ∨ q = 3) = false from decide_eq_false (by omega))
                have e3 : ((q : Int) == 3) = false := by simp; omega
                clear hq2 hq3
                go_wp2_with (at_builtin; refine wpList_run_appF rfl (.tmp 34) (.tmp 40) 26 rfl rfl rfl hrun ?_)
                go_roundw
                case rel => exact ⟨k + 1, by omega, by go_num, by rw [HAC.out, HQ2.out]; rfl, by rw [HAK.out, HK.out]; rfl, HREL.out⟩
                case measure => simp [intOf]; omega
      · obtain rfl : k = xs.length := by omega
        have hkl : (xs.map kOf).take xs.length = xs.map kOf := List.take_of_length_le (by rw [List.length_map]; exact Nat.le_refl _)
        have hG := HG.out
        rw [hkl] at hG ⊢
        have hk6 : ∀ k ∈ xs.map kOf, k < 6 := kOf_mem
        have hkn : (xs.map kOf).length = xs.length := by rw [List.length_map]
        generalize xs.map kOf = ks at *
        have hof := closes_of ks hk6 (by omega)
        have hfrm := closes_frm m ks hk6
        obtain ⟨va, vc, hv⟩ := hG.form
        have hO := of_a _ _ wr (FsAt.of_row hG.row) (by rw [closeF_len]; simp; omega) (closes_small hk6)
        have hlite := closes_lite hk6 (by omega)
        rw [hof] at hO
        have HO := Lib.hid hO
        have HFR := Lib.hid (fun (g : Nat) (v : Value) (w : World) (h : Fld 36 w g v (closeF (ks.map allW))) => of_f (m := m) (FP.of_fld h) hlite)
        have HLOW := Lib.hid (HM.out.trans hG.low (fun _ h => nomatch h))
        rw [hfrm] at HFR
        subst hv
        clear hG hof hO hlite hkl hlt hk hfrm hk6
        generalize (ks.any fun k => decide (k < 2)) = rc at *
        generalize (ks.any fun k => decide (k = 2 ∨ k = 3)) = rk at *
        unfold HAns howV at HFR
        simp only at HFR
        cases rc with
        | true =>
          rw [show ∀ z : Bool, (true || z) = true from fun _ => rfl] at HFR
          go_wp2_with (first
            | (go_at_call 5; refine HO.out.mono ?_; rintro e w5 ⟨g, u, rfl, hA⟩; have HA := Lib.hid hA; have HM5 := Lib.hid (HLOW.out.trans hA.mods (fun _ h => nomatch h)); unfold ptr; clear hA)
            | (go_at_call 6; refine (HFR.out _ _ _ HA.out.fld).mono ?_; rintro e w6 ⟨rfl, hm⟩; have HM6 := Lib.hid ((HM5.out.trans hm (fun _ h => nomatch h)).alloc (.cells #[.int .i64 0, .int .i64 0, .bool true, .bool false] 30)); clear hm)
            | (go_at_call 7; refine (known_12 _).mono ?_; rintro e w7 ⟨rfl, hm⟩; have HM7 := Lib.hid (HM6.out.trans hm (fun _ h => nomatch h)); clear hm))
          go_ret
          exact ⟨rfl, HM7.out.below⟩
        | false =>
          by_cases hm1 : m < 1
          · have hm2 : decide (m < 1) = true := decide_eq_true hm1
            rw [hm2] at HFR
            clear hm1
            cases rk with
            | true =>
              rw [show (false || (true && !true)) = false from rfl] at HFR
              go_wp2_with (first
                | (go_at_call 5; refine HO.out.mono ?_; rintro e w5 ⟨g, u, rfl, hA⟩; have HA := Lib.hid hA; have HM5 := Lib.hid (HLOW.out.trans hA.mods (fun _ h => nomatch h)); unfold ptr; clear hA)
                | (go_at_call 6; refine (HFR.out _ _ _ HA.out.fld).mono ?_; rintro e w6 ⟨rfl, hm⟩; have HM6 := Lib.hid ((HM5.out.trans hm (fun _ h => nomatch h)).alloc (.cells #[.int .i64 0, .int .i64 0, .bool false, .bool false] 30)); clear hm)
                | (go_at_call 7; refine (known_12 _).mono ?_; rintro e w7 ⟨rfl, hm⟩; have HM7 := Lib.hid (HM6.out.trans hm (fun _ h => nomatch h)); clear hm))
              go_ret
              exact ⟨rfl, HM7.out.below⟩
            | false =>
              rw [show (false || (true && !false)) = true from rfl] at HFR
              go_wp2_with (first
                | (go_at_call 5; refine HO.out.mono ?_; rintro e w5 ⟨g, u, rfl, hA⟩; have HA := Lib.hid hA; have HM5 := Lib.hid (HLOW.out.trans hA.mods (fun _ h => nomatch h)); unfold ptr; clear hA)
                | (go_at_call 6; refine (HFR.out _ _ _ HA.out.fld).mono ?_; rintro e w6 ⟨rfl, hm⟩; have HM6 := Lib.hid ((HM5.out.trans hm (fun _ h => nomatch h)).alloc (.cells #[.int .i64 0, .int .i64 0, .bool true, .bool false] 30)); clear hm)
                | (go_at_call 7; refine (known_12 _).mono ?_; rintro e w7 ⟨rfl, hm⟩; have HM7 := Lib.hid (HM6.out.trans hm (fun _ h => nomatch h)); clear hm))
              go_ret
              exact ⟨rfl, HM7.out.below⟩
          · have hm2 : decide (m < 1) = false := decide_eq_false hm1
            rw [hm2, show (false || (false && !rk)) = false from rfl] at HFR
            clear hm1
            go_wp2_with (first
              | (go_at_call 5; refine HO.out.mono ?_; rintro e w5 ⟨g, u, rfl, hA⟩; have HA := Lib.hid hA; have HM5 := Lib.hid (HLOW.out.trans hA.mods (fun _ h => nomatch h)); unfold ptr; clear hA)
              | (go_at_call 6; refine (HFR.out _ _ _ HA.out.fld).mono ?_; rintro e w6 ⟨rfl, hm⟩; have HM6 := Lib.hid ((HM5.out.trans hm (fun _ h => nomatch h)).alloc (.cells #[.int .i64 0, .int .i64 0, .bool false, .bool false] 30)); clear hm)
              | (go_at_call 7; refine (known_12 _).mono ?_; rintro e w7 ⟨rfl, hm⟩; have HM7 := Lib.hid (HM6.out.trans hm (fun _ h => nomatch h)); clear hm))
            go_ret
            exact ⟨rfl, HM7.out.below⟩

theorem own : ownKnob Tryd.prog.godebug = none := by kernel_rfl
theorem laidOut : laidOutB Tryd.prog = true := by kernel_rfl
set_option maxRecDepth 100000 in
theorem lifted (os : Os) (started : os.Started) (H : Type) (enc : TypeId × Value → H) :
    ReturnsInHanded {} Tryd.checked os 3 .any (fun w args => (Rows.framingClosesSpec.pre enc Tryd.prog Tryd.f3 [] false w args ∧ laidMetH Tryd.prog Rows.framingClosesRow.laid w) ∧ sizedMet enc Tryd.prog Tryd.f3 (OpenSpec.ofChange Rows.framingClosesSpec) false w args)
      (Rows.framingClosesSpec.post enc Tryd.prog Tryd.f3 false true false false) := by
  refine returnsInHanded_of_change_and (C := Tryd.checked) (X := fun w _ => laidMetH Tryd.prog Rows.framingClosesRow.laid w) (fun _ _ _ hh h => h.of_heap hh) own started (by kernel_rfl) Tryd.func3
    (ChangeSpec.witness_shaped (enc := enc) (C := Tryd.checked) (os := os) (X := fun w _ => laidMetH Tryd.prog Rows.framingClosesRow.laid w) false (World.laidAll Tryd.prog os Rows.framingClosesRow.laid) #[.int .i64 0, .slice none 0 0] 8 (World.laidAll_os _ _ _)
      (World.shaped_of_ZipB (by kernel_rfl) (by kernel_rfl)) (by kernel_rfl) (by kernel_rfl) (by kernel_rfl)
      (by rw [MakeChecks.laidMetH_plain _ _ _ (by kernel_rfl)]; exact laidMet_laidAll _ (by kernel_rfl) (by kernel_rfl))) ?_
  intro W base args ds gs before hval0 hW hcnd hsz0 hL _
  have hsz : (DataW.weightsEach Tryd.prog (Tryd.f3.params.toList ++ Rows.framingClosesSpec.plain.varTypes Tryd.prog) (ds ++ gs)).all (· ≤ reachBytes) = true := hsz0
  have hval : ∀ (j : Nat) t v, Tryd.f3.params[j]? = some t → args[j]? = some v → Value.okWide Tryd.prog W .any base t v := hval0
  have hW' := hW
  obtain ⟨p, q, hA0, hV, rfl, hfz, hnd⟩ := hW
  have hA : DataW.TrodAll enc Tryd.prog W 0 (fun _ => true) true Tryd.f3.params.toList args.toList ds p := hA0
  rw [Tryd.params3] at hA hval hsz
  obtain ⟨v0, vs0, d0, ds0, p0, q0, hargs, rfl, rfl, h0, r0⟩ := trodAll_cons hA
  obtain ⟨v1, vs1, d1, ds1, p1, q1, rfl, rfl, rfl, h1, r1⟩ := trodAll_cons r0
  obtain ⟨rfl, rfl, rfl⟩ := trodAll_nil r1
  obtain rfl : args = #[v0, v1] := by cases args; simp_all
  obtain ⟨rfl, rfl⟩ := trodVars_none hV
  obtain ⟨a0, rfl, rfl, rfl, w0⟩ := open_int Tryd.underlying3 (hval 0 3 v0 rfl rfl) h0
  have k1 := h1
  have lt1 : ∀ x ∈ p1, x.block < W.heap.size := by obtain ⟨m, hm⟩ := k1; exact DataW.trod_lt m _ _ _ hm
  obtain o1 := open_nums (hval 1 22 v1 rfl rfl) k1
  clear hA0 hval0 hsz0 hsz
  refine (walk W a0 w0 v1 o1).mono fun e W' ⟨he, bel⟩ => ?_
  subst he
  exact ⟨_, rfl, _, _, _, [], _, [], hW', trodAll_mk1 (shut_bool Tryd.underlying4 _), (trodAll_cons_mk (shut_int Tryd.underlying3 w0) (trodAll_cons_mk (Below.trod laidOut (by kernel_rfl) (of_decide_eq_true (by kernel_rfl)) k1 bel lt1) trodAll_mk0)), rfl, bel.frame _, fun h => by cases h⟩

theorem over : Rows.framingClosesRow.holds Tryd.pinned (OpenSpec.ofChange Rows.framingClosesSpec) :=
  OpenClaim.holds_of_wide 3 Tryd.f3 rfl rfl rfl rfl rfl rfl rfl ⟨rfl, rfl, rfl, rfl, rfl⟩ rfl rfl rfl rfl rfl (by kernel_rfl) Tryd.func3 (by kernel_rfl)
    (of_decide_eq_true (by kernel_rfl)) (by unfold Func.isWrapper; first | (rw [if_pos (by decide +kernel)]; kernel_rfl) | (rw [if_neg (by decide +kernel)]; exact ⟨rfl, rfl⟩))
    (fun os started H enc _ => lifted os started H enc)

theorem said : Rows.FramingClosesSaid := over
theorem plain (f : FuncId) (fn : Func) (hf : Tryd.pinned.checked.prog.funcNamed "usher/usherlaw12.FramingCloses" = some f) (hfn : Tryd.pinned.checked.prog.funcs[f]? = some fn) :
    false = Tryd.pinned.checked.prog.looks [] ∧ ∀ (j : Nat) t, fn.params[j]? = some t → Tryd.pinned.checked.prog.wantsStandIn t = false := by
  obtain rfl : f = 3 := Option.some.inj ((show Tryd.prog.funcNamed "usher/usherlaw12.FramingCloses" = some 3 by kernel_rfl).symm.trans hf) |>.symm
  obtain rfl : fn = Tryd.f3 := (Option.some.inj (Tryd.func3.symm.trans hfn)).symm
  refine ⟨by kernel_rfl, fun j t ht => ?_⟩
  rw [Tryd.params3] at ht
  have hm : t ∈ [3, 22] := by simpa using Array.mem_of_getElem? ht
  simp only [List.mem_cons, List.mem_nil_iff, or_false] at hm
  rcases hm with rfl | rfl
  · exact (show Tryd.prog.wantsStandIn 3 = false by kernel_rfl)
  · exact (show Tryd.prog.wantsStandIn 22 = false by kernel_rfl)
theorem proved : Rows.FramingClosesCardSaid :=
  Claim7.holds_tied_plain_at .later [] _ _ _ _ said (fun _ h => by cases h) (by kernel_rfl) (fun _ h => by cases h) framingCloses_row_tie rfl ⟨rfl, rfl⟩ (by kernel_rfl) rfl plain (by kernel_rfl)
end Go.Proofs.YtcliapfoimnkiaaDoor.framingCloses
