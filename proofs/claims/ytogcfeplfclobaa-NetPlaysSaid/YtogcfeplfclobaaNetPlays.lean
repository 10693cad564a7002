/- For every backlog and script, the net answers each call as the document says, and all connections stand as it says: the law returns true. Condition: none. -/
import Derived.Test.YtogcfeplfclobaaRows
import Derived.WalkKit
import Derived.ProofKit
import Derived.OpenShut
import Derived.ShutString
import Derived.ChangeOld
import Derived.Below
import Derived.SizedLaws
import Derived.Test.YtogcfeplfclobaaOpenA
import Derived.Test.YtogcfeplfclobaaDa7
import Derived.Deep.CutBlock
namespace Go.Proofs.Ytogcfeplfclobaa.netPlays
open Go.ChangeShapes Go.WideShapes Go.ChangeAt Go.RowKit
open Go.ChangeMaps (open_string shut_string)
set_option linter.unusedVariables false
set_option maxRecDepth 100000
set_option linter.unusedSimpArgs false
def St7 (W wr : World) (g x m : Nat) : Prop := ∃ S, Two W wr g x S S m m []
theorem lenN (W w : World) (g x m n : Nat) (S T : Nt) (h : Two W w g x S T m n []) (a b : Int) (ha : S.wait = a) (hb : ((opens S.L : Nat) : Int) = b) :
    Calls Try.prog 15 #[.pointer (some ⟨g, 0, none⟩)] w fun e w' => e = .returned (.tuple #[.int .i64 a, .int .i64 b]) ∧ Hid (Two W w' g x S T m n []) := by
  subst ha hb
  exact lenT W w g x m n S T h
theorem rlenN (W w : World) (g x m n : Nat) (S T : Nt) (h : Two W w g x S T m n []) (a b : Int) (ha : T.wait = a) (hb : ((opens T.L : Nat) : Int) = b) :
    Calls Try.prog 16 #[.pointer (some ⟨x, 0, none⟩)] w fun e w' => e = .returned (.tuple #[.int .i64 a, .int .i64 b]) ∧ Hid (Two W w' g x S T m n []) := by
  subst ha hb
  exact rlenT W w g x m n S T h
set_option maxHeartbeats 4000000 in
theorem bad (b : Int) (hb : b < 1 ∨ 64 < b) (W : World) (A : Option Addr) (len cap : Nat) (f : Nat → ActAt) (hf : ActsAt W A len f) (hlm : len ≤ maxLen) :
    Calls Try.prog 3 #[.int .i64 b, .slice A len cap] W fun e w' => e = .returned (.bool true) ∧ Below W.heap.size W w' := by
  have hn := eql_nnil
  have HB := Lib.hid hb
  have HH := Lib.hid (heavy_any W A len cap f hf hlm)
  clear hf hb hlm
  go_enter Try.func3, Try.ntmps3
  go_wp2_with fail
  refine HH.out.mono ?_
  rintro e w' ⟨t, rfl, rfl, hs⟩
  clear hs HH
  cases t
  case true =>
    go_wp2_with fail
    refine (known_any _).mono ?_
    rintro e w1 ⟨rfl, hd⟩
    have H1 := Lib.hid hd
    clear hd
    go_wp2
    go_ret
    exact ⟨rfl, H1.out.below⟩
  go_wp2_with fail
  refine (nnew_bad b W HB.out).mono ?_
  rintro e w1 ⟨rfl, rfl⟩
  go_wp2_with fail
  refine (rnew_bad b W HB.out).mono ?_
  rintro e w1 ⟨rfl, rfl⟩
  go_wp2_with fail
  refine (known_any _).mono ?_
  rintro e w1 ⟨rfl, hd⟩
  have H1 := Lib.hid hd
  clear hd
  go_wp2
  go_ret
  exact ⟨rfl, H1.out.below⟩
set_option maxHeartbeats 8000000 in
theorem main (b : Int) (h1 : 1 ≤ b) (h2 : b ≤ 64) (W : World) (A : Option Addr) (len cap : Nat) (f : Nat → ActAt) (hf : ActsAt W A len f) (hlm : len ≤ maxLen) :
    Calls Try.prog 3 #[.int .i64 b, .slice A len cap] W fun e w' => e = .returned (.bool true) ∧ Below W.heap.size W w' := by
  have hn := eql_nnil
  have HF := Lib.hid hf
  have HH := Lib.hid (heavy_any W A len cap f hf hlm)
  unfold maxLen at hlm
  clear hf
  go_enter Try.func3, Try.ntmps3
  go_wp2_with fail
  refine HH.out.mono ?_
  rintro e w' ⟨t, rfl, rfl, hs⟩
  cases t
  case true =>
    go_wp2_with fail
    refine (known_any _).mono ?_
    rintro e w1 ⟨rfl, hd⟩
    have H1 := Lib.hid hd
    clear hd
    go_wp2
    go_ret
    exact ⟨rfl, H1.out.below⟩
  have HS := Lib.hid (hs rfl)
  clear hs HH
  go_wp2_with fail
  refine (nnew_any b W h1 h2).mono ?_
  rintro e w1 ⟨rfl, hr, hm⟩
  have R1 := Lib.hid hr
  have M1 := Lib.hid hm
  clear hr hm
  go_wp2_with fail
  refine (rnew_any b w1 h1 h2).mono ?_
  rintro e w2 ⟨rfl, hr, hm⟩
  have H0 := Lib.hid (show St7 W w2 W.heap.size w1.heap.size (9024 * 0) from ⟨_, Two.born R1.out M1.out hr hm⟩)
  clear hr hm R1 M1 h1 h2
  go_wp2_with fail
  go_loopw [9, 10, 11, 12, 13] (fun i x1 x2 x3 x4 wr => ∃ k : Nat, k ≤ len ∧ k ≤ 150 ∧ i = .int .i64 k ∧ Hid (St7 W wr W.heap.size w1.heap.size (9024 * k))) (fun i _ _ _ _ _ => len - (intOf i).toNat)
  case atStart => exact ⟨0, by omega, by omega, rfl, H0⟩
  case round =>
    obtain ⟨k, hk, hk2, rfl, hd⟩ := hrel
    clear H0
    obtain ⟨S, hst⟩ := hd.out
    have HST := Lib.hid hst
    clear hst hd
    by_cases hc : k < len ∧ k < 150
    · obtain ⟨hlt, hlt2⟩ := hc
      obtain ⟨ab, ao, rfl, hab, a0, a1, a2, a3, a4, i0, i1, i2, r3, r4⟩ := HF.out k hlt
      have hsm := HS.out k (by omega)
      have HSM := Lib.hid hsm
      have HI := Lib.hid i2
      have HB := Lib.hid r3
      have HC := Lib.hid r4
      obtain ⟨kd, hkd⟩ : ∃ kd, kd = (f k).kind := ⟨_, rfl⟩
      obtain ⟨c, hcc⟩ : ∃ c, c = (f k).c := ⟨_, rfl⟩
      obtain ⟨n, hnn⟩ : ∃ n, n = (f k).n := ⟨_, rfl⟩
      obtain ⟨rB, hrB⟩ : ∃ r, r = (f k).B := ⟨_, rfl⟩
      obtain ⟨rC, hrC⟩ : ∃ r, r = (f k).C := ⟨_, rfl⟩
      rw [← hkd] at a0
      rw [← hcc] at a1
      rw [← hnn] at a2 HI
      rw [← hrB] at a3 HB HSM
      rw [← hrC] at a4 HC HSM
      have A1 := Lib.hid a1
      have c0 := cell_mods a0 HST.out.mods (by simp)
      have c1 := cell_mods a1 HST.out.mods (by simp)
      have c2 := cell_mods a2 HST.out.mods (by simp)
      have c3 := cell_mods a3 HST.out.mods (by simp)
      have c4 := cell_mods a4 HST.out.mods (by simp)
      clear hkd hcc hnn hrB hrC a0 a1 a2 a3 a4 i0 i1 i2 r3 r4 hsm
      go_wp2_with fail
      refine (does_any W wr _ _ _ S kd c n rB rC HST.out (by omega) HI.out.2 HB.out HC.out HSM.out).mono ?_
      rintro e w3 ⟨rfl, hd⟩
      obtain ⟨S3, h3⟩ := hd.out
      have H3 := Lib.hid h3
      have d1 := cell_mods A1.out H3.out.mods (by simp)
      clear hd h3 c0 c1 c2 c3 c4 HST
      go_wp2_with fail
      refine (stoodT W w3 _ _ _ _ S3 c H3.out).mono ?_
      rintro e w4 ⟨rfl, hd⟩
      have H4 := Lib.hid hd.out.1
      clear hd d1 H3
      go_wp2_with fail
      refine (stoodT W w4 _ _ _ _ S3 (-1) H4.out).mono ?_
      rintro e w5 ⟨rfl, hd⟩
      have H5 := Lib.hid hd.out.1
      clear hd H4
      obtain ⟨a, ha⟩ : ∃ a, S3.wait = a := ⟨_, rfl⟩
      obtain ⟨o, ho⟩ : ∃ o : Int, ((opens S3.L : Nat) : Int) = o := ⟨_, rfl⟩
      have HA := Lib.hid ha
      have HO := Lib.hid ho
      clear ha ho
      go_wp2_with fail
      refine (lenN W w5 _ _ _ _ S3 S3 H5.out a o HA.out HO.out).mono ?_
      rintro e w6 ⟨rfl, hd⟩
      have H6 := Lib.hid hd.out
      clear hd H5
      go_wp2_with fail
      refine (rlenN W w6 _ _ _ _ S3 S3 H6.out a o HA.out HO.out).mono ?_
      rintro e w7 ⟨rfl, hd⟩
      have H7 := Lib.hid hd.out
      clear hd H6
      go_wp2
      go_roundw
      case rel => exact ⟨k + 1, by omega, by omega, by go_num, Lib.hid ⟨S3, H7.out⟩⟩
      case measure => simp [intOf]; omega
    · obtain ⟨L, hL⟩ : ∃ L, L = S.L.length := ⟨_, rfl⟩
      have hL2 : L ≤ 65536 := by obtain ⟨_, _, _, h⟩ := HST.out.list; omega
      have HL := Lib.hid hL
      clear hL
      obtain ⟨wo, rfl⟩ : ∃ wo : World, wo = wr := ⟨_, rfl⟩
      have hcase : (k < len ∧ k = 150) ∨ (¬ k < len) := by omega
      rcases hcase with ⟨h3, h4⟩ | h3
      all_goals
        clear hc
        go_wp2_with fail
        go_loopw [14] (fun i wr => ∃ z : Int, -2 ≤ z ∧ z ≤ (L : Int) + 1 ∧ i = .int .i64 z ∧ Hid (Two W wr W.heap.size w1.heap.size S S (9024 * k) (9024 * k) [])) (fun i _ => L + 3 - (intOf i + 2).toNat)
        case atStart => exact ⟨-2, by omega, by omega, rfl, HST⟩
        case round =>
          obtain ⟨z, hz1, hz2, rfl, hd⟩ := hrel
          obtain ⟨A5, cp5, c5, hl5⟩ := hd.out.list
          rw [← HL.out] at c5
          clear hl5
          by_cases hz : z ≤ (L : Int)
          · go_wp2_with fail
            refine (stoodT W wr _ _ _ _ S z hd.out).mono ?_
            rintro e w4 ⟨rfl, hd4⟩
            have H4 := Lib.hid hd4.out.1
            clear hd4
            go_wp2
            go_roundw
            case rel => exact ⟨z + 1, by omega, by omega, by go_num, H4⟩
            case measure => simp [intOf]; omega
          · go_wp2_with fail
            refine (known_any _).mono ?_
            rintro e w4 ⟨rfl, hm4⟩
            have H4 := Lib.hid (hd.out.mods.trans hm4 (by simp))
            clear hm4
            go_wp2
            go_ret
            exact ⟨rfl, H4.out.below⟩
theorem walk (W : World) (n : Int) (hn : (Lit.int .i64 n).wf = true) (v : Value) (ho : IsActs W v) :
    Calls Try.prog 3 #[.int .i64 n, v] W fun e w' => e = .returned (.bool true) ∧ Below W.heap.size W w' := by
  obtain ⟨A, len, cap, f, rfl, hl, hf⟩ : ∃ (A : Option Addr) (len cap : Nat) (f : Nat → ActAt), v = .slice A len cap ∧ len ≤ maxLen ∧ ActsAt W A len f := by
    rcases ho with ⟨a, cap, rfl⟩ | ⟨bb, off, len, cap, f, rfl, h1, h2, h3, h4, h5⟩
    · exact ⟨a, 0, cap, fun _ => ⟨0, 0, 0, ⟨none, [], 0⟩, ⟨none, [], 0⟩⟩, rfl, Nat.zero_le _, fun j hj => by omega⟩
    · exact ⟨_, len, cap, f, rfl, by omega, fun j hj => ⟨bb, off, rfl, h4, h5 j hj⟩⟩
  by_cases h : 1 ≤ n ∧ n ≤ 64
  · exact main n h.1 h.2 W A len cap f hf hl
  · exact bad n (by omega) W A len cap f hf hl

theorem own : ownKnob Try.prog.godebug = none := by kernel_rfl
theorem laidOut : laidOutB Try.prog = true := by kernel_rfl
set_option maxRecDepth 100000 in
theorem lifted (os : Os) (started : os.Started) (H : Type) (enc : TypeId × Value → H) :
    ReturnsInHanded {} Try.checked os 3 .any (Rows.netPlaysSpec.pre6 enc Try.prog Try.f3 Rows.netPlaysRow.domain false) (Rows.netPlaysSpec.post enc Try.prog Try.f3 false true false false) := by
  refine returnsInHanded_of_change_sized (C := Try.checked) own started (by kernel_rfl) Try.func3
    (ChangeSpec.witness6 (enc := enc) (C := Try.checked) false ⟨#[], #[.int .i64 0, .slice none 0 0], []⟩ 8 (by kernel_rfl) (by kernel_rfl) (by kernel_rfl) (by kernel_rfl)) ?_
  intro W base args ds gs before hval0 hW hcnd hsz0 _
  have hsz : (DataW.weightsEach Try.prog (Try.f3.params.toList ++ Rows.netPlaysSpec.plain.varTypes Try.prog) (ds ++ gs)).all (· ≤ reachBytes) = true := hsz0
  have hval : ∀ (j : Nat) t v, Try.f3.params[j]? = some t → args[j]? = some v → Value.okWide Try.prog W .any base t v := hval0
  have hW' := hW
  obtain ⟨p, q, hA0, hV, rfl, hfz, hnd⟩ := hW
  have hA : DataW.TrodAll enc Try.prog W 0 (fun _ => true) true Try.f3.params.toList args.toList ds p := hA0
  rw [Try.params3] at hA hval hsz
  obtain ⟨v0, vs0, d0, ds0, p0, q0, hargs, rfl, rfl, h0, r0⟩ := trodAll_cons hA
  obtain ⟨v1, vs1, d1, ds1, p1, q1, rfl, rfl, rfl, h1, r1⟩ := trodAll_cons r0
  obtain ⟨rfl, rfl, rfl⟩ := trodAll_nil r1
  obtain rfl : args = #[v0, v1] := by cases args; simp_all
  obtain ⟨rfl, rfl⟩ := trodVars_none hV
  obtain ⟨a0, rfl, rfl, rfl, w0⟩ := open_int Try.underlying3 (hval 0 3 v0 rfl rfl) h0
  have k1 := h1
  have lt1 : ∀ x ∈ p1, x.block < W.heap.size := by obtain ⟨m, hm⟩ := k1; exact DataW.trod_lt m _ _ _ hm
  obtain o1 := open_acts (hval 1 22 v1 rfl rfl) k1 (fun n hn => by simpa using List.all_eq_true.1 hsz n (DataW.weights_mem_each (j := 1) (t := 22) rfl rfl n hn))
  clear hA0 hval0 hsz0 hsz
  refine (walk W a0 w0 v1 o1).mono fun e W' ⟨he, bel⟩ => ?_
  subst he
  exact ⟨_, rfl, _, _, _, [], _, [], hW', trodAll_mk1 (shut_bool Try.underlying4 _), (trodAll_cons_mk (shut_int Try.underlying3 w0) (trodAll_cons_mk (Below.trod laidOut (by kernel_rfl) (of_decide_eq_true (by kernel_rfl)) k1 bel lt1) trodAll_mk0)), rfl, bel.frame _, fun h => by cases h⟩

theorem over : Rows.netPlaysRow.holds Try.pinned (OpenSpec.ofChange Rows.netPlaysSpec) :=
  OpenClaim.holds_of_wide 3 Try.f3 rfl rfl rfl rfl rfl rfl rfl ⟨rfl, rfl, rfl, rfl, rfl⟩ rfl rfl rfl rfl rfl (by kernel_rfl) Try.func3 (by kernel_rfl)
    (of_decide_eq_true (by kernel_rfl)) (by unfold Func.isWrapper; first | (rw [if_pos (by decide +kernel)]; kernel_rfl) | (rw [if_neg (by decide +kernel)]; exact ⟨rfl, rfl⟩))
    (fun os started H enc _ => lifted os started H enc)

theorem proved : Rows.NetPlaysSaid := over
end Go.Proofs.Ytogcfeplfclobaa.netPlays
