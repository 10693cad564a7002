/- For every number of rings and of Puts, a new pool lends just so many rings, each with the least number, refuses one more with ErrFull, and says how many are lent and ever were: the law returns true. Condition: none. -/
import Derived.Test.YtdocifbkocbiiaaRows
import Derived.WalkKit
import Derived.ProofKit
import Derived.OpenShut
import Derived.ShutString
import Derived.ChangeOld
import Derived.Below
import Derived.SizedLaws
import Derived.Test.YtdocifbkocbiiaaPoolL
import Derived.Test.YtdocifbkocbiiaaMostMath
namespace Go.Proofs.Ytdocifbkocbiiaa.poolMost
open Go.ChangeShapes Go.WideShapes Go.ChangeAt Go.RowKit
open Go.ChangeMaps (open_string shut_string)
set_option linter.unusedVariables false
set_option maxRecDepth 100000
set_option linter.unusedSimpArgs false
set_option maxHeartbeats 1000000 in
theorem main (N B : Nat) (hN : N ≤ 60) (hB : B ≤ 60) (W : World) :
    Calls Try.prog 6 #[.int .i64 N, .int .i64 B] W fun e w' => e = .returned (.bool true) ∧ Below W.heap.size W w' := by
  have h1 := eql_nil
  have h2 := eql_pnil
  go_enter Try.func6, Try.ntmps6
  go_wp2_with fail
  refine (pnew_any N 8 W (by omega) (by decide) (by decide)).mono ?_
  rintro e w1 ⟨rfl, hs, hm⟩
  have H1 := Lib.hid (show PoolA w1 (W.heap.size + 1) W.heap.size 8 (up N 0) 0 ∧ Mods [] W w1 from ⟨by rw [up_zero]; exact hs, hm⟩)
  clear hs hm
  go_wp2
  go_loopw [7, 8, 9, 10] (fun i a b c wr => ∃ k : Nat, k ≤ N ∧ i = .int .i64 k ∧ Hid (PoolA wr (W.heap.size + 1) W.heap.size 8 (up N k) k ∧ Mods [] W wr)) (fun i _ _ _ _ => N - (intOf i).toNat)
  case atStart => exact ⟨0, Nat.zero_le _, rfl, H1⟩
  case round =>
    obtain ⟨k, hk, rfl, hd⟩ := hrel
    clear H1
    by_cases hlt : k < N
    · go_wp2_with fail
      refine (get_as wr _ _ 8 k (k + 1) k _ (up N (k + 1)) hd.out.1 (by rw [up_lo hk]) (by rw [up_lo hk, up_length hk]; exact hlt) (by rw [up_lo hk, up_set hlt]) (by rw [up_cnt]; omega)).mono ?_
      rintro e w2 ⟨rfl, hd2⟩
      go_wp2
      go_roundw
      case rel => exact ⟨k + 1, by omega, by go_num, Lib.hid ⟨hd2.out.1, hd.out.2.trans hd2.out.2.2 (by intro j hj; right; simp at hj; omega)⟩⟩
      case measure => simp [intOf]; omega
    · have e : k = N := by omega
      subst e
      clear hlt hk
      go_wp2_with fail
      refine (get_full wr _ _ 8 k _ hd.out.1 (by rw [up_lo (Nat.le_refl _), up_length (Nat.le_refl _)]; exact Nat.le_refl _)).mono ?_
      rintro e w' ⟨rfl, rfl⟩
      have H2 := Lib.hid (show PoolA wr (W.heap.size + 1) W.heap.size 8 (down k 0) k ∧ Mods [] W wr from ⟨by rw [← up_all]; exact hd.out.1, hd.out.2⟩)
      clear hd
      go_wp2
      go_loopw [14, 15] (fun n i wx => ∃ (j p : Nat), j ≤ B ∧ i = .int .i64 j ∧ n = .int .i64 p ∧ p ≤ 60 ∧ Hid (p = min j k ∧ PoolA wx (W.heap.size + 1) W.heap.size 8 (down k p) k ∧ Mods [] W wx)) (fun _ i _ => B - (intOf i).toNat)
      case atStart => exact ⟨0, 0, Nat.zero_le _, rfl, rfl, Nat.zero_le _, Lib.hid ⟨by omega, H2.out⟩⟩
      case round =>
        obtain ⟨j, p, hj, rfl, rfl, hp, hd⟩ := hrel
        clear H2
        by_cases hlt : j < B
        · have hpe := hd.out.1
          have hq : min (j + 1) k = p ∨ min (j + 1) k = p + 1 := by omega
          obtain ⟨x, hx, hx2, hx3⟩ : ∃ x : Nat, x = min (j + 1) k - p ∧ x ≤ 1 ∧ (p : Int) + (x : Int) = ((min (j + 1) k : Nat) : Int) := ⟨_, rfl, by omega, by omega⟩
          have HX := Lib.hid hx3
          have HXE := Lib.hid hx
          clear hx3 hx hq hpe
          go_wp2_with fail
          refine (put_as _ _ _ 8 k 1 x (down k p) (down k (min (j + 1) k)) [(j : Int)] _ hd.out.2.1 rfl (by decide) (down_step hd.out.1) (by have := hd.out.1; have := HXE.out; rw [down_cnt, down_cnt]; omega)).mono ?_
          rintro e w2 ⟨rfl, hd2⟩
          go_wp2
          go_roundw
          case rel => exact ⟨j + 1, min (j + 1) k, by omega, by go_num, by rw [← HX.out], by omega, Lib.hid ⟨rfl, hd2.out.1, hd.out.2.2.trans hd2.out.2 (by intro j hj; right; simp at hj; omega)⟩⟩
          case measure => simp [intOf]; omega
        · have e : j = B := by omega
          subst e
          clear hlt hj
          have hpe := hd.out.1
          go_wp2_with fail
          refine (lent_as _ _ _ 8 k ((k : Int) - (p : Int)) _ hd.out.2.1 (by rw [down_cnt]; omega)).mono ?_
          rintro e w2 ⟨rfl, hm⟩
          have M2 := Lib.hid (hd.out.2.2.trans hm (by simp))
          clear hd hm
          by_cases hlt : j < k
          · obtain rfl : p = j := by omega
            clear hpe
            go_wp2_with fail
            refine (known4_any _).mono ?_
            rintro e w3 ⟨rfl, hm⟩
            have M3 := Lib.hid (M2.out.trans hm (by simp))
            clear hm
            go_wp2
            go_ret
            exact ⟨rfl, M3.out.below⟩
          · obtain rfl : p = k := by omega
            clear hpe
            go_wp2_with fail
            refine (known4_any _).mono ?_
            rintro e w3 ⟨rfl, hm⟩
            have M3 := Lib.hid (M2.out.trans hm (by simp))
            clear hm
            go_wp2
            go_ret
            exact ⟨rfl, M3.out.below⟩
theorem other (a b : Int) (h : a < 0 ∨ 60 < a ∨ b < 0 ∨ 60 < b) (W : World) :
    Calls Try.prog 6 #[.int .i64 a, .int .i64 b] W fun e w' => e = .returned (.bool true) ∧ Below W.heap.size W w' := by
  by_cases h1 : a < 0
  · go_enter Try.func6, Try.ntmps6
    go_wp2_with fail
    refine (known4_any _).mono ?_
    rintro e w3 ⟨rfl, hm⟩
    have M3 := Lib.hid hm
    clear hm
    go_wp2
    go_ret
    exact ⟨rfl, M3.out.below⟩
  · by_cases h2 : 60 < a
    · go_enter Try.func6, Try.ntmps6
      go_wp2_with fail
      refine (known4_any _).mono ?_
      rintro e w3 ⟨rfl, hm⟩
      have M3 := Lib.hid hm
      clear hm
      go_wp2
      go_ret
      exact ⟨rfl, M3.out.below⟩
    · by_cases h3 : b < 0
      · go_enter Try.func6, Try.ntmps6
        go_wp2_with fail
        refine (known4_any _).mono ?_
        rintro e w3 ⟨rfl, hm⟩
        have M3 := Lib.hid hm
        clear hm
        go_wp2
        go_ret
        exact ⟨rfl, M3.out.below⟩
      · have h4 : 60 < b := by omega
        clear h
        go_enter Try.func6, Try.ntmps6
        go_wp2_with fail
        refine (known4_any _).mono ?_
        rintro e w3 ⟨rfl, hm⟩
        have M3 := Lib.hid hm
        clear hm
        go_wp2
        go_ret
        exact ⟨rfl, M3.out.below⟩
theorem walk (W : World) (a : Int) (ha : (Lit.int .i64 a).wf = true) (b : Int) (hb : (Lit.int .i64 b).wf = true) :
    Calls Try.prog 6 #[.int .i64 a, .int .i64 b] W fun e w' => e = .returned (.bool true) ∧ Below W.heap.size W w' := by
  by_cases h : a < 0 ∨ 60 < a ∨ b < 0 ∨ 60 < b
  · exact other a b h W
  · obtain ⟨N, rfl⟩ : ∃ N : Nat, a = (N : Int) := ⟨a.toNat, by omega⟩
    obtain ⟨B, rfl⟩ : ∃ B : Nat, b = (B : Int) := ⟨b.toNat, by omega⟩
    exact main N B (by omega) (by omega) W

theorem own : ownKnob Try.prog.godebug = none := by kernel_rfl
theorem laidOut : laidOutB Try.prog = true := by kernel_rfl
set_option maxRecDepth 100000 in
theorem lifted (os : Os) (started : os.Started) (H : Type) (enc : TypeId × Value → H) :
    ReturnsInHanded {} Try.checked os 6 .any (Rows.poolMostSpec.pre6 enc Try.prog Try.f6 Rows.poolMostRow.domain false) (Rows.poolMostSpec.post enc Try.prog Try.f6 false true false false) := by
  refine returnsInHanded_of_change_sized (C := Try.checked) own started (by kernel_rfl) Try.func6
    (ChangeSpec.witness6 (enc := enc) (C := Try.checked) false ⟨#[], #[.int .i64 0, .int .i64 0], []⟩ 8 (by kernel_rfl) (by kernel_rfl) (by kernel_rfl) (by kernel_rfl)) ?_
  intro W base args ds gs before hval0 hW hcnd hsz0 _
  have hsz : (DataW.weightsEach Try.prog (Try.f6.params.toList ++ Rows.poolMostSpec.plain.varTypes Try.prog) (ds ++ gs)).all (· ≤ reachBytes) = true := hsz0
  have hval : ∀ (j : Nat) t v, Try.f6.params[j]? = some t → args[j]? = some v → Value.okWide Try.prog W .any base t v := hval0
  have hW' := hW
  obtain ⟨p, q, hA0, hV, rfl, hfz, hnd⟩ := hW
  have hA : DataW.TrodAll enc Try.prog W 0 (fun _ => true) true Try.f6.params.toList args.toList ds p := hA0
  rw [Try.params6] at hA hval hsz
  obtain ⟨v0, vs0, d0, ds0, p0, q0, hargs, rfl, rfl, h0, r0⟩ := trodAll_cons hA
  obtain ⟨v1, vs1, d1, ds1, p1, q1, rfl, rfl, rfl, h1, r1⟩ := trodAll_cons r0
  obtain ⟨rfl, rfl, rfl⟩ := trodAll_nil r1
  obtain rfl : args = #[v0, v1] := by cases args; simp_all
  obtain ⟨rfl, rfl⟩ := trodVars_none hV
  obtain ⟨a0, rfl, rfl, rfl, w0⟩ := open_int Try.underlying3 (hval 0 3 v0 rfl rfl) h0
  obtain ⟨a1, rfl, rfl, rfl, w1⟩ := open_int Try.underlying3 (hval 1 3 v1 rfl rfl) h1
  clear hA0 hval0 hsz0 hsz
  refine (walk W a0 w0 a1 w1).mono fun e W' ⟨he, bel⟩ => ?_
  subst he
  exact ⟨_, rfl, _, _, _, [], _, [], hW', trodAll_mk1 (shut_bool Try.underlying4 _), (trodAll_cons_mk (shut_int Try.underlying3 w0) (trodAll_cons_mk (shut_int Try.underlying3 w1) trodAll_mk0)), rfl, bel.frame _, fun h => by cases h⟩

theorem over : Rows.poolMostRow.holds Try.pinned (OpenSpec.ofChange Rows.poolMostSpec) :=
  OpenClaim.holds_of_wide 6 Try.f6 rfl rfl rfl rfl rfl rfl rfl ⟨rfl, rfl, rfl, rfl, rfl⟩ rfl rfl rfl rfl rfl (by kernel_rfl) Try.func6 (by kernel_rfl)
    (of_decide_eq_true (by kernel_rfl)) (by unfold Func.isWrapper; first | (rw [if_pos (by decide +kernel)]; kernel_rfl) | (rw [if_neg (by decide +kernel)]; exact ⟨rfl, rfl⟩))
    (fun os started H enc _ => lifted os started H enc)

theorem proved : Rows.PoolMostSaid := over
end Go.Proofs.Ytdocifbkocbiiaa.poolMost
