/- For every list of texts, ascii.Join is the texts, one behind the other: the law returns true. Condition: none. -/
import Derived.Test.YtfeoiopmnijbmaaRows
import Derived.WalkKit
import Derived.ProofKit
import Derived.OpenShut
import Derived.ShutString
import Derived.ChangeOld
import Derived.Below
import Derived.SizedLaws
import Derived.Test.YtfeoiopmnijbmaaKnown
import Derived.Test.YtfeoiopmnijbmaaOpen
namespace Go.Proofs.Ytfeoiopmnijbmaa.asciiJoins
open Go.ChangeShapes Go.WideShapes Go.ChangeAt Go.RowKit
open Go.ChangeMaps (open_string shut_string)
set_option linter.unusedVariables false

def catA (f : Nat → ByteArray) (k : Nat) : ByteArray := ⟨(joinF f k).toArray⟩
theorem catA_zero (f : Nat → ByteArray) : catA f 0 = ⟨#[]⟩ := rfl
theorem catA_size (f : Nat → ByteArray) (k : Nat) : (catA f k).size = (joinF f k).length := rfl
theorem catA_succ (f : Nat → ByteArray) (k : Nat) : catA f (k + 1) = catA f k ++ f k := by
  apply bytes_inj
  show joinF f k ++ (f k).data.toList = _
  simp [catA, ByteArray.data_append]
theorem catA_eq (f : Nat → ByteArray) (k : Nat) : (joinF f k == (catA f k).toList) = true := by
  rw [ByteArray.toList_eq]; simp [catA]

set_option maxRecDepth 10000 in
theorem walk (w : World) (v : Value) (hv : IsStrs w v) :
    Calls Try.prog 5 #[v] w fun e w' => e = .returned (.bool true) ∧ Below w.heap.size w w' := by
  rcases hv with ⟨a, cap, rfl⟩ | ⟨b, off, len, cap, f, rfl, h0, hl, hb, hc, hf⟩
  · go_enter Try.func5, Try.ntmps5
    go_wp2
    refine wp_loop_rounds 1 ?_
    rw [rounds_succ]
    go_wp2_with fail
    refine (join_nil _ _ _).mono ?_
    rintro e w1 ⟨rfl, hd⟩
    have H1 := Lib.hid hd
    clear hd
    go_wp2_with fail
    refine (join_nil _ _ _).mono ?_
    rintro e w2 ⟨rfl, hd⟩
    have H2 := Lib.hid (H1.out.trans (hd.mono H1.out.size))
    clear hd
    go_wp2_with fail
    refine (known_a _).mono ?_
    rintro e w3 ⟨rfl, hd⟩
    have H3 := Lib.hid (H2.out.trans (hd.mono H2.out.size))
    clear hd
    go_wp2
    go_ret
    exact ⟨rfl, H3.out⟩
  · go_enter Try.func5, Try.ntmps5
    go_wp2
    have HC := Lib.hid hc
    have HF := Lib.hid hf
    clear hc hf
    go_loop [3, 4, 5] (fun n c i => ∃ (k : Nat), k ≤ len ∧ i = .int .i64 k ∧ n = .int .i64 ((k + (joinF f k).length : Nat) : Int) ∧ c = .string (catA f k) ∧ k + (joinF f k).length ≤ 2000) (fun _ _ i => len - (intOf i).toNat)
    case atStart => exact ⟨0, Nat.zero_le _, rfl, rfl, rfl, by simp [joinF]⟩
    case round =>
      obtain ⟨k, hk, rfl, rfl, rfl, hn⟩ := hrel
      by_cases hlt : k < len
      · have hcell := HC.out k hlt
        have hsz := HF.out k hlt
        have hcs : (catA f k).size ≤ 2000 := by rw [catA_size]; omega
        have HN := Lib.hid (joinF_succ f k)
        by_cases ht : (k : Int) + ((joinF f k).length : Int) + 1 + ((f k).size : Int) ≤ 2000
        · go_wp2
          go_round
          case rel => exact ⟨k + 1, by omega, by go_num, by rw [HN.out]; go_num, by rw [catA_succ], by rw [HN.out]; omega⟩
          case measure => simp [intOf]; omega
        · go_wp2
          go_ret
          exact ⟨rfl, Below.refl _ _⟩
      · obtain rfl : k = len := by omega
        go_wp2_with fail
        refine (join_a b off cap k f _ hb (by unfold maxLen; omega) HC.out (by omega)).mono ?_
        rintro e w1 ⟨rfl, hd⟩
        have H1 := Lib.hid hd
        have HE := catA_eq f k
        clear hd
        go_wp2_with fail
        refine (join_nil _ _ _).mono ?_
        rintro e w2 ⟨rfl, hd⟩
        have H2 := Lib.hid (H1.out.trans (hd.mono H1.out.size))
        clear hd
        go_wp2_with fail
        refine (known_a _).mono ?_
        rintro e w3 ⟨rfl, hd⟩
        have H3 := Lib.hid (H2.out.trans (hd.mono H2.out.size))
        clear hd
        go_wp2
        go_ret
        exact ⟨rfl, H3.out⟩
theorem own : ownKnob Try.prog.godebug = none := by kernel_rfl
theorem laidOut : laidOutB Try.prog = true := by kernel_rfl
set_option maxRecDepth 100000 in
theorem lifted (os : Os) (started : os.Started) (H : Type) (enc : TypeId × Value → H) :
    ReturnsInHanded {} Try.checked os 5 .any (Rows.asciiJoinsSpec.pre6 enc Try.prog Try.f5 Rows.asciiJoinsRow.domain false) (Rows.asciiJoinsSpec.post enc Try.prog Try.f5 false true false false) := by
  refine returnsInHanded_of_change_sized (C := Try.checked) own started (by kernel_rfl) Try.func5
    (ChangeSpec.witness6 (enc := enc) (C := Try.checked) false ⟨#[], #[.slice none 0 0], []⟩ 8 (by kernel_rfl) (by kernel_rfl) (by kernel_rfl) (by kernel_rfl)) ?_
  intro W base args ds gs before hval0 hW hcnd hsz0 _
  have hsz : (DataW.weightsEach Try.prog (Try.f5.params.toList ++ Rows.asciiJoinsSpec.plain.varTypes Try.prog) (ds ++ gs)).all (· ≤ reachBytes) = true := hsz0
  have hval : ∀ (j : Nat) t v, Try.f5.params[j]? = some t → args[j]? = some v → Value.okWide Try.prog W .any base t v := hval0
  have hW' := hW
  obtain ⟨p, q, hA0, hV, rfl, hfz, hnd⟩ := hW
  have hA : DataW.TrodAll enc Try.prog W 0 (fun _ => true) true Try.f5.params.toList args.toList ds p := hA0
  rw [Try.params5] at hA hval hsz
  obtain ⟨v0, vs0, d0, ds0, p0, q0, hargs, rfl, rfl, h0, r0⟩ := trodAll_cons hA
  obtain ⟨rfl, rfl, rfl⟩ := trodAll_nil r0
  obtain rfl : args = #[v0] := by cases args; simp_all
  obtain ⟨rfl, rfl⟩ := trodVars_none hV
  have k0 := h0
  have lt0 : ∀ x ∈ p0, x.block < W.heap.size := by obtain ⟨m, hm⟩ := k0; exact DataW.trod_lt m _ _ _ hm
  have o0 := open_slice_string Try.underlying28 Try.underlying9 (by kernel_rfl) (by kernel_rfl) (hval 0 28 v0 rfl rfl) h0 (fun n hn => by simpa using List.all_eq_true.1 hsz n (DataW.weights_mem_each (j := 0) (t := 28) rfl rfl n hn))
  clear hA0 hval0 hsz0 hsz
  refine (walk W v0 o0).mono fun e W' ⟨he, bel⟩ => ?_
  subst he
  exact ⟨_, rfl, _, _, _, [], _, [], hW', trodAll_mk1 (shut_bool Try.underlying4 _), (trodAll_cons_mk (Below.trod laidOut (by kernel_rfl) (of_decide_eq_true (by kernel_rfl)) k0 bel lt0) trodAll_mk0), rfl, bel.frame _, fun h => by cases h⟩

theorem over : Rows.asciiJoinsRow.holds Try.pinned (OpenSpec.ofChange Rows.asciiJoinsSpec) :=
  OpenClaim.holds_of_wide 5 Try.f5 rfl rfl rfl rfl rfl rfl rfl ⟨rfl, rfl, rfl, rfl, rfl⟩ rfl rfl rfl rfl rfl (by kernel_rfl) Try.func5 (by kernel_rfl)
    (of_decide_eq_true (by kernel_rfl)) (by unfold Func.isWrapper; first | (rw [if_pos (by decide +kernel)]; kernel_rfl) | (rw [if_neg (by decide +kernel)]; exact ⟨rfl, rfl⟩))
    (fun os started H enc _ => lifted os started H enc)

theorem proved : Rows.AsciiJoinsSaid := over
end Go.Proofs.Ytfeoiopmnijbmaa.asciiJoins
