/- For every backlog and list of peers, those who wait are taken in the order in which they came, and no more wait than may: the law returns true. Condition: none. -/
import Derived.Test.YtogcfeplfclobaaRows
import Derived.WalkKit
import Derived.ProofKit
import Derived.OpenShut
import Derived.ShutString
import Derived.ChangeOld
import Derived.Below
import Derived.SizedLaws
import Derived.Test.YtogcfeplfclobaaOpenN
import Derived.Test.YtogcfeplfclobaaNs
import Derived.Test.YtogcfeplfclobaaNt
namespace Go.Proofs.Ytogcfeplfclobaa.netLine
open Go.ChangeShapes Go.WideShapes Go.ChangeAt Go.RowKit
open Go.ChangeMaps (open_string shut_string)
set_option linter.unusedVariables false
set_option maxRecDepth 10000
def msk (f : Nat → Int) (j : Nat) : Int := bits BinOp.and IntKind.i64 (f j) 255
/-- Peers of the first n. -/
def ms (f : Nat → Int) (n : Nat) : List Int := (List.range n).map (msk f)
theorem ms_succ (f : Nat → Int) (j : Nat) : ms f j ++ [msk f j] = ms f (j + 1) := by simp [ms, List.range_succ]
theorem ms_length (f : Nat → Int) (j : Nat) : (ms f j).length = j := by simp [ms]
theorem ms_at (f : Nat → Int) (n j : Nat) (h : j < n) : (ms f n)[j]? = some (msk f j) := by simp [ms, h]
set_option maxHeartbeats 4000000 in
theorem good (W : World) (b : Nat) (A : Option Addr) (len cap : Nat) (f : Nat → Int) (hb1 : 1 ≤ b) (hb2 : b ≤ 64) (hl : len ≤ 100)
    (hf : ∀ j, j < len → ∃ b off, A = some ⟨b, off, none⟩ ∧ b < W.heap.size ∧ W.cell? ⟨b, off + j, none⟩ = some (.int .i64 (f j)) ∧ I64 (f j)) :
    Calls Try.prog 6 #[.int .i64 b, .slice A len cap] W fun e w' => e = .returned (.bool true) ∧ Below W.heap.size W w' := by
  have hnn := eql_nnil
  have HF := Lib.hid hf
  clear hf
  go_enter Try.func6, Try.ntmps6
  go_wp2_with fail
  refine (newL b W W (Mods.refl _ _) [] (by simp) (by omega) (by omega)).mono ?_
  rintro e w1 ⟨rfl, hd⟩
  have L1 := Lib.hid (show NetL W w1 W.heap.size (lineS b 0 (ms f 0) 0) 0 [] from hd.out)
  clear hd
  go_wp2
  go_loopw [7, 8, 9, 10] (fun k i _ _ wr => ∃ j q : Nat, j ≤ len ∧ q = min j b ∧ i = .int .i64 j ∧ k = .int .i64 q ∧ Hid (NetL W wr W.heap.size (lineS b 0 (ms f q) 0) 0 [])) (fun _ i _ _ _ => len - (intOf i).toNat)
  case atStart => exact ⟨0, 0, Nat.zero_le _, by omega, rfl, rfl, L1⟩
  case round =>
    obtain ⟨j, q, hj, hq, rfl, rfl, hd⟩ := hrel
    by_cases hlt : j < len
    · obtain ⟨pb, po, rfl, hpb, hpc, hpi⟩ := HF.out j hlt
      have c1 := cell_mods hpc hd.out.mods (by simp)
      obtain ⟨y, hy, hy2⟩ : ∃ y : Nat, bits BinOp.and IntKind.i64 (f j) 255 = (y : Int) ∧ y ≤ 255 := and_mask (f j) 255 (by decide)
      have HY := Lib.hid (show msk f j = (y : Int) from hy)
      clear hpc hpi
      by_cases hjb : j < b
      · obtain rfl : q = j := by omega
        have hc := line_conn b 0 (ms f q) (msk f q) (by rw [HY.out]; omega) (by rw [HY.out]; omega) (by rw [ms_length]; omega) (by rw [ms_length]; omega)
        have HC := Lib.hid (connL W wr _ _ _ (y : Int) _ hd.out q 0 (lineS b 0 (ms f (q + 1)) 0) (by rw [← HY.out, hc.2.1, ms_length]) (by rw [← HY.out]; exact hc.1) (by rw [← HY.out, hc.2.2, ms_succ]))
        clear hc hd hq hy2
        go_wp2_with fail
        refine HC.out.mono ?_
        rintro e w5 ⟨rfl, hd⟩
        have L5 := Lib.hid hd.out.1
        clear hd
        go_wp2
        go_roundw
        case rel => exact ⟨q + 1, q + 1, by omega, by omega, by go_num, by go_num, L5⟩
        case measure => simp [intOf]; omega
      · obtain rfl : q = b := by omega
        have hc := line_full q 0 (ms f q) (msk f j) (by rw [HY.out]; omega) (by rw [HY.out]; omega) (by rw [ms_length]; omega) (by rw [ms_length]; omega)
        have HC := Lib.hid (connL W wr _ _ _ (y : Int) _ hd.out 0 3 (lineS q 0 (ms f q) 0) (by rw [← HY.out]; exact hc.2.1) (by rw [← HY.out]; exact hc.1) (by rw [← HY.out]; exact hc.2.2))
        clear hc hd hq hy2
        go_wp2_with fail
        refine HC.out.mono ?_
        rintro e w5 ⟨rfl, hd⟩
        have L5 := Lib.hid hd.out.1
        clear hd
        go_wp2
        go_roundw
        case rel => exact ⟨j + 1, q, by omega, by omega, by go_num, rfl, L5⟩
        case measure => simp [intOf]; omega
    · obtain rfl : j = len := by omega
      have L6 := hd
      have hql : q ≤ j := by omega
      have hq64 : q ≤ 64 := by omega
      clear hd L1 hq
      go_wp2
      go_loopw [11, 12, 13, 14] (fun i _ _ _ wr => ∃ p : Nat, p ≤ q ∧ i = .int .i64 p ∧ Hid (NetL W wr W.heap.size (lineS b 0 (ms f q) p) 0 [])) (fun i _ _ _ _ => q - (intOf i).toNat)
      case atStart => exact ⟨0, Nat.zero_le _, rfl, L6⟩
      case round =>
        obtain ⟨p, hp, rfl, hd⟩ := hrel
        by_cases hlt2 : p < q
        · obtain ⟨pb, po, rfl, hpb, hpc, hpi⟩ := HF.out p (by omega)
          obtain ⟨y, hy, hy2⟩ : ∃ y : Nat, bits BinOp.and IntKind.i64 (f p) 255 = (y : Int) ∧ y ≤ 255 := and_mask (f p) 255 (by decide)
          have HY := Lib.hid (show msk f p = (y : Int) from hy)
          have ha := line_acc b (ms f q) p (ms_at f q p hlt2)
          have HC := Lib.hid (accL W wr _ _ _ _ hd.out p (y : Int) 0 _ ha.2.1 (by rw [ha.2.2.1, HY.out]) ha.1 ha.2.2.2)
          have HM := Lib.hid hd.out.mods
          have HPC := Lib.hid hpc
          have hpl : p < j := by omega
          clear hpc hpi ha hd hy2
          go_wp2_with fail
          refine HC.out.mono ?_
          rintro e w5 ⟨rfl, hd⟩
          have L7 := Lib.hid hd.out.1
          have c1 := cell_mods HPC.out hd.out.1.mods (by simp)
          clear hd
          go_wp2
          go_roundw
          case rel => exact ⟨p + 1, by omega, by go_num, L7⟩
          case measure => simp [intOf]; omega
        · obtain rfl : p = q := by omega
          have ha := line_none b 0 (ms f p) p (by rw [ms_length])
          have HC := Lib.hid (accL W wr _ _ _ _ hd.out 0 0 2 _ ha.2.1 ha.2.2.1 ha.1 ha.2.2.2)
          have HW := Lib.hid (show (lineS b 0 (ms f p) p).wait = 0 by rw [line_wait, ms_length]; omega)
          have HO := Lib.hid (show ((opens (lineS b 0 (ms f p) p).L : Nat) : Int) = p by simp only [lineS]; rw [line_opens _ _ (by rw [ms_length])])
          clear hd ha L6
          go_wp2_with fail
          refine HC.out.mono ?_
          rintro e w5 ⟨rfl, hd⟩
          have L8 := Lib.hid hd.out.1
          clear hd
          go_wp2_with fail
          refine (lenL W w5 _ _ _ _ L8.out 0 p HW.out HO.out).mono ?_
          rintro e w6 ⟨rfl, hd⟩
          have M9 := Lib.hid hd.out.1.mods
          clear hd
          go_wp2_with fail
          refine (known_any _).mono ?_
          rintro e w7 ⟨rfl, hm⟩
          go_wp2
          go_ret
          exact ⟨rfl, (M9.out.trans hm (by simp)).below⟩
theorem walk (W : World) (b : Int) (hb : (Lit.int .i64 b).wf = true) (v : Value) (o : IsInts W v) :
    Calls Try.prog 6 #[.int .i64 b, v] W fun e w' => e = .returned (.bool true) ∧ Below W.heap.size W w' := by
  obtain ⟨A, len, cap, f, rfl, hlc, hf⟩ : ∃ (A : Option Addr) (len cap : Nat) (f : Nat → Int), v = .slice A len cap ∧ (len ≤ cap ∧ cap ≤ maxLen ∨ len = 0) ∧ ∀ j, j < len → ∃ b off, A = some ⟨b, off, none⟩ ∧ b < W.heap.size ∧ W.cell? ⟨b, off + j, none⟩ = some (.int .i64 (f j)) ∧ I64 (f j) := by
    rcases o with ⟨a, cap, rfl⟩ | ⟨pb, off, len, cap, f, rfl, h1, h2, h3, h4, h5⟩
    · exact ⟨a, 0, cap, fun _ => 0, rfl, .inr rfl, fun j hj => by omega⟩
    · exact ⟨_, len, cap, f, rfl, .inl ⟨h2, h3⟩, fun j hj => ⟨pb, off, rfl, h4, h5 j hj⟩⟩
  have hlen : len ≤ 9223372036854775807 := by
    rcases hlc with h | h
    · have := h.2; unfold maxLen at this; omega
    · omega
  by_cases h : 1 ≤ b ∧ b ≤ 64 ∧ len ≤ 100
  · obtain ⟨a, rfl⟩ : ∃ a : Nat, b = (a : Int) := ⟨b.toNat, by omega⟩
    exact good W a A len cap f (by omega) (by omega) h.2.2 hf
  · have H := Lib.hid (known_any W)
    have hw : (b < 1) ∨ (1 ≤ b ∧ 64 < b) ∨ (1 ≤ b ∧ b ≤ 64 ∧ 100 < len) := by omega
    clear h hb hf hlc o
    rcases hw with h | ⟨h1, h2⟩ | ⟨h1, h2, h3⟩
    all_goals
      go_enter Try.func6, Try.ntmps6
      go_wp2_with fail
      refine H.out.mono ?_
      rintro e w1 ⟨rfl, hm⟩
      go_wp2
      go_ret
      exact ⟨rfl, hm.below⟩

theorem own : ownKnob Try.prog.godebug = none := by kernel_rfl
theorem laidOut : laidOutB Try.prog = true := by kernel_rfl
set_option maxRecDepth 100000 in
theorem lifted (os : Os) (started : os.Started) (H : Type) (enc : TypeId × Value → H) :
    ReturnsInHanded {} Try.checked os 6 .any (Rows.netLineSpec.pre6 enc Try.prog Try.f6 Rows.netLineRow.domain false) (Rows.netLineSpec.post enc Try.prog Try.f6 false true false false) := by
  refine returnsInHanded_of_change_sized (C := Try.checked) own started (by kernel_rfl) Try.func6
    (ChangeSpec.witness6 (enc := enc) (C := Try.checked) false ⟨#[], #[.int .i64 0, .slice none 0 0], []⟩ 8 (by kernel_rfl) (by kernel_rfl) (by kernel_rfl) (by kernel_rfl)) ?_
  intro W base args ds gs before hval0 hW hcnd hsz0 _
  have hsz : (DataW.weightsEach Try.prog (Try.f6.params.toList ++ Rows.netLineSpec.plain.varTypes Try.prog) (ds ++ gs)).all (· ≤ reachBytes) = true := hsz0
  have hval : ∀ (j : Nat) t v, Try.f6.params[j]? = some t → args[j]? = some v → Value.okWide Try.prog W .any base t v := hval0
  have hW' := hW
  obtain ⟨p, q, hA0, hV, rfl, hfz, hnd⟩ := hW
  have hA : DataW.TrodAll enc Try.prog W 0 (fun _ => true) true Try.f6.params.toList args.toList ds p := hA0
  rw [Try.params6] at hA hval hsz
  obtain ⟨v0, vs0, d0, ds0, p0, q0, hargs, rfl, rfl, h0, r0⟩ := trodAll_cons hA
  obtain ⟨v1, vs1, d1, ds1, p1, q1, rfl, rfl, rfl, h1, r1⟩ := trodAll_cons r0
  obtain ⟨rfl, rfl, rfl⟩ := trodAll_nil r1
  obtain rfl : args = #[v0, v1] := by cases args; simp_all
  obtain ⟨rfl, rfl⟩ := trodVars_none hV
  obtain ⟨a0, rfl, rfl, rfl, w0⟩ := open_int Try.underlying3 (hval 0 3 v0 rfl rfl) h0
  have k1 := h1
  have lt1 : ∀ x ∈ p1, x.block < W.heap.size := by obtain ⟨m, hm⟩ := k1; exact DataW.trod_lt m _ _ _ hm
  obtain o1 := open_nums (hval 1 40 v1 rfl rfl) k1
  clear hA0 hval0 hsz0 hsz
  refine (walk W a0 w0 v1 o1).mono fun e W' ⟨he, bel⟩ => ?_
  subst he
  exact ⟨_, rfl, _, _, _, [], _, [], hW', trodAll_mk1 (shut_bool Try.underlying4 _), (trodAll_cons_mk (shut_int Try.underlying3 w0) (trodAll_cons_mk (Below.trod laidOut (by kernel_rfl) (of_decide_eq_true (by kernel_rfl)) k1 bel lt1) trodAll_mk0)), rfl, bel.frame _, fun h => by cases h⟩

theorem over : Rows.netLineRow.holds Try.pinned (OpenSpec.ofChange Rows.netLineSpec) :=
  OpenClaim.holds_of_wide 6 Try.f6 rfl rfl rfl rfl rfl rfl rfl ⟨rfl, rfl, rfl, rfl, rfl⟩ rfl rfl rfl rfl rfl (by kernel_rfl) Try.func6 (by kernel_rfl)
    (of_decide_eq_true (by kernel_rfl)) (by unfold Func.isWrapper; first | (rw [if_pos (by decide +kernel)]; kernel_rfl) | (rw [if_neg (by decide +kernel)]; exact ⟨rfl, rfl⟩))
    (fun os started H enc _ => lifted os started H enc)

theorem proved : Rows.NetLineSaid := over
end Go.Proofs.Ytogcfeplfclobaa.netLine
