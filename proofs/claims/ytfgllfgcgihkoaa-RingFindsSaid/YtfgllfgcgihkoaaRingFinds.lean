/- For every text, number and byte, the ring finds the byte where it stands first among those behind the skipped ones: the law returns true. Condition: none. -/
import Derived.Test.YtfgllfgcgihkoaaRows
import Derived.WalkKit
import Derived.ProofKit
import Derived.OpenShut
import Derived.ShutString
import Derived.ChangeOld
import Derived.Below
import Derived.SizedLaws
import Derived.Test.YtfgllfgcgihkoaaOpenR
namespace Go.Proofs.Ytfgllfgcgihkoaa.ringFinds
open Go.ChangeShapes Go.WideShapes Go.ChangeAt Go.RowKit
open Go.ChangeMaps (open_string shut_string)
set_option linter.unusedVariables false
set_option maxRecDepth 10000
theorem and4095 (a : Int) : ∃ k : Nat, bits BinOp.and IntKind.i64 a 4095 = (k : Int) ∧ k ≤ 4095 := by
  have e : bits BinOp.and IntKind.i64 a 4095 = IntKind.i64.wrap ((BitVec.ofInt 64 a &&& BitVec.ofInt 64 4095).toNat : Int) := rfl
  have h : (BitVec.ofInt 64 a &&& BitVec.ofInt 64 4095).toNat ≤ 4095 := by
    rw [BitVec.toNat_and]
    exact Nat.le_trans Nat.and_le_right (by decide)
  refine ⟨(BitVec.ofInt 64 a &&& BitVec.ofInt 64 4095).toNat, ?_, h⟩
  rw [e, IntKind.wrap_i64]
  omega
/-- What the law's own search has behind place j. -/
def wv (l : List Int) (c : Int) (n j : Nat) : Int := if idx (l.drop j) c = -1 then -1 else (j : Int) - (n : Int) + idx (l.drop j) c
theorem wv_step (l : List Int) (c : Int) (n p : Nat) (h : p < l.length) (hn : n ≤ p) : wv l c n p = if l[p] = c then (p : Int) - (n : Int) else wv l c n (p + 1) := by
  have hg := idx_ge (l.drop (p + 1)) c
  unfold wv
  rw [List.drop_eq_getElem_cons h]
  simp only [idx]
  by_cases hx : l[p] = c
  · simp [hx]
  · simp only [if_neg hx]
    by_cases h1 : idx (l.drop (p + 1)) c = -1
    · simp [h1]
    · simp only [if_neg h1]
      rw [if_neg (by omega)]
      omega
theorem wv_end (l : List Int) (c : Int) (n : Nat) : wv l c n n = idx (l.drop n) c := by
  unfold wv
  split <;> omega
theorem walk (W : World) (b : Rw) (hb : Came W b) (sk : Int) (hs : (Lit.int .i64 sk).wf = true) (c : Int) (hc : (Lit.int .u8 c).wf = true) :
    Calls Try.prog 6 #[.slice b.A b.l.length b.c, .int .i64 sk, .int .u8 c] W fun e w' => e = .returned (.bool true) ∧ Below W.heap.size W w' := by
  have hn := eql_nil
  obtain ⟨c0, c1⟩ := u8_wf hc
  have hbl := hb.2
  clear hs hc
  by_cases hl : b.l.length ≤ 2000
  · obtain ⟨kk, hk, hk2⟩ := and4095 sk
    have HB := Lib.hid hb
    clear hb
    obtain ⟨n, hnn⟩ : ∃ n, n = clamp kk b.l.length := ⟨_, rfl⟩
    have hn3 : (kk ≤ b.l.length ∧ n = kk) ∨ (¬ kk ≤ b.l.length ∧ n = b.l.length) := by unfold clamp at hnn; omega
    have HNN := Lib.hid hnn
    clear hnn
    go_enter Try.func6, Try.ntmps6
    go_wp2_with fail
    refine (new_any 65536 W (by decide) (by decide)).mono ?_
    rintro e w1 ⟨rfl, hs, hm⟩
    have R1 := Lib.hid hs
    have M1 := Lib.hid hm
    clear hs hm
    have HO := Lib.hid (show b.Ok W [W.heap.size + 1, W.heap.size] from HB.out.ok (by simp))
    go_wp2_with fail
    refine (write_any _ (W.heap.size + 1) W.heap.size 65536 w1.heap.size [] [b] (R1.out.mods ((Mods.refl [] _).alloc _) (by simp)) (rows_one b rfl (HO.out.mods (M1.out.more (by simp))) (by have := R1.out.lt (W.heap.size + 1) (by simp); simp; omega)) (by simp)).mono ?_
    rintro e w2 ⟨x, rfl, hd⟩
    have R2 := Lib.hid (show RingA w2 (W.heap.size + 1) W.heap.size 65536 b.l by
      have := hd.out.2.1
      have e : (flatR [b]).take (65536 - ([] : List Int).length) = b.l := by
        simp only [flatR, List.flatMap_cons, List.flatMap_nil, List.append_nil]
        exact List.take_of_length_le (by simp; omega)
      rw [e] at this
      simpa using this)
    have M2 := Lib.hid (show Mods [W.heap.size + 1, W.heap.size] W w2 from ((M1.out.more (by simp)).alloc _).trans hd.out.2.2 (fun k hk => .inl hk))
    clear hd
    go_wp2_with fail
    refine (skip_any w2 _ _ 65536 kk b.l R2.out).mono ?_
    rw [← HNN.out]
    rintro e w3 ⟨rfl, hr, hm⟩
    have R3 := Lib.hid hr
    have M3 := Lib.hid (M2.out.trans hm (fun k hk => .inl hk))
    clear hr hm
    have HA3 := Lib.hid (HO.out.mods M3.out).1
    have hnl : n ≤ b.l.length := by omega
    go_wp2_with fail
    go_loop [10, 11] (fun want i => ∃ j : Nat, n ≤ j ∧ j ≤ b.l.length ∧ i = .int .i64 ((j : Int) - 1) ∧ want = .int .i64 (wv b.l c n j)) (fun _ i => (intOf i + 1).toNat)
    case atStart => exact ⟨b.l.length, hnl, Nat.le_refl _, rfl, by simp [wv, idx]⟩
    case round =>
      obtain ⟨j, hj, hj2, rfl, rfl⟩ := hrel
      by_cases hlt : n < j
      · obtain ⟨p, rfl⟩ : ∃ p, j = p + 1 := ⟨j - 1, by omega⟩
        have hpl : p < b.l.length := by omega
        have HST := Lib.hid (wv_step b.l c n p hpl (by omega))
        obtain ⟨bb, bo, hA, _, _, cc, _⟩ := HA3.out p b.l[p] (List.getElem?_eq_getElem hpl)
        rw [show (((p + 1 : Nat) : Int) - 1) = (p : Int) by omega]
        obtain ⟨v1, hv1⟩ : ∃ v, v = wv b.l c n (p + 1) := ⟨_, rfl⟩
        rw [← hv1] at HST ⊢
        clear hv1
        by_cases hx : b.l[p] = c
        · rw [hx] at cc
          have HW := Lib.hid (show wv b.l c n p = (p : Int) - (n : Int) by rw [HST.out, if_pos hx])
          clear HST hx
          go_wp2
          go_round
          case rel => exact ⟨p, by omega, by omega, rfl, by rw [HW.out]⟩
          case measure => simp [intOf]
        · have HW := Lib.hid (show wv b.l c n p = v1 by rw [HST.out, if_neg hx])
          have h1 : ((b.l[p] : Int) == c) = false := by simpa using hx
          obtain ⟨y, hy⟩ : ∃ y, y = b.l[p] := ⟨_, rfl⟩
          rw [← hy] at cc h1
          clear HST hx hy
          go_wp2
          go_round
          case rel => exact ⟨p, by omega, by omega, rfl, by rw [HW.out]⟩
          case measure => simp [intOf]
      · obtain rfl : j = n := by omega
        have HW := Lib.hid (wv_end b.l c j)
        rw [HW.out]
        have HF := Lib.hid (find_any w3 _ _ 65536 (b.l.drop j) c R3.out c0 c1)
        obtain ⟨r, hr⟩ : ∃ r, r = idx (b.l.drop j) c := ⟨_, rfl⟩
        rw [← hr] at HF ⊢
        clear hr
        rcases hn3 with ⟨h1, rfl⟩ | ⟨h1, rfl⟩
        · have hmin : ((j : Int) ≤ (b.l.length : Int)) := by omega
          go_wp2_with fail
          refine HF.out.mono ?_
          rintro e w4 ⟨rfl, q, rfl⟩
          go_wp2_with fail
          refine (known_any _).mono ?_
          rintro e w5 ⟨rfl, hd⟩
          have H1 := Lib.hid hd
          clear hd
          go_wp2
          go_ret
          exact ⟨rfl, ((M3.out.drewN q).trans H1.out (by simp)).below_ (by simp) (Nat.le_refl _)⟩
        · have hmin : ¬ ((kk : Int) ≤ (b.l.length : Int)) := by omega
          go_wp2_with fail
          refine HF.out.mono ?_
          rintro e w4 ⟨rfl, q, rfl⟩
          go_wp2_with fail
          refine (known_any _).mono ?_
          rintro e w5 ⟨rfl, hd⟩
          have H1 := Lib.hid hd
          clear hd
          go_wp2
          go_ret
          exact ⟨rfl, ((M3.out.drewN q).trans H1.out (by simp)).below_ (by simp) (Nat.le_refl _)⟩
  · go_enter Try.func6, Try.ntmps6
    go_wp2
    go_ret
    exact ⟨rfl, Below.refl _ _⟩

theorem own : ownKnob Try.prog.godebug = none := by kernel_rfl
theorem laidOut : laidOutB Try.prog = true := by kernel_rfl
set_option maxRecDepth 100000 in
theorem lifted (os : Os) (started : os.Started) (H : Type) (enc : TypeId × Value → H) :
    ReturnsInHanded {} Try.checked os 6 .any (Rows.ringFindsSpec.pre6 enc Try.prog Try.f6 Rows.ringFindsRow.domain false) (Rows.ringFindsSpec.post enc Try.prog Try.f6 false true false false) := by
  refine returnsInHanded_of_change_sized (C := Try.checked) own started (by kernel_rfl) Try.func6
    (ChangeSpec.witness6 (enc := enc) (C := Try.checked) false ⟨#[], #[.slice none 0 0, .int .i64 0, .int .u8 0], []⟩ 8 (by kernel_rfl) (by kernel_rfl) (by kernel_rfl) (by kernel_rfl)) ?_
  intro W base args ds gs before hval0 hW hcnd hsz0 _
  have hsz : (DataW.weightsEach Try.prog (Try.f6.params.toList ++ Rows.ringFindsSpec.plain.varTypes Try.prog) (ds ++ gs)).all (· ≤ reachBytes) = true := hsz0
  have hval : ∀ (j : Nat) t v, Try.f6.params[j]? = some t → args[j]? = some v → Value.okWide Try.prog W .any base t v := hval0
  have hW' := hW
  obtain ⟨p, q, hA0, hV, rfl, hfz, hnd⟩ := hW
  have hA : DataW.TrodAll enc Try.prog W 0 (fun _ => true) true Try.f6.params.toList args.toList ds p := hA0
  rw [Try.params6] at hA hval hsz
  obtain ⟨v0, vs0, d0, ds0, p0, q0, hargs, rfl, rfl, h0, r0⟩ := trodAll_cons hA
  obtain ⟨v1, vs1, d1, ds1, p1, q1, rfl, rfl, rfl, h1, r1⟩ := trodAll_cons r0
  obtain ⟨v2, vs2, d2, ds2, p2, q2, rfl, rfl, rfl, h2, r2⟩ := trodAll_cons r1
  obtain ⟨rfl, rfl, rfl⟩ := trodAll_nil r2
  obtain rfl : args = #[v0, v1, v2] := by cases args; simp_all
  obtain ⟨rfl, rfl⟩ := trodVars_none hV
  have k0 := h0
  have lt0 : ∀ x ∈ p0, x.block < W.heap.size := by obtain ⟨m, hm⟩ := k0; exact DataW.trod_lt m _ _ _ hm
  obtain ⟨b0, rfl, wb0⟩ := open_bytes (hval 0 32 v0 rfl rfl) k0 (fun n hn => by simpa using List.all_eq_true.1 hsz n (DataW.weights_mem_each (j := 0) (t := 32) rfl rfl n hn))
  obtain ⟨a1, rfl, rfl, rfl, w1⟩ := open_int Try.underlying3 (hval 1 3 v1 rfl rfl) h1
  obtain ⟨a2, rfl, rfl, rfl, w2⟩ := open_int Try.underlying5 (hval 2 5 v2 rfl rfl) h2
  clear hA0 hval0 hsz0 hsz
  refine (walk W b0 wb0 a1 w1 a2 w2).mono fun e W' ⟨he, bel⟩ => ?_
  subst he
  exact ⟨_, rfl, _, _, _, [], _, [], hW', trodAll_mk1 (shut_bool Try.underlying4 _), (trodAll_cons_mk (Below.trod laidOut (by kernel_rfl) (of_decide_eq_true (by kernel_rfl)) k0 bel lt0) (trodAll_cons_mk (shut_int Try.underlying3 w1) (trodAll_cons_mk (shut_int Try.underlying5 w2) trodAll_mk0))), rfl, bel.frame _, fun h => by cases h⟩

theorem over : Rows.ringFindsRow.holds Try.pinned (OpenSpec.ofChange Rows.ringFindsSpec) :=
  OpenClaim.holds_of_wide 6 Try.f6 rfl rfl rfl rfl rfl rfl rfl ⟨rfl, rfl, rfl, rfl, rfl⟩ rfl rfl rfl rfl rfl (by kernel_rfl) Try.func6 (by kernel_rfl)
    (of_decide_eq_true (by kernel_rfl)) (by unfold Func.isWrapper; first | (rw [if_pos (by decide +kernel)]; kernel_rfl) | (rw [if_neg (by decide +kernel)]; exact ⟨rfl, rfl⟩))
    (fun os started H enc _ => lifted os started H enc)

theorem proved : Rows.RingFindsSaid := over
end Go.Proofs.Ytfgllfgcgihkoaa.ringFinds
