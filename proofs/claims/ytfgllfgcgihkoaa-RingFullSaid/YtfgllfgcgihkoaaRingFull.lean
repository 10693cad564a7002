/- For every size and two texts, the ring takes of both, one behind the other, just what there is room for: the law returns true. Condition: none. -/
import Derived.Test.YtfgllfgcgihkoaaRows
import Derived.WalkKit
import Derived.ProofKit
import Derived.OpenShut
import Derived.ShutString
import Derived.ChangeOld
import Derived.Below
import Derived.SizedLaws
import Derived.Test.YtfgllfgcgihkoaaOpenR
import Derived.Test.YtfgllfgcgihkoaaRingL
import Derived.Deep.RegionHeld3
import Derived.Deep.RegionWith
namespace Go.Proofs.Ytfgllfgcgihkoaa.ringFull
open Go.ChangeShapes Go.WideShapes Go.ChangeAt Go.RowKit
open Go.ChangeMaps (open_string shut_string)
set_option linter.unusedVariables false
set_option maxRecDepth 100000
theorem one_row (w : World) (F : List Nat) (hF : ∀ b ∈ F, b < w.heap.size) :
    RowsAt ((w.alloc (.cells #[.int .u8 1] 5)).alloc (.cells #[.slice (some ⟨w.heap.size, 0, none⟩) 1 1] 32)) F (w.heap.size + 1) [⟨some ⟨w.heap.size, 0, none⟩, [1], 1⟩] :=
  rows_one ⟨some ⟨w.heap.size, 0, none⟩, [1], 1⟩ (by simp) (rw_lit w F [1] w.heap.size 1 rfl rfl (fun h => by have := hF _ h; omega) (by simp) (by decide)) (fun h => by have := hF _ h; omega)
set_option maxHeartbeats 4000000 in
theorem main (N : Nat) (h1 : 1 ≤ N) (h2 : N ≤ 1000) (W : World) (a : Rw) (ha : Came W a) (b : Rw) (hb : Came W b) (hla : a.l.length ≤ 6000) (hlb : b.l.length ≤ 6000) :
    Calls Try.prog 7 #[.int .i64 N, .slice a.A a.l.length a.c, .slice b.A b.l.length b.c] W fun e w' => e = .returned (.bool true) ∧ Below W.heap.size W w' := by
  have hn := eql_nil
  obtain ⟨i, hi, hz, hs, hby⟩ := info_parts u8_info3
  have HI := Lib.hid (And.intro hi (And.intro hz (And.intro hs hby)))
  have HA := Lib.hid (show a.Ok W [W.heap.size + 1, W.heap.size] from ha.ok (by simp))
  have HB := Lib.hid (show b.Ok W [W.heap.size + 1, W.heap.size] from hb.ok (by simp))
  have ca := ha.2
  have cb := hb.2
  clear hi hz hs hby ha hb
  go_enter Try.func7, Try.ntmps7
  go_wp2_with fail
  refine (new_any N W h1 (by omega)).mono ?_
  rintro e w1 ⟨rfl, hs, hm⟩
  have R1 := Lib.hid hs
  have M1 := Lib.hid hm
  clear hs hm
  go_wp2_with fail
  refine (write_any _ (W.heap.size + 1) W.heap.size N w1.heap.size [] [a, b] (R1.out.mods ((Mods.refl [] _).alloc _) (by simp)) (rows_two a b rfl (HA.out.mods (M1.out.more (by simp))) (HB.out.mods (M1.out.more (by simp))) (by have := R1.out.lt (W.heap.size + 1) (by simp); simp; omega)) (by simp)).mono ?_
  rintro e w2 ⟨x, rfl, hd⟩
  obtain ⟨M, hM⟩ : ∃ M, M = a.l ++ b.l := ⟨_, rfl⟩
  have hfl : (flatR [a, b]).take (N - ([] : List Int).length) = M.take N := by
    rw [hM]
    simp only [flatR, List.flatMap_cons, List.flatMap_nil, List.append_nil]
    rfl
  have R2 := Lib.hid (show RingA w2 (W.heap.size + 1) W.heap.size N (M.take N) by
    have := hd.out.2.1
    rw [hfl] at this
    simpa using this)
  have hx : x = ((M.take N).length : Nat) := by have := hd.out.1; rw [hfl] at this; exact this
  have M2 := Lib.hid (show Mods [W.heap.size + 1, W.heap.size] W w2 from ((M1.out.more (by simp)).alloc _).trans hd.out.2.2 (fun k hk => .inl hk))
  obtain ⟨k, hk⟩ : ∃ k, k = (M.take N).length := ⟨_, rfl⟩
  rw [← hk] at hx
  have hMl : M.length = a.l.length + b.l.length := by rw [hM, List.length_append]
  have hkc : ((N : Int) ≤ (a.l.length : Int) + (b.l.length : Int) ∧ k = N) ∨ (¬ (N : Int) ≤ (a.l.length : Int) + (b.l.length : Int) ∧ k = a.l.length + b.l.length) := by rw [hk, List.length_take]; omega
  have HMM := Lib.hid hM
  have HMR := Lib.hid (show ∀ x ∈ M, 0 ≤ x ∧ x ≤ 255 from fun x hx => by
    rw [hM] at hx
    rcases List.mem_append.1 hx with h | h
    · exact HA.out.1.range x h
    · exact HB.out.1.range x h)
  have HK := Lib.hid hk
  subst hx
  clear hd hfl hM hk
  have HO := Lib.hid (show (w2.alloc (.cells #[] 5)).ownsRow 0 5 1 (.slice (some ⟨w2.heap.size, 0, none⟩) 0 0) 0 (bv []) from World.ownsRow_lit w2 #[] 0 (Nat.zero_le _) (by unfold maxLen; omega) rfl)
  have HA2 := Lib.hid (show At (w2.alloc (.cells #[] 5)) [] a.A a.l from (((HA.out.mods M2.out).1.sub (by simp)).mods ((Mods.refl _ _).alloc _)))
  have HB2 := Lib.hid (show At (w2.alloc (.cells #[] 5)) [w2.heap.size] b.A b.l from (((HB.out.mods M2.out).1.sub (G := [w2.heap.size]) (by simp)).mods ((Mods.refl _ _).alloc _)))
  rcases hkc with ⟨hk1, rfl⟩ | ⟨hk1, hk2⟩
  · go_wp2_with (first
      | (at_builtin; refine wpList_append_bytes _ rfl (.tmp 45) (.tmp 46) 32 rfl 5 i (.int .u8 0) Try.underlying32 HI.out.1 HI.out.2.1 HI.out.2.2.1 HI.out.2.2.2 rfl (.slice (some ⟨w2.heap.size, 0, none⟩) 0 0) 0 [] rfl HO.out [] a.A a.l.length a.c a.l rfl rfl HA2.out (by omega) ?_; intro v1 w3 HO1 HM1)
      | (at_builtin; refine wpList_append_bytes _ rfl (.tmp 47) (.tmp 48) 32 rfl 5 i (.int .u8 0) Try.underlying32 HI.out.1 HI.out.2.1 HI.out.2.2.1 HI.out.2.2.2 rfl v1 (0 + a.l.length) ([] ++ a.l) rfl HO1.out [w2.heap.size] b.A b.l.length b.c b.l rfl rfl (HB2.out.mods (HM1.out.1.more (by simp [Value.ownBlock]))) (by omega) ?_; intro v2 w4 HO2 HM2; obtain ⟨A4, c4, rfl, hc4, hc5⟩ := own_slice HO2.out))
    have hf : Fresh w2 w4 (.slice A4 (0 + a.l.length + b.l.length) c4) M := by
      have f0 : Fresh w2 (w2.alloc (.cells #[] 5)) (.slice (some ⟨w2.heap.size, 0, none⟩) 0 0) [] := ⟨HO.out, (Mods.refl _ _).alloc _, by simp [Value.ownBlock]⟩
      have f2 := (f0.app (by simp) HO1.out HM1.out).app (by simp) HO2.out HM2.out
      rw [HMM.out]; simpa using f2
    have R4 := Lib.hid (R2.out.mods hf.2.1 (by simp))
    have M4 := Lib.hid (M2.out.trans hf.2.1 (by simp))
    have HF := Lib.hid hf
    clear hf
    have H7b : ∀ w7, RingA w7 (W.heap.size + 1) W.heap.size k (M.take k) → ∀ b ∈ [W.heap.size + 1, W.heap.size], b < w7.heap.size := fun w7 h => h.lt
    have b1 : (0 : Int) ≤ (k : Int) := by omega
    have b2 : (k : Int) ≤ (c4 : Int) := by omega
    have b3 : IntKind.i64.wrap ((k : Int) + 5) = (k : Int) + 5 := by rw [IntKind.wrap_i64]; omega
    have HKK := Lib.hid (show (M.take k).length = k from HK.out.symm)
    have b5 : IntKind.i64.wrap (0 : Int) = 0 := by rw [IntKind.wrap_i64]; omega
    have HA4 := Lib.hid (show At w4 [] A4 (M.take k) from (At.of_own (F := []) (show w4.ownsRow 0 5 1 (.slice A4 (0 + a.l.length + b.l.length) c4) (0 + a.l.length + b.l.length) (bv M) by have := HF.out.1; rwa [hMl, ← Nat.zero_add (a.l.length + b.l.length), ← Nat.add_assoc] at this) (by simp) HMR.out).take k)
    clear hc5 hc4 ca cb hMl hn hla hlb
    go_region_held3 (fun _ => True) (trivial)
      (first
        | (go_at_call 19; refine Calls.mono (peek_as _ _ _ k k ((k : Int) + 5) (M.take k) (M.take k) (R4.out.keep fun _ _ => rfl) (by unfold clamp; exact List.take_of_length_le (by have := HKK.out; omega)) HKK.out) ?_; rintro e w5 ⟨A5, c5, rfl, hd⟩; have HP := Lib.hid (show New w4 w5 A5 k c5 (M.take k) from by first | exact hd.out | exact hd.out.drew); clear hd)
        | (go_at_call 20; refine Calls.mono (same_yes _ A5 A4 (M.take k) k k c5 c4 HKK.out.symm HKK.out.symm (HP.out.at0 (Mods.refl _ _)) (HA4.out.mods HP.out.mods) (by rw [HKK.out]; omega)) ?_; rintro e w6 ⟨rfl, hm⟩; have H6 := Lib.hid (show Mods [] w5 w6 from by first | exact hm | exact of_drew hm); clear hm)
        | (go_at_call 25; refine Calls.mono (room_as _ _ _ k 0 (M.take k) (((R4.out.mods HP.out.mods (by simp)).mods H6.out (by simp)).keep fun _ _ => rfl) (by rw [HKK.out]; omega)) ?_; rintro e w7 ⟨rfl, hm⟩; have H7 := Lib.hid (show Mods [] w4 w7 from (HP.out.mods.trans H6.out (by simp)).trans (by first | exact hm | exact of_drew hm) (by simp)); have R7 := Lib.hid (R4.out.mods H7.out (by simp)); clear hm)
        | (go_at_call 13; refine Calls.mono (write_as _ _ _ k (w7.heap.size + 1) 0 (M.take k) (M.take k) [⟨some ⟨w7.heap.size, 0, none⟩, [1], 1⟩] ((R7.out.mods (((Mods.refl [] w7).alloc (.cells #[.int .u8 1] 5)).alloc (.cells #[.slice (some ⟨w7.heap.size, 0, none⟩) 1 1] 32)) (by simp)).keep fun _ _ => rfl) (by first | exact one_row w7 _ (H7b w7 R7.out) | exact (one_row w7 _ (H7b w7 R7.out)).mods (Mods.refl _ _).drew) (by simp) 1 rfl (by rw [HKK.out]; simp) (by simp)) ?_; rintro e w8 ⟨rfl, hd⟩; have H8 := Lib.hid (show Mods [W.heap.size + 1, W.heap.size] w4 w8 from (((H7.out.more (by simp)).alloc _).alloc _).trans (by first | exact hd.out.2 | exact of_drew hd.out.2) (fun k hk => .inl hk)); clear hd)
        | (go_at_call 9; refine Calls.mono (known_any _) ?_; rintro e w9 ⟨rfl, hm⟩; have H9 := Lib.hid (show Mods [W.heap.size + 1, W.heap.size] W w9 from (M4.out.trans H8.out (fun k hk => .inl hk)).trans (by first | exact hm | exact of_drew hm) (by simp)); clear hm))
    all_goals
      go_wp2
      go_ret
      exact ⟨rfl, H9.out.below_ (by simp) (Nat.le_refl _)⟩
  · go_wp2_with (first
      | (at_builtin; refine wpList_append_bytes _ rfl (.tmp 45) (.tmp 46) 32 rfl 5 i (.int .u8 0) Try.underlying32 HI.out.1 HI.out.2.1 HI.out.2.2.1 HI.out.2.2.2 rfl (.slice (some ⟨w2.heap.size, 0, none⟩) 0 0) 0 [] rfl HO.out [] a.A a.l.length a.c a.l rfl rfl HA2.out (by omega) ?_; intro v1 w3 HO1 HM1)
      | (at_builtin; refine wpList_append_bytes _ rfl (.tmp 47) (.tmp 48) 32 rfl 5 i (.int .u8 0) Try.underlying32 HI.out.1 HI.out.2.1 HI.out.2.2.1 HI.out.2.2.2 rfl v1 (0 + a.l.length) ([] ++ a.l) rfl HO1.out [w2.heap.size] b.A b.l.length b.c b.l rfl rfl (HB2.out.mods (HM1.out.1.more (by simp [Value.ownBlock]))) (by omega) ?_; intro v2 w4 HO2 HM2; obtain ⟨A4, c4, rfl, hc4, hc5⟩ := own_slice HO2.out))
    rw [show ((a.l.length : Int) + (b.l.length : Int)) = (k : Int) by omega]
    have hf : Fresh w2 w4 (.slice A4 (0 + a.l.length + b.l.length) c4) M := by
      have f0 : Fresh w2 (w2.alloc (.cells #[] 5)) (.slice (some ⟨w2.heap.size, 0, none⟩) 0 0) [] := ⟨HO.out, (Mods.refl _ _).alloc _, by simp [Value.ownBlock]⟩
      have f2 := (f0.app (by simp) HO1.out HM1.out).app (by simp) HO2.out HM2.out
      rw [HMM.out]; simpa using f2
    have R4 := Lib.hid (R2.out.mods hf.2.1 (by simp))
    have M4 := Lib.hid (M2.out.trans hf.2.1 (by simp))
    have HF := Lib.hid hf
    clear hf
    have H7b : ∀ w7, RingA w7 (W.heap.size + 1) W.heap.size N (M.take N) → ∀ b ∈ [W.heap.size + 1, W.heap.size], b < w7.heap.size := fun w7 h => h.lt
    have b1 : (0 : Int) ≤ (k : Int) := by omega
    have b2 : (k : Int) ≤ (c4 : Int) := by omega
    have b3 : IntKind.i64.wrap ((N : Int) + 5) = (N : Int) + 5 := by rw [IntKind.wrap_i64]; omega
    have HKK := Lib.hid (show (M.take N).length = k from HK.out.symm)
    have b5 : IntKind.i64.wrap ((N : Int) - (k : Int)) = (N : Int) - (k : Int) := by rw [IntKind.wrap_i64]; omega
    have b6 : (1 : Int) ≤ (N : Int) - (k : Int) := by omega
    have HNK := Lib.hid (show 1 ≤ N - k by omega)
    have HA4 := Lib.hid (show At w4 [] A4 (M.take N) from (At.of_own (F := []) (show w4.ownsRow 0 5 1 (.slice A4 (0 + a.l.length + b.l.length) c4) (0 + a.l.length + b.l.length) (bv M) by have := HF.out.1; rwa [hMl, ← Nat.zero_add (a.l.length + b.l.length), ← Nat.add_assoc] at this) (by simp) HMR.out).take N)
    clear hc5 hc4 ca cb hMl hn hla hlb hk2
    go_region_held3 (fun _ => True) (trivial)
      (first
        | (go_at_call 19; refine Calls.mono (peek_as _ _ _ N k ((N : Int) + 5) (M.take N) (M.take N) (R4.out.keep fun _ _ => rfl) (by unfold clamp; exact List.take_of_length_le (by have := HKK.out; omega)) HKK.out) ?_; rintro e w5 ⟨A5, c5, rfl, hd⟩; have HP := Lib.hid (show New w4 w5 A5 k c5 (M.take N) from by first | exact hd.out | exact hd.out.drew); clear hd)
        | (go_at_call 20; refine Calls.mono (same_yes _ A5 A4 (M.take N) k k c5 c4 HKK.out.symm HKK.out.symm (HP.out.at0 (Mods.refl _ _)) (HA4.out.mods HP.out.mods) (by rw [HKK.out]; omega)) ?_; rintro e w6 ⟨rfl, hm⟩; have H6 := Lib.hid (show Mods [] w5 w6 from by first | exact hm | exact of_drew hm); clear hm)
        | (go_at_call 25; refine Calls.mono (room_as _ _ _ N ((N : Int) - (k : Int)) (M.take N) (((R4.out.mods HP.out.mods (by simp)).mods H6.out (by simp)).keep fun _ _ => rfl) (by rw [HKK.out])) ?_; rintro e w7 ⟨rfl, hm⟩; have H7 := Lib.hid (show Mods [] w4 w7 from (HP.out.mods.trans H6.out (by simp)).trans (by first | exact hm | exact of_drew hm) (by simp)); have R7 := Lib.hid (R4.out.mods H7.out (by simp)); clear hm)
        | (go_at_call 13; refine Calls.mono (write_as _ _ _ N (w7.heap.size + 1) 1 (M.take N) (M.take N ++ [1]) [⟨some ⟨w7.heap.size, 0, none⟩, [1], 1⟩] ((R7.out.mods (((Mods.refl [] w7).alloc (.cells #[.int .u8 1] 5)).alloc (.cells #[.slice (some ⟨w7.heap.size, 0, none⟩) 1 1] 32)) (by simp)).keep fun _ _ => rfl) (by first | exact one_row w7 _ (H7b w7 R7.out) | exact (one_row w7 _ (H7b w7 R7.out)).mods (Mods.refl _ _).drew) (by simp) 1 rfl (by rw [HKK.out]; exact congrArg _ (List.take_of_length_le HNK.out)) (by rw [List.length_append, HKK.out]; show (1 : Int) = ((k + 1 : Nat) : Int) - (k : Int); omega)) ?_; rintro e w8 ⟨rfl, hd⟩; have H8 := Lib.hid (show Mods [W.heap.size + 1, W.heap.size] w4 w8 from (((H7.out.more (by simp)).alloc _).alloc _).trans (by first | exact hd.out.2 | exact of_drew hd.out.2) (fun k hk => .inl hk)); clear hd)
        | (go_at_call 9; refine Calls.mono (known_any _) ?_; rintro e w9 ⟨rfl, hm⟩; have H9 := Lib.hid (show Mods [W.heap.size + 1, W.heap.size] W w9 from (M4.out.trans H8.out (fun k hk => .inl hk)).trans (by first | exact hm | exact of_drew hm) (by simp)); clear hm))
    all_goals
      go_wp2
      go_ret
      exact ⟨rfl, H9.out.below_ (by simp) (Nat.le_refl _)⟩
theorem walk (W : World) (n : Int) (hn : (Lit.int .i64 n).wf = true) (a : Rw) (ha : Came W a) (b : Rw) (hb : Came W b) :
    Calls Try.prog 7 #[.int .i64 n, .slice a.A a.l.length a.c, .slice b.A b.l.length b.c] W fun e w' => e = .returned (.bool true) ∧ Below W.heap.size W w' := by
  by_cases h : 1 ≤ n ∧ n ≤ 1000 ∧ a.l.length ≤ 6000 ∧ b.l.length ≤ 6000
  · obtain ⟨N, rfl⟩ := Int.eq_ofNat_of_zero_le (show 0 ≤ n by omega)
    exact main N (by omega) (by omega) W a ha b hb h.2.2.1 h.2.2.2
  · have hK := fun w => (known_any w).mono fun e w' ⟨he, hm⟩ => (⟨he, hm.below⟩ : e = Ending.returned (.bool true) ∧ Below w.heap.size w w')
    have ca := ha.2
    have cb := hb.2
    have hc : n < 1 ∨ (¬ n < 1 ∧ 1000 < n) ∨ (¬ n < 1 ∧ ¬ 1000 < n ∧ 6000 < a.l.length) ∨ (¬ n < 1 ∧ ¬ 1000 < n ∧ ¬ 6000 < a.l.length ∧ 6000 < b.l.length) := by omega
    clear h hn ha hb
    rcases hc with h1 | ⟨h1, h2⟩ | ⟨h1, h2, h3⟩ | ⟨h1, h2, h3, h4⟩
    all_goals
      go_enter Try.func7, Try.ntmps7
      go_wp2_with fail
      refine (hK W).mono ?_
      rintro e w1 ⟨rfl, hd⟩
      have H1 := Lib.hid hd
      clear hd
      go_wp2
      go_ret
      exact ⟨rfl, H1.out⟩

theorem own : ownKnob Try.prog.godebug = none := by kernel_rfl
theorem laidOut : laidOutB Try.prog = true := by kernel_rfl
set_option maxRecDepth 100000 in
theorem lifted (os : Os) (started : os.Started) (H : Type) (enc : TypeId × Value → H) :
    ReturnsInHanded {} Try.checked os 7 .any (Rows.ringFullSpec.pre6 enc Try.prog Try.f7 Rows.ringFullRow.domain false) (Rows.ringFullSpec.post enc Try.prog Try.f7 false true false false) := by
  refine returnsInHanded_of_change_sized (C := Try.checked) own started (by kernel_rfl) Try.func7
    (ChangeSpec.witness6 (enc := enc) (C := Try.checked) false ⟨#[], #[.int .i64 0, .slice none 0 0, .slice none 0 0], []⟩ 8 (by kernel_rfl) (by kernel_rfl) (by kernel_rfl) (by kernel_rfl)) ?_
  intro W base args ds gs before hval0 hW hcnd hsz0 _
  have hsz : (DataW.weightsEach Try.prog (Try.f7.params.toList ++ Rows.ringFullSpec.plain.varTypes Try.prog) (ds ++ gs)).all (· ≤ reachBytes) = true := hsz0
  have hval : ∀ (j : Nat) t v, Try.f7.params[j]? = some t → args[j]? = some v → Value.okWide Try.prog W .any base t v := hval0
  have hW' := hW
  obtain ⟨p, q, hA0, hV, rfl, hfz, hnd⟩ := hW
  have hA : DataW.TrodAll enc Try.prog W 0 (fun _ => true) true Try.f7.params.toList args.toList ds p := hA0
  rw [Try.params7] at hA hval hsz
  obtain ⟨v0, vs0, d0, ds0, p0, q0, hargs, rfl, rfl, h0, r0⟩ := trodAll_cons hA
  obtain ⟨v1, vs1, d1, ds1, p1, q1, rfl, rfl, rfl, h1, r1⟩ := trodAll_cons r0
  obtain ⟨v2, vs2, d2, ds2, p2, q2, rfl, rfl, rfl, h2, r2⟩ := trodAll_cons r1
  obtain ⟨rfl, rfl, rfl⟩ := trodAll_nil r2
  obtain rfl : args = #[v0, v1, v2] := by cases args; simp_all
  obtain ⟨rfl, rfl⟩ := trodVars_none hV
  obtain ⟨a0, rfl, rfl, rfl, w0⟩ := open_int Try.underlying3 (hval 0 3 v0 rfl rfl) h0
  have k1 := h1
  have lt1 : ∀ x ∈ p1, x.block < W.heap.size := by obtain ⟨m, hm⟩ := k1; exact DataW.trod_lt m _ _ _ hm
  obtain ⟨b1, rfl, wb1⟩ := open_bytes (hval 1 32 v1 rfl rfl) k1 (fun n hn => by simpa using List.all_eq_true.1 hsz n (DataW.weights_mem_each (j := 1) (t := 32) rfl rfl n hn))
  have k2 := h2
  have lt2 : ∀ x ∈ p2, x.block < W.heap.size := by obtain ⟨m, hm⟩ := k2; exact DataW.trod_lt m _ _ _ hm
  obtain ⟨b2, rfl, wb2⟩ := open_bytes (hval 2 32 v2 rfl rfl) k2 (fun n hn => by simpa using List.all_eq_true.1 hsz n (DataW.weights_mem_each (j := 2) (t := 32) rfl rfl n hn))
  clear hA0 hval0 hsz0 hsz
  refine (walk W a0 w0 b1 wb1 b2 wb2).mono fun e W' ⟨he, bel⟩ => ?_
  subst he
  exact ⟨_, rfl, _, _, _, [], _, [], hW', trodAll_mk1 (shut_bool Try.underlying4 _), (trodAll_cons_mk (shut_int Try.underlying3 w0) (trodAll_cons_mk (Below.trod laidOut (by kernel_rfl) (of_decide_eq_true (by kernel_rfl)) k1 bel lt1) (trodAll_cons_mk (Below.trod laidOut (by kernel_rfl) (of_decide_eq_true (by kernel_rfl)) k2 bel lt2) trodAll_mk0))), rfl, bel.frame _, fun h => by cases h⟩

theorem over : Rows.ringFullRow.holds Try.pinned (OpenSpec.ofChange Rows.ringFullSpec) :=
  OpenClaim.holds_of_wide 7 Try.f7 rfl rfl rfl rfl rfl rfl rfl ⟨rfl, rfl, rfl, rfl, rfl⟩ rfl rfl rfl rfl rfl (by kernel_rfl) Try.func7 (by kernel_rfl)
    (of_decide_eq_true (by kernel_rfl)) (by unfold Func.isWrapper; first | (rw [if_pos (by decide +kernel)]; kernel_rfl) | (rw [if_neg (by decide +kernel)]; exact ⟨rfl, rfl⟩))
    (fun os started H enc _ => lifted os started H enc)

theorem proved : Rows.RingFullSaid := over
end Go.Proofs.Ytfgllfgcgihkoaa.ringFull
