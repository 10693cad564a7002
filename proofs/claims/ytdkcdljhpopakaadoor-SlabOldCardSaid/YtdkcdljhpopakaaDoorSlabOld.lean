/- For every count and number, a handle that was taken is never in use again, however often its slot is: the law returns true. Condition: the library's table of 64 is laid as its initialiser lays it (tied). -/
import Derived.Test.YtdkcdljhpopakaaDoorCards
import Derived.Test.YtdkcdljhpopakaaDoorTie
import Derived.Lay
import Derived.LaidOnce
import Derived.MakeChecks
import Derived.SevenTiedAt
import Derived.WalkKit
import Derived.ProofKit
import Derived.OpenShut
import Derived.ShutString
import Derived.ChangeOld
import Derived.Below
import Derived.SizedLaws
import Derived.Carry
import Derived.Test.YtdkcdljhpopakaaDoorOldMath
import Derived.Test.YtdkcdljhpopakaaDoorOpenS
import Derived.Test.YtdkcdljhpopakaaDoorTz2
namespace Go.Proofs.YtdkcdljhpopakaaDoor.slabOld
open Go.ChangeShapes Go.WideShapes Go.ChangeAt Go.RowKit
open Go.ChangeMaps (open_string shut_string)
set_option linter.unusedVariables false
set_option maxRecDepth 10000
set_option linter.unusedSimpArgs false
theorem hd_info : (Tryd.prog.info? 32).map (fun i => (i.zero, i.size, i.bytes)) = some (some (.agg #[.int .i64 0, .int .i64 0]), 2, 16) := by kernel_rfl
/-- What holds ahead of each round of the outer loop. -/
def R1 (w wr : World) (g k : Nat) (l : Value) : Prop :=
  ∃ (S : Slb) (F : List Nat), SlabA wr g F S k ∧ S.Idle k ∧ OwnPairs wr 32 l (oldl k) ∧ Mods [] w wr ∧ (∀ b ∈ F, w.heap.size ≤ b) ∧ ∀ b ∈ l.ownBlock.toList, w.heap.size ≤ b ∧ b ∉ F
set_option maxHeartbeats 4000000 in
theorem main (n : Nat) (hn : 1 ≤ n) (hn2 : n ≤ 300) (v : Int) (w : World) (ht : TzTab w) :
    Calls Tryd.prog 4 #[.int .i64 n, .int .i64 v] w fun e w' => e = .returned (.bool true) ∧ Below w.heap.size w w' := by
  obtain ⟨i0, hi0, hz0, hz1, hz2⟩ := info_parts hd_info
  have HT := Lib.hid ht
  clear ht
  go_enter Tryd.func4, Tryd.ntmps4
  go_wp2_with fail
  refine (new_any 1 w (by decide) (by decide)).mono ?_
  rintro e w1 ⟨rfl, hs, hm⟩
  have H0 := Lib.hid (show R1 w w1 w.heap.size 0 (.slice none 0 0) from ⟨_, _, hs, ⟨rfl, .inl ⟨rfl, rfl, rfl⟩⟩, ⟨rfl, .inl ⟨rfl, rfl⟩⟩, hm, by simp, by simp [Value.ownBlock]⟩)
  clear hs hm
  go_wp2_with fail
  go_loopw [7, 8, 9, 10, 11, 12, 13, 14, 15] (fun l i x1 x2 x3 x4 x5 x6 x7 wr => ∃ k : Nat, k ≤ n ∧ i = .int .i64 k ∧ Hid (R1 w wr w.heap.size k l)) (fun _ i _ _ _ _ _ _ _ _ => n - (intOf i).toNat)
  case atStart => exact ⟨0, by omega, rfl, H0⟩
  case round =>
    obtain ⟨k, hk, rfl, hr⟩ := hrel
    obtain ⟨S, F, hs, hidle, hown, hm, hF, hlF⟩ := hr.out
    obtain ⟨A, oc, e, hoc, hom⟩ := own_pairs_slice hown
    subst e
    have HS := Lib.hid hs
    have HU := Lib.hid hidle
    have HO := Lib.hid hown
    have HM := Lib.hid hm
    have HB := Lib.hid hF
    have HL := Lib.hid hlF
    have HTr := Lib.hid (HT.out.mods hm (by simp))
    have HN := Lib.hid (oldl_len k)
    rw [oldl_len] at hoc
    clear hs hidle hown hm hF hlF hr
    by_cases hlt : k < n
    · go_wp2_with fail
      refine (put_at wr _ v F S k 0 ((k : Int) + 1) _ HS.out HTr.out (by rw [HU.out.cnt, HU.out.1]; decide) (by omega) (by rw [(HU.out.put v).1]; rfl) (by rw [(HU.out.put v).2.1]; rfl) rfl).mono ?_
      rintro e w2 ⟨rfl, hd⟩
      obtain ⟨F2, hs, hm, hf2⟩ := hd.out
      have HO2 := Lib.hid (own_mods HO.out hm (fun b hb => (HL.out b hb).2))
      have HLN := Lib.hid (show ∀ b ∈ (Value.slice A (oldl k).length oc).ownBlock.toList, b ∉ F2 from fun b hb hb2 => by
        rcases hf2 b hb2 with h | h
        · exact (HL.out b hb).2 h
        · have := own_lt HO.out b hb; omega)
      have HB2 := Lib.hid (show ∀ b ∈ F2, w.heap.size ≤ b from fun b hb => by
        rcases hf2 b hb with h | h
        · exact HB.out b h
        · have := HM.out.size; omega)
      have HM2 := Lib.hid (HM.out.trans hm (fun b hb => .inr (HB.out b hb)))
      have HY := Lib.hid (HU.out.put v).2.2
      obtain ⟨wb, hwb⟩ : ∃ wb : World, wb = w2.alloc (.cells #[.int .i64 0, .int .i64 ((k : Int) + 1)] 32) := ⟨_, rfl⟩
      have HS3 := Lib.hid (show SlabA wb w.heap.size F2 (S.put v) (k + 1) by rw [hwb]; exact slabA_keep hs fun b hb => Below.heap_alloc w2 _ b (slabA_lt hs b hb))
      have HO3 := Lib.hid (show OwnPairs wb 32 (.slice A (oldl k).length oc) (oldl k) by rw [hwb]; exact own_mods HO2.out ((Mods.refl [] w2).alloc _) (by simp))
      have HM3 := Lib.hid (show Mods [] w wb by rw [hwb]; exact HM2.out.alloc _)
      have HR := Lib.hid (show Row wb w2.heap.size 32 #[.int .i64 0, .int .i64 ((k : Int) + 1)] by rw [hwb]; exact Row.new _ _ _)
      have HNF := Lib.hid (show w2.heap.size ∉ F2 from fun hb => by have := slabA_lt hs _ hb; omega)
      have HZ2 := Lib.hid (show w.heap.size ≤ w2.heap.size from HM2.out.size)
      have c0 : (w2.alloc (.cells #[.int .i64 0, .int .i64 ((k : Int) + 1)] 32)).cell? ⟨w2.heap.size, 0, none⟩ = some (.int .i64 0) := (Row.new _ _ _).cell 0
      have c1 : (w2.alloc (.cells #[.int .i64 0, .int .i64 ((k : Int) + 1)] 32)).cell? ⟨w2.heap.size, 1, none⟩ = some (.int .i64 ((k : Int) + 1)) := (Row.new _ _ _).cell 1
      have HWB := Lib.hid hwb
      clear hs hm hf2 hd HO2 HM2 hwb
      have HN2 : (oldl k).length ≤ 20 := by have := HN.out; omega
      have HN3 : (oldl k).length ≤ k := by have := HN.out; omega
      go_wp2_with fail
      rw [← HWB.out]
      clear c0 c1
      go_loopw [11, 12, 13] (fun j y1 y2 wx => ∃ jj : Nat, jj ≤ (oldl k).length ∧ j = .int .i64 jj ∧ Hid (Mods [] wb wx)) (fun j _ _ _ => (oldl k).length - (intOf j).toNat)
      case atStart => exact ⟨0, by omega, rfl, Lib.hid (Mods.refl _ _)⟩
      case round =>
        obtain ⟨jj, hj, rfl, hmx⟩ := hrel
        have HS4 := Lib.hid (slabA_mods HS3.out hmx.out (by simp))
        by_cases hlt2 : jj < (oldl k).length
        · have hq := oldl_at k jj (by have := HN.out; omega)
          obtain ⟨ob, rfl, _, e1, e2⟩ := own_pairs_at (own_mods HO3.out hmx.out (by simp)) hq
          have hno : (S.put v).is 0 ((jj + 1 : Nat) : Int) = false := by rw [HY.out.is]; simp; omega
          have HNO := Lib.hid hno
          have E1 := Lib.hid e1
          have E2 := Lib.hid e2
          clear hq hno
          go_wp2_with fail
          refine (get_no _ _ 0 ((jj + 1 : Nat) : Int) F2 (S.put v) (k + 1) (by decide) (by decide) HS4.out HNO.out).mono ?_
          rintro e w3 ⟨rfl, hm⟩
          have e1 := cell_mods E1.out hm (by simp)
          have e2 := cell_mods E2.out hm (by simp)
          have HM4 := Lib.hid hm
          clear hm
          go_wp2_with fail
          refine (set_no _ _ 0 ((jj + 1 : Nat) : Int) 1 F2 (S.put v) (k + 1) (by decide) (by decide) (slabA_mods HS4.out HM4.out (by simp)) HNO.out).mono ?_
          rintro e w4 ⟨rfl, hm⟩
          have HM5 := Lib.hid (HM4.out.trans hm (by simp))
          clear hm e1 e2
          go_wp2
          go_roundw
          case rel => exact ⟨jj + 1, by omega, by go_num, Lib.hid (hmx.out.trans HM5.out (by simp))⟩
          case measure => simp [intOf]; omega
        · have HMX := Lib.hid (HM3.out.trans hmx.out (by simp))
          have HR4 := Lib.hid (HR.out.mods hmx.out (by simp))
          have HO4 := Lib.hid (show OwnPairs wr 32 (.slice A (oldl k).length oc) (oldl k) from own_mods HO3.out hmx.out (by simp))
          obtain rfl : jj = (oldl k).length := by omega
          clear hlt2 hj
          go_wp2_with fail
          refine (put_full wr _ v F2 (S.put v) (k + 1) HS4.out (by rw [HY.out.cnt, HY.out.1]; exact Nat.le_refl _)).mono ?_
          rintro e w5 ⟨rfl, hm⟩
          have HR5 := Lib.hid (HR4.out.mods hm (by simp))
          have HS5 := Lib.hid (slabA_mods HS4.out hm (by simp))
          have HM5 := Lib.hid (HMX.out.trans hm (by simp))
          have HO5 := Lib.hid (show OwnPairs w5 32 (.slice A (oldl k).length oc) (oldl k) from own_mods HO4.out hm (by simp))
          have c0 := fun o => HR5.out.cellA o 0
          have c1 := fun o => HR5.out.cellA o 1
          have HN5 := Lib.hid (show w5.heap.size + 1 ∉ F2 from fun hb => by have := slabA_lt HS5.out _ hb; omega)
          clear hm
          go_wp2_with fail
          refine (take_any ((w5.alloc _).alloc _) _ (w5.heap.size + 1) 1 [((0 : Int), ((k + 1 : Nat) : Int))] F2 (S.put v) (k + 1) (slabA_keep HS5.out fun b hb => ?_) (by simp) (pairs_row (t := 32) (cs := #[.int .i64 0, .int .i64 ((k : Int) + 1)]) ?_ ?_ ?_) HN5.out).mono ?_
          · exact (Below.heap_alloc _ _ b (by have := slabA_lt HS5.out b hb; simp; omega)).trans (Below.heap_alloc w5 _ b (slabA_lt HS5.out b hb))
          · exact new_at (by simp)
          · simp [flat]
          · simp; omega
          rintro e w6 ⟨he, hs, hm⟩
          rw [HY.out.take.2] at he
          subst he
          have HI := Lib.hid HY.out.take.1
          have HS6 := Lib.hid hs
          have HM6 := Lib.hid ((((Mods.refl F2 w5).alloc _).alloc _).trans hm (fun b hb => .inl hb))
          have HO6 := Lib.hid (show OwnPairs w6 32 (.slice A (oldl k).length oc) (oldl k) from own_mods HO5.out HM6.out (fun b hb => HLN.out b hb))
          have HR6 := Lib.hid (HR5.out.mods HM6.out HNF.out)
          have HM7 := Lib.hid (HM5.out.trans HM6.out (fun b hb => .inr (HB2.out b hb)))
          have c0 := HR6.out.cell 0
          have c1 := HR6.out.cell 1
          clear hs hm
          by_cases h20 : k < 20
          · go_wp2_with (at_builtin; refine wpList_append_lies _ rfl (.tmp 101) (.tmp 103) _ rfl 0 32 i0 _ 2 16 Tryd.underlying33 hi0 hz0 hz1 hz2 rfl (by omega) (.slice A (oldl k).length oc) (oldl k).length (flat (oldl k)) rfl (own_mods HO6.out ((Mods.refl [] w6).alloc _) (by simp)) ⟨w6.heap.size, 0, none⟩ 1 1 [.int .i64 0, .int .i64 ((k : Int) + 1)] rfl rfl (World.news_of_block (new_at (by simp))) (by simp [Value.oneCell']) (by omega) (by unfold maxLen; omega) (by omega) (Nat.zero_le _) (w6.heap.size + 1) (by simp) ?_; intro g1 cap1 w7 hown1 hg1 hat1 hlt1; have HO1 := Lib.hid hown1; have HG1 := Lib.hid hg1; have HT1 := Lib.hid hat1; clear hown1 hg1 hat1)
            go_roundw
            case rel => exact ⟨k + 1, by omega, by go_num, Lib.hid (by
              have hm3 : Mods (Value.slice A (oldl k).length oc).ownBlock.toList w6 w7 := ((Mods.refl _ w6).alloc _).grown HG1.out (fun b hb => .inl (by rw [hb]; simp))
              have hg1 : w.heap.size ≤ g1 ∧ g1 ∉ F2 := by
                rcases HT1.out with h | h
                · have hm : g1 ∈ (Value.slice A (oldl k).length oc).ownBlock.toList := by rw [h]; simp
                  exact ⟨(HL.out g1 hm).1, HLN.out g1 hm⟩
                · have := HM7.out.size
                  exact ⟨by omega, fun hb => by have := slabA_lt HS6.out g1 hb; omega⟩
              refine ⟨_, F2, slabA_mods HS6.out hm3 (fun b hb hb2 => HLN.out b hb2 hb), HI.out, ?_, HM7.out.trans hm3 (fun b hb => .inr (HL.out b hb).1), HB2.out, ?_⟩
              · unfold OwnPairs
                rw [oldl_lt k h20, flat_append, List.length_append]
                exact HO1.out
              · intro b hb
                have e : b = g1 := by simpa [Value.ownBlock, eq_comm] using hb
                subst e
                exact hg1)⟩
            case measure => simp [intOf]; omega
          · go_wp2
            go_roundw
            case rel => exact ⟨k + 1, by omega, by go_num, Lib.hid ⟨_, F2, HS6.out, HI.out, by rw [oldl_ge k (by omega)]; exact HO6.out, HM7.out, HB2.out, fun b hb => ⟨(HL.out b hb).1, HLN.out b hb⟩⟩⟩
            case measure => simp [intOf]; omega
    · obtain rfl : k = n := by omega
      have hpos : 0 < (oldl k).length := by have := HN.out; omega
      obtain ⟨ob, oc', e, _, _, _⟩ := own_some HO.out hpos
      injection e with e1 e2 e3
      subst e1 e3
      have HPa := Lib.hid (show Pairs wr ob (oldl k) from fun j p hj => by
        obtain ⟨ob', e, _, c0, c1⟩ := own_pairs_at HO.out hj
        injection e with e
        injection e with e _ _
        subst e
        have hj2 : j < min k 20 := by have := (List.getElem?_eq_some_iff.1 hj).1; rw [oldl_len] at this; exact this
        rw [oldl_at k j hj2] at hj
        have := Option.some.inj hj
        subst this
        exact ⟨c0, c1, by simp, by simp; omega⟩)
      have HT0 := Lib.hid (HU.out.takes (oldl k))
      have HN9 := Lib.hid (show (oldl k).length ≤ 100000 by have := HN.out; omega)
      have HOB := Lib.hid (show ob ∉ F from (HL.out ob (by simp [Value.ownBlock])).2)
      have HCN := Lib.hid HU.out.cnt
      clear hlt hk
      go_wp2_with fail
      refine (len_any wr _ F S k HS.out).mono ?_
      rw [HCN.out]
      rintro e w4 ⟨rfl, rfl⟩
      go_wp2_with fail
      refine (take_any wr _ ob _ (oldl k) F S k HS.out HN9.out HPa.out HOB.out).mono ?_
      rw [HT0.out]
      rintro e w5 ⟨rfl, hs, hm⟩
      have HM5 := Lib.hid (HM.out.trans hm (fun b hb => .inr (HB.out b hb)))
      clear hs hm
      go_wp2_with fail
      refine (known_any _ (HT.out.mods HM5.out (by simp))).mono ?_
      rintro e w6 ⟨rfl, hm⟩
      have HM6 := Lib.hid (HM5.out.trans hm (by simp))
      clear hm
      go_wp2
      go_ret
      exact ⟨rfl, HM6.out.below⟩
theorem out1 (n v : Int) (w : World) (ht : TzTab w) (h : n < 1 ∨ 300 < n) :
    Calls Tryd.prog 4 #[.int .i64 n, .int .i64 v] w fun e w' => e = .returned (.bool true) ∧ Below w.heap.size w w' := by
  have HT := Lib.hid ht
  clear ht
  have key : n < 1 ∨ (¬ n < 1 ∧ 300 < n) := by omega
  rcases key with h1 | ⟨h1, h2⟩
  all_goals
    clear h
    go_enter Tryd.func4, Tryd.ntmps4
    go_wp2_with fail
    refine (known_any _ HT.out).mono ?_
    rintro e w1 ⟨rfl, hm⟩
    have HM := Lib.hid hm
    clear hm
    go_wp2
    go_ret
    exact ⟨rfl, HM.out.below⟩
theorem walk (n : Int) (wf : (Lit.int .i64 n).wf = true) (v : Int) (wg : (Lit.int .i64 v).wf = true) (w : World) (hL : laidMetH Tryd.prog Rows.slabOldRow.laid w) :
    Calls Tryd.prog 4 #[.int .i64 n, .int .i64 v] w fun e w' => e = .returned (.bool true) ∧ Below w.heap.size w w' := by
  rw [MakeChecks.laidMetH_plain _ _ _ (by kernel_rfl)] at hL
  have ht := tz_of hL rfl
  by_cases h : n < 1 ∨ 300 < n
  · exact out1 n v w ht h
  · obtain ⟨m, rfl⟩ := Int.eq_ofNat_of_zero_le (show 0 ≤ n by omega)
    exact main m (by omega) (by omega) v w ht

theorem own : ownKnob Tryd.prog.godebug = none := by kernel_rfl
theorem laidOut : laidOutB Tryd.prog = true := by kernel_rfl
set_option maxRecDepth 100000 in
theorem lifted (os : Os) (started : os.Started) (H : Type) (enc : TypeId × Value → H) :
    ReturnsInHanded {} Tryd.checked os 4 .any (fun w args => (Rows.slabOldSpec.pre enc Tryd.prog Tryd.f4 [] false w args ∧ laidMetH Tryd.prog Rows.slabOldRow.laid w) ∧ sizedMet enc Tryd.prog Tryd.f4 (OpenSpec.ofChange Rows.slabOldSpec) false w args)
      (Rows.slabOldSpec.post enc Tryd.prog Tryd.f4 false true false false) := by
  refine returnsInHanded_of_change_and (C := Tryd.checked) (X := fun w _ => laidMetH Tryd.prog Rows.slabOldRow.laid w) (fun _ _ _ hh h => h.of_heap hh) own started (by kernel_rfl) Tryd.func4
    (ChangeSpec.witness_shaped (enc := enc) (C := Tryd.checked) (os := os) (X := fun w _ => laidMetH Tryd.prog Rows.slabOldRow.laid w) false (World.laidAll Tryd.prog os Rows.slabOldRow.laid) #[.int .i64 0, .int .i64 0] 8 (World.laidAll_os _ _ _)
      (World.shaped_of_ZipB (by kernel_rfl) (by kernel_rfl)) (by kernel_rfl) (by kernel_rfl) (by kernel_rfl)
      (by rw [MakeChecks.laidMetH_plain _ _ _ (by kernel_rfl)]; exact laidMet_laidAll _ (by kernel_rfl) (by kernel_rfl))) ?_
  intro W base args ds gs before hval0 hW hcnd hsz0 hL _
  have hsz : (DataW.weightsEach Tryd.prog (Tryd.f4.params.toList ++ Rows.slabOldSpec.plain.varTypes Tryd.prog) (ds ++ gs)).all (· ≤ reachBytes) = true := hsz0
  have hval : ∀ (j : Nat) t v, Tryd.f4.params[j]? = some t → args[j]? = some v → Value.okWide Tryd.prog W .any base t v := hval0
  have hW' := hW
  obtain ⟨p, q, hA0, hV, rfl, hfz, hnd⟩ := hW
  have hA : DataW.TrodAll enc Tryd.prog W 0 (fun _ => true) true Tryd.f4.params.toList args.toList ds p := hA0
  rw [Tryd.params4] at hA hval hsz
  obtain ⟨v0, vs0, d0, ds0, p0, q0, hargs, rfl, rfl, h0, r0⟩ := trodAll_cons hA
  obtain ⟨v1, vs1, d1, ds1, p1, q1, rfl, rfl, rfl, h1, r1⟩ := trodAll_cons r0
  obtain ⟨rfl, rfl, rfl⟩ := trodAll_nil r1
  obtain rfl : args = #[v0, v1] := by cases args; simp_all
  obtain ⟨rfl, rfl⟩ := trodVars_none hV
  obtain ⟨a0, rfl, rfl, rfl, w0⟩ := open_int Tryd.underlying3 (hval 0 3 v0 rfl rfl) h0
  obtain ⟨a1, rfl, rfl, rfl, w1⟩ := open_int Tryd.underlying3 (hval 1 3 v1 rfl rfl) h1
  clear hA0 hval0 hsz0 hsz
  refine (walk a0 w0 a1 w1 W hL).mono fun e W' ⟨he, bel⟩ => ?_
  subst he
  exact ⟨_, rfl, _, _, _, [], _, [], hW', trodAll_mk1 (shut_bool Tryd.underlying4 _), (trodAll_cons_mk (shut_int Tryd.underlying3 w0) (trodAll_cons_mk (shut_int Tryd.underlying3 w1) trodAll_mk0)), rfl, bel.frame _, fun h => by cases h⟩

theorem over : Rows.slabOldRow.holds Tryd.pinned (OpenSpec.ofChange Rows.slabOldSpec) :=
  OpenClaim.holds_of_wide 4 Tryd.f4 rfl rfl rfl rfl rfl rfl rfl ⟨rfl, rfl, rfl, rfl, rfl⟩ rfl rfl rfl rfl rfl (by kernel_rfl) Tryd.func4 (by kernel_rfl)
    (of_decide_eq_true (by kernel_rfl)) (by unfold Func.isWrapper; first | (rw [if_pos (by decide +kernel)]; kernel_rfl) | (rw [if_neg (by decide +kernel)]; exact ⟨rfl, rfl⟩))
    (fun os started H enc _ => lifted os started H enc)

theorem said : Rows.SlabOldSaid := over
theorem plain (f : FuncId) (fn : Func) (hf : Tryd.pinned.checked.prog.funcNamed "usher/usherlaw2.SlabOld" = some f) (hfn : Tryd.pinned.checked.prog.funcs[f]? = some fn) :
    false = Tryd.pinned.checked.prog.looks [] ∧ ∀ (j : Nat) t, fn.params[j]? = some t → Tryd.pinned.checked.prog.wantsStandIn t = false := by
  obtain rfl : f = 4 := Option.some.inj ((show Tryd.prog.funcNamed "usher/usherlaw2.SlabOld" = some 4 by kernel_rfl).symm.trans hf) |>.symm
  obtain rfl : fn = Tryd.f4 := (Option.some.inj (Tryd.func4.symm.trans hfn)).symm
  refine ⟨by kernel_rfl, fun j t ht => ?_⟩
  rw [Tryd.params4] at ht
  have hm : t ∈ [3] := by simpa using Array.mem_of_getElem? ht
  simp only [List.mem_cons, List.mem_nil_iff, or_false] at hm
  rcases hm with rfl
  · exact (show Tryd.prog.wantsStandIn 3 = false by kernel_rfl)
theorem proved : Rows.SlabOldCardSaid :=
  Claim7.holds_tied_plain_at .later [] _ _ _ _ said (fun _ h => by cases h) (by kernel_rfl) (fun _ h => by cases h) slabOld_row_tie rfl ⟨rfl, rfl⟩ (by kernel_rfl) rfl plain (by kernel_rfl)
end Go.Proofs.YtdkcdljhpopakaaDoor.slabOld
