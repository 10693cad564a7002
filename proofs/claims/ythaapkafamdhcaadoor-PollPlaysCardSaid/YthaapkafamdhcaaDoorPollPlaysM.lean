/- For every script, the poller answers each call as the document says, and what is told in which order: the law returns true. Condition: the library's table of 64 is laid as its initialiser lays it. -/
import Derived.Test.YthaapkafamdhcaaDoorCards
import Derived.Test.YthaapkafamdhcaaDoorTie
import Derived.Lay
import Derived.LaidOnce
import Derived.MakeChecks
import Derived.SevenTiedAt
import Derived.WalkKit
import Derived.ProofKit
import Derived.OpenShut
import Derived.ShutString
import Derived.ChangeOld
import Derived.Below
import Derived.SizedLaws
import Derived.Test.YthaapkafamdhcaaDoorMgU
import Derived.Test.YthaapkafamdhcaaDoorMgG
import Derived.Carry

namespace Go.Proofs.YthaapkafamdhcaaDoor.pollPlays
open Go.ChangeShapes Go.WideShapes Go.ChangeAt Go.RowKit
open Go.ChangeMaps (open_string shut_string)
set_option linter.unusedVariables false
set_option maxRecDepth 100000
set_option linter.unusedSimpArgs false
set_option maxHeartbeats 8000000 in
theorem main (W : World) (ht : TzTab W) (A : Option Addr) (len cap : Nat) (f : Nat → Act8) (hf : Acts8At W A len f) (hlm : len ≤ maxLen) :
    Calls Tryd.prog 3 #[.slice A len cap] W fun e w' => e = .returned (.bool true) ∧ Below W.heap.size W w' := by
  have hnp := eql_ppol
  have hnn := eql_pnet
  have HF := Lib.hid hf
  have HT := Lib.hid ht
  unfold maxLen at hlm
  clear hf ht
  go_enter Tryd.func3, Tryd.ntmps3
  go_wp2
  go_loopw [3, 4] (fun n i wr => ∃ k m : Nat, k ≤ len ∧ k ≤ 120 ∧ m ≤ 1000 ∧ i = .int .i64 k ∧ n = .int .i64 m ∧ W = wr ∧ Hid (∀ j, j < k → (f j).P.l.length ≤ 1000)) (fun _ i _ => len - (intOf i).toNat)
  case atStart => exact ⟨0, 0, by omega, by omega, by omega, rfl, rfl, rfl, Lib.hid fun j hj => by omega⟩
  case round =>
    obtain ⟨k, m, hk, hk2, hm, rfl, rfl, rfl, hs⟩ := hrel
    by_cases hc : k < len ∧ k < 120
    · obtain ⟨hlt, hlt2⟩ := hc
      obtain ⟨ab, ao, rfl, hab, -, -, -, -, -, -, a6, -, -, -, hpk⟩ := HF.out k hlt
      obtain ⟨pl, hpl⟩ : ∃ pl, pl = (f k).P.l.length := ⟨_, rfl⟩
      have hpm : pl ≤ 9223372036854775807 - 10000 := by have := hpk.2.2.2; omega
      rw [← hpl] at a6
      generalize (f k).P.A = pA at a6
      generalize (f k).P.c = pc at a6
      have HPL := Lib.hid hpl
      have HS := Lib.hid hs.out
      clear hpk hpl hs
      by_cases hb : 1000 < m + 1 + pl
      · have e1 : (1000 : Int) < (m : Int) + 1 + (pl : Int) := by omega
        go_wp2_with fail
        refine (known_any _ HT.out).mono ?_
        rintro e w1 ⟨rfl, hd⟩
        have H1 := Lib.hid hd
        clear hd
        go_wp2
        go_ret
        exact ⟨rfl, H1.out.below⟩
      · have e1 : ¬ (1000 : Int) < (m : Int) + 1 + (pl : Int) := by omega
        go_wp2
        go_roundw
        case rel =>
          refine ⟨k + 1, m + 1 + pl, by omega, by omega, by omega, by go_num, by go_num, by first | rfl | trivial, Lib.hid fun j hj => ?_⟩
          rcases Nat.lt_or_ge j k with h | h
          · exact HS.out j h
          · obtain rfl : j = k := by omega
            rw [← HPL.out]; omega
        case measure => simp [intOf]; omega
    · have HS := Lib.hid (show ∀ j, j < len → j < 120 → (f j).P.l.length ≤ 1000 from fun j h1 h2 => hs.out j (by omega))
      have hcase : (k < len ∧ k = 120) ∨ ¬ k < len := by omega
      clear hs
      rcases hcase with ⟨h3, h4⟩ | h3
      all_goals
        clear hc
        go_wp2_with fail
        refine (nnew_any 8 _ (by omega) (by omega)).mono ?_
        rintro e w1 ⟨rfl, hn, hm1⟩
        have HN := Lib.hid (And.intro hn hm1)
        clear hn hm1
        go_wp2_with fail
        refine (rnew_any 8 w1 (by omega) (by omega)).mono ?_
        rintro e w2 ⟨rfl, hr, hm2⟩
        have HR := Lib.hid (And.intro hr hm2)
        clear hr hm2
        obtain ⟨y, hy⟩ : ∃ y, y = w1.heap.size := ⟨_, rfl⟩
        go_wp2_with fail
        refine (pnew_any w2 _ 0 _ _ (HN.out.1.quiet HR.out.2)).mono ?_
        rintro e w3 ⟨p, rfl, hp⟩
        have HP := Lib.hid hp.out
        clear hp
        go_wp2_with fail
        refine (rlnew_any w3 w1.heap.size 0 _ _ (by obtain ⟨F, h1, h2, h3⟩ := HP.out; exact HR.out.1.quiet h2) (Nt.Mk.new 8)).mono ?_
        rintro e w4 ⟨q, rfl, hq⟩
        have H4 := Lib.hid (show PTwo W w4 p W.heap.size q w1.heap.size (Plr.new (Nt.new 8)) (Plr.new (Nt.new 8)) 0 0 0 0 [] from
          PTwo.born HN.out.2.size (HN.out.2.trans HR.out.2 (by simp)) (fun k hk => by rw [List.mem_singleton.1 hk]; exact ⟨Nat.le_refl _, HN.out.1.lt _ (by simp)⟩) (fun k hk => by rw [List.mem_singleton.1 hk]; exact ⟨Nat.le_refl _, HR.out.1.lt _ (by simp)⟩) HP.out hq.out)
        have c0 : w4.cell? ⟨p, 0, none⟩ = some (.pointer (some ⟨W.heap.size, 0, none⟩)) := H4.out.pc
        clear hq HP
        obtain ⟨b, hb⟩ : ∃ b, b = w4.heap.size + 1 := ⟨_, rfl⟩
        obtain ⟨w6, hw6⟩ : ∃ w6, w6 = (w4.alloc (.cells #[.int .i64 0, .int .i64 0] 47)).alloc (.cells #[.pointer (some ⟨p, 0, none⟩), .pointer (some ⟨q, 0, none⟩), .slice (some ⟨w4.heap.size, 0, none⟩) 1 1] 50) := ⟨_, rfl⟩
        have L0 := Lib.hid (show Lp8 W w6 p W.heap.size q w1.heap.size b 0 from by
          rw [hw6, hb]
          exact ⟨_, 0, 0, _, _, _, St8.born H4.out, by omega, by omega, by decide, by simp⟩)
        go_upto_region 15 with fail
        rw [← hw6, ← hb]
        clear hw6 hb c0 H4
        obtain ⟨g, hg⟩ : ∃ g, g = W.heap.size := ⟨_, rfl⟩
        rw [← hg] at L0
        go_wp2
        go_loopw [14] (fun iv wr => ∃ j : Nat, j ≤ len ∧ j ≤ 120 ∧ iv = .int .i64 j ∧ Hid (Lp8 W wr p g q w1.heap.size b j)) (fun iv _ => len - (intOf iv).toNat)
        case atStart => exact ⟨0, by omega, by omega, rfl, L0⟩
        case round =>
          obtain ⟨j, hj, hj2, rfl, hd⟩ := hrel
          clear L0
          obtain ⟨P, K, L, gv, gl, Kb, hst, b1, b2, b3, b4⟩ := hd.out
          have ST := Lib.hid hst
          have HB := Lib.hid (And.intro b1 (And.intro b2 (And.intro b3 b4)))
          clear hd hst b1 b2 b3 b4
          by_cases hc : j < len ∧ j < 120
          · obtain ⟨hlt, hlt2⟩ := hc
            obtain ⟨ab, ao, rfl, hab, a0, a1, a2, a3, a4, a5, a6, -, -, -, hpk⟩ := HF.out j hlt
            have hsm := HS.out j hlt hlt2
            generalize (f j).kind = kd at a0
            generalize (f j).c = cc at a1
            generalize (f j).k = kk at a2
            generalize (f j).r = r at a3
            generalize (f j).w = s at a4
            generalize (f j).e = e at a5
            generalize (f j).P = rP at a6 hpk hsm
            obtain ⟨pA, pl, pc⟩ := rP
            simp only at a6 hsm
            obtain ⟨np, hnp⟩ : ∃ np, np = pl.length := ⟨_, rfl⟩
            rw [← hnp] at a6
            have HPK := Lib.hid (And.intro hnp (And.intro hpk hsm))
            have HA := Lib.hid (And.intro a0 (And.intro a1 (And.intro a2 (And.intro a3 (And.intro a4 (And.intro a5 a6))))))
            have c0 := cell_mods a0 ST.out.two.mods (by simp)
            have c1 := cell_mods a1 ST.out.two.mods (by simp)
            have c2 := cell_mods a2 ST.out.two.mods (by simp)
            have c3 := cell_mods a3 ST.out.two.mods (by simp)
            have c4 := cell_mods a4 ST.out.two.mods (by simp)
            have c5 := cell_mods a5 ST.out.two.mods (by simp)
            have c6 := cell_mods a6 ST.out.two.mods (by simp)
            clear a0 a1 a2 a3 a4 a5 a6 hpk hsm hnp
            go_wp2_with fail
            refine (asks_any W wr p g q w1.heap.size b (1024 * j) K L gv P gl Kb pA np pc pl kd cc kk r s e ST.out (by have := HB.out; omega) HT.out (by have := HB.out; omega) (by have := HB.out; omega) (by have := HB.out; omega) HPK.out.1 HPK.out.2.1 HPK.out.2.2).mono ?_
            rintro e' w7 ⟨rfl, hd⟩
            obtain ⟨P', K', L', gv', gl', Kb', h7, d1, d2, d3, d4⟩ := hd.out
            have H7 := Lib.hid h7
            have HD := Lib.hid (And.intro d1 (And.intro d2 (And.intro d3 d4)))
            clear hd h7 d1 d2 d3 d4 c0 c1 c2 c3 c4 c5 c6
            have c0 := cell_mods HA.out.1 H7.out.two.mods (by simp)
            have c1 := cell_mods HA.out.2.1 H7.out.two.mods (by simp)
            have c2 := cell_mods HA.out.2.2.1 H7.out.two.mods (by simp)
            have c3 := cell_mods HA.out.2.2.2.1 H7.out.two.mods (by simp)
            have c4 := cell_mods HA.out.2.2.2.2.1 H7.out.two.mods (by simp)
            have c5 := cell_mods HA.out.2.2.2.2.2.1 H7.out.two.mods (by simp)
            have c6 := cell_mods HA.out.2.2.2.2.2.2 H7.out.two.mods (by simp)
            go_wp2_with fail
            refine (wire_any W w7 p g q w1.heap.size b (1024 * j) K' L' gv' _ P' Kb' kd cc kk r s e H7.out.two H7.out.inb.1 H7.out.row (by omega)).mono ?_
            rintro e' w8 ⟨rfl, hd⟩
            obtain ⟨S4, h8⟩ := St8.wired H7.out hd.out
            have H8 := Lib.hid h8
            obtain ⟨hs8, x1, x2o⟩ := h8.cells
            clear hd h8 c0 c1 c2 c3 c4 c5 c6
            obtain ⟨n5, hn5⟩ : ∃ n5 : Int, n5 = ((P'.sl.cnt : Nat) : Int) := ⟨_, rfl⟩
            have x2 : w8.cell? ⟨hs8, 4, none⟩ = some (.int .i64 n5) := by rw [hn5]; exact x2o
            have HW := Lib.hid (show ∀ wz, Mods [] w8 wz → Calls Tryd.prog 15 #[.pointer (some ⟨p, 0, none⟩)] wz fun e w' => e = .returned (.int .i64 n5) ∧ w' = wz from fun wz hz =>
              (watchedP W wz p g q w1.heap.size _ _ _ _ _ _ Kb' (H8.out.two.quiet hz)).mono fun e w' ⟨h1, h2⟩ => ⟨by rw [h1, hn5], h2.symm⟩)
            clear hn5 x2o
            have hne : (n5 != n5) = false := by simp
            go_wp2_with fail
            go_quiet ((go_at_call 15; exact Calls.quiet_of_same (HW.out _ ((Mods.refl [] w8).drewN _))))
            go_wp2
            go_roundw
            case rel =>
              refine ⟨j + 1, by omega, by omega, by go_num, Lib.hid ?_⟩
              have hb := HB.out
              have hd := HD.out
              exact Lp8.step (K := K) (L := L) (P := P) (gl := gl) (gv := gv) (Kb := Kb) H8.out hd.1 hd.2.1 hd.2.2.1 hd.2.2.2 hb.1 hb.2.1 hb.2.2.1 hb.2.2.2 ((Mods.refl [] w8).drewN _)
            case measure => simp [intOf]; omega
          · have hcase : (j < len ∧ j = 120) ∨ ¬ j < len := by omega
            obtain ⟨l, hl⟩ : ∃ l, ord P.told [] = l := ⟨_, rfl⟩
            have HLL := Lib.hid (show l.length ≤ 100000 by rw [← hl, ord_len]; have := told_len ST.out.two.okP; omega)
            have HL := Lib.hid hl
            clear hl hc
            rcases hcase with ⟨h5, h6⟩ | h5
            all_goals try (exfalso; omega)
            all_goals
              go_wp2_with fail
              refine (waitP W wr p g q w1.heap.size _ _ _ _ P P Kb ST.out.two none 0 0 [] (fun F hF i x h => by simp at h) rfl (by simp) l HL.out).mono ?_
              rintro e w7 ⟨B2, k2, x2, rfl, hd⟩
              have H7 := Lib.hid hd.out.1
              have E2 := Lib.hid hd.out.2.2.1
              clear hd
              go_wp2_with fail
              refine (rwaitP W w7 p g q w1.heap.size _ _ _ _ _ P _ H7.out none 0 0 [] (fun F hF i x h => by simp at h) rfl (by simp) l HL.out).mono ?_
              rintro e w8 ⟨B3, k3, x3, rfl, hd⟩
              have H8 := Lib.hid hd.out.1
              have E3a := Lib.hid (E2.out.keepP hd.out.2.1 fun b hb => List.mem_append_right _ hb)
              have E3 := Lib.hid hd.out.2.2.1
              clear hd
              go_wp2_with fail
              refine (events_yes _ _ _ l l E3a.out E3.out HLL.out rfl).mono ?_
              rintro e w9 ⟨rfl, h9⟩
              have M9 := Lib.hid (H8.out.mods.trans h9 (by simp))
              clear h9
              go_wp2_with fail
              refine (known_any _ (HT.out.mods M9.out (by simp))).mono ?_
              rintro e w10 ⟨rfl, h10⟩
              have M10 := Lib.hid (M9.out.trans h10 (by simp))
              clear h10
              go_wp2
              go_ret
              exact ⟨rfl, M10.out.below⟩
theorem walk (v : Value) (W : World) (ho : IsActs8 W v) (hL : laidMetH Tryd.prog Rows.pollPlaysRow.laid W) :
    Calls Tryd.prog 3 #[v] W fun e w' => e = .returned (.bool true) ∧ Below W.heap.size W w' := by
  rw [MakeChecks.laidMetH_plain _ _ _ (by kernel_rfl)] at hL
  have ht := tz_of hL rfl
  obtain ⟨A, len, cap, f, rfl, hl, hf⟩ : ∃ (A : Option Addr) (len cap : Nat) (f : Nat → Act8), v = .slice A len cap ∧ len ≤ maxLen ∧ Acts8At W A len f := by
    rcases ho with ⟨a, cap, rfl⟩ | ⟨bb, off, len, cap, f, rfl, h1, h2, h3, h4, h5⟩
    · exact ⟨a, 0, cap, fun _ => ⟨0, 0, 0, false, false, false, ⟨none, [], 0⟩⟩, rfl, Nat.zero_le _, fun j hj => by omega⟩
    · exact ⟨_, len, cap, f, rfl, by omega, fun j hj => ⟨bb, off, rfl, h4, h5 j hj⟩⟩
  exact main W ht A len cap f hf hl

theorem own : ownKnob Tryd.prog.godebug = none := by kernel_rfl
theorem laidOut : laidOutB Tryd.prog = true := by kernel_rfl
set_option maxRecDepth 100000 in
theorem lifted (os : Os) (started : os.Started) (H : Type) (enc : TypeId × Value → H) :
    ReturnsInHanded {} Tryd.checked os 3 .any (fun w args => (Rows.pollPlaysSpec.pre enc Tryd.prog Tryd.f3 [] false w args ∧ laidMetH Tryd.prog Rows.pollPlaysRow.laid w) ∧ sizedMet enc Tryd.prog Tryd.f3 (OpenSpec.ofChange Rows.pollPlaysSpec) false w args)
      (Rows.pollPlaysSpec.post enc Tryd.prog Tryd.f3 false true false false) := by
  refine returnsInHanded_of_change_and (C := Tryd.checked) (X := fun w _ => laidMetH Tryd.prog Rows.pollPlaysRow.laid w) (fun _ _ _ hh h => h.of_heap hh) own started (by kernel_rfl) Tryd.func3
    (ChangeSpec.witness_shaped (enc := enc) (C := Tryd.checked) (os := os) (X := fun w _ => laidMetH Tryd.prog Rows.pollPlaysRow.laid w) false (World.laidAll Tryd.prog os Rows.pollPlaysRow.laid) #[.slice none 0 0] 8 (World.laidAll_os _ _ _)
      (World.shaped_of_ZipB (by kernel_rfl) (by kernel_rfl)) (by kernel_rfl) (by kernel_rfl) (by kernel_rfl)
      (by rw [MakeChecks.laidMetH_plain _ _ _ (by kernel_rfl)]; exact laidMet_laidAll _ (by kernel_rfl) (by kernel_rfl))) ?_
  intro W base args ds gs before hval0 hW hcnd hsz0 hL _
  have hsz : (DataW.weightsEach Tryd.prog (Tryd.f3.params.toList ++ Rows.pollPlaysSpec.plain.varTypes Tryd.prog) (ds ++ gs)).all (· ≤ reachBytes) = true := hsz0
  have hval : ∀ (j : Nat) t v, Tryd.f3.params[j]? = some t → args[j]? = some v → Value.okWide Tryd.prog W .any base t v := hval0
  have hW' := hW
  obtain ⟨p, q, hA0, hV, rfl, hfz, hnd⟩ := hW
  have hA : DataW.TrodAll enc Tryd.prog W 0 (fun _ => true) true Tryd.f3.params.toList args.toList ds p := hA0
  rw [Tryd.params3] at hA hval hsz
  obtain ⟨v0, vs0, d0, ds0, p0, q0, hargs, rfl, rfl, h0, r0⟩ := trodAll_cons hA
  obtain ⟨rfl, rfl, rfl⟩ := trodAll_nil r0
  obtain rfl : args = #[v0] := by cases args; simp_all
  obtain ⟨rfl, rfl⟩ := trodVars_none hV
  have k0 := h0
  have lt0 : ∀ x ∈ p0, x.block < W.heap.size := by obtain ⟨m, hm⟩ := k0; exact DataW.trod_lt m _ _ _ hm
  obtain o0 := open_acts8 (hval 0 22 v0 rfl rfl) k0 (fun n hn => by simpa using List.all_eq_true.1 hsz n (DataW.weights_mem_each (j := 0) (t := 22) rfl rfl n hn))
  clear hA0 hval0 hsz0 hsz
  refine (walk v0 W o0 hL).mono fun e W' ⟨he, bel⟩ => ?_
  subst he
  exact ⟨_, rfl, _, _, _, [], _, [], hW', trodAll_mk1 (shut_bool Tryd.underlying4 _), (trodAll_cons_mk (Below.trod laidOut (by kernel_rfl) (of_decide_eq_true (by kernel_rfl)) k0 bel lt0) trodAll_mk0), rfl, bel.frame _, fun h => by cases h⟩

theorem over : Rows.pollPlaysRow.holds Tryd.pinned (OpenSpec.ofChange Rows.pollPlaysSpec) :=
  OpenClaim.holds_of_wide 3 Tryd.f3 rfl rfl rfl rfl rfl rfl rfl ⟨rfl, rfl, rfl, rfl, rfl⟩ rfl rfl rfl rfl rfl (by kernel_rfl) Tryd.func3 (by kernel_rfl)
    (of_decide_eq_true (by kernel_rfl)) (by unfold Func.isWrapper; first | (rw [if_pos (by decide +kernel)]; kernel_rfl) | (rw [if_neg (by decide +kernel)]; exact ⟨rfl, rfl⟩))
    (fun os started H enc _ => lifted os started H enc)

theorem said : Rows.PollPlaysSaid := over
theorem plain (f : FuncId) (fn : Func) (hf : Tryd.pinned.checked.prog.funcNamed "usher/usherlaw8.PollPlays" = some f) (hfn : Tryd.pinned.checked.prog.funcs[f]? = some fn) :
    false = Tryd.pinned.checked.prog.looks [] ∧ ∀ (j : Nat) t, fn.params[j]? = some t → Tryd.pinned.checked.prog.wantsStandIn t = false := by
  obtain rfl : f = 3 := Option.some.inj ((show Tryd.prog.funcNamed "usher/usherlaw8.PollPlays" = some 3 by kernel_rfl).symm.trans hf) |>.symm
  obtain rfl : fn = Tryd.f3 := (Option.some.inj (Tryd.func3.symm.trans hfn)).symm
  refine ⟨by kernel_rfl, fun j t ht => ?_⟩
  rw [Tryd.params3] at ht
  have hm : t ∈ [22] := by simpa using Array.mem_of_getElem? ht
  simp only [List.mem_cons, List.mem_nil_iff, or_false] at hm
  rcases hm with rfl
  · exact (show Tryd.prog.wantsStandIn 22 = false by kernel_rfl)
theorem proved : Rows.PollPlaysCardSaid :=
  Claim7.holds_tied_plain_at .later [] _ _ _ _ said (fun _ h => by cases h) (by kernel_rfl) (fun _ h => by cases h) pollPlays_row_tie rfl ⟨rfl, rfl⟩ (by kernel_rfl) rfl plain (by kernel_rfl)
end Go.Proofs.YthaapkafamdhcaaDoor.pollPlays
