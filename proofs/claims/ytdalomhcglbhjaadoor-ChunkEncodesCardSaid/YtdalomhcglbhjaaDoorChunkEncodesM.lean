/- For every list of parts and any bytes behind them, the code writes the chunks that the document writes, and reads them back as the body, all of them taken and nothing behind them: the law returns true. Condition: the library's tables are laid as its initialisers lay them. -/
import Derived.Test.YtdalomhcglbhjaaDoorCards
import Derived.Test.YtdalomhcglbhjaaDoorTie
import Derived.Lay
import Derived.LaidOnce
import Derived.MakeChecks
import Derived.SevenTiedAt
import Derived.WalkKit
import Derived.ProofKit
import Derived.OpenShut
import Derived.ShutString
import Derived.ChangeOld
import Derived.Below
import Derived.SizedLaws
import Derived.Test.YtdalomhcglbhjaaDoorMQD
import Derived.Test.YtdalomhcglbhjaaDoorMQC
import Derived.Carry
import Derived.Deep.CutBlock
namespace Go.Proofs.YtdalomhcglbhjaaDoor.chunkEncodes
open Go.ChangeShapes Go.WideShapes Go.ChangeAt Go.RowKit
open Go.ChangeMaps (open_string shut_string)
set_option linter.unusedVariables false
theorem take_flat2 (ps : List (List UInt8)) (k : Nat) (hk : k < ps.length) : (ps.take (k + 1)).flatten = (ps.take k).flatten ++ ps[k] := by
  rw [List.take_succ_eq_append_getElem hk, List.flatten_append]; simp
theorem enc_yes {ps : List (List UInt8)} (m : List UInt8) (h : ∀ p ∈ ps, p.length ≤ 4095) (hb : ps.flatten.length ≤ 2048) : ∃ r1, feedP newC (encC ps ++ m) = (r1, (encC ps).length) ∧ r1.whole = true ∧ r1.status = 0 ∧ r1.body = ps.flatten ∧ r1.trail = [] :=
  ⟨_, enc_feed ps m h hb, rfl, rfl, rfl, rfl⟩
set_option maxRecDepth 100000 in
set_option maxHeartbeats 8000000 in
theorem walk (w : World) (hL : laidMetH Tryd.prog Rows.chunkEncodesRow.laid w) (v : Value) (ps : List (List UInt8)) (hp : PsAt w v ps) (hpn : ps.length ≤ 9223372036854775807) (v2 : Value) (m : List UInt8) (hm : BsAt w v2 m) :
    Calls Tryd.prog 4 #[v, v2] w fun e w' => e = .returned (.bool true) ∧ Below w.heap.size w w' := by
  rw [MakeChecks.laidMetH_plain _ _ _ (by kernel_rfl)] at hL
  have HT := Lib.hid (tz_of14 hL rfl)
  have HP := Lib.hid hp
  have HM := Lib.hid hm
  obtain ⟨A, c, rfl⟩ := hp.len
  obtain ⟨A2, c2, rfl⟩ := hm.len
  have HG0 := Lib.hid (gb_nilB w)
  have HN := Lib.hid (fun w => new_c w)
  unfold ptr at HN
  clear hL hp hm
  go_enter Tryd.func4, Tryd.ntmps4
  go_wp2
  go_loopw [5, 6, 7] (fun vn va vi wr => ∃ (k N : Nat), k ≤ ps.length ∧ vi = .int .i64 k ∧ vn = .int .i64 N ∧ N ≤ 4000 ∧ Hid (N = (ps.take k).flatten.length + k) ∧ Hid (∀ p ∈ ps.take k, p.length ≤ 4000) ∧ Hid (GB w ((ps.take k).flatten) va wr)) (fun _ _ vi _ => ps.length - (intOf vi).toNat)
  case atStart => exact ⟨0, 0, Nat.zero_le _, rfl, rfl, by omega, Lib.hid (by simp), Lib.hid (fun p hp => by simp at hp), by simpa using HG0⟩
  case round =>
    obtain ⟨k, N, hk, rfl, rfl, hN, HS, HAL, HG⟩ := hrel
    by_cases hlt : k < ps.length
    · obtain ⟨b, off, hv, u, hcell, hb⟩ : ∃ b off, A = some ⟨b, off, none⟩ ∧ ∃ u, wr.cell? ⟨b, off + k, none⟩ = some u ∧ BsAt w u ps[k] := by
        rcases HP.out with ⟨e, _⟩ | ⟨b, off, cap, hv, _, hbl, hc⟩
        · rw [e] at hlt; simp at hlt
        · injection hv with e1 e2 e3
          subst e1
          obtain ⟨u, h1, h2⟩ := hc k hlt
          exact ⟨b, off, rfl, u, cell_mods h1 HG.out.mods (by simp), h2⟩
      subst hv
      have HTF := Lib.hid (take_flat2 ps k hlt)
      have HTK := Lib.hid (List.take_succ_eq_append_getElem hlt)
      obtain ⟨p, hpk⟩ : ∃ p, p = ps[k] := ⟨_, rfl⟩
      rw [← hpk] at hb HTF HTK
      clear hpk
      obtain ⟨a3, c3, rfl⟩ := hb.len
      have hpm : p.length ≤ 9223372036854775807 ∨ p.length = 0 := by
        rcases hb with ⟨e, _⟩ | ⟨_, _, _, _, _, _, h1, h2, _⟩
        · rw [e]; exact .inr rfl
        · exact .inl (by omega)
      have hpm2 : p.length ≤ 9223372036854775807 := by omega
      by_cases hbig : 4000 < p.length
      · have g1 : (4000 : Int) < (p.length : Int) := by omega
        clear hb hpm hbig
        go_wp2
        go_ret
        exact ⟨rfl, HG.out.mods.below⟩
      · have g1 : ¬ (4000 : Int) < (p.length : Int) := by omega
        by_cases hn2 : 4000 < N + 1 + p.length
        · have g2 : (4000 : Int) < (N : Int) + 1 + (p.length : Int) := by omega
          clear hb hpm hbig hn2
          go_wp2
          go_ret
          exact ⟨rfl, HG.out.mods.below⟩
        · have g2 : ¬ (4000 : Int) < (N : Int) + 1 + (p.length : Int) := by omega
          have hfl : ((ps.take k).flatten).length ≤ 4000 := by have := HS.out; omega
          obtain ⟨a4, n4, c4, w4, hrun, hg4⟩ := app_bs HG.out (hb.low HG.out.mods) (by omega)
          have HG4 := Lib.hid hg4
          have HS2 := Lib.hid (show N + 1 + p.length = (ps.take (k + 1)).flatten.length + (k + 1) by rw [HTF.out, List.length_append, HS.out]; omega)
          have HAL2 := Lib.hid (show ∀ q ∈ ps.take (k + 1), q.length ≤ 4000 from fun q hq => by
            rw [HTK.out] at hq
            rcases List.mem_append.1 hq with hq | hq
            · exact HAL.out q hq
            · rw [List.mem_singleton] at hq; subst hq; omega)
          have hN2 : N + 1 + p.length ≤ 4000 := by omega
          clear hb hpm hbig hn2 hg4 hfl
          go_wp2_with (at_builtin; refine wpList_run_app2 rfl (.tmp 35) (.tmp 39) 22 22 rfl rfl rfl hrun ?_)
          go_roundw
          case rel => exact ⟨k + 1, N + 1 + p.length, by omega, by go_num, by go_num, hN2, HS2, HAL2, by rw [HTF.out]; exact HG4⟩
          case measure => simp [intOf]; omega
    · obtain rfl : k = ps.length := by omega
      have hs := HS.out
      have hal := HAL.out
      have hg := HG.out
      rw [List.take_length] at hs hal hg
      obtain ⟨fl, hfle⟩ : ∃ fl, fl = ps.flatten := ⟨_, rfl⟩
      have HFE := Lib.hid hfle
      rw [← hfle] at hs hg
      clear hfle
      have HGA := Lib.hid hg
      have hfl : fl.length ≤ 4000 ∧ ps.length ≤ 4000 := by omega
      obtain ⟨aa, ac, rfl⟩ := hg.form
      have HALL := Lib.hid (show ∀ p ∈ ps, p.length ≤ 4095 from fun p hp => by have := hal p hp; omega)
      have hmm : m.length ≤ 9223372036854775807 := by
        rcases HM.out with ⟨e, _⟩ | ⟨_, _, _, _, _, _, h1, h2, _⟩
        · rw [e]; decide
        · omega
      clear hs hal hg HS HAL HG
      by_cases hbig : 4000 < m.length
      · have g1 : (4000 : Int) < (m.length : Int) := by omega
        clear hbig
        go_wp2
        go_ret
        exact ⟨rfl, HGA.out.mods.below⟩
      have g1 : ¬ (4000 : Int) < (m.length : Int) := by omega
      have hml : m.length ≤ 4000 := by omega
      have HEN := Lib.hid (encode_c _ ps wr (HP.out.low HGA.out.mods) (HT.out.low HGA.out.mods) (by omega) (by rw [← HFE.out]; omega))
      have hel : (encC ps).length ≤ 200000 := by
        have := flat_chunk ps (by rw [← HFE.out]; omega)
        rw [← HFE.out] at this
        unfold encC endC
        rw [List.length_append]; simp only [List.length_cons, List.length_nil]; omega
      obtain ⟨el, helq⟩ : ∃ el, el = encC ps := ⟨_, rfl⟩
      have HELQ := Lib.hid helq
      rw [← helq] at HEN hel
      clear helq
      have HFL := Lib.hid hfl
      clear hbig
      by_cases hmuch : 2048 < fl.length
      · have g2 : (2048 : Int) < (fl.length : Int) := by omega
        clear hmuch
        go_wp2_with (first
          | (go_at_call 14; refine HEN.out.mono ?_; rintro q w1 ⟨u1, rfl, hk⟩; have HG1 := Lib.hid hk.out; obtain ⟨xa, xc, rfl⟩ := hk.out.form; have M1 := Lib.hid (HGA.out.mods.trans hk.out.mods (fun _ h => nomatch h)); have HEX := Lib.hid (encode_x _ ps w1 (HP.out.low M1.out) (by have := HFL.out; omega) (by rw [← HFE.out]; have := HFL.out; omega)); rw [← HELQ.out] at HEX; clear hk)
          | (go_at_call 15; refine HEX.out.mono ?_; rintro q w2 ⟨u2, rfl, hk⟩; have HG2 := Lib.hid hk.out; obtain ⟨ya, yc, rfl⟩ := hk.out.form; clear hk)
          | (go_at_call 9; refine (same_l14 el el _ _ _ (HG1.out.at.low HG2.out.mods) HG2.out.at (r := true) (decide_eq_true rfl)).mono ?_; rintro q w3 ⟨rfl, hd⟩; have M3 := Lib.hid ((M1.out.trans HG2.out.mods (fun _ h => nomatch h)).trans hd.mods (fun _ h => nomatch h)); have HB1 := Lib.hid ((HG1.out.at.low HG2.out.mods).low hd.mods); have HGA3 := Lib.hid (((HGA.out.own.low HG1.out.mods).low HG2.out.mods).low hd.mods); clear hd)
          | (go_at_call 13; refine (known_14 _ (HT.out.low M3.out)).mono ?_; rintro q w4 ⟨rfl, hm⟩; have M4 := Lib.hid (M3.out.trans hm (fun _ h => nomatch h)); clear hm))
        go_ret
        exact ⟨rfl, M4.out.below⟩
      have g2 : ¬ (2048 : Int) < (fl.length : Int) := by omega
      obtain ⟨r1, hr1, hw1, hs1, hb1, ht1⟩ := enc_yes m HALL.out (by rw [← HFE.out]; omega)
      rw [← HFE.out] at hb1
      rw [← HELQ.out] at hr1
      have HR := Lib.hid hr1
      have HK := Lib.hid (And.intro hw1 (And.intro hs1 (And.intro hb1 ht1)))
      clear hr1 hw1 hs1 hb1 ht1 hmuch
      go_upto_region 20 with (first
        | (go_at_call 14; refine HEN.out.mono ?_; rintro q w1 ⟨u1, rfl, hk⟩; have HG1 := Lib.hid hk.out; obtain ⟨xa, xc, rfl⟩ := hk.out.form; have M1 := Lib.hid (HGA.out.mods.trans hk.out.mods (fun _ h => nomatch h)); have HEX := Lib.hid (encode_x _ ps w1 (HP.out.low M1.out) (by have := HFL.out; omega) (by rw [← HFE.out]; have := HFL.out; omega)); rw [← HELQ.out] at HEX; clear hk)
        | (go_at_call 15; refine HEX.out.mono ?_; rintro q w2 ⟨u2, rfl, hk⟩; have HG2 := Lib.hid hk.out; obtain ⟨ya, yc, rfl⟩ := hk.out.form; clear hk)
        | (go_at_call 9; refine (same_l14 el el _ _ _ (HG1.out.at.low HG2.out.mods) HG2.out.at (r := true) (decide_eq_true rfl)).mono ?_; rintro q w3 ⟨rfl, hd⟩; have M3 := Lib.hid ((M1.out.trans HG2.out.mods (fun _ h => nomatch h)).trans hd.mods (fun _ h => nomatch h)); have HB1 := Lib.hid ((HG1.out.at.low HG2.out.mods).low hd.mods); have HGA3 := Lib.hid (((HGA.out.own.low HG1.out.mods).low HG2.out.mods).low hd.mods); clear hd)
        | (go_at_call 7; refine (HN.out _).mono ?_; rintro q w4 ⟨g, F, rfl, hk⟩; have HA := Lib.hid hk.out; clear hk))
      have M4 := Lib.hid (M3.out.trans HA.out.2.1 (fun _ h => nomatch h))
      have HB4 := Lib.hid (HB1.out.low HA.out.2.1)
      have ma : Mods [] w4 (w4.alloc (.cells #[] 5)) := (Mods.refl [] w4).alloc _
      obtain ⟨a5, n5, c5, w5, hrun5, hg5⟩ := app_bs (gb_madeB w4) (HB4.out.low ma) (by rw [List.length_nil]; omega)
      rw [List.nil_append] at hg5
      obtain ⟨a6, n6, c6, w6, hrun6, hg6⟩ := app_bs hg5 (HM.out.low (M4.out.trans hg5.mods (fun _ h => nomatch h))) (by omega)
      have HG6 := Lib.hid hg6
      have HGAL := Lib.hid (HGA3.out.lt)
      have HG6A := Lib.hid (((HGA3.out.at.low HA.out.2.1).low hg6.mods))
      have hfd := feed_c _ (el ++ m) hg6.at (fun _ k hkk hF => by have h1 := hg6.news k hkk; have h2 := HA.out.1.lt k hF; omega) (HA.out.1.low hg6.mods) (by rw [List.length_append]; omega)
      rw [HR.out] at hfd
      simp only at hfd
      rw [HK.out.1, HK.out.2.1] at hfd
      unfold ptr at hfd
      have HFD := Lib.hid hfd
      clear hfd hg5 hg6 ma
      go_wp2_with (first
        | (at_builtin; refine wpList_run_app2 rfl (.tmp 58) (.tmp 59) 22 22 rfl rfl rfl hrun5 ?_)
        | (at_builtin; refine wpList_run_app2 rfl (.tmp 60) (.tmp 61) 22 22 rfl rfl rfl hrun6 ?_)
        | (go_at_call 8; refine HFD.out.mono ?_; rintro q w7 ⟨rfl, hk⟩; obtain ⟨F7, a7, hg7⟩ := hk.out; have M47 := Lib.hid (show Mods [] w w7 from (M4.out.trans HG6.out.mods (fun _ h => nomatch h)).trans hg7.mods (fun k hk => .inr (by have h1 := HA.out.2.2 k hk; have h2 := M3.out.size; omega))); have HGA7 := Lib.hid ((HG6A.out).mods hg7.mods (fun k hk hk2 => by have h1 := HA.out.2.2 k hk2; have h2 := HGAL.out k hk; omega)); have hbd := body_c a7; rw [HK.out.2.2.1] at hbd; unfold ptr at hbd; have HBD := Lib.hid hbd; have HA7 := Lib.hid a7; clear hk a7 hg7 hbd)
        | (go_at_call 10; refine HBD.out.mono ?_; rintro q w8 ⟨u8, rfl, hk⟩; have HG8 := Lib.hid hk.out; obtain ⟨za, zc, rfl⟩ := hk.out.form; clear hk)
        | (go_at_call 9; refine (same_l14 fl fl _ _ _ HG8.out.at (HGA7.out.low HG8.out.mods) (r := true) (decide_eq_true rfl)).mono ?_; rintro q w9 ⟨rfl, hd⟩; have M9 := Lib.hid (((M47.out).trans HG8.out.mods (fun _ h => nomatch h)).trans hd.mods (fun _ h => nomatch h)); have htr := trailers_c ((HA7.out.low HG8.out.mods).low hd.mods) (by rw [HK.out.2.2.2]; exact fun p hp => nomatch hp); rw [HK.out.2.2.2] at htr; unfold ptr at htr; have HTR := Lib.hid htr; clear hd htr)
        | (go_at_call 12; refine HTR.out.mono ?_; rintro q w10 ⟨B, rfl, hk⟩; have M10 := Lib.hid (M9.out.trans hk.out.low (fun _ h => nomatch h)); clear hk)
        | (go_at_call 13; refine (known_14 _ (HT.out.low M10.out)).mono ?_; rintro q w11 ⟨rfl, hm⟩; have M11 := Lib.hid (M10.out.trans hm (fun _ h => nomatch h)); clear hm))
      go_ret
      exact ⟨rfl, M11.out.below⟩


theorem own : ownKnob Tryd.prog.godebug = none := by kernel_rfl
theorem laidOut : laidOutB Tryd.prog = true := by kernel_rfl
set_option maxRecDepth 100000 in
theorem lifted (os : Os) (started : os.Started) (H : Type) (enc : TypeId × Value → H) :
    ReturnsInHanded {} Tryd.checked os 4 .any (fun w args => (Rows.chunkEncodesSpec.pre enc Tryd.prog Tryd.f4 [] false w args ∧ laidMetH Tryd.prog Rows.chunkEncodesRow.laid w) ∧ sizedMet enc Tryd.prog Tryd.f4 (OpenSpec.ofChange Rows.chunkEncodesSpec) false w args)
      (Rows.chunkEncodesSpec.post enc Tryd.prog Tryd.f4 false true false false) := by
  refine returnsInHanded_of_change_and (C := Tryd.checked) (X := fun w _ => laidMetH Tryd.prog Rows.chunkEncodesRow.laid w) (fun _ _ _ hh h => h.of_heap hh) own started (by kernel_rfl) Tryd.func4
    (ChangeSpec.witness_shaped (enc := enc) (C := Tryd.checked) (os := os) (X := fun w _ => laidMetH Tryd.prog Rows.chunkEncodesRow.laid w) false (World.laidAll Tryd.prog os Rows.chunkEncodesRow.laid) #[.slice none 0 0, .slice none 0 0] 8 (World.laidAll_os _ _ _)
      (World.shaped_of_ZipB (by kernel_rfl) (by kernel_rfl)) (by kernel_rfl) (by kernel_rfl) (by kernel_rfl)
      (by rw [MakeChecks.laidMetH_plain _ _ _ (by kernel_rfl)]; exact laidMet_laidAll _ (by kernel_rfl) (by kernel_rfl))) ?_
  intro W base args ds gs before hval0 hW hcnd hsz0 hL _
  have hsz : (DataW.weightsEach Tryd.prog (Tryd.f4.params.toList ++ Rows.chunkEncodesSpec.plain.varTypes Tryd.prog) (ds ++ gs)).all (· ≤ reachBytes) = true := hsz0
  have hval : ∀ (j : Nat) t v, Tryd.f4.params[j]? = some t → args[j]? = some v → Value.okWide Tryd.prog W .any base t v := hval0
  have hW' := hW
  obtain ⟨p, q, hA0, hV, rfl, hfz, hnd⟩ := hW
  have hA : DataW.TrodAll enc Tryd.prog W 0 (fun _ => true) true Tryd.f4.params.toList args.toList ds p := hA0
  rw [Tryd.params4] at hA hval hsz
  obtain ⟨v0, vs0, d0, ds0, p0, q0, hargs, rfl, rfl, h0, r0⟩ := trodAll_cons hA
  obtain ⟨v1, vs1, d1, ds1, p1, q1, rfl, rfl, rfl, h1, r1⟩ := trodAll_cons r0
  obtain ⟨rfl, rfl, rfl⟩ := trodAll_nil r1
  obtain rfl : args = #[v0, v1] := by cases args; simp_all
  obtain ⟨rfl, rfl⟩ := trodVars_none hV
  have k0 := h0
  have lt0 : ∀ x ∈ p0, x.block < W.heap.size := by obtain ⟨m, hm⟩ := k0; exact DataW.trod_lt m _ _ _ hm
  obtain ⟨pl0, o0, ol0⟩ := open_rows14 (hval 0 35 v0 rfl rfl) k0 (fun n hn => by simpa using List.all_eq_true.1 hsz n (DataW.weights_mem_each (j := 0) (t := 35) rfl rfl n hn))
  have k1 := h1
  have lt1 : ∀ x ∈ p1, x.block < W.heap.size := by obtain ⟨m, hm⟩ := k1; exact DataW.trod_lt m _ _ _ hm
  obtain ⟨bl1, o1⟩ := open_bs14 (hval 1 22 v1 rfl rfl) k1 (fun n hn => by simpa using List.all_eq_true.1 hsz n (DataW.weights_mem_each (j := 1) (t := 22) rfl rfl n hn))
  clear hA0 hval0 hsz0 hsz
  refine (walk W hL v0 pl0 o0 ol0 v1 bl1 o1).mono fun e W' ⟨he, bel⟩ => ?_
  subst he
  exact ⟨_, rfl, _, _, _, [], _, [], hW', trodAll_mk1 (shut_bool Tryd.underlying4 _), (trodAll_cons_mk (Below.trod laidOut (by kernel_rfl) (of_decide_eq_true (by kernel_rfl)) k0 bel lt0) (trodAll_cons_mk (Below.trod laidOut (by kernel_rfl) (of_decide_eq_true (by kernel_rfl)) k1 bel lt1) trodAll_mk0)), rfl, bel.frame _, fun h => by cases h⟩

theorem over : Rows.chunkEncodesRow.holds Tryd.pinned (OpenSpec.ofChange Rows.chunkEncodesSpec) :=
  OpenClaim.holds_of_wide 4 Tryd.f4 rfl rfl rfl rfl rfl rfl rfl ⟨rfl, rfl, rfl, rfl, rfl⟩ rfl rfl rfl rfl rfl (by kernel_rfl) Tryd.func4 (by kernel_rfl)
    (of_decide_eq_true (by kernel_rfl)) (by unfold Func.isWrapper; first | (rw [if_pos (by decide +kernel)]; kernel_rfl) | (rw [if_neg (by decide +kernel)]; exact ⟨rfl, rfl⟩))
    (fun os started H enc _ => lifted os started H enc)

theorem said : Rows.ChunkEncodesSaid := over
theorem plain (f : FuncId) (fn : Func) (hf : Tryd.pinned.checked.prog.funcNamed "usher/usherlaw14.ChunkEncodes" = some f) (hfn : Tryd.pinned.checked.prog.funcs[f]? = some fn) :
    false = Tryd.pinned.checked.prog.looks [] ∧ ∀ (j : Nat) t, fn.params[j]? = some t → Tryd.pinned.checked.prog.wantsStandIn t = false := by
  obtain rfl : f = 4 := Option.some.inj ((show Tryd.prog.funcNamed "usher/usherlaw14.ChunkEncodes" = some 4 by kernel_rfl).symm.trans hf) |>.symm
  obtain rfl : fn = Tryd.f4 := (Option.some.inj (Tryd.func4.symm.trans hfn)).symm
  refine ⟨by kernel_rfl, fun j t ht => ?_⟩
  rw [Tryd.params4] at ht
  have hm : t ∈ [35, 22] := by simpa using Array.mem_of_getElem? ht
  simp only [List.mem_cons, List.mem_nil_iff, or_false] at hm
  rcases hm with rfl | rfl
  · exact (show Tryd.prog.wantsStandIn 35 = false by kernel_rfl)
  · exact (show Tryd.prog.wantsStandIn 22 = false by kernel_rfl)
theorem proved : Rows.ChunkEncodesCardSaid :=
  Claim7.holds_tied_plain_at .later [] _ _ _ _ said (fun _ h => by cases h) (by kernel_rfl) (fun _ h => by cases h) chunkEncodes_row_tie rfl ⟨rfl, rfl⟩ (by kernel_rfl) rfl plain (by kernel_rfl)
end Go.Proofs.YtdalomhcglbhjaaDoor.chunkEncodes
