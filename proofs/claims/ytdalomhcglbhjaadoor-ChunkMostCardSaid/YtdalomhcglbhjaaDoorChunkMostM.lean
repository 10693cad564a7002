/- For every size of a body and of its parts, a body up to the document's limit is taken whole, and a longer one is refused by 413: the law returns true. Condition: the library's tables are laid as its initialisers lay them. -/
import Derived.Test.YtdalomhcglbhjaaDoorCards
import Derived.Test.YtdalomhcglbhjaaDoorTie
import Derived.Lay
import Derived.LaidOnce
import Derived.MakeChecks
import Derived.SevenTiedAt
import Derived.WalkKit
import Derived.ProofKit
import Derived.OpenShut
import Derived.ShutString
import Derived.ChangeOld
import Derived.Below
import Derived.SizedLaws
import Derived.Test.YtdalomhcglbhjaaDoorMQD
import Derived.Carry
import Derived.Test.YtdalomhcglbhjaaDoorMQC
import Derived.Deep.CutBlock
namespace Go.Proofs.YtdalomhcglbhjaaDoor.chunkMost
open Go.ChangeShapes Go.WideShapes Go.ChangeAt Go.RowKit
open Go.ChangeMaps (open_string shut_string)
set_option linter.unusedVariables false
theorem most_yes {ps : List (List UInt8)} (h : ∀ p ∈ ps, p.length ≤ 4095) (hb : ps.flatten.length ≤ 2048) : ∃ r1 n1, feedP newC (encC ps) = (r1, n1) ∧ r1.whole = true ∧ r1.status = 0 ∧ r1.body.length = ps.flatten.length := by
  have := enc_feed ps [] h hb
  rw [List.append_nil] at this
  exact ⟨_, _, this, rfl, rfl, rfl⟩
theorem most_no {ps : List (List UInt8)} (h : ∀ p ∈ ps, p.length ≤ 4095) (hb : 2048 < ps.flatten.length) : ∃ r1 n1, feedP newC (encC ps) = (r1, n1) ∧ r1.whole = false ∧ r1.status = 413 := by
  have := enc_much ps [] endC h (by decide) (by simpa using hb)
  exact ⟨_, _, rfl, this.2, this.1⟩
set_option maxRecDepth 10000 in
set_option maxHeartbeats 4000000 in
theorem walk (w : World) (hL : laidMetH Tryd.prog Rows.chunkMostRow.laid w) (n : Int) (hn : (Lit.int .i64 n).wf = true) (z : Int) (hz : (Lit.int .i64 z).wf = true) :
    Calls Tryd.prog 5 #[.int .i64 n, .int .i64 z] w fun e w' => e = .returned (.bool true) ∧ Below w.heap.size w w' := by
  rw [MakeChecks.laidMetH_plain _ _ _ (by kernel_rfl)] at hL
  have HT := Lib.hid (tz_of14 hL rfl)
  clear hL hn hz
  by_cases hbad : n < 0 ∨ 2200 < n ∨ z < 1 ∨ 300 < z
  · rcases (by omega : n < 0 ∨ (¬ n < 0 ∧ 2200 < n) ∨ (¬ n < 0 ∧ ¬ 2200 < n ∧ z < 1) ∨ (¬ n < 0 ∧ ¬ 2200 < n ∧ ¬ z < 1 ∧ 300 < z)) with h1 | ⟨h1, h2⟩ | ⟨h1, h2, h3⟩ | ⟨h1, h2, h3, h4⟩
    all_goals
      clear hbad
      go_enter Tryd.func5, Tryd.ntmps5
      go_wp2_with (go_at_call 13; refine (known_14 _ HT.out).mono ?_; rintro q w' ⟨rfl, hm⟩; have M1 := Lib.hid hm; clear hm)
      go_ret
      exact ⟨rfl, M1.out.below⟩
  obtain ⟨N, rfl⟩ : ∃ N : Nat, n = (N : Int) := ⟨n.toNat, by omega⟩
  obtain ⟨Z, rfl⟩ : ∃ Z : Nat, z = (Z : Int) := ⟨z.toNat, by omega⟩
  have g1 : ¬ (N : Int) < 0 := by omega
  have g2 : ¬ (2200 : Int) < (N : Int) := by omega
  have g3 : ¬ (Z : Int) < 1 := by omega
  have g4 : ¬ (300 : Int) < (Z : Int) := by omega
  have hN : N ≤ 2200 := by omega
  have hZ : Z ≤ 300 := by omega
  have hZ1 : 1 ≤ Z := by omega
  clear hbad
  go_enter Tryd.func5, Tryd.ntmps5
  go_wp2
  clear g1 g2 g3 g4
  go_loopw [5, 6] (fun v x wr => ∃ (ps : List (List UInt8)) (y : Int), x = .int .i64 y ∧ Hid (PG w ps v wr) ∧ Hid ((ps.flatten.length : Int) + max y 0 = (N : Int) ∧ ps.length ≤ ps.flatten.length ∧ ∀ p ∈ ps, p.length ≤ 300) ∧ -300 ≤ y ∧ y ≤ 2200) (fun _ x _ => (intOf x).toNat)
  case atStart => exact ⟨[], N, rfl, Lib.hid (PG.nil w), Lib.hid ⟨by simp, by simp, fun p hp => by cases hp⟩, by omega, by omega⟩
  case round =>
    obtain ⟨ps, y, rfl, HG, HS, hy1, hy2⟩ := hrel
    have hfl : ps.flatten.length ≤ 2200 ∧ ps.length ≤ 2200 := by have := HS.out.1; have := HS.out.2.1; omega
    by_cases hpos : 0 < y
    · obtain ⟨m, hmm⟩ : ∃ m : Nat, min y (Z : Int) = (m : Int) := ⟨(min y (Z : Int)).toNat, by omega⟩
      have hm1 : m ≤ 300 ∧ 1 ≤ m := by omega
      have hmk := make_m m (by omega) wr
      have m1 : Mods [] wr (wr.alloc (.cells (madeCells #[.int .u8 0] m) 5)) := (Mods.refl [] wr).alloc _
      have hrow := made_row m (by omega) wr
      obtain ⟨W, hW⟩ : ∃ W, W = wr.alloc (.cells (madeCells #[.int .u8 0] m) 5) := ⟨_, rfl⟩
      rw [← hW] at hmk m1 hrow
      obtain ⟨g, n', c', w', hrun, hg⟩ := PG.app (HG.out.mods m1) (by omega) (A := some ⟨wr.heap.size, 0, none⟩) (c := m) (p := List.replicate m 0) (by rw [List.length_replicate]; exact hrow)
      rw [List.length_replicate] at hrun
      have HG2 := Lib.hid hg
      have HS2 := Lib.hid (show (((ps ++ [List.replicate m (0 : UInt8)]).flatten.length : Nat) : Int) + max (y - Z) 0 = (N : Int) ∧ (ps ++ [List.replicate m (0 : UInt8)]).length ≤ (ps ++ [List.replicate m (0 : UInt8)]).flatten.length ∧ ∀ p ∈ ps ++ [List.replicate m (0 : UInt8)], p.length ≤ 300 by
        have h1 := HS.out.1
        have h2 := HS.out.2.1
        rw [List.flatten_append, List.flatten_cons, List.flatten_nil, List.append_nil, List.length_append, List.length_append, List.length_replicate]
        refine ⟨by omega, by simp only [List.length_cons, List.length_nil]; omega, fun p hp => ?_⟩
        rcases List.mem_append.1 hp with hp | hp
        · exact HS.out.2.2 p hp
        · rw [List.mem_singleton] at hp; subst hp; rw [List.length_replicate]; omega)
      clear hg hrow m1 hW HG HS
      go_wp2_with (at_builtin; refine wpList_run_app2 rfl (.tmp 32) (.tmp 37) 35 35 rfl rfl rfl hrun ?_)
      go_roundw
      case rel => exact ⟨_, _, by go_num, HG2, HS2, by omega, by omega⟩
      case measure => simp [intOf]; omega
    · have hsum : ps.flatten.length = N := by have := HS.out.1; omega
      have hall : ∀ p ∈ ps, p.length ≤ 4095 := fun p hp => by have := HS.out.2.2 p hp; omega
      have hel : (encC ps).length ≤ 1000000 := by
        have := flat_chunk ps (by omega)
        unfold encC endC
        rw [List.length_append]; simp only [List.length_cons, List.length_nil]; omega
      have HEL := Lib.hid hel
      have HN := Lib.hid (new_c wr)
      have HFL := Lib.hid (show ps.length ≤ 100000 ∧ ps.flatten.length ≤ 1000000 by omega)
      unfold ptr at HN
      by_cases hbig : 2048 < N
      · obtain ⟨r1, n1, hr1, hw1, hs1⟩ := most_no hall (by omega)
        have HR := Lib.hid hr1
        have HK := Lib.hid (And.intro hw1 hs1)
        have g5 : (2048 : Int) < (N : Int) := by omega
        clear hr1 hw1 hs1 hsum hall hel hfl hbig
        go_wp2_with (first
          | (go_at_call 7; refine HN.out.mono ?_; rintro q w1 ⟨g, F, rfl, hk⟩; have HA := Lib.hid hk.out; have MW := Lib.hid (HG.out.low.trans HA.out.2.1 (fun _ h => nomatch h)); have HEN := Lib.hid (encode_c _ ps w1 (HG.out.at.low HA.out.2.1) (HT.out.low MW.out) HFL.out.1 HFL.out.2); clear hk)
          | (go_at_call 14; refine HEN.out.mono ?_; rintro q w2 ⟨u, rfl, hk⟩; obtain ⟨ua, uc, rfl⟩ := hk.out.form; have HGB := Lib.hid hk.out; have HFD := Lib.hid (feed_c _ (encC ps) hk.out.at (fun _ k hkk hF => by have h1 := hk.out.news k hkk; have h2 := HA.out.1.lt k hF; omega) (HA.out.1.low hk.out.mods) HEL.out); rw [HR.out] at HFD; simp only at HFD; rw [HK.out.1, HK.out.2] at HFD; unfold ptr at HFD; clear hk)
          | (go_at_call 8; refine HFD.out.mono ?_; rintro q w3 ⟨rfl, hk⟩; obtain ⟨F3, a3, hg3⟩ := hk.out; have M3 := Lib.hid (show Mods [] w w3 from (MW.out.trans HGB.out.mods (fun _ h => nomatch h)).trans hg3.mods (fun k hk => .inr (Nat.le_trans HG.out.low.size (HA.out.2.2 k hk)))); clear hk a3 hg3)
          | (go_at_call 13; refine (known_14 _ (HT.out.low M3.out)).mono ?_; rintro q w4 ⟨rfl, hm⟩; have M4 := Lib.hid (M3.out.trans hm (fun _ h => nomatch h)); clear hm))
        go_ret
        exact ⟨rfl, M4.out.below⟩
      · obtain ⟨r1, n1, hr1, hw1, hs1, hb1⟩ := most_yes hall (by omega)
        rw [hsum] at hb1
        have HR := Lib.hid hr1
        have HK := Lib.hid (And.intro hw1 (And.intro hs1 hb1))
        have g5 : ¬ (2048 : Int) < (N : Int) := by omega
        clear hr1 hw1 hs1 hb1 hsum hall hel hfl hbig
        go_wp2_with (first
          | (go_at_call 7; refine HN.out.mono ?_; rintro q w1 ⟨g, F, rfl, hk⟩; have HA := Lib.hid hk.out; have MW := Lib.hid (HG.out.low.trans HA.out.2.1 (fun _ h => nomatch h)); have HEN := Lib.hid (encode_c _ ps w1 (HG.out.at.low HA.out.2.1) (HT.out.low MW.out) HFL.out.1 HFL.out.2); clear hk)
          | (go_at_call 14; refine HEN.out.mono ?_; rintro q w2 ⟨u, rfl, hk⟩; obtain ⟨ua, uc, rfl⟩ := hk.out.form; have HGB := Lib.hid hk.out; have HFD := Lib.hid (feed_c _ (encC ps) hk.out.at (fun _ k hkk hF => by have h1 := hk.out.news k hkk; have h2 := HA.out.1.lt k hF; omega) (HA.out.1.low hk.out.mods) HEL.out); rw [HR.out] at HFD; simp only at HFD; rw [HK.out.1, HK.out.2.1] at HFD; unfold ptr at HFD; clear hk)
          | (go_at_call 8; refine HFD.out.mono ?_; rintro q w3 ⟨rfl, hk⟩; obtain ⟨F3, a3, hg3⟩ := hk.out; have M3 := Lib.hid (show Mods [] w w3 from (MW.out.trans HGB.out.mods (fun _ h => nomatch h)).trans hg3.mods (fun k hk => .inr (Nat.le_trans HG.out.low.size (HA.out.2.2 k hk)))); have hbd := body_c a3; unfold ptr at hbd; have HBD := Lib.hid hbd; clear hk a3 hg3 hbd)
          | (go_at_call 10; refine HBD.out.mono ?_; rintro q w5 ⟨u5, rfl, hk⟩; have M5 := Lib.hid (M3.out.trans hk.out.mods (fun _ h => nomatch h)); obtain ⟨xa, xc, rfl⟩ := hk.out.form; rw [HK.out.2.2]; clear hk)
          | (go_at_call 13; refine (known_14 _ (HT.out.low M5.out)).mono ?_; rintro q w4 ⟨rfl, hm⟩; have M4 := Lib.hid (M5.out.trans hm (fun _ h => nomatch h)); clear hm))
        go_ret
        exact ⟨rfl, M4.out.below⟩


theorem own : ownKnob Tryd.prog.godebug = none := by kernel_rfl
theorem laidOut : laidOutB Tryd.prog = true := by kernel_rfl
set_option maxRecDepth 100000 in
theorem lifted (os : Os) (started : os.Started) (H : Type) (enc : TypeId × Value → H) :
    ReturnsInHanded {} Tryd.checked os 5 .any (fun w args => (Rows.chunkMostSpec.pre enc Tryd.prog Tryd.f5 [] false w args ∧ laidMetH Tryd.prog Rows.chunkMostRow.laid w) ∧ sizedMet enc Tryd.prog Tryd.f5 (OpenSpec.ofChange Rows.chunkMostSpec) false w args)
      (Rows.chunkMostSpec.post enc Tryd.prog Tryd.f5 false true false false) := by
  refine returnsInHanded_of_change_and (C := Tryd.checked) (X := fun w _ => laidMetH Tryd.prog Rows.chunkMostRow.laid w) (fun _ _ _ hh h => h.of_heap hh) own started (by kernel_rfl) Tryd.func5
    (ChangeSpec.witness_shaped (enc := enc) (C := Tryd.checked) (os := os) (X := fun w _ => laidMetH Tryd.prog Rows.chunkMostRow.laid w) false (World.laidAll Tryd.prog os Rows.chunkMostRow.laid) #[.int .i64 0, .int .i64 0] 8 (World.laidAll_os _ _ _)
      (World.shaped_of_ZipB (by kernel_rfl) (by kernel_rfl)) (by kernel_rfl) (by kernel_rfl) (by kernel_rfl)
      (by rw [MakeChecks.laidMetH_plain _ _ _ (by kernel_rfl)]; exact laidMet_laidAll _ (by kernel_rfl) (by kernel_rfl))) ?_
  intro W base args ds gs before hval0 hW hcnd hsz0 hL _
  have hsz : (DataW.weightsEach Tryd.prog (Tryd.f5.params.toList ++ Rows.chunkMostSpec.plain.varTypes Tryd.prog) (ds ++ gs)).all (· ≤ reachBytes) = true := hsz0
  have hval : ∀ (j : Nat) t v, Tryd.f5.params[j]? = some t → args[j]? = some v → Value.okWide Tryd.prog W .any base t v := hval0
  have hW' := hW
  obtain ⟨p, q, hA0, hV, rfl, hfz, hnd⟩ := hW
  have hA : DataW.TrodAll enc Tryd.prog W 0 (fun _ => true) true Tryd.f5.params.toList args.toList ds p := hA0
  rw [Tryd.params5] at hA hval hsz
  obtain ⟨v0, vs0, d0, ds0, p0, q0, hargs, rfl, rfl, h0, r0⟩ := trodAll_cons hA
  obtain ⟨v1, vs1, d1, ds1, p1, q1, rfl, rfl, rfl, h1, r1⟩ := trodAll_cons r0
  obtain ⟨rfl, rfl, rfl⟩ := trodAll_nil r1
  obtain rfl : args = #[v0, v1] := by cases args; simp_all
  obtain ⟨rfl, rfl⟩ := trodVars_none hV
  obtain ⟨a0, rfl, rfl, rfl, w0⟩ := open_int Tryd.underlying3 (hval 0 3 v0 rfl rfl) h0
  obtain ⟨a1, rfl, rfl, rfl, w1⟩ := open_int Tryd.underlying3 (hval 1 3 v1 rfl rfl) h1
  clear hA0 hval0 hsz0 hsz
  refine (walk W hL a0 w0 a1 w1).mono fun e W' ⟨he, bel⟩ => ?_
  subst he
  exact ⟨_, rfl, _, _, _, [], _, [], hW', trodAll_mk1 (shut_bool Tryd.underlying4 _), (trodAll_cons_mk (shut_int Tryd.underlying3 w0) (trodAll_cons_mk (shut_int Tryd.underlying3 w1) trodAll_mk0)), rfl, bel.frame _, fun h => by cases h⟩

theorem over : Rows.chunkMostRow.holds Tryd.pinned (OpenSpec.ofChange Rows.chunkMostSpec) :=
  OpenClaim.holds_of_wide 5 Tryd.f5 rfl rfl rfl rfl rfl rfl rfl ⟨rfl, rfl, rfl, rfl, rfl⟩ rfl rfl rfl rfl rfl (by kernel_rfl) Tryd.func5 (by kernel_rfl)
    (of_decide_eq_true (by kernel_rfl)) (by unfold Func.isWrapper; first | (rw [if_pos (by decide +kernel)]; kernel_rfl) | (rw [if_neg (by decide +kernel)]; exact ⟨rfl, rfl⟩))
    (fun os started H enc _ => lifted os started H enc)

theorem said : Rows.ChunkMostSaid := over
theorem plain (f : FuncId) (fn : Func) (hf : Tryd.pinned.checked.prog.funcNamed "usher/usherlaw14.ChunkMost" = some f) (hfn : Tryd.pinned.checked.prog.funcs[f]? = some fn) :
    false = Tryd.pinned.checked.prog.looks [] ∧ ∀ (j : Nat) t, fn.params[j]? = some t → Tryd.pinned.checked.prog.wantsStandIn t = false := by
  obtain rfl : f = 5 := Option.some.inj ((show Tryd.prog.funcNamed "usher/usherlaw14.ChunkMost" = some 5 by kernel_rfl).symm.trans hf) |>.symm
  obtain rfl : fn = Tryd.f5 := (Option.some.inj (Tryd.func5.symm.trans hfn)).symm
  refine ⟨by kernel_rfl, fun j t ht => ?_⟩
  rw [Tryd.params5] at ht
  have hm : t ∈ [3] := by simpa using Array.mem_of_getElem? ht
  simp only [List.mem_cons, List.mem_nil_iff, or_false] at hm
  rcases hm with rfl
  · exact (show Tryd.prog.wantsStandIn 3 = false by kernel_rfl)
theorem proved : Rows.ChunkMostCardSaid :=
  Claim7.holds_tied_plain_at .later [] _ _ _ _ said (fun _ h => by cases h) (by kernel_rfl) (fun _ h => by cases h) chunkMost_row_tie rfl ⟨rfl, rfl⟩ (by kernel_rfl) rfl plain (by kernel_rfl)
end Go.Proofs.YtdalomhcglbhjaaDoor.chunkMost
