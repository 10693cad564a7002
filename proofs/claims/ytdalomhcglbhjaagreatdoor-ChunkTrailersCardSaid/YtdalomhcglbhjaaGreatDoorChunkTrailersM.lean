/- For every body and every list of fields, up to eight fields behind the last chunk are told, and the ninth is refused by 431: the law returns true. Condition: the library's tables are laid as its initialisers lay them. -/
import Derived.Test.YtdalomhcglbhjaaGreatDoorCards
import Derived.Test.YtdalomhcglbhjaaGreatDoorTie
import Derived.Lay
import Derived.LaidOnce
import Derived.MakeChecks
import Derived.SevenTiedAt
import Derived.WalkKit
import Derived.ProofKit
import Derived.OpenShut
import Derived.ShutString
import Derived.ChangeOld
import Derived.Below
import Derived.SizedLaws
import Derived.Test.YtdalomhcglbhjaaGreatDoorMQD
import Derived.Test.YtdalomhcglbhjaaGreatDoorMQC
import Derived.Test.YtdalomhcglbhjaaGreatDoorMQA
import Derived.Carry
import Derived.Deep.CutBlock
import Derived.Deep.RegionHeld3
import Derived.BigQuiet
namespace Go.Proofs.YtdalomhcglbhjaaGreatDoor.chunkTrailers
open Go.ChangeShapes Go.WideShapes Go.ChangeAt Go.RowKit
open Go.ChangeMaps (open_string shut_string)
set_option linter.unusedVariables false
theorem GB.cut {w0 w : World} {l : List UInt8} {A : Option Addr} {n c : Nat} (h : GB w0 l (.slice A n c) w) (k : Nat) (hk : k ≤ l.length) : GB w0 (l.take k) (.slice A k c) w := by
  obtain ⟨h1, h2⟩ := h.row
  refine ⟨⟨by simp [bys], ?_⟩, h.low⟩
  rcases h2 with ⟨hv, h0⟩ | ⟨g, cap, cur, hv, hb, hg, hn, hm, hc, ht⟩
  · injection hv with e1 e2 e3
    subst e1 e2 e3
    obtain rfl : k = 0 := by omega
    exact .inl ⟨rfl, by simp⟩
  · injection hv with e1 e2 e3
    subst e1 e2 e3
    refine .inr ⟨g, c, cur, ?_, hb, hg, by rw [List.length_take]; omega, hm, hc, ?_⟩
    · rw [List.length_take, Nat.min_eq_left hk]
    · have e4 : bys (l.take k) = (bys l).take k := by unfold bys; rw [List.map_take]
      rw [e4, ← ht, List.take_take, List.length_take]
      congr 1
      omega
theorem tr_few (bd : List UInt8) (l : List FV) (hb : bd.length ≤ 1000) (h : ∀ p ∈ l, okF p = true ∧ p.1.size + p.2.size ≤ 100) (he : (fldsC l).length ≤ 512) (h8 : l.length ≤ 8) :
    ∃ r, feedP newC (chunkC bd ++ [48, 13, 10] ++ fldsC l ++ [13, 10]) = (r, (chunkC bd ++ ([48, 13, 10] : List UInt8) ++ fldsC l ++ ([13, 10] : List UInt8)).length) ∧ r.whole = true ∧ r.status = 0 ∧ r.trail = l ∧ r.body = bd :=
  ⟨_, trails_law bd l hb h he h8, rfl, rfl, rfl, rfl⟩
theorem tr_many (bd : List UInt8) (l : List FV) (hb : bd.length ≤ 1000) (h : ∀ p ∈ l, okF p = true ∧ p.1.size + p.2.size ≤ 100) (he : (fldsC l).length ≤ 512) (h8 : 8 < l.length) :
    ∃ r nn, feedP newC (chunkC bd ++ [48, 13, 10] ++ fldsC l ++ [13, 10]) = (r, nn) ∧ r.whole = false ∧ r.status = 431 ∧ r.trail = l.take 8 := by
  have hl : l.take 8 ++ l[8] :: l.drop 9 = l := by rw [← List.drop_eq_getElem_cons h8, List.take_append_drop]
  have hf : fldsC l = fldsC (l.take 8) ++ fldC l[8] ++ fldsC (l.drop 9) := by
    have e : fldsC (l.take 8 ++ l[8] :: l.drop 9) = fldsC (l.take 8) ++ fldC l[8] ++ fldsC (l.drop 9) := by
      unfold fldsC; rw [List.flatMap_append, List.flatMap_cons, List.append_assoc]
    rw [hl] at e
    exact e
  have hlen := congrArg List.length hf
  rw [List.length_append, List.length_append] at hlen
  have hm := trails_many bd (l.take 8) [] l[8] (fldsC (l.drop 9) ++ [13, 10]) hb (fun q hq => h q (List.mem_of_mem_take hq)) (h _ (List.getElem_mem h8)) (by omega) (by rw [List.length_take]; omega)
  have e : chunkC bd ++ ([48, 13, 10] : List UInt8) ++ fldsC l ++ ([13, 10] : List UInt8) = chunkC bd ++ ([48, 13, 10] : List UInt8) ++ fldsC (l.take 8) ++ fldC l[8] ++ (fldsC (l.drop 9) ++ ([13, 10] : List UInt8)) := by
    rw [hf]; simp only [List.append_assoc]
  refine ⟨_, _, rfl, ?_⟩
  rw [e, hm]
  exact ⟨rfl, rfl, rfl⟩
set_option maxRecDepth 100000 in
set_option maxHeartbeats 8000000 in
theorem walk (w : World) (hL : laidMetH Tryz.prog Rows.chunkTrailersRow.laid w) (v : Value) (bd : List UInt8) (hb : BsAt w v bd) (r : FRow) (hr : r.Ok w) :
    Calls Tryz.prog 4 #[v, r.v] w fun e w' => e = .returned (.bool true) ∧ Below w.heap.size w w' := by
  rw [MakeChecks.laidMetH_plain _ _ _ (by kernel_rfl)] at hL
  have HT := Lib.hid (tz_of14 hL rfl)
  have HB := Lib.hid hb
  obtain ⟨BA, BC, rfl⟩ := hb.len
  obtain ⟨A, C, l⟩ := r
  have hfs := hr.fs
  have hcap := hr.cap
  have hbig := hr.big
  simp only [FRow.v] at hfs hcap hbig ⊢
  clear hL hb
  by_cases hbd : 1000 < bd.length
  · have g1 : (1000 : Int) < (bd.length : Int) := by omega
    clear hbd hfs hcap hbig hr
    go_enter Tryz.func4, Tryz.ntmps4
    go_wp2
    go_ret
    exact ⟨rfl, Below.refl _ _⟩
  have g1 : ¬ (1000 : Int) < (bd.length : Int) := by omega
  by_cases h12 : 12 < l.length
  · have g2 : (12 : Int) < (l.length : Int) := by omega
    clear h12 hfs hcap hbig hr
    go_enter Tryz.func4, Tryz.ntmps4
    go_wp2
    go_ret
    exact ⟨rfl, Below.refl _ _⟩
  have g2 : ¬ (12 : Int) < (l.length : Int) := by omega
  have HFS := Lib.hid hfs
  have HCE := Lib.hid (fun k (hk : k < l.length) => show ∃ (p : FV) (b off : Nat), l.take (k + 1) = l.take k ++ [p] ∧ A = some ⟨b, off, none⟩ ∧ b < w.heap.size ∧ w.cell? ⟨b, off + k * 2, none⟩ = some (.string p.1) ∧ w.cell? ⟨b, off + k * 2 + 1, none⟩ = some (.string p.2) ∧ p.1.size ≤ 140737488351232 ∧ p.2.size ≤ 140737488351232 from by
    rcases hfs with ⟨h1, _⟩ | ⟨b, off, c, hv, -, hb, hc⟩
    · subst h1; cases hk
    · injection hv with e1 e2 e3
      exact ⟨l[k], b, off, List.take_succ_eq_append_getElem hk, e1, hb, (hc k hk).1, (hc k hk).2, hbig _ (List.getElem_mem hk)⟩)
  obtain ⟨n, hn⟩ : ∃ n, n = l.length := ⟨_, rfl⟩
  have HN := Lib.hid hn
  have hn12 : n ≤ 12 := by omega
  rw [← hn] at g2 hcap HCE HFS
  rw [← hn]
  obtain ⟨base, hba⟩ : ∃ base, base = chunkC bd ++ [48, 13, 10] := ⟨_, rfl⟩
  obtain ⟨eb, heb⟩ : ∃ eb, eb = encC [bd] := ⟨_, rfl⟩
  have heb2 : eb = base ++ [13, 10] := by rw [heb, hba]; unfold encC endC; simp
  obtain ⟨nb, hnb⟩ : ∃ nb, nb = base.length := ⟨_, rfl⟩
  have hnb3 : 3 ≤ nb := by rw [hnb, hba, List.length_append]; simp
  have hnb4 : nb ≤ 1023 := by
    have := chunkC_le bd (by omega)
    rw [hnb, hba, List.length_append]; simp only [List.length_cons, List.length_nil]; omega
  have HEL := Lib.hid (show eb.length = nb + 2 by rw [heb2, List.length_append, hnb]; rfl)
  have HTK := Lib.hid (show eb.take nb = base by rw [heb2, hnb, List.take_left])
  have HBA := Lib.hid (And.intro hba hnb)
  have HEN := Lib.hid (encode_c (.slice (some ⟨w.heap.size, 0, none⟩) 1 1) [bd] (w.alloc (.cells #[.slice BA bd.length BC] 22)) (PsAt.one HB.out _) (HT.out.low ((Mods.refl [] w).alloc _)) (by simp) (by simp; omega))
  rw [← heb] at HEN
  clear heb heb2 hba hnb
  have g3 : ¬ ((nb : Int) + 2 < 2) := by omega
  have g4 : IntKind.i64.wrap ((nb : Int) + 2 - 2) = (nb : Int) := by rw [IntKind.wrap_i64]; omega
  have HBD := Lib.hid (show bd.length ≤ 1000 by omega)
  clear hn h12 hbd hfs hbig hr
  go_enter Tryz.func4, Tryz.ntmps4
  go_upto_region 6 with (first
    | (go_at_call 15; refine HEN.out.mono ?_; rintro q w1 ⟨u1, rfl, hk⟩; obtain ⟨xa, xc, hu⟩ := hk.out.form; rw [HEL.out] at hu; subst hu; have HG1 := Lib.hid ((GB.cut hk.out nb (by rw [HEL.out]; omega)).since ((Mods.refl [] w).alloc _)); rw [HTK.out] at HG1; have HX1 := Lib.hid (show nb + 2 ≤ xc from by { rcases hk.out.at with ⟨e, _⟩ | ⟨_, _, _, hv, _, _, h1, _⟩; { exact absurd (congrArg List.length e) (by rw [HEL.out]; simp) }; { injection hv with _ _ e; rw [HEL.out] at h1; omega } }); clear hk))
  have hxc := HX1.out
  go_wp2
  go_loopw [5, 6, 7] (fun bv nv iv wr => ∃ (k N : Nat) (a : Option Addr) (M c : Nat), k ≤ n ∧ bv = .slice a M c ∧ nv = .int .i64 (N : Int) ∧ iv = .int .i64 (k : Int) ∧ N ≤ k * 104 ∧ M = nb + N ∧ Hid ((∀ p ∈ l.take k, okF p = true ∧ p.1.size + p.2.size ≤ 100) ∧ N = (fldsC (l.take k)).length ∧ GB w (base ++ fldsC (l.take k)) (.slice a M c) wr)) (fun _ _ iv _ => n - (intOf iv).toNat)
  case atStart => exact ⟨0, 0, xa, nb, xc, Nat.zero_le _, rfl, rfl, rfl, by simp, rfl, Lib.hid ⟨(fun p hp => nomatch hp), rfl, by simpa [fldsC] using HG1.out⟩⟩
  case round =>
    obtain ⟨k, N, a, M, c, hk, rfl, rfl, rfl, hNk, hM, hG⟩ := hrel
    have HAL := Lib.hid hG.out.1
    have HNN := Lib.hid hG.out.2.1
    have HG := Lib.hid hG.out.2.2
    have HM := Lib.hid hM
    clear hG hM
    by_cases hlt : k < n
    · obtain ⟨p, b, off, htk, rfl, hbW, hc0, hc1, hz0, hz1⟩ := HCE.out k hlt
      have HTK2 := Lib.hid htk
      clear htk
      obtain ⟨x, y⟩ := p
      simp only at hc0 hc1 hz0 hz1
      have c0 := cell_mods hc0 HG.out.mods (by simp)
      have c1 := cell_mods hc1 HG.out.mods (by simp)
      have hw1 : IntKind.i64.wrap ((x.size : Int) + (y.size : Int)) = (x.size : Int) + (y.size : Int) := by rw [IntKind.wrap_i64]; omega
      have HC0 := Lib.hid hc0
      have HC1 := Lib.hid hc1
      clear hc0 hc1
      go_upto_region 11 with fail
      by_cases h100 : 100 < x.size + y.size
      · have e1 : (100 : Int) < (x.size : Int) + (y.size : Int) := by omega
        clear h100
        go_quiet (fail)
        go_wp2_with (go_at_call 14; refine (known_14 _ (HT.out.low (by first | exact HG.out.mods | exact HG.out.mods.drewN _))).mono ?_; rintro q w8 ⟨rfl, hm⟩; have M8 := Lib.hid (show Mods [] w w8 from by first | exact HG.out.mods.trans hm (fun _ h => nomatch h) | exact (HG.out.mods.drewN _).trans hm (fun _ h => nomatch h)); clear hm)
        go_ret
        exact ⟨rfl, M8.out.below⟩
      have e1 : decide ((100 : Int) < (x.size : Int) + (y.size : Int)) = false := by simp; omega
      cases hok : okF (x, y) with
      | false =>
        have HOK := Lib.hid hok
        clear hok
        go_region_held3 (fun w' => w'.cell? ⟨b, off + k * 2, none⟩ = some (.string x) ∧ w'.cell? ⟨b, off + k * 2 + 1, none⟩ = some (.string y)) (go_keep) ((go_at_call 16; refine (isfR (x, y) HOK.out (by simp only; omega) (by simp only; omega) _).mono ?_; rintro e w5 ⟨rfl, hm⟩; have M5 := Lib.hid (show Mods [] wr w5 from by first | exact hm | exact (Mods.refl [] wr).drew.trans hm (fun _ h => nomatch h)); have d0 := cell_mods c0 M5.out (by simp); have d1 := cell_mods c1 M5.out (by simp); clear hm))
        go_wp2_with (go_at_call 14; refine (known_14 _ (HT.out.low (HG.out.mods.trans M5.out (fun _ h => nomatch h)))).mono ?_; rintro q w8 ⟨rfl, hm⟩; have M8 := Lib.hid ((HG.out.mods.trans M5.out (fun _ h => nomatch h)).trans hm (fun _ h => nomatch h)); clear hm)
        go_ret
        exact ⟨rfl, M8.out.below⟩
      | true =>
        have HOK := Lib.hid hok
        clear hok
        go_region_held3 (fun w' => w'.cell? ⟨b, off + k * 2, none⟩ = some (.string x) ∧ w'.cell? ⟨b, off + k * 2 + 1, none⟩ = some (.string y)) (go_keep) ((go_at_call 16; refine (isfR (x, y) HOK.out (by simp only; omega) (by simp only; omega) _).mono ?_; rintro e w5 ⟨rfl, hm⟩; have M5 := Lib.hid (show Mods [] wr w5 from by first | exact hm | exact (Mods.refl [] wr).drew.trans hm (fun _ h => nomatch h)); have d0 := cell_mods c0 M5.out (by simp); have d1 := cell_mods c1 M5.out (by simp); clear hm))
        go_upto_region 13 with fail
        obtain ⟨d0, d1⟩ : w5.cell? ⟨b, off + k * 2, none⟩ = some (.string x) ∧ w5.cell? ⟨b, off + k * 2 + 1, none⟩ = some (.string y) := ⟨cell_mods c0 M5.out (by simp), cell_mods c1 M5.out (by simp)⟩
        have hcs : (x ++ (⟨#[58, 32]⟩ : ByteArray)).size = x.size + 2 := app_sizeL _ _
        have hcs2 : (x ++ (⟨#[58, 32]⟩ : ByteArray) ++ y).size = x.size + 2 + y.size := by rw [app_sizeL, hcs]
        have hcs3 : (x ++ (⟨#[58, 32]⟩ : ByteArray) ++ y ++ (⟨#[13, 10]⟩ : ByteArray)).size = x.size + 2 + y.size + 2 := by rw [app_sizeL, hcs2]; rfl
        go_quiet (fail)
        obtain ⟨s, hs⟩ : ∃ s : ByteArray, s = x ++ (⟨#[58, 32]⟩ : ByteArray) ++ y ++ (⟨#[13, 10]⟩ : ByteArray) := ⟨_, rfl⟩
        rw [← hs]
        rw [← hs] at hcs3
        have HS := Lib.hid (show s.data.toList = fldC (x, y) by rw [hs]; unfold fldC; rw [show lineK x y 1 = x ++ (⟨#[58, 32]⟩ : ByteArray) ++ y from rfl]; simp)
        clear hs hcs hcs2
        have hg5 := HG.out.on (M5.out.drewN nq)
        have hnk := Nat.mul_le_mul_right 104 hk
        have hml : (base ++ fldsC (l.take k)).length ≤ 10000 := by rw [List.length_append, ← HNN.out, ← HBA.out.2]; omega
        obtain ⟨a6, n6, c6, w6, hrun6, hg6⟩ := app_str hg5 s (by omega)
        have HG6 := Lib.hid hg6
        have hN6 : n6 = nb + (N + s.size) := by
          obtain ⟨ax, cx, hv⟩ := hg6.form
          injection hv with _ e _
          rw [e, List.length_append, List.length_append, ← HNN.out, ← HBA.out.2, len_data]; omega
        rw [hcs3] at hN6
        subst hN6
        clear hg5 hg6
        have HNN2 := Lib.hid (show N + (x.size + 2 + y.size + 2) = (fldsC (l.take (k + 1))).length by
          rw [HTK2.out]; unfold fldsC; rw [List.flatMap_append, List.length_append, List.flatMap_cons, List.flatMap_nil, List.append_nil, fldC_len, HNN.out]; unfold fldsC; simp only; omega)
        have HAL2 := Lib.hid (show ∀ p ∈ l.take (k + 1), okF p = true ∧ p.1.size + p.2.size ≤ 100 from fun q hq => by
          rw [HTK2.out] at hq
          rcases List.mem_append.1 hq with hq | hq
          · exact HAL.out q hq
          · rw [List.mem_singleton] at hq; subst hq; exact ⟨HOK.out, by simp only; omega⟩)
        have HG7 := Lib.hid (show GB w (base ++ fldsC (l.take (k + 1))) (.slice a6 (nb + (N + (x.size + 2 + y.size + 2))) c6) w6 from by
          have e9 : base ++ fldsC (l.take (k + 1)) = base ++ fldsC (l.take k) ++ s.data.toList := by
            rw [HTK2.out, HS.out]; unfold fldsC; rw [List.flatMap_append, List.flatMap_cons, List.flatMap_nil, List.append_nil, List.append_assoc]
          rw [e9]; exact HG6.out)
        clear HG6
        go_wp2_with (at_builtin; refine wpList_run_app2 rfl (.tmp 78) (.tmp 79) 22 9 rfl rfl rfl hrun6 ?_)
        go_roundw
        case rel => exact ⟨k + 1, N + (x.size + 2 + y.size + 2), a6, nb + (N + (x.size + 2 + y.size + 2)), c6, by omega, rfl, by go_num, by go_num, by omega, rfl, Lib.hid ⟨HAL2.out, HNN2.out, HG7.out⟩⟩
        case measure => simp [intOf]; omega
    · obtain rfl : k = n := by omega
      have hll : l.take k = l := by rw [HN.out, List.take_length]
      rw [hll] at HAL HNN HG
      clear hll
      by_cases h512 : 512 < N
      · have e1 : (512 : Int) < (N : Int) := by omega
        clear h512
        go_wp2_with (go_at_call 14; refine (known_14 _ (HT.out.low HG.out.mods)).mono ?_; rintro q w8 ⟨rfl, hm⟩; have M8 := Lib.hid (HG.out.mods.trans hm (fun _ h => nomatch h)); clear hm)
        go_ret
        exact ⟨rfl, M8.out.below⟩
      have e1 : ¬ (512 : Int) < (N : Int) := by omega
      have hml : (base ++ fldsC l).length = nb + N := by rw [List.length_append, ← HNN.out, ← HBA.out.2]
      obtain ⟨a6, n6, c6, w6, hrun6, hg6⟩ := app_str HG.out ⟨#[13, 10]⟩ (by rw [hml]; show nb + N + 2 ≤ _; omega)
      rw [show (⟨#[13, 10]⟩ : ByteArray).data.toList = [13, 10] from rfl] at hg6
      obtain ⟨T, hT⟩ : ∃ T, T = nb + N + 2 := ⟨_, rfl⟩
      have hTb : T ≤ 3000 := by omega
      have hn6 : n6 = T := by
        obtain ⟨ax, cx, hv⟩ := hg6.form
        injection hv with _ e _
        rw [e, List.length_append, hml, hT]; rfl
      subst hn6
      have HML := Lib.hid (show (base ++ fldsC l ++ [13, 10]).length = n6 by rw [List.length_append, hml, hT]; rfl)
      have HG6 := Lib.hid hg6
      have HNW := Lib.hid (new_c w6)
      unfold ptr at HNW
      clear hg6 hml h512 hT
      by_cases h8 : 8 < k
      · have e2 : (8 : Int) < (k : Int) := by omega
        obtain ⟨r1, n1, hr1, hw1, hs1, ht1⟩ := tr_many bd l HBD.out HAL.out (by rw [← HNN.out]; omega) (by rw [← HN.out]; omega)
        rw [← HBA.out.1] at hr1
        have HR := Lib.hid hr1
        have HK := Lib.hid (And.intro hw1 (And.intro hs1 (And.intro ht1 (show (l.take 8).length = 8 by rw [List.length_take, ← HN.out]; omega))))
        clear hr1 hw1 hs1 ht1 h8
        go_wp2_with (first
          | (at_builtin; refine wpList_run_app2 rfl (.tmp 84) (.const (.string ⟨#[13, 10]⟩)) 22 9 rfl rfl rfl hrun6 ?_)
          | (go_at_call 5; refine HNW.out.mono ?_; rintro q w7 ⟨g, F, rfl, hk⟩; have HA := Lib.hid hk.out; have hfd := feed_c _ (base ++ fldsC l ++ [13, 10]) (HG6.out.at.low hk.out.2.1) (fun _ k' hkk hF => by have h1 := HG6.out.own.lt k' hkk; have h2 := HA.out.2.2 k' hF; omega) hk.out.1 (by rw [HML.out]; omega); rw [HR.out] at hfd; simp only at hfd; rw [HK.out.1, HK.out.2.1] at hfd; unfold ptr at hfd; have HFD := Lib.hid hfd; clear hk hfd)
          | (go_at_call 7; refine HFD.out.mono ?_; rintro q w8 ⟨rfl, hk⟩; obtain ⟨F8, a8, hg8⟩ := hk.out; have M8 := Lib.hid (show Mods [] w w8 from (HG6.out.mods.trans HA.out.2.1 (fun _ h => nomatch h)).trans hg8.mods (fun k hk => .inr (by have h1 := HA.out.2.2 k hk; have h2 := HG6.out.mods.size; omega))); have htr := trailers_c a8 (by rw [HK.out.2.2.1]; exact fun p hp => (HAL.out p (List.mem_of_mem_take hp)).1); rw [HK.out.2.2.1, HK.out.2.2.2] at htr; unfold ptr at htr; have HTR := Lib.hid htr; clear hk a8 hg8 htr)
          | (go_at_call 12; refine HTR.out.mono ?_; rintro q w10 ⟨B, rfl, hk⟩; have M10 := Lib.hid (M8.out.trans hk.out.low (fun _ h => nomatch h)); clear hk)
          | (go_at_call 14; refine (known_14 _ (HT.out.low M10.out)).mono ?_; rintro q w11 ⟨rfl, hm⟩; have M11 := Lib.hid (M10.out.trans hm (fun _ h => nomatch h)); clear hm))
        go_ret
        exact ⟨rfl, M11.out.below⟩
      · have e2 : ¬ (8 : Int) < (k : Int) := by omega
        obtain ⟨r1, hr1, hw1, hs1, ht1, hb1⟩ := tr_few bd l HBD.out HAL.out (by rw [← HNN.out]; omega) (by rw [← HN.out]; omega)
        rw [← HBA.out.1, HML.out] at hr1
        have HR := Lib.hid hr1
        have HK := Lib.hid (And.intro hw1 (And.intro hs1 (And.intro ht1 hb1)))
        clear hr1 hw1 hs1 ht1 hb1 h8
        go_wp2_with (first
          | (at_builtin; refine wpList_run_app2 rfl (.tmp 84) (.const (.string ⟨#[13, 10]⟩)) 22 9 rfl rfl rfl hrun6 ?_)
          | (go_at_call 5; refine HNW.out.mono ?_; rintro q w7 ⟨g, F, rfl, hk⟩; have HA := Lib.hid hk.out; have hfd := feed_c _ (base ++ fldsC l ++ [13, 10]) (HG6.out.at.low hk.out.2.1) (fun _ k' hkk hF => by have h1 := HG6.out.own.lt k' hkk; have h2 := HA.out.2.2 k' hF; omega) hk.out.1 (by rw [HML.out]; omega); rw [HR.out] at hfd; simp only at hfd; rw [HK.out.1, HK.out.2.1] at hfd; unfold ptr at hfd; have HFD := Lib.hid hfd; clear hk hfd)
          | (go_at_call 7; refine HFD.out.mono ?_; rintro q w8 ⟨rfl, hk⟩; obtain ⟨F8, a8, hg8⟩ := hk.out; have M8 := Lib.hid (show Mods [] w w8 from (HG6.out.mods.trans HA.out.2.1 (fun _ h => nomatch h)).trans hg8.mods (fun k hk => .inr (by have h1 := HA.out.2.2 k hk; have h2 := HG6.out.mods.size; omega))); have htr := trailers_c a8 (by rw [HK.out.2.2.1]; exact fun p hp => (HAL.out p hp).1); rw [HK.out.2.2.1, ← HN.out] at htr; unfold ptr at htr; have HTR := Lib.hid htr; have HA8 := Lib.hid a8; clear hk a8 hg8 htr)
          | (go_at_call 12; refine HTR.out.mono ?_; rintro q w9 ⟨B9, rfl, hk⟩; have M9 := Lib.hid (M8.out.trans hk.out.low (fun _ h => nomatch h)); have HF9 := Lib.hid (show FsAt w9 (.slice (some ⟨B9, 0, none⟩) k k) l from FsAt.of_row (by rw [← HN.out]; exact hk.out.row)); have HA9 := Lib.hid (HA8.out.low hk.out.low); clear hk)
          | (go_at_call 11; refine (fields_l14 l l _ (.slice A k C) _ HF9.out (HFS.out.low M9.out) (by rw [← HN.out]; omega) (by rw [← HN.out]; omega)).mono ?_; rw [decide_eq_true (rfl : l = l)]; rintro q w10 ⟨rfl, hd⟩; have M10 := Lib.hid (M9.out.trans hd.mods (fun _ h => nomatch h)); have hbd := body_c (HA9.out.low hd.mods); rw [HK.out.2.2.2] at hbd; unfold ptr at hbd; have HBY := Lib.hid hbd; clear hd hbd)
          | (go_at_call 10; refine HBY.out.mono ?_; rintro q w11 ⟨u11, rfl, hk⟩; have M11 := Lib.hid (M10.out.trans hk.out.mods (fun _ h => nomatch h)); have HU := Lib.hid hk.out.at; obtain ⟨ua, uc, rfl⟩ := hk.out.form; clear hk)
          | (go_at_call 9; refine (same_l14 bd bd _ _ _ HU.out (HB.out.low M11.out) (r := true) (decide_eq_true rfl)).mono ?_; rintro q w12 ⟨rfl, hd⟩; have M12 := Lib.hid (M11.out.trans hd.mods (fun _ h => nomatch h)); clear hd)
          | (go_at_call 14; refine (known_14 _ (HT.out.low M12.out)).mono ?_; rintro q w13 ⟨rfl, hm⟩; have M13 := Lib.hid (M12.out.trans hm (fun _ h => nomatch h)); clear hm))
        go_ret
        exact ⟨rfl, M13.out.below⟩

theorem own : ownKnob Tryz.prog.godebug = none := by kernel_rfl
theorem laidOut : laidOutB Tryz.prog = true := by kernel_rfl
set_option maxRecDepth 100000 in
theorem lifted (os : Os) (started : os.Started) (H : Type) (enc : TypeId × Value → H) :
    ReturnsInHanded {} Tryz.checked os 4 .any (fun w args => (Rows.chunkTrailersSpec.pre enc Tryz.prog Tryz.f4 [] false w args ∧ laidMetH Tryz.prog Rows.chunkTrailersRow.laid w) ∧ sizedMet enc Tryz.prog Tryz.f4 (OpenSpec.ofChange Rows.chunkTrailersSpec) false w args)
      (Rows.chunkTrailersSpec.post enc Tryz.prog Tryz.f4 false true false false) := by
  refine returnsInHanded_of_change_and (C := Tryz.checked) (X := fun w _ => laidMetH Tryz.prog Rows.chunkTrailersRow.laid w) (fun _ _ _ hh h => h.of_heap hh) own started (by kernel_rfl) Tryz.func4
    (ChangeSpec.witness_shaped (enc := enc) (C := Tryz.checked) (os := os) (X := fun w _ => laidMetH Tryz.prog Rows.chunkTrailersRow.laid w) false (World.laidAll Tryz.prog os Rows.chunkTrailersRow.laid) #[.slice none 0 0, .slice none 0 0] 8 (World.laidAll_os _ _ _)
      (World.shaped_of_ZipB (by kernel_rfl) (by kernel_rfl)) (by kernel_rfl) (by kernel_rfl) (by kernel_rfl)
      (by rw [MakeChecks.laidMetH_plain _ _ _ (by kernel_rfl)]; exact laidMet_laidAll _ (by kernel_rfl) (by kernel_rfl))) ?_
  intro W base args ds gs before hval0 hW hcnd hsz0 hL _
  have hsz : (DataW.weightsEach Tryz.prog (Tryz.f4.params.toList ++ Rows.chunkTrailersSpec.plain.varTypes Tryz.prog) (ds ++ gs)).all (· ≤ reachBytes) = true := hsz0
  have hval : ∀ (j : Nat) t v, Tryz.f4.params[j]? = some t → args[j]? = some v → Value.okWide Tryz.prog W .any base t v := hval0
  have hW' := hW
  obtain ⟨p, q, hA0, hV, rfl, hfz, hnd⟩ := hW
  have hA : DataW.TrodAll enc Tryz.prog W 0 (fun _ => true) true Tryz.f4.params.toList args.toList ds p := hA0
  rw [Tryz.params4] at hA hval hsz
  obtain ⟨v0, vs0, d0, ds0, p0, q0, hargs, rfl, rfl, h0, r0⟩ := trodAll_cons hA
  obtain ⟨v1, vs1, d1, ds1, p1, q1, rfl, rfl, rfl, h1, r1⟩ := trodAll_cons r0
  obtain ⟨rfl, rfl, rfl⟩ := trodAll_nil r1
  obtain rfl : args = #[v0, v1] := by cases args; simp_all
  obtain ⟨rfl, rfl⟩ := trodVars_none hV
  have k0 := h0
  have lt0 : ∀ x ∈ p0, x.block < W.heap.size := by obtain ⟨m, hm⟩ := k0; exact DataW.trod_lt m _ _ _ hm
  obtain ⟨bl0, o0⟩ := open_bs14 (hval 0 22 v0 rfl rfl) k0 (fun n hn => by simpa using List.all_eq_true.1 hsz n (DataW.weights_mem_each (j := 0) (t := 22) rfl rfl n hn))
  have k1 := h1
  have lt1 : ∀ x ∈ p1, x.block < W.heap.size := by obtain ⟨m, hm⟩ := k1; exact DataW.trod_lt m _ _ _ hm
  obtain ⟨fr1, rfl, o1⟩ := open_fs (hval 1 26 v1 rfl rfl) k1 (fun n hn => by simpa using List.all_eq_true.1 hsz n (DataW.weights_mem_each (j := 1) (t := 26) rfl rfl n hn))
  clear hA0 hval0 hsz0 hsz
  refine (walk W hL v0 bl0 o0 fr1 o1).mono fun e W' ⟨he, bel⟩ => ?_
  subst he
  exact ⟨_, rfl, _, _, _, [], _, [], hW', trodAll_mk1 (shut_bool Tryz.underlying4 _), (trodAll_cons_mk (Below.trod laidOut (by kernel_rfl) (of_decide_eq_true (by kernel_rfl)) k0 bel lt0) (trodAll_cons_mk (Below.trod laidOut (by kernel_rfl) (of_decide_eq_true (by kernel_rfl)) k1 bel lt1) trodAll_mk0)), rfl, bel.frame _, fun h => by cases h⟩

theorem over : Rows.chunkTrailersRow.holds Tryz.pinned (OpenSpec.ofChange Rows.chunkTrailersSpec) :=
  OpenClaim.holds_of_wide 4 Tryz.f4 rfl rfl rfl rfl rfl rfl rfl ⟨rfl, rfl, rfl, rfl, rfl⟩ rfl rfl rfl rfl rfl (by kernel_rfl) Tryz.func4 (by kernel_rfl)
    (of_decide_eq_true (by kernel_rfl)) (by unfold Func.isWrapper; first | (rw [if_pos (by decide +kernel)]; kernel_rfl) | (rw [if_neg (by decide +kernel)]; exact ⟨rfl, rfl⟩))
    (fun os started H enc _ => lifted os started H enc)

theorem said : Rows.ChunkTrailersSaid := over
theorem plain (f : FuncId) (fn : Func) (hf : Tryz.pinned.checked.prog.funcNamed "usher/usherlaw14.ChunkTrailers" = some f) (hfn : Tryz.pinned.checked.prog.funcs[f]? = some fn) :
    false = Tryz.pinned.checked.prog.looks [] ∧ ∀ (j : Nat) t, fn.params[j]? = some t → Tryz.pinned.checked.prog.wantsStandIn t = false := by
  obtain rfl : f = 4 := Option.some.inj ((show Tryz.prog.funcNamed "usher/usherlaw14.ChunkTrailers" = some 4 by kernel_rfl).symm.trans hf) |>.symm
  obtain rfl : fn = Tryz.f4 := (Option.some.inj (Tryz.func4.symm.trans hfn)).symm
  refine ⟨by kernel_rfl, fun j t ht => ?_⟩
  rw [Tryz.params4] at ht
  have hm : t ∈ [22, 26] := by simpa using Array.mem_of_getElem? ht
  simp only [List.mem_cons, List.mem_nil_iff, or_false] at hm
  rcases hm with rfl | rfl
  · exact (show Tryz.prog.wantsStandIn 22 = false by kernel_rfl)
  · exact (show Tryz.prog.wantsStandIn 26 = false by kernel_rfl)
theorem proved : Rows.ChunkTrailersCardSaid :=
  Claim7.holds_tied_plain_at .later [] _ _ _ _ said (fun _ h => by cases h) (by kernel_rfl) (fun _ h => by cases h) chunkTrailers_row_tie rfl ⟨rfl, rfl⟩ (by kernel_rfl) rfl plain (by kernel_rfl)
end Go.Proofs.YtdalomhcglbhjaaGreatDoor.chunkTrailers
