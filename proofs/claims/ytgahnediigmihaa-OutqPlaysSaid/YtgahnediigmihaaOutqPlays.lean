/- For every script, the queue answers Add, Done, Next, Drop, Len and Left as the document says, and keeps nothing of what is handed in: the law returns true. Condition: none. -/
import Derived.Test.YtgahnediigmihaaRows
import Derived.WalkKit
import Derived.ProofKit
import Derived.OpenShut
import Derived.ShutString
import Derived.ChangeOld
import Derived.Below
import Derived.SizedLaws
import Derived.Test.YtgahnediigmihaaOpenQ
import Derived.Test.YtgahnediigmihaaKnownQ
import Derived.Test.YtgahnediigmihaaQueH
import Derived.Deep.RegionHeld3
import Derived.Deep.RegionWith
import Derived.Deep.DeepCutAuto
import Derived.Deep.CutBlock
namespace Go.Proofs.Ytgahnediigmihaa.outqPlays
open Go.ChangeShapes Go.WideShapes Go.ChangeAt Go.RowKit
open Go.ChangeMaps (open_string shut_string)
set_option linter.unusedVariables false
set_option maxRecDepth 100000
set_option linter.unusedSimpArgs false
set_option maxHeartbeats 8000000 in
theorem main (W : World) (A : Option Addr) (len cap : Nat) (f : Nat → ActAt) (hf : ActsAt W A len f) (hlm : len ≤ maxLen) :
    Calls Try.prog 3 #[.slice A len cap] W fun e w' => e = .returned (.bool true) ∧ Below W.heap.size W w' := by
  have hn := eql_qnil
  have HF := Lib.hid hf
  have HH := Lib.hid (heavy_any W A len cap f hf hlm)
  unfold maxLen at hlm
  clear hf
  go_enter Try.func3, Try.ntmps3
  go_wp2_with fail
  refine HH.out.mono ?_
  rintro e w' ⟨t, rfl, rfl, hs⟩
  cases t
  case true =>
    go_wp2_with fail
    refine (known_any _).mono ?_
    rintro e w1 ⟨rfl, hd⟩
    have H1 := Lib.hid hd
    clear hd
    go_wp2
    go_ret
    exact ⟨rfl, H1.out.below⟩
  have HS := Lib.hid (hs rfl)
  clear hs HH
  go_wp2_with fail
  refine (qnew_any W).mono ?_
  rintro e w1 ⟨rfl, hq, hm⟩
  have H0 := Lib.hid (show R2 W (w1.alloc (.cells #[.slice none 0 0, .slice none 0 0, .int .i64 0, .int .i64 0, .int .i64 0] 31)) W.heap.size w1.heap.size 0 from by
    refine ⟨[W.heap.size], [w1.heap.size], [], [], 0, 0, ⟨hq.quiet ((Mods.refl _ _).alloc _), ⟨.slice none 0 0, .slice none 0 0, [], rfl, ?_, Own.nil _ _, Own.nil _ _, rfl, by simp, by simp, by simp⟩, hm.alloc _, by simp, by have := hm.size; simpa using this, by have := hq.lt W.heap.size (by simp); simp; omega⟩, by simp, by simp⟩
    exact Row.new w1 _ _)
  have HX := Lib.hid (show W.heap.size < w1.heap.size from hq.lt _ (by simp))
  clear hq hm
  go_wp2_with fail
  go_loopw [5, 6, 7, 8, 9] (fun i x1 x2 x3 x4 wr => ∃ k : Nat, k ≤ len ∧ k ≤ 150 ∧ i = .int .i64 k ∧ Hid (R2 W wr W.heap.size w1.heap.size k)) (fun i _ _ _ _ _ => len - (intOf i).toNat)
  case atStart => exact ⟨0, by omega, by omega, rfl, H0⟩
  case round =>
    obtain ⟨k, hk, hk2, rfl, hd⟩ := hrel
    clear H0
    obtain ⟨F, G, B, E, V, T, hst, hb1, hb2⟩ := hd.out
    have HST := Lib.hid hst
    have HBD := Lib.hid (And.intro hb1 hb2)
    have hBm : B.length ≤ 2000000 := by omega
    clear hst hd hb1 hb2
    by_cases hc : k < len ∧ k < 150
    · obtain ⟨hlt, hlt2⟩ := hc
      obtain ⟨ab, ao, rfl, hab, a0, a1, a2, a3, i0, i1, r2, r3⟩ := HF.out k hlt
      have hsm := HS.out k (by omega)
      have c0 := cell_mods a0 HST.out.mods (by simp)
      have c1 := cell_mods a1 HST.out.mods (by simp)
      have c2 := cell_mods a2 HST.out.mods (by simp)
      have c3 := cell_mods a3 HST.out.mods (by simp)
      have HB := Lib.hid r2
      have HC := Lib.hid r3
      have HSM := Lib.hid hsm
      have HI := Lib.hid (And.intro i0 i1)
      clear a0 a1 a2 a3 i0 i1 r2 r3 hsm
      obtain ⟨kd, hkd⟩ : ∃ kd, kd = (f k).kind := ⟨_, rfl⟩
      obtain ⟨n, hnn⟩ : ∃ n, n = (f k).n := ⟨_, rfl⟩
      obtain ⟨rB, hrB⟩ : ∃ r, r = (f k).B := ⟨_, rfl⟩
      obtain ⟨rC, hrC⟩ : ∃ r, r = (f k).C := ⟨_, rfl⟩
      rw [← hkd] at c0 HI
      rw [← hnn] at c1 HI
      rw [← hrB] at c2 HB HSM
      rw [← hrC] at c3 HC HSM
      clear hkd hnn hrB hrC
      have HNA := Lib.hid (show ab ∉ F ∧ ab ∉ G from ⟨fun h => by have := HST.out.ff ab h; omega, fun h => by have := HST.out.fg ab h; omega⟩)
      have HSMB := Lib.hid (show rB.l.length ≤ 1000000 ∧ rC.l.length ≤ 1000000 by have := HSM.out; omega)
      go_upto_block 2 with fail
      go_cut [6] (fun s6 wx => s6 = .bool true ∧ Hid (R2 W wx W.heap.size w1.heap.size (k + 1)))
      case first =>
        by_cases k1 : kd = 1
        · subst k1
          as_aux_lemma =>
            clear c0 c1
            go_upto_region 12 with fail
            go_region_held3 (fun w' => w'.cell? ⟨ab, ao + k * 4 + 2, none⟩ = some (.slice rB.A rB.l.length rB.c) ∧ w'.cell? ⟨ab, ao + k * 4 + 3, none⟩ = some (.slice rC.A rC.l.length rC.c)) (go_keep)
              (first
                | (go_at_call 11; have hx := HRA; clear hx; refine Calls.mono (roomy_any _ rC.A rC.l.length rC.c rC.l rfl ((HC.out.1.mods HST.out.mods).mods HRA.out.2.1) HSMB.out.2) ?_; rintro e w4 ⟨gb, cb, rfl, hc, hd⟩; have HCB := Lib.hid hc.out; clear hc; have HRB := Lib.hid (show Roomy w3 w4 gb cb rC.l from by first | exact hd.out | exact hd.out.drew); have c2'' := cell_mods c2' HRB.out.2.1 (by simp); have c3'' := cell_mods c3' HRB.out.2.1 (by simp); clear hd)
                | (go_at_call 11; refine Calls.mono (roomy_any _ rB.A rB.l.length rB.c rB.l rfl (HB.out.1.mods (HST.out.mods.same rfl rfl rfl rfl)) HSMB.out.1) ?_; rintro e w3 ⟨ga, ca, rfl, hc, hd⟩; have HCA := Lib.hid hc.out; clear hc; have HRA := Lib.hid (show Roomy wr w3 ga ca rB.l from by first | exact hd.out | exact hd.out.drew); have c2' := cell_mods c2 HRA.out.2.1 (by simp); have c3' := cell_mods c3 HRA.out.2.1 (by simp); clear hd))
            as_aux_lemma =>
              have hcA := HCA.out
              have hcB := HCB.out
              have M34 := Lib.hid (HRA.out.2.1.trans HRB.out.2.1 (by simp))
              have SZ := Lib.hid (HST.out.quiet M34.out)
              have za := HRA.out.lt
              have zb := HRB.out.lt
              have zab := HRB.out.2.1.size
              have zw := HRA.out.2.1.size
              have za2 := HRA.out.2.2
              have zb2 := HRB.out.2.2
              have HGA := Lib.hid (show ga ∉ F ++ G from fun h => by
                rcases List.mem_append.1 h with h | h
                · have := HST.out.que.lt _ h; omega
                · have := HST.out.ref.lt _ h; omega)
              have HGB := Lib.hid (show gb ∉ F ++ G from fun h => by
                rcases List.mem_append.1 h with h | h
                · have := HST.out.que.lt _ h; omega
                · have := HST.out.ref.lt _ h; omega)
              have HGG := Lib.hid (show gb ≠ ga by omega)
              have HFG := Lib.hid (show ∀ b ∈ F ++ G, W.heap.size ≤ b ∧ b < w4.heap.size from fun b h => by
                rcases List.mem_append.1 h with h | h
                · exact ⟨HST.out.ff b h, SZ.out.que.lt b h⟩
                · exact ⟨HST.out.fg b h, SZ.out.ref.lt b h⟩)
              have HKA := Lib.hid (show Rw.Ok w4 F ⟨some ⟨ga, 0, none⟩, rB.l, ca⟩ ∧ Rw.Ok w4 F ⟨some ⟨gb, 0, none⟩, rC.l, cb⟩ from
                ⟨HRA.out.ok HRB.out.2.1 (fun h => HGA.out (List.mem_append_left _ h)) HB.out.1.range hcA, HRB.out.ok (Mods.refl _ _) (fun h => HGB.out (List.mem_append_left _ h)) HC.out.1.range hcB⟩)
              have HKB := Lib.hid (show Rw.Ok w4 (F ++ G) rB ∧ Rw.Ok w4 (F ++ G) rC from
                ⟨(HB.out.ok (fun b hb => (HFG.out b hb).1)).mods (SZ.out.mods.more (by simp)), (HC.out.ok (fun b hb => (HFG.out b hb).1)).mods (SZ.out.mods.more (by simp))⟩)
              obtain ⟨B', hB'⟩ : ∃ B', B' = B ++ (rB.l ++ rC.l) := ⟨_, rfl⟩
              obtain ⟨E', hE'⟩ : ∃ E', E' = E ++ [(V : Int) + (B'.length : Int)] := ⟨_, rfl⟩
              obtain ⟨y, hy⟩ : ∃ y : Int, y = (T : Int) + (E'.length : Int) := ⟨_, rfl⟩
              have HY := Lib.hid hy
              have HEE := Lib.hid hE'.symm
              have HBN := Lib.hid (show V + B'.length ≤ 12000 * (k + 1) ∧ T + E'.length ≤ k + 1 by
                have h1 := HBD.out
                have h2 := HSM.out
                rw [hE', hB', List.length_append, List.length_append, List.length_append]
                simp only [List.length_cons, List.length_nil]
                omega)
              have HT := Lib.hid (show V + B'.length ≤ 1000000000 ∧ T + E'.length ≤ 1000000000 by have := HBN.out; omega)
              have HLA := Lib.hid (show B ++ flatR [⟨some ⟨ga, 0, none⟩, rB.l, ca⟩, ⟨some ⟨gb, 0, none⟩, rC.l, cb⟩] = B' by rw [hB']; simp [flatR])
              have HLB := Lib.hid (show B ++ flatR [rB, rC] = B' by rw [hB']; simp [flatR])
              have HWN := Lib.hid (show w4.heap.size ∉ F ++ G ∧ w4.heap.size + 1 ∉ F ++ G from ⟨fun h => by have := HFG.out _ h; omega, fun h => by have := HFG.out _ h; omega⟩)
              have HWG := Lib.hid (show w4.heap.size ∉ F ∧ w4.heap.size + 1 ∉ F from ⟨fun h => HWN.out.1 (List.mem_append_left _ h), fun h => HWN.out.2 (List.mem_append_left _ h)⟩)
              have HAB := Lib.hid (show ab ∉ F ++ G from fun h => by have := HFG.out _ h; omega)
              have q1 : (0 : Int) ≤ (rB.l.length : Int) := by omega
              have q2 : (rB.l.length : Int) ≤ (ca : Int) := by omega
              have q3 : (0 : Int) ≤ (rC.l.length : Int) := by omega
              have q4 : (rC.l.length : Int) ≤ (cb : Int) := by omega
              have HSA := Lib.hid (show rB.l.length + 1 ≤ ca ∧ rC.l.length + 1 ≤ cb from ⟨by omega, by omega⟩)
              obtain ⟨OA, hOA⟩ : ∃ OA : Obj, OA = .cells #[.slice (some ⟨ga, 0, none⟩) rB.l.length ca, .slice (some ⟨gb, 0, none⟩) rC.l.length cb] 28 := ⟨_, rfl⟩
              obtain ⟨OB, hOB⟩ : ∃ OB : Obj, OB = .cells #[.slice rB.A rB.l.length rB.c, .slice rC.A rC.l.length rC.c] 28 := ⟨_, rfl⟩
              have W1 := Lib.hid (show RowsAt (w4.alloc OA) F w4.heap.size [⟨some ⟨ga, 0, none⟩, rB.l, ca⟩, ⟨some ⟨gb, 0, none⟩, rC.l, cb⟩] by rw [hOA]; exact rows_two _ _ rfl HKA.out.1 HKA.out.2 HWG.out.1)
              have W3 := Lib.hid (show RowsAt ((w4.alloc OB).alloc OA) F (w4.heap.size + 1) [⟨some ⟨ga, 0, none⟩, rB.l, ca⟩, ⟨some ⟨gb, 0, none⟩, rC.l, cb⟩] by rw [hOA]; exact rows_two _ _ (by simp) (HKA.out.1.mods ((Mods.refl _ _).alloc _)) (HKA.out.2.mods ((Mods.refl _ _).alloc _)) HWG.out.2)
              have V2 := Lib.hid (show RowsAt ((w4.alloc OA).alloc OB) (F ++ G) (w4.heap.size + 1) [rB, rC] by rw [hOB]; exact rows_two _ _ (by simp) (HKB.out.1.mods ((Mods.refl _ _).alloc _)) (HKB.out.2.mods ((Mods.refl _ _).alloc _)) HWN.out.2)
              have V3 := Lib.hid (show RowsAt ((w4.alloc OB).alloc OA) (F ++ G) w4.heap.size [rB, rC] from (show RowsAt (w4.alloc OB) (F ++ G) w4.heap.size [rB, rC] by rw [hOB]; exact rows_two _ _ rfl HKB.out.1 HKB.out.2 HWN.out.1).mods ((Mods.refl _ _).alloc _))
              obtain ⟨RA, hRA⟩ : ∃ RA : List Rw, RA = [⟨some ⟨ga, 0, none⟩, rB.l, ca⟩, ⟨some ⟨gb, 0, none⟩, rC.l, cb⟩] := ⟨_, rfl⟩
              obtain ⟨RB, hRB⟩ : ∃ RB : List Rw, RB = [rB, rC] := ⟨_, rfl⟩
              have HRL := Lib.hid (show 2 = RA.length ∧ 2 = RB.length ∧ 2 ≤ maxLen from ⟨by rw [hRA]; rfl, by rw [hRB]; rfl, by unfold maxLen; omega⟩)
              have HRBT := Lib.hid (show ∀ w8, Mods (F ++ G) w4 w8 → RowsAt (w8.alloc OB) (F ++ G) w8.heap.size RB from fun w8 h => by
                rw [hOB, hRB]; exact rows_two rB rC rfl (HKB.out.1.mods h) (HKB.out.2.mods h) (fun h2 => by have := HFG.out _ h2; have := h.size; omega))
              rw [← hRA] at HLA W1 W3
              rw [← hRB] at HLB V2 V3
              have W2 := Lib.hid (W1.out.mods ((Mods.refl F _).alloc OB))
              have SX1 := Lib.hid (SZ.out.quiet ((Mods.refl [] w4).alloc OA))
              have SX2 := Lib.hid (SZ.out.quiet (((Mods.refl [] w4).alloc OA).alloc OB))
              have SX3 := Lib.hid (SZ.out.quiet (((Mods.refl [] w4).alloc OB).alloc OA))
              have MX1 := Lib.hid ((Mods.refl (F ++ G) w4).alloc OA)
              have MX2 := Lib.hid (((Mods.refl (F ++ G) w4).alloc OA).alloc OB)
              have MX3 := Lib.hid (((Mods.refl (F ++ G) w4).alloc OB).alloc OA)
              have HM3 := Lib.hid (show ∀ w9, Mods (F ++ G) w4 w9 → Mods (F ++ G) w3 w9 from fun w9 h => (HRB.out.2.1.more (by simp)).trans h (fun k hk => .inl hk))
              have HGW := Lib.hid (show W.heap.size ≤ ga ∧ ga < w4.heap.size ∧ W.heap.size ≤ gb ∧ gb < w4.heap.size from ⟨by have := HST.out.mods.size; omega, by omega, by have := HST.out.mods.size; omega, by omega⟩)
              subst hOA hOB
              clear hRA hRB
              clear hcA hcB za zb zab zw za2 zb2 hB' hE' hy c2 c3 c2' c3'
              go_upto_region 13 with fail
              go_region_held3 (fun w' => w'.cell? ⟨ab, ao + k * 4 + 2, none⟩ = some (.slice rB.A rB.l.length rB.c) ∧ w'.cell? ⟨ab, ao + k * 4 + 3, none⟩ = some (.slice rC.A rC.l.length rC.c)) (go_keep)
                (first
                  | (go_at_call 13; have hx := hsh1; clear hx; (with_reducible refine Calls.mono (radd_as _ _ G B E B' E' V T (some ⟨w8.heap.size, 0, none⟩) 2 2 RB y ?_ ?_ HRL.out.2.1 HRL.out.2.2 HLB.out HEE.out HY.out HT.out.1 HT.out.2) ?_); exact (S8.out.quiet ((Mods.refl _ _).alloc (.cells #[.slice rB.A rB.l.length rB.c, .slice rC.A rC.l.length rC.c] 28))).ref.same (by first | (with_reducible rfl) | (simp only [World.drew, World.drewN])); exact Parts.of_rows (((HRBT.out _ M8.out).same (by first | (with_reducible rfl) | (simp only [World.drew, World.drewN]))).sub (fun k hk => List.mem_append_right _ hk)); rintro e w9 ⟨rfl, hd⟩; have M9 := Lib.hid (Mods.onto hd.out.mods (M8.out.alloc (.cells #[.slice rB.A rB.l.length rB.c, .slice rC.A rC.l.length rC.c] 28)) rfl rfl rfl rfl (fun k hk => List.mem_append_right _ hk)); obtain ⟨G9, s9, n9⟩ := St.toRef hd.out (S8.out.quiet ((Mods.refl _ _).alloc (.cells #[.slice rB.A rB.l.length rB.c, .slice rC.A rC.l.length rC.c] 28))) rfl rfl rfl rfl; have S9 := Lib.hid s9; have N9 := Lib.hid (show ∀ k ∈ G9, k ∈ G ∨ w4.heap.size ≤ k from fun k hk => (n9 k hk).imp id (fun h => by have := M8.out.size; simp at h; omega)); have e2 := cell_mods2 M9.out HAB.out c2''; have e3 := cell_mods2 M9.out HAB.out c3''; clear hd s9 n9)
                  | (go_at_call 13; have hx := V8; clear hx; (with_reducible refine Calls.mono (radd_as _ _ G B E B' E' V T _ 2 2 RB y ?_ ?_ HRL.out.2.1 HRL.out.2.2 HLB.out HEE.out HY.out HT.out.1 HT.out.2) ?_); exact S8.out.ref.same (by first | (with_reducible rfl) | (simp only [World.drew, World.drewN])); exact Parts.of_rows ((V8.out.same (by first | (with_reducible rfl) | (simp only [World.drew, World.drewN]))).sub (fun k hk => List.mem_append_right _ hk)); rintro e w9 ⟨rfl, hd⟩; have M9 := Lib.hid (Mods.onto hd.out.mods M8.out rfl rfl rfl rfl (fun k hk => List.mem_append_right _ hk)); obtain ⟨G9, s9, n9⟩ := St.toRef hd.out S8.out rfl rfl rfl rfl; have S9 := Lib.hid s9; have N9 := Lib.hid (show ∀ k ∈ G9, k ∈ G ∨ w4.heap.size ≤ k from fun k hk => (n9 k hk).imp id (fun h => by have := M8.out.size; omega)); have e2 := cell_mods2 M9.out HAB.out c2''; have e3 := cell_mods2 M9.out HAB.out c3''; clear hd s9 n9)
                  | (go_at_call 14; have hx := M10; clear hx; (with_reducible refine Calls.mono (stands_as _ (some ⟨gb, 0, none⟩) rC.A rC.l.length (rC.l.length + 1) cb rC.c rC.l ?_ ?_ HSA.out.2 ?_ ?_ HSMB.out.2) ?_); rfl; rfl; exact HRB.out.at_ M10.out HGB.out HC.out.1.range; exact HC.out.1.mods S10.out.mods; rintro e w11 ⟨rfl, hm⟩; have M11 := Lib.hid (Mods.onto hm M10.out rfl rfl rfl rfl (by simp)); have S11 := Lib.hid (St.calm hm S10.out rfl rfl rfl rfl); have g2 := cell_mods2 M11.out HAB.out c2''; have g3 := cell_mods2 M11.out HAB.out c3''; clear hm)
                  | (go_at_call 14; have hx := M9; clear hx; (with_reducible refine Calls.mono (stands_as _ (some ⟨ga, 0, none⟩) rB.A rB.l.length (rB.l.length + 1) ca rB.c rB.l ?_ ?_ HSA.out.1 ?_ ?_ HSMB.out.1) ?_); rfl; rfl; exact HRA.out.at_ (HM3.out _ M9.out) HGA.out HB.out.1.range; exact HB.out.1.mods S9.out.mods; rintro e w10 ⟨rfl, hm⟩; have M10 := Lib.hid (Mods.onto hm M9.out rfl rfl rfl rfl (by simp)); have S10 := Lib.hid (St.calm hm S9.out rfl rfl rfl rfl); have f2 := cell_mods2 M10.out HAB.out c2''; have f3 := cell_mods2 M10.out HAB.out c3''; clear hm)
                  | (go_at_call 12; (with_reducible show Calls _ _ #[_, .slice (some ⟨w4.heap.size, 0, none⟩) 2 2] _ _); (with_reducible refine Calls.mono (add_as _ _ F B E B' E' V T (some ⟨w4.heap.size, 0, none⟩) 2 2 RA y ?_ ?_ HRL.out.1 HRL.out.2.2 HLA.out HEE.out HY.out HT.out.1 HT.out.2) ?_); exact SX1.out.que.same (by first | (with_reducible rfl) | (simp only [World.drew, World.drewN])); exact Parts.of_rows (W1.out.same (by first | (with_reducible rfl) | (simp only [World.drew, World.drewN]))); rintro e w8 ⟨rfl, hd⟩; obtain ⟨F8, s8, n8⟩ := St.toQue hd.out SX1.out rfl rfl rfl rfl; have S8 := Lib.hid s8; have N8 := Lib.hid (show ∀ k ∈ F8, k ∈ F ∨ w4.heap.size ≤ k from fun k hk => (n8 k hk).imp id (fun h => by simp at h; omega)); have M8 := Lib.hid (Mods.onto hd.out.mods MX1.out rfl rfl rfl rfl (fun k hk => List.mem_append_left _ hk)); have d2 := cell_mods2 M8.out HAB.out c2''; have d3 := cell_mods2 M8.out HAB.out c3''; have hsh1 := True.intro; clear hd s8 n8)
                  | (go_at_call 12; (with_reducible show Calls _ _ #[_, .slice (some ⟨w4.heap.size, 0, none⟩) 2 2] _ _); (with_reducible refine Calls.mono (add_as _ _ F B E B' E' V T (some ⟨w4.heap.size, 0, none⟩) 2 2 RA y ?_ ?_ HRL.out.1 HRL.out.2.2 HLA.out HEE.out HY.out HT.out.1 HT.out.2) ?_); exact SX2.out.que.same (by first | (with_reducible rfl) | (simp only [World.drew, World.drewN])); exact Parts.of_rows (W2.out.same (by first | (with_reducible rfl) | (simp only [World.drew, World.drewN]))); rintro e w8 ⟨rfl, hd⟩; obtain ⟨F8, s8, n8⟩ := St.toQue hd.out SX2.out rfl rfl rfl rfl; have S8 := Lib.hid s8; have N8 := Lib.hid (show ∀ k ∈ F8, k ∈ F ∨ w4.heap.size ≤ k from fun k hk => (n8 k hk).imp id (fun h => by simp at h; omega)); have M8 := Lib.hid (Mods.onto hd.out.mods MX2.out rfl rfl rfl rfl (fun k hk => List.mem_append_left _ hk)); have d2 := cell_mods2 M8.out HAB.out c2''; have d3 := cell_mods2 M8.out HAB.out c3''; have V8 := Lib.hid (RowsAt.onto hd.out.mods V2.out rfl (fun k hk => List.mem_append_left _ hk)); clear hd s8 n8)
                  | (go_at_call 12; (with_reducible show Calls _ _ #[_, .slice (some ⟨w4.heap.size + 1, 0, none⟩) 2 2] _ _); (with_reducible refine Calls.mono (add_as _ _ F B E B' E' V T (some ⟨w4.heap.size + 1, 0, none⟩) 2 2 RA y ?_ ?_ HRL.out.1 HRL.out.2.2 HLA.out HEE.out HY.out HT.out.1 HT.out.2) ?_); exact SX3.out.que.same (by first | (with_reducible rfl) | (simp only [World.drew, World.drewN])); exact Parts.of_rows (W3.out.same (by first | (with_reducible rfl) | (simp only [World.drew, World.drewN]))); rintro e w8 ⟨rfl, hd⟩; obtain ⟨F8, s8, n8⟩ := St.toQue hd.out SX3.out rfl rfl rfl rfl; have S8 := Lib.hid s8; have N8 := Lib.hid (show ∀ k ∈ F8, k ∈ F ∨ w4.heap.size ≤ k from fun k hk => (n8 k hk).imp id (fun h => by simp at h; omega)); have M8 := Lib.hid (Mods.onto hd.out.mods MX3.out rfl rfl rfl rfl (fun k hk => List.mem_append_left _ hk)); have d2 := cell_mods2 M8.out HAB.out c2''; have d3 := cell_mods2 M8.out HAB.out c3''; have V8 := Lib.hid (RowsAt.onto hd.out.mods V3.out rfl (fun k hk => List.mem_append_left _ hk)); clear hd s8 n8))
              all_goals
                go_wp2_with fail
                refine (spoil_any w11 _ (rB.l.length + 1) (rB.l ++ [171]) (by simp) (own_mods HRA.out.less (HM3.out _ M11.out) (fun b hb hb2 => by simp [Value.ownBlock] at hb; subst hb; exact HGA.out hb2)) (by have := HSM.out; simp; omega)).mono ?_
                rintro e w12 ⟨rfl, hm⟩
                have S12 := Lib.hid (S11.out.far hm (fun b hb => by simp [Value.ownBlock] at hb; subst hb; exact HGW.out.1) (fun b hb hb2 => by simp [Value.ownBlock] at hb; subst hb; rcases N8.out _ hb2 with h | h; exact HGA.out (List.mem_append_left _ h); have := HGW.out.2.1; omega) (fun b hb hb2 => by simp [Value.ownBlock] at hb; subst hb; rcases N9.out _ hb2 with h | h; exact HGA.out (List.mem_append_right _ h); have := HGW.out.2.1; omega))
                have HOB := Lib.hid (own_mods (own_mods HRB.out.less M11.out (fun b hb hb2 => by simp [Value.ownBlock] at hb; subst hb; exact HGB.out hb2)) hm (fun b hb hb2 => by simp [Value.ownBlock] at hb hb2; subst hb; exact HGG.out hb2))
                clear hm
                go_wp2_with fail
                refine (spoil_any w12 _ (rC.l.length + 1) (rC.l ++ [171]) (by simp) HOB.out (by have := HSM.out; simp; omega)).mono ?_
                rintro e w13 ⟨rfl, hm⟩
                have S13 := Lib.hid (S12.out.far hm (fun b hb => by simp [Value.ownBlock] at hb; subst hb; exact HGW.out.2.2.1) (fun b hb hb2 => by simp [Value.ownBlock] at hb; subst hb; rcases N8.out _ hb2 with h | h; exact HGB.out (List.mem_append_left _ h); have := HGW.out.2.2.2; omega) (fun b hb hb2 => by simp [Value.ownBlock] at hb; subst hb; rcases N9.out _ hb2 with h | h; exact HGB.out (List.mem_append_right _ h); have := HGW.out.2.2.2; omega))
                clear hm
                go_wp2
                go_meet
                exact ⟨rfl, Lib.hid ⟨_, _, _, _, _, _, S13.out, HBN.out.1, HBN.out.2⟩⟩
        · by_cases k2 : kd = 2
          · subst k2
            as_aux_lemma =>
              clear k1 c2 c3 c0
              obtain ⟨m, hm⟩ : ∃ m, m = clamp n B.length := ⟨_, rfl⟩
              obtain ⟨q, hq⟩ : ∃ q, q = wh E ((V + m : Nat) : Int) := ⟨_, rfl⟩
              have HM := Lib.hid hm.symm
              have HQ := Lib.hid hq.symm
              have HLE := Lib.hid (show m ≤ B.length ∧ q ≤ E.length from ⟨by rw [hm]; exact clamp_le _ _, by rw [hq]; exact wh_le _ _⟩)
              have HQL := Lib.hid (show (upto T q).length = q ∧ (upto T q).length ≤ 1000000000 from ⟨upto_length _ _, by rw [upto_length]; have := HBD.out; have := HLE.out; omega⟩)
              clear hm hq
              go_upto_region 17 with fail
              go_region_held3 (fun w' => w'.cell? ⟨ab, ao + k * 4 + 1, none⟩ = some (.int .i64 n)) (go_keep)
                (first
                  | (go_at_call 17; refine Calls.mono (done_as _ _ m q n F B E (B.drop m) (E.drop q) (upto T q) V T (V + m) (T + q) (HST.out.que.keep fun _ _ => rfl) HM.out HQ.out rfl rfl rfl rfl rfl) ?_; rintro e w3 ⟨A3, c3, rfl, hd⟩; obtain ⟨⟨F3, q3, m3, n3, o3, b3⟩, -, h31, h32⟩ := hd.out; have m3' : Mods F wr w3 := (by first | exact m3 | exact of_drew m3); have H3 := Lib.hid (HST.out.onQue q3 m3' n3); have O3 := Lib.hid o3; have B3 := Lib.hid (show ∀ b ∈ (Value.slice A3 q c3).ownBlock.toList, wr.heap.size ≤ b from fun b hb => (b3 b hb).1); have c1' := cell_mods2 m3' HNA.out.1 c1; clear hd q3 m3 m3' n3 o3 b3)
                  | (go_at_call 18; refine Calls.mono (rdone_as _ _ m q n G B E (B.drop m) (E.drop q) (upto T q) V T (V + m) (T + q) (H3.out.ref.keep fun _ _ => rfl) HM.out HQ.out rfl rfl rfl rfl rfl) ?_; rintro e w4 ⟨A4, c4, rfl, hd⟩; obtain ⟨⟨⟨G4, q4, m4, n4⟩, o4⟩, h41, h42⟩ := hd.out; have m4' : Mods G w3 w4 := (by first | exact m4 | exact of_drew m4); have H4 := Lib.hid (H3.out.onRef q4 m4' n4); have O4 := Lib.hid o4; have O34 := Lib.hid (show Own w4 3 (.slice A3 q c3) (iv (upto T q)) from O3.out.mods m4' (fun b hb hb2 => by have h1 := B3.out b hb; have h2 := HST.out.ref.lt b hb2; omega)); have c1'' := cell_mods2 m4' HNA.out.2 c1'; clear hd q4 m4 m4' n4 o4)
                  | (go_at_call 16; refine Calls.mono (ints_yes _ A3 A4 (upto T q) q q c3 c4 HQL.out.1.symm HQL.out.1.symm (O34.out.src.same rfl) (O4.out.src.same rfl) HQL.out.2) ?_; rintro e w5 ⟨rfl, hm⟩; have H5 := Lib.hid (St.calm hm H4.out rfl rfl rfl rfl); have c1''' := cell_mods2 (by first | exact hm | exact of_drew hm) (by simp) c1''; clear hm))
              all_goals
                go_wp2
                go_meet
                exact ⟨rfl, Lib.hid ⟨_, _, _, _, _, _, H5.out, by have := HBD.out; have := HLE.out; rw [List.length_drop]; omega, by have := HBD.out; have := HLE.out; rw [List.length_drop]; omega⟩⟩
          · by_cases k3 : kd = 3
            · subst k3
              as_aux_lemma =>
                clear k1 k2 c2 c3 c0
                have HTK := Lib.hid (show (B.take (clamp n B.length)).length = clamp n B.length by rw [List.length_take]; have := clamp_le n B.length; omega)
                have HTB := Lib.hid (show (B.take (clamp n B.length)).length ≤ 100000000 by rw [List.length_take]; omega)
                go_wp2_with fail
                refine (next_as wr _ (clamp n B.length) n F B E (B.take (clamp n B.length)) V T HST.out.que rfl HTK.out).mono ?_
                rintro e w3 ⟨A3, c3, rfl, hd⟩
                have H3 := Lib.hid hd.out
                have c1' := cell_mods c1 hd.out.mods (by simp)
                have S3 := Lib.hid (HST.out.quiet hd.out.mods)
                clear hd
                go_wp2_with fail
                refine (rnext_as w3 _ (clamp n B.length) n G B E (B.take (clamp n B.length)) V T S3.out.ref rfl rfl).mono ?_
                rintro e w4 ⟨A4, c4, rfl, hd⟩
                have H4 := Lib.hid hd.out
                clear hd
                go_wp2_with fail
                refine (same_yes w4 A3 A4 (B.take (clamp n B.length)) _ _ c3 c4 HTK.out.symm HTK.out.symm (H3.out.at0 H4.out.mods) (H4.out.at0 (Mods.refl _ _)) (by have := HTB.out; omega)).mono ?_
                rintro e w5 ⟨rfl, hm⟩
                have M5 := Lib.hid (H4.out.mods.trans hm (by simp))
                have S5 := Lib.hid (S3.out.quiet M5.out)
                clear hm
                go_wp2_with fail
                refine (spoil_any w5 _ _ (B.take (clamp n B.length)) HTK.out.symm (own_mods H3.out.2.2.1 M5.out (by simp)) HTB.out).mono ?_
                rintro e w6 ⟨rfl, hm⟩
                have S6 := Lib.hid (S5.out.far hm (fun b hb => Nat.le_trans HST.out.mods.size (H3.out.2.2.2.2.2.2 b hb)) (fun b hb hb2 => by have := H3.out.2.2.2.2.2.2 b hb; have := HST.out.que.lt b hb2; omega) (fun b hb hb2 => by have := H3.out.2.2.2.2.2.2 b hb; have := HST.out.ref.lt b hb2; omega))
                clear hm
                go_wp2
                go_meet
                exact ⟨rfl, Lib.hid ⟨_, _, _, _, _, _, S6.out, by have := HBD.out; omega, by have := HBD.out; omega⟩⟩
            · by_cases k4 : kd = 4
              · subst k4
                as_aux_lemma =>
                  clear k1 k2 k3 c2 c3 c0
                  go_wp2_with fail
                  refine (drop_any wr _ F B E V T HST.out.que).mono ?_
                  rintro e w3 ⟨rfl, hd⟩
                  obtain ⟨F3, q3, m3, n3⟩ := hd.out
                  have H3 := Lib.hid (HST.out.onQue q3 m3 n3)
                  clear hd q3 m3 n3
                  go_wp2_with fail
                  refine (rdrop_any w3 _ G B E V T H3.out.ref).mono ?_
                  rintro e w4 ⟨rfl, hd⟩
                  obtain ⟨G4, q4, m4, n4⟩ := hd.out
                  have H4 := Lib.hid (H3.out.onRef q4 m4 n4)
                  clear hd q4 m4 n4
                  go_wp2
                  go_meet
                  exact ⟨rfl, Lib.hid ⟨_, _, _, _, _, _, H4.out, by have := HBD.out; simp; omega, by have := HBD.out; simp; omega⟩⟩
              · have e1 : ((kd : Int) == 1) = false := by simpa using k1
                have e2 : ((kd : Int) == 2) = false := by simpa using k2
                have e3 : ((kd : Int) == 3) = false := by simpa using k3
                have e4 : ((kd : Int) == 4) = false := by simpa using k4
                clear k1 k2 k3 k4
                go_wp2
                go_meet
                exact ⟨rfl, Lib.hid ⟨F, G, B, E, V, T, HST.out, by have := HBD.out; omega, by have := HBD.out; omega⟩⟩
      case rest =>
        as_aux_lemma =>
          obtain ⟨rfl, hr2⟩ := hcut
          obtain ⟨F2, G2, B2, E2, V2, T2, hst, hb1, hb2⟩ := hr2.out
          have HS2 := Lib.hid hst
          have HBD2 := Lib.hid (And.intro hb1 hb2)
          obtain ⟨A5, cp5, c5, hat5, q1, q2⟩ := hst.ref.b
          have HEL := Lib.hid (show (upto T2 E2.length).length = E2.length ∧ (upto T2 E2.length).length ≤ 1000000000 from ⟨upto_length _ _, by rw [upto_length]; omega⟩)
          have hB2 : B2.length ≤ 2000000 := by omega
          unfold maxLen at q2
          clear hst hr2 hat5 hb1 hb2 c0 c1 c2 c3
          go_wp2_with fail
          go_region_held3 (fun w' => w'.cell? ⟨w1.heap.size, 0, none⟩ = some (.slice A5 B2.length cp5)) (go_keep)
            (first
              | (go_at_call 24; refine Calls.mono (qlen_any _ _ F2 B2 E2 V2 T2 (HS2.out.que.keep fun _ _ => rfl)) ?_; rintro e w3 ⟨rfl, rfl⟩)
              | (go_at_call 25; refine Calls.mono (left_as _ _ E2.length F2 B2 E2 (upto T2 E2.length) V2 T2 (HS2.out.que.keep fun _ _ => rfl) rfl rfl) ?_; rintro e w4 ⟨A4, c4, rfl, hd⟩; have N4 := Lib.hid (show NewI wc w4 A4 E2.length c4 (upto T2 E2.length) from hd.out.back ((Mods.refl [] wc).same rfl rfl rfl rfl)); have c5' := cell_mods c5 N4.out.mods (by simp); have S4 := Lib.hid (HS2.out.quiet N4.out.mods); clear hd)
              | (go_at_call 26; refine Calls.mono (rleft_as _ _ E2.length G2 B2 E2 (upto T2 E2.length) V2 T2 (S4.out.ref.keep fun _ _ => rfl) rfl rfl) ?_; rintro e w5 ⟨A6, c6, rfl, hd⟩; have N5 := Lib.hid (show NewI w4 w5 A6 E2.length c6 (upto T2 E2.length) from hd.out.back ((Mods.refl [] w4).same rfl rfl rfl rfl)); have c5'' := cell_mods c5' N5.out.mods (by simp); have S5 := Lib.hid (S4.out.quiet N5.out.mods); clear hd)
              | (go_at_call 16; refine Calls.mono (ints_yes _ A4 A6 (upto T2 E2.length) E2.length E2.length c4 c6 HEL.out.1.symm HEL.out.1.symm ((N4.out.src N5.out.mods).same rfl) ((N5.out.src (Mods.refl _ _)).same rfl) HEL.out.2) ?_; rintro e w6 ⟨rfl, hm⟩; have S6 := Lib.hid (St.calm hm S5.out rfl rfl rfl rfl); have c5''' := cell_mods2 (by first | exact hm | exact of_drew hm) (by simp) c5''; clear hm))
          all_goals
            go_wp2
            go_roundw
            case rel => exact ⟨k + 1, by omega, by omega, by go_num, Lib.hid ⟨F2, G2, B2, E2, V2, T2, S6.out, HBD2.out.1, HBD2.out.2⟩⟩
            case measure => simp [intOf]; omega
    · have hcase : (k < len ∧ k = 150) ∨ (¬ k < len) := by omega
      obtain ⟨A5, cp5, c5, hat5, q1, q2⟩ := HST.out.ref.b
      have HA5 := Lib.hid hat5
      unfold maxLen at q2
      clear hat5
      as_aux_lemma =>
        rcases hcase with ⟨h3, h4⟩ | h3
        all_goals
          clear hc
          go_wp2_with fail
          go_region_held3 (fun w' => w'.cell? ⟨w1.heap.size, 0, none⟩ = some (.slice A5 B.length cp5)) (go_keep)
            (first
              | (go_at_call 19; refine Calls.mono (next_as _ _ B.length B.length F B E B V T (HST.out.que.keep fun _ _ => rfl) (by unfold clamp; exact List.take_of_length_le (by omega)) rfl) ?_; rintro e w6 ⟨A6, c6, rfl, hd⟩; have H6 := Lib.hid (show New wr w6 A6 B.length c6 B from by first | exact hd.out | exact hd.out.drew); have c5' := cell_mods c5 H6.out.mods (by simp); clear hd)
              | (go_at_call 20; refine Calls.mono (same_yes _ A6 A5 B B.length B.length c6 cp5 rfl rfl (H6.out.at0 (Mods.refl _ _)) (HA5.out.mods H6.out.mods) (by omega)) ?_; rintro e w9 ⟨rfl, hm⟩; have c5'' := cell_mods2 hm (by simp) c5'; have H9 := Lib.hid (show Mods [] wr w9 from H6.out.mods.trans (by first | exact hm | exact of_drew hm) (by simp)); clear hm)
              | (go_at_call 9; refine Calls.mono (known_any _) ?_; rintro e w10 ⟨rfl, hm⟩; have c5''' := cell_mods2 hm (by simp) c5''; have H10 := Lib.hid (show Mods [] wr w10 from H9.out.trans (by first | exact hm | exact of_drew hm) (by simp)); clear hm))
          all_goals
            go_wp2
            go_ret
            exact ⟨rfl, (HST.out.mods.trans H10.out (by simp)).below⟩
theorem walk (W : World) (v : Value) (ho : IsActs W v) :
    Calls Try.prog 3 #[v] W fun e w' => e = .returned (.bool true) ∧ Below W.heap.size W w' := by
  obtain ⟨A, len, cap, f, rfl, hl, hf⟩ : ∃ (A : Option Addr) (len cap : Nat) (f : Nat → ActAt), v = .slice A len cap ∧ len ≤ maxLen ∧ ActsAt W A len f := by
    rcases ho with ⟨a, cap, rfl⟩ | ⟨bb, off, len, cap, f, rfl, h1, h2, h3, h4, h5⟩
    · exact ⟨a, 0, cap, fun _ => ⟨0, 0, ⟨none, [], 0⟩, ⟨none, [], 0⟩⟩, rfl, Nat.zero_le _, fun j hj => by omega⟩
    · exact ⟨_, len, cap, f, rfl, by omega, fun j hj => ⟨bb, off, rfl, h4, h5 j hj⟩⟩
  exact main W A len cap f hf hl

theorem own : ownKnob Try.prog.godebug = none := by kernel_rfl
theorem laidOut : laidOutB Try.prog = true := by kernel_rfl
set_option maxRecDepth 100000 in
theorem lifted (os : Os) (started : os.Started) (H : Type) (enc : TypeId × Value → H) :
    ReturnsInHanded {} Try.checked os 3 .any (Rows.outqPlaysSpec.pre6 enc Try.prog Try.f3 Rows.outqPlaysRow.domain false) (Rows.outqPlaysSpec.post enc Try.prog Try.f3 false true false false) := by
  refine returnsInHanded_of_change_sized (C := Try.checked) own started (by kernel_rfl) Try.func3
    (ChangeSpec.witness6 (enc := enc) (C := Try.checked) false ⟨#[], #[.slice none 0 0], []⟩ 8 (by kernel_rfl) (by kernel_rfl) (by kernel_rfl) (by kernel_rfl)) ?_
  intro W base args ds gs before hval0 hW hcnd hsz0 _
  have hsz : (DataW.weightsEach Try.prog (Try.f3.params.toList ++ Rows.outqPlaysSpec.plain.varTypes Try.prog) (ds ++ gs)).all (· ≤ reachBytes) = true := hsz0
  have hval : ∀ (j : Nat) t v, Try.f3.params[j]? = some t → args[j]? = some v → Value.okWide Try.prog W .any base t v := hval0
  have hW' := hW
  obtain ⟨p, q, hA0, hV, rfl, hfz, hnd⟩ := hW
  have hA : DataW.TrodAll enc Try.prog W 0 (fun _ => true) true Try.f3.params.toList args.toList ds p := hA0
  rw [Try.params3] at hA hval hsz
  obtain ⟨v0, vs0, d0, ds0, p0, q0, hargs, rfl, rfl, h0, r0⟩ := trodAll_cons hA
  obtain ⟨rfl, rfl, rfl⟩ := trodAll_nil r0
  obtain rfl : args = #[v0] := by cases args; simp_all
  obtain ⟨rfl, rfl⟩ := trodVars_none hV
  have k0 := h0
  have lt0 : ∀ x ∈ p0, x.block < W.heap.size := by obtain ⟨m, hm⟩ := k0; exact DataW.trod_lt m _ _ _ hm
  obtain o0 := open_acts (hval 0 22 v0 rfl rfl) k0 (fun n hn => by simpa using List.all_eq_true.1 hsz n (DataW.weights_mem_each (j := 0) (t := 22) rfl rfl n hn))
  clear hA0 hval0 hsz0 hsz
  refine (walk W v0 o0).mono fun e W' ⟨he, bel⟩ => ?_
  subst he
  exact ⟨_, rfl, _, _, _, [], _, [], hW', trodAll_mk1 (shut_bool Try.underlying4 _), (trodAll_cons_mk (Below.trod laidOut (by kernel_rfl) (of_decide_eq_true (by kernel_rfl)) k0 bel lt0) trodAll_mk0), rfl, bel.frame _, fun h => by cases h⟩

theorem over : Rows.outqPlaysRow.holds Try.pinned (OpenSpec.ofChange Rows.outqPlaysSpec) :=
  OpenClaim.holds_of_wide 3 Try.f3 rfl rfl rfl rfl rfl rfl rfl ⟨rfl, rfl, rfl, rfl, rfl⟩ rfl rfl rfl rfl rfl (by kernel_rfl) Try.func3 (by kernel_rfl)
    (of_decide_eq_true (by kernel_rfl)) (by unfold Func.isWrapper; first | (rw [if_pos (by decide +kernel)]; kernel_rfl) | (rw [if_neg (by decide +kernel)]; exact ⟨rfl, rfl⟩))
    (fun os started H enc _ => lifted os started H enc)

theorem proved : Rows.OutqPlaysSaid := over
end Go.Proofs.Ytgahnediigmihaa.outqPlays
