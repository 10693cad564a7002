/- For every size and script, the ring answers Write, Skip, Peek, Find, Len and Room as the document says, and keeps nothing of what is handed in: the law returns true. Condition: none. -/
import Derived.Test.YtfgllfgcgihkoaaRows
import Derived.WalkKit
import Derived.ProofKit
import Derived.OpenShut
import Derived.ShutString
import Derived.ChangeOld
import Derived.Below
import Derived.SizedLaws
import Derived.Test.YtfgllfgcgihkoaaOpenR
import Derived.Test.YtfgllfgcgihkoaaRingH
import Derived.Test.YtfgllfgcgihkoaaRingL
import Derived.Deep.RegionHeld3
import Derived.Deep.RegionWith
import Derived.Deep.DeepCutAuto
import Derived.Deep.CutBlock
namespace Go.Proofs.Ytfgllfgcgihkoaa.ringPlays
open Go.ChangeShapes Go.WideShapes Go.ChangeAt Go.RowKit
open Go.ChangeMaps (open_string shut_string)
set_option linter.unusedVariables false
set_option maxRecDepth 100000
set_option linter.unusedSimpArgs false
theorem neq_int_bool (a b : Bool) (w : World) : (binOp .neq 4 (.bool a) (.bool b)).run Try.prog w = .ok (.bool (a != b)) w := by
  cases a <;> cases b <;> kernel_rfl
theorem u8_wrap (n : Int) : 0 ≤ IntKind.u8.wrap n ∧ IntKind.u8.wrap n ≤ 255 := by rw [IntKind.wrap_u8]; omega
/-- Behind the switch. -/
def R2 (W wr : World) (g m x N : Nat) : Prop := ∃ F L, St W wr g m x N F L L
set_option maxHeartbeats 4000000 in
theorem main (N : Nat) (h1 : 1 ≤ N) (h2 : N ≤ 65536) (W : World) (A : Option Addr) (len cap : Nat) (f : Nat → ActAt) (hf : ActsAt W A len f) (hlm : len ≤ maxLen) :
    Calls Try.prog 3 #[.int .i64 N, .slice A len cap] W fun e w' => e = .returned (.bool true) ∧ Below W.heap.size W w' := by
  have hn := eql_nil
  have HF := Lib.hid hf
  have HH := Lib.hid (heavy_any W A len cap f hf hlm)
  unfold maxLen at hlm
  clear hf
  go_enter Try.func3, Try.ntmps3
  go_wp2_with fail
  refine HH.out.mono ?_
  rintro e w' ⟨t, rfl, rfl, hs⟩
  cases t
  case true =>
    go_wp2_with fail
    refine (known_any _).mono ?_
    rintro e w1 ⟨rfl, hd⟩
    have H1 := Lib.hid hd
    clear hd
    go_wp2
    go_ret
    exact ⟨rfl, H1.out.below⟩
  have HS := Lib.hid (hs rfl)
  clear hs HH
  go_wp2_with fail
  refine (new_any N W h1 h2).mono ?_
  rintro e w1 ⟨rfl, hr, hm⟩
  have R1 := Lib.hid hr
  have M1 := Lib.hid hm
  clear hr hm
  go_wp2_with fail
  refine (rnew_any N w1 h1 h2).mono ?_
  rintro e w2 ⟨rfl, hr, hm⟩
  have H0 := Lib.hid (show R2 W w2 (W.heap.size + 1) W.heap.size w1.heap.size N from ⟨_, _, R1.out.mods hm (by simp), hr, M1.out.trans hm (by simp), by simp, by have := M1.out.size; simp; omega, by have := R1.out.lt (W.heap.size + 1) (by simp); simp; omega⟩)
  have HX := Lib.hid (show W.heap.size + 1 < w1.heap.size from R1.out.lt _ (by simp))
  clear hr hm R1 M1
  go_wp2_with fail
  go_loopw [9, 10, 11, 12, 13] (fun i x1 x2 x3 x4 wr => ∃ k : Nat, k ≤ len ∧ k ≤ 150 ∧ i = .int .i64 k ∧ Hid (R2 W wr (W.heap.size + 1) W.heap.size w1.heap.size N)) (fun i _ _ _ _ _ => len - (intOf i).toNat)
  case atStart => exact ⟨0, by omega, by omega, rfl, H0⟩
  case round =>
    obtain ⟨k, hk, hk2, rfl, hd⟩ := hrel
    clear H0
    obtain ⟨F, L, hst⟩ := hd.out
    have HST := Lib.hid hst
    clear hst hd
    by_cases hc : k < len ∧ k < 150
    · obtain ⟨hlt, hlt2⟩ := hc
      obtain ⟨ab, ao, rfl, hab, a0, a1, a2, a3, i0, i1, r2, r3⟩ := HF.out k hlt
      have hsm := HS.out k (by omega)
      have c0 := cell_mods a0 HST.out.mods (by simp)
      have c1 := cell_mods a1 HST.out.mods (by simp)
      have c2 := cell_mods a2 HST.out.mods (by simp)
      have c3 := cell_mods a3 HST.out.mods (by simp)
      have HB := Lib.hid r2
      have HC := Lib.hid r3
      have HSM := Lib.hid hsm
      have HI := Lib.hid (And.intro i0 i1)
      clear a0 a1 a2 a3 i0 i1 r2 r3 hsm
      obtain ⟨kd, hkd⟩ : ∃ kd, kd = (f k).kind := ⟨_, rfl⟩
      obtain ⟨n, hnn⟩ : ∃ n, n = (f k).n := ⟨_, rfl⟩
      obtain ⟨rB, hrB⟩ : ∃ r, r = (f k).B := ⟨_, rfl⟩
      obtain ⟨rC, hrC⟩ : ∃ r, r = (f k).C := ⟨_, rfl⟩
      rw [← hkd] at c0 HI
      rw [← hnn] at c1 HI
      rw [← hrB] at c2 HB HSM
      rw [← hrC] at c3 HC HSM
      clear hkd hnn hrB hrC
      have HNA := Lib.hid (show ab ∉ [W.heap.size + 1, W.heap.size] ∧ ab ∉ F from ⟨by simp; omega, fun h => by have := HST.out.ff ab h; omega⟩)
      have HTK := Lib.hid (show (L.take (clamp n L.length)).length = clamp n L.length by rw [List.length_take]; have := clamp_le n L.length; omega)
      have HTB := Lib.hid (show (L.take (clamp n L.length)).length ≤ 1000000000 by rw [List.length_take]; have := HST.out.ring.len; omega)
      have HTB2 := Lib.hid (show (L.take (clamp n L.length)).length ≤ 1000000 by rw [List.length_take]; have := HST.out.ring.len; omega)
      have HWR := Lib.hid (u8_wrap n)
      have HSMB := Lib.hid (show rB.l.length ≤ 1000000 ∧ rC.l.length ≤ 1000000 by have := HSM.out; omega)
      go_upto_block 2 with fail
      go_cut [10] (fun s10 wx => s10 = .bool true ∧ Hid (R2 W wx (W.heap.size + 1) W.heap.size w1.heap.size N))
      case first =>
        by_cases k1 : kd = 1
        · subst k1
          as_aux_lemma =>
            clear c0 c1
            go_upto_region 15 with fail
            go_region_held3 (fun w' => w'.cell? ⟨ab, ao + k * 4 + 2, none⟩ = some (.slice rB.A rB.l.length rB.c) ∧ w'.cell? ⟨ab, ao + k * 4 + 3, none⟩ = some (.slice rC.A rC.l.length rC.c)) (go_keep)
              (first
                | (go_at_call 12; have hx := HRA; clear hx; refine Calls.mono (roomy_any _ rC.A rC.l.length rC.c rC.l rfl ((HC.out.1.mods HST.out.mods).mods HRA.out.2.1) HSMB.out.2) ?_; rintro e w4 ⟨gb, cb, rfl, hc, hd⟩; have HCB := Lib.hid hc.out; clear hc; have HRB := Lib.hid (show Roomy w3 w4 gb cb rC.l from by first | exact hd.out | exact hd.out.drew); have c2'' := cell_mods c2' HRB.out.2.1 (by simp); have c3'' := cell_mods c3' HRB.out.2.1 (by simp); clear hd)
                | (go_at_call 12; refine Calls.mono (roomy_any _ rB.A rB.l.length rB.c rB.l rfl (HB.out.1.mods (HST.out.mods.same rfl rfl rfl rfl)) HSMB.out.1) ?_; rintro e w3 ⟨ga, ca, rfl, hc, hd⟩; have HCA := Lib.hid hc.out; clear hc; have HRA := Lib.hid (show Roomy wr w3 ga ca rB.l from by first | exact hd.out | exact hd.out.drew); have c2' := cell_mods c2 HRA.out.2.1 (by simp); have c3' := cell_mods c3 HRA.out.2.1 (by simp); clear hd))
            as_aux_lemma =>
              have hcA := HCA.out
              have hcB := HCB.out
              have M34 := Lib.hid (HRA.out.2.1.trans HRB.out.2.1 (by simp))
              have SZ := Lib.hid (HST.out.quiet M34.out)
              have za := HRA.out.lt
              have zb := HRB.out.lt
              have zab := HRB.out.2.1.size
              have zw := HRA.out.2.1.size
              have za2 := HRA.out.2.2
              have zb2 := HRB.out.2.2
              have HGA := Lib.hid (show ga ∉ F ++ [W.heap.size + 1, W.heap.size] from fun h => by
                rcases List.mem_append.1 h with h | h
                · have := HST.out.ref.lt _ h; omega
                · have := HST.out.ring.lt _ h; omega)
              have HGB := Lib.hid (show gb ∉ F ++ [W.heap.size + 1, W.heap.size] from fun h => by
                rcases List.mem_append.1 h with h | h
                · have := HST.out.ref.lt _ h; omega
                · have := HST.out.ring.lt _ h; omega)
              have HFG := Lib.hid (show ∀ b ∈ F ++ [W.heap.size + 1, W.heap.size], W.heap.size ≤ b ∧ b < w4.heap.size from fun b h => by
                rcases List.mem_append.1 h with h | h
                · exact ⟨HST.out.ff b h, SZ.out.ref.lt b h⟩
                · exact ⟨HST.out.fg b h, SZ.out.ring.lt b h⟩)
              have HKA := Lib.hid (show Rw.Ok w4 [W.heap.size + 1, W.heap.size] ⟨some ⟨ga, 0, none⟩, rB.l, ca⟩ ∧ Rw.Ok w4 [W.heap.size + 1, W.heap.size] ⟨some ⟨gb, 0, none⟩, rC.l, cb⟩ from
                ⟨HRA.out.ok HRB.out.2.1 (fun h => HGA.out (List.mem_append_right _ h)) HB.out.1.range hcA, HRB.out.ok (Mods.refl _ _) (fun h => HGB.out (List.mem_append_right _ h)) HC.out.1.range hcB⟩)
              have HKB := Lib.hid (show Rw.Ok w4 (F ++ [W.heap.size + 1, W.heap.size]) rB ∧ Rw.Ok w4 (F ++ [W.heap.size + 1, W.heap.size]) rC from
                ⟨(HB.out.ok (fun b hb => (HFG.out b hb).1)).mods (SZ.out.mods.more (by simp)), (HC.out.ok (fun b hb => (HFG.out b hb).1)).mods (SZ.out.mods.more (by simp))⟩)
              obtain ⟨L', hL'⟩ : ∃ L', L' = L ++ (rB.l ++ rC.l).take (N - L.length) := ⟨_, rfl⟩
              obtain ⟨y, hy⟩ : ∃ y : Int, y = (L'.length : Int) - (L.length : Int) := ⟨_, rfl⟩
              have HY := Lib.hid hy
              have HLA := Lib.hid (show L ++ (flatR [⟨some ⟨ga, 0, none⟩, rB.l, ca⟩, ⟨some ⟨gb, 0, none⟩, rC.l, cb⟩]).take (N - L.length) = L' by rw [hL']; simp [flatR])
              have HLB := Lib.hid (show L ++ (flatR [rB, rC]).take (N - L.length) = L' by rw [hL']; simp [flatR])
              have HWN := Lib.hid (show w4.heap.size ∉ F ++ [W.heap.size + 1, W.heap.size] ∧ w4.heap.size + 1 ∉ F ++ [W.heap.size + 1, W.heap.size] from ⟨fun h => by have := HFG.out _ h; omega, fun h => by have := HFG.out _ h; omega⟩)
              have HWG := Lib.hid (show w4.heap.size ∉ [W.heap.size + 1, W.heap.size] ∧ w4.heap.size + 1 ∉ [W.heap.size + 1, W.heap.size] from ⟨fun h => HWN.out.1 (List.mem_append_right _ h), fun h => HWN.out.2 (List.mem_append_right _ h)⟩)
              have HAB := Lib.hid (show ab ∉ F ++ [W.heap.size + 1, W.heap.size] from fun h => by have := HFG.out _ h; omega)
              have q1 : (0 : Int) ≤ (rB.l.length : Int) := by omega
              have q2 : (rB.l.length : Int) ≤ (ca : Int) := by omega
              have q3 : (0 : Int) ≤ (rC.l.length : Int) := by omega
              have q4 : (rC.l.length : Int) ≤ (cb : Int) := by omega
              have HSA := Lib.hid (show rB.l.length + 1 ≤ ca ∧ rC.l.length + 1 ≤ cb from ⟨by omega, by omega⟩)
              obtain ⟨OA, hOA⟩ : ∃ OA : Obj, OA = .cells #[.slice (some ⟨ga, 0, none⟩) rB.l.length ca, .slice (some ⟨gb, 0, none⟩) rC.l.length cb] 32 := ⟨_, rfl⟩
              obtain ⟨OB, hOB⟩ : ∃ OB : Obj, OB = .cells #[.slice rB.A rB.l.length rB.c, .slice rC.A rC.l.length rC.c] 32 := ⟨_, rfl⟩
              have W1 := Lib.hid (show RowsAt (w4.alloc OA) [W.heap.size + 1, W.heap.size] w4.heap.size [⟨some ⟨ga, 0, none⟩, rB.l, ca⟩, ⟨some ⟨gb, 0, none⟩, rC.l, cb⟩] by rw [hOA]; exact rows_two _ _ rfl HKA.out.1 HKA.out.2 HWG.out.1)
              have W3 := Lib.hid (show RowsAt ((w4.alloc OB).alloc OA) [W.heap.size + 1, W.heap.size] (w4.heap.size + 1) [⟨some ⟨ga, 0, none⟩, rB.l, ca⟩, ⟨some ⟨gb, 0, none⟩, rC.l, cb⟩] by rw [hOA]; exact rows_two _ _ (by simp) (HKA.out.1.mods ((Mods.refl _ _).alloc _)) (HKA.out.2.mods ((Mods.refl _ _).alloc _)) HWG.out.2)
              have V2 := Lib.hid (show RowsAt ((w4.alloc OA).alloc OB) (F ++ [W.heap.size + 1, W.heap.size]) (w4.heap.size + 1) [rB, rC] by rw [hOB]; exact rows_two _ _ (by simp) (HKB.out.1.mods ((Mods.refl _ _).alloc _)) (HKB.out.2.mods ((Mods.refl _ _).alloc _)) HWN.out.2)
              have V3 := Lib.hid (show RowsAt ((w4.alloc OB).alloc OA) (F ++ [W.heap.size + 1, W.heap.size]) w4.heap.size [rB, rC] from (show RowsAt (w4.alloc OB) (F ++ [W.heap.size + 1, W.heap.size]) w4.heap.size [rB, rC] by rw [hOB]; exact rows_two _ _ rfl HKB.out.1 HKB.out.2 HWN.out.1).mods ((Mods.refl _ _).alloc _))
              obtain ⟨RA, hRA⟩ : ∃ RA : List Rw, RA = [⟨some ⟨ga, 0, none⟩, rB.l, ca⟩, ⟨some ⟨gb, 0, none⟩, rC.l, cb⟩] := ⟨_, rfl⟩
              obtain ⟨RB, hRB⟩ : ∃ RB : List Rw, RB = [rB, rC] := ⟨_, rfl⟩
              have HRL := Lib.hid (show (RA.length = 2 ∧ RA.length ≤ 4) ∧ RB.length = 2 ∧ RB.length ≤ 4 by rw [hRA, hRB]; simp)
              have HRBT := Lib.hid (show ∀ w8, Mods (F ++ [W.heap.size + 1, W.heap.size]) w4 w8 → RowsAt (w8.alloc OB) (F ++ [W.heap.size + 1, W.heap.size]) w8.heap.size RB from fun w8 h => by
                rw [hOB, hRB]; exact rows_two rB rC rfl (HKB.out.1.mods h) (HKB.out.2.mods h) (fun h2 => by have := HFG.out _ h2; have := h.size; omega))
              rw [← hRA] at HLA W1 W3
              rw [← hRB] at HLB V2 V3
              have W2 := Lib.hid (W1.out.mods ((Mods.refl [W.heap.size + 1, W.heap.size] _).alloc OB))
              have SX1 := Lib.hid (SZ.out.quiet ((Mods.refl [] w4).alloc OA))
              have SX2 := Lib.hid (SZ.out.quiet (((Mods.refl [] w4).alloc OA).alloc OB))
              have SX3 := Lib.hid (SZ.out.quiet (((Mods.refl [] w4).alloc OB).alloc OA))
              have MX1 := Lib.hid ((Mods.refl (F ++ [W.heap.size + 1, W.heap.size]) w4).alloc OA)
              have MX2 := Lib.hid (((Mods.refl (F ++ [W.heap.size + 1, W.heap.size]) w4).alloc OA).alloc OB)
              have MX3 := Lib.hid (((Mods.refl (F ++ [W.heap.size + 1, W.heap.size]) w4).alloc OB).alloc OA)
              have HM3 := Lib.hid (show ∀ w9, Mods (F ++ [W.heap.size + 1, W.heap.size]) w4 w9 → Mods (F ++ [W.heap.size + 1, W.heap.size]) w3 w9 from fun w9 h => (HRB.out.2.1.more (by simp)).trans h (fun k hk => .inl hk))
              have HGW := Lib.hid (show W.heap.size ≤ ga ∧ ga < w4.heap.size from ⟨by have := HST.out.mods.size; omega, by omega⟩)
              subst hOA hOB
              clear hRA hRB
              clear hcA hcB za zb zab zw za2 zb2 hL' hy c2 c3 c2' c3'
              go_upto_region 16 with fail
              go_region_held3 (fun w' => w'.cell? ⟨ab, ao + k * 4 + 2, none⟩ = some (.slice rB.A rB.l.length rB.c) ∧ w'.cell? ⟨ab, ao + k * 4 + 3, none⟩ = some (.slice rC.A rC.l.length rC.c)) (go_keep)
                (first
                  | (go_at_call 14; have hx := hsh1; clear hx; (with_reducible refine Calls.mono (rwrite_as _ _ N w8.heap.size F y L L' RB ?_ ?_ HRL.out.2.2 2 HRL.out.2.1 HLB.out HY.out) ?_); exact (S8.out.quiet ((Mods.refl _ _).alloc (.cells #[.slice rB.A rB.l.length rB.c, .slice rC.A rC.l.length rC.c] 32))).ref.same (by first | (with_reducible rfl) | (simp only [World.drew, World.drewN])); exact ((HRBT.out _ M8.out).same (by first | (with_reducible rfl) | (simp only [World.drew, World.drewN]))).sub (fun k hk => List.mem_append_left _ hk); rintro e w9 ⟨rfl, hd⟩; have M9 := Lib.hid (Mods.onto hd.out.mods (M8.out.alloc (.cells #[.slice rB.A rB.l.length rB.c, .slice rC.A rC.l.length rC.c] 32)) rfl rfl rfl rfl (fun k hk => List.mem_append_left _ hk)); obtain ⟨F9, s9, n9⟩ := Left.onto hd.out (S8.out.quiet ((Mods.refl _ _).alloc (.cells #[.slice rB.A rB.l.length rB.c, .slice rC.A rC.l.length rC.c] 32))) rfl rfl rfl rfl; have S9 := Lib.hid s9; have N9 := Lib.hid (show ∀ k ∈ F9, k ∈ F ∨ w4.heap.size ≤ k from fun k hk => (n9 k hk).imp id (fun h => by have := M8.out.size; simp at h; omega)); have e2 := cell_mods2 M9.out HAB.out c2''; have e3 := cell_mods2 M9.out HAB.out c3''; clear hd s9 n9)
                  | (go_at_call 14; have hx := V8; clear hx; (with_reducible refine Calls.mono (rwrite_as _ _ N _ F y L L' RB ?_ ?_ HRL.out.2.2 2 HRL.out.2.1 HLB.out HY.out) ?_); exact S8.out.ref.same (by first | (with_reducible rfl) | (simp only [World.drew, World.drewN])); exact (V8.out.same (by first | (with_reducible rfl) | (simp only [World.drew, World.drewN]))).sub (fun k hk => List.mem_append_left _ hk); rintro e w9 ⟨rfl, hd⟩; have M9 := Lib.hid (Mods.onto hd.out.mods M8.out rfl rfl rfl rfl (fun k hk => List.mem_append_left _ hk)); obtain ⟨F9, s9, n9⟩ := Left.onto hd.out S8.out rfl rfl rfl rfl; have S9 := Lib.hid s9; have N9 := Lib.hid (show ∀ k ∈ F9, k ∈ F ∨ w4.heap.size ≤ k from fun k hk => (n9 k hk).imp id (fun h => by have := M8.out.size; omega)); have e2 := cell_mods2 M9.out HAB.out c2''; have e3 := cell_mods2 M9.out HAB.out c3''; clear hd s9 n9)
                  | (go_at_call 15; have hx := M10; clear hx; (with_reducible refine Calls.mono (stands_as _ (some ⟨gb, 0, none⟩) rC.A rC.l.length (rC.l.length + 1) cb rC.c rC.l ?_ ?_ HSA.out.2 ?_ ?_ HSMB.out.2) ?_); rfl; rfl; exact HRB.out.at_ M10.out HGB.out HC.out.1.range; exact HC.out.1.mods S10.out.mods; rintro e w11 ⟨rfl, hm⟩; have M11 := Lib.hid (Mods.onto hm M10.out rfl rfl rfl rfl (by simp)); have S11 := Lib.hid (St.calm hm S10.out rfl rfl rfl rfl); have g2 := cell_mods2 M11.out HAB.out c2''; have g3 := cell_mods2 M11.out HAB.out c3''; clear hm)
                  | (go_at_call 15; have hx := M9; clear hx; (with_reducible refine Calls.mono (stands_as _ (some ⟨ga, 0, none⟩) rB.A rB.l.length (rB.l.length + 1) ca rB.c rB.l ?_ ?_ HSA.out.1 ?_ ?_ HSMB.out.1) ?_); rfl; rfl; exact HRA.out.at_ (HM3.out _ M9.out) HGA.out HB.out.1.range; exact HB.out.1.mods S9.out.mods; rintro e w10 ⟨rfl, hm⟩; have M10 := Lib.hid (Mods.onto hm M9.out rfl rfl rfl rfl (by simp)); have S10 := Lib.hid (St.calm hm S9.out rfl rfl rfl rfl); have f2 := cell_mods2 M10.out HAB.out c2''; have f3 := cell_mods2 M10.out HAB.out c3''; clear hm)
                  | (go_at_call 13; (with_reducible show Calls _ _ #[_, .slice (some ⟨w4.heap.size, 0, none⟩) 2 2] _ _); (with_reducible refine Calls.mono (write_as _ _ W.heap.size N w4.heap.size y L L' RA ?_ ?_ HRL.out.1.2 2 HRL.out.1.1 HLA.out HY.out) ?_); exact SX1.out.ring.same (by first | (with_reducible rfl) | (simp only [World.drew, World.drewN])); exact W1.out.same (by first | (with_reducible rfl) | (simp only [World.drew, World.drewN])); rintro e w8 ⟨rfl, hd⟩; have S8 := Lib.hid (St.wrote hd.out SX1.out rfl rfl rfl rfl); have M8 := Lib.hid (Mods.onto hd.out.2 MX1.out rfl rfl rfl rfl (fun k hk => List.mem_append_right F hk)); have d2 := cell_mods2 M8.out HAB.out c2''; have d3 := cell_mods2 M8.out HAB.out c3''; have hsh1 := True.intro; clear hd)
                  | (go_at_call 13; (with_reducible show Calls _ _ #[_, .slice (some ⟨w4.heap.size, 0, none⟩) 2 2] _ _); (with_reducible refine Calls.mono (write_as _ _ W.heap.size N w4.heap.size y L L' RA ?_ ?_ HRL.out.1.2 2 HRL.out.1.1 HLA.out HY.out) ?_); exact SX2.out.ring.same (by first | (with_reducible rfl) | (simp only [World.drew, World.drewN])); exact W2.out.same (by first | (with_reducible rfl) | (simp only [World.drew, World.drewN])); rintro e w8 ⟨rfl, hd⟩; have S8 := Lib.hid (St.wrote hd.out SX2.out rfl rfl rfl rfl); have M8 := Lib.hid (Mods.onto hd.out.2 MX2.out rfl rfl rfl rfl (fun k hk => List.mem_append_right F hk)); have d2 := cell_mods2 M8.out HAB.out c2''; have d3 := cell_mods2 M8.out HAB.out c3''; have V8 := Lib.hid (RowsAt.onto hd.out.2 V2.out rfl (fun k hk => List.mem_append_right F hk)); clear hd)
                  | (go_at_call 13; (with_reducible show Calls _ _ #[_, .slice (some ⟨w4.heap.size + 1, 0, none⟩) 2 2] _ _); (with_reducible refine Calls.mono (write_as _ _ W.heap.size N (w4.heap.size + 1) y L L' RA ?_ ?_ HRL.out.1.2 2 HRL.out.1.1 HLA.out HY.out) ?_); exact SX3.out.ring.same (by first | (with_reducible rfl) | (simp only [World.drew, World.drewN])); exact W3.out.same (by first | (with_reducible rfl) | (simp only [World.drew, World.drewN])); rintro e w8 ⟨rfl, hd⟩; have S8 := Lib.hid (St.wrote hd.out SX3.out rfl rfl rfl rfl); have M8 := Lib.hid (Mods.onto hd.out.2 MX3.out rfl rfl rfl rfl (fun k hk => List.mem_append_right F hk)); have d2 := cell_mods2 M8.out HAB.out c2''; have d3 := cell_mods2 M8.out HAB.out c3''; have V8 := Lib.hid (RowsAt.onto hd.out.2 V3.out rfl (fun k hk => List.mem_append_right F hk)); clear hd))
              all_goals
                go_wp2_with fail
                refine (spoil_any w11 _ (rB.l.length + 1) (rB.l ++ [171]) (by simp) (own_mods HRA.out.less (HM3.out _ M11.out) (fun b hb hb2 => by simp [Value.ownBlock] at hb; subst hb; exact HGA.out hb2)) (by have := HSM.out; simp; omega)).mono ?_
                rintro e w12 ⟨rfl, hm⟩
                have S12 := Lib.hid (S11.out.far hm (fun b hb => by simp [Value.ownBlock] at hb; subst hb; exact HGW.out.1) (fun b hb hb2 => by simp [Value.ownBlock] at hb; subst hb; exact HGA.out (List.mem_append_right _ hb2)) (fun b hb hb2 => by simp [Value.ownBlock] at hb; subst hb; rcases N9.out _ hb2 with h | h; exact HGA.out (List.mem_append_left _ h); have := HGW.out.2; omega))
                clear hm
                go_wp2
                go_meet
                exact ⟨rfl, Lib.hid ⟨_, _, S12.out⟩⟩
        · by_cases k2 : kd = 2
          · subst k2
            as_aux_lemma =>
              clear k1 c2 c3 c0
              go_upto_region 19 with fail
              go_region_held3 (fun w' => w'.cell? ⟨ab, ao + k * 4 + 1, none⟩ = some (.int .i64 n)) (go_keep)
                (first
                  | (go_at_call 17; refine Calls.mono (skip_any _ _ _ N n L (HST.out.ring.keep fun _ _ => rfl)) ?_; rintro e w3 ⟨rfl, hr, hm⟩; have H3 := Lib.hid (show St W w3 (W.heap.size + 1) W.heap.size w1.heap.size N F (L.drop (clamp n L.length)) L from HST.out.onRing hr (by first | exact hm | exact of_drew hm)); have c1' := cell_mods2 (by first | exact hm | exact of_drew hm) (HNA.out.1) c1; clear hr hm)
                  | (go_at_call 18; refine Calls.mono (rskip_any _ _ N n F L (H3.out.ref.keep fun _ _ => rfl)) ?_; rintro e w4 ⟨rfl, hd⟩; have c1'' := cell_mods2 hd.out.mods (HNA.out.2) c1'; obtain ⟨F4, h4, _⟩ := hd.out.onto H3.out rfl rfl rfl rfl; have H4 := Lib.hid h4; clear hd h4))
              all_goals
                go_wp2
                go_meet
                exact ⟨rfl, Lib.hid ⟨_, _, H4.out⟩⟩
          · by_cases k3 : kd = 3
            · subst k3
              as_aux_lemma =>
                clear k1 k2 c2 c3 c0
                go_wp2_with fail
                refine (peek_as wr _ _ N (clamp n L.length) n L (L.take (clamp n L.length)) HST.out.ring rfl HTK.out).mono ?_
                rintro e w3 ⟨A3, c3, rfl, hd⟩
                have H3 := Lib.hid hd.out
                have c1' := cell_mods c1 hd.out.mods (by simp)
                have S3 := Lib.hid (HST.out.quiet hd.out.mods)
                clear hd
                go_wp2_with fail
                refine (rpeek_as w3 _ N n F L S3.out.ref).mono ?_
                rintro e w4 ⟨A4, c4, rfl, hd⟩
                have H4 := Lib.hid hd.out
                clear hd
                go_wp2_with fail
                refine (same_yes w4 A3 A4 (L.take (clamp n L.length)) _ _ c3 c4 HTK.out.symm HTK.out.symm (H3.out.at0 H4.out.mods) (H4.out.at0 (Mods.refl _ _)) HTB.out).mono ?_
                rintro e w5 ⟨rfl, hm⟩
                have M5 := Lib.hid (H4.out.mods.trans hm (by simp))
                have S5 := Lib.hid (S3.out.quiet M5.out)
                clear hm
                go_wp2_with fail
                refine (spoil_any w5 _ _ (L.take (clamp n L.length)) HTK.out.symm (own_mods H3.out.2.2.1 M5.out (by simp)) HTB2.out).mono ?_
                rintro e w6 ⟨rfl, hm⟩
                have S6 := Lib.hid (S5.out.far hm (fun b hb => Nat.le_trans HST.out.mods.size (H3.out.2.2.2.2.2.2 b hb)) (fun b hb hb2 => by have := H3.out.2.2.2.2.2.2 b hb; have := HST.out.ring.lt b hb2; omega) (fun b hb hb2 => by have := H3.out.2.2.2.2.2.2 b hb; have := HST.out.ref.lt b hb2; omega))
                clear hm
                go_wp2
                go_meet
                exact ⟨rfl, Lib.hid ⟨_, _, S6.out⟩⟩
            · by_cases k4 : kd = 4
              · subst k4
                as_aux_lemma =>
                  clear k1 k2 k3 c2 c3 c0
                  go_upto_region 25 with fail
                  go_region_held3 (fun w' => w'.cell? ⟨ab, ao + k * 4 + 1, none⟩ = some (.int .i64 n)) (go_keep)
                    (first
                      | (go_at_call 22; refine Calls.mono (find_as _ _ _ N (idx L (IntKind.u8.wrap n)) L (IntKind.u8.wrap n) (HST.out.ring.keep fun _ _ => rfl) HWR.out.1 HWR.out.2 rfl) ?_; rintro e w3 ⟨rfl, hm⟩; have H3 := Lib.hid (show Mods [] wr w3 from by first | exact hm | exact of_drew hm); have c1' := cell_mods c1 H3.out (by simp); have S3 := Lib.hid (HST.out.quiet H3.out); clear hm)
                      | (go_at_call 23; refine Calls.mono (rfind_any _ _ N F L (IntKind.u8.wrap n) (S3.out.ref.keep fun _ _ => rfl)) ?_; rintro e w4 ⟨rfl, hm⟩; have S4 := Lib.hid (S3.out.quiet (show Mods [] w3 w4 from by first | exact hm | exact of_drew hm)); have c1'' := cell_mods2 hm (by simp) c1'; clear hm))
                  all_goals
                    go_wp2
                    go_meet
                    exact ⟨rfl, Lib.hid ⟨_, _, S4.out⟩⟩
              · have e1 : ((kd : Int) == 1) = false := by simpa using k1
                have e2 : ((kd : Int) == 2) = false := by simpa using k2
                have e3 : ((kd : Int) == 3) = false := by simpa using k3
                have e4 : ((kd : Int) == 4) = false := by simpa using k4
                clear k1 k2 k3 k4
                go_wp2
                go_meet
                exact ⟨rfl, Lib.hid ⟨F, L, HST.out⟩⟩
      case rest =>
        as_aux_lemma =>
          obtain ⟨rfl, hr2⟩ := hcut
          obtain ⟨F2, L2, hst⟩ := hr2.out
          have HS2 := Lib.hid hst
          obtain ⟨A5, cp5, c5, _, _, q1, q2, _, _, _, _, _⟩ := hst.ref.at_
          have hll := hst.ring.len.1
          have HLn := Lib.hid (fun m : Nat => (len_any (wc.drewN m) _ _ N L2 (hst.ring.keep fun _ _ => rfl)).mono fun _ _ ⟨p, q⟩ => (⟨p, q.symm⟩ : _ ∧ _))
          have HRm := Lib.hid (fun m : Nat => room_q (wc.drewN m) _ _ N L2 (hst.ring.keep fun _ _ => rfl))
          have HRx := Lib.hid (fun m : Nat => rroom_q (wc.drewN m) _ N F2 L2 (hst.ref.keep fun _ _ => rfl))
          unfold maxLen at q2
          clear hst hr2
          go_wp2
          go_quiet ((first | (go_at_call 24; exact Calls.quiet_of_same (HLn.out _)) | (go_at_call 25; exact Calls.quiet_of (HRm.out _)) | (go_at_call 26; exact Calls.quiet_of (HRx.out _))))
          go_wp2
          go_roundw
          case rel => exact ⟨k + 1, by omega, by omega, by go_num, Lib.hid ⟨F2, L2, HS2.out.quiet ((Mods.refl [] _).drewN _)⟩⟩
          case measure => simp [intOf]; omega
    · have hcase : (k < len ∧ k = 150) ∨ (¬ k < len) := by omega
      obtain ⟨A5, cp5, c5, _, _, q1, q2, hat5, _, _, hF5, hrf5⟩ := HST.out.ref.at_
      have HA5 := Lib.hid hat5
      have HLB := Lib.hid (show L.length ≤ 1000000000 by have := HST.out.ring.len; omega)
      unfold maxLen at q2
      clear hat5 hF5 hrf5
      as_aux_lemma =>
        rcases hcase with ⟨h3, h4⟩ | h3
        all_goals
          clear hc
          go_wp2_with fail
          go_region_held3 (fun w' => w'.cell? ⟨w1.heap.size, 1, none⟩ = some (.slice A5 L.length cp5)) (go_keep)
            (first
              | (go_at_call 19; refine Calls.mono (peek_as _ _ _ N L.length L.length L L (HST.out.ring.keep fun _ _ => rfl) (by unfold clamp; exact List.take_of_length_le (by omega)) rfl) ?_; rintro e w6 ⟨A6, c6, rfl, hd⟩; have H6 := Lib.hid (show New wr w6 A6 L.length c6 L from by first | exact hd.out | exact hd.out.drew); have c5' := cell_mods c5 H6.out.mods (by simp); clear hd)
              | (go_at_call 20; refine Calls.mono (same_yes _ A6 A5 L L.length L.length c6 cp5 rfl rfl (H6.out.at0 (Mods.refl _ _)) (HA5.out.mods H6.out.mods) HLB.out) ?_; rintro e w9 ⟨rfl, hm⟩; have c5'' := cell_mods2 hm (by simp) c5'; have H9 := Lib.hid (show Mods [] wr w9 from H6.out.mods.trans (by first | exact hm | exact of_drew hm) (by simp)); clear hm)
              | (go_at_call 9; refine Calls.mono (known_any _) ?_; rintro e w10 ⟨rfl, hm⟩; have c5''' := cell_mods2 hm (by simp) c5''; have H10 := Lib.hid (show Mods [] wr w10 from H9.out.trans (by first | exact hm | exact of_drew hm) (by simp)); clear hm))
          all_goals
            go_wp2
            go_ret
            exact ⟨rfl, (HST.out.mods.trans H10.out (by simp)).below⟩
theorem bad (n : Int) (h : n < 1 ∨ 65536 < n) (W : World) (A : Option Addr) (len cap : Nat) (f : Nat → ActAt) (hf : ActsAt W A len f) (hlm : len ≤ maxLen) :
    Calls Try.prog 3 #[.int .i64 n, .slice A len cap] W fun e w' => e = .returned (.bool true) ∧ Below W.heap.size W w' := by
  have hn := eql_nil
  have HH := Lib.hid (heavy_any W A len cap f hf hlm)
  have HN := Lib.hid (new_no n W h)
  have HR := Lib.hid (rnew_no n W h)
  clear hf h hlm
  go_enter Try.func3, Try.ntmps3
  go_wp2_with fail
  refine HH.out.mono ?_
  rintro e w' ⟨t, rfl, rfl, hs⟩
  clear hs HH
  cases t
  · go_wp2_with fail
    refine HN.out.mono ?_
    rintro e w' ⟨rfl, rfl⟩
    go_wp2_with fail
    refine HR.out.mono ?_
    rintro e w' ⟨rfl, rfl⟩
    go_wp2_with fail
    refine (known_any _).mono ?_
    rintro e w1 ⟨rfl, hd⟩
    have H1 := Lib.hid hd
    clear hd
    go_wp2
    go_ret
    exact ⟨rfl, H1.out.below⟩
  · go_wp2_with fail
    refine (known_any _).mono ?_
    rintro e w1 ⟨rfl, hd⟩
    have H1 := Lib.hid hd
    clear hd
    go_wp2
    go_ret
    exact ⟨rfl, H1.out.below⟩
theorem walk (W : World) (n : Int) (hn : (Lit.int .i64 n).wf = true) (v : Value) (ho : IsActs W v) :
    Calls Try.prog 3 #[.int .i64 n, v] W fun e w' => e = .returned (.bool true) ∧ Below W.heap.size W w' := by
  obtain ⟨A, len, cap, f, rfl, hl, hf⟩ : ∃ (A : Option Addr) (len cap : Nat) (f : Nat → ActAt), v = .slice A len cap ∧ len ≤ maxLen ∧ ActsAt W A len f := by
    rcases ho with ⟨a, cap, rfl⟩ | ⟨bb, off, len, cap, f, rfl, h1, h2, h3, h4, h5⟩
    · exact ⟨a, 0, cap, fun _ => ⟨0, 0, ⟨none, [], 0⟩, ⟨none, [], 0⟩⟩, rfl, Nat.zero_le _, fun j hj => by omega⟩
    · exact ⟨_, len, cap, f, rfl, by omega, fun j hj => ⟨bb, off, rfl, h4, h5 j hj⟩⟩
  by_cases h : 1 ≤ n ∧ n ≤ 65536
  · obtain ⟨N, rfl⟩ := Int.eq_ofNat_of_zero_le (show 0 ≤ n by omega)
    exact main N (by omega) (by omega) W A len cap f hf hl
  · exact bad n (by omega) W A len cap f hf hl

theorem own : ownKnob Try.prog.godebug = none := by kernel_rfl
theorem laidOut : laidOutB Try.prog = true := by kernel_rfl
set_option maxRecDepth 100000 in
theorem lifted (os : Os) (started : os.Started) (H : Type) (enc : TypeId × Value → H) :
    ReturnsInHanded {} Try.checked os 3 .any (Rows.ringPlaysSpec.pre6 enc Try.prog Try.f3 Rows.ringPlaysRow.domain false) (Rows.ringPlaysSpec.post enc Try.prog Try.f3 false true false false) := by
  refine returnsInHanded_of_change_sized (C := Try.checked) own started (by kernel_rfl) Try.func3
    (ChangeSpec.witness6 (enc := enc) (C := Try.checked) false ⟨#[], #[.int .i64 0, .slice none 0 0], []⟩ 8 (by kernel_rfl) (by kernel_rfl) (by kernel_rfl) (by kernel_rfl)) ?_
  intro W base args ds gs before hval0 hW hcnd hsz0 _
  have hsz : (DataW.weightsEach Try.prog (Try.f3.params.toList ++ Rows.ringPlaysSpec.plain.varTypes Try.prog) (ds ++ gs)).all (· ≤ reachBytes) = true := hsz0
  have hval : ∀ (j : Nat) t v, Try.f3.params[j]? = some t → args[j]? = some v → Value.okWide Try.prog W .any base t v := hval0
  have hW' := hW
  obtain ⟨p, q, hA0, hV, rfl, hfz, hnd⟩ := hW
  have hA : DataW.TrodAll enc Try.prog W 0 (fun _ => true) true Try.f3.params.toList args.toList ds p := hA0
  rw [Try.params3] at hA hval hsz
  obtain ⟨v0, vs0, d0, ds0, p0, q0, hargs, rfl, rfl, h0, r0⟩ := trodAll_cons hA
  obtain ⟨v1, vs1, d1, ds1, p1, q1, rfl, rfl, rfl, h1, r1⟩ := trodAll_cons r0
  obtain ⟨rfl, rfl, rfl⟩ := trodAll_nil r1
  obtain rfl : args = #[v0, v1] := by cases args; simp_all
  obtain ⟨rfl, rfl⟩ := trodVars_none hV
  obtain ⟨a0, rfl, rfl, rfl, w0⟩ := open_int Try.underlying3 (hval 0 3 v0 rfl rfl) h0
  have k1 := h1
  have lt1 : ∀ x ∈ p1, x.block < W.heap.size := by obtain ⟨m, hm⟩ := k1; exact DataW.trod_lt m _ _ _ hm
  obtain o1 := open_acts (hval 1 22 v1 rfl rfl) k1 (fun n hn => by simpa using List.all_eq_true.1 hsz n (DataW.weights_mem_each (j := 1) (t := 22) rfl rfl n hn))
  clear hA0 hval0 hsz0 hsz
  refine (walk W a0 w0 v1 o1).mono fun e W' ⟨he, bel⟩ => ?_
  subst he
  exact ⟨_, rfl, _, _, _, [], _, [], hW', trodAll_mk1 (shut_bool Try.underlying4 _), (trodAll_cons_mk (shut_int Try.underlying3 w0) (trodAll_cons_mk (Below.trod laidOut (by kernel_rfl) (of_decide_eq_true (by kernel_rfl)) k1 bel lt1) trodAll_mk0)), rfl, bel.frame _, fun h => by cases h⟩

theorem over : Rows.ringPlaysRow.holds Try.pinned (OpenSpec.ofChange Rows.ringPlaysSpec) :=
  OpenClaim.holds_of_wide 3 Try.f3 rfl rfl rfl rfl rfl rfl rfl ⟨rfl, rfl, rfl, rfl, rfl⟩ rfl rfl rfl rfl rfl (by kernel_rfl) Try.func3 (by kernel_rfl)
    (of_decide_eq_true (by kernel_rfl)) (by unfold Func.isWrapper; first | (rw [if_pos (by decide +kernel)]; kernel_rfl) | (rw [if_neg (by decide +kernel)]; exact ⟨rfl, rfl⟩))
    (fun os started H enc _ => lifted os started H enc)

theorem proved : Rows.RingPlaysSaid := over
end Go.Proofs.Ytfgllfgcgihkoaa.ringPlays
