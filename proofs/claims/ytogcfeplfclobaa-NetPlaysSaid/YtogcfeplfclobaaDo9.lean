/- What does of stage 7's law answers: Write, Send. -/
import Derived.Test.YtogcfeplfclobaaRo7
import Derived.Deep.RegionHeld3
import Derived.Deep.CutBlock
import Derived.BigRegion
namespace Go.Proofs.Ytogcfeplfclobaa
open Go.RowKit
set_option maxRecDepth 10000
set_option linter.unusedVariables false
set_option linter.unusedSimpArgs false

set_option maxHeartbeats 4000000 in
theorem does_9 (W w : World) (g x m : Nat) (S : Nt) (c n : Int) (rB : Rw) (vA : Value) (h : Two W w g x S S m m []) (hm : m + 9024 ≤ 900000000) (hB : Came W rB) (hl : rB.l.length ≤ 8000) :
    Calls Try.prog 13 #[.pointer (some ⟨g, 0, none⟩), .pointer (some ⟨x, 0, none⟩), .agg #[.int .i64 9, .int .i64 c, .int .i64 n, .slice rB.A rB.l.length rB.c, vA]] w fun e w' => e = .returned (.bool true) ∧ Hid (Done W w' g x m) := by
  have h1 := h.boxed #[.int .i64 9, .int .i64 c, .int .i64 n, .slice rB.A rB.l.length rB.c, vA] 35
  have r1 := Row.new w 35 #[.int .i64 9, .int .i64 c, .int .i64 n, .slice rB.A rB.l.length rB.c, vA]
  obtain ⟨w0, hw0⟩ : ∃ w0, w0 = w.alloc (.cells #[.int .i64 9, .int .i64 c, .int .i64 n, .slice rB.A rB.l.length rB.c, vA] 35) := ⟨_, rfl⟩
  obtain ⟨bx, hbx⟩ : ∃ bx, bx = w.heap.size := ⟨_, rfl⟩
  have HW := Lib.hid (show W.heap.size ≤ w.heap.size by obtain ⟨F, G, h⟩ := h; exact h.mods.size)
  have hw1 := h1
  rw [← hw0, ← hbx] at h1 r1
  have HWW := Lib.hid (show W.heap.size ≤ w0.heap.size by have := HW.out; rw [hw0]; simp; omega)
  obtain ⟨N, hN⟩ : ∃ N, S.writeK c rB.l = N := ⟨_, rfl⟩
  obtain ⟨E, hE⟩ : ∃ E, S.writeE c rB.l = E := ⟨_, rfl⟩
  obtain ⟨S', hS⟩ : ∃ S', S.write c rB.l = S' := ⟨_, rfl⟩
  have HB := Lib.hid hB
  have HL := Lib.hid hl
  have H1 := Lib.hid h1
  have R1 := Lib.hid r1
  have q1 : w0.cell? ⟨bx, 1, none⟩ = some (.int .i64 c) := r1.cell 1
  have q3 : w0.cell? ⟨bx, 3, none⟩ = some (.slice rB.A rB.l.length rB.c) := r1.cell 3
  have C1 := Lib.hid (fun (w2 w1 : World) (K : List Nat) (ga ca : Nat) (h2 : Two W w2 g x S S m m K) (hq : Mods [] w2 w1) (hy : Ry w2 ga ca rB.l) (hg : ga ∈ K) => writeT W w2 w1 g x m m S S K c (some ⟨ga, 0, none⟩) rB.l.length ca rB.l h2 hq (by omega) (fun F hF => (hy.mods hq (by simp)).cut (fun hg2 => (hF ga hg2).2 hg) hB.1.range) rfl (by have := hy.cap; omega) hy.cap.2 N E S' hN hE hS)
  have C2 := Lib.hid (fun (w2 : World) (K : List Nat) (h2 : Two W w2 g x S' S (m + rB.l.length) m K) => rwriteT W w2 w2 g x (m + rB.l.length) m S' S K c rB.A rB.l.length rB.c rB.l h2 (Mods.refl _ _) (by omega) (fun F hF => (h2.came (Mods.refl _ _) hB (fun k hk => (hF k hk).1)).1) rfl hB.2.1 (by unfold maxLen; have := hB.2.2; omega) N E S' hN hE hS)
  clear h hw1 h1 r1 hN hE hS hB hl
  go_enter Try.func13, Try.ntmps13
  go_upto_region 34 with fail
  rw [← hw0, ← hbx]
  clear hw0 hbx
  go_wp2_with fail
  refine (roomyT W w0 w0 g x m m S S [bx] rB H1.out (Mods.refl _ _) HB.out (by have := HL.out; omega)).mono ?_
  rintro e w2 ⟨ga, ca, rfl, hd⟩
  have H2 := Lib.hid hd.out.1
  have Y2 := Lib.hid hd.out.2.2.1
  have G2 := Lib.hid (Nat.le_trans HWW.out hd.out.2.2.2)
  have R2 := Lib.hid (R1.out.mods hd.out.2.1 (by simp))
  have z1 : w2.cell? ⟨bx, 1, none⟩ = some (.int .i64 c) := R2.out.cell 1
  have z3 : w2.cell? ⟨bx, 3, none⟩ = some (.slice rB.A rB.l.length rB.c) := R2.out.cell 3
  have k1 : (0 : Int) ≤ (rB.l.length : Int) := by omega
  have k2 : (rB.l.length : Int) ≤ (ca : Int) := by have := Y2.out.cap; omega
  clear hd q1 q3 H1 R1
  go_upto_region 35 with fail
  go_region_held3 (fun w' => w'.cell? ⟨bx, 1, none⟩ = some (.int .i64 c) ∧ w'.cell? ⟨bx, 3, none⟩ = some (.slice rB.A rB.l.length rB.c)) (go_keep)
    ((go_at_call 21; refine Calls.mono (C1.out w2 _ _ ga ca H2.out ?_ Y2.out (by simp)) ?_; exact (Mods.refl [] w2).same rfl rfl rfl rfl; rintro e w3 ⟨rfl, hd⟩; have H3 := Lib.hid hd.out.1; have Y3 := Lib.hid (Y2.out.keepK hd.out.2 (by simp)); have R3 := Lib.hid (R2.out.keep (hd.out.2 _ (by simp))); have y1 : w3.cell? ⟨bx, 1, none⟩ = some (.int .i64 c) := R3.out.cell 1; have y3 : w3.cell? ⟨bx, 3, none⟩ = some (.slice rB.A rB.l.length rB.c) := R3.out.cell 3; clear hd))
  all_goals
    clear z1 z3 H2 Y2 R2
    go_wp2_with fail
    refine (C2.out w3 _ H3.out).mono ?_
    rintro e w4 ⟨rfl, hd⟩
    have H4 := Lib.hid hd.out.1
    have Y4 := Lib.hid (Y3.out.keepK hd.out.2 (by simp))
    have R4 := Lib.hid (R3.out.keep (hd.out.2 _ (by simp)))
    have x3 : w4.cell? ⟨bx, 3, none⟩ = some (.slice rB.A rB.l.length rB.c) := R4.out.cell 3
    clear hd y1 y3 H3 Y3 R3
    go_wp2_with fail
    refine (standsT W w4 w4 g x _ _ ga ca S' S' _ rB H4.out (Mods.refl _ _) Y4.out HB.out (by have := HL.out; omega)).mono ?_
    rintro e w5 ⟨rfl, hd⟩
    have H5 := Lib.hid hd.out.1
    have Y5 := Lib.hid (Y4.out.mods hd.out.2 (by simp))
    clear hd x3 H4 Y4 R4
    go_wp2_with fail
    refine (spoilT W w5 w5 g x _ _ ga ca S' S' _ rB.l H5.out (Mods.refl _ _) Y5.out (by simp) G2.out (by have := HL.out; omega)).mono ?_
    rintro e w6 ⟨rfl, hd⟩
    have H6 := Lib.hid hd.out
    clear hd
    go_wp2
    go_ret
    exact ⟨by simp, Lib.hid (H6.out.done (Mods.refl _ _) (by have := HL.out; omega) (by have := HL.out; omega) hm)⟩
/-- Two rows that stand side by side in a new one. -/
theorem parts_two {w w1 : World} {F : List Nat} (r1 r2 : Rw) (h1 : r1.Ok w F) (h2 : r2.Ok w F) (hF : ∀ k ∈ F, k < w.heap.size) (hq : Mods [] (w.alloc (.cells #[.slice r1.A r1.l.length r1.c, .slice r2.A r2.l.length r2.c] 33)) w1) : Parts w1 F (some ⟨w.heap.size, 0, none⟩) [r1, r2] :=
  (Parts.of_rows (rows_two r1 r2 rfl h1 h2 (fun hb => by have := hF _ hb; omega))).mods (hq.more (by simp))
set_option maxHeartbeats 8000000 in
theorem does_2 (W w : World) (g x m : Nat) (S : Nt) (c n : Int) (rB rA : Rw) (h : Two W w g x S S m m []) (hm : m + 9024 ≤ 900000000) (hB : Came W rB) (hA : Came W rA) (hl : rB.l.length ≤ 8000 ∧ rA.l.length ≤ 8000) :
    Calls Try.prog 13 #[.pointer (some ⟨g, 0, none⟩), .pointer (some ⟨x, 0, none⟩), .agg #[.int .i64 2, .int .i64 c, .int .i64 n, .slice rB.A rB.l.length rB.c, .slice rA.A rA.l.length rA.c]] w fun e w' => e = .returned (.bool true) ∧ Hid (Done W w' g x m) := by
  have h1 := h.boxed #[.int .i64 2, .int .i64 c, .int .i64 n, .slice rB.A rB.l.length rB.c, .slice rA.A rA.l.length rA.c] 35
  have r1 := Row.new w 35 #[.int .i64 2, .int .i64 c, .int .i64 n, .slice rB.A rB.l.length rB.c, .slice rA.A rA.l.length rA.c]
  obtain ⟨w0, hw0⟩ : ∃ w0, w0 = w.alloc (.cells #[.int .i64 2, .int .i64 c, .int .i64 n, .slice rB.A rB.l.length rB.c, .slice rA.A rA.l.length rA.c] 35) := ⟨_, rfl⟩
  obtain ⟨bx, hbx⟩ : ∃ bx, bx = w.heap.size := ⟨_, rfl⟩
  have HW := Lib.hid (show W.heap.size ≤ w.heap.size by obtain ⟨F, G, h⟩ := h; exact h.mods.size)
  rw [← hw0, ← hbx] at h1 r1
  have HWW := Lib.hid (show W.heap.size ≤ w0.heap.size by have := HW.out; rw [hw0]; simp; omega)
  obtain ⟨N, hN⟩ : ∃ N, S.sendK c (rB.l ++ rA.l) = N := ⟨_, rfl⟩
  obtain ⟨E, hE⟩ : ∃ E, S.sendE c = E := ⟨_, rfl⟩
  obtain ⟨S', hS⟩ : ∃ S', S.send c (rB.l ++ rA.l) = S' := ⟨_, rfl⟩
  have HB := Lib.hid hB
  have HA := Lib.hid hA
  have HL := Lib.hid hl
  have H1 := Lib.hid h1
  have R1 := Lib.hid r1
  have q3 : w0.cell? ⟨bx, 3, none⟩ = some (.slice rB.A rB.l.length rB.c) := r1.cell 3
  have q4 : w0.cell? ⟨bx, 4, none⟩ = some (.slice rA.A rA.l.length rA.c) := r1.cell 4
  have C1 := Lib.hid (fun (w2 w1 : World) (K : List Nat) (ga ca gb cb : Nat) (h2 : Two W w2 g x S S m m K) (hq : Mods [] (w2.alloc (.cells #[.slice (some ⟨ga, 0, none⟩) rB.l.length ca, .slice (some ⟨gb, 0, none⟩) rA.l.length cb] 33)) w1) (hy : Ry w2 ga ca rB.l) (hg : ga ∈ K) (hz : Ry w2 gb cb rA.l) (hg2 : gb ∈ K) => sendT W w2 w1 g x m m S S K c (some ⟨w2.heap.size, 0, none⟩) 2 2 [⟨some ⟨ga, 0, none⟩, rB.l, ca⟩, ⟨some ⟨gb, 0, none⟩, rA.l, cb⟩] h2 (((Mods.refl [] w2).alloc _).trans hq (by simp)) (by omega) (fun F hF => parts_two _ _ (hy.ok (fun h3 => (hF ga h3).2.1 hg) hB.1.range) (hz.ok (fun h3 => (hF gb h3).2.1 hg2) hA.1.range) (fun k hk => (hF k hk).2.2) hq) rfl (by unfold maxLen; omega) (rB.l ++ rA.l) N E S' (by simp [flatR]) hN hE hS)
  have C2 := Lib.hid (fun (w2 w1 : World) (K : List Nat) (h2 : Two W w2 g x S' S (m + 1) m K) (hq : Mods [] (w2.alloc (.cells #[.slice rB.A rB.l.length rB.c, .slice rA.A rA.l.length rA.c] 33)) w1) => rsendT W w2 w1 g x (m + 1) m S' S K c (some ⟨w2.heap.size, 0, none⟩) 2 2 [rB, rA] h2 (((Mods.refl [] w2).alloc _).trans hq (by simp)) (by omega) (fun F hF => parts_two _ _ (h2.came (Mods.refl _ _) hB (fun k hk => (hF k hk).1)) (h2.came (Mods.refl _ _) hA (fun k hk => (hF k hk).1)) (fun k hk => (hF k hk).2.2) hq) rfl (by unfold maxLen; omega) (rB.l ++ rA.l) N E S' (by simp [flatR]) hN hE hS)
  clear h h1 r1 hN hE hS hB hA hl
  go_enter Try.func13, Try.ntmps13
  go_upto_region 7 with fail
  rw [← hw0, ← hbx]
  clear hw0 hbx
  go_region_held3 (fun w' => w'.cell? ⟨bx, 3, none⟩ = some (.slice rB.A rB.l.length rB.c) ∧ w'.cell? ⟨bx, 4, none⟩ = some (.slice rA.A rA.l.length rA.c)) (go_keep)
    (first
      | (go_at_call 36; have hx := Y2; clear hx; refine Calls.mono (roomyT W w2 _ g x m m S S _ rA H2.out ?_ HA.out (by have := HL.out; omega)) ?_; exact (Mods.refl [] w2).same rfl rfl rfl rfl; rintro e w3 ⟨gb, cb, rfl, hd⟩; have H3 := Lib.hid hd.out.1; have Z3 := Lib.hid hd.out.2.2.1; have Y3 := Lib.hid (Y2.out.mods hd.out.2.1 (by simp)); have R3 := Lib.hid (R2.out.mods hd.out.2.1 (by simp)); have y3 : w3.cell? ⟨bx, 3, none⟩ = some (.slice rB.A rB.l.length rB.c) := R3.out.cell 3; have y4 : w3.cell? ⟨bx, 4, none⟩ = some (.slice rA.A rA.l.length rA.c) := R3.out.cell 4; clear hd)
      | (go_at_call 36; refine Calls.mono (roomyT W w0 _ g x m m S S [bx] rB H1.out ?_ HB.out (by have := HL.out; omega)) ?_; exact (Mods.refl [] w0).same rfl rfl rfl rfl; rintro e w2 ⟨ga, ca, rfl, hd⟩; have H2 := Lib.hid hd.out.1; have Y2 := Lib.hid hd.out.2.2.1; have G2 := Lib.hid (Nat.le_trans HWW.out hd.out.2.2.2); have R2 := Lib.hid (R1.out.mods hd.out.2.1 (by simp)); have z3 : w2.cell? ⟨bx, 3, none⟩ = some (.slice rB.A rB.l.length rB.c) := R2.out.cell 3; have z4 : w2.cell? ⟨bx, 4, none⟩ = some (.slice rA.A rA.l.length rA.c) := R2.out.cell 4; clear hd))
  all_goals
    have k1 : (0 : Int) ≤ (rB.l.length : Int) := by omega
    have k2 : (rB.l.length : Int) ≤ (ca : Int) := by have := Y3.out.cap; omega
    have k3 : (0 : Int) ≤ (rA.l.length : Int) := by omega
    have k4 : (rA.l.length : Int) ≤ (cb : Int) := by have := Z3.out.cap; omega
    have y1 : w3.cell? ⟨bx, 1, none⟩ = some (.int .i64 c) := R3.out.cell 1
    clear q3 q4 z3 z4 H1 R1 H2 Y2 R2
    go_upto_region 8 with fail
    go_region_held3 (fun w' => w'.cell? ⟨bx, 1, none⟩ = some (.int .i64 c) ∧ w'.cell? ⟨bx, 3, none⟩ = some (.slice rB.A rB.l.length rB.c) ∧ w'.cell? ⟨bx, 4, none⟩ = some (.slice rA.A rA.l.length rA.c)) (go_keep)
      ((go_at_call 19; refine Calls.mono (C1.out w3 _ _ ga ca gb cb H3.out ?_ Y3.out (by simp) Z3.out (by simp)) ?_; exact (Mods.refl [] _).same rfl rfl rfl rfl; rintro e w4 ⟨rfl, hd⟩; have H4 := Lib.hid hd.out.1; have Y4 := Lib.hid (Y3.out.keepK hd.out.2 (by simp)); have Z4 := Lib.hid (Z3.out.keepK hd.out.2 (by simp)); have R4 := Lib.hid (R3.out.keep (hd.out.2 _ (by simp))); have x1 : w4.cell? ⟨bx, 1, none⟩ = some (.int .i64 c) := R4.out.cell 1; have x3 : w4.cell? ⟨bx, 3, none⟩ = some (.slice rB.A rB.l.length rB.c) := R4.out.cell 3; have x4 : w4.cell? ⟨bx, 4, none⟩ = some (.slice rA.A rA.l.length rA.c) := R4.out.cell 4; clear hd))
    all_goals
      clear y1 y3 y4 H3 Y3 Z3 R3
      go_wp2_with fail
      refine (C2.out w4 _ _ H4.out (Mods.refl _ _)).mono ?_
      rintro e w5 ⟨rfl, hd⟩
      have H5 := Lib.hid hd.out.1
      have Y5 := Lib.hid (Y4.out.keepK hd.out.2 (by simp))
      have Z5 := Lib.hid (Z4.out.keepK hd.out.2 (by simp))
      have R5 := Lib.hid (R4.out.keep (hd.out.2 _ (by simp)))
      have v3 : w5.cell? ⟨bx, 3, none⟩ = some (.slice rB.A rB.l.length rB.c) := R5.out.cell 3
      have v4 : w5.cell? ⟨bx, 4, none⟩ = some (.slice rA.A rA.l.length rA.c) := R5.out.cell 4
      clear hd x1 x3 x4 H4 Y4 Z4 R4
      go_wp2_with fail
      refine (standsT W w5 w5 g x _ _ ga ca S' S' _ rB H5.out (Mods.refl _ _) Y5.out HB.out (by have := HL.out; omega)).mono ?_
      rintro e w6 ⟨rfl, hd⟩
      have H6 := Lib.hid hd.out.1
      have Y6 := Lib.hid (Y5.out.mods hd.out.2 (by simp))
      have Z6 := Lib.hid (Z5.out.mods hd.out.2 (by simp))
      have R6 := Lib.hid (R5.out.mods hd.out.2 (by simp))
      have u4 : w6.cell? ⟨bx, 4, none⟩ = some (.slice rA.A rA.l.length rA.c) := R6.out.cell 4
      clear hd v3 v4 H5 Y5 Z5 R5
      go_wp2_with fail
      refine (standsT W w6 w6 g x _ _ gb cb S' S' _ rA H6.out (Mods.refl _ _) Z6.out HA.out (by have := HL.out; omega)).mono ?_
      rintro e w7 ⟨rfl, hd⟩
      have H7 := Lib.hid hd.out.1
      have Y7 := Lib.hid (Y6.out.mods hd.out.2 (by simp))
      clear hd u4 H6 Y6 Z6 R6
      go_wp2_with fail
      refine (spoilT W w7 w7 g x _ _ ga ca S' S' _ rB.l H7.out (Mods.refl _ _) Y7.out (by simp) G2.out (by have := HL.out; omega)).mono ?_
      rintro e w8 ⟨rfl, hd⟩
      have H8 := Lib.hid hd.out
      clear hd
      go_wp2
      go_ret
      exact ⟨by simp, Lib.hid (H8.out.done (Mods.refl _ _) (by omega) (by omega) hm)⟩
end Go.Proofs.Ytogcfeplfclobaa
