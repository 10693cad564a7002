/- What does of stage 7's law answers: the kinds with both calls in one comparison (Half, Reset, Open, Shut). -/
import Derived.Test.YtogcfeplfclobaaDo1
import Derived.Deep.RegionHeld3
import Derived.Deep.CutBlock
import Derived.BigRegion
namespace Go.Proofs.Ytogcfeplfclobaa
open Go.RowKit
set_option maxRecDepth 10000
set_option linter.unusedVariables false
set_option linter.unusedSimpArgs false

theorem shutT (W w : World) (g x m n : Nat) (S T : Nt) (K : List Nat) (c : Int) (h : Two W w g x S T m n K) :
    Calls Try.prog 33 #[.pointer (some ⟨g, 0, none⟩), .int .i64 c] w fun e w' => e = .returned (.int .i64 (S.e2 c)) ∧ Hid (Two W w' g x (S.shut c) T m n K ∧ KeepK K w w') := by
  obtain ⟨F, G, h⟩ := h
  exact (shut_any w g m F S c h.net).mono fun e w' ⟨h1, hd⟩ => ⟨h1, Lib.hid (h.netTo hd.out)⟩
theorem rshutT (W w : World) (g x m n : Nat) (S T : Nt) (K : List Nat) (c : Int) (h : Two W w g x S T m n K) :
    Calls Try.prog 46 #[.pointer (some ⟨x, 0, none⟩), .int .i64 c] w fun e w' => e = .returned (.int .i64 (T.e2 c)) ∧ Hid (Two W w' g x S (T.shut c) m n K ∧ KeepK K w w') := by
  obtain ⟨F, G, h⟩ := h
  exact (rshut_any w x n G T c h.ref).mono fun e w' ⟨h1, hd⟩ => ⟨h1, Lib.hid (h.refTo hd.out)⟩
set_option maxHeartbeats 4000000 in
theorem does_3 (W w : World) (g x m : Nat) (S : Nt) (c n : Int) (vB vA : Value) (h : Two W w g x S S m m []) (hm : m + 9024 ≤ 900000000) :
    Calls Try.prog 13 #[.pointer (some ⟨g, 0, none⟩), .pointer (some ⟨x, 0, none⟩), .agg #[.int .i64 3, .int .i64 c, .int .i64 n, vB, vA]] w fun e w' => e = .returned (.bool true) ∧ Hid (Done W w' g x m) := by
  have h1 := h.boxed #[.int .i64 3, .int .i64 c, .int .i64 n, vB, vA] 35
  have r1 := Row.new w 35 #[.int .i64 3, .int .i64 c, .int .i64 n, vB, vA]
  obtain ⟨w0, hw0⟩ : ∃ w0, w0 = w.alloc (.cells #[.int .i64 3, .int .i64 c, .int .i64 n, vB, vA] 35) := ⟨_, rfl⟩
  obtain ⟨bx, hbx⟩ : ∃ bx, bx = w.heap.size := ⟨_, rfl⟩
  rw [← hw0, ← hbx] at h1 r1
  obtain ⟨E, hE⟩ : ∃ E, S.e1 c = E := ⟨_, rfl⟩
  have C1 := Lib.hid (show ∀ w1, Mods [] w0 w1 → Calls Try.prog 31 #[.pointer (some ⟨g, 0, none⟩), .int .i64 c] w1 fun e w' => e = .returned (.int .i64 E) ∧ Hid (Two W w' g x (S.half c) S (m + 1) m [bx] ∧ KeepK [bx] w0 w') from fun w1 hq => (halfT W w1 g x m m S S [bx] c (h1.quiet hq) (by omega)).mono fun e w' ⟨he, hd⟩ => ⟨by rw [he, hE], Lib.hid ⟨hd.out.1, fun k hk => (hd.out.2 k hk).trans (hq.block k (by simp at hk; subst hk; exact r1.lt) (by simp))⟩⟩)
  have C2 := Lib.hid (show ∀ w2 w1, Mods [] w2 w1 → Two W w2 g x (S.half c) S (m + 1) m [bx] → Calls Try.prog 40 #[.pointer (some ⟨x, 0, none⟩), .int .i64 c] w1 fun e w' => e = .returned (.int .i64 E) ∧ Hid (Two W w' g x (S.half c) (S.half c) (m + 1) (m + 1) [bx] ∧ KeepK [bx] w2 w') from fun w2 w1 hq h2 => (rhalfT W w1 g x (m + 1) m (S.half c) S [bx] c (h2.quiet hq) (by omega)).mono fun e w' ⟨he, hd⟩ => ⟨by rw [he, hE], Lib.hid ⟨hd.out.1, fun k hk => (hd.out.2 k hk).trans (hq.block k (by obtain ⟨F, G, h3⟩ := h2; exact h3.k k hk) (by simp))⟩⟩)
  have R1 := Lib.hid r1
  have q1 : w0.cell? ⟨bx, 1, none⟩ = some (.int .i64 c) := r1.cell 1
  have q2 : w0.cell? ⟨bx, 2, none⟩ = some (.int .i64 n) := r1.cell 2
  clear h h1 r1 hE
  go_enter Try.func13, Try.ntmps13
  go_upto_region 14 with fail
  rw [← hw0, ← hbx]
  clear hw0 hbx
  go_region_held3 (fun w' => w'.cell? ⟨bx, 1, none⟩ = some (.int .i64 c) ∧ w'.cell? ⟨bx, 2, none⟩ = some (.int .i64 n)) (go_keep)
    (first
      | (go_at_call 31; refine Calls.mono (C1.out _ ?_) ?_; exact (Mods.refl [] w0).same rfl rfl rfl rfl; rintro e w2 ⟨rfl, hd⟩; have H2 := Lib.hid hd.out.1; have R2 := Lib.hid (R1.out.keep (hd.out.2 _ (by simp))); have z1 : w2.cell? ⟨bx, 1, none⟩ = some (.int .i64 c) := R2.out.cell 1; have z2 : w2.cell? ⟨bx, 2, none⟩ = some (.int .i64 n) := R2.out.cell 2; clear hd)
      | (go_at_call 40; refine Calls.mono (C2.out w2 _ ?_ H2.out) ?_; exact (Mods.refl [] w2).same rfl rfl rfl rfl; rintro e w3 ⟨rfl, hd⟩; have H3 := Lib.hid hd.out.1; have R3 := Lib.hid (R2.out.keep (hd.out.2 _ (by simp))); have y1 : w3.cell? ⟨bx, 1, none⟩ = some (.int .i64 c) := R3.out.cell 1; have y2 : w3.cell? ⟨bx, 2, none⟩ = some (.int .i64 n) := R3.out.cell 2; clear hd))
  all_goals
    go_wp2
    go_ret
    exact ⟨by simp, Lib.hid (H3.out.done ((Mods.refl [] w3).same rfl rfl rfl rfl) (by omega) (by omega) hm)⟩
set_option maxHeartbeats 4000000 in
theorem does_4 (W w : World) (g x m : Nat) (S : Nt) (c n : Int) (vB vA : Value) (h : Two W w g x S S m m []) (hm : m + 9024 ≤ 900000000) :
    Calls Try.prog 13 #[.pointer (some ⟨g, 0, none⟩), .pointer (some ⟨x, 0, none⟩), .agg #[.int .i64 4, .int .i64 c, .int .i64 n, vB, vA]] w fun e w' => e = .returned (.bool true) ∧ Hid (Done W w' g x m) := by
  have h1 := h.boxed #[.int .i64 4, .int .i64 c, .int .i64 n, vB, vA] 35
  have r1 := Row.new w 35 #[.int .i64 4, .int .i64 c, .int .i64 n, vB, vA]
  obtain ⟨w0, hw0⟩ : ∃ w0, w0 = w.alloc (.cells #[.int .i64 4, .int .i64 c, .int .i64 n, vB, vA] 35) := ⟨_, rfl⟩
  obtain ⟨bx, hbx⟩ : ∃ bx, bx = w.heap.size := ⟨_, rfl⟩
  rw [← hw0, ← hbx] at h1 r1
  obtain ⟨E, hE⟩ : ∃ E, S.e1 c = E := ⟨_, rfl⟩
  have C1 := Lib.hid (show ∀ w1, Mods [] w0 w1 → Calls Try.prog 32 #[.pointer (some ⟨g, 0, none⟩), .int .i64 c] w1 fun e w' => e = .returned (.int .i64 E) ∧ Hid (Two W w' g x (S.reset c) S (m + 1) m [bx] ∧ KeepK [bx] w0 w') from fun w1 hq => (resetT W w1 g x m m S S [bx] c (h1.quiet hq) (by omega)).mono fun e w' ⟨he, hd⟩ => ⟨by rw [he, hE], Lib.hid ⟨hd.out.1, fun k hk => (hd.out.2 k hk).trans (hq.block k (by simp at hk; subst hk; exact r1.lt) (by simp))⟩⟩)
  have C2 := Lib.hid (show ∀ w2 w1, Mods [] w2 w1 → Two W w2 g x (S.reset c) S (m + 1) m [bx] → Calls Try.prog 41 #[.pointer (some ⟨x, 0, none⟩), .int .i64 c] w1 fun e w' => e = .returned (.int .i64 E) ∧ Hid (Two W w' g x (S.reset c) (S.reset c) (m + 1) (m + 1) [bx] ∧ KeepK [bx] w2 w') from fun w2 w1 hq h2 => (rresetT W w1 g x (m + 1) m (S.reset c) S [bx] c (h2.quiet hq) (by omega)).mono fun e w' ⟨he, hd⟩ => ⟨by rw [he, hE], Lib.hid ⟨hd.out.1, fun k hk => (hd.out.2 k hk).trans (hq.block k (by obtain ⟨F, G, h3⟩ := h2; exact h3.k k hk) (by simp))⟩⟩)
  have R1 := Lib.hid r1
  have q1 : w0.cell? ⟨bx, 1, none⟩ = some (.int .i64 c) := r1.cell 1
  have q2 : w0.cell? ⟨bx, 2, none⟩ = some (.int .i64 n) := r1.cell 2
  clear h h1 r1 hE
  go_enter Try.func13, Try.ntmps13
  go_upto_region 16 with fail
  rw [← hw0, ← hbx]
  clear hw0 hbx
  go_region_held3 (fun w' => w'.cell? ⟨bx, 1, none⟩ = some (.int .i64 c) ∧ w'.cell? ⟨bx, 2, none⟩ = some (.int .i64 n)) (go_keep)
    (first
      | (go_at_call 32; refine Calls.mono (C1.out _ ?_) ?_; exact (Mods.refl [] w0).same rfl rfl rfl rfl; rintro e w2 ⟨rfl, hd⟩; have H2 := Lib.hid hd.out.1; have R2 := Lib.hid (R1.out.keep (hd.out.2 _ (by simp))); have z1 : w2.cell? ⟨bx, 1, none⟩ = some (.int .i64 c) := R2.out.cell 1; have z2 : w2.cell? ⟨bx, 2, none⟩ = some (.int .i64 n) := R2.out.cell 2; clear hd)
      | (go_at_call 41; refine Calls.mono (C2.out w2 _ ?_ H2.out) ?_; exact (Mods.refl [] w2).same rfl rfl rfl rfl; rintro e w3 ⟨rfl, hd⟩; have H3 := Lib.hid hd.out.1; have R3 := Lib.hid (R2.out.keep (hd.out.2 _ (by simp))); have y1 : w3.cell? ⟨bx, 1, none⟩ = some (.int .i64 c) := R3.out.cell 1; have y2 : w3.cell? ⟨bx, 2, none⟩ = some (.int .i64 n) := R3.out.cell 2; clear hd))
  all_goals
    go_wp2
    go_ret
    exact ⟨by simp, Lib.hid (H3.out.done ((Mods.refl [] w3).same rfl rfl rfl rfl) (by omega) (by omega) hm)⟩
set_option maxHeartbeats 4000000 in
theorem does_5 (W w : World) (g x m : Nat) (S : Nt) (c n : Int) (vB vA : Value) (h : Two W w g x S S m m []) (hm : m + 9024 ≤ 900000000) :
    Calls Try.prog 13 #[.pointer (some ⟨g, 0, none⟩), .pointer (some ⟨x, 0, none⟩), .agg #[.int .i64 5, .int .i64 c, .int .i64 n, vB, vA]] w fun e w' => e = .returned (.bool true) ∧ Hid (Done W w' g x m) := by
  have h1 := h.boxed #[.int .i64 5, .int .i64 c, .int .i64 n, vB, vA] 35
  have r1 := Row.new w 35 #[.int .i64 5, .int .i64 c, .int .i64 n, vB, vA]
  obtain ⟨w0, hw0⟩ : ∃ w0, w0 = w.alloc (.cells #[.int .i64 5, .int .i64 c, .int .i64 n, vB, vA] 35) := ⟨_, rfl⟩
  obtain ⟨bx, hbx⟩ : ∃ bx, bx = w.heap.size := ⟨_, rfl⟩
  rw [← hw0, ← hbx] at h1 r1
  obtain ⟨E, hE⟩ : ∃ E, S.openE c n = E := ⟨_, rfl⟩
  have C1 := Lib.hid (show ∀ w1, Mods [] w0 w1 → Calls Try.prog 20 #[.pointer (some ⟨g, 0, none⟩), .int .i64 c, .int .i64 n] w1 fun e w' => e = .returned (.int .i64 E) ∧ Hid (Two W w' g x (S.open_ c n) S (m + 1) m [bx] ∧ KeepK [bx] w0 w') from fun w1 hq => (openT W w1 g x m m S S [bx] c n (h1.quiet hq) (by omega)).mono fun e w' ⟨he, hd⟩ => ⟨by rw [he, hE], Lib.hid ⟨hd.out.1, fun k hk => (hd.out.2 k hk).trans (hq.block k (by simp at hk; subst hk; exact r1.lt) (by simp))⟩⟩)
  have C2 := Lib.hid (show ∀ w2 w1, Mods [] w2 w1 → Two W w2 g x (S.open_ c n) S (m + 1) m [bx] → Calls Try.prog 42 #[.pointer (some ⟨x, 0, none⟩), .int .i64 c, .int .i64 n] w1 fun e w' => e = .returned (.int .i64 E) ∧ Hid (Two W w' g x (S.open_ c n) (S.open_ c n) (m + 1) (m + 1) [bx] ∧ KeepK [bx] w2 w') from fun w2 w1 hq h2 => (ropenT W w1 g x (m + 1) m (S.open_ c n) S [bx] c n (h2.quiet hq) (by omega)).mono fun e w' ⟨he, hd⟩ => ⟨by rw [he, hE], Lib.hid ⟨hd.out.1, fun k hk => (hd.out.2 k hk).trans (hq.block k (by obtain ⟨F, G, h3⟩ := h2; exact h3.k k hk) (by simp))⟩⟩)
  have R1 := Lib.hid r1
  have q1 : w0.cell? ⟨bx, 1, none⟩ = some (.int .i64 c) := r1.cell 1
  have q2 : w0.cell? ⟨bx, 2, none⟩ = some (.int .i64 n) := r1.cell 2
  clear h h1 r1 hE
  go_enter Try.func13, Try.ntmps13
  go_upto_region 18 with fail
  rw [← hw0, ← hbx]
  clear hw0 hbx
  go_region_held3 (fun w' => w'.cell? ⟨bx, 1, none⟩ = some (.int .i64 c) ∧ w'.cell? ⟨bx, 2, none⟩ = some (.int .i64 n)) (go_keep)
    (first
      | (go_at_call 20; refine Calls.mono (C1.out _ ?_) ?_; exact (Mods.refl [] w0).same rfl rfl rfl rfl; rintro e w2 ⟨rfl, hd⟩; have H2 := Lib.hid hd.out.1; have R2 := Lib.hid (R1.out.keep (hd.out.2 _ (by simp))); have z1 : w2.cell? ⟨bx, 1, none⟩ = some (.int .i64 c) := R2.out.cell 1; have z2 : w2.cell? ⟨bx, 2, none⟩ = some (.int .i64 n) := R2.out.cell 2; clear hd)
      | (go_at_call 42; refine Calls.mono (C2.out w2 _ ?_ H2.out) ?_; exact (Mods.refl [] w2).same rfl rfl rfl rfl; rintro e w3 ⟨rfl, hd⟩; have H3 := Lib.hid hd.out.1; have R3 := Lib.hid (R2.out.keep (hd.out.2 _ (by simp))); have y1 : w3.cell? ⟨bx, 1, none⟩ = some (.int .i64 c) := R3.out.cell 1; have y2 : w3.cell? ⟨bx, 2, none⟩ = some (.int .i64 n) := R3.out.cell 2; clear hd))
  all_goals
    go_wp2
    go_ret
    exact ⟨by simp, Lib.hid (H3.out.done ((Mods.refl [] w3).same rfl rfl rfl rfl) (by omega) (by omega) hm)⟩
set_option maxHeartbeats 4000000 in
theorem does_10 (W w : World) (g x m : Nat) (S : Nt) (c n : Int) (vB vA : Value) (h : Two W w g x S S m m []) (hm : m + 9024 ≤ 900000000) :
    Calls Try.prog 13 #[.pointer (some ⟨g, 0, none⟩), .pointer (some ⟨x, 0, none⟩), .agg #[.int .i64 10, .int .i64 c, .int .i64 n, vB, vA]] w fun e w' => e = .returned (.bool true) ∧ Hid (Done W w' g x m) := by
  have h1 := h.boxed #[.int .i64 10, .int .i64 c, .int .i64 n, vB, vA] 35
  have r1 := Row.new w 35 #[.int .i64 10, .int .i64 c, .int .i64 n, vB, vA]
  obtain ⟨w0, hw0⟩ : ∃ w0, w0 = w.alloc (.cells #[.int .i64 10, .int .i64 c, .int .i64 n, vB, vA] 35) := ⟨_, rfl⟩
  obtain ⟨bx, hbx⟩ : ∃ bx, bx = w.heap.size := ⟨_, rfl⟩
  rw [← hw0, ← hbx] at h1 r1
  obtain ⟨E, hE⟩ : ∃ E, S.e2 c = E := ⟨_, rfl⟩
  have C1 := Lib.hid (show ∀ w1, Mods [] w0 w1 → Calls Try.prog 33 #[.pointer (some ⟨g, 0, none⟩), .int .i64 c] w1 fun e w' => e = .returned (.int .i64 E) ∧ Hid (Two W w' g x (S.shut c) S m m [bx] ∧ KeepK [bx] w0 w') from fun w1 hq => (shutT W w1 g x m m S S [bx] c (h1.quiet hq)).mono fun e w' ⟨he, hd⟩ => ⟨by rw [he, hE], Lib.hid ⟨hd.out.1, fun k hk => (hd.out.2 k hk).trans (hq.block k (by simp at hk; subst hk; exact r1.lt) (by simp))⟩⟩)
  have C2 := Lib.hid (show ∀ w2 w1, Mods [] w2 w1 → Two W w2 g x (S.shut c) S m m [bx] → Calls Try.prog 46 #[.pointer (some ⟨x, 0, none⟩), .int .i64 c] w1 fun e w' => e = .returned (.int .i64 E) ∧ Hid (Two W w' g x (S.shut c) (S.shut c) m m [bx] ∧ KeepK [bx] w2 w') from fun w2 w1 hq h2 => (rshutT W w1 g x m m (S.shut c) S [bx] c (h2.quiet hq)).mono fun e w' ⟨he, hd⟩ => ⟨by rw [he, hE], Lib.hid ⟨hd.out.1, fun k hk => (hd.out.2 k hk).trans (hq.block k (by obtain ⟨F, G, h3⟩ := h2; exact h3.k k hk) (by simp))⟩⟩)
  have R1 := Lib.hid r1
  have q1 : w0.cell? ⟨bx, 1, none⟩ = some (.int .i64 c) := r1.cell 1
  have q2 : w0.cell? ⟨bx, 2, none⟩ = some (.int .i64 n) := r1.cell 2
  clear h h1 r1 hE
  go_enter Try.func13, Try.ntmps13
  go_upto_region 41 with fail
  rw [← hw0, ← hbx]
  clear hw0 hbx
  go_region_held3 (fun w' => w'.cell? ⟨bx, 1, none⟩ = some (.int .i64 c) ∧ w'.cell? ⟨bx, 2, none⟩ = some (.int .i64 n)) (go_keep)
    (first
      | (go_at_call 33; refine Calls.mono (C1.out _ ?_) ?_; exact (Mods.refl [] w0).same rfl rfl rfl rfl; rintro e w2 ⟨rfl, hd⟩; have H2 := Lib.hid hd.out.1; have R2 := Lib.hid (R1.out.keep (hd.out.2 _ (by simp))); have z1 : w2.cell? ⟨bx, 1, none⟩ = some (.int .i64 c) := R2.out.cell 1; have z2 : w2.cell? ⟨bx, 2, none⟩ = some (.int .i64 n) := R2.out.cell 2; clear hd)
      | (go_at_call 46; refine Calls.mono (C2.out w2 _ ?_ H2.out) ?_; exact (Mods.refl [] w2).same rfl rfl rfl rfl; rintro e w3 ⟨rfl, hd⟩; have H3 := Lib.hid hd.out.1; have R3 := Lib.hid (R2.out.keep (hd.out.2 _ (by simp))); have y1 : w3.cell? ⟨bx, 1, none⟩ = some (.int .i64 c) := R3.out.cell 1; have y2 : w3.cell? ⟨bx, 2, none⟩ = some (.int .i64 n) := R3.out.cell 2; clear hd))
  all_goals
    go_wp2
    go_ret
    exact ⟨by simp, Lib.hid (H3.out.done ((Mods.refl [] w3).same rfl rfl rfl rfl) (by omega) (by omega) hm)⟩
end Go.Proofs.Ytogcfeplfclobaa
