/- What Next, Drop of the reference's queue do. -/
import Derived.Test.YtgahnediigmihaaRefQ
namespace Go.Proofs.Ytgahnediigmihaa
open Go.RowKit
set_option maxRecDepth 100000
set_option linter.unusedVariables false
set_option linter.unusedSimpArgs false

set_option maxHeartbeats 8000000 in
theorem rnext_any (w : World) (x : Nat) (n : Int) (F : List Nat) (L E : List Int) (W T : Nat) (h : QefA w x F L E W T) :
    Calls Try.prog 21 #[.pointer (some ⟨x, 0, none⟩), .int .i64 n] w fun e w' => ∃ A c, e = .returned (.slice A (clamp n L.length) c) ∧ Hid (New w w' A (clamp n L.length) c (L.take (clamp n L.length))) := by
  obtain ⟨i0, hi, hz, hs, hby⟩ := info_parts u8_info3
  have HI := Lib.hid (And.intro hi (And.intro hz (And.intro hs hby)))
  obtain ⟨vb, ve, D, rfl, hrf⟩ := h
  obtain ⟨A, cp, Ae, ce, rfl, rfl, h1, h2, q3, q4⟩ := hrf.cells
  have c1 : w.cell? ⟨x, 0, none⟩ = some (.slice A L.length cp) := hrf.row.cell 0
  have hat : At w [] A L := At.of_own2 (F := []) hrf.dat (by simp) hrf.rng
  have htop := hrf.top
  unfold maxLen at h2
  have HR := Lib.hid hrf.rng
  have hw := clamp_ways n L.length
  have hq := clamp_le n L.length
  obtain ⟨q, hqq⟩ : ∃ q, q = clamp n L.length := ⟨_, rfl⟩
  rw [← hqq] at hw hq ⊢
  have HT := Lib.hid (show (L.take q).length = q by rw [List.length_take]; omega)
  have HRT := Lib.hid (show ∀ y ∈ L.take q, 0 ≤ y ∧ y ≤ 255 from fun y hy => HR.out y (List.mem_of_mem_take hy))
  have HA := Lib.hid ((hat.mods ((Mods.refl _ w).alloc (.cells #[] 5))).take q)
  have HO := Lib.hid (show (w.alloc (.cells #[] 5)).ownsRow 0 5 1 (.slice (some ⟨w.heap.size, 0, none⟩) 0 0) 0 (bv []) from World.ownsRow_lit w #[] 0 (Nat.zero_le _) (by unfold maxLen; omega) rfl)
  have HQL := Lib.hid (show 0 + (L.take q).length ≤ 1000000000 by rw [HT.out]; omega)
  have HMx := Lib.hid (show Mods [w.heap.size] w (w.alloc (.cells #[] 5)) from (Mods.refl _ w).alloc _)
  clear hat hi hz hs hby hrf hqq h2 q3 q4
  have b2 : (q : Int) ≤ (cp : Int) := by omega
  have b1 : (0 : Int) ≤ (q : Int) := by omega
  have d1 := fun o => cell_alloc c1 o
  have HNE := Lib.hid (show x ∉ (Value.slice (some ⟨w.heap.size, 0, none⟩) 0 0).ownBlock.toList from fun hx => by
    have : x = w.heap.size := by simpa [Value.ownBlock, eq_comm] using hx
    have := World.block_lt_of_cell? w _ c1
    simp at this
    omega)
  rcases hw with ⟨w1, rfl⟩ | ⟨w1, w2, w3, rfl⟩ | ⟨w1, w2, rfl⟩ | ⟨w1, w2, rfl⟩
  · have w2 : ∀ a b : Int, (if (L.length : Int) < n then a else b) = b := fun a b => if_neg (by omega)
    have w3 : ∀ a b : Int, (if 0 < n then a else b) = b := fun a b => if_neg (by omega)
    clear b1 b2
    go_enter Try.func21, Try.ntmps21
    go_wp2_with fail
    go_region_held3 (fun w' => w'.cell? ⟨x, 0, none⟩ = some (.slice A L.length cp)) (go_keep)
      (first
        | (refine step_append_bytes rfl (.tmp 5) (.tmp 18) 28 rfl 5 i0 (.int .u8 0) Try.underlying28 HI.out.1 HI.out.2.1 HI.out.2.2.1 HI.out.2.2.2 rfl (.slice (some ⟨w.heap.size, 0, none⟩) 0 0) 0 [] rfl HO.out [] A (0) cp (L.take (0)) rfl HT.out.symm HA.out HQL.out ?_; intro v8 w8 HO8 HM8; have c8 := cell_mods2 HM8.out.1 HNE.out (d1 (.cells #[] 5)); obtain ⟨A8, c8', e8, hn8⟩ := New.of_app HM8.out (HMx.out.same rfl rfl rfl rfl) HO8.out HT.out HRT.out; subst e8; have HN8 := Lib.hid hn8; clear hn8))
    all_goals
      go_wp2
      go_ret
      exact ⟨_, _, rfl, HN8⟩
  · have w5 : ¬ L.length < q := by omega
    have w6 : q ≤ cp := by omega
    go_enter Try.func21, Try.ntmps21
    go_wp2_with fail
    go_region_held3 (fun w' => w'.cell? ⟨x, 0, none⟩ = some (.slice A L.length cp)) (go_keep)
      (first
        | (refine step_append_bytes rfl (.tmp 5) (.tmp 18) 28 rfl 5 i0 (.int .u8 0) Try.underlying28 HI.out.1 HI.out.2.1 HI.out.2.2.1 HI.out.2.2.2 rfl (.slice (some ⟨w.heap.size, 0, none⟩) 0 0) 0 [] rfl HO.out [] A (q) cp (L.take (q)) rfl HT.out.symm HA.out HQL.out ?_; intro v8 w8 HO8 HM8; have c8 := cell_mods2 HM8.out.1 HNE.out (d1 (.cells #[] 5)); obtain ⟨A8, c8', e8, hn8⟩ := New.of_app HM8.out (HMx.out.same rfl rfl rfl rfl) HO8.out HT.out HRT.out; subst e8; have HN8 := Lib.hid hn8; clear hn8))
    all_goals
      go_wp2
      go_ret
      exact ⟨_, _, rfl, HN8⟩
  · have w6 : ¬ n < (L.length : Int) := by omega
    go_enter Try.func21, Try.ntmps21
    go_wp2_with fail
    go_region_held3 (fun w' => w'.cell? ⟨x, 0, none⟩ = some (.slice A L.length cp)) (go_keep)
      (first
        | (refine step_append_bytes rfl (.tmp 5) (.tmp 18) 28 rfl 5 i0 (.int .u8 0) Try.underlying28 HI.out.1 HI.out.2.1 HI.out.2.2.1 HI.out.2.2.2 rfl (.slice (some ⟨w.heap.size, 0, none⟩) 0 0) 0 [] rfl HO.out [] A (L.length) cp (L.take (L.length)) rfl HT.out.symm HA.out HQL.out ?_; intro v8 w8 HO8 HM8; have c8 := cell_mods2 HM8.out.1 HNE.out (d1 (.cells #[] 5)); obtain ⟨A8, c8', e8, hn8⟩ := New.of_app HM8.out (HMx.out.same rfl rfl rfl rfl) HO8.out HT.out HRT.out; subst e8; have HN8 := Lib.hid hn8; clear hn8))
    all_goals
      go_wp2
      go_ret
      exact ⟨_, _, rfl, HN8⟩
  · obtain rfl : L = [] := List.eq_nil_of_length_eq_zero w1
    clear w1 b1 b2
    go_enter Try.func21, Try.ntmps21
    go_wp2_with fail
    go_region_held3 (fun w' => w'.cell? ⟨x, 0, none⟩ = some (.slice A 0 cp)) (go_keep)
      (first
        | (refine step_append_bytes rfl (.tmp 5) (.tmp 18) 28 rfl 5 i0 (.int .u8 0) Try.underlying28 HI.out.1 HI.out.2.1 HI.out.2.2.1 HI.out.2.2.2 rfl (.slice (some ⟨w.heap.size, 0, none⟩) 0 0) 0 [] rfl HO.out [] A (0) cp ([].take (0)) rfl HT.out.symm HA.out HQL.out ?_; intro v8 w8 HO8 HM8; have c8 := cell_mods2 HM8.out.1 HNE.out (d1 (.cells #[] 5)); obtain ⟨A8, c8', e8, hn8⟩ := New.of_app HM8.out (HMx.out.same rfl rfl rfl rfl) HO8.out HT.out HRT.out; subst e8; have HN8 := Lib.hid hn8; clear hn8))
    all_goals
      go_wp2
      go_ret
      exact ⟨_, _, rfl, HN8⟩
theorem rnext_as (w : World) (g k : Nat) (n : Int) (F : List Nat) (B E P : List Int) (W T : Nat) (h : QefA w g F B E W T) (hP : B.take (clamp n B.length) = P) (hk : clamp n B.length = k) :
    Calls Try.prog 21 #[.pointer (some ⟨g, 0, none⟩), .int .i64 n] w fun e w' => ∃ A c, e = .returned (.slice A k c) ∧ Hid (New w w' A k c P) := by
  subst hP hk
  exact rnext_any w g n F B E W T h
end Go.Proofs.Ytgahnediigmihaa
