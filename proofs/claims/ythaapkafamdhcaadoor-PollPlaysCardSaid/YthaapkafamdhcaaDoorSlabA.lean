/- The program's slab in memory, and what bit, isUsed, inUse, leastFree, free answer. -/
import Derived.Test.YthaapkafamdhcaaDoorProg
import Derived.WalkKit
import Derived.ProofKit
import Derived.RegionTactic
import Derived.Deep.QuietTactic
import Derived.BigQuiet
import Derived.Outline
import Derived.LoopTactic
import Derived.Laws.BitsAllLaws
import Derived.Laws.BitsLemmas
import Derived.WalkLawsBesides
import Derived.WalkSpells
import Derived.Test.YthaapkafamdhcaaDoorBy
import Derived.Test.YthaapkafamdhcaaDoorSlabMath
namespace Go.Proofs.YthaapkafamdhcaaDoor
open Go.RowKit

/-- The slab behind pointer g: its blocks are F; what it holds. -/
def SlabA (w : World) (g : Nat) (F : List Nat) (S : Slb) (K : Nat) : Prop :=
  ∃ (sv : Value) (cs : Array Value) (xs : List Value) (U : Nat → Nat),
    F = g :: sv.ownBlock.toList ∧ Row w g 144 cs ∧ cs.size = 67 ∧
    cs[0]? = some (.int .i64 S.lim) ∧ cs[1]? = some (.int .i64 S.cnt) ∧ cs[2]? = some sv ∧ (∀ j, j < 64 → cs[3 + j]? = some (.int .u64 (U j)) ∧ U j < 2 ^ 64) ∧
    w.ownsRow 0 154 2 sv S.us.length xs ∧
    (∀ i, i < S.us.length → xs[2 * i]? = some (.int .i64 (S.gs.getD i 0)) ∧ ∃ v : Int, xs[2 * i + 1]? = some (.int .i64 v) ∧ (S.us.getD i false = true → v = S.vs.getD i 0)) ∧
    (∀ i, i < 4096 → (U (i / 64)).testBit (i % 64) = S.us.getD i false) ∧ S.Ok K

theorem slabA_lt {w : World} {g : Nat} {F : List Nat} {S : Slb} {K : Nat} (h : SlabA w g F S K) : ∀ k ∈ F, k < w.heap.size := by
  obtain ⟨sv, cs, xs, U, rfl, hrow, _, _, _, _, _, hown, _⟩ := h
  intro k hk
  rcases List.mem_cons.1 hk with rfl | hk
  · exact hrow.lt
  · exact own_lt hown k hk
theorem slabA_keep {w w' : World} {g : Nat} {F : List Nat} {S : Slb} {K : Nat} (h : SlabA w g F S K) (e : ∀ k ∈ F, w'.heap[k]? = w.heap[k]?) : SlabA w' g F S K := by
  obtain ⟨sv, cs, xs, U, rfl, hrow, hsz, h0, h1, h2, hU, hown, hx⟩ := h
  exact ⟨sv, cs, xs, U, rfl, hrow.keep (e _ (List.mem_cons_self ..)), hsz, h0, h1, h2, hU, own_keep hown (fun k hk => e k (List.mem_cons_of_mem _ hk)), hx⟩
theorem slabA_mods {w w' : World} {g : Nat} {F G : List Nat} {S : Slb} {K : Nat} (h : SlabA w g F S K) (hm : Mods G w w') (hd : ∀ k ∈ F, k ∉ G) : SlabA w' g F S K :=
  slabA_keep h fun k hk => hm.block k (slabA_lt h k hk) (hd k hk)

set_option maxRecDepth 10000
theorem wrap_pow (k : Nat) (h : k < 64) : IntKind.u64.wrap ((2 : Int) ^ k) = ((2 ^ k : Nat) : Int) := by
  have h1 : (2 : Nat) ^ k < 2 ^ 64 := Nat.pow_lt_pow_right (by decide) h
  have e : ((2 : Int) ^ k) = ((2 ^ k : Nat) : Int) := by simp
  rw [e, IntKind.wrap_u64]
  generalize (2 : Nat) ^ k = n at h1
  omega
theorem ret_u64 {a b : Int} (h : a = b) : Ending.returned (.int .u64 a) = .returned (.int .u64 b) := by rw [h]
theorem bit_any (i : Nat) (w : World) (hi : i < 4096) :
    Calls Tryd.prog 82 #[.int .i64 i] w fun e w' => e = .returned (.int .u64 ((2 ^ (i % 64) : Nat) : Int)) ∧ w = w' := by
  go_enter Tryd.func82, Tryd.ntmps82
  go_wp2
  go_ret
  exact ⟨ret_u64 (wrap_pow _ (by omega)), rfl⟩
theorem bit_test (x k : Nat) (hx : x < 2 ^ 64) (hk : k < 64) : (bits .and .u64 (x : Int) ((2 : Int) ^ k) != 0) = x.testBit k := by
  have h1 : (2 : Nat) ^ k < 2 ^ 64 := Nat.pow_lt_pow_right (by decide) hk
  have e : ((2 : Int) ^ k) = ((2 ^ k : Nat) : Int) := by simp
  have e2 : x &&& 2 ^ k = if x.testBit k then 2 ^ k else 0 := by
    apply Nat.eq_of_testBit_eq
    intro j
    rw [Nat.testBit_and, Nat.testBit_two_pow]
    by_cases hj : k = j
    · subst hj
      cases x.testBit k <;> simp
    · cases x.testBit k <;> simp [hj]
  rw [e, bits_and_u64_nat x (2 ^ k) hx h1, e2]
  have h0 : 0 < (2 : Nat) ^ k := Nat.two_pow_pos k
  generalize (2 : Nat) ^ k = m at h0
  cases x.testBit k
  · simp
  · have : ((m : Nat) : Int) ≠ 0 := by omega
    simpa [bne, BEq.beq] using this
theorem isUsed_any (w : World) (g i : Nat) (F : List Nat) (S : Slb) (K : Nat) (hi : i < 4096) (h : SlabA w g F S K) :
    Calls Tryd.prog 75 #[.pointer (some ⟨g, 0, none⟩), .int .i64 i] w fun e w' => e = .returned (.bool (S.us.getD i false)) ∧ ∃ n, w' = w.drewN n := by
  obtain ⟨sv, cs, xs, U, hF, hrow, hsz, h0, h1, h2, hU, hown, hx, hbit, hok⟩ := h
  obtain ⟨hu, hlt⟩ := hU (i / 64) (by omega)
  have hb := hbit i hi
  have hc : w.cell? ⟨g, 3 + i / 64, none⟩ = some (.int .u64 (U (i / 64))) := by rw [hrow.cell]; exact hu
  clear hU hx hbit h0 h1 h2 hown hF hu
  have q1 : (0 : Int) ≤ (i : Int) / 64 := by omega
  have q2 : (i : Int) / 64 < 64 := by omega
  go_enter Tryd.func75, Tryd.ntmps75
  go_wp2
  go_quiet ((go_at_call 82; exact Calls.quiet_of_same ((bit_any i _ hi).mono fun _ _ ⟨a, b⟩ => ⟨a, b.symm⟩)))
  go_wp2
  go_ret
  exact ⟨ret_bool ((bit_test _ _ hlt (by omega)).trans hb), _, rfl⟩
theorem neq_nil (p : Option Addr) (w : World) : (binOp .neq 40 (.pointer p) (.pointer none)).run Tryd.prog w = .ok (.bool (!p.isNone)) w :=
  run_neq_pointer_nil _ _ _ (by kernel_rfl)
theorem inUse_nil (a b : Int) (w : World) :
    Calls Tryd.prog 85 #[.pointer none, .agg #[.int .i64 a, .int .i64 b]] w fun e w' => e = .returned (.bool false) ∧ Mods [] w w' := by
  have hnn := neq_nil
  go_enter Tryd.func85, Tryd.ntmps85
  go_wp2
  go_quiet (fail)
  go_wp2
  go_ret
  exact ⟨rfl, ((Mods.refl _ _).alloc _).drewN _⟩
theorem inUse_any (w : World) (g : Nat) (a b : Int) (F : List Nat) (S : Slb) (K : Nat) (ha : -9223372036854775808 ≤ a) (ha' : a ≤ 9223372036854775807) (h : SlabA w g F S K) :
    Calls Tryd.prog 85 #[.pointer (some ⟨g, 0, none⟩), .agg #[.int .i64 a, .int .i64 b]] w fun e w' => e = .returned (.bool (S.is a b)) ∧ Mods [] w w' := by
  have HA := Lib.hid h
  obtain ⟨sv, cs, xs, U, hF, hrow, hsz, h0, h1, h2, hU, hown, hx, hbit, hok⟩ := h
  obtain ⟨A, cap, rfl, hcap, hmx⟩ := own_slice hown
  have hc : w.cell? ⟨g, 2, none⟩ = some (.slice A S.us.length cap) := by rw [hrow.cell]; exact h2
  have hca := fun o => cell_alloc hc o
  have hl := hok.len
  have hh := hok.hi
  by_cases c1 : 0 ≤ a
  case neg =>
    have hd1 : decide (0 ≤ a) = false := by simpa using c1
    clear hU hx hbit h0 h1 h2 hown hF hok
    have hnn := neq_nil
    go_enter Tryd.func85, Tryd.ntmps85
    go_wp2
    go_quiet (fail)
    go_wp2
    go_ret
    exact ⟨ret_bool (by simp only [Slb.is]; rw [hd1]; rfl), ((Mods.refl _ _).alloc _).drewN _⟩
  case pos =>
  obtain ⟨i, rfl⟩ := Int.eq_ofNat_of_zero_le c1
  by_cases c2 : i < S.us.length
  case neg =>
    have hd : decide (i < S.us.length) = false := by simpa using c2
    have hg : S.us.getD i false = false := by rw [List.getD_eq_getElem?_getD, List.getElem?_eq_none (by omega)]; rfl
    clear hU hx hbit h0 h1 h2 hown hF hok
    have HG := Lib.hid hg
    clear hg
    have hnn := neq_nil
    go_enter Tryd.func85, Tryd.ntmps85
    go_wp2
    go_quiet (fail)
    go_wp2
    go_ret
    exact ⟨ret_bool (by simp only [Slb.is, Int.toNat_natCast, HG.out]; simp), ((Mods.refl _ _).alloc _).drewN _⟩
  case pos =>
    obtain ⟨gb, cap', hsv, hgb, _, _⟩ := own_some hown (by omega)
    injection hsv with e1 e2 e3
    subst e1
    have hd : decide (i < S.us.length) = true := by simpa using c2
    obtain ⟨hx1, _⟩ := hx i c2
    have hcell : w.cell? ⟨gb, i * 2, none⟩ = some (.int .i64 (S.gs.getD i 0)) := by
      rw [hown.cellAt _ (by omega), Nat.mul_comm]; exact hx1
    have hce := fun o => cell_alloc hcell o
    have HU := fun (o : Obj) (n : Nat) => isUsed_any ((w.alloc o).drewN n) g i F S K (by omega) (slabA_keep HA.out fun k hk => Below.heap_alloc w o k (slabA_lt HA.out k hk))
    by_cases c3 : S.us.getD i false = true
    case neg =>
      have c3' : S.us.getD i false = false := by simpa using c3
      rw [c3'] at HU
      have HG := Lib.hid c3'
      have HV := Lib.hid HU
      clear hU hx hbit h0 h1 h2 hown hF hok c3 c3' HU hx1
      have hnn := neq_nil
      go_enter Tryd.func85, Tryd.ntmps85
      go_wp2
      go_quiet ((go_at_call 75; exact Calls.quiet_of (HV.out _ _)))
      go_wp2
      go_ret
      exact ⟨ret_bool (by simp only [Slb.is, Int.toNat_natCast, HG.out]; simp), ((Mods.refl _ _).alloc _).drewN _⟩
    case pos =>
      rw [c3] at HU
      have HG := Lib.hid c3
      have HV := Lib.hid HU
      by_cases c4 : (S.gs.getD i 0 : Int) = b
      all_goals
        clear hU hx hbit h0 h1 h2 hown hF hok c3 HU hx1
        have hnn := neq_nil
        go_enter Tryd.func85, Tryd.ntmps85
        go_wp2
        go_quiet ((go_at_call 75; exact Calls.quiet_of (HV.out _ _)))
        go_wp2
        go_ret
        exact ⟨ret_bool (by simp only [Slb.is, Int.toNat_natCast, HG.out]; simp; rfl), ((Mods.refl _ _).alloc _).drewN _⟩
end Go.Proofs.YthaapkafamdhcaaDoor
