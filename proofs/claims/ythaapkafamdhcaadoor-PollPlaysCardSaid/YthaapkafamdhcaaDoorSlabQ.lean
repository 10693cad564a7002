/- What Put of the program's slab answers. -/
import Derived.Test.YthaapkafamdhcaaDoorSlabP
import Derived.Test.YthaapkafamdhcaaDoorSlabC
namespace Go.Proofs.YthaapkafamdhcaaDoor
open Go.RowKit
set_option maxRecDepth 10000
set_option linter.unusedVariables false
set_option linter.unusedSimpArgs false

theorem or_pow (x k : Nat) (hx : x < 2 ^ 64) (hk : k < 64) : bits .or .u64 (x : Int) ((2 : Int) ^ k) = ((x ||| 2 ^ k : Nat) : Int) := by
  have h1 : (2 : Nat) ^ k < 2 ^ 64 := Nat.pow_lt_pow_right (by decide) hk
  have e : ((2 : Int) ^ k) = ((2 ^ k : Nat) : Int) := by simp
  rw [e, u64_or_nat _ _ hx h1]
theorem ret_hand {fn : Func} {a : Act} {W : World} {R : Ending → World → Prop} {r : Nat} {x y : Int} {v : Value} (hres : fn.results = #[.cell 4 47, .tmp 5]) (hr : Row W r 47 #[.int .i64 x, .int .i64 y])
    (h4 : a.tmps.getD 4 undef = .pointer (some ⟨r, 0, none⟩)) (h5 : a.tmps.getD 5 undef = v) (hd : a.defers = []) (hR : R (.returned (.tuple #[.agg #[.int .i64 x, .int .i64 y], v])) W) : bodyPost Tryd.prog fn R .ret a W := by
  have k0 := hr.cell 0
  have k1 := hr.cell 1
  refine bodyPost_ret (v := .tuple #[.agg #[.int .i64 x, .int .i64 y], v]) ?_ hd hR
  have g4 : a.tmps[4]?.getD undef = .pointer (some ⟨r, 0, none⟩) := by simpa using h4
  have g5 : a.tmps[5]?.getD undef = v := by simpa using h5
  have k0 : W.cell? ⟨r, 0, none⟩ = some (.int .i64 x) := k0
  have k1 : W.cell? ⟨r, 1, none⟩ = some (.int .i64 y) := k1
  simp [results, hres, go_sem, g4, g5, k0, k1]
theorem Row.drewN {w : World} {g : Nat} {t : TypeId} {cs : Array Value} (h : Row w g t cs) (n : Nat) : Row (w.drewN n) g t cs := h
theorem put_nil (v : Int) (w : World) :
    Calls Tryd.prog 59 #[.pointer none, .int .i64 v] w fun e w' => e = .returned (.tuple #[.agg #[.int .i64 0, .int .i64 0], .int .i64 1]) ∧ Mods [] w w' := by
  go_enter Tryd.func59, Tryd.ntmps59
  go_wp2
  exact bodyPost_ret (v := .tuple #[.agg #[.int .i64 0, .int .i64 0], .int .i64 1]) (by simp [results, Tryd.results59, go_sem]) rfl ⟨rfl, (Mods.refl _ _).alloc _⟩
theorem put_full (w : World) (g : Nat) (v : Int) (F : List Nat) (S : Slb) (K : Nat) (h : SlabA w g F S K) (hc : S.lim ≤ S.cnt) :
    Calls Tryd.prog 59 #[.pointer (some ⟨g, 0, none⟩), .int .i64 v] w fun e w' => e = .returned (.tuple #[.agg #[.int .i64 0, .int .i64 0], .int .i64 3]) ∧ Mods [] w w' := by
  obtain ⟨sv, cs, xs, U, hF, hrow, hsz, h0, h1, h2, hU, hown, hx, hbit, hok⟩ := h
  have c0 : w.cell? ⟨g, 0, none⟩ = some (.int .i64 S.lim) := by rw [hrow.cell]; exact h0
  have c1 : w.cell? ⟨g, 1, none⟩ = some (.int .i64 S.cnt) := by rw [hrow.cell]; exact h1
  have a0 := fun o => cell_alloc c0 o
  have a1 := fun o => cell_alloc c1 o
  have hd : decide (S.lim ≤ S.cnt) = true := by simpa using hc
  clear hx hU hbit h0 h1 h2 hown hF hok
  go_enter Tryd.func59, Tryd.ntmps59
  go_wp2
  go_quiet (fail)
  go_wp2
  exact ret_hand Tryd.results59 ((((Row.new w _ _).drewN nq).set 0 _).set 1 _) rfl rfl rfl ⟨rfl, ((((Mods.refl _ _).alloc _).drewN _).setCell (by simp) _).setCell (by simp) _⟩
theorem slabA_at {w : World} {g i : Nat} {F : List Nat} {S : Slb} {K : Nat} (h : SlabA w g F S K) (hi : i < S.us.length) :
    ∃ sb cap u v, F = [g, sb] ∧ sb ≠ g ∧ w.cell? ⟨g, 0, none⟩ = some (.int .i64 S.lim) ∧ w.cell? ⟨g, 1, none⟩ = some (.int .i64 S.cnt) ∧ w.cell? ⟨g, 2, none⟩ = some (.slice (some ⟨sb, 0, none⟩) S.us.length cap) ∧ S.us.length ≤ cap ∧ cap ≤ maxLen ∧
      w.cell? ⟨g, 3 + i / 64, none⟩ = some (.int .u64 (u : Nat)) ∧ u < 2 ^ 64 ∧ w.cell? ⟨sb, i * 2, none⟩ = some (.int .i64 (S.gs.getD i 0)) ∧ w.cell? ⟨sb, i * 2 + 1, none⟩ = some (.int .i64 v) ∧
      (∀ j, w.frozen? ⟨sb, j, none⟩ = false) ∧ (∀ j, w.frozen? ⟨g, j, none⟩ = false) ∧ S.gs.getD i 0 ≤ K ∧ S.Ok K := by
  obtain ⟨sv, cs, xs, U, hF, hrow, hsz, h0, h1, h2, hU, hown, hx, hbit, hok⟩ := h
  have hl := hok.len
  have hh := hok.hi
  obtain ⟨sb, cap, rfl, hsb, hcap, hmx⟩ := own_some hown (by omega)
  obtain ⟨hx1, v, hx2, _⟩ := hx i hi
  obtain ⟨hu, hul⟩ := hU (i / 64) (by omega)
  refine ⟨sb, cap, U (i / 64), v, by simpa [Value.ownBlock] using hF, own_ne_row hown hrow (by decide) sb (by simp [Value.ownBlock]), by rw [hrow.cell]; exact h0, by rw [hrow.cell]; exact h1, by rw [hrow.cell]; exact h2, hcap, hmx,
    by rw [hrow.cell]; exact hu, hul, ?_, ?_, hown.frozenAt, hrow.free, hok.gk i, hok⟩
  · rw [hown.cellAt _ (by omega), Nat.mul_comm]; exact hx1
  · rw [hown.cellAt _ (by omega), Nat.mul_comm]; exact hx2
theorem quo_facts (i : Nat) (hi : i < 4096) : IntKind.i64.wrap ((i : Int).tdiv 64) = (i : Int) / 64 ∧ IntKind.i64.wrap ((i : Int) / 64) = (i : Int) / 64 ∧ (i : Int).tdiv 64 = (i : Int) / 64 ∧ ((i : Int) / 64).toNat = i / 64 ∧ (0 : Int) ≤ (i : Int) / 64 ∧ (i : Int) / 64 < 64 := by
  have h : (i : Int).tdiv 64 = (i : Int) / 64 := Int.tdiv_eq_ediv_of_nonneg (by omega)
  refine ⟨by rw [h, IntKind.wrap_i64]; omega, by rw [IntKind.wrap_i64]; omega, h, by omega, by omega, by omega⟩
/-- Where Put stands behind its two stores into the slot. -/
structure PutMid (w W : World) (g sb i u gi cap n : Nat) (v : Int) (F : List Nat) (S S' : Slb) (K : Nat) : Prop where
  k1 : W.cell? ⟨g, 1, none⟩ = some (.int .i64 S.cnt)
  k2 : W.cell? ⟨g, 2, none⟩ = some (.slice (some ⟨sb, 0, none⟩) n cap)
  k3 : W.cell? ⟨g, 3 + i / 64, none⟩ = some (.int .u64 u)
  k4 : W.cell? ⟨sb, i * 2, none⟩ = some (.int .i64 (gi + 1))
  k5 : ∀ j, W.frozen? ⟨g, j, none⟩ = false
  row : Row W w.heap.size 47 #[.int .i64 0, .int .i64 0]
  rep : SlabA ((W.setCell ⟨g, 3 + i / 64, none⟩ (.int .u64 (bits .or .u64 u (2 ^ (i % 64))))).setCell ⟨g, 1, none⟩ (.int .i64 (S.cnt + 1))) g F S' (K + 1)
  far : ∀ k ∈ F, k ≠ w.heap.size
  gF : g ∈ F
theorem PutMid.fin {w W : World} {g sb i u gi cap n : Nat} {v : Int} {F : List Nat} {S S' : Slb} {K : Nat} (h : PutMid w W g sb i u gi cap n v F S S' K) (x y : Value) :
    SlabA ((((((W.setCell ⟨g, 3 + i / 64, none⟩ (.int .u64 (bits .or .u64 u (2 ^ (i % 64))))).setCell ⟨g, 1, none⟩ (.int .i64 (S.cnt + 1))).drew).setCell ⟨w.heap.size, 0, none⟩ x).setCell ⟨w.heap.size, 1, none⟩ y)) g F S' (K + 1) :=
  slabA_keep h.rep fun k hk => by
    rw [heap_setCell_other _ _ _ _ (by exact h.far k hk), heap_setCell_other _ _ _ _ (by exact h.far k hk)]; rfl
set_option maxHeartbeats 1000000 in
theorem put_fill (w : World) (g : Nat) (v : Int) (F : List Nat) (S : Slb) (K : Nat) (h : SlabA w g F S K) (hT : TzTab w) (hc : S.cnt < S.lim) (hK : K ≤ 4000000000000) (hn : S.least ≠ S.us.length) :
    Calls Tryd.prog 59 #[.pointer (some ⟨g, 0, none⟩), .int .i64 v] w fun e w' => e = .returned (.tuple #[.agg #[.int .i64 S.least, .int .i64 S.gen], .int .i64 0]) ∧ SlabA w' g F (S.put v) (K + 1) ∧ Mods F w w' := by
  have hil : S.least < S.us.length := by have := S.least_le; omega
  have HA := Lib.hid (slabA_keep (w' := w.alloc (.cells #[.int .i64 0, .int .i64 0] 47)) h fun k hk => Below.heap_alloc w _ k (slabA_lt h k hk))
  have HFr := Lib.hid (show ∀ k ∈ F, k ≠ w.heap.size from fun k hk => by have := slabA_lt h k hk; omega)
  obtain ⟨sb, cap, u, v0, hF, hne, c0, c1, c2, hcap, hmx, c3, hul, c4, c5, f1, f2, hgk, hok⟩ := slabA_at HA.out hil
  have hh := hok.hi
  have hl := hok.len
  have HL := Lib.hid (fun (W : World) (H : SlabA W g F S K) (hT : TzTab W) => least_any W g F S K H hc hT)
  have HT := Lib.hid (TzTab.keep (w' := w.alloc (.cells #[.int .i64 0, .int .i64 0] 47)) hT (Below.heap_alloc w _ _ hT.lt))
  have HG := Lib.hid (show S.gen = S.gs.getD S.least 0 + 1 from rfl)
  have HP := Lib.hid (S.put_fill hn v)
  have HU := Lib.hid S.least_getD
  have hd : decide (S.lim ≤ S.cnt) = false := by simpa using hc
  have hcl := S.cnt_le
  generalize S.least = i at *
  generalize S.gen = gn at *
  have HR := Lib.hid (slabA_fill HA.out hil HU.out v c2 c3 (or_pow u (i % 64) hul (by omega)) rfl rfl)
  generalize S.gs.getD i 0 = gi at *
  have hd2 : ((i : Int) == (S.us.length : Int)) = false := by simp; omega
  have HFF := Lib.hid hF
  have hok' := Lib.hid hok
  clear h hT hc hF hok hn
  have ⟨q1, q2, q3, q4, q5, q6⟩ := quo_facts i (by omega)
  go_enter Tryd.func59, Tryd.ntmps59
  go_wp2
  go_quiet (fail)
  go_wp2_with fail
  refine (HL.out (World.drewN (w.alloc _) nq) (slabA_keep HA.out fun _ _ => rfl) (HT.out.keep rfl)).mono ?_
  rintro e w' ⟨rfl, rfl⟩
  go_wp2
  obtain ⟨W, hW, hM, hP⟩ : ∃ W : World, W = ((((w.alloc (.cells #[.int .i64 0, .int .i64 0] 47)).drewN nq).setCell ⟨sb, i * 2, none⟩ (.int .i64 (gi + 1))).setCell ⟨sb, i * 2 + 1, none⟩ (.int .i64 v)) ∧
      Hid (Mods F w W) ∧ Hid (PutMid w W g sb i u gi cap S.us.length v F S (S.put v) K) := by
    have hg : g ≠ w.heap.size := HFr.out g (by rw [HFF.out]; simp)
    have hs : sb ≠ w.heap.size := HFr.out sb (by rw [HFF.out]; simp)
    refine ⟨_, rfl, Lib.hid (((((Mods.refl F w).alloc _).drewN nq).setCell (by rw [HFF.out]; simp) _).setCell (by rw [HFF.out]; simp) _), Lib.hid ⟨?_, ?_, ?_, ?_, ?_, ?_, ?_, HFr.out, by rw [HFF.out]; simp⟩⟩
    · rw [World.cell?_setCell_other _ _ _ _ (by simp [hne]), World.cell?_setCell_other _ _ _ _ (by simp [hne])]; exact c1
    · rw [World.cell?_setCell_other _ _ _ _ (by simp [hne]), World.cell?_setCell_other _ _ _ _ (by simp [hne])]; exact c2
    · rw [World.cell?_setCell_other _ _ _ _ (by simp [hne]), World.cell?_setCell_other _ _ _ _ (by simp [hne])]; exact c3
    · rw [World.cell?_setCell_other _ _ _ _ (by simp), World.cell?_setCell_same' _ _ _ (by rw [show ((w.alloc (.cells #[.int .i64 0, .int .i64 0] 47)).drewN nq).cell? ⟨sb, i * 2, none⟩ = _ from c4]; rfl)]
    · intro j; rw [World.frozen?_setCell, World.frozen?_setCell]; exact f2 j
    · exact (((Row.new w _ _).drewN nq).far (by exact hs.symm) _).far (by exact hs.symm) _
    · rw [HP.out]; exact slabA_keep HR.out.1 (fun _ _ => rfl)
  rw [← hW]
  clear hW
  have k1 := hP.out.k1
  have k2 := hP.out.k2
  have k3 := hP.out.k3
  have k4 := hP.out.k4
  have k5 := hP.out.k5
  have r0 : W.cell? ⟨w.heap.size, 0, none⟩ = some (.int .i64 0) := hP.out.row.cell 0
  have r1 : W.cell? ⟨w.heap.size, 1, none⟩ = some (.int .i64 0) := hP.out.row.cell 1
  have r2 := hP.out.row.free
  have hgr := hP.out.far g hP.out.gF
  go_region_with (go_at_call 82; refine (bit_any i _ (by omega)).mono ?_; rintro e w' ⟨rfl, rfl⟩)
  all_goals go_wp2
  all_goals exact ret_hand Tryd.results59 (((((hP.out.row.far (by exact hgr.symm) _).far (by exact hgr.symm) _).drewN 1).set 0 _).set 1 _) rfl rfl rfl ⟨by rw [HG.out]; rfl, hP.out.fin _ _, ((((hM.out.setCell (.inl hP.out.gF) _).setCell (.inl hP.out.gF) _).drew).setCell (by simp) _).setCell (by simp) _⟩
end Go.Proofs.YthaapkafamdhcaaDoor
