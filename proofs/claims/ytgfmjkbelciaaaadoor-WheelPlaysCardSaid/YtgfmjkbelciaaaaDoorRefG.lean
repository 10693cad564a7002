/- What Put of the reference's slab answers. -/
import Derived.Test.YtgfmjkbelciaaaaDoorRefP
namespace Go.Proofs.YtgfmjkbelciaaaaDoor
open Go.RowKit
set_option maxRecDepth 10000
set_option linter.unusedVariables false
set_option linter.unusedSimpArgs false

theorem rslab_loop_facts {w : World} {x : Nat} {F : List Nat} {S : Slb} {K : Nat} (h : SlabB w x F S K) :
    ∃ U cu, w.cell? ⟨x, 1, none⟩ = some (.slice U S.us.length cu) ∧ S.us.length ≤ cu ∧ cu ≤ maxLen ∧ (∀ i, i < S.us.length → ∃ ub, U = some ⟨ub, 0, none⟩ ∧ w.cell? ⟨ub, i, none⟩ = some (.bool (S.us.getD i false))) ∧
      w.cell? ⟨x, 0, none⟩ = some (.int .i64 S.lim) ∧ w.cell? ⟨x, 4, none⟩ = some (.int .i64 S.cnt) ∧ S.Ok K := by
  obtain ⟨uv, gv, vv, rfl, ⟨h1, h2, h3, h4, h5⟩, hok⟩ := h
  obtain ⟨U, cu, rfl, u1, u2⟩ := own_slice h2
  refine ⟨U, cu, h1.cell 1, u1, u2, fun i hi => ?_, h1.cell 0, h1.cell 4, hok⟩
  obtain ⟨ub, _, e1, d1, _⟩ := own_cell h2 hi (bs_at _ _ hi)
  injection e1 with e1 _ _
  exact ⟨ub, e1, d1⟩
theorem RefTail.drewN {W : World} {x ub gb vb r i nu ng nv cu cg cv lim cnt gi : Nat} {z : Int} (h : RefTail W x ub gb vb r i nu ng nv cu cg cv lim cnt gi z) (n : Nat) : RefTail (W.drewN n) x ub gb vb r i nu ng nv cu cg cv lim cnt gi z :=
  ⟨h.a0, h.a1, h.a2, h.a3, h.a4, h.d1, h.d2, h.d3, h.f0, h.f1, h.f2, h.f3, h.n1, h.n2, h.n3, h.n4, h.n5, h.n6, h.r1, h.r2, h.r3, h.r4⟩
/-- Where Put stands ahead of its four stores. -/
structure RefEnd (w W : World) (x ub gb vb i nu ng nv cu cg cv gi : Nat) (z v : Int) (lim cnt : Nat) (S' : Slb) (K : Nat) : Prop where
  tail : RefTail W x ub gb vb w.heap.size i nu ng nv cu cg cv lim cnt gi z
  row : Row W w.heap.size 32 #[.int .i64 0, .int .i64 0]
  rep : SlabB ((((W.setCell ⟨ub, i, none⟩ (.bool true)).setCell ⟨gb, i, none⟩ (.int .i64 ((gi : Int) + 1))).setCell ⟨vb, i, none⟩ (.int .i64 v)).setCell ⟨x, 4, none⟩ (.int .i64 ((cnt : Int) + 1))) x [x, ub, gb, vb] S' (K + 1)
  mods : Mods [x, ub, gb, vb] W ((((W.setCell ⟨ub, i, none⟩ (.bool true)).setCell ⟨gb, i, none⟩ (.int .i64 ((gi : Int) + 1))).setCell ⟨vb, i, none⟩ (.int .i64 v)).setCell ⟨x, 4, none⟩ (.int .i64 ((cnt : Int) + 1)))
theorem RefEnd.fin {w W : World} {x ub gb vb i nu ng nv cu cg cv gi lim cnt : Nat} {z v : Int} {S' : Slb} {K : Nat} (h : RefEnd w W x ub gb vb i nu ng nv cu cg cv gi z v lim cnt S' K) (a b : Value) :
    SlabB ((((((W.setCell ⟨ub, i, none⟩ (.bool true)).setCell ⟨gb, i, none⟩ (.int .i64 ((gi : Int) + 1))).setCell ⟨vb, i, none⟩ (.int .i64 v)).setCell ⟨x, 4, none⟩ (.int .i64 ((cnt : Int) + 1))).setCell ⟨w.heap.size, 0, none⟩ a).setCell ⟨w.heap.size, 1, none⟩ b) x [x, ub, gb, vb] S' (K + 1) :=
  slabB_keep h.rep fun k hk => by
    have hk' : k ≠ w.heap.size := by
      simp only [List.mem_cons, List.mem_nil_iff, or_false] at hk
      rcases hk with rfl | rfl | rfl | rfl
      · exact h.tail.r1.symm
      · exact h.tail.r2.symm
      · exact h.tail.r3.symm
      · exact h.tail.r4.symm
    rw [heap_setCell_other _ _ _ _ (by exact hk'), heap_setCell_other _ _ _ _ (by exact hk')]
theorem RefEnd.rows {w W : World} {x ub gb vb i nu ng nv cu cg cv gi lim cnt : Nat} {z v : Int} {S' : Slb} {K : Nat} (h : RefEnd w W x ub gb vb i nu ng nv cu cg cv gi z v lim cnt S' K) (a b : Value) :
    Row ((((((W.setCell ⟨ub, i, none⟩ (.bool true)).setCell ⟨gb, i, none⟩ (.int .i64 ((gi : Int) + 1))).setCell ⟨vb, i, none⟩ (.int .i64 v)).setCell ⟨x, 4, none⟩ (.int .i64 ((cnt : Int) + 1))).setCell ⟨w.heap.size, 0, none⟩ a).setCell ⟨w.heap.size, 1, none⟩ b) w.heap.size 32 #[a, b] :=
  ((((((h.row.far (by exact h.tail.r2) _).far (by exact h.tail.r3) _).far (by exact h.tail.r4) _).far (by exact h.tail.r1) _).set 0 a).set 1 b)
set_option maxHeartbeats 1000000 in
theorem rput_fill (w : World) (g : Nat) (v : Int) (F : List Nat) (S : Slb) (K : Nat) (h : SlabB w g F S K) (hc : S.cnt < S.lim) (hK : K ≤ 4000000000000) (hn : S.least ≠ S.us.length) :
    Calls Tryd.prog 34 #[.pointer (some ⟨g, 0, none⟩), .int .i64 v] w fun e w' => e = .returned (.tuple #[.agg #[.int .i64 S.least, .int .i64 S.gen], .int .i64 0]) ∧ SlabB w' g F (S.put v) (K + 1) ∧ Mods F w w' := by
  have hil : S.least < S.us.length := by have := S.least_le; omega
  have hrF : w.heap.size ∉ F := fun hk => by have := slabB_lt h _ hk; omega
  have HA := Lib.hid (slabB_keep (w' := w.alloc (.cells #[.int .i64 0, .int .i64 0] 32)) h fun k hk => Below.heap_alloc w _ k (slabB_lt h k hk))
  obtain ⟨ub, gb, vb, cu, cg, cv, z, rfl, ht⟩ := slabB_tail HA.out hil S.least_getD hrF
  obtain ⟨U, cu', c1, l1, l2, hx, c0, c4, hok⟩ := rslab_loop_facts HA.out
  have e0 := ht.a1
  rw [c1] at e0
  injection e0 with e0
  injection e0 with e0 _ e1
  subst e0
  subst e1
  have hh := hok.hi
  have hl := hok.len
  have hgl := hok.gl
  have hvl := hok.vl
  have hgk := hok.gk S.least
  have HX := Lib.hid (show ∀ k, k < S.least → (w.alloc (.cells #[.int .i64 0, .int .i64 0] 32)).cell? ⟨ub, k, none⟩ = some (.bool true) from fun k hk => by
    obtain ⟨ub', e, h⟩ := hx k (by omega)
    injection e with e
    injection e with e _ _
    rw [e, h, S.below_least k hk])
  have HP := Lib.hid (S.put_fill hn v)
  have HG := Lib.hid (show S.gen = S.gs.getD S.least 0 + 1 from rfl)
  have HF := Lib.hid (slabB_fill v HA.out hil S.least_getD ht.a1 ht.a2 ht.a3 (gn := (S.gs.getD S.least 0 : Int) + 1) rfl (m := (S.cnt : Int) + 1) rfl)
  have hd : decide (S.lim ≤ S.cnt) = false := by simpa using hc
  have hcl := S.cnt_le
  generalize S.least = i at *
  generalize S.gen = gn at *
  generalize S.gs.getD i 0 = gi at *
  have HT := Lib.hid ht
  have d1 := ht.d1
  have d2 := ht.d2
  have d3 := ht.d3
  have a2 := ht.a2
  have a3 := ht.a3
  have f0 := ht.f0
  have f1 := ht.f1
  have f2 := ht.f2
  have f3 := ht.f3
  have n1 := ht.n1
  have n2 := ht.n2
  have n3 := ht.n3
  have n4 := ht.n4
  have n5 := ht.n5
  have n6 := ht.n6
  have r1 := ht.r1
  have r2 := ht.r2
  have r3 := ht.r3
  have r4 := ht.r4
  have q1 : (i : Int) < S.gs.length := by omega
  have q2 : (i : Int) < S.vs.length := by omega
  have q3 : ((i : Int) == (S.us.length : Int)) = false := by simp; omega
  clear h hc hok hx ht hn
  go_enter Tryd.func34, Tryd.ntmps34
  go_wp2
  go_quiet (fail)
  go_wp2
  go_loop [6] (fun j => ∃ k : Nat, k ≤ i ∧ j = .int .i64 k) (fun j => i - (intOf j).toNat)
  case atStart => exact ⟨0, by omega, rfl⟩
  case round =>
    obtain ⟨k, hk, rfl⟩ := hrel
    by_cases hlt : k < i
    · have hk2 := HX.out k hlt
      have hk3 : k < S.us.length := by omega
      go_wp2
      go_round
      case rel => exact ⟨k + 1, by omega, by go_num⟩
      case measure => simp [intOf]; omega
    · have e : k = i := by omega
      subst e
      clear hlt hk
      go_upto_region 10 with (fail)
      obtain ⟨W, hW, hM, hE⟩ : ∃ W : World, W = (w.alloc (.cells #[.int .i64 0, .int .i64 0] 32)).drewN nq ∧ Hid (Mods [g, ub, gb, vb] w W) ∧ Hid (RefEnd w W g ub gb vb k S.us.length S.gs.length S.vs.length cu' cg cv gi z v S.lim S.cnt (S.put v) K) :=
        ⟨_, rfl, Lib.hid (((Mods.refl _ w).alloc _).drewN nq), Lib.hid ⟨HT.out.drewN nq, (Row.new w _ _).drewN nq, by rw [HP.out]; exact slabB_keep HF.out.1 (fun _ _ => rfl), by
          have h := HF.out.2
          exact ⟨h.os, h.tape, h.output, h.size, h.block⟩⟩⟩
      rw [← hW]
      clear hW d1 d2 d3 a2 a3 f0 f1 f2 f3 c0 c1 c4
      have a1 := hE.out.tail.a1
      have a2 := hE.out.tail.a2
      have a3 := hE.out.tail.a3
      have a4 := hE.out.tail.a4
      have d1 := hE.out.tail.d1
      have d2 := hE.out.tail.d2
      have d3 := hE.out.tail.d3
      have f0 := hE.out.tail.f0
      have f1 := hE.out.tail.f1
      have f2 := hE.out.tail.f2
      have f3 := hE.out.tail.f3
      have s0 : W.cell? ⟨w.heap.size, 0, none⟩ = some (.int .i64 0) := hE.out.row.cell 0
      have s1 : W.cell? ⟨w.heap.size, 1, none⟩ = some (.int .i64 0) := hE.out.row.cell 1
      have s2 := hE.out.row.free
      go_wp2
      exact ret_hand Tryd.results34 (hE.out.rows _ _) rfl rfl rfl ⟨by rw [HG.out]; rfl, hE.out.fin _ _, ((hM.out.trans hE.out.mods (fun k hk => .inl hk)).setCell (by simp) _).setCell (by simp) _⟩
end Go.Proofs.YtgfmjkbelciaaaaDoor
