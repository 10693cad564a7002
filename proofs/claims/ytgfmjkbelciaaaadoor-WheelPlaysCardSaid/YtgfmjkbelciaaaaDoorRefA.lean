/- The reference's slab in memory, and what New, Is, Get, Set answer. -/
import Derived.Test.YtgfmjkbelciaaaaDoorProg
import Derived.WalkKit
import Derived.ProofKit
import Derived.RegionTactic
import Derived.Deep.QuietTactic
import Derived.BigQuiet
import Derived.Outline
import Derived.LoopTactic
import Derived.WalkLawsBesides
import Derived.WalkSpells
import Derived.Deep.RegionHeld3
import Derived.Deep.RegionWith
import Derived.BigRegion
import Derived.Deep.AppendLies
import Derived.OwnWalk
import Derived.Test.YtgfmjkbelciaaaaDoorMem
import Derived.Test.YtgfmjkbelciaaaaDoorSlabMath
namespace Go.Proofs.YtgfmjkbelciaaaaDoor
open Go.RowKit
set_option maxRecDepth 10000
set_option linter.unusedVariables false
set_option linter.unusedSimpArgs false

def ints (l : List Nat) : List Value := l.map fun (n : Nat) => .int .i64 (n : Int)
def zs (l : List Int) : List Value := l.map fun n => .int .i64 n
def bs (l : List Bool) : List Value := l.map Value.bool
/-- The reference's slab: its three rows, whatever they hold. -/
def RefQ (w : World) (x : Nat) (uv gv vv : Value) (lim cnt : Nat) (us : List Bool) (gs : List Nat) (vs : List Int) : Prop :=
  Row w x 97 #[.int .i64 lim, uv, gv, vv, .int .i64 cnt] ∧ w.ownsRow 0 4 1 uv us.length (bs us) ∧ w.ownsRow 0 3 1 gv gs.length (ints gs) ∧ w.ownsRow 0 3 1 vv vs.length (zs vs) ∧
    (∀ k ∈ gv.ownBlock.toList, k ∉ vv.ownBlock.toList)
def SlabB (w : World) (x : Nat) (F : List Nat) (S : Slb) (K : Nat) : Prop :=
  ∃ uv gv vv, F = x :: (uv.ownBlock.toList ++ (gv.ownBlock.toList ++ vv.ownBlock.toList)) ∧ RefQ w x uv gv vv S.lim S.cnt S.us S.gs S.vs ∧ S.Ok K
theorem refQ_keep {w w' : World} {x : Nat} {uv gv vv : Value} {lim cnt : Nat} {us : List Bool} {gs : List Nat} {vs : List Int} (h : RefQ w x uv gv vv lim cnt us gs vs)
    (e : ∀ k ∈ x :: (uv.ownBlock.toList ++ (gv.ownBlock.toList ++ vv.ownBlock.toList)), w'.heap[k]? = w.heap[k]?) : RefQ w' x uv gv vv lim cnt us gs vs := by
  obtain ⟨h1, h2, h3, h4, h5⟩ := h
  refine ⟨h1.keep (e _ (by simp)), own_keep h2 fun k hk => e k ?_, own_keep h3 fun k hk => e k ?_, own_keep h4 fun k hk => e k ?_, h5⟩
  · exact List.mem_cons_of_mem _ (List.mem_append_left _ hk)
  · exact List.mem_cons_of_mem _ (List.mem_append_right _ (List.mem_append_left _ hk))
  · exact List.mem_cons_of_mem _ (List.mem_append_right _ (List.mem_append_right _ hk))
theorem slabB_lt {w : World} {x : Nat} {F : List Nat} {S : Slb} {K : Nat} (h : SlabB w x F S K) : ∀ k ∈ F, k < w.heap.size := by
  obtain ⟨uv, gv, vv, rfl, ⟨h1, h2, h3, h4, h5⟩, _⟩ := h
  intro k hk
  simp only [List.mem_cons, List.mem_append] at hk
  rcases hk with rfl | hk | hk | hk
  · exact h1.lt
  · exact own_lt h2 k hk
  · exact own_lt h3 k hk
  · exact own_lt h4 k hk
theorem slabB_keep {w w' : World} {x : Nat} {F : List Nat} {S : Slb} {K : Nat} (h : SlabB w x F S K) (e : ∀ k ∈ F, w'.heap[k]? = w.heap[k]?) : SlabB w' x F S K := by
  obtain ⟨uv, gv, vv, rfl, hq, hok⟩ := h
  exact ⟨uv, gv, vv, rfl, refQ_keep hq e, hok⟩
theorem slabB_mods {w w' : World} {x : Nat} {F G : List Nat} {S : Slb} {K : Nat} (h : SlabB w x F S K) (hm : Mods G w w') (hd : ∀ k ∈ F, k ∉ G) : SlabB w' x F S K :=
  slabB_keep h fun k hk => hm.block k (slabB_lt h k hk) (hd k hk)

theorem Slb.new_ok' {n : Nat} (h : 1 ≤ n) (h2 : n ≤ 4096) : (⟨n, [], [], []⟩ : Slb).Ok 0 := ⟨h, h2, by simp, rfl, rfl, by simp⟩
theorem rnew_no (n : Int) (w : World) (h : n < 1 ∨ 4096 < n) : Calls Tryd.prog 31 #[.int .i64 n] w fun e w' => e = .returned (.tuple #[.pointer none, .int .i64 1]) ∧ w = w' := by
  rcases h with h | h
  · go_enter Tryd.func31, Tryd.ntmps31
    go_wp2
    go_ret2
    exact ⟨rfl, rfl⟩
  · have h' : ¬ n < 1 := by omega
    go_enter Tryd.func31, Tryd.ntmps31
    go_wp2
    go_ret2
    exact ⟨rfl, rfl⟩
theorem rnew_any (n : Nat) (w : World) (h : 1 ≤ n) (h2 : n ≤ 4096) : Calls Tryd.prog 31 #[.int .i64 n] w fun e w' =>
    e = .returned (.tuple #[.pointer (some ⟨w.heap.size, 0, none⟩), .int .i64 0]) ∧ SlabB w' w.heap.size [w.heap.size] ⟨n, [], [], []⟩ 0 ∧ Mods [] w w' := by
  go_enter Tryd.func31, Tryd.ntmps31
  go_wp2
  go_ret2
  exact ⟨rfl, ⟨.slice none 0 0, .slice none 0 0, .slice none 0 0, by simp [Value.ownBlock], ⟨Row.new _ _ _, ⟨rfl, .inl ⟨rfl, rfl⟩⟩, ⟨rfl, .inl ⟨rfl, rfl⟩⟩, ⟨rfl, .inl ⟨rfl, rfl⟩⟩, by simp [Value.ownBlock]⟩, Slb.new_ok' h h2⟩, (Mods.refl _ _).alloc _⟩

/-- The cells of slot i, and the slices. -/
structure RefAt (w : World) (x i nu ng nv lim cnt : Nat) (U G V : Option Addr) (cu cg cv : Nat) : Prop where
  a0 : w.cell? ⟨x, 0, none⟩ = some (.int .i64 lim)
  a1 : w.cell? ⟨x, 1, none⟩ = some (.slice U nu cu)
  a2 : w.cell? ⟨x, 2, none⟩ = some (.slice G ng cg)
  a3 : w.cell? ⟨x, 3, none⟩ = some (.slice V nv cv)
  a4 : w.cell? ⟨x, 4, none⟩ = some (.int .i64 cnt)
  f : ∀ j, w.frozen? ⟨x, j, none⟩ = false
  mu : nu ≤ cu
  mg : ng ≤ cg
  mv : nv ≤ cv
  lu : cu ≤ maxLen
  lg : cg ≤ maxLen
  lv : cv ≤ maxLen
theorem refQ_at {w : World} {x : Nat} {uv gv vv : Value} {lim cnt : Nat} {us : List Bool} {gs : List Nat} {vs : List Int} (h : RefQ w x uv gv vv lim cnt us gs vs) (i : Nat) :
    ∃ U G V cu cg cv, uv = .slice U us.length cu ∧ gv = .slice G gs.length cg ∧ vv = .slice V vs.length cv ∧ RefAt w x i us.length gs.length vs.length lim cnt U G V cu cg cv := by
  obtain ⟨h1, h2, h3, h4, h5⟩ := h
  obtain ⟨U, cu, rfl, u1, u2⟩ := own_slice h2
  obtain ⟨G, cg, rfl, g1, g2⟩ := own_slice h3
  obtain ⟨V, cv, rfl, v1, v2⟩ := own_slice h4
  exact ⟨U, G, V, cu, cg, cv, rfl, rfl, rfl, ⟨h1.cell 0, h1.cell 1, h1.cell 2, h1.cell 3, h1.cell 4, h1.free, u1, g1, v1, u2, g2, v2⟩⟩
theorem own_cell {w : World} {e : TypeId} {v : Value} {n i : Nat} {xs : List Value} {u : Value} (h : w.ownsRow 0 e 1 v n xs) (hi : i < n) (hx : xs[i]? = some u) :
    ∃ b cap, v = .slice (some ⟨b, 0, none⟩) n cap ∧ w.cell? ⟨b, i, none⟩ = some u ∧ (∀ j, w.frozen? ⟨b, j, none⟩ = false) := by
  obtain ⟨b, cap, rfl, _, _, _⟩ := own_some h (by omega)
  exact ⟨b, cap, rfl, by rw [h.cellAt _ (by omega)]; exact hx, h.frozenAt⟩
theorem bs_at (l : List Bool) (i : Nat) (h : i < l.length) : (bs l)[i]? = some (.bool (l.getD i false)) := by
  simp [bs, List.getElem?_eq_getElem h]
theorem ints_at (l : List Nat) (i : Nat) (h : i < l.length) : (ints l)[i]? = some (.int .i64 (l.getD i 0 : Nat)) := by
  simp [ints, List.getElem?_eq_getElem h]
theorem zs_at (l : List Int) (i : Nat) (h : i < l.length) : (zs l)[i]? = some (.int .i64 (l.getD i 0)) := by
  simp [zs, List.getElem?_eq_getElem h]

theorem ret_boolR {a b : Bool} (h : a = b) : Ending.returned (.bool a) = .returned (.bool b) := by rw [h]
theorem is_any (w : World) (x : Nat) (a b : Int) (F : List Nat) (S : Slb) (K : Nat) (ha : -9223372036854775808 ≤ a) (ha' : a ≤ 9223372036854775807) (h : SlabB w x F S K) :
    Calls Tryd.prog 52 #[.pointer (some ⟨x, 0, none⟩), .agg #[.int .i64 a, .int .i64 b]] w fun e w' => e = .returned (.bool (S.is a b)) ∧ Mods [] w w' := by
  have HA := Lib.hid h
  obtain ⟨uv, gv, vv, hF, hq, hok⟩ := h
  obtain ⟨U, G, V, cu, cg, cv, rfl, rfl, rfl, hat⟩ := refQ_at hq 0
  obtain ⟨hrow, hu, hg, hv, _⟩ := hq
  have b1 := fun o => cell_alloc hat.a1 o
  have b2 := fun o => cell_alloc hat.a2 o
  have hl := hok.len
  have hh := hok.hi
  have hgl := hok.gl
  have hmu := hat.mu
  have hmg := hat.mg
  have hlu := hat.lu
  have hlg := hat.lg
  unfold maxLen at hlu hlg
  by_cases c1 : 0 ≤ a
  case neg =>
    have hd1 : decide (0 ≤ a) = false := by simpa using c1
    clear hrow hu hg hv hF hok hat
    go_enter Tryd.func52, Tryd.ntmps52
    go_wp2
    go_quiet (fail)
    go_wp2
    go_ret
    exact ⟨ret_boolR (by simp only [Slb.is]; rw [hd1]; rfl), ((Mods.refl _ _).alloc _).drewN _⟩
  case pos =>
  obtain ⟨i, rfl⟩ := Int.eq_ofNat_of_zero_le c1
  by_cases c2 : i < S.us.length
  case neg =>
    have hd : decide (i < S.us.length) = false := by simpa using c2
    have hgg : S.us.getD i false = false := by rw [List.getD_eq_getElem?_getD, List.getElem?_eq_none (by omega)]; rfl
    clear hrow hu hg hv hF hok hat
    have HG := Lib.hid hgg
    clear hgg
    go_enter Tryd.func52, Tryd.ntmps52
    go_wp2
    go_quiet (fail)
    go_wp2
    go_ret
    exact ⟨ret_boolR (by simp only [Slb.is, Int.toNat_natCast, HG.out]; simp), ((Mods.refl _ _).alloc _).drewN _⟩
  case pos =>
    have hd : decide (i < S.us.length) = true := by simpa using c2
    obtain ⟨ub, _, e1, d1, _⟩ := own_cell hu c2 (bs_at _ _ c2)
    injection e1 with e1 _ _
    subst e1
    obtain ⟨gb, _, e2, d2, _⟩ := own_cell hg (i := i) (by omega) (ints_at _ _ (by omega))
    injection e2 with e2 _ _
    subst e2
    have d1 := fun o => cell_alloc d1 o
    have d2 := fun o => cell_alloc d2 o
    have q1 : (i : Int) < S.gs.length := by omega
    by_cases c3 : S.us.getD i false = true
    case neg =>
      have c3' : S.us.getD i false = false := by simpa using c3
      have HG := Lib.hid c3'
      rw [c3'] at d1
      clear hrow hu hg hv hF hok hat c3 c3'
      go_enter Tryd.func52, Tryd.ntmps52
      go_wp2
      go_quiet (fail)
      go_wp2
      go_ret
      exact ⟨ret_boolR (by simp only [Slb.is, Int.toNat_natCast, HG.out]; simp), ((Mods.refl _ _).alloc _).drewN _⟩
    case pos =>
      have HI := Lib.hid (show S.is (i : Int) b = decide ((S.gs.getD i 0 : Int) = b) by simp only [Slb.is, Int.toNat_natCast, c3]; simp)
      rw [c3] at d1
      generalize S.gs.getD i 0 = gi at *
      clear hrow hu hg hv hF hok hat c3
      go_enter Tryd.func52, Tryd.ntmps52
      go_wp2
      go_quiet (fail)
      go_wp2
      go_ret
      exact ⟨ret_boolR (by rw [HI.out]; rfl), ((Mods.refl _ _).alloc _).drewN _⟩
end Go.Proofs.YtgfmjkbelciaaaaDoor
