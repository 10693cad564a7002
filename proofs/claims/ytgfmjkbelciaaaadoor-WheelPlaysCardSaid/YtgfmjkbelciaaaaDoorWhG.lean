/- What end of the program's wheel does. -/
import Derived.Test.YtgfmjkbelciaaaaDoorWhS
import Derived.Test.YtgfmjkbelciaaaaDoorSlab
namespace Go.Proofs.YtgfmjkbelciaaaaDoor
open Go.RowKit
set_option maxRecDepth 10000
set_option linter.unusedVariables false
set_option linter.unusedSimpArgs false
set_option linter.unnecessarySimpa false

/-- All timers but one. -/
def woT (M : List Tm) (b : Nat) : List Tm := M.filter (fun x => x.b != b)
theorem woT_sub (M : List Tm) (b : Nat) : ∀ m ∈ woT M b, m ∈ M ∧ m.b ≠ b := fun m hm => by
  have := List.mem_filter.1 hm
  exact ⟨this.1, by simpa using this.2⟩
theorem woT_mem {M : List Tm} {b : Nat} {m : Tm} (h : m ∈ M) (hb : m.b ≠ b) : m ∈ woT M b := List.mem_filter.2 ⟨h, by simpa using hb⟩
theorem eq_of_b {M : List Tm} (h : (M.map (·.b)).Nodup) : ∀ {m x : Tm}, m ∈ M → x ∈ M → m.b = x.b → m = x := by
  induction M with
  | nil => intro m x hm; cases hm
  | cons y M ih =>
    intro m x hm hx e
    rw [List.map_cons, List.nodup_cons] at h
    rcases List.mem_cons.1 hm with rfl | hm' <;> rcases List.mem_cons.1 hx with rfl | hx'
    · rfl
    · exact absurd (e ▸ List.mem_map_of_mem hx') h.1
    · exact absurd (e ▸ List.mem_map_of_mem hm') h.1
    · exact ih h.2 hm' hx' e
theorem eq_of_s {M : List Tm} (h : (M.map (·.s)).Nodup) : ∀ {m x : Tm}, m ∈ M → x ∈ M → m.s = x.s → m = x := by
  induction M with
  | nil => intro m x hm; cases hm
  | cons y M ih =>
    intro m x hm hx e
    rw [List.map_cons, List.nodup_cons] at h
    rcases List.mem_cons.1 hm with rfl | hm' <;> rcases List.mem_cons.1 hx with rfl | hx'
    · rfl
    · exact absurd (e ▸ List.mem_map_of_mem hx') h.1
    · exact absurd (e ▸ List.mem_map_of_mem hm') h.1
    · exact ih h.2 hm' hx' e
theorem woT_length {M : List Tm} (h : (M.map (·.b)).Nodup) {m : Tm} (hm : m ∈ M) : (woT M m.b).length + 1 = M.length := by
  induction M with
  | nil => cases hm
  | cons y M ih =>
    rw [List.map_cons, List.nodup_cons] at h
    by_cases e : y.b = m.b
    · have e2 : woT (y :: M) m.b = M := by
        unfold woT
        rw [List.filter_cons, if_neg (by simp [e]), List.filter_eq_self]
        intro x hx
        simp only [bne_iff_ne]
        intro e3
        exact h.1 (by rw [e, ← e3]; exact List.mem_map_of_mem hx)
      rw [e2]; rfl
    · have e2 : woT (y :: M) m.b = y :: woT M m.b := by
        unfold woT
        rw [List.filter_cons, if_pos (by simpa using e)]
      rcases List.mem_cons.1 hm with rfl | hm'
      · exact absurd rfl e
      · rw [e2, List.length_cons, List.length_cons, ih h.2 hm']
theorem nodup_filter_map {α : Type} (f : Tm → α) (p : Tm → Bool) {M : List Tm} (h : (M.map f).Nodup) : ((M.filter p).map f).Nodup :=
  List.Nodup.sublist (List.Sublist.map f List.filter_sublist) h
theorem WOk.end_ {S : Slb} {now : Nat} {M : List Tm} (h : WOk S now M) {m : Tm} (hm : m ∈ M) : WOk (S.take m.s) now (woT M m.b) := by
  obtain ⟨u1, u2, u3⟩ := h.use m hm
  refine ⟨nodup_filter_map _ _ h.bnd, nodup_filter_map _ _ h.slots, fun x hx => ?_, fun i hi => ?_, ?_, h.time, fun x hx => h.times x (woT_sub M m.b x hx).1, h.lim⟩
  · obtain ⟨h1, h2⟩ := woT_sub M m.b x hx
    obtain ⟨v1, v2, v3⟩ := h.use x h1
    refine ⟨by simpa [Slb.take] using v1, ?_, v3⟩
    simp only [Slb.take]
    rw [getD_set_bool, if_neg]
    · exact v2
    · exact fun e => h2 (congrArg (·.b) (eq_of_s h.slots hm h1 e.1)).symm
  · simp only [Slb.take] at hi
    rw [getD_set_bool] at hi
    split at hi
    · cases hi
    · rename_i hne
      obtain ⟨x, hx, e⟩ := h.all i hi
      exact ⟨x, woT_mem hx (fun e2 => hne ⟨by rw [← e, eq_of_b h.bnd hx hm e2], u1⟩), e⟩
  · have h1 := woT_length h.bnd hm
    have h2 := Slb.take_cnt u1 u2
    have := h.cnt
    omega
theorem bySlot_wo {S : Slb} {now : Nat} {M : List Tm} (h : WOk S now M) {m : Tm} (hm : m ∈ M) (i : Nat) : bySlot (woT M m.b) i = if i = m.s then none else bySlot M i := by
  split
  · rename_i e
    refine bySlot_none fun x hx ex => ?_
    obtain ⟨h1, h2⟩ := woT_sub M m.b x hx
    exact h2 (congrArg (·.b) (eq_of_s h.slots h1 hm (ex.trans e)))
  · rename_i e
    by_cases hx : ∃ x ∈ M, x.s = i
    · obtain ⟨x, hx, rfl⟩ := hx
      rw [bySlot_of h.slots hx]
      exact bySlot_of (h.end_ hm).slots (woT_mem hx fun e2 => e (congrArg (·.s) (eq_of_b h.bnd hx hm e2)))
    · rw [bySlot_none (fun x hx' e' => hx ⟨x, hx', e'⟩), bySlot_none (fun x hx' e' => hx ⟨x, (woT_sub M m.b x hx').1, e'⟩)]
theorem WheelM.ended {w w1 w' : World} {g hg : Nat} {tv : Value} {hF : List Nat} {ps : List (Option Nat)} {Q : Nat → List Nat} {S : Slb} {K now : Nat} {M : List Tm} {m : Tm} {tb to n cap : Nat}
    (h : WheelM w g hg tv hF ps Q S K now M) (hm : m ∈ M) (hQ : ∀ q, q < 257 → m.b ∉ Q q) (htv : tv = .slice (some ⟨tb, to, none⟩) n cap) (hms : m.s < ps.length)
    (h1 : w1.heap = (w.setCell ⟨tb, to + m.s, none⟩ (.pointer none)).heap) (h2 : Mods hF w1 w') (hM : Mods (blks g tv hF M) w w') (hs : SlabA w' hg hF (S.take m.s) K) :
    WheelM w' g hg tv hF (ps.set m.s none) Q (S.take m.s) K now (woT M m.b) := by
  obtain ⟨a1, a2, a3, a4, a5⟩ := h.apart
  have ht : tb ∈ tv.ownBlock.toList := by rw [htv]; simp [Value.ownBlock]
  have same : ∀ k ∈ blks g tv hF M, k ∉ hF → k ≠ tb → w'.heap[k]? = w.heap[k]? := fun k hk hF' hne => by
    have e1 : w1.heap[k]? = w.heap[k]? := by rw [h1]; exact heap_setCell_other _ _ _ _ (by exact hne)
    have hl : k < w1.heap.size := by rw [h1]; have := h.lt k hk; simpa [World.setCell] using this
    rw [h2.block k hl hF', e1]
  have sg := same g (by simp [blks]) a1 (fun e => a2 (e ▸ ht))
  have sb : ∀ b ∈ M.map (·.b), w'.heap[b]? = w.heap[b]? := fun b hb => same b (by simp only [blks, List.mem_cons, List.mem_append]; exact .inr (.inr (.inr hb))) (fun e => (a4 b e).2 hb) (fun e => a5 tb ht (e ▸ hb))
  refine ⟨h.base.keep sg, hs, ?_, by simpa [Slb.take] using h.plen, fun i hi => ?_, h.lnk.keep sg (fun p hp b hb => sb b (h.qin p hp b hb)), fun p hp b hb => ?_, fun x hx => ?_, h.ok.end_ hm⟩
  · have ho : Own w 69 (.slice (some ⟨tb, to, none⟩) n cap) (ps.map optr) := htv ▸ h.own
    have h3 := ho.set (.pointer none) (i := m.s) (by rw [List.length_map]; exact hms)
    have e : (ps.map optr).set m.s (.pointer none) = (ps.set m.s none).map optr := by rw [List.map_set]; rfl
    rw [e, ← htv] at h3
    have h4 : Own w1 69 tv ((ps.set m.s none).map optr) := h3.keep fun k hk => by rw [h1]
    exact h4.mods h2 (fun k hk hk2 => (a4 k hk2).1 hk)
  · rw [List.length_set] at hi
    rw [bySlot_wo h.ok hm, List.getElem?_set]
    by_cases e : m.s = i
    · rw [if_pos e, if_pos e.symm]
      rw [if_pos (by omega)]
    · rw [if_neg e, if_neg (fun e2 => e e2.symm)]
      exact h.pat i hi
  · have hb' := h.qin p hp b hb
    obtain ⟨x, hx, rfl⟩ := List.mem_map.1 hb'
    exact List.mem_map_of_mem (woT_mem hx fun e => hQ p hp (e ▸ hb))
  · obtain ⟨h5, _⟩ := woT_sub M m.b x hx
    obtain ⟨u, v, r⟩ := h.node x h5
    exact ⟨u, v, r.keep (sb x.b (List.mem_map_of_mem h5))⟩
end Go.Proofs.YtgfmjkbelciaaaaDoor

/- What end of the program's wheel does: the walk. -/
namespace Go.Proofs.YtgfmjkbelciaaaaDoor
open Go.RowKit
set_option maxRecDepth 10000
set_option linter.unusedVariables false
set_option linter.unusedSimpArgs false
set_option linter.unnecessarySimpa false

theorem end_any (w : World) (g hg : Nat) (tv : Value) (hF : List Nat) (ps : List (Option Nat)) (Q : Nat → List Nat) (S : Slb) (K now : Nat) (M : List Tm) (m : Tm) (h : WheelM w g hg tv hF ps Q S K now M) (hm : m ∈ M) (hQ : ∀ q, q < 257 → m.b ∉ Q q) (hK : K ≤ 4000000000000) :
    Calls Tryd.prog 37 #[ptr g, ptr m.b] w fun e w' => e = .returned (.tuple #[]) ∧ Hid (WheelM w' g hg tv hF (ps.set m.s none) Q (S.take m.s) K now (woT M m.b) ∧ Mods (blks g tv hF M) w w') := by
  have HM := Lib.hid h
  obtain ⟨tb, to, n, cap, htv, q1, q2, q3, q4, q5, ct, k2, f2, tg, hps⟩ := h.slot hm
  obtain ⟨k0, k1, _, f1⟩ := h.base.cells
  obtain ⟨x, y, r⟩ := h.node m hm
  have s0 : w.cell? ⟨m.b, 0, none⟩ = some (.int .i64 (m.s : Int)) := by rw [r.cell]; rfl
  have s1 : w.cell? ⟨m.b, 1, none⟩ = some (.int .i64 (m.g : Int)) := by rw [r.cell]; rfl
  have p1 : (m.s : Int) < (n : Int) := by omega
  obtain ⟨a1, a2, a3, a4, a5⟩ := h.apart
  have ht : tb ∈ tv.ownBlock.toList := by rw [htv]; simp [Value.ownBlock]
  have htb : m.b ≠ tb := fun e => a5 tb ht (e ▸ List.mem_map_of_mem hm)
  have hltw := World.block_lt_of_cell? w _ ct
  -- the world behind the first store
  obtain ⟨W, hW⟩ : ∃ W : World, W = (w.setCell ⟨tb, to + m.s, none⟩ (.pointer none)).drew := ⟨_, rfl⟩
  have hWh : W.heap = (w.setCell ⟨tb, to + m.s, none⟩ (.pointer none)).heap := by rw [hW]; rfl
  have hWc : ∀ a : Addr, a.block ≠ tb → W.cell? a = w.cell? a := fun a ha => (World.cell?_of_block (w := w) (by rw [hWh]; exact heap_setCell_other _ _ _ _ (fun e => ha e)))
  have k1W : W.cell? ⟨g, 1, none⟩ = some (.pointer (some ⟨hg, 0, none⟩)) := (hWc _ (by exact tg.symm)).trans k1
  have s0W : W.cell? ⟨m.b, 0, none⟩ = some (.int .i64 (m.s : Int)) := (hWc _ (by exact htb)).trans s0
  have s1W : W.cell? ⟨m.b, 1, none⟩ = some (.int .i64 (m.g : Int)) := (hWc _ (by exact htb)).trans s1
  have MW : Mods [tb] w W := by rw [hW]; exact ((Mods.refl _ w).setCell (by simp) _).drew
  have slW : SlabA W hg hF S K := slabA_mods h.slab MW (fun k hk hk2 => by
    simp only [List.mem_cons, List.mem_nil_iff, or_false] at hk2
    exact (a4 k hk).1 (hk2 ▸ ht))
  have hgK : (m.g : Int) ≤ 4000000000000 := by
    have hok : S.Ok K := by obtain ⟨sv, cs, xs, U, hF, hrow, hsz, h0, h1, h2, hU, hown, hx, hbit, hok⟩ := h.slab; exact hok
    have := hok.gk m.s
    have := (h.ok.use m hm).2.2
    omega
  have HPr := pairs_row (Row.new W 32 #[.int .i64 (m.s : Int), .int .i64 (m.g : Int)]) (l := [((m.s : Int), (m.g : Int))]) rfl (by
    intro p hp
    simp only [List.mem_cons, List.mem_nil_iff, or_false] at hp
    subst hp
    exact ⟨⟨by simp only []; omega, by simp only []; omega⟩, by simp only []; omega, by simp only []; omega⟩)
  have HT := Lib.hid (take_any (W.alloc (.cells #[.int .i64 (m.s : Int), .int .i64 (m.g : Int)] 32)).drew hg W.heap.size 1 [((m.s : Int), (m.g : Int))] hF S K (slabA_keep slW fun k hk => Below.heap_alloc W _ k (slabA_lt slW k hk)) (by simp) HPr (fun hk => by have := slabA_lt slW _ hk; omega))
  have hS1 : S.takes [((m.s : Int), (m.g : Int))] = S.take m.s := by
    show S.take1 _ = _
    unfold Slb.take1
    rw [if_pos (by exact h.is hm), Int.toNat_natCast]
  have HF := Lib.hid (show ∀ w', SlabA w' hg hF (S.takes [((m.s : Int), (m.g : Int))]) K → Mods hF (W.alloc (.cells #[.int .i64 (m.s : Int), .int .i64 (m.g : Int)] 32)).drew w' → WheelM w' g hg tv hF (ps.set m.s none) Q (S.take m.s) K now (woT M m.b) ∧ Mods (blks g tv hF M) w w' from fun w' hs hm2 => by
    rw [hS1] at hs
    have m1 : Mods hF W w' := (((Mods.refl hF W).alloc _)).trans (of_drew hm2) (fun k hk => .inl hk)
    have m2 : Mods (blks g tv hF M) w w' := (MW.more (F2 := blks g tv hF M) fun k hk => .inl (by
      simp only [List.mem_cons, List.mem_nil_iff, or_false] at hk
      rw [hk]
      simp only [blks, List.mem_cons, List.mem_append]; exact .inr (.inr (.inl ht)))).trans m1 (fun k hk => .inl (by simp [blks, hk]))
    exact ⟨h.ended hm hQ htv (by omega) hWh m1 m2 hs, m2⟩)
  have k1a := cell_alloc k1W (.cells #[.int .i64 (m.s : Int), .int .i64 (m.g : Int)] 32)
  have s0a := cell_alloc s0W (.cells #[.int .i64 (m.s : Int), .int .i64 (m.g : Int)] 32)
  have s1a := cell_alloc s1W (.cells #[.int .i64 (m.s : Int), .int .i64 (m.g : Int)] 32)
  have n1 := Lib.hid a1
  have n2 := Lib.hid (fun hk => (a4 m.b hk).2 (List.mem_map_of_mem hm))
  clear h htv q2 hps a1 a2 a3 a4 a5 ht hWh hWc MW slW HPr hS1 r
  go_enter Tryd.func37, Tryd.ntmps37
  go_wp2
  go_region
  all_goals
    rw [← hW]
    clear hW
    go_wp2
    go_region_held3 (fun w' => w'.cell? ⟨g, 1, none⟩ = some (.pointer (some ⟨hg, 0, none⟩)) ∧ w'.cell? ⟨m.b, 0, none⟩ = some (.int .i64 (m.s : Int)) ∧ w'.cell? ⟨m.b, 1, none⟩ = some (.int .i64 (m.g : Int))) (go_keep)
      ((go_at_call 51; refine Calls.mono HT.out ?_; rintro e w1 ⟨rfl, hs, hd⟩; have k1b := cell_mods k1a (of_drew hd) n1.out; have s0b := cell_mods s0a (of_drew hd) n2.out; have s1b := cell_mods s1a (of_drew hd) n2.out; have HR := Lib.hid (HF.out _ hs hd); clear hs hd))
  all_goals go_wp2
  all_goals go_end0
  all_goals exact ⟨rfl, HR⟩
end Go.Proofs.YtgfmjkbelciaaaaDoor
