/- Two Fields side by side, as a law holds them. Conditions: as each says. -/
import Derived.Test.YtakimadhbgpedaaDoorFp10
namespace Go.Proofs.YtakimadhbgpedaaDoor
open Go.RowKit
set_option linter.unusedVariables false
set_option linter.unusedSimpArgs false

/-- The blocks of a Fields. -/
abbrev bl (g : Nat) (v : Value) : List Nat := g :: v.ownBlock.toList
/-- Two Fields that share no block with each other, nor with what lay in W. -/
structure Two (t1 t2 : TypeId) (W w : World) (g1 : Nat) (v1 : Value) (S1 : List FV) (g2 : Nat) (v2 : Value) (S2 : List FV) : Prop where
  p : Fld t1 w g1 v1 S1
  x : Fld t2 w g2 v2 S2
  ap : ∀ k ∈ bl g1 v1, k ∉ bl g2 v2
  b1 : ∀ k ∈ bl g1 v1, W.heap.size ≤ k
  b2 : ∀ k ∈ bl g2 v2, W.heap.size ≤ k
  low : Mods [] W w
section
variable {t t1 t2 : TypeId} {W w w' w2 : World} {g g1 g2 : Nat} {v v1 v2 u : Value} {S S1 S2 S' : List FV}
theorem Fld.blt (h : Fld t w g v S) : ∀ k ∈ bl g v, k < w.heap.size := fun k hk => by
  rw [List.mem_cons] at hk
  rcases hk with rfl | hk
  · exact h.row.lt
  · exact h.lt k hk
theorem Added.bnew (h : Added t w g v S u w') : ∀ k ∈ bl g u, k ∈ bl g v ∨ w.heap.size ≤ k := fun k hk => by
  rw [List.mem_cons] at hk
  rcases hk with rfl | hk
  · exact .inl (by simp)
  · rcases h.news k hk with h | h
    · exact .inl (List.mem_cons_of_mem _ h)
    · exact .inr h
theorem Two.quiet (h : Two t1 t2 W w g1 v1 S1 g2 v2 S2) (hm : Mods [] w w') : Two t1 t2 W w' g1 v1 S1 g2 v2 S2 :=
  ⟨h.p.low hm, h.x.low hm, h.ap, h.b1, h.b2, h.low.trans hm (fun _ h => nomatch h)⟩
theorem Two.swap (h : Two t1 t2 W w g1 v1 S1 g2 v2 S2) : Two t2 t1 W w g2 v2 S2 g1 v1 S1 :=
  ⟨h.x, h.p, fun k hk hk2 => h.ap k hk2 hk, h.b2, h.b1, h.low⟩
theorem Two.pa (h : Two t1 t2 W w g1 v1 S1 g2 v2 S2) (ha : Added t1 w g1 v1 S' u w') : Two t1 t2 W w' g1 u S' g2 v2 S2 := by
  have hlt := h.x.blt
  refine ⟨ha.fld, h.x.mods ha.mods (fun hk => h.ap _ hk (by simp)) (fun k hk hk2 => h.ap k hk2 (List.mem_cons_of_mem _ hk)), fun k hk hk2 => ?_, fun k hk => ?_, h.b2, h.low.trans ha.mods fun k hk => .inr (h.b1 k hk)⟩
  · rcases ha.bnew k hk with h1 | h1
    · exact h.ap k h1 hk2
    · have := hlt k hk2; omega
  · rcases ha.bnew k hk with h1 | h1
    · exact h.b1 k h1
    · exact Nat.le_trans h.low.size h1
theorem Two.xa (h : Two t1 t2 W w g1 v1 S1 g2 v2 S2) (ha : Added t2 w g2 v2 S' u w') : Two t1 t2 W w' g1 v1 S1 g2 u S' := (h.swap.pa ha).swap
/-- What a Drop of the code leaves. -/
theorem added_drop (h : u.ownBlock = v.ownBlock) (hf : Fld t w' g u S) (hm : Mods (g :: v.ownBlock.toList) w w') : Added t w g v S u w' := ⟨hf, hm, fun k hk => .inl (by rw [← h]; exact hk)⟩
theorem Added.back {o : Obj} (h : Added t (w.alloc o) g v S u w') : Added t w g v S u w' :=
  ⟨h.fld, ((Mods.refl _ w).alloc o).trans h.mods (fun k hk => .inl hk), fun k hk => by
    rcases h.news k hk with h | h
    · exact .inl h
    · exact .inr (by simp at h; omega)⟩
theorem Two.make (h : Made t1 w g1 v1 S1 w') (hw : Mods [] W w) (hx : Made t2 w' g2 v2 S2 w2) : Two t1 t2 W w2 g1 v1 S1 g2 v2 S2 := by
  have hs := hw.size
  have b1 : ∀ k ∈ bl g1 v1, w.heap.size ≤ k := fun k hk => by
    rw [List.mem_cons] at hk
    rcases hk with rfl | hk
    · exact h.new
    · exact h.news k hk
  have b2 : ∀ k ∈ bl g2 v2, w'.heap.size ≤ k := fun k hk => by
    rw [List.mem_cons] at hk
    rcases hk with rfl | hk
    · exact hx.new
    · exact hx.news k hk
  refine ⟨h.fld.low hx.mods, hx.fld, fun k hk hk2 => ?_, fun k hk => Nat.le_trans hs (b1 k hk), fun k hk => Nat.le_trans hs (Nat.le_trans h.mods.size (b2 k hk)), (hw.trans h.mods (fun _ h => nomatch h)).trans hx.mods (fun _ h => nomatch h)⟩
  have h1 := h.fld.blt k hk
  have h2 := b2 k hk2
  omega
end
theorem acts_one (W : World) (r : FRow) (name : ByteArray) (h : r.Ok W) (hn : name.size ≤ 140737488351232) :
    ActsAt (W.alloc (.cells #[.int .i64 0, .string name, .string ⟨#[]⟩, r.v] 35)) (.slice (some ⟨W.heap.size, 0, none⟩) 1 1) [⟨0, name, ⟨#[]⟩, r⟩] := by
  have hr := Row.new W 35 #[.int .i64 0, .string name, .string ⟨#[]⟩, r.v]
  refine ⟨some ⟨W.heap.size, 0, none⟩, 1, rfl, by simp, fun j hj => ⟨W.heap.size, 0, rfl, by simp, ?_⟩⟩
  obtain rfl : j = 0 := by simp at hj; omega
  exact ⟨hr.cell 0, hr.cell 1, hr.cell 2, hr.cell 3, (by show (-9223372036854775808 : Int) ≤ 0; decide), (by show (0 : Int) ≤ 9223372036854775807; decide), hn, (by show (0 : Nat) ≤ 140737488351232; decide), h.fs.low ((Mods.refl [] W).alloc _), h.big, h.len, h.cap, h.capm⟩
theorem heavy_one (W : World) (r : FRow) (name : ByteArray) (h : r.Ok W) (hn : name.size ≤ 140737488351232) :
    Calls Tryd.prog 12 #[.slice (some ⟨W.heap.size, 0, none⟩) 1 1] (W.alloc (.cells #[.int .i64 0, .string name, .string ⟨#[]⟩, r.v] 35)) fun e w' =>
      (e = .returned (.bool true) ∨ (e = .returned (.bool false) ∧ name.size ≤ 5000 ∧ LightF r.l)) ∧ Mods [] W w' :=
  (heavy_l _ _ _ (acts_one W r name h hn)).mono fun e w' ⟨b, he, hl, hm⟩ => by
    refine ⟨?_, ((Mods.refl [] W).alloc _).trans hm (fun _ h => nomatch h)⟩
    cases b with
    | true => exact .inl he
    | false =>
      have := hl rfl 0 (by simp) (by decide)
      exact .inr ⟨he, this.1, this.2.2⟩
/-- One field Added. -/
theorem add_one {g : Nat} {v : Value} {S : List FV} (x y : ByteArray) (w : World) (h : Fld 62 w g v S) (h1 : x.size ≤ 1000000) (h2 : y.size ≤ 1000000) :
    Calls Tryd.prog 15 #[ptr g, .slice (some ⟨w.heap.size, 0, none⟩) 1 1] (w.alloc (.cells #[.string x, .string y] 23)) fun e w' =>
      ∃ u, e = .returned (.tuple #[.int .i64 ((addR S.length [(x, y)]).1 : Nat), .int .i64 (addR S.length [(x, y)]).2]) ∧ Added 62 w g v (addF S [(x, y)]) u w' := by
  have hb := h.blt
  refine (add_a (.slice (some ⟨w.heap.size, 0, none⟩) 1 1) [(x, y)] _ (h.low ((Mods.refl [] w).alloc _)) (FsAt.new w 23 [(x, y)] (by simp) 1) (by simp) ?_ ?_).mono fun e w' ⟨u, he, ha⟩ => ⟨u, he, ha.back⟩
  · intro p hp; rw [List.mem_singleton] at hp; subst hp; exact ⟨h1, h2⟩
  · intro _ k hk
    have hk2 : k = w.heap.size := by simpa [Value.ownBlock, eq_comm] using hk
    subst hk2
    refine ⟨fun e => ?_, fun hk3 => ?_⟩
    · have := hb g (by simp); omega
    · have := hb _ (List.mem_cons_of_mem _ hk3); omega
theorem of_one (x y : ByteArray) (w : World) (h1 : x.size ≤ 1000000) (h2 : y.size ≤ 1000000) :
    Calls Tryd.prog 13 #[.slice (some ⟨w.heap.size, 0, none⟩) 1 1] (w.alloc (.cells #[.string x, .string y] 23)) fun e w' =>
      ∃ g u, e = .returned (ptr g) ∧ Fld 62 w' g u (addF [] [(x, y)]) ∧ Mods [] w w' :=
  (of_a (.slice (some ⟨w.heap.size, 0, none⟩) 1 1) [(x, y)] _ (FsAt.new w 23 [(x, y)] (by simp) 1) (by simp) (by intro p hp; rw [List.mem_singleton] at hp; subst hp; exact ⟨h1, h2⟩)).mono fun e w' ⟨g, u, he, ha⟩ =>
    ⟨g, u, he, ha.fld, ((Mods.refl [] w).alloc _).trans ha.mods (fun _ h => nomatch h)⟩
theorem of_none (w : World) : Calls Tryd.prog 13 #[.slice none 0 0] w fun e w' => ∃ g u, e = .returned (ptr g) ∧ Made 62 w g u [] w' :=
  of_a (.slice none 0 0) [] w (.inl ⟨rfl, none, 0, rfl⟩) (by decide) (fun p hp => nomatch hp)
end Go.Proofs.YtakimadhbgpedaaDoor
