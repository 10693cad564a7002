/- The lists of a wheel in memory: timers that hang together by pointers; what add makes of one. -/
import Derived.Test.YtgfmjkbelciaaaaDoorSrtA
import Derived.Test.YtgfmjkbelciaaaaDoorWhMath
namespace Go.Proofs.YtgfmjkbelciaaaaDoor
open Go.RowKit
set_option maxRecDepth 10000
set_option linter.unusedVariables false
set_option linter.unusedSimpArgs false
set_option linter.unnecessarySimpa false

/-- A pointer that may be nil. -/
def optr : Option Nat → Value
  | none => .pointer none
  | some b => .pointer (some ⟨b, 0, none⟩)
/-- Timers that hang together, one behind pr, one ahead of nx. -/
def Seg (w : World) : Option Nat → List Nat → Option Nat → Prop
  | _, [], _ => True
  | pr, b :: l, nx => w.cell? ⟨b, 3, none⟩ = some (optr pr) ∧ w.cell? ⟨b, 4, none⟩ = some (optr (l.head?.or nx)) ∧ Seg w (some b) l nx
section
variable {w w' : World} {pr nx : Option Nat} {l m : List Nat}
theorem seg_append : ∀ {l : List Nat} {pr : Option Nat}, Seg w pr (l ++ m) nx ↔ Seg w pr l (m.head?.or nx) ∧ Seg w (l.getLast?.or pr) m nx := by
  intro l
  induction l with
  | nil => intro pr; simp [Seg]
  | cons b l ih =>
    intro pr
    have e1 : ((l ++ m).head?.or nx) = l.head?.or (m.head?.or nx) := by cases l <;> simp
    have e2 : (b :: l).getLast?.or pr = l.getLast?.or (some b) := by
      cases l with
      | nil => simp
      | cons c l => rw [List.getLast?_cons_cons]; cases h : (c :: l).getLast? with
        | none => simp at h
        | some x => rfl
    simp only [List.cons_append, Seg, e1, e2]
    rw [ih]
    exact ⟨fun ⟨h1, h2, h3, h4⟩ => ⟨⟨h1, h2, h3⟩, h4⟩, fun ⟨⟨h1, h2, h3⟩, h4⟩ => ⟨h1, h2, h3, h4⟩⟩
theorem Seg.keep : ∀ {l : List Nat} {pr : Option Nat}, Seg w pr l nx → (∀ b ∈ l, ∀ i, i = 3 ∨ i = 4 → w'.cell? ⟨b, i, none⟩ = w.cell? ⟨b, i, none⟩) → Seg w' pr l nx := by
  intro l
  induction l with
  | nil => intro pr _ _; trivial
  | cons b l ih =>
    intro pr h e
    exact ⟨(e b (by simp) 3 (.inl rfl)).trans h.1, (e b (by simp) 4 (.inr rfl)).trans h.2.1, ih h.2.2 fun c hc => e c (by simp [hc])⟩
theorem Seg.far (h : Seg w pr l nx) {p : Addr} (hp : p.block ∉ l) (u : Value) : Seg (w.setCell p u) pr l nx := h.keep fun b hb i _ => by
  rw [World.cell?_setCell_far _ _ _ _ (by rintro rfl; exact hp hb)]
/-- The last one's pointer ahead is turned. -/
theorem Seg.next {b : Nat} {nx' : Option Nat} (h : Seg w pr (l ++ [b]) nx) (hn : b ∉ l) : Seg (w.setCell ⟨b, 4, none⟩ (optr nx')) pr (l ++ [b]) nx' := by
  rw [seg_append] at h ⊢
  refine ⟨?_, ?_⟩
  · have := h.1.far (p := ⟨b, 4, none⟩) hn (optr nx')
    simpa using this
  · obtain ⟨h1, h2, _⟩ := h.2
    exact ⟨(World.cell?_setCell_other _ _ _ _ (by simp)).trans h1, by rw [World.cell?_setCell_same' _ _ _ (by rw [h2]; rfl)]; simp, trivial⟩
/-- The first one's pointer back is turned. -/
theorem Seg.prev {b : Nat} {pr' : Option Nat} (h : Seg w pr (b :: l) nx) (hn : b ∉ l) : Seg (w.setCell ⟨b, 3, none⟩ (optr pr')) pr' (b :: l) nx := by
  obtain ⟨h1, h2, h3⟩ := h
  exact ⟨World.cell?_setCell_same' _ _ _ (by rw [h1]; rfl), (World.cell?_setCell_other _ _ _ _ (by simp)).trans h2, h3.far hn _⟩
end
/-- The lists of the wheel at g. -/
structure Lnk (w : World) (g : Nat) (Q : Nat → List Nat) : Prop where
  first : ∀ p, p < 257 → w.cell? ⟨g, 3 + 2 * p, none⟩ = some (optr (Q p).head?)
  last : ∀ p, p < 257 → w.cell? ⟨g, 4 + 2 * p, none⟩ = some (optr (Q p).getLast?)
  seg : ∀ p, p < 257 → Seg w none (Q p) none
  nd : ∀ p, p < 257 → (Q p).Nodup
  dis : ∀ p q, p < 257 → q < 257 → p ≠ q → ∀ b ∈ Q p, b ∉ Q q
  out : ∀ p, p < 257 → g ∉ Q p
/-- One list turned. -/
def upd (Q : Nat → List Nat) (p : Nat) (l : List Nat) : Nat → List Nat := fun q => if q = p then l else Q q
/-- Nothing but the lists' ends at g, and the pointers of these timers, has turned. -/
structure Lks (g : Nat) (Bs : List Nat) (w w' : World) : Prop where
  mods : Mods (g :: Bs) w w'
  base : ∀ cs, Row w g 74 cs → ∃ cs', Row w' g 74 cs' ∧ cs'.size = cs.size ∧ ∀ j, j < 3 → cs'[j]? = cs[j]?
  node : ∀ b, b ≠ g → ∀ u1 u2 u3 x y, Row w b 79 #[u1, u2, u3, x, y] → ∃ x' y', Row w' b 79 #[u1, u2, u3, x', y']
section
variable {g : Nat} {Bs Cs : List Nat} {w w1 w2 : World}
theorem Lks.refl (g : Nat) (Bs : List Nat) (w : World) : Lks g Bs w w := ⟨Mods.refl _ _, fun cs h => ⟨cs, h, rfl, fun _ _ => rfl⟩, fun b hb u1 u2 u3 x y h => ⟨x, y, h⟩⟩
theorem Lks.trans (h1 : Lks g Bs w w1) (h2 : Lks g Bs w1 w2) : Lks g Bs w w2 :=
  ⟨h1.mods.trans h2.mods (fun k hk => .inl hk), fun cs h => by
    obtain ⟨c1, r1, s1, e1⟩ := h1.base cs h
    obtain ⟨c2, r2, s2, e2⟩ := h2.base c1 r1
    exact ⟨c2, r2, s2.trans s1, fun j hj => (e2 j hj).trans (e1 j hj)⟩, fun b hb u1 u2 u3 x y h => by
    obtain ⟨x1, y1, r1⟩ := h1.node b hb u1 u2 u3 x y h
    exact h2.node b hb u1 u2 u3 x1 y1 r1⟩
theorem Lks.more (h : Lks g Bs w w1) (hs : ∀ b ∈ Bs, b ∈ Cs) : Lks g Cs w w1 :=
  ⟨h.mods.more (fun k hk => by
    rcases List.mem_cons.1 hk with e | e
    · exact .inl (by simp [e])
    · exact .inl (by simp [hs k e])), h.base, h.node⟩
theorem Lks.drewN (h : Lks g Bs w w1) (n : Nat) : Lks g Bs w (w1.drewN n) := ⟨h.mods.drewN n, h.base, h.node⟩
theorem Lks.end_ (h : Lks g Bs w w1) (j : Nat) (hj : 3 ≤ j) (u : Value) : Lks g Bs w (w1.setCell ⟨g, j, none⟩ u) := h.trans
  ⟨(Mods.refl _ _).setCell (by simp) u, fun cs hr => ⟨_, hr.set j u, by simp, fun i hi => by rw [Array.getElem?_setIfInBounds_ne (by omega)]⟩, fun b hb u1 u2 u3 x y hr => ⟨x, y, hr.far hb u⟩⟩
theorem Lks.link (h : Lks g Bs w w1) {b : Nat} (hb : b ∈ Bs) (hg : b ≠ g) (j : Nat) (hj : j = 3 ∨ j = 4) (u : Value) : Lks g Bs w (w1.setCell ⟨b, j, none⟩ u) := h.trans
  ⟨(Mods.refl _ _).setCell (by simp [hb]) u, fun cs hr => ⟨cs, hr.far hg.symm u, rfl, fun _ _ => rfl⟩, fun c hc u1 u2 u3 x y hr => by
    by_cases e : c = b
    · subst e
      rcases hj with rfl | rfl
      · exact ⟨u, y, hr.set 3 u⟩
      · exact ⟨x, u, hr.set 4 u⟩
    · exact ⟨x, y, hr.far e u⟩⟩
end
end Go.Proofs.YtgfmjkbelciaaaaDoor

/- What the list's add makes of a wheel's lists. -/
namespace Go.Proofs.YtgfmjkbelciaaaaDoor
open Go.RowKit
set_option maxRecDepth 10000
set_option linter.unusedVariables false
set_option linter.unusedSimpArgs false
set_option linter.unnecessarySimpa false

theorem Lnk.turn {w W : World} {g p : Nat} {Q : Nat → List Nat} {l : List Nat} (h : Lnk w g Q) (hp : p < 257)
    (e1 : ∀ j, 3 ≤ j → j ≠ 3 + 2 * p → j ≠ 4 + 2 * p → W.cell? ⟨g, j, none⟩ = w.cell? ⟨g, j, none⟩) (e2 : ∀ c, c ∉ l → c ∉ Q p → c ≠ g → ∀ i, W.cell? ⟨c, i, none⟩ = w.cell? ⟨c, i, none⟩)
    (f1 : W.cell? ⟨g, 3 + 2 * p, none⟩ = some (optr l.head?)) (f2 : W.cell? ⟨g, 4 + 2 * p, none⟩ = some (optr l.getLast?)) (f3 : Seg W none l none) (f4 : l.Nodup)
    (f5 : ∀ q, q < 257 → q ≠ p → ∀ c ∈ l, c ∉ Q q) (f6 : g ∉ l) : Lnk W g (upd Q p l) := by
  have eq : ∀ q, q ≠ p → upd Q p l q = Q q := fun q hq => by unfold upd; rw [if_neg hq]
  have ep : upd Q p l p = l := by unfold upd; rw [if_pos rfl]
  refine ⟨fun q hq => ?_, fun q hq => ?_, fun q hq => ?_, fun q hq => ?_, fun q r hq hr hqr b hb => ?_, fun q hq => ?_⟩
  all_goals by_cases e : q = p
  · subst e; rw [ep]; exact f1
  · rw [eq q e, e1 _ (by omega) (by omega) (by omega)]; exact h.first q hq
  · subst e; rw [ep]; exact f2
  · rw [eq q e, e1 _ (by omega) (by omega) (by omega)]; exact h.last q hq
  · subst e; rw [ep]; exact f3
  · rw [eq q e]
    exact (h.seg q hq).keep fun b hb i _ => e2 b (fun hl => f5 q hq e b hl hb) (fun hl => h.dis q p hq hp e b hb hl) (fun hg => h.out q hq (hg ▸ hb)) i
  · subst e; rw [ep]; exact f4
  · rw [eq q e]; exact h.nd q hq
  · subst e
    rw [ep] at hb
    rw [eq r (fun h => hqr h.symm)]
    exact f5 r hr (fun h => hqr h.symm) b hb
  · rw [eq q e] at hb
    by_cases e' : r = p
    · subst e'; rw [ep]; exact fun hl => f5 q hq e b hl hb
    · rw [eq r e']; exact h.dis q r hq hr hqr b hb
  · subst e; rw [ep]; exact f6
  · rw [eq q e]; exact h.out q hq
theorem cell_far {w : World} {p q : Addr} {u : Value} (h : q ≠ p) : (w.setCell p u).cell? q = w.cell? q := World.cell?_setCell_other _ _ _ _ h.symm
theorem cell_at {w : World} {p : Addr} {u v : Value} (h : w.cell? p = some v) : (w.setCell p u).cell? p = some u := World.cell?_setCell_same' _ _ _ (by rw [h]; rfl)
/-- Onto an empty list. -/
theorem lnk_first {w : World} {g p b : Nat} {Q : Nat → List Nat} {x y : Value} (h : Lnk w g Q) (hp : p < 257) (h0 : Q p = []) (hg : b ≠ g) (c3 : w.cell? ⟨b, 3, none⟩ = some x) (c4 : w.cell? ⟨b, 4, none⟩ = some y) (hQ : ∀ q, q < 257 → b ∉ Q q) :
    Lnk ((((w.setCell ⟨b, 3, none⟩ (.pointer none)).setCell ⟨b, 4, none⟩ (.pointer none)).setCell ⟨g, 3 + 2 * p, none⟩ (.pointer (some ⟨b, 0, none⟩))).setCell ⟨g, 4 + 2 * p, none⟩ (.pointer (some ⟨b, 0, none⟩))) g (upd Q p [b]) ∧
    Lks g [b] w ((((w.setCell ⟨b, 3, none⟩ (.pointer none)).setCell ⟨b, 4, none⟩ (.pointer none)).setCell ⟨g, 3 + 2 * p, none⟩ (.pointer (some ⟨b, 0, none⟩))).setCell ⟨g, 4 + 2 * p, none⟩ (.pointer (some ⟨b, 0, none⟩))) := by
  have k1 := h.first p hp
  have k2 := h.last p hp
  refine ⟨h.turn hp (fun j h3 hj1 hj2 => ?_) (fun c hc hc2 hc3 i => ?_) ?_ ?_ ?_ (by simp) (fun q hq hqp c hc => ?_) (by simp [Ne.symm hg]), ?_⟩
  · rw [cell_far (by simp <;> omega), cell_far (by simp <;> omega), cell_far (by simp [Ne.symm hg]), cell_far (by simp [Ne.symm hg])]
  · have : c ≠ b := by simpa using hc
    rw [cell_far (by simp [hc3]), cell_far (by simp [hc3]), cell_far (by simp [this]), cell_far (by simp [this])]
  · rw [cell_far (by simp <;> omega)]
    exact cell_at (v := optr (Q p).head?) (by rw [cell_far (by simp [Ne.symm hg]), cell_far (by simp [Ne.symm hg])]; exact k1)
  · exact cell_at (v := optr (Q p).getLast?) (by rw [cell_far (by simp <;> omega), cell_far (by simp [Ne.symm hg]), cell_far (by simp [Ne.symm hg])]; exact k2)
  · refine ⟨?_, ?_, trivial⟩
    · rw [cell_far (by simp [hg]), cell_far (by simp [hg]), cell_far (by simp)]
      exact cell_at c3
    · rw [cell_far (by simp [hg]), cell_far (by simp [hg])]
      exact cell_at (v := y) (by rw [cell_far (by simp)]; exact c4)
  · simp only [List.mem_cons, List.mem_nil_iff, or_false] at hc
    rw [hc]; exact hQ q hq
  · exact ((((Lks.refl g [b] w).link (by simp) hg 3 (.inl rfl) _).link (by simp) hg 4 (.inr rfl) _).end_ _ (by omega) _).end_ _ (by omega) _
/-- Behind the last one. -/
theorem lnk_next {w : World} {g p b z : Nat} {Q : Nat → List Nat} {l : List Nat} {x y : Value} (h : Lnk w g Q) (hp : p < 257) (h0 : Q p = l ++ [z]) (hg : b ≠ g) (c3 : w.cell? ⟨b, 3, none⟩ = some x) (c4 : w.cell? ⟨b, 4, none⟩ = some y) (hQ : ∀ q, q < 257 → b ∉ Q q) :
    Lnk ((((w.setCell ⟨b, 3, none⟩ (.pointer (some ⟨z, 0, none⟩))).setCell ⟨b, 4, none⟩ (.pointer none)).setCell ⟨z, 4, none⟩ (.pointer (some ⟨b, 0, none⟩))).setCell ⟨g, 4 + 2 * p, none⟩ (.pointer (some ⟨b, 0, none⟩))) g (upd Q p (l ++ [z] ++ [b])) ∧
    Lks g (b :: Q p) w ((((w.setCell ⟨b, 3, none⟩ (.pointer (some ⟨z, 0, none⟩))).setCell ⟨b, 4, none⟩ (.pointer none)).setCell ⟨z, 4, none⟩ (.pointer (some ⟨b, 0, none⟩))).setCell ⟨g, 4 + 2 * p, none⟩ (.pointer (some ⟨b, 0, none⟩))) := by
  have k1 := h.first p hp
  have k2 := h.last p hp
  have ks := h.seg p hp
  have kn := h.nd p hp
  have ko := h.out p hp
  have hb := hQ p hp
  rw [h0] at k1 k2 ks kn ko hb
  have hz : z ≠ g := fun e => ko (by simp [e])
  have hbz : b ≠ z := fun e => hb (by simp [e])
  have hbl : b ∉ l := fun e => hb (by simp [e])
  have hzl : z ∉ l := fun e => by rw [List.nodup_append] at kn; exact kn.2.2 z e z (by simp) rfl
  have hgl : g ∉ l := fun e => ko (by simp [e])
  refine ⟨h.turn hp (fun j h3 hj1 hj2 => ?_) (fun c hc hc2 hc3 i => ?_) ?_ ?_ ?_ ?_ (fun q hq hqp c hc => ?_) ?_, ?_⟩
  · rw [cell_far (by simp <;> omega), cell_far (by simp [Ne.symm hz]), cell_far (by simp [Ne.symm hg]), cell_far (by simp [Ne.symm hg])]
  · have e1 : c ≠ b := fun e => hc (by simp [e])
    have e2 : c ≠ z := fun e => hc (by simp [e])
    rw [cell_far (by simp [hc3]), cell_far (by simp [e2]), cell_far (by simp [e1]), cell_far (by simp [e1])]
  · rw [cell_far (by simp <;> omega), cell_far (by simp [Ne.symm hz]), cell_far (by simp [Ne.symm hg]), cell_far (by simp [Ne.symm hg]), k1]
    cases l <;> simp
  · rw [List.getLast?_concat]
    exact cell_at (v := optr (some z)) (by rw [cell_far (by simp [Ne.symm hz]), cell_far (by simp [Ne.symm hg]), cell_far (by simp [Ne.symm hg]), k2, List.getLast?_concat])
  · rw [seg_append]
    refine ⟨?_, ?_⟩
    · have s1 := (ks.far (p := ⟨b, 3, none⟩) (by simpa using hb) (.pointer (some ⟨z, 0, none⟩))).far (p := ⟨b, 4, none⟩) (by simpa using hb) (.pointer none)
      have s2 := (s1.next (nx' := some b) hzl).far (p := ⟨g, 4 + 2 * p, none⟩) (by simpa using ko) (.pointer (some ⟨b, 0, none⟩))
      exact s2
    · rw [List.getLast?_concat]
      refine ⟨?_, ?_, trivial⟩
      · rw [cell_far (by simp [hg]), cell_far (by simp [hbz]), cell_far (by simp)]
        exact cell_at c3
      · rw [cell_far (by simp [hg]), cell_far (by simp [hbz])]
        exact cell_at (v := y) (by rw [cell_far (by simp)]; exact c4)
  · rw [List.nodup_append]
    refine ⟨kn, by simp, fun c hc d hd e => ?_⟩
    simp only [List.mem_cons, List.mem_nil_iff, or_false] at hd
    rw [e, hd] at hc
    exact hb hc
  · rcases List.mem_append.1 hc with hc | hc
    · exact h.dis p q hp hq (fun e => hqp e.symm) c (by rw [h0]; exact hc)
    · simp only [List.mem_cons, List.mem_nil_iff, or_false] at hc
      rw [hc]; exact hQ q hq
  · simp [Ne.symm hg, Ne.symm hz, hgl]
  · exact ((((Lks.refl g (b :: Q p) w).link (by simp) hg 3 (.inl rfl) _).link (by simp) hg 4 (.inr rfl) _).link (by rw [h0]; simp) hz 4 (.inr rfl) _).end_ _ (by omega) _
end Go.Proofs.YtgfmjkbelciaaaaDoor

/- What the list's add and drop make of a wheel's lists. -/
namespace Go.Proofs.YtgfmjkbelciaaaaDoor
open Go.RowKit
set_option maxRecDepth 10000
set_option linter.unusedVariables false
set_option linter.unusedSimpArgs false
set_option linter.unnecessarySimpa false

theorem neq_tim (p : Option Addr) (w : World) : (binOp .neq 69 (.pointer p) (.pointer none)).run Tryd.prog w = .ok (.bool (!p.isNone)) w :=
  run_neq_pointer_nil _ _ _ (by kernel_rfl)
theorem eql_tim (p : Option Addr) (w : World) : (binOp .eql 69 (.pointer p) (.pointer none)).run Tryd.prog w = .ok (.bool p.isNone) w :=
  run_eql_pointer_nil _ _ _ (by kernel_rfl)
theorem add_first (w : World) (g p b : Nat) (Q : Nat → List Nat) (cs : Array Value) (u1 u2 u3 x y : Value) (h : Lnk w g Q) (hp : p < 257) (h0 : Q p = []) (hg : b ≠ g) (hr : Row w g 74 cs) (hb : Row w b 79 #[u1, u2, u3, x, y]) (hQ : ∀ q, q < 257 → b ∉ Q q) :
    Calls Tryd.prog 48 #[.pointer (some ⟨g, 3 + 2 * p, none⟩), ptr b] w fun e w' => e = .returned (.tuple #[]) ∧ Hid (Lnk w' g (upd Q p [b]) ∧ Lks g [b] w w') := by
  have k1 : w.cell? ⟨g, 3 + 2 * p, none⟩ = some (.pointer none) := by have := h.first p hp; rw [h0] at this; exact this
  have k2 : w.cell? ⟨g, 4 + 2 * p, none⟩ = some (.pointer none) := by have := h.last p hp; rw [h0] at this; exact this
  have c3 : w.cell? ⟨b, 3, none⟩ = some x := by rw [hb.cell]; rfl
  have c4 : w.cell? ⟨b, 4, none⟩ = some y := by rw [hb.cell]; rfl
  have HF := Lib.hid (lnk_first h hp h0 hg c3 c4 hQ)
  have f1 := hr.free
  have f2 := hb.free
  have hgb : g ≠ b := Ne.symm hg
  have k2a : ((w.setCell ⟨b, 3, none⟩ (.pointer none)).setCell ⟨b, 4, none⟩ (.pointer none)).cell? ⟨g, 4 + 2 * p, none⟩ = some (.pointer none) := by
    rw [cell_far (by simp [hgb]), cell_far (by simp [hgb])]; exact k2
  have k1a : ((w.setCell ⟨b, 3, none⟩ (.pointer none)).setCell ⟨b, 4, none⟩ (.pointer none)).cell? ⟨g, 3 + 2 * p, none⟩ = some (.pointer none) := by
    rw [cell_far (by simp [hgb]), cell_far (by simp [hgb])]; exact k1
  have k2b : (((w.setCell ⟨b, 3, none⟩ (.pointer none)).setCell ⟨b, 4, none⟩ (.pointer none)).setCell ⟨g, 3 + 2 * p, none⟩ (.pointer (some ⟨b, 0, none⟩))).cell? ⟨g, 4 + 2 * p, none⟩ = some (.pointer none) := by
    rw [cell_far (by simp <;> omega)]; exact k2a
  have k2c : w.cell? ⟨g, 3 + 2 * p + 1, none⟩ = some (.pointer none) := by rw [show 3 + 2 * p + 1 = 4 + 2 * p by omega]; exact k2
  have c4a : (w.setCell ⟨b, 3, none⟩ (.pointer none)).cell? ⟨b, 4, none⟩ = some y := by rw [cell_far (by simp)]; exact c4
  have he := eql_tim
  have ep : 3 + 2 * p + 1 = 4 + 2 * p := by omega
  clear h hr hb hQ h0
  go_enter Tryd.func48, Tryd.ntmps48
  go_wp2
  go_end0
  exact ⟨rfl, HF⟩
theorem add_next (w : World) (g p b z : Nat) (Q : Nat → List Nat) (l : List Nat) (cs : Array Value) (u1 u2 u3 x y v1 v2 v3 s t : Value) (h : Lnk w g Q) (hp : p < 257) (h0 : Q p = l ++ [z]) (hg : b ≠ g) (hr : Row w g 74 cs) (hb : Row w b 79 #[u1, u2, u3, x, y]) (hz : Row w z 79 #[v1, v2, v3, s, t]) (hQ : ∀ q, q < 257 → b ∉ Q q) :
    Calls Tryd.prog 48 #[.pointer (some ⟨g, 3 + 2 * p, none⟩), ptr b] w fun e w' => e = .returned (.tuple #[]) ∧ Hid (Lnk w' g (upd Q p (l ++ [z] ++ [b])) ∧ Lks g (b :: Q p) w w') := by
  have k2 : w.cell? ⟨g, 4 + 2 * p, none⟩ = some (.pointer (some ⟨z, 0, none⟩)) := by have := h.last p hp; rw [h0, List.getLast?_concat] at this; exact this
  have c3 : w.cell? ⟨b, 3, none⟩ = some x := by rw [hb.cell]; rfl
  have c4 : w.cell? ⟨b, 4, none⟩ = some y := by rw [hb.cell]; rfl
  have z4 : w.cell? ⟨z, 4, none⟩ = some t := by rw [hz.cell]; rfl
  have HF := Lib.hid (lnk_next h hp h0 hg c3 c4 hQ)
  have f1 := hr.free
  have f2 := hb.free
  have f3 := hz.free
  have hzb : z ≠ b := fun e => hQ p hp (by rw [h0, ← e]; simp)
  have hzg : z ≠ g := fun e => h.out p hp (by rw [h0, ← e]; simp)
  have hgb : g ≠ b := Ne.symm hg
  have k2a : ((w.setCell ⟨b, 3, none⟩ (.pointer (some ⟨z, 0, none⟩))).setCell ⟨b, 4, none⟩ (.pointer none)).cell? ⟨g, 4 + 2 * p, none⟩ = some (.pointer (some ⟨z, 0, none⟩)) := by
    rw [cell_far (by simp [hgb]), cell_far (by simp [hgb])]; exact k2
  have z4a : ((w.setCell ⟨b, 3, none⟩ (.pointer (some ⟨z, 0, none⟩))).setCell ⟨b, 4, none⟩ (.pointer none)).cell? ⟨z, 4, none⟩ = some t := by
    rw [cell_far (by simp [hzb]), cell_far (by simp [hzb])]; exact z4
  have k2b : (((w.setCell ⟨b, 3, none⟩ (.pointer (some ⟨z, 0, none⟩))).setCell ⟨b, 4, none⟩ (.pointer none)).setCell ⟨z, 4, none⟩ (.pointer (some ⟨b, 0, none⟩))).cell? ⟨g, 4 + 2 * p, none⟩ = some (.pointer (some ⟨z, 0, none⟩)) := by
    rw [cell_far (by simp [Ne.symm hzg])]; exact k2a
  have c4a : (w.setCell ⟨b, 3, none⟩ (.pointer (some ⟨z, 0, none⟩))).cell? ⟨b, 4, none⟩ = some y := by rw [cell_far (by simp)]; exact c4
  have he := eql_tim
  have ep : 3 + 2 * p + 1 = 4 + 2 * p := by omega
  clear h hr hb hz hQ h0
  go_enter Tryd.func48, Tryd.ntmps48
  go_wp2
  go_end0
  exact ⟨rfl, HF⟩
/-- add, whatever the list. -/
theorem add_any (w : World) (g p b : Nat) (Q : Nat → List Nat) (cs : Array Value) (u1 u2 u3 x y : Value) (h : Lnk w g Q) (hp : p < 257) (hg : b ≠ g) (hr : Row w g 74 cs) (hb : Row w b 79 #[u1, u2, u3, x, y]) (hQ : ∀ q, q < 257 → b ∉ Q q)
    (hN : ∀ z ∈ Q p, ∃ v1 v2 v3 s t, Row w z 79 #[v1, v2, v3, s, t]) :
    Calls Tryd.prog 48 #[.pointer (some ⟨g, 3 + 2 * p, none⟩), ptr b] w fun e w' => e = .returned (.tuple #[]) ∧ Hid (Lnk w' g (upd Q p (Q p ++ [b])) ∧ Lks g (b :: Q p) w w') := by
  rcases List.eq_nil_or_concat (Q p) with e | ⟨l, z, e⟩
  · refine (add_first w g p b Q cs u1 u2 u3 x y h hp e hg hr hb hQ).mono ?_
    rintro e' w' ⟨rfl, hf⟩
    exact ⟨rfl, Lib.hid ⟨by rw [e]; exact hf.out.1, by rw [e]; exact hf.out.2⟩⟩
  · rw [List.concat_eq_append] at e
    obtain ⟨v1, v2, v3, s, t, hz⟩ := hN z (by rw [e]; simp)
    refine (add_next w g p b z Q l cs u1 u2 u3 x y v1 v2 v3 s t h hp e hg hr hb hz hQ).mono ?_
    rintro e' w' ⟨rfl, hf⟩
    exact ⟨rfl, Lib.hid ⟨by rw [e]; exact hf.out.1, hf.out.2⟩⟩
end Go.Proofs.YtgfmjkbelciaaaaDoor

/- What the list's drop makes of a wheel's lists. -/
namespace Go.Proofs.YtgfmjkbelciaaaaDoor
open Go.RowKit
set_option maxRecDepth 10000
set_option linter.unusedVariables false
set_option linter.unusedSimpArgs false
set_option linter.unnecessarySimpa false

/-- Where the pointer to what stands behind l1 lies. -/
def Fore (g p : Nat) (l1 : List Nat) (A : Addr) : Prop := (l1 = [] ∧ A = ⟨g, 3 + 2 * p, none⟩) ∨ ∃ l z, l1 = l ++ [z] ∧ A = ⟨z, 4, none⟩
/-- Where the pointer to what stands ahead of l2 lies. -/
def Aft (g p : Nat) (l2 : List Nat) (B : Addr) : Prop := (l2 = [] ∧ B = ⟨g, 4 + 2 * p, none⟩) ∨ ∃ y l, l2 = y :: l ∧ B = ⟨y, 3, none⟩
theorem lnk_drop {w : World} {g p b : Nat} {Q : Nat → List Nat} {l1 l2 : List Nat} {A B : Addr} (h : Lnk w g Q) (hp : p < 257) (h0 : Q p = l1 ++ b :: l2) (hA : Fore g p l1 A) (hB : Aft g p l2 B) :
    w.cell? ⟨b, 3, none⟩ = some (optr l1.getLast?) ∧ w.cell? ⟨b, 4, none⟩ = some (optr l2.head?) ∧ w.cell? A = some (optr (some b)) ∧ w.cell? B = some (optr (some b)) ∧ A ≠ B ∧ A.block ≠ b ∧ B.block ≠ b ∧ b ≠ g ∧
    Lnk ((w.setCell A (optr l2.head?)).setCell B (optr l1.getLast?)) g (upd Q p (l1 ++ l2)) ∧ Lks g (Q p) w ((w.setCell A (optr l2.head?)).setCell B (optr l1.getLast?)) := by
  have k1 := h.first p hp
  have k2 := h.last p hp
  have ks := h.seg p hp
  have kn := h.nd p hp
  have ko := h.out p hp
  rw [h0] at k1 k2 ks kn ko
  have ks' := seg_append.1 ks
  obtain ⟨s1, s2, s3, s4⟩ := ks'
  have hb1 : b ∉ l1 := fun e => by rw [List.nodup_append] at kn; exact kn.2.2 b e b (by simp) rfl
  have hb2 : b ∉ l2 := by rw [List.nodup_append] at kn; exact (List.nodup_cons.1 kn.2.1).1
  have hd : ∀ c ∈ l1, c ∉ l2 := fun c h1 h2 => by rw [List.nodup_append] at kn; exact kn.2.2 c h1 c (by simp [h2]) rfl
  have hn : (l1 ++ l2).Nodup := by
    rw [List.nodup_append] at kn ⊢
    exact ⟨kn.1, (List.nodup_cons.1 kn.2.1).2, fun c h1 d h2 => kn.2.2 c h1 d (by simp [h2])⟩
  have hbg : b ≠ g := fun e => ko (by simp [e])
  have hg1 : g ∉ l1 := fun e => ko (by simp [e])
  have hg2 : g ∉ l2 := fun e => ko (by simp [e])
  have cA : w.cell? A = some (optr (some b)) := by
    rcases hA with ⟨rfl, rfl⟩ | ⟨l, z, rfl, rfl⟩
    · simpa using k1
    · exact (seg_append.1 s1).2.2.1
  have cB : w.cell? B = some (optr (some b)) := by
    rcases hB with ⟨rfl, rfl⟩ | ⟨y, l, rfl, rfl⟩
    · rw [k2]; simp
    · exact s4.1
  have aA : A.block = g ∨ A.block ∈ l1 := by
    rcases hA with ⟨rfl, rfl⟩ | ⟨l, z, rfl, rfl⟩
    · exact .inl rfl
    · exact .inr (by simp)
  have aB : B.block = g ∨ B.block ∈ l2 := by
    rcases hB with ⟨rfl, rfl⟩ | ⟨y, l, rfl, rfl⟩
    · exact .inl rfl
    · exact .inr (by simp)
  have hAB : A ≠ B := by
    intro e
    have e1 := congrArg Addr.block e
    have e2 := congrArg Addr.off e
    rcases hA with ⟨rfl, rfl⟩ | ⟨l, z, rfl, rfl⟩
    · rcases hB with ⟨rfl, rfl⟩ | ⟨y, m, rfl, rfl⟩
      · have e3 : 3 + 2 * p = 4 + 2 * p := e2
        omega
      · exact hg2 (by rw [show g = y from e1]; simp)
    · rcases hB with ⟨rfl, rfl⟩ | ⟨y, m, rfl, rfl⟩
      · exact hg1 (by rw [← show z = g from e1]; simp)
      · have e3 : 4 = 3 := e2
        omega
  have hAb : A.block ≠ b := fun e => by
    rcases aA with h | h
    · exact hbg (e.symm.trans h)
    · exact hb1 (e ▸ h)
  have hBb : B.block ≠ b := fun e => by
    rcases aB with h | h
    · exact hbg (e.symm.trans h)
    · exact hb2 (e ▸ h)
  have gA : ∀ j, j ≠ 3 + 2 * p → (⟨g, j, none⟩ : Addr) ≠ A := fun j hj e => by
    rcases hA with ⟨_, rfl⟩ | ⟨l, z, rfl, rfl⟩
    · exact hj (congrArg Addr.off e)
    · exact hg1 (by rw [show g = z from congrArg Addr.block e]; simp)
  have gB : ∀ j, j ≠ 4 + 2 * p → (⟨g, j, none⟩ : Addr) ≠ B := fun j hj e => by
    rcases hB with ⟨_, rfl⟩ | ⟨y, l, rfl, rfl⟩
    · exact hj (congrArg Addr.off e)
    · exact hg2 (by rw [show g = y from congrArg Addr.block e]; simp)
  refine ⟨by simpa using s2, by simpa using s3, cA, cB, hAB, hAb, hBb, hbg, h.turn hp (fun j h3 hj1 hj2 => ?_) (fun c hc hc2 hc3 i => ?_) ?_ ?_ ?_ hn (fun q hq hqp c hc => ?_) (by simp [hg1, hg2]), ?_⟩
  · rw [cell_far (gB j hj2), cell_far (gA j hj1)]
  · have hcl : c ∉ l1 ∧ c ∉ l2 := by simpa using hc
    rw [cell_far (fun e => ?_), cell_far (fun e => ?_)]
    · rcases aA with h | h
      · exact hc3 (by rw [← h, ← e])
      · exact hcl.1 (by rw [← e] at h; exact h)
    · rcases aB with h | h
      · exact hc3 (by rw [← h, ← e])
      · exact hcl.2 (by rw [← e] at h; exact h)
  · rw [cell_far (gB _ (by omega))]
    rcases hA with ⟨rfl, rfl⟩ | ⟨l, z, rfl, rfl⟩
    · rw [cell_at cA]
      rfl
    · rw [cell_far (fun e => hg1 (by rw [show g = z from congrArg Addr.block e]; simp)), k1]
      cases l <;> simp
  · rcases hB with ⟨rfl, rfl⟩ | ⟨y, l, rfl, rfl⟩
    · rw [cell_at (v := optr (some b)) (by rw [cell_far (Ne.symm hAB)]; exact cB)]; simp
    · rw [cell_far (fun e => hg2 (by rw [show g = y from congrArg Addr.block e]; simp)), cell_far (gA _ (by omega)), k2]
      simp
  · rw [seg_append]
    refine ⟨?_, ?_⟩
    · have t1 : Seg (w.setCell A (optr l2.head?)) none l1 (l2.head?.or none) := by
        rcases hA with ⟨rfl, rfl⟩ | ⟨l, z, rfl, rfl⟩
        · trivial
        · have := s1.next (nx' := l2.head?) (fun hz => by
            have := (List.nodup_append.1 hn).1
            rw [List.nodup_append] at this
            exact this.2.2 z hz z (by simp) rfl)
          simpa using this
      refine t1.far (fun hm => ?_) _
      rcases aB with h | h
      · exact hg1 (h ▸ hm)
      · exact hd _ hm h
    · have t1 : Seg (w.setCell A (optr l2.head?)) (some b) l2 none := s4.far (fun hm => by
        rcases aA with h | h
        · exact hg2 (h ▸ hm)
        · exact hd _ h hm) _
      rcases hB with ⟨rfl, rfl⟩ | ⟨y, l, rfl, rfl⟩
      · trivial
      · have := t1.prev (pr' := l1.getLast?) (fun hz => by
          have := (List.nodup_append.1 hn).2.1
          exact (List.nodup_cons.1 this).1 hz)
        simpa using this
  · exact h.dis p q hp hq (fun e => hqp e.symm) c (by
      rw [h0]
      rcases List.mem_append.1 hc with h | h
      · simp [h]
      · simp [h])
  · have a1 : Lks g (Q p) w (w.setCell A (optr l2.head?)) := by
      rcases hA with ⟨rfl, rfl⟩ | ⟨l, z, rfl, rfl⟩
      · exact (Lks.refl g (Q p) w).end_ _ (by omega) _
      · exact (Lks.refl g (Q p) w).link (by rw [h0]; simp) (by rintro rfl; simp at hg1) 4 (.inr rfl) _
    rcases hB with ⟨rfl, rfl⟩ | ⟨y, l, rfl, rfl⟩
    · exact a1.end_ _ (by omega) _
    · exact a1.link (by rw [h0]; simp) (by rintro rfl; simp at hg2) 3 (.inl rfl) _
theorem Lnk.same {w w' : World} {g : Nat} {Q : Nat → List Nat} (h : Lnk w g Q) (e : w'.heap = w.heap) : Lnk w' g Q := by
  have ec : ∀ a, w'.cell? a = w.cell? a := fun a => World.cell?_of_block (w := w) (by rw [e])
  exact ⟨fun p hp => (ec _).trans (h.first p hp), fun p hp => (ec _).trans (h.last p hp), fun p hp => (h.seg p hp).keep fun b _ i _ => ec _, h.nd, h.dis, h.out⟩
theorem Lnk.drewN {w : World} {g : Nat} {Q : Nat → List Nat} (h : Lnk w g Q) (n : Nat) : Lnk (w.drewN n) g Q := h.same rfl
theorem fore_of (g p : Nat) (l : List Nat) : ∃ A, Fore g p l A := by
  rcases List.eq_nil_or_concat l with e | ⟨m, z, e⟩
  · exact ⟨_, .inl ⟨e, rfl⟩⟩
  · exact ⟨_, .inr ⟨m, z, by simpa using e, rfl⟩⟩
theorem aft_of (g p : Nat) (l : List Nat) : ∃ B, Aft g p l B := by
  cases l with
  | nil => exact ⟨_, .inl ⟨rfl, rfl⟩⟩
  | cons y l => exact ⟨_, .inr ⟨y, l, rfl, rfl⟩⟩
theorem drop_any (w : World) (g p b : Nat) (Q : Nat → List Nat) (l1 l2 : List Nat) (cs : Array Value) (h : Lnk w g Q) (hp : p < 257) (h0 : Q p = l1 ++ b :: l2) (hr : Row w g 74 cs) (hN : ∀ z ∈ Q p, ∃ v1 v2 v3 s t, Row w z 79 #[v1, v2, v3, s, t]) :
    Calls Tryd.prog 50 #[.pointer (some ⟨g, 3 + 2 * p, none⟩), ptr b] w fun e w' => e = .returned (.tuple #[]) ∧ Hid (Lnk w' g (upd Q p (l1 ++ l2)) ∧ Lks g (Q p) w w') := by
  obtain ⟨A, hA⟩ := fore_of g p l1
  obtain ⟨B, hB⟩ := aft_of g p l2
  obtain ⟨c3, c4, cA, cB, hAB, hAb, hBb, hbg, hL, hK⟩ := lnk_drop h hp h0 hA hB
  have HF := Lib.hid (And.intro hL hK)
  have f1 := hr.free
  have fA : w.frozen? A = false := by
    rcases hA with ⟨_, rfl⟩ | ⟨l, z, rfl, rfl⟩
    · exact f1 _
    · obtain ⟨v1, v2, v3, s, t, hz⟩ := hN z (by rw [h0]; simp)
      exact hz.free _
  have fB : w.frozen? B = false := by
    rcases hB with ⟨_, rfl⟩ | ⟨y, l, rfl, rfl⟩
    · exact f1 _
    · obtain ⟨v1, v2, v3, s, t, hz⟩ := hN y (by rw [h0]; simp)
      exact hz.free _
  have he := eql_tim
  have ep : 3 + 2 * p + 1 = 4 + 2 * p := by omega
  have cBa : (w.setCell A (optr l2.head?)).cell? B = some (optr (some b)) := by rw [cell_far (Ne.symm hAB)]; exact cB
  have c3a : (w.setCell A (optr l2.head?)).cell? ⟨b, 3, none⟩ = some (optr l1.getLast?) := by rw [cell_far (fun e => hAb (by rw [← e]))]; exact c3
  have c4a : (w.setCell A (optr l2.head?)).cell? ⟨b, 4, none⟩ = some (optr l2.head?) := by rw [cell_far (fun e => hAb (by rw [← e]))]; exact c4
  clear hL hK h h0 hr hN cB
  rcases hA with ⟨rfl, rfl⟩ | ⟨l, z, rfl, rfl⟩
  · rcases hB with ⟨rfl, rfl⟩ | ⟨y, m, rfl, rfl⟩
    · have c3' : w.cell? ⟨b, 3, none⟩ = some (.pointer none) := c3
      have c4' : w.cell? ⟨b, 4, none⟩ = some (.pointer none) := c4
      have cA' : w.cell? ⟨g, 3 + 2 * p, none⟩ = some (.pointer (some ⟨b, 0, none⟩)) := cA
      have c3a' : (w.setCell ⟨g, 3 + 2 * p, none⟩ (.pointer none)).cell? ⟨b, 3, none⟩ = some (.pointer none) := c3a
      have c4a' : (w.setCell ⟨g, 3 + 2 * p, none⟩ (.pointer none)).cell? ⟨b, 4, none⟩ = some (.pointer none) := c4a
      have cBa' : (w.setCell ⟨g, 3 + 2 * p, none⟩ (.pointer none)).cell? ⟨g, 4 + 2 * p, none⟩ = some (.pointer (some ⟨b, 0, none⟩)) := cBa
      clear c3 c4 cA c3a c4a cBa
      go_enter Tryd.func50, Tryd.ntmps50
      go_wp2
      go_end0
      exact ⟨rfl, HF⟩
    · have c3' : w.cell? ⟨b, 3, none⟩ = some (.pointer none) := c3
      have c4' : w.cell? ⟨b, 4, none⟩ = some (.pointer (some ⟨y, 0, none⟩)) := c4
      have cA' : w.cell? ⟨g, 3 + 2 * p, none⟩ = some (.pointer (some ⟨b, 0, none⟩)) := cA
      have c3a' : (w.setCell ⟨g, 3 + 2 * p, none⟩ (.pointer (some ⟨y, 0, none⟩))).cell? ⟨b, 3, none⟩ = some (.pointer none) := c3a
      have c4a' : (w.setCell ⟨g, 3 + 2 * p, none⟩ (.pointer (some ⟨y, 0, none⟩))).cell? ⟨b, 4, none⟩ = some (.pointer (some ⟨y, 0, none⟩)) := c4a
      have cBa' : (w.setCell ⟨g, 3 + 2 * p, none⟩ (.pointer (some ⟨y, 0, none⟩))).cell? ⟨y, 3, none⟩ = some (.pointer (some ⟨b, 0, none⟩)) := cBa
      clear c3 c4 cA c3a c4a cBa
      go_enter Tryd.func50, Tryd.ntmps50
      go_wp2
      go_region
      all_goals go_wp2
      all_goals go_end0
      all_goals exact ⟨rfl, Lib.hid ⟨HF.out.1.drewN 1, HF.out.2.drewN 1⟩⟩
  · rcases hB with ⟨rfl, rfl⟩ | ⟨y, m, rfl, rfl⟩
    · have c3' : w.cell? ⟨b, 3, none⟩ = some (.pointer (some ⟨z, 0, none⟩)) := by rw [List.getLast?_concat] at c3; exact c3
      have c4' : w.cell? ⟨b, 4, none⟩ = some (.pointer none) := c4
      have cA' : w.cell? ⟨z, 4, none⟩ = some (.pointer (some ⟨b, 0, none⟩)) := cA
      have c3a' : (w.setCell ⟨z, 4, none⟩ (.pointer none)).cell? ⟨b, 3, none⟩ = some (.pointer (some ⟨z, 0, none⟩)) := by rw [List.getLast?_concat] at c3a; exact c3a
      have c4a' : (w.setCell ⟨z, 4, none⟩ (.pointer none)).cell? ⟨b, 4, none⟩ = some (.pointer none) := c4a
      have cBa' : (w.setCell ⟨z, 4, none⟩ (.pointer none)).cell? ⟨g, 4 + 2 * p, none⟩ = some (.pointer (some ⟨b, 0, none⟩)) := cBa
      rw [List.getLast?_concat] at HF
      clear c3 c4 cA c3a c4a cBa
      go_enter Tryd.func50, Tryd.ntmps50
      go_wp2
      go_region
      all_goals go_wp2
      all_goals go_end0
      all_goals exact ⟨rfl, Lib.hid ⟨HF.out.1.drewN 1, HF.out.2.drewN 1⟩⟩
    · have c3' : w.cell? ⟨b, 3, none⟩ = some (.pointer (some ⟨z, 0, none⟩)) := by rw [List.getLast?_concat] at c3; exact c3
      have c4' : w.cell? ⟨b, 4, none⟩ = some (.pointer (some ⟨y, 0, none⟩)) := c4
      have cA' : w.cell? ⟨z, 4, none⟩ = some (.pointer (some ⟨b, 0, none⟩)) := cA
      have c3a' : (w.setCell ⟨z, 4, none⟩ (.pointer (some ⟨y, 0, none⟩))).cell? ⟨b, 3, none⟩ = some (.pointer (some ⟨z, 0, none⟩)) := by rw [List.getLast?_concat] at c3a; exact c3a
      have c4a' : (w.setCell ⟨z, 4, none⟩ (.pointer (some ⟨y, 0, none⟩))).cell? ⟨b, 4, none⟩ = some (.pointer (some ⟨y, 0, none⟩)) := c4a
      have cBa' : (w.setCell ⟨z, 4, none⟩ (.pointer (some ⟨y, 0, none⟩))).cell? ⟨y, 3, none⟩ = some (.pointer (some ⟨b, 0, none⟩)) := cBa
      rw [List.getLast?_concat] at HF
      clear c3 c4 cA c3a c4a cBa
      go_enter Tryd.func50, Tryd.ntmps50
      go_wp2
      go_region
      all_goals go_wp2
      all_goals go_region
      all_goals go_wp2
      all_goals go_end0
      all_goals exact ⟨rfl, Lib.hid ⟨HF.out.1.drewN 2, HF.out.2.drewN 2⟩⟩
end Go.Proofs.YtgfmjkbelciaaaaDoor
