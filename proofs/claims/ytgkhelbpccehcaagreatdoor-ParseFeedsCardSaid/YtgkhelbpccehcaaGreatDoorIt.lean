/- A loop over an iterator that keeps its own state in boxes of its own: what a caller must say of its body; marks of several such loops at a function's return. No program. -/
import Derived.RangeFuncNested
import Derived.RangeFuncBound
import Derived.RangeFuncCalls
import Derived.RangeFuncLeaves
import Derived.Lib.Hide
import Derived.Test.YtgkhelbpccehcaaGreatDoorProg
namespace Go.Proofs.YtgkhelbpccehcaaGreatDoor
open Go.RowKit Go
set_option linter.unusedVariables false

/-- Three boxes of the iterator's from b on lie as they lay. -/
def Box3 (b : Nat) (W W' : World) : Prop := ∀ k, b ≤ k → k < b + 3 → W'.heap[k]? = W.heap[k]?
theorem Box3.refl (b : Nat) (W : World) : Box3 b W W := fun _ _ _ => rfl
theorem Box3.trans {b : Nat} {X Y Z : World} (h : Box3 b X Y) (h2 : Box3 b Y Z) : Box3 b X Z := fun k a c => (h2 k a c).trans (h k a c)
theorem Box3.putObj {b B : Nat} (hB : b + 3 ≤ B) (W : World) (l : Nat) (o : Obj) (hl : B ≤ l) : Box3 b W (W.putObj l o) := fun k a c => World.putObj_heap_other (by omega)
theorem Box3.cell {b : Nat} {W W' : World} (h : Box3 b W W') {k j : Nat} (h1 : b ≤ k) (h2 : k < b + 3) {v : Value} (hc : W.cell? ⟨k, j, none⟩ = some v) : W'.cell? ⟨k, j, none⟩ = some v :=
  (World.cell?_of_block (w := W) (h k h1 h2)).trans hc
theorem Box3.frozen {b : Nat} {W W' : World} (h : Box3 b W W') {k j : Nat} (h1 : b ≤ k) (h2 : k < b + 3) : W'.frozen? ⟨k, j, none⟩ = W.frozen? ⟨k, j, none⟩ :=
  World.frozen?_of_block (w := W) (h k h1 h2)

/-- A word that hangs neither on block b nor on what is no cells from B on. -/
def Firm {β : Type} (b B : Nat) (I : β → World → Prop) : Prop :=
  ∀ s W W' row, I s W → W.grownBy W' row → (∀ r, row = some r → r = b ∨ (B ≤ r ∧ ∃ o : Obj, W.heap[r]? = some o ∧ o.isCells = false)) → I s W'
theorem Firm.alloc {β : Type} {b B : Nat} {I : β → World → Prop} (h : Firm b B I) {s : β} {W : World} (o : Obj) (hs : I s W) : I s (W.alloc o) :=
  h s W _ none hs (World.grownBy_alloc W o none) (fun _ e => by cases e)
theorem Firm.put {β : Type} {b B : Nat} {I : β → World → Prop} (h : Firm b B I) {s : β} {W : World} {l : Nat} {o : Obj} (o' : Obj) (hs : I s W) (hB : B ≤ l) (hl : W.heap[l]? = some o) (ho : o.isCells = false) : I s (W.putObj l o') :=
  h s W _ (some l) hs (grownBy_putObj' W l o') (fun r e => by cases e; exact Or.inr ⟨hB, o, hl, ho⟩)
/-- What an iterator may do to a caller's word: turn its own box. -/
def Turned {β : Type} (b : Nat) (J : β → World → Prop) : Prop := ∀ s W W', J s W → W.grownBy W' (some b) → J s W'

variable {F : Fence} {n : Nat} {P : Program}
/-- The iterator's contract: all of S comes, or a part of it where a round has said no. -/
def Gives {α : Type} (F : Fence) (n : Nat) (P : Program) (g : Nat) (lb : Array Value) (encs : α → Array Value) (b : Nat) (S : List α) (w : World) : Prop :=
  ∀ (l : Nat) (J Jx : List α → World → Prop) (W : World), Below w.heap.size w W → Turned b J →
    (∀ pre x W1, J pre W1 → (∃ post, S = pre ++ x :: post) → YieldAt F (n - 1) P l (encs x) W1 fun e W' =>
      (e = .returned (.bool true) ∧ J (pre ++ [x]) W' ∧ Box3 b W1 W') ∨ (e = .returned (.bool false) ∧ Jx (pre ++ [x]) W')) →
    J [] W →
    CallsIn F n P g (#[.func (.yield l) #[] #[]] ++ lb) W fun e W' => (∃ v, e = .returned v) ∧ (J S W' ∨ ∃ pre post, S = pre ++ post ∧ Jx pre W')

theorem range_firm {α : Type} {g : Operand} {ps : Array Tmp} {assign body : Code} {Q : Exit → Act → World → Prop} {a : Act} {w : World}
    (hro : F.round = none) (h1 : 1 ≤ n) {gf : Nat} {lb : Array Value} (hg : a.eval g = .func (.func gf) #[] lb) (hFg : F.fn gf) (eg : ∀ args w, (callFunc gf args).run P w = .ok (.enter gf args) w)
    {encs : α → Array Value} (hps : ∀ x, (encs x).size = ps.size) {b : Nat} {S : List α} (hseq : Gives F (n - 1) P gf lb encs b S w) (hb3 : b + 3 ≤ w.heap.size)
    (I : List α → World → Prop) (Ix : Code → List α → World → Prop) (hI : Firm b w.heap.size I) (hIx : ∀ c, Firm b w.heap.size (Ix c)) (h0 : I [] w) (a₁ : α → Act)
    (hassign : ∀ (l : Nat) (x : α) (W : World) (K : Act → World → Prop), K (a₁ x) W →
      assign.wpIn (F.inRound l) (n - 1 - 1) P (Exit.then K (fun _ _ _ => False)) { tmps := (ps.zip (encs x)).foldl (fun t (p, v) => t.setIfInBounds p v) a.tmps, defers := [] } W)
    (hbody : ∀ (l : Nat) (pre : List α) (x : α) (W : World), I pre W → (∃ post, S = pre ++ x :: post) → body.wpIn (F.inRound l) (n - 1 - 1) P (ownPostG w.heap.size (Box3 b) I Ix (pre ++ [x]) W) (a₁ x) W)
    (hdone : ∀ (W : World), I S W → W.heap[w.heap.size]? = some (.deferred (some [])) → Q .normal { a with defers := { target := .collected w.heap.size, args := #[] } :: a.defers } W)
    (hstop : ∀ (c : Code) (pre post : List α) (W : World), S = pre ++ post → Ix c pre W → W.heap[w.heap.size]? = some (.deferred (some [])) → c.wpIn F n P Q { a with defers := { target := .collected w.heap.size, args := #[] } :: a.defers } W) :
    (Code.rangeFunc g ps assign body).wpIn F n P Q a w := by
  refine wpIn_rangeFunc ?_
  intro fn hfn
  rw [hro]
  obtain ⟨D, hD⟩ : ∃ D, D = w.heap.size := ⟨_, rfl⟩
  rw [← hD] at hdone hstop hI hIx hbody hb3
  obtain ⟨rec, hrec⟩ : ∃ rec : LoopState → Option Code → Loop, rec = fun st pe => { state := st, pending := pe, fn, tmps := a.tmps, params := ps, assign, body, defers := D } := ⟨_, rfl⟩
  obtain ⟨W1, hW1⟩ : ∃ W1, W1 = (w.alloc (.deferred (some []))).alloc (.loop (rec .ready none)) := ⟨_, rfl⟩
  have hL1 : W1.heap[D + 1]? = some (.loop (rec .ready none)) := by
    have := World.alloc_heap_new (w.alloc (.deferred (some []))) (.loop (rec .ready none))
    rw [World.size_alloc, ← hD] at this; rw [hW1]; exact this
  have hK1 : W1.heap[D]? = some (.deferred (some [])) := by
    rw [hW1, Below.heap_alloc _ _ _ (by simp; omega), hD]; exact World.alloc_heap_new w _
  have hI1 : I [] W1 := by rw [hW1]; exact hI.alloc _ (hI.alloc _ h0)
  have hb1 : Below w.heap.size w W1 := by
    rw [hW1]; exact ((Below.refl _ w).alloc (Nat.le_refl _) _).alloc (by simp) _
  have hbD : b ≠ D ∧ b ≠ D + 1 := by omega
  refine ⟨D + 1, [{ target := .collected D, args := #[] }], W1, { target := .fn (.func gf) lb, args := #[.func (.yield (D + 1)) #[] #[]] }, W1, gf,
    #[.func (.yield (D + 1)) #[] #[]] ++ lb, W1, ?_, ?_, ?_, ?_, fun _ => h1, ?_⟩
  · rw [hW1, hrec, hD]; exact run_enterLoop_outer _ _ _ _ _
  · simp only [resolve, hg]
    simp [go_sem]
  · intro f' hf'; simp [Target.leads] at hf'; subst hf'; exact hFg
  · simp [invoke, go_sem, eg]
  -- a block that is not the iterator's box lies on while that box turns
  have hold : ∀ {A B : World} {k : Nat} {o : Obj}, A.grownBy B (some b) → b ≠ k → A.heap[k]? = some o → B.heap[k]? = some o := fun hg' hne hk =>
    (hg'.block _ (Array.getElem?_eq_some_iff.1 hk).1 (fun e => hne (by cases e; rfl))).trans hk
  refine (hseq (D + 1)
    (fun pre W => I pre W ∧ W.heap[D + 1]? = some (.loop (rec .ready none)) ∧ W.heap[D]? = some (.deferred (some [])))
    (fun pre W => ∃ c, Ix c pre W ∧ W.heap[D + 1]? = some (.loop (rec .done (some c))) ∧ W.heap[D]? = some (.deferred (some [])))
    W1 hb1
    (fun s A B hs hg' => ⟨hI s A B (some b) hs.1 hg' (fun r e => by cases e; exact Or.inl rfl), hold hg' hbD.2 hs.2.1, hold hg' hbD.1 hs.2.2⟩)
    ?_ ⟨hI1, hL1, hK1⟩).mono ?_
  · rintro pre x W ⟨hi, hl, hk⟩ hlen
    have hlt : D + 1 < W.heap.size := (Array.getElem?_eq_some_iff.1 hl).1
    have hy := run_yield (P := P) (args := encs x) hl (by rw [hrec]; exact hps x)
    rw [hrec] at hy
    refine ⟨fn, _, assign, body, hy, roundIn_of_wpIn hfn (hassign _ x W _ ⟨_, run_beginRound hl (by rw [hrec]), ?_⟩)⟩
    have hl2 : (W.putObj (D + 1) (.loop { rec .ready none with state := .busy })).heap[D + 1]? = some (.loop { rec .ready none with state := .busy }) := World.putObj_heap_same hlt
    have hk2 : (W.putObj (D + 1) (.loop { rec .ready none with state := .busy })).heap[D]? = some (.deferred (some [])) := (World.putObj_heap_other (by omega)).trans hk
    have hx2 : Box3 b W (W.putObj (D + 1) (.loop { rec .ready none with state := .busy })) := Box3.putObj hb3 W _ _ (by omega)
    refine wpIn_mono (hbody _ pre x _ (hI.put _ hi (by omega) hl rfl) hlen) ?_
    have fin : ∀ (jump : Option Code) (W3 : World), KeepsFrom D (W.putObj (D + 1) (.loop { rec .ready none with state := .busy })) W3 →
        ∃ W4, W4 = W3.putObj (D + 1) (.loop (rec (if jump.isNone then .ready else .done) jump)) ∧ (Instr.endRound (D + 1) jump).run P W3 = .ok (.bool jump.isNone) W4 ∧
        (∃ o, W3.heap[D + 1]? = some o ∧ o.isCells = false) ∧ W4.heap[D + 1]? = some (.loop (rec (if jump.isNone then .ready else .done) jump)) ∧ W4.heap[D]? = some (.deferred (some [])) := fun jump W3 hk3 => by
      have hl3 := hk3.same _ _ (by omega) hl2 rfl
      have hr := run_endRound (P := P) jump hl3
      rw [hrec] at hr hl3
      refine ⟨_, rfl, ?_, ⟨_, hl3, rfl⟩, World.putObj_heap_same (Array.getElem?_eq_some_iff.1 hl3).1, (World.putObj_heap_other (by omega)).trans (hk3.same _ _ (Nat.le_refl _) hk2 rfl)⟩
      rw [hrec]; exact hr
    have leave : ∀ (c : Code) (W3 : World), KeepsFrom D (W.putObj (D + 1) (.loop { rec .ready none with state := .busy })) W3 → Ix c (pre ++ [x]) W3 →
        ∃ v w', (Instr.endRound (D + 1) (some c)).run P W3 = .ok v w' ∧ (Ending.returned v = .returned (.bool false) ∧ ∃ c, Ix c (pre ++ [x]) w' ∧ w'.heap[D + 1]? = some (.loop (rec .done (some c))) ∧ w'.heap[D]? = some (.deferred (some []))) := fun c W3 hk3 hi3 => by
      obtain ⟨W4, rfl, hr, ⟨o, ho, hoc⟩, hl4, hk4⟩ := fin (some c) W3 hk3
      exact ⟨_, _, hr, rfl, c, (hIx c).put _ hi3 (by omega) ho hoc, hl4, hk4⟩
    rintro e a3 W3 hp
    cases e with
    | normal =>
      obtain ⟨hk3, hx3, hi3⟩ := hp
      obtain ⟨W4, rfl, hr, ⟨o, ho, hoc⟩, hl4, hk4⟩ := fin none W3 hk3
      exact ⟨_, _, hr, .inl ⟨rfl, ⟨hI.put _ hi3 (by omega) ho hoc, hl4, hk4⟩, (hx2.trans hx3).trans (Box3.putObj hb3 _ _ _ (by omega))⟩⟩
    | ret => obtain ⟨v, w', hr, hq⟩ := leave .ret W3 hp.1 hp.2; exact ⟨v, w', hr, .inr hq⟩
    | exit id => obtain ⟨v, w', hr, hq⟩ := leave (.exit id) W3 hp.1 hp.2; exact ⟨v, w', hr, .inr hq⟩
    | goto t => obtain ⟨v, w', hr, hq⟩ := leave (.goto t) W3 hp.1 hp.2; exact ⟨v, w', hr, .inr hq⟩
    | panic ch => exact hp.elim
    | outgrown => exact hp.elim
  · rintro e W2 ⟨⟨v, rfl⟩, (⟨hi, hl, hk⟩ | ⟨pre, post, hS, c, hi, hl, hk⟩)⟩
    · have hr := run_endLoop (P := P) hl (by rw [hrec]; simp)
      rw [hrec] at hr
      exact ⟨none, _, hr, hdone _ (hI.put _ hi (by omega) hl rfl) ((World.putObj_heap_other (by omega)).trans hk)⟩
    · have hr := run_endLoop (P := P) hl (by rw [hrec]; simp)
      rw [hrec] at hr
      exact ⟨some c, _, hr, hstop c pre post _ hS ((hIx c).put _ hi (by omega) hl rfl) ((World.putObj_heap_other (by omega)).trans hk)⟩

/-! ### The marks of several loops at the function's return -/
/-- The marks that an activation has gathered: blocks from B on, no two alike, each with nothing collected. -/
def Marks (B : Nat) : List Deferred → World → Prop
  | [], _ => True
  | d :: ds, W => ∃ D, d = { target := .collected D, args := #[] } ∧ B ≤ D ∧ W.heap[D]? = some (.deferred (some [])) ∧ (∀ d' ∈ ds, d'.target ≠ .collected D) ∧ Marks B ds W
theorem Marks.kept {B : Nat} {W W' : World} : ∀ {ds : List Deferred}, Marks B ds W → (∀ D ∈ ds, ∀ k, D.target = .collected k → W.heap[k]? = some (.deferred (some [])) → W'.heap[k]? = some (.deferred (some []))) → Marks B ds W'
  | [], _, _ => trivial
  | d :: ds, ⟨D, hd, hB, hD, hn, hr⟩, h => ⟨D, hd, hB, h d (by simp) D (by rw [hd]) hD, hn, hr.kept fun e he => h e (by simp [he])⟩
theorem Marks.old {B : Nat} {W : World} : ∀ {ds : List Deferred}, Marks B ds W → ∀ d ∈ ds, ∀ k, d.target = .collected k → k < W.heap.size
  | d :: ds, ⟨D, hd, hB, hD, hn, hr⟩, e, he, k, hk => by
    rw [List.mem_cons] at he
    rcases he with rfl | he
    · rw [hd] at hk; injection hk with hk; subst hk; exact (Array.getElem?_eq_some_iff.1 hD).1
    · exact hr.old e he k hk
/-- They go by without a call; nothing but they has turned. -/
theorem leaves_marks {fn : Func} {tmps : Array Value} {R : Ending → World → Prop} {B : Nat} : ∀ (ds : List Deferred) (W : World), Marks B ds W →
    (∀ W', Below B W W' → (∀ (k : Nat) (o : Obj), W.heap[k]? = some o → o.isCells = true → W'.heap[k]? = some o) → LeavesIn F n P fn tmps R [] .returning W') →
    LeavesInM F n P fn tmps R ds .returning W
  | [], W, _, h => h W (Below.refl _ _) (fun _ _ h _ => h)
  | d :: ds, W, ⟨D, hd, hB, hD, hn, hr⟩, h => by
    refine ⟨by simp, .inl ⟨D, _, by rw [hd], run_takeDeferred hD, ?_⟩⟩
    refine leaves_marks ds _ (hr.kept fun e he k hk hk2 => (World.putObj_heap_other (fun x => ?_)).trans hk2) fun W' hb hc => h W' ?_ ?_
    · subst x; exact hn e he hk
    · exact (show Below B W (W.putObj D (.deferred none)) from ⟨rfl, rfl, rfl, by simp, fun k hk => World.putObj_heap_other (by omega)⟩).trans hb
    · intro k o hk ho
      refine hc k o ((World.putObj_heap_other (fun x => ?_)).trans hk) ho
      subst x; rw [hD] at hk; cases hk; cases ho
end Go.Proofs.YtgkhelbpccehcaaGreatDoor
