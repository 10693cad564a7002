/- What heavy answers; both queues side by side. -/
import Derived.Test.YtgahnediigmihaaRefD
import Derived.Test.YtgahnediigmihaaOpenQ
import Derived.Test.YtgahnediigmihaaKnownQ
namespace Go.Proofs.Ytgahnediigmihaa
open Go.RowKit
set_option maxRecDepth 100000
set_option linter.unusedVariables false
set_option linter.unusedSimpArgs false

/-- The acts that came in. -/
def ActsAt (W : World) (A : Option Addr) (len : Nat) (f : Nat → ActAt) : Prop := ∀ j, j < len → ∃ b off, A = some ⟨b, off, none⟩ ∧ b < W.heap.size ∧ ActIs W b (off + j * 4) (f j)
/-- The first k of them are no more than is looked at. -/
def Small (f : Nat → ActAt) (k : Nat) : Prop := ∀ j, j < k → (f j).B.l.length ≤ 6000 ∧ (f j).C.l.length ≤ 6000
theorem Small.snoc {f : Nat → ActAt} {k : Nat} (h : Small f k) (hb : (f k).B.l.length ≤ 6000) (hc : (f k).C.l.length ≤ 6000) : Small f (k + 1) := fun j hj => by
  by_cases e : j = k
  · subst e; exact ⟨hb, hc⟩
  · exact h j (by omega)
theorem Small.less {f : Nat → ActAt} {k m : Nat} (h : Small f k) (hm : m ≤ k) : Small f m := fun j hj => h j (by omega)
def Heavy (f : Nat → ActAt) (len : Nat) (w : World) (e : Ending) (w' : World) : Prop := ∃ t : Bool, e = .returned (.bool t) ∧ w = w' ∧ (t = false → Small f (min len 150))
set_option maxHeartbeats 2000000 in
theorem heavy_any (w : World) (A : Option Addr) (len cap : Nat) (f : Nat → ActAt) (hf : ActsAt w A len f) (hlm : len ≤ maxLen) :
    Calls Try.prog 8 #[.slice A len cap] w (Heavy f len w) := by
  have HF := Lib.hid hf
  unfold maxLen at hlm
  clear hf
  go_enter Try.func8, Try.ntmps8
  go_wp2
  go_loop [3, 4] (fun n i => ∃ k m : Nat, k ≤ len ∧ k ≤ 150 ∧ m ≤ 6000 ∧ i = .int .i64 k ∧ n = .int .i64 m ∧ Hid (Small f k)) (fun _ i => len - (intOf i).toNat)
  case atStart => exact ⟨0, 0, by omega, by omega, by omega, rfl, rfl, Lib.hid fun j hj => by omega⟩
  case round =>
    obtain ⟨k, m, hk, hk2, hm, rfl, rfl, hs⟩ := hrel
    by_cases hc : k < len ∧ k < 150
    · obtain ⟨hlt, hlt2⟩ := hc
      obtain ⟨b, off, rfl, hb, _, _, c2, c3, _, _, h1, h2⟩ := HF.out k hlt
      have hB := h1.2
      have hC := h2.2
      obtain ⟨q, hq⟩ : ∃ q, q = f k := ⟨_, rfl⟩
      rw [← hq] at c2 c3 hB hC
      have HQ := Lib.hid hq
      clear h1 h2 hq
      by_cases b1 : 6000 < m + 5 + q.B.l.length
      · have e1 : (6000 : Int) < (m : Int) + 5 + (q.B.l.length : Int) := by omega
        go_wp2
        go_ret
        exact ⟨true, rfl, rfl, fun h => by cases h⟩
      · by_cases b2 : 6000 < q.C.l.length
        · have e1 : ¬ (6000 : Int) < (m : Int) + 5 + (q.B.l.length : Int) := by omega
          have e2 : (6000 : Int) < (q.C.l.length : Int) := by omega
          go_wp2
          go_ret
          exact ⟨true, rfl, rfl, fun h => by cases h⟩
        · have e1 : ¬ (6000 : Int) < (m : Int) + 5 + (q.B.l.length : Int) := by omega
          have e2 : ¬ (6000 : Int) < (q.C.l.length : Int) := by omega
          have HSn := Lib.hid (hs.out.snoc (by rw [← HQ.out]; omega) (by rw [← HQ.out]; omega))
          by_cases b3 : 6000 < m + 5 + q.B.l.length + q.C.l.length
          · have e3 : (6000 : Int) < (m : Int) + 5 + (q.B.l.length : Int) + (q.C.l.length : Int) := by omega
            go_wp2
            go_ret
            exact ⟨true, rfl, rfl, fun h => by cases h⟩
          · have e3 : ¬ (6000 : Int) < (m : Int) + 5 + (q.B.l.length : Int) + (q.C.l.length : Int) := by omega
            go_wp2
            go_round
            case rel => exact ⟨k + 1, m + 5 + q.B.l.length + q.C.l.length, by omega, by omega, by omega, by go_num, by go_num, HSn⟩
            case measure => simp [intOf]; omega
    · have HD := Lib.hid (hs.out.less (show min len 150 ≤ k by omega))
      have hcase : (k < len ∧ k = 150) ∨ ¬ k < len := by omega
      rcases hcase with ⟨h1, h2⟩ | h1
      all_goals
        clear hc
        go_wp2
        go_ret
        exact ⟨false, rfl, rfl, fun _ => HD.out⟩
/-- Both queues in memory, apart. -/
structure St (W wr : World) (g x : Nat) (F G : List Nat) (B E : List Int) (V T : Nat) (B2 E2 : List Int) (V2 T2 : Nat) : Prop where
  que : QueA wr g F B E V T
  ref : QefA wr x G B2 E2 V2 T2
  mods : Mods [] W wr
  ff : ∀ b ∈ F, W.heap.size ≤ b
  fg : ∀ b ∈ G, W.heap.size ≤ b
  dis : ∀ b ∈ F, b ∉ G
section
variable {W w2 w3 wx : World} {g x V T V2 T2 V' T' : Nat} {F G F' G' K : List Nat} {B E B2 E2 B' E' : List Int}
theorem St.same (h : St W w2 g x F G B E V T B2 E2 V2 T2) (h1 : w3.heap = w2.heap) (h2 : w3.os = w2.os) (h3 : w3.tape = w2.tape) (h4 : w3.output = w2.output) : St W w3 g x F G B E V T B2 E2 V2 T2 :=
  ⟨h.que.keep (fun k _ => by rw [h1]), h.ref.keep (fun k _ => by rw [h1]), h.mods.same h1 h2 h3 h4, h.ff, h.fg, h.dis⟩
theorem St.quiet (h : St W w2 g x F G B E V T B2 E2 V2 T2) (hm : Mods [] w2 w3) : St W w3 g x F G B E V T B2 E2 V2 T2 :=
  ⟨h.que.quiet hm, h.ref.quiet hm, h.mods.trans hm (by simp), h.ff, h.fg, h.dis⟩
theorem St.far (h : St W w2 g x F G B E V T B2 E2 V2 T2) (hm : Mods K w2 w3) (hW : ∀ b ∈ K, W.heap.size ≤ b) (h1 : ∀ b ∈ K, b ∉ F) (h2 : ∀ b ∈ K, b ∉ G) : St W w3 g x F G B E V T B2 E2 V2 T2 :=
  ⟨h.que.mods hm (fun k hk hk2 => h1 k hk2 hk), h.ref.mods hm (fun k hk hk2 => h2 k hk2 hk), h.mods.trans hm (fun k hk => .inr (hW k hk)), h.ff, h.fg, h.dis⟩
theorem St.onQue (h : St W w2 g x F G B E V T B2 E2 V2 T2) (hq : QueA w3 g F' B' E' V' T') (hm : Mods F w2 w3) (hn : ∀ k ∈ F', k ∈ F ∨ w2.heap.size ≤ k) : St W w3 g x F' G B' E' V' T' B2 E2 V2 T2 := by
  refine ⟨hq, h.ref.mods hm (fun k hk hk2 => h.dis k hk2 hk), h.mods.trans hm (fun k hk => .inr (h.ff k hk)), fun b hb => ?_, h.fg, fun b hb hb2 => ?_⟩
  · rcases hn b hb with e | e
    · exact h.ff b e
    · exact Nat.le_trans h.mods.size e
  · rcases hn b hb with e | e
    · exact h.dis b e hb2
    · have := h.ref.lt b hb2; omega
theorem St.onRef (h : St W w2 g x F G B E V T B2 E2 V2 T2) (hq : QefA w3 x G' B' E' V' T') (hm : Mods G w2 w3) (hn : ∀ k ∈ G', k ∈ G ∨ w2.heap.size ≤ k) : St W w3 g x F G' B E V T B' E' V' T' := by
  refine ⟨h.que.mods hm (fun k hk hk2 => h.dis k hk hk2), hq, h.mods.trans hm (fun k hk => .inr (h.fg k hk)), h.ff, fun b hb => ?_, fun b hb hb2 => ?_⟩
  · rcases hn b hb with e | e
    · exact h.fg b e
    · exact Nat.le_trans h.mods.size e
  · rcases hn b hb2 with e | e
    · exact h.dis b hb e
    · have := h.que.lt b hb; omega
/-- The same, from a world with the same memory. -/
theorem St.toQue (hq : QueTo wx w3 g F B' E' V' T') (h : St W w2 g x F G B E V T B2 E2 V2 T2) (h1 : wx.heap = w2.heap) (h2 : wx.os = w2.os) (h3 : wx.tape = w2.tape) (h4 : wx.output = w2.output) :
    ∃ F', St W w3 g x F' G B' E' V' T' B2 E2 V2 T2 ∧ ∀ k ∈ F', k ∈ F ∨ w2.heap.size ≤ k := by
  obtain ⟨F', q1, q2, q3⟩ := hq
  exact ⟨F', (h.same h1 h2 h3 h4).onQue q1 q2 q3, fun k hk => by have := q3 k hk; rwa [h1] at this⟩
theorem St.toRef (hq : QefTo wx w3 x G B' E' V' T') (h : St W w2 g x F G B E V T B2 E2 V2 T2) (h1 : wx.heap = w2.heap) (h2 : wx.os = w2.os) (h3 : wx.tape = w2.tape) (h4 : wx.output = w2.output) :
    ∃ G', St W w3 g x F G' B E V T B' E' V' T' ∧ ∀ k ∈ G', k ∈ G ∨ w2.heap.size ≤ k := by
  obtain ⟨F', q1, q2, q3⟩ := hq
  exact ⟨F', (h.same h1 h2 h3 h4).onRef q1 q2 q3, fun k hk => by have := q3 k hk; rwa [h1] at this⟩
theorem St.calm (hm : Mods [] wx w3) (h : St W w2 g x F G B E V T B2 E2 V2 T2) (h1 : wx.heap = w2.heap) (h2 : wx.os = w2.os) (h3 : wx.tape = w2.tape) (h4 : wx.output = w2.output) : St W w3 g x F G B E V T B2 E2 V2 T2 :=
  (h.same h1 h2 h3 h4).quiet hm
end
theorem QueTo.mods {w w' : World} {g : Nat} {F : List Nat} {B E : List Int} {V T : Nat} (h : QueTo w w' g F B E V T) : Mods F w w' := by obtain ⟨_, _, h, _⟩ := h; exact h
theorem QefTo.mods {w w' : World} {g : Nat} {F : List Nat} {B E : List Int} {V T : Nat} (h : QefTo w w' g F B E V T) : Mods F w w' := by obtain ⟨_, _, h, _⟩ := h; exact h
theorem QueA.same {w w2 : World} {g : Nat} {F : List Nat} {B E : List Int} {V T : Nat} (h : QueA w g F B E V T) (e : w2.heap = w.heap) : QueA w2 g F B E V T := h.keep fun k _ => by rw [e]
theorem QefA.same {w w2 : World} {g : Nat} {F : List Nat} {B E : List Int} {V T : Nat} (h : QefA w g F B E V T) (e : w2.heap = w.heap) : QefA w2 g F B E V T := h.keep fun k _ => by rw [e]
/-- Len of the reference's bytes. -/
theorem QefA.b {w : World} {x : Nat} {G : List Nat} {B E : List Int} {V T : Nat} (h : QefA w x G B E V T) : ∃ A c, w.cell? ⟨x, 0, none⟩ = some (.slice A B.length c) ∧ At w [] A B ∧ B.length ≤ c ∧ c ≤ maxLen := by
  obtain ⟨vb, ve, D, rfl, h⟩ := h
  obtain ⟨Ab, cb, Ae, ce, rfl, rfl, q1, q2, q3, q4⟩ := h.cells
  exact ⟨Ab, cb, h.row.cell 0, At.of_own2 (F := []) h.dat (by simp) h.rng, q1, q2⟩
/-- Behind the switch: k: the acts so far. -/
def R2 (W wr : World) (g x k : Nat) : Prop := ∃ F G B E V T, St W wr g x F G B E V T B E V T ∧ V + B.length ≤ 12000 * k ∧ T + E.length ≤ k
end Go.Proofs.Ytgahnediigmihaa
