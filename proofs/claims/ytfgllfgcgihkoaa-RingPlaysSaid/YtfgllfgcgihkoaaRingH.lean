/- What heavy answers; both rings side by side. -/
import Derived.Test.YtfgllfgcgihkoaaRefW
import Derived.Test.YtfgllfgcgihkoaaOpenR
namespace Go.Proofs.Ytfgllfgcgihkoaa
open Go.RowKit
set_option maxRecDepth 100000
set_option linter.unusedVariables false
set_option linter.unusedSimpArgs false

/-- The acts that came in. -/
def ActsAt (W : World) (A : Option Addr) (len : Nat) (f : Nat → ActAt) : Prop := ∀ j, j < len → ∃ b off, A = some ⟨b, off, none⟩ ∧ b < W.heap.size ∧ ActIs W b (off + j * 4) (f j)
/-- The first k of them are no more than is looked at. -/
def Small (f : Nat → ActAt) (k : Nat) : Prop := ∀ j, j < k → (f j).B.l.length ≤ 6000 ∧ (f j).C.l.length ≤ 6000
theorem Small.snoc {f : Nat → ActAt} {k : Nat} (h : Small f k) (hb : (f k).B.l.length ≤ 6000) (hc : (f k).C.l.length ≤ 6000) : Small f (k + 1) := fun j hj => by
  by_cases e : j = k
  · subst e; exact ⟨hb, hc⟩
  · exact h j (by omega)
theorem Small.less {f : Nat → ActAt} {k m : Nat} (h : Small f k) (hm : m ≤ k) : Small f m := fun j hj => h j (by omega)
def Heavy (f : Nat → ActAt) (len : Nat) (w : World) (e : Ending) (w' : World) : Prop := ∃ t : Bool, e = .returned (.bool t) ∧ w = w' ∧ (t = false → Small f (min len 150))
set_option maxHeartbeats 2000000 in
theorem heavy_any (w : World) (A : Option Addr) (len cap : Nat) (f : Nat → ActAt) (hf : ActsAt w A len f) (hlm : len ≤ maxLen) :
    Calls Try.prog 8 #[.slice A len cap] w (Heavy f len w) := by
  have HF := Lib.hid hf
  unfold maxLen at hlm
  clear hf
  go_enter Try.func8, Try.ntmps8
  go_wp2
  go_loop [3, 4] (fun n i => ∃ k m : Nat, k ≤ len ∧ k ≤ 150 ∧ m ≤ 6000 ∧ i = .int .i64 k ∧ n = .int .i64 m ∧ Hid (Small f k)) (fun _ i => len - (intOf i).toNat)
  case atStart => exact ⟨0, 0, by omega, by omega, by omega, rfl, rfl, Lib.hid fun j hj => by omega⟩
  case round =>
    obtain ⟨k, m, hk, hk2, hm, rfl, rfl, hs⟩ := hrel
    by_cases hc : k < len ∧ k < 150
    · obtain ⟨hlt, hlt2⟩ := hc
      obtain ⟨b, off, rfl, hb, _, _, c2, c3, _, _, h1, h2⟩ := HF.out k hlt
      have hB := h1.2
      have hC := h2.2
      obtain ⟨q, hq⟩ : ∃ q, q = f k := ⟨_, rfl⟩
      rw [← hq] at c2 c3 hB hC
      have HQ := Lib.hid hq
      clear h1 h2 hq
      by_cases b1 : 6000 < m + 5 + q.B.l.length
      · have e1 : (6000 : Int) < (m : Int) + 5 + (q.B.l.length : Int) := by omega
        go_wp2
        go_ret
        exact ⟨true, rfl, rfl, fun h => by cases h⟩
      · by_cases b2 : 6000 < q.C.l.length
        · have e1 : ¬ (6000 : Int) < (m : Int) + 5 + (q.B.l.length : Int) := by omega
          have e2 : (6000 : Int) < (q.C.l.length : Int) := by omega
          go_wp2
          go_ret
          exact ⟨true, rfl, rfl, fun h => by cases h⟩
        · have e1 : ¬ (6000 : Int) < (m : Int) + 5 + (q.B.l.length : Int) := by omega
          have e2 : ¬ (6000 : Int) < (q.C.l.length : Int) := by omega
          have HSn := Lib.hid (hs.out.snoc (by rw [← HQ.out]; omega) (by rw [← HQ.out]; omega))
          by_cases b3 : 6000 < m + 5 + q.B.l.length + q.C.l.length
          · have e3 : (6000 : Int) < (m : Int) + 5 + (q.B.l.length : Int) + (q.C.l.length : Int) := by omega
            go_wp2
            go_ret
            exact ⟨true, rfl, rfl, fun h => by cases h⟩
          · have e3 : ¬ (6000 : Int) < (m : Int) + 5 + (q.B.l.length : Int) + (q.C.l.length : Int) := by omega
            go_wp2
            go_round
            case rel => exact ⟨k + 1, m + 5 + q.B.l.length + q.C.l.length, by omega, by omega, by omega, by go_num, by go_num, HSn⟩
            case measure => simp [intOf]; omega
    · have HD := Lib.hid (hs.out.less (show min len 150 ≤ k by omega))
      have hcase : (k < len ∧ k = 150) ∨ ¬ k < len := by omega
      rcases hcase with ⟨h1, h2⟩ | h1
      all_goals
        clear hc
        go_wp2
        go_ret
        exact ⟨false, rfl, rfl, fun _ => HD.out⟩
/-- Both rings in memory, apart. -/
structure St (W wr : World) (g m x N : Nat) (F : List Nat) (L M : List Int) : Prop where
  ring : RingA wr g m N L
  ref : RefB wr x F N M
  mods : Mods [] W wr
  fg : ∀ b ∈ [g, m], W.heap.size ≤ b
  ff : ∀ b ∈ F, W.heap.size ≤ b
  dis : ∀ b ∈ F, b ∉ [g, m]
section
variable {W w2 w3 : World} {g m x N : Nat} {F : List Nat} {L M L' M' : List Int}
theorem St.onRing (h : St W w2 g m x N F L M) (hr : RingA w3 g m N L') (hm : Mods [g, m] w2 w3) : St W w3 g m x N F L' M :=
  ⟨hr, h.ref.mods hm h.dis, h.mods.trans hm (fun k hk => .inr (h.fg k hk)), h.fg, h.ff, h.dis⟩
theorem St.onRef (h : St W w2 g m x N F L M) (hl : Left w2 w3 x F N M') : ∃ F', St W w3 g m x N F' L M' ∧ ∀ k ∈ F', k ∈ F ∨ w2.heap.size ≤ k := by
  obtain ⟨F', hB, hM, hN⟩ := hl
  refine ⟨F', ⟨h.ring.mods hM (fun k hk hk2 => h.dis k hk2 hk), hB, h.mods.trans hM (fun k hk => .inr (h.ff k hk)), h.fg, fun b hb => ?_, fun b hb hb2 => ?_⟩, hN⟩
  · rcases hN b hb with e | e
    · exact h.ff b e
    · exact Nat.le_trans h.mods.size e
  · rcases hN b hb with e | e
    · exact h.dis b e hb2
    · have := h.ring.lt b hb2; omega
theorem St.quiet (h : St W w2 g m x N F L M) (hm : Mods [] w2 w3) : St W w3 g m x N F L M :=
  ⟨h.ring.mods hm (by simp), h.ref.mods hm (by simp), h.mods.trans hm (by simp), h.fg, h.ff, h.dis⟩
theorem St.far (h : St W w2 g m x N F L M) {G : List Nat} (hm : Mods G w2 w3) (hW : ∀ b ∈ G, W.heap.size ≤ b) (h1 : ∀ b ∈ G, b ∉ [g, m]) (h2 : ∀ b ∈ G, b ∉ F) : St W w3 g m x N F L M :=
  ⟨h.ring.mods hm (fun k hk hk2 => h1 k hk2 hk), h.ref.mods hm (fun k hk hk2 => h2 k hk2 hk), h.mods.trans hm (fun k hk => .inr (hW k hk)), h.fg, h.ff, h.dis⟩
theorem St.same (h : St W w2 g m x N F L M) (h1 : w3.heap = w2.heap) (h2 : w3.os = w2.os) (h3 : w3.tape = w2.tape) (h4 : w3.output = w2.output) : St W w3 g m x N F L M :=
  ⟨h.ring.keep (fun k _ => by rw [h1]), h.ref.keep (fun k _ => by rw [h1]), h.mods.same h1 h2 h3 h4, h.fg, h.ff, h.dis⟩
theorem Left.mods {N : Nat} (h : Left w2 w3 x F N M) : Mods F w2 w3 := by obtain ⟨_, _, h, _⟩ := h; exact h
theorem Left.onto {wx : World} (hl : Left wx w3 x F N M') (h : St W w2 g m x N F L M) (h1 : wx.heap = w2.heap) (h2 : wx.os = w2.os) (h3 : wx.tape = w2.tape) (h4 : wx.output = w2.output) :
    ∃ F', St W w3 g m x N F' L M' ∧ ∀ k ∈ F', k ∈ F ∨ w2.heap.size ≤ k := by
  obtain ⟨F', hS, hN⟩ := (h.same h1 h2 h3 h4).onRef hl
  exact ⟨F', hS, fun k hk => by have := hN k hk; rwa [h1] at this⟩
end
theorem RowsAt.same {w w2 : World} {F : List Nat} {b : Nat} {rs : List Rw} (h : RowsAt w F b rs) (e : w2.heap = w.heap) : RowsAt w2 F b rs := by
  have hc : ∀ p, w2.cell? p = w.cell? p := fun p => World.cell?_of_block (by rw [e])
  refine ⟨by rw [e]; exact h.lt, h.out, fun i r hr => (hc _).trans (h.cell i r hr), fun r hr => ⟨fun i x hx => ?_, (h.at_ r hr).2⟩⟩
  obtain ⟨b, o, h1, h2, h3, h4, h5⟩ := (h.at_ r hr).1 i x hx
  exact ⟨b, o, h1, by rw [e]; exact h2, h3, (hc _).trans h4, h5⟩
theorem RowsAt.sub {w : World} {F G : List Nat} {b : Nat} {rs : List Rw} (h : RowsAt w F b rs) (hs : ∀ k ∈ G, k ∈ F) : RowsAt w G b rs :=
  ⟨h.lt, fun hb => h.out (hs b hb), h.cell, fun r hr => ⟨(h.at_ r hr).1.sub (fun k hk => .inl (hs k hk)), (h.at_ r hr).2⟩⟩
theorem Rw.Ok.sub {w : World} {F G : List Nat} {r : Rw} (h : r.Ok w F) (hs : ∀ k ∈ G, k ∈ F) : r.Ok w G := ⟨h.1.sub (fun k hk => .inl (hs k hk)), h.2⟩
theorem St.wrote {W w2 w3 wx : World} {g m x N : Nat} {F : List Nat} {L M L' : List Int} (hr : RingA w3 g m N L' ∧ Mods [g, m] wx w3) (h : St W w2 g m x N F L M) (h1 : wx.heap = w2.heap) (h2 : wx.os = w2.os) (h3 : wx.tape = w2.tape) (h4 : wx.output = w2.output) : St W w3 g m x N F L' M :=
  (h.same h1 h2 h3 h4).onRing hr.1 hr.2
theorem Mods.onto {w w2 w3 wx : World} {F G : List Nat} (hm : Mods G wx w3) (h : Mods F w w2) (h1 : wx.heap = w2.heap) (h2 : wx.os = w2.os) (h3 : wx.tape = w2.tape) (h4 : wx.output = w2.output) (hs : ∀ k ∈ G, k ∈ F) : Mods F w w3 :=
  (h.same h1 h2 h3 h4).trans hm (fun k hk => .inl (hs k hk))
theorem stands_as (w : World) (A B : Option Addr) (n m ca cb : Nat) (l : List Int) (hn : n = l.length) (hm : m = l.length + 1) (hc : m ≤ ca) (ha : At w [] A (l ++ [171, 171])) (hb : At w [] B l) (hl : l.length ≤ 1000000) :
    Calls Try.prog 15 #[.slice A m ca, .slice B n cb] w fun e w' => e = .returned (.bool true) ∧ Mods [] w w' :=
  (stands_yes w A B n m ca cb l hn hm hc ha hb hl).mono fun e w' ⟨he, q, hq⟩ => ⟨he, by rw [hq]; exact (Mods.refl _ _).drewN q⟩
theorem Roomy.drew {w w' : World} {g c : Nat} {l : List Int} (h : Roomy w.drew w' g c l) : Roomy w w' g c l := ⟨h.1, of_drew h.2.1, h.2.2⟩
theorem Roomy.less {w w' : World} {g c : Nat} {l : List Int} (h : Roomy w w' g c l) : w'.ownsRow 0 5 1 (.slice (some ⟨g, 0, none⟩) (l.length + 1) c) (l.length + 1) (bv (l ++ [171])) := by
  have := own_less h.1 (show l.length + 1 ≤ l.length + 2 by omega) (by omega)
  rw [show (bv (l ++ [171, 171])).take (l.length + 1) = bv (l ++ [171]) by
    rw [show bv (l ++ [171, 171]) = bv (l ++ [171]) ++ [.int .u8 171] by simp [bv]]
    exact List.take_left' (by simp [bv])] at this
  exact this
theorem Roomy.lt {w w' : World} {g c : Nat} {l : List Int} (h : Roomy w w' g c l) : g < w'.heap.size := own_lt h.1 g (by simp [Value.ownBlock])
/-- The bytes of a roomy slice, and the marks behind them, later on. -/
theorem Roomy.at_ {w w' w2 : World} {g c : Nat} {l : List Int} {G : List Nat} (h : Roomy w w' g c l) (hm : Mods G w' w2) (hg : g ∉ G) (hr : ∀ x ∈ l, 0 ≤ x ∧ x ≤ 255) : At w2 [] (some ⟨g, 0, none⟩) (l ++ [171, 171]) := by
  have ho := own_mods h.1 hm (fun k hk hk2 => by simp [Value.ownBlock] at hk; subst hk; exact hg hk2)
  refine At.of_own ho (by simp) (fun x hx => ?_)
  rcases List.mem_append.1 hx with hx | hx
  · exact hr x hx
  · simp at hx; subst hx; decide
theorem Roomy.ok {w w' w2 : World} {g c : Nat} {l : List Int} {F : List Nat} (h : Roomy w w' g c l) (hm : Mods [] w' w2) (hg : g ∉ F) (hr : ∀ x ∈ l, 0 ≤ x ∧ x ≤ 255) (hc : l.length + 2 ≤ c) : Rw.Ok w2 F ⟨some ⟨g, 0, none⟩, l, c⟩ := by
  have ho := own_mods h.1 hm (by simp)
  have hcm : c ≤ maxLen := by
    obtain ⟨A, c', e, _, h2⟩ := own_slice ho
    injection e with _ _ e3
    rw [e3]; exact h2
  refine ⟨?_, by show l.length ≤ c; omega, hcm⟩
  have := (At.of_own (F := F) ho (fun k hk hk2 => by simp [Value.ownBlock] at hk; subst hk; exact hg hk2) (fun x hx => by
    rcases List.mem_append.1 hx with hx | hx
    · exact hr x hx
    · simp at hx; subst hx; decide)).take l.length
  rwa [List.take_left] at this
theorem RowsAt.onto {w2 w3 wx : World} {F G : List Nat} {b : Nat} {rs : List Rw} (hm : Mods G wx w3) (h : RowsAt w2 F b rs) (e : wx.heap = w2.heap) (hs : ∀ k ∈ G, k ∈ F) : RowsAt w3 F b rs :=
  (h.same e).mods (hm.more (fun k hk => .inl (hs k hk)))
theorem St.calm {W w2 w3 wx : World} {g m x N : Nat} {F : List Nat} {L M : List Int} (hm : Mods [] wx w3) (h : St W w2 g m x N F L M) (h1 : wx.heap = w2.heap) (h2 : wx.os = w2.os) (h3 : wx.tape = w2.tape) (h4 : wx.output = w2.output) : St W w3 g m x N F L M :=
  (h.same h1 h2 h3 h4).quiet hm
theorem RingA.same {w w2 : World} {g m N : Nat} {L : List Int} (h : RingA w g m N L) (e : w2.heap = w.heap) : RingA w2 g m N L := h.keep fun k _ => by rw [e]
theorem RefB.same {w w2 : World} {x N : Nat} {F : List Nat} {L : List Int} (h : RefB w x F N L) (e : w2.heap = w.heap) : RefB w2 x F N L := h.keep fun k _ => by rw [e]
end Go.Proofs.Ytfgllfgcgihkoaa
