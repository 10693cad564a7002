/- Rings that are lent, one behind the other, each with two bytes of its own. -/
import Derived.Test.YtdocifbkocbiiaaPoolL
import Derived.Test.YtdocifbkocbiiaaMostMath
import Derived.Deep.AppendLies
namespace Go.Proofs.Ytdocifbkocbiiaa
open Go.RowKit
set_option maxRecDepth 10000
set_option linter.unusedVariables false
set_option linter.unusedSimpArgs false

theorem ptr_info : (Try.prog.info? 31).map (fun i => (i.zero, i.size, i.bytes)) = some (some (.pointer none), 1, 8) := by kernel_rfl
theorem new_at {w : World} {o : Obj} {n : Nat} (h : w.heap.size = n) : (w.alloc o).heap[n]? = some o := by subst h; exact heap_alloc_new w o
/-- Rings, by their pointers. -/
def ptrs (rs : List (Nat × Nat)) : List Value := rs.map fun p => .pointer (some ⟨p.1, 0, none⟩)
theorem ptrs_length (rs : List (Nat × Nat)) : (ptrs rs).length = rs.length := by simp [ptrs]
theorem ptrs_at (rs : List (Nat × Nat)) (i : Nat) (p : Nat × Nat) (h : rs[i]? = some p) : (ptrs rs)[i]? = some (.pointer (some ⟨p.1, 0, none⟩)) := by simp [ptrs, h]
/-- The slice l holds k rings, each with the byte a and its own number; all stand from H on. -/
structure Stand (wr : World) (H k : Nat) (a : Int) (l : Value) (rs : List (Nat × Nat)) : Prop where
  len : rs.length = k
  own : wr.ownsRow 0 31 1 l k (ptrs rs)
  ring : ∀ (i : Nat) p, rs[i]? = some p → RingA wr p.1 p.2 4 [a, (i : Int)] ∧ H ≤ p.1 ∧ H ≤ p.2
  high : ∀ b ∈ l.ownBlock.toList, H ≤ b
theorem Stand.zero (w : World) (H : Nat) (a : Int) : Stand w H 0 a (.slice none 0 0) [] :=
  ⟨rfl, World.ownsRow_nil _ _ _ _, fun i p h => by simp at h, by simp [Value.ownBlock]⟩
theorem ring_rows {w : World} {g m N : Nat} {L : List Int} (h : RingA w g m N L) : (∃ cs, Row w g 60 cs) ∧ ∃ cs, Row w m 5 cs := by
  obtain ⟨f, cs, h⟩ := h
  exact ⟨⟨_, h.row⟩, ⟨_, h.mem⟩⟩
/-- A ring's blocks are none of a row of pointers. -/
theorem ring_far {w : World} {g m N n : Nat} {L : List Int} {l : Value} {xs : List Value} (h : RingA w g m N L) (ho : w.ownsRow 0 31 1 l n xs) : ∀ k ∈ [g, m], k ∉ l.ownBlock.toList := by
  obtain ⟨⟨c1, r1⟩, ⟨c2, r2⟩⟩ := ring_rows h
  intro k hk hl
  simp only [List.mem_cons, List.mem_nil_iff, or_false] at hk
  rcases hk with rfl | rfl
  · exact own_ne_row ho r1 (by decide) _ hl rfl
  · exact own_ne_row ho r2 (by decide) _ hl rfl
theorem Stand.mods {w w' : World} {H k : Nat} {a : Int} {l : Value} {rs : List (Nat × Nat)} {F : List Nat} (h : Stand w H k a l rs) (hm : Mods F w w') (hF : ∀ b ∈ F, b < H ∨ w.heap.size ≤ b) : Stand w' H k a l rs := by
  refine ⟨h.len, own_mods h.own hm fun b hb hf => ?_, fun i p hp => ⟨(h.ring i p hp).1.mods hm fun b hb hf => ?_, (h.ring i p hp).2⟩, h.high⟩
  · have h1 := h.high b hb
    have h2 := own_lt h.own b hb
    rcases hF b hf with h3 | h3 <;> omega
  · have h1 := (h.ring i p hp).1.lt b hb
    have h2 := (h.ring i p hp).2
    simp only [List.mem_cons, List.mem_nil_iff, or_false] at hb
    rcases hF b hf with h3 | h3 <;> rcases hb with rfl | rfl <;> omega
theorem Stand.snoc {w w' : World} {H k g m : Nat} {a : Int} {l l' : Value} {rs : List (Nat × Nat)} (h : Stand w H k a l rs) (hr : RingA w g m 4 [a, (k : Int)]) (hg : H ≤ g) (hm2 : H ≤ m) (hm : Mods l.ownBlock.toList w w')
    (ho : w'.ownsRow 0 31 1 l' (k + 1) (ptrs rs ++ [.pointer (some ⟨g, 0, none⟩)])) (hH : ∀ b ∈ l'.ownBlock.toList, H ≤ b) : Stand w' H (k + 1) a l' (rs ++ [(g, m)]) := by
  refine ⟨by rw [List.length_append, h.len]; rfl, by rw [show ptrs (rs ++ [(g, m)]) = ptrs rs ++ [.pointer (some ⟨g, 0, none⟩)] by simp [ptrs]]; exact ho, fun i p hp => ?_, hH⟩
  by_cases hi : i < rs.length
  · rw [List.getElem?_append_left hi] at hp
    exact ⟨(h.ring i p hp).1.mods hm (ring_far (h.ring i p hp).1 h.own), (h.ring i p hp).2⟩
  · rw [List.getElem?_append_right (by omega)] at hp
    have hi2 : i - rs.length = 0 := by
      have := (List.getElem?_eq_some_iff.1 hp).1
      simp at this; omega
    rw [hi2] at hp
    injection hp with hp
    subst hp
    have hik : i = k := by have := h.len; omega
    subst hik
    exact ⟨hr.mods hm (ring_far hr h.own), hg, hm2⟩
theorem up_back {n : Nat} (h : 1 ≤ n) : puts (up n n) [(n : Int) - 1] = up n (n - 1) := by
  have e : (n : Int) - 1 = ((n - 1 : Nat) : Int) := by omega
  have hk : (up n n)[n - 1]? = some true := by
    simp only [up, List.getElem?_append, List.getElem?_replicate, List.length_replicate]
    rw [if_pos (by omega), if_pos (by omega)]
  have hl : lentAt (up n n) ((n - 1 : Nat) : Int) = true := (lentAt_iff _ _).2 ⟨by omega, by simpa using hk⟩
  have hu := up_set (N := n) (k := n - 1) (by omega)
  rw [show n - 1 + 1 = n by omega] at hu
  rw [e]
  show put1 (up n n) ((n - 1 : Nat) : Int) = _
  rw [(put1_yes _ _ hl).1, Int.toNat_natCast, ← hu, List.set_set]
  refine List.ext_getElem? fun i => ?_
  rw [List.getElem?_set]
  split
  case isFalse => rfl
  case isTrue hi =>
    subst hi
    rw [up_length (by omega), if_pos (by omega)]
    simp only [up, List.getElem?_append, List.getElem?_replicate, List.length_replicate]
    rw [if_neg (by omega), if_pos (by omega)]
/-- The two bytes that a Peek gives. -/
theorem two_at {w : World} {A : Option Addr} {a b : Int} (h : At w [] A [a, b]) : ∃ bl o, A = some ⟨bl, o, none⟩ ∧ w.cell? ⟨bl, o, none⟩ = some (.int .u8 a) ∧ w.cell? ⟨bl, o + 1, none⟩ = some (.int .u8 b) := by
  obtain ⟨bl, o, e, _, _, c0, _⟩ := h 0 a rfl
  obtain ⟨bl', o', e', _, _, c1, _⟩ := h 1 b rfl
  rw [e] at e'
  injection e' with e'
  injection e' with e1 e2
  subst e1 e2
  exact ⟨bl, o, e, c0, c1⟩
#print axioms up_back
end Go.Proofs.Ytdocifbkocbiiaa
