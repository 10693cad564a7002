/- Plain mathematics of one slot that is used again and again. -/
import Derived.Test.YtdkcdljhpopakaaDoorKnownS
namespace Go.Proofs.YtdkcdljhpopakaaDoor
open Go.RowKit
set_option linter.unusedSimpArgs false
set_option linter.unusedVariables false

def Slb.Idle (S : Slb) (i : Nat) : Prop := S.lim = 1 ∧ ((i = 0 ∧ S.us = [] ∧ S.gs = []) ∨ (S.us = [false] ∧ S.gs = [i]))
def Slb.Busy (S : Slb) (i : Nat) : Prop := S.lim = 1 ∧ S.us = [true] ∧ S.gs = [i]
theorem Slb.Idle.cnt {S : Slb} {i : Nat} (h : S.Idle i) : S.cnt = 0 := by
  unfold Slb.cnt
  rcases h.2 with ⟨_, h, _⟩ | ⟨h, _⟩ <;> rw [h] <;> rfl
theorem Slb.Idle.put {S : Slb} {i : Nat} (h : S.Idle i) (v : Int) : S.least = 0 ∧ S.gen = i + 1 ∧ (S.put v).Busy (i + 1) := by
  obtain ⟨lim, us, gs, vs⟩ := S
  obtain ⟨h1, h2⟩ := h
  simp only at h1 h2
  subst h1
  rcases h2 with ⟨rfl, rfl, rfl⟩ | ⟨rfl, rfl⟩
  · exact ⟨rfl, rfl, rfl, rfl, rfl⟩
  · exact ⟨rfl, rfl, rfl, rfl, rfl⟩
theorem Slb.Busy.cnt {S : Slb} {i : Nat} (h : S.Busy i) : S.cnt = 1 := by
  unfold Slb.cnt; rw [h.2.1]; rfl
theorem Slb.Busy.is {S : Slb} {i : Nat} (h : S.Busy i) (g : Int) : S.is 0 g = decide ((i : Int) = g) := by
  simp [Slb.is, h.2.1, h.2.2]
theorem Slb.Busy.take {S : Slb} {i : Nat} (h : S.Busy i) : (S.takes [(0, (i : Int))]).Idle i ∧ S.taken [(0, (i : Int))] = 1 := by
  have hi := h.is (i : Int)
  rw [decide_eq_true rfl] at hi
  refine ⟨?_, ?_⟩
  · show (S.take1 (0, (i : Int))).Idle i
    unfold Slb.take1
    simp only [hi]
    exact ⟨h.1, .inr ⟨by simp [Slb.take, h.2.1], h.2.2⟩⟩
  · show (S.is 0 (i : Int)).toNat + 0 = 1
    rw [hi]; rfl
theorem Slb.Idle.is {S : Slb} {i : Nat} (h : S.Idle i) (a b : Int) : S.is a b = false := by
  have : S.us.getD a.toNat false = false := by
    rcases h.2 with ⟨_, h, _⟩ | ⟨h, _⟩
    · rw [h]; simp
    · rw [h]; cases a.toNat <;> simp
  unfold Slb.is
  rw [this]; simp
theorem Slb.Idle.takes {S : Slb} {i : Nat} (h : S.Idle i) (l : List (Int × Int)) : S.taken l = 0 := by
  induction l with
  | nil => rfl
  | cons p l ih =>
    have e : S.take1 p = S := by unfold Slb.take1; simp only [h.is]; rfl
    simp only [Slb.taken, h.is, e, ih]; rfl
/-- The first twenty handles. -/
def oldl (i : Nat) : List (Int × Int) := (List.range (min i 20)).map fun (g : Nat) => ((0 : Int), ((g + 1 : Nat) : Int))
theorem oldl_len (i : Nat) : (oldl i).length = min i 20 := by simp [oldl]
theorem oldl_at (i j : Nat) (h : j < min i 20) : (oldl i)[j]? = some ((0 : Int), ((j + 1 : Nat) : Int)) := by simp [oldl, h]
theorem oldl_lt (i : Nat) (h : i < 20) : oldl (i + 1) = oldl i ++ [((0 : Int), ((i + 1 : Nat) : Int))] := by
  simp only [oldl]
  rw [show min (i + 1) 20 = i + 1 by omega, show min i 20 = i by omega, List.range_succ]
  simp
theorem oldl_ge (i : Nat) (h : 20 ≤ i) : oldl (i + 1) = oldl i := by
  simp only [oldl]
  rw [show min (i + 1) 20 = 20 by omega, show min i 20 = 20 by omega]
theorem own_pairs_at {w : World} {t : TypeId} {A : Option Addr} {n c j : Nat} {l : List (Int × Int)} {p : Int × Int} (h : OwnPairs w t (.slice A n c) l) (hj : l[j]? = some p) :
    ∃ ob, A = some ⟨ob, 0, none⟩ ∧ n = l.length ∧ w.cell? ⟨ob, j * 2, none⟩ = some (.int .i64 p.1) ∧ w.cell? ⟨ob, j * 2 + 1, none⟩ = some (.int .i64 p.2) := by
  have hl : j < l.length := (List.getElem?_eq_some_iff.1 hj).1
  obtain ⟨ob, cap, e, _, _, _⟩ := own_some h (by omega)
  injection e with e1 e2 e3
  subst e1 e2 e3
  have hf := flat_at l j p hj
  exact ⟨ob, rfl, rfl, by rw [World.ownsRow.cellAt h _ (by omega)]; exact hf.1, by rw [World.ownsRow.cellAt h _ (by omega)]; exact hf.2⟩
theorem own_pairs_slice {w : World} {t : TypeId} {v : Value} {l : List (Int × Int)} (h : OwnPairs w t v l) : ∃ A c, v = .slice A l.length c ∧ l.length ≤ c ∧ c ≤ maxLen := own_slice h
end Go.Proofs.YtdkcdljhpopakaaDoor
