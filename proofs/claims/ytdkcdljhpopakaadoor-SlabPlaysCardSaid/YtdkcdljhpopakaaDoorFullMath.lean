/- Plain mathematics of a slab that is filled, and then freed here and there. -/
import Derived.Test.YtdkcdljhpopakaaDoorKnownS
namespace Go.Proofs.YtdkcdljhpopakaaDoor
open Go.RowKit
set_option linter.unusedSimpArgs false

/-- The first k slots are in use, each for the first time. -/
def Slb.Full (S : Slb) (n k : Nat) : Prop := S.lim = n ∧ S.us = List.replicate k true ∧ S.gs = List.replicate k 1
theorem findIdx_full (k : Nat) : (List.replicate k true).findIdx (fun b => !b) = k := by
  have : (List.replicate k true).findIdx (fun b => !b) = (List.replicate k true).length := by
    rw [List.findIdx_eq_length]
    intro b hb
    have := List.eq_of_mem_replicate hb
    subst this; rfl
  simpa using this
theorem Slb.Full.least {S : Slb} {n k : Nat} (h : S.Full n k) : S.least = k := by
  unfold Slb.least; rw [h.2.1]; exact findIdx_full k
theorem Slb.Full.cnt {S : Slb} {n k : Nat} (h : S.Full n k) : S.cnt = k := by
  unfold Slb.cnt; rw [h.2.1]; simp
theorem Slb.Full.gen {S : Slb} {n k : Nat} (h : S.Full n k) : S.gen = 1 := by
  unfold Slb.gen; rw [h.least, h.2.2, List.getD_eq_getElem?_getD, List.getElem?_eq_none (by simp)]; rfl
theorem Slb.Full.put {S : Slb} {n k : Nat} (h : S.Full n k) (v : Int) : (S.put v).Full n (k + 1) := by
  have hl : S.least = S.us.length := by rw [h.least, h.2.1]; simp
  unfold Slb.put
  rw [if_pos hl]
  refine ⟨h.1, ?_, ?_⟩
  · simp only; rw [h.2.1, ← List.replicate_succ']
  · simp only; rw [h.2.2, ← List.replicate_succ']
theorem Slb.new_full (n : Nat) : (Slb.new n).Full n 0 := ⟨rfl, rfl, rfl⟩
/-- All slots were used once. -/
def Slb.Once (S : Slb) (n : Nat) : Prop := S.lim = n ∧ S.us.length = n ∧ S.gs = List.replicate n 1
theorem Slb.Full.once {S : Slb} {n : Nat} (h : S.Full n n) : S.Once n := ⟨h.1, by rw [h.2.1]; simp, h.2.2⟩
theorem least_iff {S : Slb} {m : Nat} (hm : m ≤ S.us.length) (h1 : ∀ i, i < m → S.us.getD i false = true) (h2 : m < S.us.length → S.us.getD m false = false) : S.least = m := by
  rcases Nat.lt_trichotomy S.least m with h | h | h
  · have := h1 _ h; rw [S.least_getD] at this; cases this
  · exact h
  · have h3 := S.below_least _ h
    have := S.least_le
    rw [h2 (by omega)] at h3; cases h3
theorem Slb.Once.take {S : Slb} {n k : Nat} (h : S.Once n) (hk : k < n) : (S.takes [((k : Int), 1)]).Once n ∧ (S.takes [((k : Int), 1)]).least = min S.least k := by
  have hg : S.gs.getD k 0 = 1 := by rw [h.2.2, List.getD_eq_getElem?_getD, List.getElem?_replicate, if_pos hk]; rfl
  have hi : S.is (k : Int) 1 = S.us.getD k false := by simp [Slb.is, ← List.getD_eq_getElem?_getD, hg]
  have e : S.takes [((k : Int), 1)] = if S.us.getD k false = true then S.take k else S := by
    show S.take1 ((k : Int), 1) = _
    unfold Slb.take1
    simp only [hi]
    rfl
  rw [e]
  by_cases hu : S.us.getD k false = true
  · rw [if_pos hu]
    refine ⟨⟨h.1, by simp [Slb.take, h.2.1], h.2.2⟩, ?_⟩
    have hll := S.least_le
    have hlen : (S.take k).us.length = S.us.length := by simp [Slb.take]
    have h21 := h.2.1
    refine least_iff (by rw [hlen]; omega) (fun i hi => ?_) (fun hi => ?_)
    · simp only [Slb.take, getD_set_bool]
      rw [if_neg (by omega)]
      exact S.below_least i (by omega)
    · simp only [Slb.take, getD_set_bool]
      by_cases e : k = min S.least k
      · rw [if_pos ⟨e, by omega⟩]
      · rw [if_neg (by omega), show min S.least k = S.least by omega]
        exact S.least_getD
  · rw [if_neg hu]
    refine ⟨h, ?_⟩
    have : ¬ k < S.least := fun hlt => hu (S.below_least k hlt)
    omega
theorem cnt_of_least {S : Slb} (h : S.least < S.us.length) : S.cnt < S.us.length := by
  have h1 := S.cnt_le
  rcases Nat.lt_or_ge S.cnt S.us.length with h2 | h2
  · exact h2
  · have h3 : S.cnt = S.us.length := by omega
    have h4 := List.count_eq_length.1 h3 (S.us[S.least]) (List.getElem_mem h)
    rw [S.least_not h] at h4
    cases h4
theorem Slb.Once.gen {S : Slb} {n : Nat} (h : S.Once n) (hl : S.least < n) : S.gen = 2 := by
  unfold Slb.gen
  rw [h.2.2, List.getD_eq_getElem?_getD, List.getElem?_replicate, if_pos hl]; rfl
/-- The handles that were given. -/
def ones (k : Nat) : List (Int × Int) := (List.range k).map fun (i : Nat) => ((i : Int), (1 : Int))
theorem ones_succ (k : Nat) : ones (k + 1) = ones k ++ [((k : Int), 1)] := by simp [ones, List.range_succ]
theorem ones_len (k : Nat) : (ones k).length = k := by simp [ones]
theorem ones_at (k i : Nat) (h : i < k) : (ones k)[i]? = some ((i : Int), 1) := by simp [ones, h]
theorem and65535 (a : Int) : 0 ≤ bits BinOp.and IntKind.i64 a 65535 ∧ bits BinOp.and IntKind.i64 a 65535 ≤ 65535 := by
  have e : bits BinOp.and IntKind.i64 a 65535 = IntKind.i64.wrap ((BitVec.ofInt 64 a &&& BitVec.ofInt 64 65535).toNat : Int) := rfl
  have h : (BitVec.ofInt 64 a &&& BitVec.ofInt 64 65535).toNat ≤ 65535 := by
    rw [BitVec.toNat_and]
    exact Nat.le_trans Nat.and_le_right (by decide)
  rw [e, IntKind.wrap_i64]
  omega
end Go.Proofs.YtdkcdljhpopakaaDoor
