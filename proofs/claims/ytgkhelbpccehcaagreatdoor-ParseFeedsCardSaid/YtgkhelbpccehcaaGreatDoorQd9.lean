/- Plain functions of chapter 9's quoted texts. No program. -/
import Derived.Test.YtgkhelbpccehcaaGreatDoorVal
namespace Go.Proofs.YtgkhelbpccehcaaGreatDoor
open Go.RowKit
set_option linter.unusedVariables false

/-- What stands up to the quote that ends a text, and how many bytes that has with the quote. -/
def qscan : List UInt8 → Option (List UInt8 × Nat)
  | [] => none
  | c :: r =>
    if c = 34 then some ([], 1)
    else if c = 92 then
      match r with
      | [] => none
      | d :: r' => if valB d = true then (qscan r').map (fun p => (d :: p.1, p.2 + 2)) else none
    else if valB c = true then (qscan r).map (fun p => (c :: p.1, p.2 + 1)) else none
def quotedL : List UInt8 → Option (List UInt8 × Nat)
  | [] => none
  | c :: r => if c = 34 then (qscan r).map (fun p => (p.1, p.2 + 1)) else none
/-- Where the ending quote stands, whatever the bytes are. -/
def qlen : List UInt8 → Option Nat
  | [] => none
  | c :: r =>
    if c = 34 then some 1
    else if c = 92 then
      match r with
      | [] => none
      | _ :: r' => (qlen r').map (· + 2)
    else (qlen r).map (· + 1)
/-- What stands between two quotes. -/
def plainL : List UInt8 → List UInt8
  | [] => []
  | c :: r =>
    if c = 92 then
      match r with
      | [] => []
      | d :: r' => d :: plainL r'
    else c :: plainL r
/-- A byte stands behind each sign that takes the next one as it is. -/
def okEsc : List UInt8 → Bool
  | [] => true
  | c :: r =>
    if c = 92 then
      match r with
      | [] => false
      | _ :: r' => okEsc r'
    else okEsc r
/-- Induction by one byte, or by two. -/
theorem two_rec {M : List UInt8 → Prop} (h0 : M []) (h1 : ∀ c, M [c]) (h2 : ∀ c d r, M r → M (d :: r) → M (c :: d :: r)) : ∀ l, M l
  | [] => h0
  | [c] => h1 c
  | c :: d :: r => h2 c d r (two_rec h0 h1 h2 r) (two_rec h0 h1 h2 (d :: r))
theorem qlen_le : ∀ (l : List UInt8) (n : Nat), qlen l = some n → 1 ≤ n ∧ n ≤ l.length := by
  refine two_rec (fun n h => by simp [qlen] at h) (fun c n h => ?_) fun c d r ih1 ih2 n h => ?_
  · unfold qlen at h
    split at h
    · simp at h; subst h; simp
    · split at h
      · simp at h
      · simp [qlen] at h
  · unfold qlen at h
    split at h
    · simp at h; subst h; simp
    · split at h
      · simp at h
        obtain ⟨m, hm, rfl⟩ := h
        have := ih1 m hm; simp only [List.length_cons]; omega
      · simp at h
        obtain ⟨m, hm, rfl⟩ := h
        have := ih2 m hm; simp only [List.length_cons] at *; omega
theorem qlen_esc : ∀ (l : List UInt8) (n : Nat), qlen l = some n → okEsc (l.take (n - 1)) = true := by
  refine two_rec (fun n h => by simp [qlen] at h) (fun c n h => ?_) fun c d r ih1 ih2 n h => ?_
  · unfold qlen at h
    split at h
    · simp at h; subst h; rfl
    · split at h
      · simp at h
      · simp [qlen] at h
  · have hle := qlen_le _ _ h
    unfold qlen at h
    split at h
    · simp at h; subst h; rfl
    · rename_i hq
      split at h
      · rename_i hb
        simp at h
        obtain ⟨m, hm, rfl⟩ := h
        have h1 := (qlen_le _ _ hm).1
        rw [show m + 2 - 1 = (m - 1) + 1 + 1 by omega, List.take_succ_cons, List.take_succ_cons]
        unfold okEsc; rw [if_pos hb]; exact ih1 m hm
      · rename_i hb
        simp at h
        obtain ⟨m, hm, rfl⟩ := h
        have h1 := (qlen_le _ _ hm).1
        rw [show m + 1 - 1 = (m - 1) + 1 by omega, List.take_succ_cons]
        unfold okEsc; rw [if_neg hb]; exact ih2 m hm
theorem val_92 : valB 92 = true := by decide
/-- The two ways are one. -/
theorem qscan_eq : ∀ (l : List UInt8), qscan l = (qlen l).bind fun n => if valL (l.take (n - 1)) = true then some (plainL (l.take (n - 1)), n) else none := by
  refine two_rec (by simp [qscan, qlen]) (fun c => ?_) fun c d r ih1 ih2 => ?_
  · unfold qscan qlen
    split
    · simp [valL, plainL]
    · split
      · rfl
      · simp [qscan, qlen]
  · unfold qscan qlen
    split
    · simp [valL, plainL]
    · rename_i hq
      split
      · rename_i hb
        subst hb
        simp only
        rw [ih1]
        cases hm : qlen r with
        | none => simp
        | some m =>
          have h1 := (qlen_le _ _ hm).1
          simp only [Option.map_some, Option.bind_some]
          rw [show m + 2 - 1 = (m - 1) + 1 + 1 by omega, List.take_succ_cons, List.take_succ_cons]
          obtain ⟨T, hT⟩ : ∃ T, T = r.take (m - 1) := ⟨_, rfl⟩
          rw [← hT, show valL (92 :: d :: T) = (valB d && valL T) by simp [valL, val_92], show plainL (92 :: d :: T) = d :: plainL T from rfl]
          cases hd : valB d <;> cases hv : valL T <;> simp
      · rename_i hb
        rw [ih2]
        cases hm : qlen (d :: r) with
        | none => simp
        | some m =>
          have h1 := (qlen_le _ _ hm).1
          simp only [Option.map_some, Option.bind_some]
          rw [show m + 1 - 1 = (m - 1) + 1 by omega, List.take_succ_cons]
          obtain ⟨T, hT⟩ : ∃ T, T = (d :: r).take (m - 1) := ⟨_, rfl⟩
          rw [← hT, show valL (c :: T) = (valB c && valL T) by simp [valL], show plainL (c :: T) = c :: plainL T by cases T <;> simp [plainL, hb]]
          cases hd : valB c <;> cases hv : valL T <;> simp
/-- What ends at n ends there whatever stands behind, and does not end ahead of it. -/
theorem qlen_take : ∀ (l : List UInt8) (n m : Nat), qlen l = some n → qlen (l.take m) = if n ≤ m then some n else none := by
  refine two_rec (fun n m h => by simp [qlen] at h) (fun c n m h => ?_) fun c d r ih1 ih2 n m h => ?_
  · have hc : c = 34 ∧ n = 1 := by
      unfold qlen at h
      split at h
      · rename_i hq; simp at h; exact ⟨hq, h.symm⟩
      · split at h
        · simp at h
        · simp [qlen] at h
    obtain ⟨rfl, rfl⟩ := hc
    cases m with
    | zero => simp [qlen]
    | succ m => simp [qlen]
  · cases m with
    | zero => rw [List.take_zero, if_neg (by have := (qlen_le _ _ h).1; omega)]; rfl
    | succ m =>
      rw [List.take_succ_cons]
      unfold qlen at h
      split at h
      · rename_i hq
        simp at h; subst h
        rw [if_pos (by omega)]; unfold qlen; rw [if_pos hq]
      · rename_i hq
        split at h
        · rename_i hb
          simp at h
          obtain ⟨k, hk, rfl⟩ := h
          cases m with
          | zero => rw [List.take_zero, if_neg (by omega)]; unfold qlen; rw [if_neg hq, if_pos hb]
          | succ m =>
            rw [List.take_succ_cons]
            unfold qlen; rw [if_neg hq, if_pos hb]
            simp only
            rw [ih1 k m hk]
            by_cases hkm : k ≤ m
            · rw [if_pos hkm, if_pos (by omega)]; rfl
            · rw [if_neg hkm, if_neg (by omega)]; rfl
        · rename_i hb
          simp at h
          obtain ⟨k, hk, rfl⟩ := h
          unfold qlen; rw [if_neg hq, if_neg hb, ih2 k m hk]
          by_cases hkm : k ≤ m
          · rw [if_pos hkm, if_pos (by omega)]; rfl
          · rw [if_neg hkm, if_neg (by omega)]; rfl
theorem qscan_take {l : List UInt8} {b : List UInt8} {n : Nat} (h : qscan l = some (b, n)) (m : Nat) : qscan (l.take m) = if n ≤ m then some (b, n) else none := by
  rw [qscan_eq] at h
  cases hq : qlen l with
  | none => rw [hq] at h; simp at h
  | some k =>
    rw [hq] at h
    simp only [Option.bind_some] at h
    split at h
    · rename_i hv
      simp only [Option.some.injEq, Prod.mk.injEq] at h
      obtain ⟨rfl, rfl⟩ := h
      rw [qscan_eq, qlen_take l _ m hq]
      by_cases hkm : k ≤ m
      · rw [if_pos hkm, if_pos hkm]
        simp only [Option.bind_some]
        rw [List.take_take, show min (k - 1) m = k - 1 by omega, if_pos hv]
      · rw [if_neg hkm, if_neg hkm]; rfl
    · simp at h
theorem qscan_le {l : List UInt8} {b : List UInt8} {n : Nat} (h : qscan l = some (b, n)) : 1 ≤ n ∧ n ≤ l.length ∧ b.length ≤ l.length := by
  rw [qscan_eq] at h
  cases hq : qlen l with
  | none => rw [hq] at h; simp at h
  | some k =>
    rw [hq] at h
    simp only [Option.bind_some] at h
    split at h
    · simp only [Option.some.injEq, Prod.mk.injEq] at h
      obtain ⟨rfl, rfl⟩ := h
      have h1 := qlen_le _ _ hq
      have h2 : ∀ l : List UInt8, (plainL l).length ≤ l.length := by
        refine two_rec (by simp [plainL]) (fun c => ?_) fun c d r ih1 ih2 => ?_
        · unfold plainL; split <;> simp [plainL]
        · unfold plainL; split
          · simp only [List.length_cons]; omega
          · simp only [List.length_cons] at *; omega
      have h3 := h2 (l.take (k - 1))
      rw [List.length_take] at h3
      omega
    · simp at h
theorem quoted_yes (r : List UInt8) : quotedL (34 :: r) = (qscan r).map (fun p => (p.1, p.2 + 1)) := by simp [quotedL]
theorem quoted_no {c : UInt8} (h : c ≠ 34) (r : List UInt8) : quotedL (c :: r) = none := by simp [quotedL, h]
theorem quoted_take {l : List UInt8} {b : List UInt8} {n : Nat} (h : quotedL l = some (b, n)) (m : Nat) : quotedL (l.take m) = if n ≤ m then some (b, n) else none := by
  cases l with
  | nil => simp [quotedL] at h
  | cons c r =>
    by_cases hq : c = 34
    · subst hq
      rw [quoted_yes] at h
      obtain ⟨⟨b', k⟩, hk, e⟩ := Option.map_eq_some_iff.1 h
      simp only [Prod.mk.injEq] at e
      obtain ⟨rfl, rfl⟩ := e
      cases m with
      | zero => rw [List.take_zero, if_neg (by omega)]; rfl
      | succ m =>
        rw [List.take_succ_cons, quoted_yes, qscan_take hk m]
        by_cases hkm : k ≤ m
        · rw [if_pos hkm, if_pos (by omega)]; rfl
        · rw [if_neg hkm, if_neg (by omega)]; rfl
    · rw [quoted_no hq] at h; cases h
theorem quoted_le {l : List UInt8} {b : List UInt8} {n : Nat} (h : quotedL l = some (b, n)) : 2 ≤ n ∧ n ≤ l.length ∧ b.length ≤ l.length := by
  cases l with
  | nil => simp [quotedL] at h
  | cons c r =>
    by_cases hq : c = 34
    · subst hq
      rw [quoted_yes] at h
      obtain ⟨⟨b', k⟩, hk, e⟩ := Option.map_eq_some_iff.1 h
      simp only [Prod.mk.injEq] at e
      obtain ⟨rfl, rfl⟩ := e
      have := qscan_le hk
      simp only [List.length_cons]; omega
    · rw [quoted_no hq] at h; cases h
end Go.Proofs.YtgkhelbpccehcaaGreatDoor
