/- Plain functions of chapter 9's parameters. No program. -/
import Derived.Test.YtgkhelbpccehcaaGreatDoorQr9
namespace Go.Proofs.YtgkhelbpccehcaaGreatDoor
open Go.RowKit
set_option linter.unusedVariables false

def tw (l : List UInt8) : List UInt8 := l.takeWhile tokB
def dwt (l : List UInt8) : List UInt8 := l.dropWhile tokB
theorem tw_dwt (l : List UInt8) : tw l ++ dwt l = l := List.takeWhile_append_dropWhile
theorem tw_len (l : List UInt8) : (tw l).length ≤ l.length := by
  have := congrArg List.length (tw_dwt l); rw [List.length_append] at this; omega
theorem dwt_drop (l : List UInt8) : l.drop (tw l).length = dwt l := by
  conv => lhs; rw [← tw_dwt l]
  rw [List.drop_append_of_le_length (by rw [tw_dwt]; exact Nat.le_refl _)]
  simp [tw_dwt]
theorem tw_take (l : List UInt8) : l.take (tw l).length = tw l := by
  conv => lhs; rw [← tw_dwt l]
  rw [List.take_append_of_le_length (by rw [tw_dwt]; exact Nat.le_refl _)]
  simp [tw_dwt]
/-- The text at the beginning, and how many bytes it has. -/
def toqL (l : List UInt8) : List UInt8 × Nat := if tw l = [] then qans l else (tw l, (tw l).length)
abbrev PV := List UInt8 × List UInt8
/-- One parameter at the beginning, and what stands behind it. -/
def pStep (l : List UInt8) : Option (PV × List UInt8) :=
  match l with
  | [] => none
  | c :: r =>
    if c = 59 then
      if tw (tlL r) = [] then none
      else match dwt (tlL r) with
        | [] => some ((tw (tlL r), []), [])
        | e :: r3 =>
          if e = 61 then (if (toqL r3).2 = 0 then none else some ((tw (tlL r), (toqL r3).1), r3.drop (toqL r3).2))
          else some ((tw (tlL r), []), e :: r3)
    else none
def parsF : Nat → List UInt8 → Option (List PV)
  | 0, l => if tlL l = [] then some [] else none
  | f + 1, l => if tlL l = [] then some [] else (pStep (tlL l)).bind fun p => (parsF f p.2).map (p.1 :: ·)
def parsL (l : List UInt8) : Option (List PV) := parsF 16 l
theorem qans_le (l : List UInt8) : (qans l).2 ≤ l.length ∧ (qans l).1.length ≤ l.length := by
  unfold qans
  cases h : quotedL l with
  | none => simp
  | some p => obtain ⟨a, n⟩ := p; have := quoted_le h; simp; omega
theorem toq_le (l : List UInt8) : (toqL l).2 ≤ l.length ∧ (toqL l).1.length ≤ l.length := by
  unfold toqL; split
  · exact qans_le l
  · exact ⟨tw_len l, tw_len l⟩
theorem tlL_suffix (l : List UInt8) : ∃ pre, l = pre ++ tlL l := ⟨l.takeWhile blk, List.takeWhile_append_dropWhile.symm⟩
theorem pStep_suffix {l : List UInt8} {p : PV} {rest : List UInt8} (h : pStep l = some (p, rest)) : ∃ pre, l = pre ++ rest ∧ pre ≠ [] := by
  unfold pStep at h
  split at h
  · simp at h
  · rename_i c r
    split at h
    · obtain ⟨pre0, hpre0⟩ := tlL_suffix r
      have htd := tw_dwt (tlL r)
      split at h
      · simp at h
      · split at h
        · rename_i hd
          simp at h
          exact ⟨c :: r, by rw [h.2]; simp, by simp⟩
        · rename_i e r3 hd
          split at h
          · split at h
            · simp at h
            · simp only [Option.some.injEq, Prod.mk.injEq] at h
              refine ⟨c :: (pre0 ++ (tw (tlL r) ++ e :: r3.take (toqL r3).2)), ?_, by simp⟩
              rw [← h.2]
              conv => lhs; rw [hpre0, ← htd, hd]
              simp [List.take_append_drop]
          · simp only [Option.some.injEq, Prod.mk.injEq] at h
            refine ⟨c :: (pre0 ++ tw (tlL r)), ?_, by simp⟩
            rw [← h.2]
            conv => lhs; rw [hpre0, ← htd, hd]
            simp
    · simp at h
theorem pStep_count {l : List UInt8} {p : PV} {rest : List UInt8} (h : pStep l = some (p, rest)) : 1 ≤ l.length - rest.length ∧ rest.length ≤ l.length ∧ l.drop (l.length - rest.length) = rest := by
  obtain ⟨pre, rfl, hne⟩ := pStep_suffix h
  have : pre.length ≠ 0 := fun e => hne (List.eq_nil_of_length_eq_zero e)
  rw [List.length_append]
  refine ⟨by omega, by omega, ?_⟩
  rw [show pre.length + rest.length - rest.length = pre.length by omega]; simp
theorem tlL_idem (l : List UInt8) : tlL (tlL l) = tlL l := by
  unfold tlL
  induction l with
  | nil => rfl
  | cons c r ih =>
    by_cases h : blk c = true
    · simp [h, ih]
    · simp [h]
theorem tlL_head {c : UInt8} {r l : List UInt8} (h : tlL l = c :: r) : blk c = false := by
  unfold tlL at h
  induction l with
  | nil => simp at h
  | cons d t ih =>
    by_cases hd : blk d = true
    · rw [List.dropWhile_cons, if_pos hd] at h; exact ih h
    · rw [List.dropWhile_cons, if_neg hd] at h
      injection h with h1 h2
      subst h1; simpa using hd
theorem parsF_tl (f : Nat) (l : List UInt8) : parsF f (tlL l) = parsF f l := by
  cases f <;> simp only [parsF, tlL_idem]
theorem pars_end {f : Nat} {l : List UInt8} (h : tlL l = []) : parsF f l = some [] := by cases f <;> simp [parsF, h]
theorem pars_full {l : List UInt8} (h : tlL l ≠ []) : parsF 0 l = none := by simp [parsF, h]
theorem pars_bad {f : Nat} {l : List UInt8} (h : tlL l ≠ []) (hp : pStep (tlL l) = none) : parsF f l = none := by cases f <;> simp [parsF, h, hp]
theorem pars_one {f : Nat} {l : List UInt8} {p : PV} {rest : List UInt8} (h : tlL l ≠ []) (hp : pStep (tlL l) = some (p, rest)) : parsF (f + 1) l = (parsF f rest).map (p :: ·) := by simp [parsF, h, hp]
theorem pars_len : ∀ (f : Nat) (l : List UInt8) (ps : List PV), parsF f l = some ps → ps.length ≤ f
  | 0, l, ps, h => by simp only [parsF] at h; split at h <;> simp at h; subst h; simp
  | f + 1, l, ps, h => by
    simp only [parsF] at h
    split at h
    · simp at h; subst h; simp
    · cases hp : pStep (tlL l) with
      | none => rw [hp] at h; simp at h
      | some q =>
        rw [hp] at h
        simp only [Option.bind_some] at h
        obtain ⟨qs, hq, rfl⟩ := Option.map_eq_some_iff.1 h
        have := pars_len f _ _ hq
        simp only [List.length_cons]; omega

/-! ### Names and values, written out -/
def escL : List UInt8 → List UInt8
  | [] => []
  | c :: r => if c = 34 ∨ c = 92 then 92 :: c :: escL r else c :: escL r
def encP (p : PV) : List UInt8 := [32, 59, 32] ++ (p.1 ++ ([61] ++ (34 :: escL p.2 ++ [34])))
theorem qscan_esc : ∀ (v rest : List UInt8), qscan (escL v ++ 34 :: rest) = if valL v = true then some (v, (escL v).length + 1) else none
  | [], rest => by simp [escL, qscan_34, valL]
  | c :: r, rest => by
    have ih := qscan_esc r rest
    simp only [escL]
    by_cases h : c = 34 ∨ c = 92
    · rw [if_pos h]
      simp only [List.cons_append]
      rw [qscan_92, ih, show valL (c :: r) = (valB c && valL r) by simp [valL]]
      cases hc : valB c <;> cases hr : valL r <;> simp
    · rw [if_neg h]
      simp only [List.cons_append]
      rw [qscan_on (fun e => h (Or.inl e)) (fun e => h (Or.inr e)), ih, show valL (c :: r) = (valB c && valL r) by simp [valL]]
      cases hc : valB c <;> cases hr : valL r <;> simp
theorem tok_notblk {c : UInt8} (h : tokB c = true) : blk c = false := by
  have := by_byte (fun c => !tokB c || !blk c) (by decide +kernel) c
  rw [h] at this; simpa using this
theorem tw_app {n r : List UInt8} {e : UInt8} (h : n.all tokB = true) (he : tokB e = false) : tw (n ++ e :: r) = n ∧ dwt (n ++ e :: r) = e :: r := by
  unfold tw dwt
  induction n with
  | nil => simp [he]
  | cons c t ih =>
    simp only [List.all_cons, Bool.and_eq_true] at h
    have := ih h.2
    simp only [List.cons_append, List.takeWhile_cons, List.dropWhile_cons, h.1, if_true]
    exact ⟨by rw [this.1], this.2⟩
theorem pStep_enc {p : PV} (hn : tokL p.1 = true) (hv : valL p.2 = true) (rest : List UInt8) : tlL (encP p ++ rest) ≠ [] ∧ pStep (tlL (encP p ++ rest)) = some (p, rest) := by
  obtain ⟨n, v⟩ := p
  have hne : n ≠ [] ∧ n.all tokB = true := by
    unfold tokL at hn
    simp only [Bool.and_eq_true, Bool.not_eq_true'] at hn
    exact ⟨fun e => by rw [e] at hn; simp at hn, hn.1⟩
  have e1 : tlL (encP (n, v) ++ rest) = 59 :: 32 :: (n ++ 61 :: 34 :: (escL v ++ 34 :: rest)) := by
    unfold encP tlL
    simp [blk]
  have e2 : tlL (32 :: (n ++ 61 :: 34 :: (escL v ++ 34 :: rest))) = n ++ 61 :: 34 :: (escL v ++ 34 :: rest) := by
    cases n with
    | nil => exact absurd rfl hne.1
    | cons c t =>
      have hc := hne.2
      simp only [List.all_cons, Bool.and_eq_true] at hc
      have := tok_notblk hc.1
      unfold tlL
      rw [List.dropWhile_cons, if_pos (by decide), List.cons_append, List.dropWhile_cons, if_neg (by rw [this]; simp)]
  obtain ⟨e3, e4⟩ := tw_app (n := n) (r := 34 :: (escL v ++ 34 :: rest)) (e := 61) hne.2 (by decide +kernel)
  have e5 : toqL (34 :: (escL v ++ 34 :: rest)) = (v, (escL v).length + 2) := by
    have h34 : tw (34 :: (escL v ++ 34 :: rest)) = [] := by unfold tw; rw [List.takeWhile_cons, if_neg (by decide +kernel)]
    unfold toqL qans
    rw [if_pos h34, quoted_yes, qscan_esc, if_pos hv]; rfl
  rw [e1]
  refine ⟨by simp, ?_⟩
  unfold pStep
  simp only [if_true]
  rw [e2, e3, e4]
  simp only [if_neg hne.1, if_true, e5]
  rw [if_neg (by omega)]
  congr 2
  rw [List.drop_succ_cons, show (escL v).length + 1 = (escL v).length + 1 from rfl]
  rw [show escL v ++ 34 :: rest = (escL v ++ [34]) ++ rest by simp, List.drop_append_of_le_length (by simp)]
  simp
theorem pars_enc : ∀ (ps : List PV) (f : Nat), ps.length ≤ f → (∀ p ∈ ps, tokL p.1 = true ∧ valL p.2 = true) → parsF f (ps.flatMap encP) = some ps
  | [], f, _, _ => pars_end rfl
  | p :: r, 0, h, _ => by simp at h
  | p :: r, f + 1, h, hp => by
    obtain ⟨h1, h2⟩ := pStep_enc (hp p (by simp)).1 (hp p (by simp)).2 (r.flatMap encP)
    rw [List.flatMap_cons, pars_one h1 h2, pars_enc r f (by simp at h; omega) (fun q hq => hp q (by simp [hq]))]
    rfl
end Go.Proofs.YtgkhelbpccehcaaGreatDoor
