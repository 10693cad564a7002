/- Plain functions of chapter 9: parts at commas, tokens of parts, whether a token is among them. No program. -/
import Derived.Test.YtgkhelbpccehcaaGreatDoorTrim
import Derived.Test.YtgkhelbpccehcaaGreatDoorVal
import Derived.Test.YtgkhelbpccehcaaGreatDoorTokR
namespace Go.Proofs.YtgkhelbpccehcaaGreatDoor
open Go.RowKit
set_option linter.unusedVariables false

/-- The parts of a text at its commas; cur: what stands ahead. -/
def splitAcc : List UInt8 → List UInt8 → List (List UInt8)
  | cur, [] => [cur]
  | cur, c :: r => if c = 44 then cur :: splitAcc [] r else splitAcc (cur ++ [c]) r
def splitC (l : List UInt8) : List (List UInt8) := splitAcc [] l
/-- The parts that a comma ends. -/
def cutAcc : List UInt8 → List UInt8 → List (List UInt8)
  | cur, [] => []
  | cur, c :: r => if c = 44 then cur :: cutAcc [] r else cutAcc (cur ++ [c]) r
theorem cut_split : ∀ (l cur : List UInt8), cutAcc cur (l ++ [44]) = splitAcc cur l
  | [], cur => by simp [cutAcc, splitAcc]
  | c :: r, cur => by
    simp only [List.cons_append, cutAcc, splitAcc]
    by_cases h : c = 44
    · rw [if_pos h, if_pos h, cut_split]
    · rw [if_neg h, if_neg h, cut_split]
theorem splitAcc_no : ∀ (l cur : List UInt8), (∀ x ∈ l, x ≠ 44) → splitAcc cur l = [cur ++ l]
  | [], cur, _ => by simp [splitAcc]
  | c :: r, cur, h => by
    simp only [splitAcc]
    rw [if_neg (h c (by simp)), splitAcc_no r _ (fun x hx => h x (by simp [hx]))]
    simp
theorem splitAcc_at : ∀ (a b cur : List UInt8), (∀ x ∈ a, x ≠ 44) → splitAcc cur (a ++ 44 :: b) = (cur ++ a) :: splitC b
  | [], b, cur, _ => by simp [splitAcc, splitC]
  | c :: r, b, cur, h => by
    simp only [List.cons_append, splitAcc]
    rw [if_neg (h c (by simp)), splitAcc_at r b _ (fun x hx => h x (by simp [hx]))]
    simp
theorem splitAcc_join : ∀ (a b cur : List UInt8), splitAcc cur (a ++ 44 :: b) = splitAcc cur a ++ splitC b
  | [], b, cur => by simp [splitAcc, splitC]
  | c :: r, b, cur => by
    simp only [List.cons_append, splitAcc]
    by_cases h : c = 44
    · rw [if_pos h, if_pos h, splitAcc_join r b []]; simp
    · rw [if_neg h, if_neg h, splitAcc_join r b]
theorem split_join (a b : List UInt8) : splitC (a ++ 44 :: b) = splitC a ++ splitC b := splitAcc_join a b []
theorem splitAcc_len : ∀ (l cur : List UInt8), (splitAcc cur l).length ≤ l.length + 1
  | [], cur => by simp [splitAcc]
  | c :: r, cur => by
    simp only [splitAcc]
    split
    · have := splitAcc_len r []; simp only [List.length_cons]; omega
    · have := splitAcc_len r (cur ++ [c]); simp only [List.length_cons]; omega
theorem splitC_len (l : List UInt8) : (splitC l).length ≤ l.length + 1 := splitAcc_len l []

/-- What one part gives: nothing, a token in small letters, or it is none. -/
def tokP (p : List UInt8) : Option (List (List UInt8)) :=
  if trimL p = [] then some [] else if tokL (trimL p) = true then some [lowL (trimL p)] else none
def tokO : List (List UInt8) → Option (List (List UInt8))
  | [] => some []
  | p :: r => (tokP p).bind fun x => (tokO r).map (x ++ ·)
theorem tokO_append : ∀ (a b : List (List UInt8)), tokO (a ++ b) = (tokO a).bind fun x => (tokO b).map (x ++ ·)
  | [], b => by simp [tokO]
  | p :: r, b => by
    simp only [List.cons_append, tokO]
    rw [tokO_append r b]
    cases tokP p with
    | none => rfl
    | some x => cases tokO r with
      | none => rfl
      | some y => cases tokO b with
        | none => rfl
        | some z => simp
theorem tokO_one (p : List UInt8) : tokO [p] = tokP p := by
  simp only [tokO]; cases tokP p <;> simp
theorem tokO_empty {a : List (List UInt8)} {L : List (List UInt8)} {p : List UInt8} (h : tokO a = some L) (hp : trimL p = []) : tokO (a ++ [p]) = some L := by
  rw [tokO_append, h, tokO_one, tokP, if_pos hp]; simp
theorem tokO_tok {a : List (List UInt8)} {L : List (List UInt8)} {p : List UInt8} (h : tokO a = some L) (hp : trimL p ≠ []) (ht : tokL (trimL p) = true) : tokO (a ++ [p]) = some (L ++ [lowL (trimL p)]) := by
  rw [tokO_append, h, tokO_one, tokP, if_neg hp, if_pos ht]; simp
theorem tokO_bad {a b : List (List UInt8)} {p : List UInt8} (hp : trimL p ≠ []) (ht : tokL (trimL p) = false) : tokO (a ++ p :: b) = none := by
  rw [tokO_append]
  have : tokO (p :: b) = none := by simp [tokO, tokP, hp, ht]
  rw [this]; cases tokO a <;> simp
theorem tokO_none {a b : List (List UInt8)} (h : tokO a = none) : tokO (a ++ b) = none := by rw [tokO_append, h]; rfl
theorem tokP_len {p : List UInt8} {L : List (List UInt8)} (h : tokP p = some L) : L.length ≤ 1 := by
  unfold tokP at h; split at h
  · simp at h; subst h; simp
  · split at h
    · simp at h; subst h; simp
    · simp at h
theorem tokO_len : ∀ {a : List (List UInt8)} {L : List (List UInt8)}, tokO a = some L → L.length ≤ a.length
  | [], L, h => by simp [tokO] at h; subst h; simp
  | p :: r, L, h => by
    simp only [tokO] at h
    cases hp : tokP p with
    | none => rw [hp] at h; simp at h
    | some x =>
      rw [hp] at h
      cases hr : tokO r with
      | none => rw [hr] at h; simp at h
      | some y =>
        rw [hr] at h; simp at h; subst h
        have := tokP_len hp; have := tokO_len hr
        simp only [List.length_append, List.length_cons]; omega

/-- All parts of some texts. -/
def partsO (ts : List ByteArray) : List (List UInt8) := ts.flatMap fun t => splitC t.data.toList
def sizes : List ByteArray → Nat
  | [] => 0
  | t :: r => 1 + t.size + sizes r
theorem partsO_len : ∀ ts : List ByteArray, (partsO ts).length ≤ sizes ts
  | [] => by simp [partsO, sizes]
  | t :: r => by
    have h1 := splitC_len t.data.toList
    have h2 := partsO_len r
    have h3 : t.data.toList.length = t.size := rfl
    simp only [partsO, List.flatMap_cons, List.length_append, sizes] at *
    omega
theorem sizes_append : ∀ a b : List ByteArray, sizes (a ++ b) = sizes a + sizes b
  | [], b => by simp [sizes]
  | t :: r, b => by simp only [List.cons_append, sizes, sizes_append r b]; omega
theorem sizes_take (ts : List ByteArray) (k : Nat) : sizes (ts.take k) ≤ sizes ts := by
  have := sizes_append (ts.take k) (ts.drop k)
  rw [List.take_append_drop] at this; omega
theorem sizes_len (ts : List ByteArray) : ts.length ≤ sizes ts := by
  induction ts with
  | nil => simp [sizes]
  | cons t r ih => simp only [List.length_cons, sizes]; omega
theorem sizes_at (ts : List ByteArray) (k : Nat) (h : k < ts.length) : ts[k].size < sizes ts := by
  have h1 := sizes_append (ts.take k) (ts.drop k)
  rw [List.take_append_drop, List.drop_eq_getElem_cons h] at h1
  simp only [sizes] at h1; omega
def toksO (ts : List ByteArray) : Option (List (List UInt8)) := tokO (partsO ts)
def hasL (tok : List UInt8) (ts : List ByteArray) : Bool :=
  match toksO ts with
  | some L => L.any (fun x => x == lowL tok)
  | none => false
theorem partsO_append (a b : List ByteArray) : partsO (a ++ b) = partsO a ++ partsO b := by simp [partsO]
theorem partsO_one (t : ByteArray) : partsO [t] = splitC t.data.toList := by simp [partsO]
theorem partsO_take (ts : List ByteArray) (k : Nat) (h : k < ts.length) : partsO ts = partsO (ts.take k) ++ (splitC ts[k].data.toList ++ partsO (ts.drop (k + 1))) := by
  conv => lhs; rw [← List.take_append_drop k ts, List.drop_eq_getElem_cons h, partsO_append]
  congr 1
theorem partsO_snoc (ts : List ByteArray) (k : Nat) (h : k < ts.length) : partsO (ts.take (k + 1)) = partsO (ts.take k) ++ splitC ts[k].data.toList := by
  rw [List.take_succ_eq_append_getElem h, partsO_append, partsO_one]
def strV (l : List UInt8) : Value := .string ⟨l.toArray⟩
def strs9 (L : List (List UInt8)) : List Value := L.map strV

/-! ### Tokens are in small letters, not empty, without blanks -/
theorem lowB_idem (c : UInt8) : lowB (lowB c) = lowB c := by
  have := by_byte (fun c => decide (lowB (lowB c) = lowB c)) (by decide +kernel) c
  simpa using this
theorem lowL_idem (l : List UInt8) : lowL (lowL l) = lowL l := by
  unfold lowL; rw [List.map_map]; exact List.map_congr_left fun c _ => lowB_idem c
theorem tokO_mem : ∀ {a : List (List UInt8)} {L : List (List UInt8)}, tokO a = some L → ∀ x ∈ L, ∃ t, x = lowL t ∧ tokL t = true
  | [], L, h, x, hx => by simp [tokO] at h; subst h; simp at hx
  | p :: r, L, h, x, hx => by
    simp only [tokO] at h
    cases hp : tokP p with
    | none => rw [hp] at h; simp at h
    | some y =>
      rw [hp] at h
      cases hr : tokO r with
      | none => rw [hr] at h; simp at h
      | some z =>
        rw [hr] at h; simp at h; subst h
        rw [List.mem_append] at hx
        rcases hx with hx | hx
        · unfold tokP at hp; split at hp
          · simp at hp; subst hp; simp at hx
          · split at hp
            · rename_i ht; simp at hp; subst hp; simp at hx; exact ⟨_, hx, ht⟩
            · simp at hp
        · exact tokO_mem hr x hx
theorem has_own {ts : List ByteArray} {L : List (List UInt8)} (h : toksO ts = some L) {x : List UInt8} (hx : x ∈ L) : hasL x ts = true := by
  unfold hasL; rw [h]
  obtain ⟨t, rfl, ht⟩ := tokO_mem h x hx
  exact List.any_eq_true.2 ⟨_, hx, by rw [lowL_idem]; simp⟩
theorem has_not {ts : List ByteArray} {x : List UInt8} (hx : tokL x = false) (hl : ∀ t, lowL x = lowL t → tokL t = tokL x) : hasL x ts = false := by
  unfold hasL
  cases h : toksO ts with
  | none => rfl
  | some L =>
    rw [Bool.eq_false_iff]
    intro he
    obtain ⟨y, hy, e⟩ := List.any_eq_true.1 he
    obtain ⟨t, rfl, ht⟩ := tokO_mem h y hy
    have := hl t (by simpa using e.symm |> fun h => (eq_of_beq h.symm).symm)
    rw [ht, hx] at this; cases this
theorem tokB_low (c : UInt8) : tokB (lowB c) = tokB c := by
  have := by_byte (fun c => decide (tokB (lowB c) = tokB c)) (by decide +kernel) c
  simpa using this
theorem tokL_low (l : List UInt8) : tokL (lowL l) = tokL l := by
  unfold tokL lowL
  rw [List.all_map, List.isEmpty_map]
  congr 1
  exact congrArg l.all (funext fun c => tokB_low c)
theorem has_none {ts : List ByteArray} {x : List UInt8} (hx : tokL x = false) : hasL x ts = false :=
  has_not hx fun t e => by rw [← tokL_low t, ← e, tokL_low]
end Go.Proofs.YtgkhelbpccehcaaGreatDoor
