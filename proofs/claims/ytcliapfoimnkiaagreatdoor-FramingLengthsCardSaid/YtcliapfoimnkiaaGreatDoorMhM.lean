/- How a request goes on: plain functions of chapter 12. No program. -/
import Derived.Test.YtcliapfoimnkiaaGreatDoorLiM
import Derived.Test.YtcliapfoimnkiaaGreatDoorFa10
import Derived.Test.YtcliapfoimnkiaaGreatDoorTm11
import Derived.Test.YtcliapfoimnkiaaGreatDoorDigits
namespace Go.Proofs.YtcliapfoimnkiaaGreatDoor
open Go.RowKit
set_option linter.unusedVariables false

def nHost : ByteArray := ⟨#[72, 111, 115, 116]⟩
def nTE : ByteArray := ⟨#[84, 114, 97, 110, 115, 102, 101, 114, 45, 69, 110, 99, 111, 100, 105, 110, 103]⟩
def nCL : ByteArray := ⟨#[67, 111, 110, 116, 101, 110, 116, 45, 76, 101, 110, 103, 116, 104]⟩
def nCon : ByteArray := ⟨#[67, 111, 110, 110, 101, 99, 116, 105, 111, 110]⟩
def nExp : ByteArray := ⟨#[69, 120, 112, 101, 99, 116]⟩
def chunkedL : List UInt8 := [99, 104, 117, 110, 107, 101, 100]
def closeL : List UInt8 := [99, 108, 111, 115, 101]
def keepL : List UInt8 := [107, 101, 101, 112, 45, 97, 108, 105, 118, 101]
def contB : ByteArray := ⟨#[49, 48, 48, 45, 99, 111, 110, 116, 105, 110, 117, 101]⟩
/-- How a request goes on. -/
structure HowP where
  kind : Int
  length : Int
  close : Bool
  expect : Bool
def noH : HowP := ⟨0, 0, false, false⟩
/-- The minor version that counts. -/
def minN (m : Int) : Int := if 1 ≤ m then 1 else 0
def hostOk (m : Int) (vs : List ByteArray) : Bool :=
  match vs with
  | [] => decide (m ≠ 1)
  | [v] => decide (v.data.toList = []) || hostL v.data.toList
  | _ => false
/-- The status of a coding; 0: it is chunked alone. -/
def codS (m : Int) (cl te : List ByteArray) : Int :=
  if m = 0 ∨ cl ≠ [] then 400
  else match toksO te with
    | none => 400
    | some L => if L.getLastD [] ≠ chunkedL then 400 else if L.length = 1 then 0 else if chunkedL ∈ L.dropLast then 400 else 501
/-- The one number that some tokens are. -/
def lenN : List (List UInt8) → Option Int
  | [] => none
  | x :: r => if (numB 10 15 x).2 = true ∧ r.all (fun y => (numB 10 15 y).2 && (numB 10 15 y).1 == (numB 10 15 x).1) = true then some (numB 10 15 x).1 else none
def lenS (cl : List ByteArray) : Int × Int :=
  match toksO cl with
  | none => (0, 400)
  | some L => match lenN L with
    | none => (0, 400)
    | some n => if 2048 < n then (0, 413) else (n, 0)
/-- Kind, length, status. -/
def bodyS (m : Int) (S : List FV) : Int × Int × Int :=
  if valsF S nTE ≠ [] then (2, 0, codS m (valsF S nCL) (valsF S nTE))
  else if valsF S nCL ≠ [] then (1, (lenS (valsF S nCL)).1, (lenS (valsF S nCL)).2)
  else (0, 0, 0)
def closeS (m : Int) (con : List ByteArray) : Bool := hasL closeL con || (decide (m = 0) && !hasL keepL con)
/-- What Of answers, the minor version being 0 or 1. -/
def frmN (m : Int) (S : List FV) : HowP × Int :=
  if hostOk m (valsF S nHost) = false then (noH, 400)
  else if (bodyS m S).2.2 ≠ 0 then (noH, (bodyS m S).2.2)
  else if toksO (valsF S nCon) = none then (noH, 400)
  else if m = 1 ∧ valsF S nExp ≠ [] then
    (if sameL (getF S nExp) contB = true then (⟨(bodyS m S).1, (bodyS m S).2.1, closeS m (valsF S nCon), decide ((bodyS m S).1 = 2 ∨ 0 < (bodyS m S).2.1)⟩, 0) else (noH, 417))
  else (⟨(bodyS m S).1, (bodyS m S).2.1, closeS m (valsF S nCon), false⟩, 0)
def frm (m : Int) (S : List FV) : HowP × Int := frmN (minN m) S
theorem minN_01 (m : Int) : minN m = 0 ∨ minN m = 1 := by unfold minN; split <;> simp
theorem minN_max (m : Int) : minN m = max 0 (min 1 m) := by unfold minN; split <;> omega
theorem frm_host {m : Int} {S : List FV} (h : hostOk m (valsF S nHost) = false) : frmN m S = (noH, 400) := by unfold frmN; rw [if_pos h]
theorem frm_body {m : Int} {S : List FV} (h : hostOk m (valsF S nHost) = true) (h2 : (bodyS m S).2.2 ≠ 0) : frmN m S = (noH, (bodyS m S).2.2) := by unfold frmN; rw [if_neg (by rw [h]; simp), if_pos h2]
theorem frm_con {m : Int} {S : List FV} (h : hostOk m (valsF S nHost) = true) (h2 : (bodyS m S).2.2 = 0) (h3 : toksO (valsF S nCon) = none) : frmN m S = (noH, 400) := by
  unfold frmN; rw [if_neg (by rw [h]; simp), if_neg (by rw [h2]; simp), if_pos h3]
theorem frm_plain {m : Int} {S : List FV} (h : hostOk m (valsF S nHost) = true) (h2 : (bodyS m S).2.2 = 0) (h3 : toksO (valsF S nCon) ≠ none) (h4 : ¬ (m = 1 ∧ valsF S nExp ≠ [])) :
    frmN m S = (⟨(bodyS m S).1, (bodyS m S).2.1, closeS m (valsF S nCon), false⟩, 0) := by
  unfold frmN; rw [if_neg (by rw [h]; simp), if_neg (by rw [h2]; simp), if_neg h3, if_neg h4]
theorem frm_417 {m : Int} {S : List FV} (h : hostOk m (valsF S nHost) = true) (h2 : (bodyS m S).2.2 = 0) (h3 : toksO (valsF S nCon) ≠ none) (h4 : m = 1 ∧ valsF S nExp ≠ []) (h5 : sameL (getF S nExp) contB = false) : frmN m S = (noH, 417) := by
  unfold frmN; rw [if_neg (by rw [h]; simp), if_neg (by rw [h2]; simp), if_neg h3, if_pos h4, if_neg (by rw [h5]; simp)]
theorem frm_exp {m : Int} {S : List FV} (h : hostOk m (valsF S nHost) = true) (h2 : (bodyS m S).2.2 = 0) (h3 : toksO (valsF S nCon) ≠ none) (h4 : m = 1 ∧ valsF S nExp ≠ []) (h5 : sameL (getF S nExp) contB = true) :
    frmN m S = (⟨(bodyS m S).1, (bodyS m S).2.1, closeS m (valsF S nCon), decide ((bodyS m S).1 = 2 ∨ 0 < (bodyS m S).2.1)⟩, 0) := by
  unfold frmN; rw [if_neg (by rw [h]; simp), if_neg (by rw [h2]; simp), if_neg h3, if_pos h4, if_pos h5]

/-! Fields of one name. -/
def oneN (n : ByteArray) (vs : List ByteArray) : List FV := vs.map fun v => (n, v)
theorem vals_one (n x : ByteArray) (vs : List ByteArray) : valsF (oneN n vs) x = if sameL n x = true then vs else [] := by
  unfold valsF namedF oneN
  by_cases h : sameL n x = true
  · rw [if_pos h]
    induction vs with
    | nil => rfl
    | cons v r ih => simp only [List.map_cons, List.filter_cons, h, if_true]; rw [ih]
  · rw [if_neg h]
    induction vs with
    | nil => rfl
    | cons v r ih => simp only [List.map_cons, List.filter_cons, h]; exact ih
theorem vals_app (S T : List FV) (x : ByteArray) : valsF (S ++ T) x = valsF S x ++ valsF T x := by
  unfold valsF namedF; rw [List.filter_append, List.map_append]
end Go.Proofs.YtcliapfoimnkiaaGreatDoor

/- Hosts and words of Connection, as chapter 12's laws make them. No program. -/
namespace Go.Proofs.YtcliapfoimnkiaaGreatDoor
open Go.RowKit
set_option linter.unusedVariables false

/-! Hosts. -/
def kHOST : ByteArray := ⟨#[104, 79, 83, 84]⟩
def allH (k : Nat) : ByteArray := if k = 0 then ⟨#[97]⟩ else if k = 1 then ⟨#[65, 46, 98, 58, 56, 48]⟩ else if k = 2 then ⟨#[]⟩ else if k = 3 then ⟨#[97, 32, 98]⟩ else if k = 4 then ⟨#[97, 58]⟩ else ⟨#[97, 47]⟩
theorem host_one : ∀ k : Fin 6, (decide ((allH k.1).data.toList = []) || hostL (allH k.1).data.toList) = decide (k.1 < 3) := by decide +kernel
theorem h_same : sameL kHOST nHost = true ∧ sameL kHOST nTE = false ∧ sameL kHOST nCL = false ∧ sameL kHOST nCon = false ∧ sameL kHOST nExp = false := by decide +kernel
theorem toks_nil : toksO [] = some [] := by decide +kernel
theorem close_nil (m : Int) : closeS m [] = decide (m = 0) := by unfold closeS hasL; rw [toks_nil]; simp
theorem hosts_law (m : Int) (ks : List Nat) (hk : ∀ k ∈ ks, k < 6) :
    frmN m (oneN kHOST (ks.map allH)) = if 1 < ks.length ∨ ks.any (fun k => decide (3 ≤ k)) = true ∨ (ks = [] ∧ m = 1) then (noH, 400) else (⟨0, 0, decide (m = 0), false⟩, 0) := by
  obtain ⟨s1, s2, s3, s4, s5⟩ := h_same
  have v1 := vals_one kHOST nHost (ks.map allH)
  have v2 := vals_one kHOST nTE (ks.map allH)
  have v3 := vals_one kHOST nCL (ks.map allH)
  have v4 := vals_one kHOST nCon (ks.map allH)
  have v5 := vals_one kHOST nExp (ks.map allH)
  rw [s1, if_pos rfl] at v1
  rw [s2, if_neg (by simp)] at v2
  rw [s3, if_neg (by simp)] at v3
  rw [s4, if_neg (by simp)] at v4
  rw [s5, if_neg (by simp)] at v5
  have hb : bodyS m (oneN kHOST (ks.map allH)) = (0, 0, 0) := by unfold bodyS; rw [v2, v3]; simp
  have good : hostOk m (ks.map allH) = true → frmN m (oneN kHOST (ks.map allH)) = (⟨0, 0, decide (m = 0), false⟩, 0) := fun h => by
    rw [frm_plain (by rw [v1]; exact h) (by rw [hb]) (by rw [v4, toks_nil]; simp) (by rw [v5]; simp), hb, v4, close_nil]
  have bad : hostOk m (ks.map allH) = false → frmN m (oneN kHOST (ks.map allH)) = (noH, 400) := fun h => frm_host (by rw [v1]; exact h)
  match ks, hk with
  | [], _ =>
    by_cases hm : m = 1
    · rw [if_pos (.inr (.inr ⟨rfl, hm⟩))]
      exact bad (by show decide (m ≠ 1) = false; simp [hm])
    · have hno : ¬ (1 < ([] : List Nat).length ∨ ([] : List Nat).any (fun k => decide (3 ≤ k)) = true ∨ (([] : List Nat) = [] ∧ m = 1)) := by
        rintro (h | h | h)
        · simp at h
        · simp at h
        · exact hm h.2
      rw [if_neg hno]
      exact good (by show decide (m ≠ 1) = true; simp [hm])
  | [k], hk =>
    have hk6 := hk k (by simp)
    have h1 := host_one ⟨k, hk6⟩
    by_cases h3 : 3 ≤ k
    · rw [if_pos (.inr (.inl (by simp [h3])))]
      exact bad (h1.trans (by simp; omega))
    · have hno : ¬ (1 < [k].length ∨ [k].any (fun k => decide (3 ≤ k)) = true ∨ ([k] = [] ∧ m = 1)) := by
        rintro (h | h | h)
        · simp at h
        · simp at h; omega
        · simp at h
      rw [if_neg hno]
      exact good (h1.trans (by simp; omega))
  | k :: j :: r, _ =>
    rw [if_pos (.inl (by simp))]
    exact bad rfl

/-! Words of Connection. -/
def allW (k : Nat) : ByteArray := if k = 0 then ⟨#[99, 108, 111, 115, 101]⟩ else if k = 1 then ⟨#[67, 76, 79, 83, 69]⟩ else if k = 2 then ⟨#[107, 101, 101, 112, 45, 97, 108, 105, 118, 101]⟩ else if k = 3 then ⟨#[75, 101, 101, 112, 45, 65, 108, 105, 118, 101]⟩ else if k = 4 then ⟨#[120]⟩ else ⟨#[]⟩
def tokW (k : Nat) : List (List UInt8) := if k < 2 then [closeL] else if k < 4 then [keepL] else if k = 4 then [[120]] else []
theorem word_one : ∀ k : Fin 6, tokO (splitC (allW k.1).data.toList) = some (tokW k.1) := by decide +kernel
theorem word_close : ∀ k : Fin 6, (tokW k.1).any (fun x => x == lowL closeL) = decide (k.1 < 2) := by decide +kernel
theorem word_keep : ∀ k : Fin 6, (tokW k.1).any (fun x => x == lowL keepL) = decide (k.1 = 2 ∨ k.1 = 3) := by decide +kernel
theorem words_toks : ∀ ks : List Nat, (∀ k ∈ ks, k < 6) → toksO (ks.map allW) = some (ks.flatMap tokW)
  | [], _ => toks_nil
  | k :: r, h => by
    have ih := words_toks r (fun x hx => h x (by simp [hx]))
    have h1 := word_one ⟨k, h k (by simp)⟩
    unfold toksO partsO at ih ⊢
    rw [List.map_cons, List.flatMap_cons, tokO_append, h1, ih]
    simp
theorem any_flat (p : List UInt8 → Bool) (q : Nat → Bool) : ∀ ks : List Nat, (∀ k ∈ ks, (tokW k).any p = q k) → (ks.flatMap tokW).any p = ks.any q
  | [], _ => rfl
  | k :: r, h => by
    rw [List.flatMap_cons, List.any_append, List.any_cons, h k (by simp), any_flat p q r (fun x hx => h x (by simp [hx]))]
theorem close_words (m : Int) (ks : List Nat) (hk : ∀ k ∈ ks, k < 6) :
    closeS m (ks.map allW) = (ks.any (fun k => decide (k < 2)) || (decide (m = 0) && !ks.any (fun k => decide (k = 2 ∨ k = 3)))) := by
  unfold closeS hasL
  rw [words_toks ks hk]
  simp only
  rw [any_flat _ (fun k => decide (k < 2)) ks (fun k h => word_close ⟨k, hk k h⟩), any_flat _ (fun k => decide (k = 2 ∨ k = 3)) ks (fun k h => word_keep ⟨k, hk k h⟩)]
def hostA : FV := (nHost, ⟨#[97]⟩)
theorem n_same : sameL nHost nHost = true ∧ sameL nHost nTE = false ∧ sameL nHost nCL = false ∧ sameL nHost nCon = false ∧ sameL nHost nExp = false := by decide +kernel
theorem c_same : sameL nCon nHost = false ∧ sameL nCon nTE = false ∧ sameL nCon nCL = false ∧ sameL nCon nCon = true ∧ sameL nCon nExp = false := by decide +kernel
theorem closes_law (m : Int) (ks : List Nat) (hk : ∀ k ∈ ks, k < 6) :
    frmN m (oneN nHost [⟨#[97]⟩] ++ oneN nCon (ks.map allW)) = (⟨0, 0, ks.any (fun k => decide (k < 2)) || (decide (m = 0) && !ks.any (fun k => decide (k = 2 ∨ k = 3))), false⟩, 0) := by
  obtain ⟨s1, s2, s3, s4, s5⟩ := n_same
  obtain ⟨t1, t2, t3, t4, t5⟩ := c_same
  have v1 : valsF (oneN nHost [⟨#[97]⟩] ++ oneN nCon (ks.map allW)) nHost = [⟨#[97]⟩] := by rw [vals_app, vals_one, vals_one, s1, t1]; simp
  have v2 : valsF (oneN nHost [⟨#[97]⟩] ++ oneN nCon (ks.map allW)) nTE = [] := by rw [vals_app, vals_one, vals_one, s2, t2]; simp
  have v3 : valsF (oneN nHost [⟨#[97]⟩] ++ oneN nCon (ks.map allW)) nCL = [] := by rw [vals_app, vals_one, vals_one, s3, t3]; simp
  have v4 : valsF (oneN nHost [⟨#[97]⟩] ++ oneN nCon (ks.map allW)) nCon = ks.map allW := by rw [vals_app, vals_one, vals_one, s4, t4]; simp
  have v5 : valsF (oneN nHost [⟨#[97]⟩] ++ oneN nCon (ks.map allW)) nExp = [] := by rw [vals_app, vals_one, vals_one, s5, t5]; simp
  have hb : bodyS m (oneN nHost [⟨#[97]⟩] ++ oneN nCon (ks.map allW)) = (0, 0, 0) := by unfold bodyS; rw [v2, v3]; simp
  rw [frm_plain (by rw [v1]; exact host_one ⟨0, by decide⟩) (by rw [hb]) (by rw [v4, words_toks ks hk]; simp) (by rw [v5]; simp), hb, v4, close_words m ks hk]
end Go.Proofs.YtcliapfoimnkiaaGreatDoor

/- Lengths, as chapter 12's laws make them. No program. -/
namespace Go.Proofs.YtcliapfoimnkiaaGreatDoor
open Go.RowKit
set_option linter.unusedVariables false

def isD (c : UInt8) : Bool := decide (48 ≤ c.toNat) && decide (c.toNat ≤ 57)
theorem dgt_d (d : Nat) (h : d < 10) : isD (dgt d) = true := by
  have := List.all_eq_true.1 (show (List.range 10).all (fun d => isD (dgt d)) = true by decide +kernel) d (by rw [List.mem_range]; exact h)
  exact this
theorem digs_d (u : Nat) : (digs 10 u).all isD = true := by
  induction u using Nat.strongRecOn with
  | ind u ih =>
    by_cases h : u < 10
    · rw [digs_low h]; simp [dgt_d u h]
    · rw [digs_high (by omega) (by decide), List.all_append, ih (u / 10) (by omega)]; simp [dgt_d (u % 10) (by omega)]
theorem d_tok (c : UInt8) (h : isD c = true) : tokB c = true := by
  have := by_byte (fun c => !isD c || tokB c) (by decide +kernel) c
  rw [h] at this; simpa using this
theorem d_low (c : UInt8) (h : isD c = true) : lowB c = c := by
  have := by_byte (fun c => !isD c || lowB c == c) (by decide +kernel) c
  rw [h] at this; simpa using this
theorem d_44 (c : UInt8) (h : isD c = true) : c ≠ 44 := by rintro rfl; revert h; decide
theorem d_lowL {l : List UInt8} (h : l.all isD = true) : lowL l = l := by
  unfold lowL
  have := List.all_eq_true.1 h
  induction l with
  | nil => rfl
  | cons c r ih => rw [List.map_cons, d_low c (this c (by simp)), ih (by rw [List.all_cons, Bool.and_eq_true] at h; exact h.2) (fun x hx => this x (by simp [hx]))]
theorem d_tokL {l : List UInt8} (h : l.all isD = true) (h0 : l ≠ []) : tokL l = true := by
  unfold tokL
  rw [show l.all tokB = true from List.all_eq_true.2 fun x hx => d_tok x (List.all_eq_true.1 h x hx)]
  cases l with
  | nil => exact absurd rfl h0
  | cons c r => rfl
theorem d_split {l : List UInt8} (h : l.all isD = true) : splitC l = [l] := by
  show splitAcc [] l = _
  rw [splitAcc_no l [] (fun x hx => d_44 x (List.all_eq_true.1 h x hx))]; rfl
theorem d_blk (c : UInt8) (h : isD c = true) : blk c = false := by
  have := by_byte (fun c => !isD c || !blk c) (by decide +kernel) c
  rw [h] at this; simpa using this
theorem d_trim {l : List UInt8} (h : l.all isD = true) (h0 : l ≠ []) : trimL l = l := by
  rw [trimL_eq]
  have h1 : tlL l = l := by
    cases l with
    | nil => rfl
    | cons c r => exact tl_cons_no (d_blk c (List.all_eq_true.1 h c (by simp)))
  rw [h1]
  have e := List.dropLast_concat_getLast h0
  rw [← e]
  exact trL_snoc_no _ _ (d_blk _ (List.all_eq_true.1 h _ (List.getLast_mem h0)))
def decB (n : Nat) : ByteArray := ofL (digs 10 n)
theorem dec_tok (n : Nat) : tokO (splitC (decB n).data.toList) = some [digs 10 n] := by
  have h := digs_d n
  have h0 := digs_pos 10 n
  unfold decB
  rw [ofL_list, d_split h, tokO_one]
  unfold tokP
  rw [d_trim h h0, if_neg h0, if_pos (d_tokL h h0), d_lowL h]
theorem dec_toks : ∀ ns : List Nat, toksO (ns.map decB) = some (ns.map fun n => digs 10 n)
  | [] => toks_nil
  | n :: r => by
    have ih := dec_toks r
    unfold toksO partsO at ih ⊢
    rw [List.map_cons, List.flatMap_cons, tokO_append, dec_tok, ih]
    rfl
theorem dec_num (n : Nat) (h : n ≤ 4095) : numB 10 15 (digs 10 n) = ((n : Int), true) := numB_digs 10 (by decide) (by decide) 14 n (Nat.lt_of_le_of_lt h (by decide))
theorem dec_lenN (n : Nat) (r : List Nat) (hn : ∀ x ∈ n :: r, x ≤ 4095) : lenN ((n :: r).map fun n => digs 10 n) = if r.all (fun x => decide (x = n)) = true then some (n : Int) else none := by
  have h0 := dec_num n (hn n (by simp))
  have ha : (r.map fun n => digs 10 n).all (fun y => (numB 10 15 y).2 && (numB 10 15 y).1 == (numB 10 15 (digs 10 n)).1) = r.all (fun x => decide (x = n)) := by
    rw [List.all_map, h0]
    have hr : ∀ x ∈ r, x ≤ 4095 := fun x hx => hn x (by simp [hx])
    clear hn h0
    induction r with
    | nil => rfl
    | cons x r ih =>
      rw [List.all_cons, List.all_cons, ih (fun y hy => hr y (by simp [hy]))]
      congr 1
      show ((numB 10 15 (digs 10 x)).2 && (numB 10 15 (digs 10 x)).1 == (n : Int)) = _
      rw [dec_num x (hr x (by simp))]
      simp only [Bool.true_and]
      rw [Bool.eq_iff_iff, beq_iff_eq, decide_eq_true_iff]
      omega
  rw [List.map_cons]
  simp only [lenN]
  rw [ha, h0]
  simp
theorem lenS_none {cl : List ByteArray} {L : List (List UInt8)} (h : toksO cl = some L) (h2 : lenN L = none) : lenS cl = (0, 400) := by unfold lenS; rw [h]; simp only; rw [h2]
theorem lenS_some {cl : List ByteArray} {L : List (List UInt8)} {n : Int} (h : toksO cl = some L) (h2 : lenN L = some n) : lenS cl = if 2048 < n then (0, 413) else (n, 0) := by unfold lenS; rw [h]; simp only; rw [h2]
def chunkedB : ByteArray := ⟨#[99, 104, 117, 110, 107, 101, 100]⟩
theorem te_toks : toksO [chunkedB] = some [chunkedL] := by decide +kernel
theorem l_same : sameL nCL nHost = false ∧ sameL nCL nTE = false ∧ sameL nCL nCL = true ∧ sameL nCL nCon = false ∧ sameL nCL nExp = false := by decide +kernel
theorem e_same : sameL nTE nHost = false ∧ sameL nTE nTE = true ∧ sameL nTE nCL = false ∧ sameL nTE nCon = false ∧ sameL nTE nExp = false := by decide +kernel
/-- The fields of the law on lengths. -/
def lenF (ns : List Nat) (te : List ByteArray) : List FV := oneN nHost [⟨#[97]⟩] ++ oneN nCL (ns.map decB) ++ oneN nTE te
theorem len_vals (ns : List Nat) (te : List ByteArray) : valsF (lenF ns te) nHost = [⟨#[97]⟩] ∧ valsF (lenF ns te) nTE = te ∧ valsF (lenF ns te) nCL = ns.map decB ∧ valsF (lenF ns te) nCon = [] ∧ valsF (lenF ns te) nExp = [] := by
  obtain ⟨s1, s2, s3, s4, s5⟩ := n_same
  obtain ⟨t1, t2, t3, t4, t5⟩ := l_same
  obtain ⟨u1, u2, u3, u4, u5⟩ := e_same
  unfold lenF
  refine ⟨?_, ?_, ?_, ?_, ?_⟩
  · rw [vals_app, vals_app, vals_one, vals_one, vals_one, s1, t1, u1]; simp
  · rw [vals_app, vals_app, vals_one, vals_one, vals_one, s2, t2, u2]; simp
  · rw [vals_app, vals_app, vals_one, vals_one, vals_one, s3, t3, u3]; simp
  · rw [vals_app, vals_app, vals_one, vals_one, vals_one, s4, t4, u4]; simp
  · rw [vals_app, vals_app, vals_one, vals_one, vals_one, s5, t5, u5]; simp
theorem host_a1 (m : Int) : hostOk m [⟨#[97]⟩] = true := host_one ⟨0, by decide⟩
/-- What the document asks of lengths: the status, the kind, the length. -/
def lenR (m : Int) (ns : List Nat) (coded : Bool) : HowP × Int :=
  if coded = true then (if ns ≠ [] ∨ m = 0 then (noH, 400) else (⟨2, 0, decide (m = 0), false⟩, 0))
  else match ns with
    | [] => (⟨0, 0, decide (m = 0), false⟩, 0)
    | n :: r => if r.all (fun x => decide (x = n)) = true then (if 2048 < (n : Int) then (noH, 413) else (⟨1, n, decide (m = 0), false⟩, 0)) else (noH, 400)
theorem lengths_law (m : Int) (ns : List Nat) (coded : Bool) (hn : ∀ n ∈ ns, n ≤ 4095) : frmN m (lenF ns (if coded = true then [chunkedB] else [])) = lenR m ns coded := by
  obtain ⟨v1, v2, v3, v4, v5⟩ := len_vals ns (if coded = true then [chunkedB] else [])
  have hh : hostOk m (valsF (lenF ns (if coded = true then [chunkedB] else [])) nHost) = true := by rw [v1]; exact host_a1 m
  have ht : toksO (valsF (lenF ns (if coded = true then [chunkedB] else [])) nCon) ≠ none := by rw [v4, toks_nil]; simp
  have hx : ¬ (m = 1 ∧ valsF (lenF ns (if coded = true then [chunkedB] else [])) nExp ≠ []) := by rw [v5]; simp
  have fin : ∀ k l, bodyS m (lenF ns (if coded = true then [chunkedB] else [])) = (k, l, 0) → frmN m (lenF ns (if coded = true then [chunkedB] else [])) = (⟨k, l, decide (m = 0), false⟩, 0) := fun k l h => by
    rw [frm_plain hh (by rw [h]) ht hx, h, v4, close_nil]
  have bad : ∀ k l s, s ≠ 0 → bodyS m (lenF ns (if coded = true then [chunkedB] else [])) = (k, l, s) → frmN m (lenF ns (if coded = true then [chunkedB] else [])) = (noH, s) := fun k l s hs h => by
    rw [frm_body hh (by rw [h]; exact hs), h]
  unfold lenR
  cases coded with
  | true =>
    rw [if_pos rfl]
    have hb : bodyS m (lenF ns (if true = true then [chunkedB] else [])) = (2, 0, codS m (ns.map decB) [chunkedB]) := by
      unfold bodyS; rw [v2, v3]; simp
    by_cases hc : ns ≠ [] ∨ m = 0
    · rw [if_pos hc]
      refine bad 2 0 400 (by decide) ?_
      rw [hb]; unfold codS
      rw [if_pos (by rcases hc with h | h; exact .inr (by simpa using h); exact .inl h)]
    · rw [if_neg hc]
      have h1 : ns = [] := Classical.byContradiction fun h => hc (.inl h)
      have h2 : ¬ m = 0 := fun h => hc (.inr h)
      refine fin 2 0 ?_
      rw [hb]; unfold codS
      rw [if_neg (by rw [h1]; simp [h2]), te_toks]
      rfl
  | false =>
    rw [if_neg (by simp)]
    cases ns with
    | nil => exact fin 0 0 (by unfold bodyS; rw [v2, v3]; simp)
    | cons n r =>
      have hb : bodyS m (lenF (n :: r) (if false = true then [chunkedB] else [])) = (1, (lenS ((n :: r).map decB)).1, (lenS ((n :: r).map decB)).2) := by
        unfold bodyS; rw [v2, v3]; simp
      have hq := dec_lenN n r hn
      by_cases hs : r.all (fun x => decide (x = n)) = true
      · rw [if_pos hs] at hq
        have hl := lenS_some (dec_toks (n :: r)) hq
        simp only [hs, if_true]
        by_cases hm : 2048 < (n : Int)
        · rw [if_pos hm] at hl
          rw [if_pos hm]
          exact bad 1 0 413 (by decide) (by rw [hb, hl])
        · rw [if_neg hm] at hl
          rw [if_neg hm]
          exact fin 1 n (by rw [hb, hl])
      · rw [if_neg hs] at hq
        have hl := lenS_none (dec_toks (n :: r)) hq
        simp only [hs]
        exact bad 1 0 400 (by decide) (by rw [hb, hl])
end Go.Proofs.YtcliapfoimnkiaaGreatDoor
