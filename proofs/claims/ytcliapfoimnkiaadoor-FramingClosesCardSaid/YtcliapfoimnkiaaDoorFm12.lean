/- How a request goes on: plain functions of chapter 12. No program. -/
import Derived.Test.YtcliapfoimnkiaaDoorLiM
import Derived.Test.YtcliapfoimnkiaaDoorFa10
import Derived.Test.YtcliapfoimnkiaaDoorTm11
namespace Go.Proofs.YtcliapfoimnkiaaDoor
open Go.RowKit
set_option linter.unusedVariables false

def nHost : ByteArray := ⟨#[72, 111, 115, 116]⟩
def nTE : ByteArray := ⟨#[84, 114, 97, 110, 115, 102, 101, 114, 45, 69, 110, 99, 111, 100, 105, 110, 103]⟩
def nCL : ByteArray := ⟨#[67, 111, 110, 116, 101, 110, 116, 45, 76, 101, 110, 103, 116, 104]⟩
def nCon : ByteArray := ⟨#[67, 111, 110, 110, 101, 99, 116, 105, 111, 110]⟩
def nExp : ByteArray := ⟨#[69, 120, 112, 101, 99, 116]⟩
def chunkedL : List UInt8 := [99, 104, 117, 110, 107, 101, 100]
def closeL : List UInt8 := [99, 108, 111, 115, 101]
def keepL : List UInt8 := [107, 101, 101, 112, 45, 97, 108, 105, 118, 101]
def contB : ByteArray := ⟨#[49, 48, 48, 45, 99, 111, 110, 116, 105, 110, 117, 101]⟩
/-- How a request goes on. -/
structure HowP where
  kind : Int
  length : Int
  close : Bool
  expect : Bool
def noH : HowP := ⟨0, 0, false, false⟩
/-- The minor version that counts. -/
def minN (m : Int) : Int := if 1 ≤ m then 1 else 0
def hostOk (m : Int) (vs : List ByteArray) : Bool :=
  match vs with
  | [] => decide (m ≠ 1)
  | [v] => decide (v.data.toList = []) || hostL v.data.toList
  | _ => false
/-- The status of a coding; 0: it is chunked alone. -/
def codS (m : Int) (cl te : List ByteArray) : Int :=
  if m = 0 ∨ cl ≠ [] then 400
  else match toksO te with
    | none => 400
    | some L => if L.getLastD [] ≠ chunkedL then 400 else if L.length = 1 then 0 else if chunkedL ∈ L.dropLast then 400 else 501
/-- The one number that some tokens are. -/
def lenN : List (List UInt8) → Option Int
  | [] => none
  | x :: r => if (numB 10 15 x).2 = true ∧ r.all (fun y => (numB 10 15 y).2 && (numB 10 15 y).1 == (numB 10 15 x).1) = true then some (numB 10 15 x).1 else none
def lenS (cl : List ByteArray) : Int × Int :=
  match toksO cl with
  | none => (0, 400)
  | some L => match lenN L with
    | none => (0, 400)
    | some n => if 2048 < n then (0, 413) else (n, 0)
/-- Kind, length, status. -/
def bodyS (m : Int) (S : List FV) : Int × Int × Int :=
  if valsF S nTE ≠ [] then (2, 0, codS m (valsF S nCL) (valsF S nTE))
  else if valsF S nCL ≠ [] then (1, (lenS (valsF S nCL)).1, (lenS (valsF S nCL)).2)
  else (0, 0, 0)
def closeS (m : Int) (con : List ByteArray) : Bool := hasL closeL con || (decide (m = 0) && !hasL keepL con)
/-- What Of answers, the minor version being 0 or 1. -/
def frmN (m : Int) (S : List FV) : HowP × Int :=
  if hostOk m (valsF S nHost) = false then (noH, 400)
  else if (bodyS m S).2.2 ≠ 0 then (noH, (bodyS m S).2.2)
  else if toksO (valsF S nCon) = none then (noH, 400)
  else if m = 1 ∧ valsF S nExp ≠ [] then
    (if sameL (getF S nExp) contB = true then (⟨(bodyS m S).1, (bodyS m S).2.1, closeS m (valsF S nCon), decide ((bodyS m S).1 = 2 ∨ 0 < (bodyS m S).2.1)⟩, 0) else (noH, 417))
  else (⟨(bodyS m S).1, (bodyS m S).2.1, closeS m (valsF S nCon), false⟩, 0)
def frm (m : Int) (S : List FV) : HowP × Int := frmN (minN m) S
theorem minN_01 (m : Int) : minN m = 0 ∨ minN m = 1 := by unfold minN; split <;> simp
theorem minN_max (m : Int) : minN m = max 0 (min 1 m) := by unfold minN; split <;> omega
theorem frm_host {m : Int} {S : List FV} (h : hostOk m (valsF S nHost) = false) : frmN m S = (noH, 400) := by unfold frmN; rw [if_pos h]
theorem frm_body {m : Int} {S : List FV} (h : hostOk m (valsF S nHost) = true) (h2 : (bodyS m S).2.2 ≠ 0) : frmN m S = (noH, (bodyS m S).2.2) := by unfold frmN; rw [if_neg (by rw [h]; simp), if_pos h2]
theorem frm_con {m : Int} {S : List FV} (h : hostOk m (valsF S nHost) = true) (h2 : (bodyS m S).2.2 = 0) (h3 : toksO (valsF S nCon) = none) : frmN m S = (noH, 400) := by
  unfold frmN; rw [if_neg (by rw [h]; simp), if_neg (by rw [h2]; simp), if_pos h3]
theorem frm_plain {m : Int} {S : List FV} (h : hostOk m (valsF S nHost) = true) (h2 : (bodyS m S).2.2 = 0) (h3 : toksO (valsF S nCon) ≠ none) (h4 : ¬ (m = 1 ∧ valsF S nExp ≠ [])) :
    frmN m S = (⟨(bodyS m S).1, (bodyS m S).2.1, closeS m (valsF S nCon), false⟩, 0) := by
  unfold frmN; rw [if_neg (by rw [h]; simp), if_neg (by rw [h2]; simp), if_neg h3, if_neg h4]
theorem frm_417 {m : Int} {S : List FV} (h : hostOk m (valsF S nHost) = true) (h2 : (bodyS m S).2.2 = 0) (h3 : toksO (valsF S nCon) ≠ none) (h4 : m = 1 ∧ valsF S nExp ≠ []) (h5 : sameL (getF S nExp) contB = false) : frmN m S = (noH, 417) := by
  unfold frmN; rw [if_neg (by rw [h]; simp), if_neg (by rw [h2]; simp), if_neg h3, if_pos h4, if_neg (by rw [h5]; simp)]
theorem frm_exp {m : Int} {S : List FV} (h : hostOk m (valsF S nHost) = true) (h2 : (bodyS m S).2.2 = 0) (h3 : toksO (valsF S nCon) ≠ none) (h4 : m = 1 ∧ valsF S nExp ≠ []) (h5 : sameL (getF S nExp) contB = true) :
    frmN m S = (⟨(bodyS m S).1, (bodyS m S).2.1, closeS m (valsF S nCon), decide ((bodyS m S).1 = 2 ∨ 0 < (bodyS m S).2.1)⟩, 0) := by
  unfold frmN; rw [if_neg (by rw [h]; simp), if_neg (by rw [h2]; simp), if_neg h3, if_pos h4, if_pos h5]

/-! Fields of one name. -/
def oneN (n : ByteArray) (vs : List ByteArray) : List FV := vs.map fun v => (n, v)
theorem vals_one (n x : ByteArray) (vs : List ByteArray) : valsF (oneN n vs) x = if sameL n x = true then vs else [] := by
  unfold valsF namedF oneN
  by_cases h : sameL n x = true
  · rw [if_pos h]
    induction vs with
    | nil => rfl
    | cons v r ih => simp only [List.map_cons, List.filter_cons, h, if_true]; rw [ih]
  · rw [if_neg h]
    induction vs with
    | nil => rfl
    | cons v r ih => simp only [List.map_cons, List.filter_cons, h]; exact ih
theorem vals_app (S T : List FV) (x : ByteArray) : valsF (S ++ T) x = valsF S x ++ valsF T x := by
  unfold valsF namedF; rw [List.filter_append, List.map_append]
end Go.Proofs.YtcliapfoimnkiaaDoor
