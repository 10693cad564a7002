/- Hosts and words of Connection, as chapter 12's laws make them. No program. -/
import Derived.Test.YtcliapfoimnkiaaDoorFm12
namespace Go.Proofs.YtcliapfoimnkiaaDoor
open Go.RowKit
set_option linter.unusedVariables false

/-! Hosts. -/
def kHOST : ByteArray := ⟨#[104, 79, 83, 84]⟩
def allH (k : Nat) : ByteArray := if k = 0 then ⟨#[97]⟩ else if k = 1 then ⟨#[65, 46, 98, 58, 56, 48]⟩ else if k = 2 then ⟨#[]⟩ else if k = 3 then ⟨#[97, 32, 98]⟩ else if k = 4 then ⟨#[97, 58]⟩ else ⟨#[97, 47]⟩
theorem host_one : ∀ k : Fin 6, (decide ((allH k.1).data.toList = []) || hostL (allH k.1).data.toList) = decide (k.1 < 3) := by decide +kernel
theorem h_same : sameL kHOST nHost = true ∧ sameL kHOST nTE = false ∧ sameL kHOST nCL = false ∧ sameL kHOST nCon = false ∧ sameL kHOST nExp = false := by decide +kernel
theorem toks_nil : toksO [] = some [] := by decide +kernel
theorem close_nil (m : Int) : closeS m [] = decide (m = 0) := by unfold closeS hasL; rw [toks_nil]; simp
theorem hosts_law (m : Int) (ks : List Nat) (hk : ∀ k ∈ ks, k < 6) :
    frmN m (oneN kHOST (ks.map allH)) = if 1 < ks.length ∨ ks.any (fun k => decide (3 ≤ k)) = true ∨ (ks = [] ∧ m = 1) then (noH, 400) else (⟨0, 0, decide (m = 0), false⟩, 0) := by
  obtain ⟨s1, s2, s3, s4, s5⟩ := h_same
  have v1 := vals_one kHOST nHost (ks.map allH)
  have v2 := vals_one kHOST nTE (ks.map allH)
  have v3 := vals_one kHOST nCL (ks.map allH)
  have v4 := vals_one kHOST nCon (ks.map allH)
  have v5 := vals_one kHOST nExp (ks.map allH)
  rw [s1, if_pos rfl] at v1
  rw [s2, if_neg (by simp)] at v2
  rw [s3, if_neg (by simp)] at v3
  rw [s4, if_neg (by simp)] at v4
  rw [s5, if_neg (by simp)] at v5
  have hb : bodyS m (oneN kHOST (ks.map allH)) = (0, 0, 0) := by unfold bodyS; rw [v2, v3]; simp
  have good : hostOk m (ks.map allH) = true → frmN m (oneN kHOST (ks.map allH)) = (⟨0, 0, decide (m = 0), false⟩, 0) := fun h => by
    rw [frm_plain (by rw [v1]; exact h) (by rw [hb]) (by rw [v4, toks_nil]; simp) (by rw [v5]; simp), hb, v4, close_nil]
  have bad : hostOk m (ks.map allH) = false → frmN m (oneN kHOST (ks.map allH)) = (noH, 400) := fun h => frm_host (by rw [v1]; exact h)
  match ks, hk with
  | [], _ =>
    by_cases hm : m = 1
    · rw [if_pos (.inr (.inr ⟨rfl, hm⟩))]
      exact bad (by show decide (m ≠ 1) = false; simp [hm])
    · have hno : ¬ (1 < ([] : List Nat).length ∨ ([] : List Nat).any (fun k => decide (3 ≤ k)) = true ∨ (([] : List Nat) = [] ∧ m = 1)) := by
        rintro (h | h | h)
        · simp at h
        · simp at h
        · exact hm h.2
      rw [if_neg hno]
      exact good (by show decide (m ≠ 1) = true; simp [hm])
  | [k], hk =>
    have hk6 := hk k (by simp)
    have h1 := host_one ⟨k, hk6⟩
    by_cases h3 : 3 ≤ k
    · rw [if_pos (.inr (.inl (by simp [h3])))]
      exact bad (h1.trans (by simp; omega))
    · have hno : ¬ (1 < [k].length ∨ [k].any (fun k => decide (3 ≤ k)) = true ∨ ([k] = [] ∧ m = 1)) := by
        rintro (h | h | h)
        · simp at h
        · simp at h; omega
        · simp at h
      rw [if_neg hno]
      exact good (h1.trans (by simp; omega))
  | k :: j :: r, _ =>
    rw [if_pos (.inl (by simp))]
    exact bad rfl

/-! Words of Connection. -/
def allW (k : Nat) : ByteArray := if k = 0 then ⟨#[99, 108, 111, 115, 101]⟩ else if k = 1 then ⟨#[67, 76, 79, 83, 69]⟩ else if k = 2 then ⟨#[107, 101, 101, 112, 45, 97, 108, 105, 118, 101]⟩ else if k = 3 then ⟨#[75, 101, 101, 112, 45, 65, 108, 105, 118, 101]⟩ else if k = 4 then ⟨#[120]⟩ else ⟨#[]⟩
def tokW (k : Nat) : List (List UInt8) := if k < 2 then [closeL] else if k < 4 then [keepL] else if k = 4 then [[120]] else []
theorem word_one : ∀ k : Fin 6, tokO (splitC (allW k.1).data.toList) = some (tokW k.1) := by decide +kernel
theorem word_close : ∀ k : Fin 6, (tokW k.1).any (fun x => x == lowL closeL) = decide (k.1 < 2) := by decide +kernel
theorem word_keep : ∀ k : Fin 6, (tokW k.1).any (fun x => x == lowL keepL) = decide (k.1 = 2 ∨ k.1 = 3) := by decide +kernel
theorem words_toks : ∀ ks : List Nat, (∀ k ∈ ks, k < 6) → toksO (ks.map allW) = some (ks.flatMap tokW)
  | [], _ => toks_nil
  | k :: r, h => by
    have ih := words_toks r (fun x hx => h x (by simp [hx]))
    have h1 := word_one ⟨k, h k (by simp)⟩
    unfold toksO partsO at ih ⊢
    rw [List.map_cons, List.flatMap_cons, tokO_append, h1, ih]
    simp
theorem any_flat (p : List UInt8 → Bool) (q : Nat → Bool) : ∀ ks : List Nat, (∀ k ∈ ks, (tokW k).any p = q k) → (ks.flatMap tokW).any p = ks.any q
  | [], _ => rfl
  | k :: r, h => by
    rw [List.flatMap_cons, List.any_append, List.any_cons, h k (by simp), any_flat p q r (fun x hx => h x (by simp [hx]))]
theorem close_words (m : Int) (ks : List Nat) (hk : ∀ k ∈ ks, k < 6) :
    closeS m (ks.map allW) = (ks.any (fun k => decide (k < 2)) || (decide (m = 0) && !ks.any (fun k => decide (k = 2 ∨ k = 3)))) := by
  unfold closeS hasL
  rw [words_toks ks hk]
  simp only
  rw [any_flat _ (fun k => decide (k < 2)) ks (fun k h => word_close ⟨k, hk k h⟩), any_flat _ (fun k => decide (k = 2 ∨ k = 3)) ks (fun k h => word_keep ⟨k, hk k h⟩)]
def hostA : FV := (nHost, ⟨#[97]⟩)
theorem n_same : sameL nHost nHost = true ∧ sameL nHost nTE = false ∧ sameL nHost nCL = false ∧ sameL nHost nCon = false ∧ sameL nHost nExp = false := by decide +kernel
theorem c_same : sameL nCon nHost = false ∧ sameL nCon nTE = false ∧ sameL nCon nCL = false ∧ sameL nCon nCon = true ∧ sameL nCon nExp = false := by decide +kernel
theorem closes_law (m : Int) (ks : List Nat) (hk : ∀ k ∈ ks, k < 6) :
    frmN m (oneN nHost [⟨#[97]⟩] ++ oneN nCon (ks.map allW)) = (⟨0, 0, ks.any (fun k => decide (k < 2)) || (decide (m = 0) && !ks.any (fun k => decide (k = 2 ∨ k = 3))), false⟩, 0) := by
  obtain ⟨s1, s2, s3, s4, s5⟩ := n_same
  obtain ⟨t1, t2, t3, t4, t5⟩ := c_same
  have v1 : valsF (oneN nHost [⟨#[97]⟩] ++ oneN nCon (ks.map allW)) nHost = [⟨#[97]⟩] := by rw [vals_app, vals_one, vals_one, s1, t1]; simp
  have v2 : valsF (oneN nHost [⟨#[97]⟩] ++ oneN nCon (ks.map allW)) nTE = [] := by rw [vals_app, vals_one, vals_one, s2, t2]; simp
  have v3 : valsF (oneN nHost [⟨#[97]⟩] ++ oneN nCon (ks.map allW)) nCL = [] := by rw [vals_app, vals_one, vals_one, s3, t3]; simp
  have v4 : valsF (oneN nHost [⟨#[97]⟩] ++ oneN nCon (ks.map allW)) nCon = ks.map allW := by rw [vals_app, vals_one, vals_one, s4, t4]; simp
  have v5 : valsF (oneN nHost [⟨#[97]⟩] ++ oneN nCon (ks.map allW)) nExp = [] := by rw [vals_app, vals_one, vals_one, s5, t5]; simp
  have hb : bodyS m (oneN nHost [⟨#[97]⟩] ++ oneN nCon (ks.map allW)) = (0, 0, 0) := by unfold bodyS; rw [v2, v3]; simp
  rw [frm_plain (by rw [v1]; exact host_one ⟨0, by decide⟩) (by rw [hb]) (by rw [v4, words_toks ks hk]; simp) (by rw [v5]; simp), hb, v4, close_words m ks hk]
end Go.Proofs.YtcliapfoimnkiaaDoor
