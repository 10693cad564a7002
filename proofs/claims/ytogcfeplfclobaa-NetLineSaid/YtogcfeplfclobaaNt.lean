/- Those who wait, in line, plainly. No text of the program. -/
import Derived.Test.YtogcfeplfclobaaNa
namespace Go.Proofs.Ytogcfeplfclobaa
open Go.RowKit
set_option linter.unusedVariables false
set_option linter.unusedSimpArgs false

/-- Who came, by their peers; the first i of them are open. -/
def lineC (i j : Nat) (p : Int) : Cn := { Cn.new p with opn := decide (j < i) }
def lineL (P : List Int) (i : Nat) : List Cn := P.mapIdx fun j p => lineC i j p
def lineS (b f : Int) (P : List Int) (i : Nat) : Nt := ⟨b, false, f, lineL P i, i⟩
theorem lineL_length (P : List Int) (i : Nat) : (lineL P i).length = P.length := by simp [lineL]
theorem lineL_at (P : List Int) (i j : Nat) : (lineL P i)[j]? = (P[j]?).map (lineC i j) := by simp [lineL]
theorem lineL_snoc (P : List Int) (p : Int) : lineL P 0 ++ [Cn.new p] = lineL (P ++ [p]) 0 := by
  simp [lineL, List.mapIdx_append, lineC, Cn.new]
theorem lineL_set (P : List Int) (i : Nat) {p : Int} (h : P[i]? = some p) : (lineL P i).set i { lineC i i p with opn := true } = lineL P (i + 1) := by
  apply List.ext_getElem?
  intro j
  rw [List.getElem?_set, lineL_at, lineL_at, lineL_length]
  have hi := (List.getElem?_eq_some_iff.1 h).1
  by_cases hj : i = j
  · subst hj
    rw [if_pos rfl, if_pos hi, h]
    simp [lineC]
  · rw [if_neg hj]
    cases P[j]? with
    | none => rfl
    | some q =>
      simp only [Option.map_some, lineC]
      congr 3
      simp; omega
theorem line_new (b : Int) : Nt.new b = lineS b 0 [] 0 := rfl
theorem line_inject (b f : Int) (P : List Int) (i : Nat) (k : Int) (hk : 0 ≤ k) : (lineS b f P i).inject k = lineS b k P i := by
  simp only [Nt.inject, lineS]
  rw [Int.max_eq_left hk]
theorem line_wait (b f : Int) (P : List Int) (i : Nat) : (lineS b f P i).wait = (P.length : Int) - i := by simp [Nt.wait, lineS, lineL_length]
theorem line_connE (b f : Int) (P : List Int) (p : Int) (h1 : 0 ≤ p) (h2 : p ≤ 255) (hl : P.length < 65536) : (lineS b f P 0).connE p = if b ≤ (P.length : Int) then 3 else 0 := by
  unfold Nt.connE
  rw [if_neg (by omega), line_wait]
  simp only [lineS, lineL_length, Bool.false_eq_true, if_false]
  by_cases h : b ≤ (P.length : Int)
  · rw [if_pos h, if_pos (.inl (by omega))]
  · rw [if_neg h, if_neg (by omega)]
theorem line_conn (b f : Int) (P : List Int) (p : Int) (h1 : 0 ≤ p) (h2 : p ≤ 255) (hl : P.length < 65536) (hb : (P.length : Int) < b) :
    (lineS b f P 0).connE p = 0 ∧ (lineS b f P 0).connN p = P.length ∧ (lineS b f P 0).conn p = lineS b f (P ++ [p]) 0 := by
  have he : (lineS b f P 0).connE p = 0 := by rw [line_connE b f P p h1 h2 hl, if_neg (by omega)]
  refine ⟨he, by unfold Nt.connN; rw [if_pos he]; simp [lineS, lineL_length], ?_⟩
  unfold Nt.conn
  rw [if_pos he]
  simp only [lineS]
  rw [lineL_snoc]
theorem line_full (b f : Int) (P : List Int) (p : Int) (h1 : 0 ≤ p) (h2 : p ≤ 255) (hl : P.length < 65536) (hb : b ≤ (P.length : Int)) :
    (lineS b f P 0).connE p = 3 ∧ (lineS b f P 0).connN p = 0 ∧ (lineS b f P 0).conn p = lineS b f P 0 := by
  have he : (lineS b f P 0).connE p = 3 := by rw [line_connE b f P p h1 h2 hl, if_pos hb]
  exact ⟨he, by unfold Nt.connN; rw [he]; rfl, by unfold Nt.conn; rw [he]; rfl⟩
theorem line_accE (b f : Int) (P : List Int) (i : Nat) : (lineS b f P i).accE = if (P.length : Int) - i = 0 then 2 else if 0 < f then 7 else 0 := by
  unfold Nt.accE
  rw [line_wait]
  rfl
theorem line_none (b f : Int) (P : List Int) (i : Nat) (h : i = P.length) : (lineS b f P i).accE = 2 ∧ (lineS b f P i).accC = 0 ∧ (lineS b f P i).accP = 0 ∧ (lineS b f P i).acc = lineS b f P i := by
  have he : (lineS b f P i).accE = 2 := by rw [line_accE, if_pos (by omega)]
  exact ⟨he, by unfold Nt.accC; rw [he]; rfl, by unfold Nt.accP; rw [he]; rfl, by unfold Nt.acc; rw [he]; rfl⟩
theorem line_fail (b f : Int) (P : List Int) (i : Nat) (h : i < P.length) (hf : 0 < f) : (lineS b f P i).accE = 7 ∧ (lineS b f P i).accC = 0 ∧ (lineS b f P i).accP = 0 ∧ (lineS b f P i).acc = lineS b (f - 1) P i := by
  have he : (lineS b f P i).accE = 7 := by rw [line_accE, if_neg (by omega), if_pos hf]
  exact ⟨he, by unfold Nt.accC; rw [he]; rfl, by unfold Nt.accP; rw [he]; rfl, by unfold Nt.acc; rw [he]; rfl⟩
theorem line_acc (b : Int) (P : List Int) (i : Nat) {p : Int} (h : P[i]? = some p) : (lineS b 0 P i).accE = 0 ∧ (lineS b 0 P i).accC = i ∧ (lineS b 0 P i).accP = p ∧ (lineS b 0 P i).acc = lineS b 0 P (i + 1) := by
  have hi := (List.getElem?_eq_some_iff.1 h).1
  have he : (lineS b 0 P i).accE = 0 := by rw [line_accE, if_neg (by omega)]; rfl
  have hg : (lineS b 0 P i).get ((lineS b 0 P i).first : Nat) = lineC i i p := by
    unfold Nt.get
    rw [Nt.at_nat]
    simp only [lineS]
    rw [lineL_at, h]
    rfl
  refine ⟨he, by unfold Nt.accC; rw [if_pos he]; rfl, by unfold Nt.accP; rw [if_pos he, hg]; rfl, ?_⟩
  unfold Nt.acc
  rw [if_pos he, hg]
  simp only [lineS]
  rw [lineL_set P i h]
theorem line_opens (P : List Int) (i : Nat) (h : i = P.length) : opens (lineL P i) = i := by
  subst h
  have : ∀ s ∈ lineL P P.length, s.opn = true := by
    intro s hs
    obtain ⟨j, hj⟩ := List.mem_iff_getElem?.1 hs
    rw [lineL_at] at hj
    cases hp : P[j]? with
    | none => rw [hp] at hj; cases hj
    | some p =>
      rw [hp] at hj
      injection hj with hj
      subst hj
      have := (List.getElem?_eq_some_iff.1 hp).1
      simp [lineC, this]
  unfold opens
  rw [List.countP_eq_length.2 this, lineL_length]
#print axioms line_acc
end Go.Proofs.Ytogcfeplfclobaa
