/- Parse of the code and of the document. Conditions: a line of at most a million bytes. -/
import Derived.Test.YtcliapfoimnkiaaGreatDoorFg10
import Derived.Lib.IndexLaws
namespace Go.Proofs.YtcliapfoimnkiaaGreatDoor
open Go.RowKit
set_option linter.unusedVariables false
set_option linter.unusedSimpArgs false

/-- Where the first colon stands; -1. -/
def colon (s : ByteArray) : Int := Lib.indexByte s.data.toList 58
theorem at_list (s : ByteArray) (j : Nat) (h : j < s.size) : s.data.toList[j]? = some s[j] := by rw [List.getElem?_eq_getElem (by exact h)]; rfl
theorem colon_none {s : ByteArray} (h : ∀ j (hj : j < s.size), s[j] ≠ 58) : colon s = -1 := by
  unfold colon
  rcases Int.lt_or_le (Lib.indexByte s.data.toList 58) 0 with h1 | h1
  · have := Lib.indexByte_ge s.data.toList 58; omega
  · obtain ⟨o, ho⟩ := Int.eq_ofNat_of_zero_le h1
    have hs := (Lib.indexByte_some ho).1
    obtain ⟨hlt, e⟩ := List.getElem?_eq_some_iff.1 hs
    exact absurd e (h o hlt)
theorem colon_some {s : ByteArray} {i : Nat} (hi : i < s.size) (h : s[i] = 58) (h0 : ∀ j (hj : j < s.size), j < i → s[j] ≠ 58) : colon s = i := by
  unfold colon
  rcases Int.lt_or_le (Lib.indexByte s.data.toList 58) 0 with h1 | h1
  · have h2 := Lib.indexByte_ge s.data.toList 58
    exact absurd (by rw [at_list s i hi, h]) (Lib.indexByte_none (show Lib.indexByte s.data.toList 58 = -1 by omega) i)
  · obtain ⟨o, ho⟩ := Int.eq_ofNat_of_zero_le h1
    have hs := Lib.indexByte_some ho
    obtain ⟨hlt, e⟩ := List.getElem?_eq_some_iff.1 hs.1
    rw [ho]
    rcases Nat.lt_trichotomy o i with hoi | hoi | hoi
    · exact absurd e (h0 o hlt hoi)
    · rw [hoi]
    · exact absurd (by rw [at_list s i hi, h]) (hs.2 i hoi)
theorem colon_cases (s : ByteArray) : (colon s = -1) ∨ ∃ i : Nat, colon s = i ∧ i < s.size := by
  rcases Int.lt_or_le (colon s) 0 with h1 | h1
  · have h2 := Lib.indexByte_ge s.data.toList 58
    unfold colon at h1 ⊢
    exact .inl (by omega)
  · obtain ⟨o, ho⟩ := Int.eq_ofNat_of_zero_le h1
    obtain ⟨hlt, _⟩ := List.getElem?_eq_some_iff.1 (Lib.indexByte_some (show Lib.indexByte s.data.toList 58 = o from ho)).1
    exact .inr ⟨o, ho, hlt⟩
def fldAt (s : ByteArray) (i : Nat) : FV := (s.extract 0 i, trimA (s.extract (i + 1) s.size))
def noF : FV := (⟨#[]⟩, ⟨#[]⟩)
/-- What Parse answers. -/
def parR (s : ByteArray) : FV × Int :=
  if 256 < s.size then (noF, 9)
  else if colon s = -1 then (noF, 8)
  else if okF (fldAt s (colon s).toNat) = true then (fldAt s (colon s).toNat, 0) else (noF, 8)
theorem parR_long {s : ByteArray} (h : 256 < s.size) : parR s = (noF, 9) := by unfold parR; rw [if_pos h]
theorem parR_none {s : ByteArray} (h : ¬ 256 < s.size) (h1 : colon s = -1) : parR s = (noF, 8) := by unfold parR; rw [if_neg h, if_pos h1]
theorem parR_bad {s : ByteArray} {i : Nat} (h : ¬ 256 < s.size) (h1 : colon s = i) (h2 : okF (fldAt s i) = false) : parR s = (noF, 8) := by
  unfold parR; rw [if_neg h, if_neg (by omega), h1, Int.toNat_natCast, if_neg (by rw [h2]; simp)]
theorem parR_yes {s : ByteArray} {i : Nat} (h : ¬ 256 < s.size) (h1 : colon s = i) (h2 : okF (fldAt s i) = true) : parR s = (fldAt s i, 0) := by
  unfold parR; rw [if_neg h, if_neg (by omega), h1, Int.toNat_natCast, if_pos h2]
theorem ext_sizeF (s : ByteArray) (i j : Nat) : (s.extract i j).size ≤ s.size := by
  rw [ByteArray.size_extract]; omega
theorem fldAt_size (s : ByteArray) (i : Nat) : (fldAt s i).1.size ≤ s.size ∧ (fldAt s i).2.size ≤ s.size :=
  ⟨ext_sizeF _ _ _, Nat.le_trans (trimA_size _) (ext_sizeF _ _ _)⟩
def FPAns (w : World) (s : ByteArray) (e : Ending) (w' : World) : Prop :=
  e = .returned (.tuple #[.agg #[.string (parR s).1.1, .string (parR s).1.2], .int .i64 (parR s).2]) ∧ Mods [] w w'
theorem ret_fld2 {fn : Func} {a : Act} {W : World} {R : Ending → World → Prop} {r : Nat} {x y : ByteArray} {t : TypeId} {q q2 : Tmp} {v : Value} (hres : fn.results = #[.cell q t, .tmp q2])
    (c0 : W.cell? ⟨r, 0, none⟩ = some (.string x)) (c1 : W.cell? ⟨r, 1, none⟩ = some (.string y))
    (ha : (isAgg t).run Tryz.prog W = .ok true W) (hs : (Go.sizeOf t).run Tryz.prog W = .ok 2 W)
    (h2 : a.tmps.getD q undef = .pointer (some ⟨r, 0, none⟩)) (h3 : a.tmps.getD q2 undef = v) (hd : a.defers = []) (hR : R (.returned (.tuple #[.agg #[.string x, .string y], v])) W) : bodyPost Tryz.prog fn R .ret a W := by
  refine bodyPost_ret (v := .tuple #[.agg #[.string x, .string y], v]) ?_ hd hR
  have g2 : a.tmps[q]?.getD undef = .pointer (some ⟨r, 0, none⟩) := by simpa using h2
  have g3 : a.tmps[q2]?.getD undef = v := by simpa using h3
  simp [results, hres, go_sem, g2, g3, c0, c1, ha, hs]

/-- The block of the result, when the world has turned by new memory alone. -/
theorem res_row {w w' : World} (h : Mods [] (w.alloc (.cells #[.string ⟨#[]⟩, .string ⟨#[]⟩] 35)) w') : Row w' w.heap.size 35 #[.string ⟨#[]⟩, .string ⟨#[]⟩] ∧ Mods [] w w' :=
  ⟨(Row.new w _ _).mods h (by simp), ((Mods.refl [] w).alloc _).trans h (fun _ h => nomatch h)⟩
theorem trim_nilK (w : World) : Calls Tryz.prog 53 #[.string { data := #[] }] w fun e w' => e = .returned (.string ⟨#[]⟩) ∧ Mods [] w w' := trimK ⟨#[]⟩ (by decide) w


end Go.Proofs.YtcliapfoimnkiaaGreatDoor
