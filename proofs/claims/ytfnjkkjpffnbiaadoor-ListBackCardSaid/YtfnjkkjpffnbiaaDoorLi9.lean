/- What the laws of chapter 9 share. Conditions: none. -/
import Derived.Test.YtfnjkkjpffnbiaaDoorKn9
import Derived.Test.YtfnjkkjpffnbiaaDoorRh9
import Derived.Test.YtfnjkkjpffnbiaaDoorOpen
namespace Go.Proofs.YtfnjkkjpffnbiaaDoor
open Go.RowKit
set_option linter.unusedVariables false

theorem strs_of {W : World} {v : Value} (h : IsStrs W v) : ∃ ts, StrsAt W v ts ∧ (∀ t ∈ ts, t.size ≤ 140737488351232) ∧ ts.length ≤ 140737488351232 := by
  rcases h with ⟨a, cap, rfl⟩ | ⟨b, off, len, cap, f, rfl, h0, hl, hb, hc, hz⟩
  · exact ⟨[], .inl ⟨rfl, a, cap, rfl⟩, (fun _ h => by cases h), by simp⟩
  · refine ⟨(List.range len).map f, .inr ⟨b, off, cap, by simp, by simp; omega, hb, fun j hj => ?_⟩, fun t ht => ?_, by simp; omega⟩
    · have hj2 : j < len := by simpa using hj
      rw [hc j hj2]; simp
    · obtain ⟨j, hj, rfl⟩ := List.mem_map.1 ht
      exact hz j (by simpa using hj)
/-- What both Tokens answer, by the list and the word alone. -/
def tokM (ts : List ByteArray) : List ByteArray := ((toksO ts).getD []).map ba
def tokK (ts : List ByteArray) : Bool := (toksO ts).isSome
def TokN (w : World) (ts : List ByteArray) (e : Ending) (w' : World) : Prop :=
  ∃ a c, e = .returned (.tuple #[.slice a (tokM ts).length c, .bool (tokK ts)]) ∧ StrsAt w' (.slice a (tokM ts).length c) (tokM ts) ∧ Below w.heap.size w w'
theorem tok_ans {w w' : World} {ts : List ByteArray} {e : Ending} (h : TokAns w ts e w') : TokN w ts e w' := by
  obtain ⟨hb, he⟩ := h
  unfold TokN tokM tokK
  cases hL : toksO ts with
  | none =>
    rw [hL] at he
    exact ⟨none, 0, he, .inl ⟨rfl, none, 0, rfl⟩, hb⟩
  | some L =>
    rw [hL] at he
    obtain ⟨v, rfl, hr⟩ := he
    have hs := row_strs hr
    obtain ⟨a, c, hv⟩ := hs.len
    subst hv
    exact ⟨a, c, rfl, hs, hb⟩
theorem tokM_len {ts : List ByteArray} (hs : sizes ts ≤ 1000000) : (tokM ts).length ≤ 1000000 := by
  unfold tokM
  rw [List.length_map]
  cases hL : toksO ts with
  | none => simp
  | some L => exact Nat.le_trans (toksO_len hL) hs
/-- What both Params answer, by the list and the word alone. -/
def parM (s : ByteArray) : List PV := (parsL s.data.toList).getD []
def parK (s : ByteArray) : Bool := (parsL s.data.toList).isSome
def ParN (w : World) (s : ByteArray) (e : Ending) (w' : World) : Prop :=
  ∃ a c, e = .returned (.tuple #[.slice a (parM s).length c, .bool (parK s)]) ∧ ParAt w' (.slice a (parM s).length c) (parM s) ∧ Below w.heap.size w w'
theorem par_ans {t : TypeId} {w w' : World} {s : ByteArray} {e : Ending} (h : PrAns t w s e w') : ParN w s e w' := by
  obtain ⟨hb, he⟩ := h
  unfold ParN parM parK
  cases hL : parsL s.data.toList with
  | none =>
    rw [hL] at he
    exact ⟨none, 0, he, .inl ⟨rfl, none, 0, rfl⟩, hb⟩
  | some L =>
    rw [hL] at he
    obtain ⟨v, rfl, hr⟩ := he
    have hs := row_pars hr
    obtain ⟨a, c, hv⟩ := hs.len
    subst hv
    exact ⟨a, c, rfl, hs, hb⟩
theorem parM_len (s : ByteArray) : (parM s).length ≤ 1000000 := by
  unfold parM
  cases hL : parsL s.data.toList with
  | none => simp
  | some L => have := pars_len 16 _ _ hL; simp; omega
theorem trim_len (l : List UInt8) : (trimL l).length ≤ l.length := trimL_le l
theorem tokO_size : ∀ {a : List (List UInt8)} {L : List (List UInt8)}, tokO a = some L → ∀ {x}, x ∈ L → ∃ p ∈ a, x.length ≤ p.length
  | [], L, h, x, hx => by simp [tokO] at h; subst h; simp at hx
  | p :: r, L, h, x, hx => by
    simp only [tokO] at h
    cases hp : tokP p with
    | none => rw [hp] at h; simp at h
    | some y =>
      rw [hp] at h
      cases hr : tokO r with
      | none => rw [hr] at h; simp at h
      | some z =>
        rw [hr] at h; simp at h; subst h
        rw [List.mem_append] at hx
        rcases hx with hx | hx
        · refine ⟨p, by simp, ?_⟩
          unfold tokP at hp; split at hp
          · simp at hp; subst hp; simp at hx
          · split at hp
            · simp at hp; subst hp; simp at hx; subst hx
              have := trim_len p
              unfold lowL; rw [List.length_map]; exact this
            · simp at hp
        · obtain ⟨q, hq, hle⟩ := tokO_size hr hx
          exact ⟨q, by simp [hq], hle⟩
theorem partsO_size {ts : List ByteArray} {p : List UInt8} (h : p ∈ partsO ts) : p.length ≤ sizes ts := by
  unfold partsO at h
  obtain ⟨t, ht, hp⟩ := List.mem_flatMap.1 h
  have h1 := splitAcc_mem t.data.toList [] p hp
  obtain ⟨j, hj, rfl⟩ := List.mem_iff_getElem.1 ht
  have h2 := sizes_at ts j hj
  have h3 : ts[j].data.toList.length = ts[j].size := rfl
  simp only [List.length_nil] at h1; omega
theorem heavy_no {n m : Nat} (h : ¬ n < m) : decide (n < m) = false := by simpa using h
end Go.Proofs.YtfnjkkjpffnbiaaDoor
