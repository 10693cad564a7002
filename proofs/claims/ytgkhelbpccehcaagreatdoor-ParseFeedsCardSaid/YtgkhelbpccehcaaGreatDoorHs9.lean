/- The code's Has answers whether a token is among those of its values; the law's texts and heavy. Conditions: at most a million bytes in all. -/
import Derived.Test.YtgkhelbpccehcaaGreatDoorTn9
import Derived.BigQuiet
import Derived.BigRegion
namespace Go.Proofs.YtgkhelbpccehcaaGreatDoor
open Go.RowKit
set_option linter.unusedVariables false

theorem row_strs {W : World} {base : Nat} {v : Value} {L : List (List UInt8)} (h : W.ownsRow base 9 1 v L.length (strs9 L)) : StrsAt W v (L.map ba) := by
  rcases h.2 with ⟨rfl, h0⟩ | ⟨g, cap, cur, rfl, hb, hg, hn, hm, hc, ht⟩
  · left
    have : L = [] := List.eq_nil_of_length_eq_zero h0
    subst this
    exact ⟨rfl, _, _, rfl⟩
  · by_cases h0 : L.length = 0
    · have : L = [] := List.eq_nil_of_length_eq_zero h0
      subst this
      exact Or.inl ⟨rfl, _, _, rfl⟩
    · right
      refine ⟨g, 0, cap, by rw [List.length_map], by rw [List.length_map]; omega, (Array.getElem?_eq_some_iff.1 hg).1, fun j hj => ?_⟩
      rw [List.length_map] at hj
      have hj2 : j < cur.toList.length := by simp; omega
      have e : cur.toList[j]? = some (strV L[j]) := by
        have h1 : (cur.toList.take (L.length * 1))[j]? = (strs9 L)[j]? := by rw [ht]
        rw [List.getElem?_take, if_pos (by omega)] at h1
        rw [h1]; simp [strs9, hj]
      simp only [World.cell?, hg, Nat.zero_add]
      have e2 : cur[j]? = some (strV L[j]) := by rw [← Array.getElem?_toList]; exact e
      simp [e2, strV, ba]
theorem StrsAt.below {W W' : World} {v : Value} {ts : List ByteArray} (h : StrsAt W v ts) (hb : Below W.heap.size W W') : StrsAt W' v ts := by
  rcases h with h | ⟨b, off, cap, hv, h0, hlt, hc⟩
  · exact .inl h
  · exact .inr ⟨b, off, cap, hv, h0, Nat.lt_of_lt_of_le hlt hb.size, fun j hj => (hb.cell (p := ⟨b, off + j, none⟩) hlt).trans (hc j hj)⟩
theorem contains_any (ts : List ByteArray) (v : Value) (x : ByteArray) (w : World) (h : StrsAt w v ts) (hs : ts.length ≤ 1000000) :
    Calls Tryz.prog 162 #[v, .string x] w fun e w' => e = .returned (.bool (Lib.containsS ts x)) ∧ w' = w := by
  rcases h with ⟨rfl, a, cap, rfl⟩ | ⟨b, off, cap, rfl, h0, hlt, hc⟩
  · exact contains_none a cap x w
  · have := contains_shelf b off ts.length cap ts x w (Nat.le_refl _) (by omega) (fun j hj => by rw [hc j hj, List.getD_eq_getElem?_getD, List.getElem?_eq_getElem hj]; rfl)
    rw [List.take_length] at this; exact this
theorem ba_inj {a b : List UInt8} (h : ba a = ba b) : a = b := by
  have := congrArg (fun t : ByteArray => t.data.toList) h
  exact this
theorem has_contains (L : List (List UInt8)) (t : List UInt8) : Lib.containsS (L.map ba) (ba t) = L.any (fun x => x == t) := by
  rw [Bool.eq_iff_iff, Lib.containsS_iff, List.any_eq_true]
  constructor
  · intro h
    obtain ⟨x, hx, e⟩ := List.mem_map.1 h
    exact ⟨x, hx, by rw [ba_inj e]; simp⟩
  · rintro ⟨x, hx, e⟩
    exact List.mem_map.2 ⟨x, hx, by rw [eq_of_beq e]⟩
def HasAns (w : World) (tok : ByteArray) (ts : List ByteArray) (e : Ending) (w' : World) : Prop :=
  e = .returned (.bool (hasL tok.data.toList ts)) ∧ Below w.heap.size w w'
theorem toksO_len {ts : List ByteArray} {L : List (List UInt8)} (h : toksO ts = some L) : L.length ≤ sizes ts := Nat.le_trans (tokO_len h) (partsO_len ts)


/-! ### The law's comparison of two lists of texts, and its measure -/
theorem bytes_eq {a b : ByteArray} (h : a = b) : (a.toList == b.toList) = true ∧ (a.toList != b.toList) = false := by rw [h]; simp
theorem bytes_ne {a b : ByteArray} (h : a ≠ b) : (a.toList == b.toList) = false ∧ (a.toList != b.toList) = true := by
  have : a.toList ≠ b.toList := fun e => h (by
    rw [ByteArray.toList_eq, ByteArray.toList_eq] at e
    exact Go.WideShapes.bytes_inj (by simpa using congrArg List.toArray e |> fun h => by simpa using h))
  simpa using this
theorem StrsAt.len {W : World} {v : Value} {ts : List ByteArray} (h : StrsAt W v ts) : ∃ a cap, v = .slice a ts.length cap := by
  rcases h with ⟨rfl, a, cap, rfl⟩ | ⟨b, off, cap, rfl, _⟩
  · exact ⟨a, cap, rfl⟩
  · exact ⟨_, cap, rfl⟩

theorem sizes_step (ts : List ByteArray) (k : Nat) (h : k < ts.length) : sizes (ts.take (k + 1)) = sizes (ts.take k) + 1 + ts[k].size := by
  rw [List.take_succ_eq_append_getElem h, sizes_append]; simp only [sizes]; omega
end Go.Proofs.YtgkhelbpccehcaaGreatDoor
