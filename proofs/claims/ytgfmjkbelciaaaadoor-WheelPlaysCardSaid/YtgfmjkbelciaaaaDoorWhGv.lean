/- Rows of handles that a law keeps, and handles that are none of a timer. -/
import Derived.Test.YtgfmjkbelciaaaaDoorWhRn
import Derived.Test.YtgfmjkbelciaaaaDoorSlabO
import Derived.Deep.AppendLies
namespace Go.Proofs.YtgfmjkbelciaaaaDoor
open Go.RowKit
set_option maxRecDepth 10000
set_option linter.unusedVariables false
set_option linter.unusedSimpArgs false

def InI64 (p : Int × Int) : Prop := (-9223372036854775808 ≤ p.1 ∧ p.1 ≤ 9223372036854775807) ∧ (-9223372036854775808 ≤ p.2 ∧ p.2 ≤ 9223372036854775807)
theorem own_pairs {w : World} {t : TypeId} {b n c : Nat} {l : List (Int × Int)} (h : OwnPairs w t (.slice (some ⟨b, 0, none⟩) n c) l) (hn : l.length = n) (hl : ∀ p ∈ l, InI64 p) : Pairs w b l := fun j p hp => by
  subst hn
  have hj : j < l.length := (List.getElem?_eq_some_iff.1 hp).1
  have hf := flat_at l j p hp
  have hi := hl p (List.mem_of_getElem? hp)
  exact ⟨by rw [World.ownsRow.cellAt h (j * 2) (by omega), hf.1], by rw [World.ownsRow.cellAt h (j * 2 + 1) (by omega), hf.2], hi.1, hi.2⟩
/-- Nothing is in use. -/
theorem is_none {S : Slb} {now : Nat} (h : POk S now []) (a b : Int) : S.is a b = false := by
  cases e : S.is a b with
  | false => rfl
  | true =>
    obtain ⟨-, -, h2, -⟩ := Slb.is_lt e
    obtain ⟨m, hm, -⟩ := h.all _ h2
    cases hm
theorem taken_none {S : Slb} (h : ∀ a b, S.is a b = false) (l : List (Int × Int)) : S.taken l = 0 ∧ S.takes l = S := by
  induction l with
  | nil => exact ⟨rfl, rfl⟩
  | cons p l ih =>
    have e : S.take1 p = S := by unfold Slb.take1; rw [if_neg (by rw [h]; simp)]
    constructor
    · show (S.is p.1 p.2).toNat + (S.take1 p).taken l = 0
      rw [e, h, ih.1]; rfl
    · show (S.take1 p).takes l = S
      rw [e, ih.2]
/-- The handles that were given first. -/
def firsts (k : Nat) : List (Int × Int) := (List.range k).map fun (i : Nat) => ((i : Int), (1 : Int))
theorem firsts_succ (k : Nat) : firsts (k + 1) = firsts k ++ [((k : Int), 1)] := by simp [firsts, List.range_succ]
theorem firsts_len (k : Nat) : (firsts k).length = k := by simp [firsts]
theorem firsts_in {k : Nat} (hk : k ≤ 4096) : ∀ p ∈ firsts k, InI64 p := fun p hp => by
  obtain ⟨i, hi, rfl⟩ := List.mem_map.1 hp
  have := List.mem_range.1 hi
  exact ⟨⟨by show _ ≤ (i : Int); omega, by show (i : Int) ≤ _; omega⟩, by show (_ : Int) ≤ 1; omega, by show (1 : Int) ≤ _; omega⟩
theorem firsts_head {k : Nat} (hk : 1 ≤ k) : (firsts k)[0]? = some (0, 1) := by
  unfold firsts
  rw [List.getElem?_map, List.getElem?_range (by omega)]; rfl
theorem hand_one (a b : Int) : ∀ u ∈ [Value.int .i64 a, Value.int .i64 b], u.oneCell' = true := by simp [Value.oneCell']
end Go.Proofs.YtgfmjkbelciaaaaDoor
