/- The library's SplitSeq at a comma gives the parts of a text, in order, each once. Conditions: a text within the reach. -/
import Derived.Test.YtdalomhcglbhjaaGreatDoorIt
import Derived.Test.YtdalomhcglbhjaaGreatDoorLiM
import Derived.Test.YtdalomhcglbhjaaGreatDoorSh9
import Derived.Lib.IndexLaws
import Derived.Shelf.Abstract
import Derived.Shelf.RegionOpen
import Derived.WalkKit
import Derived.OwnWalkIn
import Derived.TacticsInMore
import Derived.LoopNIn
import Derived.LoopIn
namespace Go.Proofs.YtdalomhcglbhjaaGreatDoor
open Go.RowKit Go.Shelf
attribute [local go_sem] Oper.semAt_some
set_option linter.unusedVariables false

def ba (l : List UInt8) : ByteArray := ⟨l.toArray⟩
def partsB (s : ByteArray) : List ByteArray := (splitC s.data.toList).map ba
theorem ba_data (s : ByteArray) : ba s.data.toList = s := by
  apply Go.WideShapes.bytes_inj; rfl
theorem ba_list (l : List UInt8) : (ba l).data.toList = l := rfl
theorem partsB_none {s : ByteArray} (h : Lib.indexByte s.data.toList 44 = -1) : partsB s = [s] := by
  unfold partsB splitC
  rw [splitAcc_no s.data.toList [] (fun x hx e => by
    obtain ⟨k, hk⟩ := List.getElem?_of_mem hx
    exact Lib.indexByte_none h k (by rw [hk, e]))]
  simp [ba_data]
theorem partsB_some {s : ByteArray} {i : Nat} (h : Lib.indexByte s.data.toList 44 = (i : Int)) : i < s.size ∧ partsB s = s.extract 0 i :: partsB (s.extract (i + 1) s.size) := by
  obtain ⟨h1, h2⟩ := Lib.indexByte_some h
  have hlt : i < s.size := by
    have := (List.getElem?_eq_some_iff.1 h1).1; exact this
  refine ⟨hlt, ?_⟩
  have hsplit : s.data.toList = s.data.toList.take i ++ 44 :: s.data.toList.drop (i + 1) := by
    conv => lhs; rw [← List.take_append_drop i s.data.toList, List.drop_eq_getElem_cons (by exact hlt)]
    congr 2
    have := (List.getElem?_eq_some_iff.1 h1).2; exact this
  have hno : ∀ x ∈ s.data.toList.take i, x ≠ 44 := fun x hx e => by
    obtain ⟨k, hk⟩ := List.getElem?_of_mem hx
    rw [List.getElem?_take] at hk
    split at hk
    · rename_i hki; exact h2 k hki (by rw [hk, e])
    · cases hk
  unfold partsB splitC
  rw [hsplit, splitAcc_at _ _ _ hno]
  have e1 : ba ([] ++ s.data.toList.take i) = s.extract 0 i := by
    apply Go.WideShapes.bytes_inj
    rw [ByteArray.data_extract, Array.toList_extract]; simp [ba]
  have e2 : (s.extract (i + 1) s.size).data.toList = s.data.toList.drop (i + 1) := by
    rw [ByteArray.data_extract, Array.toList_extract]
    show (s.data.toList.drop (i + 1)).take _ = _
    rw [List.take_of_length_le]; rw [List.length_drop]; show s.size - (i + 1) ≤ _; omega
  rw [List.map_cons, e1, e2]; rfl
theorem extract_size (s : ByteArray) (i j : Nat) (h : j ≤ s.size) : (s.extract i j).size = j - i := by
  have h1 : (s.extract i j).data.toList.length = (s.extract i j).size := rfl
  have h2 : s.data.toList.length = s.size := rfl
  rw [← h1, ByteArray.data_extract, Array.toList_extract]
  simp only [List.extract, List.length_take, List.length_drop]
  omega

/-- What the iterator's boxes hold. -/
structure Trio (b : Nat) (s : ByteArray) (W : World) : Prop where
  s0 : Boxed W b 9 (.string s)
  s1 : Boxed W (b + 1) 9 (.string { data := #[44] })
  s2 : Boxed W (b + 2) 3 (.int .i64 0)
theorem Trio.box {b : Nat} {s : ByteArray} {W W' : World} (h : Trio b s W) (hb : Box3 b W W') : Trio b s W' :=
  ⟨(hb b (by omega) (by omega)).trans h.s0, (hb (b + 1) (by omega) (by omega)).trans h.s1, (hb (b + 2) (by omega) (by omega)).trans h.s2⟩
theorem Trio.set {b : Nat} {s : ByteArray} {W : World} (h : Trio b s W) (t : ByteArray) : Trio b t (W.setCell ⟨b, 0, none⟩ (.string t)) :=
  ⟨h.s0.set _, h.s1.other (by omega) _, h.s2.other (by omega) _⟩
theorem Trio.below {b : Nat} {s : ByteArray} {W W' : World} (h : Trio b s W) (hb : Below W.heap.size W W') : Trio b s W' :=
  ⟨(hb.block b h.s0.lt).trans h.s0, (hb.block _ h.s1.lt).trans h.s1, (hb.block _ h.s2.lt).trans h.s2⟩
def leftOf (b : Nat) (W : World) : Nat := match W.cell? ⟨b, 0, none⟩ with | some (.string t) => t.size | _ => 0
theorem leftOf_eq {b : Nat} {s : ByteArray} {W : World} (h : Trio b s W) : leftOf b W = s.size := by unfold leftOf; rw [h.s0.cell]


end Go.Proofs.YtdalomhcglbhjaaGreatDoor
