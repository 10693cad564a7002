/- The library's SplitSeq at a comma gives the parts of a text, in order, each once. Conditions: a text within the reach. -/
import Derived.Test.YtgkhelbpccehcaaGreatDoorIt
import Derived.Test.YtgkhelbpccehcaaGreatDoorLiM
import Derived.Test.YtgkhelbpccehcaaGreatDoorSh9
import Derived.Lib.IndexLaws
import Derived.Shelf.Abstract
import Derived.Shelf.RegionOpen
import Derived.WalkKit
import Derived.OwnWalkIn
import Derived.TacticsInMore
import Derived.LoopNIn
import Derived.LoopIn
namespace Go.Proofs.YtgkhelbpccehcaaGreatDoor
open Go.RowKit Go.Shelf
attribute [local go_sem] Oper.semAt_some
set_option linter.unusedVariables false

def ba (l : List UInt8) : ByteArray := ⟨l.toArray⟩
def partsB (s : ByteArray) : List ByteArray := (splitC s.data.toList).map ba
theorem ba_data (s : ByteArray) : ba s.data.toList = s := by
  apply Go.WideShapes.bytes_inj; rfl
theorem ba_list (l : List UInt8) : (ba l).data.toList = l := rfl
theorem partsB_none {s : ByteArray} (h : Lib.indexByte s.data.toList 44 = -1) : partsB s = [s] := by
  unfold partsB splitC
  rw [splitAcc_no s.data.toList [] (fun x hx e => by
    obtain ⟨k, hk⟩ := List.getElem?_of_mem hx
    exact Lib.indexByte_none h k (by rw [hk, e]))]
  simp [ba_data]
theorem partsB_some {s : ByteArray} {i : Nat} (h : Lib.indexByte s.data.toList 44 = (i : Int)) : i < s.size ∧ partsB s = s.extract 0 i :: partsB (s.extract (i + 1) s.size) := by
  obtain ⟨h1, h2⟩ := Lib.indexByte_some h
  have hlt : i < s.size := by
    have := (List.getElem?_eq_some_iff.1 h1).1; exact this
  refine ⟨hlt, ?_⟩
  have hsplit : s.data.toList = s.data.toList.take i ++ 44 :: s.data.toList.drop (i + 1) := by
    conv => lhs; rw [← List.take_append_drop i s.data.toList, List.drop_eq_getElem_cons (by exact hlt)]
    congr 2
    have := (List.getElem?_eq_some_iff.1 h1).2; exact this
  have hno : ∀ x ∈ s.data.toList.take i, x ≠ 44 := fun x hx e => by
    obtain ⟨k, hk⟩ := List.getElem?_of_mem hx
    rw [List.getElem?_take] at hk
    split at hk
    · rename_i hki; exact h2 k hki (by rw [hk, e])
    · cases hk
  unfold partsB splitC
  rw [hsplit, splitAcc_at _ _ _ hno]
  have e1 : ba ([] ++ s.data.toList.take i) = s.extract 0 i := by
    apply Go.WideShapes.bytes_inj
    rw [ByteArray.data_extract, Array.toList_extract]; simp [ba]
  have e2 : (s.extract (i + 1) s.size).data.toList = s.data.toList.drop (i + 1) := by
    rw [ByteArray.data_extract, Array.toList_extract]
    show (s.data.toList.drop (i + 1)).take _ = _
    rw [List.take_of_length_le]; rw [List.length_drop]; show s.size - (i + 1) ≤ _; omega
  rw [List.map_cons, e1, e2]; rfl
theorem extract_size (s : ByteArray) (i j : Nat) (h : j ≤ s.size) : (s.extract i j).size = j - i := by
  have h1 : (s.extract i j).data.toList.length = (s.extract i j).size := rfl
  have h2 : s.data.toList.length = s.size := rfl
  rw [← h1, ByteArray.data_extract, Array.toList_extract]
  simp only [List.extract, List.length_take, List.length_drop]
  omega

/-- What the iterator's boxes hold. -/
structure Trio (b : Nat) (s : ByteArray) (W : World) : Prop where
  s0 : Boxed W b 9 (.string s)
  s1 : Boxed W (b + 1) 9 (.string { data := #[44] })
  s2 : Boxed W (b + 2) 3 (.int .i64 0)
theorem Trio.box {b : Nat} {s : ByteArray} {W W' : World} (h : Trio b s W) (hb : Box3 b W W') : Trio b s W' :=
  ⟨(hb b (by omega) (by omega)).trans h.s0, (hb (b + 1) (by omega) (by omega)).trans h.s1, (hb (b + 2) (by omega) (by omega)).trans h.s2⟩
theorem Trio.set {b : Nat} {s : ByteArray} {W : World} (h : Trio b s W) (t : ByteArray) : Trio b t (W.setCell ⟨b, 0, none⟩ (.string t)) :=
  ⟨h.s0.set _, h.s1.other (by omega) _, h.s2.other (by omega) _⟩
theorem Trio.below {b : Nat} {s : ByteArray} {W W' : World} (h : Trio b s W) (hb : Below W.heap.size W W') : Trio b s W' :=
  ⟨(hb.block b h.s0.lt).trans h.s0, (hb.block _ h.s1.lt).trans h.s1, (hb.block _ h.s2.lt).trans h.s2⟩
def leftOf (b : Nat) (W : World) : Nat := match W.cell? ⟨b, 0, none⟩ with | some (.string t) => t.size | _ => 0
theorem leftOf_eq {b : Nat} {s : ByteArray} {W : World} (h : Trio b s W) : leftOf b W = s.size := by unfold leftOf; rw [h.s0.cell]

set_option maxRecDepth 100000 in
set_option maxHeartbeats 2000000 in
theorem split_gives (n : Nat) (hn : 1 ≤ n) (b : Nat) (s : ByteArray) (w : World) (hs : s.size ≤ 140737488351232) (h3 : Trio b s w) :
    Gives Fence.wide n Tryz.prog 219 #[.pointer (some ⟨b + 1, 0, none⟩), .pointer (some ⟨b, 0, none⟩), .pointer (some ⟨b + 2, 0, none⟩)] (fun x : ByteArray => #[Value.string x]) b (partsB s) w := by
  intro l J Jx W hW hJ hY h0
  have hT := h3.below hW
  refine callsIn_of_wp Tryz.func219 rfl trivial ?_ rfl
  simp only [Tryz.ntmps219, List.size_toArray, List.length_cons, List.length_nil, Nat.reduceAdd, Nat.reduceSub, Array.replicate_succ, Array.replicate_zero, List.push_toArray, List.append_toArray, List.nil_append, List.cons_append]
  have c0 := hT.s0.cell
  have c1 := hT.s1.cell
  have c2 := hT.s2.cell
  gi_wp2
  gi_loopw [] (fun wr => ∃ (pre : List ByteArray) (rest : ByteArray), partsB s = pre ++ partsB rest ∧ rest.size ≤ s.size ∧ J pre wr ∧ Trio b rest wr) (fun wr => leftOf b wr)
  case atStart => exact ⟨[], s, rfl, Nat.le_refl _, h0, hT⟩
  case round =>
    clear c0 c1 c2
    obtain ⟨pre, rest, hp, hsz, hj, hr⟩ := hrel
    have c0 := hr.s0.cell
    have c1 := hr.s1.cell
    have c2 := hr.s2.cell
    have HL := Lib.hid (leftOf_eq hr)
    have HR := Lib.hid hr
    have HP := Lib.hid hp
    clear hr hp
    rcases Int.lt_or_le (Lib.indexByte rest.data.toList 44) 0 with hi | hi
    · have hm : Lib.indexByte rest.data.toList 44 = -1 := by have := Lib.indexByte_ge rest.data.toList 44; omega
      have hpp := partsB_none hm
      obtain ⟨fn, tmps, assign, body, hy, hR⟩ := hY pre rest wr hj ⟨[], by rw [HP.out, hpp]⟩
      have HQ := Lib.hid hpp
      clear hi hpp
      gi_wp2_with (refine ⟨trivial, ?_⟩; gi_at_call 144; refine (callsIn_wide.2 (index_shelf rest 44 _)).mono ?_; rintro e w' ⟨rfl, rfl⟩; rw [hm])
      refine hR.mono ?_
      rintro e W3 (⟨rfl, hJ3, hk3⟩ | ⟨rfl, hJx3⟩)
      · gi_wp2
        go_end0
        exact ⟨⟨_, rfl⟩, .inl (by rw [HP.out, HQ.out]; exact hJ3)⟩
      · gi_wp2
        go_end0
        exact ⟨⟨_, rfl⟩, .inr ⟨_, [], by rw [HP.out, HQ.out, List.append_nil], hJx3⟩⟩
    · obtain ⟨i, hm⟩ : ∃ i : Nat, Lib.indexByte rest.data.toList 44 = (i : Int) := ⟨_, (Int.toNat_of_nonneg hi).symm⟩
      obtain ⟨hlt, hpp⟩ := partsB_some hm
      obtain ⟨fn, tmps, assign, body, hy, hR⟩ := hY pre (rest.extract 0 i) wr hj ⟨_, by rw [HP.out, hpp]⟩
      have HQ := Lib.hid hpp
      clear hi hpp
      gi_wp2_with (refine ⟨trivial, ?_⟩; gi_at_call 144; refine (callsIn_wide.2 (index_shelf rest 44 _)).mono ?_; rintro e w' ⟨rfl, rfl⟩; rw [hm])
      refine hR.mono ?_
      rintro e W3 (⟨rfl, hJ3, hk3⟩ | ⟨rfl, hJx3⟩)
      · have ht := HR.out.box hk3
        have d0 := ht.s0.cell
        have d1 := ht.s1.cell
        have f0 := ht.s0.frozen
        have HT := Lib.hid ht
        have HJ := Lib.hid (hJ _ _ _ hJ3 (grownBy_setCell' W3 b (.string (rest.extract (i + 1) rest.size))))
        clear ht hJ3
        gi_wp2
        go_roundw
        case rel => exact ⟨pre ++ [rest.extract 0 i], rest.extract (i + 1) rest.size, by rw [HP.out, HQ.out]; simp, by rw [extract_size _ _ _ (Nat.le_refl _)]; omega, HJ.out, HT.out.set _⟩
        case measure => rw [HL.out, leftOf_eq (HT.out.set _), extract_size _ _ _ (Nat.le_refl _)]; omega
      · gi_wp2
        refine bodyPost_ret (results_none rfl _ _ _) rfl ?_
        exact ⟨⟨_, rfl⟩, .inr ⟨_, partsB (rest.extract (i + 1) rest.size), by rw [HP.out, HQ.out]; simp, hJx3⟩⟩

/-- What SplitSeq answers. -/
def SeqAt (s : ByteArray) (w : World) (e : Ending) (w' : World) : Prop :=
  e = .returned (.func (.func 219) #[] #[.pointer (some ⟨w.heap.size + 1, 0, none⟩), .pointer (some ⟨w.heap.size, 0, none⟩), .pointer (some ⟨w.heap.size + 2, 0, none⟩)]) ∧
    Trio w.heap.size s w' ∧ Below w.heap.size w w' ∧ KeepsOthers w w' ∧ w'.heap.size = w.heap.size + 3
set_option maxRecDepth 10000 in
theorem splitseq (s : ByteArray) (w : World) : Calls Tryz.prog 209 #[.string s, .string { data := #[44] }, .int .i64 0] w (SeqAt s w) := by
  go_enter Tryz.func209, Tryz.ntmps209
  go_wp2
  go_ret
  have e0 := Boxed.new w 9 (.string s)
  have e1 := Boxed.new (w.alloc (.cells #[.string s] 9)) 9 (.string { data := #[44] })
  have e2 := Boxed.new ((w.alloc (.cells #[.string s] 9)).alloc (.cells #[.string { data := #[44] }] 9)) 3 (.int .i64 0)
  simp only [World.size_alloc] at e1 e2
  exact ⟨by simp, ⟨(e0.alloc _).alloc _, e1.alloc _, e2⟩, (((Below.refl _ w).alloc (Nat.le_refl _) _).alloc (by simp) _).alloc (by simp; omega) _, ((KeepsOthers.alloc _ _).trans (KeepsOthers.alloc _ _)).trans (KeepsOthers.alloc _ _), by simp⟩
theorem splitSeq_a (s : ByteArray) (w : World) : Calls Tryz.prog 193 #[.string s, .string { data := #[44] }] w (SeqAt s w) := by
  go_enter Tryz.func193, Tryz.ntmps193
  go_wp2_with (go_at_call 209; refine (splitseq _ _).mono ?_; rintro e w1 ⟨rfl, h⟩; have H := Lib.hid h; clear h)
  go_ret
  exact ⟨rfl, H.out⟩
end Go.Proofs.YtgkhelbpccehcaaGreatDoor
