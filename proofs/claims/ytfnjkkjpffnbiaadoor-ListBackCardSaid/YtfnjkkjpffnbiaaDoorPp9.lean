/- The code's tokenOrQuoted and param. Conditions: a text of at most a million bytes. -/
import Derived.Test.YtfnjkkjpffnbiaaDoorFt9
namespace Go.Proofs.YtfnjkkjpffnbiaaDoor
open Go.RowKit
set_option linter.unusedVariables false

/-- A struct of two texts in a block of its own. -/
def PB (t : TypeId) (W : World) (r : Nat) (a b : ByteArray) : Prop := W.heap[r]? = some (.cells #[.string a, .string b] t (0, 0))
theorem PB.new (t : TypeId) (W : World) (a b : ByteArray) : PB t (W.alloc (.cells #[.string a, .string b] t)) W.heap.size a b := World.alloc_heap_new W _
theorem PB.c0 {t : TypeId} {W : World} {r : Nat} {a b : ByteArray} (h : PB t W r a b) : W.cell? ⟨r, 0, none⟩ = some (.string a) := by simp [World.cell?, show W.heap[r]? = _ from h]
theorem PB.c1 {t : TypeId} {W : World} {r : Nat} {a b : ByteArray} (h : PB t W r a b) : W.cell? ⟨r, 1, none⟩ = some (.string b) := by simp [World.cell?, show W.heap[r]? = _ from h]
theorem PB.f0 {t : TypeId} {W : World} {r : Nat} {a b : ByteArray} (h : PB t W r a b) : W.frozen? ⟨r, 0, none⟩ = false := by simp [World.frozen?, show W.heap[r]? = _ from h]
theorem PB.f1 {t : TypeId} {W : World} {r : Nat} {a b : ByteArray} (h : PB t W r a b) : W.frozen? ⟨r, 1, none⟩ = false := by simp [World.frozen?, show W.heap[r]? = _ from h]
theorem PB.lt {t : TypeId} {W : World} {r : Nat} {a b : ByteArray} (h : PB t W r a b) : r < W.heap.size := (Array.getElem?_eq_some_iff.1 h).1
theorem PB.below {t : TypeId} {W W' : World} {r B : Nat} {a b : ByteArray} (h : PB t W r a b) (hb : Below B W W') (hr : r < B) : PB t W' r a b := (hb.block r hr).trans h
theorem PB.set0 {t : TypeId} {W : World} {r : Nat} {a b : ByteArray} (h : PB t W r a b) (c : ByteArray) : PB t (W.setCell ⟨r, 0, none⟩ (.string c)) r c b := by
  obtain ⟨hlt, hk⟩ := Array.getElem?_eq_some_iff.1 h
  show (W.heap.modify r _)[r]? = _
  rw [Array.getElem?_eq_getElem (by rw [Array.size_modify]; exact hlt), Array.getElem_modify_self, hk]
  rfl
theorem PB.set1 {t : TypeId} {W : World} {r : Nat} {a b : ByteArray} (h : PB t W r a b) (c : ByteArray) : PB t (W.setCell ⟨r, 1, none⟩ (.string c)) r a c := by
  obtain ⟨hlt, hk⟩ := Array.getElem?_eq_some_iff.1 h
  show (W.heap.modify r _)[r]? = _
  rw [Array.getElem?_eq_getElem (by rw [Array.size_modify]; exact hlt), Array.getElem_modify_self, hk]
  rfl

set_option maxRecDepth 10000 in
theorem toq_a (s : ByteArray) (w : World) (hs : s.size ≤ 1000000) : Calls Tryd.prog 50 #[.string s] w fun e w' =>
    e = .returned (.tuple #[.string ⟨(toqL s.data.toList).1.toArray⟩, .int .i64 ((toqL s.data.toList).2 : Int)]) ∧ Below w.heap.size w w' := by
  have hf := first_a s w hs
  by_cases h : tw s.data.toList = []
  · have hz : (firstB s).size = 0 := by show (tw s.data.toList).length = 0; rw [h]; rfl
    have hz2 := emp_yes hz
    have hz3 : (firstB s).toList.isEmpty = true := by rw [hz2]; rfl
    have HQ := Lib.hid (show toqL s.data.toList = qans s.data.toList by unfold toqL; rw [if_pos h])
    clear h hz
    go_enter Tryd.func50, Tryd.ntmps50
    go_wp2_with (first
      | (go_at_call 49; refine hf.mono ?_; rintro e w1 ⟨rfl, hb⟩; have HB := Lib.hid hb; clear hb)
      | (go_at_call 16; refine (quoted_a s _ hs).mono ?_; rintro e w2 ⟨rfl, hb⟩; have HB2 := Lib.hid hb; clear hb))
    go_ret2
    exact ⟨by rw [HQ.out]; rfl, HB.out.trans (HB2.out.mono HB.out.size)⟩
  · obtain ⟨hz2, hz3⟩ := emp_no (show 0 < (firstB s).size by show 0 < (tw s.data.toList).length; exact List.length_pos_iff.2 h)
    have HQ := Lib.hid (show toqL s.data.toList = (tw s.data.toList, (tw s.data.toList).length) by unfold toqL; rw [if_neg h])
    clear h
    go_enter Tryd.func50, Tryd.ntmps50
    go_wp2_with (go_at_call 49; refine hf.mono ?_; rintro e w1 ⟨rfl, hb⟩; have HB := Lib.hid hb; clear hb)
    go_ret2
    exact ⟨by rw [HQ.out]; rfl, HB.out⟩

/-- What param answers: name, value, how many bytes; nothing and 0. -/
def pres (s : ByteArray) : ByteArray × ByteArray × Nat :=
  match pStep s.data.toList with
  | none => (⟨#[]⟩, ⟨#[]⟩, 0)
  | some (p, rest) => (ba p.1, ba p.2, s.size - rest.length)
def PAns (w : World) (s : ByteArray) (e : Ending) (w' : World) : Prop :=
  e = .returned (.tuple #[.agg #[.string (pres s).1, .string (pres s).2.1], .int .i64 ((pres s).2.2 : Int)]) ∧ Below w.heap.size w w'
theorem ret_param {fn : Func} {a : Act} {W : World} {R : Ending → World → Prop} {r : Nat} {x y : ByteArray} {v : Value} {t : TypeId} (hres : fn.results = #[.cell 2 51, .tmp 3]) (hr : PB t W r x y)
    (h2 : a.tmps.getD 2 undef = .pointer (some ⟨r, 0, none⟩)) (h3 : a.tmps.getD 3 undef = v) (hd : a.defers = []) (hR : R (.returned (.tuple #[.agg #[.string x, .string y], v])) W) : bodyPost Tryd.prog fn R .ret a W := by
  refine bodyPost_ret (v := .tuple #[.agg #[.string x, .string y], v]) ?_ hd hR
  have g2 : a.tmps[2]?.getD undef = .pointer (some ⟨r, 0, none⟩) := by simpa using h2
  have g3 : a.tmps[3]?.getD undef = v := by simpa using h3
  have k0 := hr.c0
  have k1 := hr.c1
  simp [results, hres, go_sem, g2, g3, k0, k1]
theorem cut_yes {s : ByteArray} {c : UInt8} {r : List UInt8} (h : s.data.toList = c :: r) (w : World) : Calls Tryd.prog 48 #[.string s, .string { data := #[c] }] w fun e w' => e = .returned (.tuple #[.string (ba r), .bool true]) ∧ w = w' :=
  (cut_shelf s ⟨#[c]⟩ w).mono fun e w' ⟨he, hw⟩ => ⟨by
    rw [he]
    have h1 : Lib.hasPrefix s.data.toList [c] = true := by rw [prefix_one, h]; simp
    have h2 : Lib.trimPrefix s.data.toList [c] = r := by unfold Lib.trimPrefix; rw [h1, if_pos rfl, h]; rfl
    show Ending.returned (.tuple #[.string ⟨(Lib.trimPrefix s.data.toList [c]).toArray⟩, .bool (Lib.hasPrefix s.data.toList [c])]) = _
    rw [h1, h2]; rfl, hw.symm⟩
theorem cut_no {s : ByteArray} {c : UInt8} (h : ∀ r, s.data.toList ≠ c :: r) (w : World) : Calls Tryd.prog 48 #[.string s, .string { data := #[c] }] w fun e w' => e = .returned (.tuple #[.string s, .bool false]) ∧ w = w' :=
  (cut_shelf s ⟨#[c]⟩ w).mono fun e w' ⟨he, hw⟩ => ⟨by
    rw [he]
    have h1 : Lib.hasPrefix s.data.toList [c] = false := by
      rw [prefix_one]
      cases hl : s.data.toList with
      | nil => rfl
      | cons x r => have : x ≠ c := fun e => h r (by rw [hl, e])
                    simpa using this
    have h2 : Lib.trimPrefix s.data.toList [c] = s.data.toList := by unfold Lib.trimPrefix; rw [h1]; rfl
    show Ending.returned (.tuple #[.string ⟨(Lib.trimPrefix s.data.toList [c]).toArray⟩, .bool (Lib.hasPrefix s.data.toList [c])]) = _
    rw [h1, h2], hw.symm⟩
theorem pres_none {s : ByteArray} (h : pStep s.data.toList = none) : pres s = (⟨#[]⟩, ⟨#[]⟩, 0) := by unfold pres; rw [h]
theorem pres_some {s : ByteArray} {p : PV} {rest : List UInt8} (h : pStep s.data.toList = some (p, rest)) : pres s = (ba p.1, ba p.2, s.size - rest.length) := by unfold pres; rw [h]
theorem ba_size (l : List UInt8) : (ba l).size = l.length := rfl
theorem ext_drop (s : ByteArray) (k : Nat) : (s.extract k s.size).data.toList = s.data.toList.drop k := by
  rw [ext_list, List.take_of_length_le (by rw [List.length_drop]; exact Nat.le_refl _)]
end Go.Proofs.YtfnjkkjpffnbiaaDoor
