/- The code's tokenOrQuoted and param. Conditions: a text of at most a million bytes. -/
import Derived.Test.YtgkhelbpccehcaaGreatDoorFt9
import Derived.Test.YtgkhelbpccehcaaGreatDoorTokR
import Derived.Deep.CutBlock
import Derived.Test.YtgkhelbpccehcaaGreatDoorRt9
import Derived.Deep.RegionWith
import Derived.Deep.RegionHeld3
import Derived.Test.YtgkhelbpccehcaaGreatDoorMem
import Derived.Test.YtgkhelbpccehcaaGreatDoorTrim
import Derived.Test.YtgkhelbpccehcaaGreatDoorVal
import Derived.Maps.AppendAt
import Derived.Lib.Join
import Derived.Deep.QuietTactic
import Derived.BigQuiet
import Derived.BigRegion
import Derived.Laws.IdiomStrings
import Derived.Maps.OwnIn
import Derived.RangeFuncBox
import Derived.Shelf.Strings.OnBuilder
import Derived.Shelf.Strings.Search2
import Derived.Test.YtgkhelbpccehcaaGreatDoorProg
namespace Go.Proofs.YtgkhelbpccehcaaGreatDoor
open Go.RowKit
set_option linter.unusedVariables false

/-- A struct of two texts in a block of its own. -/
def PB (t : TypeId) (W : World) (r : Nat) (a b : ByteArray) : Prop := W.heap[r]? = some (.cells #[.string a, .string b] t (0, 0))
theorem PB.new (t : TypeId) (W : World) (a b : ByteArray) : PB t (W.alloc (.cells #[.string a, .string b] t)) W.heap.size a b := World.alloc_heap_new W _
theorem PB.c0 {t : TypeId} {W : World} {r : Nat} {a b : ByteArray} (h : PB t W r a b) : W.cell? ⟨r, 0, none⟩ = some (.string a) := by simp [World.cell?, show W.heap[r]? = _ from h]
theorem PB.c1 {t : TypeId} {W : World} {r : Nat} {a b : ByteArray} (h : PB t W r a b) : W.cell? ⟨r, 1, none⟩ = some (.string b) := by simp [World.cell?, show W.heap[r]? = _ from h]
theorem PB.f0 {t : TypeId} {W : World} {r : Nat} {a b : ByteArray} (h : PB t W r a b) : W.frozen? ⟨r, 0, none⟩ = false := by simp [World.frozen?, show W.heap[r]? = _ from h]
theorem PB.f1 {t : TypeId} {W : World} {r : Nat} {a b : ByteArray} (h : PB t W r a b) : W.frozen? ⟨r, 1, none⟩ = false := by simp [World.frozen?, show W.heap[r]? = _ from h]
theorem PB.lt {t : TypeId} {W : World} {r : Nat} {a b : ByteArray} (h : PB t W r a b) : r < W.heap.size := (Array.getElem?_eq_some_iff.1 h).1
theorem PB.below {t : TypeId} {W W' : World} {r B : Nat} {a b : ByteArray} (h : PB t W r a b) (hb : Below B W W') (hr : r < B) : PB t W' r a b := (hb.block r hr).trans h
theorem PB.set0 {t : TypeId} {W : World} {r : Nat} {a b : ByteArray} (h : PB t W r a b) (c : ByteArray) : PB t (W.setCell ⟨r, 0, none⟩ (.string c)) r c b := by
  obtain ⟨hlt, hk⟩ := Array.getElem?_eq_some_iff.1 h
  show (W.heap.modify r _)[r]? = _
  rw [Array.getElem?_eq_getElem (by rw [Array.size_modify]; exact hlt), Array.getElem_modify_self, hk]
  rfl
theorem PB.set1 {t : TypeId} {W : World} {r : Nat} {a b : ByteArray} (h : PB t W r a b) (c : ByteArray) : PB t (W.setCell ⟨r, 1, none⟩ (.string c)) r a c := by
  obtain ⟨hlt, hk⟩ := Array.getElem?_eq_some_iff.1 h
  show (W.heap.modify r _)[r]? = _
  rw [Array.getElem?_eq_getElem (by rw [Array.size_modify]; exact hlt), Array.getElem_modify_self, hk]
  rfl

set_option maxRecDepth 10000 in
theorem toq_a (s : ByteArray) (w : World) (hs : s.size ≤ 1000000) : Calls Tryz.prog 214 #[.string s] w fun e w' =>
    e = .returned (.tuple #[.string ⟨(toqL s.data.toList).1.toArray⟩, .int .i64 ((toqL s.data.toList).2 : Int)]) ∧ Below w.heap.size w w' := by
  have hf := first_a s w hs
  by_cases h : tw s.data.toList = []
  · have hz : (firstB s).size = 0 := by show (tw s.data.toList).length = 0; rw [h]; rfl
    have hz2 := emp_yes hz
    have hz3 : (firstB s).toList.isEmpty = true := by rw [hz2]; rfl
    have HQ := Lib.hid (show toqL s.data.toList = qans s.data.toList by unfold toqL; rw [if_pos h])
    clear h hz
    go_enter Tryz.func214, Tryz.ntmps214
    go_wp2_with (first
      | (go_at_call 213; refine hf.mono ?_; rintro e w1 ⟨rfl, hb⟩; have HB := Lib.hid hb; clear hb)
      | (go_at_call 221; refine (quoted_a s _ hs).mono ?_; rintro e w2 ⟨rfl, hb⟩; have HB2 := Lib.hid hb; clear hb))
    go_ret2
    exact ⟨by rw [HQ.out]; rfl, HB.out.trans (HB2.out.mono HB.out.size)⟩
  · obtain ⟨hz2, hz3⟩ := emp_no (show 0 < (firstB s).size by show 0 < (tw s.data.toList).length; exact List.length_pos_iff.2 h)
    have HQ := Lib.hid (show toqL s.data.toList = (tw s.data.toList, (tw s.data.toList).length) by unfold toqL; rw [if_neg h])
    clear h
    go_enter Tryz.func214, Tryz.ntmps214
    go_wp2_with (go_at_call 213; refine hf.mono ?_; rintro e w1 ⟨rfl, hb⟩; have HB := Lib.hid hb; clear hb)
    go_ret2
    exact ⟨by rw [HQ.out]; rfl, HB.out⟩

/-- What param answers: name, value, how many bytes; nothing and 0. -/
def pres (s : ByteArray) : ByteArray × ByteArray × Nat :=
  match pStep s.data.toList with
  | none => (⟨#[]⟩, ⟨#[]⟩, 0)
  | some (p, rest) => (ba p.1, ba p.2, s.size - rest.length)
def PAns (w : World) (s : ByteArray) (e : Ending) (w' : World) : Prop :=
  e = .returned (.tuple #[.agg #[.string (pres s).1, .string (pres s).2.1], .int .i64 ((pres s).2.2 : Int)]) ∧ Below w.heap.size w w'
theorem ret_param {fn : Func} {a : Act} {W : World} {R : Ending → World → Prop} {r : Nat} {x y : ByteArray} {v : Value} {t : TypeId} (hres : fn.results = #[.cell 2 199, .tmp 3]) (hr : PB t W r x y)
    (h2 : a.tmps.getD 2 undef = .pointer (some ⟨r, 0, none⟩)) (h3 : a.tmps.getD 3 undef = v) (hd : a.defers = []) (hR : R (.returned (.tuple #[.agg #[.string x, .string y], v])) W) : bodyPost Tryz.prog fn R .ret a W := by
  refine bodyPost_ret (v := .tuple #[.agg #[.string x, .string y], v]) ?_ hd hR
  have g2 : a.tmps[2]?.getD undef = .pointer (some ⟨r, 0, none⟩) := by simpa using h2
  have g3 : a.tmps[3]?.getD undef = v := by simpa using h3
  have k0 := hr.c0
  have k1 := hr.c1
  simp [results, hres, go_sem, g2, g3, k0, k1]
theorem cut_yes {s : ByteArray} {c : UInt8} {r : List UInt8} (h : s.data.toList = c :: r) (w : World) : Calls Tryz.prog 127 #[.string s, .string { data := #[c] }] w fun e w' => e = .returned (.tuple #[.string (ba r), .bool true]) ∧ w = w' :=
  (cut_shelf s ⟨#[c]⟩ w).mono fun e w' ⟨he, hw⟩ => ⟨by
    rw [he]
    have h1 : Lib.hasPrefix s.data.toList [c] = true := by rw [prefix_one, h]; simp
    have h2 : Lib.trimPrefix s.data.toList [c] = r := by unfold Lib.trimPrefix; rw [h1, if_pos rfl, h]; rfl
    show Ending.returned (.tuple #[.string ⟨(Lib.trimPrefix s.data.toList [c]).toArray⟩, .bool (Lib.hasPrefix s.data.toList [c])]) = _
    rw [h1, h2]; rfl, hw.symm⟩
theorem cut_no {s : ByteArray} {c : UInt8} (h : ∀ r, s.data.toList ≠ c :: r) (w : World) : Calls Tryz.prog 127 #[.string s, .string { data := #[c] }] w fun e w' => e = .returned (.tuple #[.string s, .bool false]) ∧ w = w' :=
  (cut_shelf s ⟨#[c]⟩ w).mono fun e w' ⟨he, hw⟩ => ⟨by
    rw [he]
    have h1 : Lib.hasPrefix s.data.toList [c] = false := by
      rw [prefix_one]
      cases hl : s.data.toList with
      | nil => rfl
      | cons x r => have : x ≠ c := fun e => h r (by rw [hl, e])
                    simpa using this
    have h2 : Lib.trimPrefix s.data.toList [c] = s.data.toList := by unfold Lib.trimPrefix; rw [h1]; rfl
    show Ending.returned (.tuple #[.string ⟨(Lib.trimPrefix s.data.toList [c]).toArray⟩, .bool (Lib.hasPrefix s.data.toList [c])]) = _
    rw [h1, h2], hw.symm⟩
theorem pres_none {s : ByteArray} (h : pStep s.data.toList = none) : pres s = (⟨#[]⟩, ⟨#[]⟩, 0) := by unfold pres; rw [h]
theorem pres_some {s : ByteArray} {p : PV} {rest : List UInt8} (h : pStep s.data.toList = some (p, rest)) : pres s = (ba p.1, ba p.2, s.size - rest.length) := by unfold pres; rw [h]
theorem ba_size (l : List UInt8) : (ba l).size = l.length := rfl
theorem ext_drop (s : ByteArray) (k : Nat) : (s.extract k s.size).data.toList = s.data.toList.drop k := by
  rw [ext_list, List.take_of_length_le (by rw [List.length_drop]; exact Nat.le_refl _)]
end Go.Proofs.YtgkhelbpccehcaaGreatDoor

/- The walk of the code's param. Conditions: a text of at most a million bytes. -/
namespace Go.Proofs.YtgkhelbpccehcaaGreatDoor
open Go.RowKit
set_option linter.unusedVariables false

set_option maxRecDepth 10000 in
set_option maxHeartbeats 2000000 in
theorem param_a (s : ByteArray) (w : World) (hs : s.size ≤ 1000000) : Calls Tryz.prog 198 #[.string s] w (PAns w s) := by
  have hz0 : (zeroValue 199).run Tryz.prog w = .ok (.agg #[.string { data := #[] }, .string { data := #[] }]) w := by kernel_rfl
  have hN0 := PB.new 199 w ⟨#[]⟩ ⟨#[]⟩
  have HN0 := Lib.hid hN0
  have HL0 := Lib.hid ((Below.refl w.heap.size w).alloc (Nat.le_refl _) (.cells #[.string { data := #[] }, .string { data := #[] }] 199))
  clear hN0
  by_cases h59 : ∃ r, s.data.toList = 59 :: r
  · obtain ⟨r, hr⟩ := h59
    have hC := cut_yes hr
    obtain ⟨B0, hB0⟩ : ∃ B0, B0 = ba r := ⟨_, rfl⟩
    rw [← hB0] at hC
    have hsz : s.size = r.length + 1 := by have : s.data.toList.length = s.size := rfl; rw [← this, hr]; rfl
    have hb0 : B0.size ≤ 1000000 := by rw [hB0, ba_size]; omega
    have hS := fun w => skip_a B0 w
    obtain ⟨B1, hB1⟩ : ∃ B1, B1 = skipB B0 := ⟨_, rfl⟩
    rw [← hB1] at hS
    have hb1 : B1.size ≤ 1000000 := by rw [hB1]; exact Nat.le_trans (skipB_size _) hb0
    have hF := fun w => first_a B1 w hb1
    obtain ⟨B2, hB2⟩ : ∃ B2, B2 = firstB B1 := ⟨_, rfl⟩
    rw [← hB2] at hF
    have hb2 : B2.size ≤ B1.size := by rw [hB2]; exact firstB_size _
    have e1 : B1.data.toList = tlL r := by rw [hB1, hB0]; rfl
    have e2 : B2.data.toList = tw (tlL r) := by rw [hB2]; show tw B1.data.toList = _; rw [e1]
    have HE1 := Lib.hid e1
    have HE2 := Lib.hid e2
    have HR := Lib.hid hr
    clear hB0 hB1 hB2 e1 e2 hr
    by_cases ht : tw (tlL r) = []
    · have hz : B2.size = 0 := by rw [← len_data, HE2.out, ht]; rfl
      have hz2 := emp_yes hz
      have hz3 : B2.toList.isEmpty = true := by rw [hz2]; rfl
      have HP := Lib.hid (pres_none (s := s) (by rw [HR.out]; unfold pStep; simp [ht]))
      clear hz ht
      go_enter Tryz.func198, Tryz.ntmps198
      go_wp2_with (first
        | (go_at_call 127; refine (hC _).mono ?_; rintro e w' ⟨rfl, rfl⟩)
        | (go_at_call 197; refine (hS _).mono ?_; rintro e w2 ⟨rfl, hb⟩; have hl := HL0.out.trans (hb.mono (by simp)); have HL1 := Lib.hid hl; have hp := HN0.out.below hb (by simp); have k0 := hp.c0; have k1 := hp.c1; have g0 := hp.f0; have g1 := hp.f1; have HN1 := Lib.hid hp; clear hb hp hl)
        | (go_at_call 213; refine (hF _).mono ?_; rintro e w3 ⟨rfl, hb⟩; have hl := HL1.out.trans (hb.mono HL1.out.size); have HL2 := Lib.hid hl; have hp := HN1.out.below hb HN1.out.lt; have k2 := hp.c0; have k3 := hp.c1; have g2 := hp.f0; have g3 := hp.f1; have HN2 := Lib.hid hp; clear hb hp hl))
      exact ret_param rfl ((HN2.out.set0 _).set1 _) rfl rfl rfl ⟨by rw [HP.out]; rfl, (HL2.out.setCell (p := ⟨w.heap.size, 0, none⟩) (Nat.le_refl _) _).setCell (p := ⟨w.heap.size, 1, none⟩) (Nat.le_refl _) _⟩
    · obtain ⟨hz2, hz3⟩ := emp_no (s := B2) (show 0 < B2.size by rw [← len_data, HE2.out]; exact List.length_pos_iff.2 ht)
      have hx : (B1.extract B2.size B1.size).data.toList = dwt (tlL r) := by
        rw [ext_drop, HE1.out]
        have : B2.size = (tw (tlL r)).length := by rw [← HE2.out]; rfl
        rw [this]; exact dwt_drop _
      have hdl : (dwt (tlL r)).length ≤ r.length := by
        have h1 := congrArg List.length (tw_dwt (tlL r)); rw [List.length_append] at h1
        have := tlL_le r; omega
      by_cases h61 : ∃ r3, dwt (tlL r) = 61 :: r3
      · obtain ⟨r3, hr3⟩ := h61
        have hC2 := cut_yes (hx.trans hr3)
        obtain ⟨B3, hB3⟩ : ∃ B3, B3 = ba r3 := ⟨_, rfl⟩
        rw [← hB3] at hC2
        have hl3 : B3.size + 1 ≤ r.length := by rw [hB3, ba_size]; have := congrArg List.length hr3; simp only [List.length_cons] at this; omega
        have hl3s : B3.size ≤ s.size := by omega
        have hT := fun w => toq_a B3 w (by omega)
        obtain ⟨B4, hB4⟩ : ∃ B4 : ByteArray, B4 = ⟨(toqL B3.data.toList).1.toArray⟩ := ⟨_, rfl⟩
        obtain ⟨m, hm⟩ : ∃ m, m = (toqL B3.data.toList).2 := ⟨_, rfl⟩
        rw [← hB4, ← hm] at hT
        have hml : m ≤ B3.size := by rw [hm]; exact (toq_le _).1
        have e3 : B3.data.toList = r3 := by rw [hB3]; rfl
        rw [e3] at hm hB4
        by_cases h0 : m = 0
        · have HP := Lib.hid (pres_none (s := s) (by rw [HR.out]; unfold pStep; simp only [if_true]; rw [if_neg ht, hr3]; simp only [if_true]; rw [if_pos (by rw [← hm]; exact h0)]))
          subst h0
          clear hx hr3 hB3 hB4 hm e3 ht hdl hsz
          go_enter Tryz.func198, Tryz.ntmps198
          go_wp2_with (first
            | (go_at_call 127; refine (hC _).mono ?_; rintro e w' ⟨rfl, rfl⟩; clear hC)
            | (go_at_call 127; refine (hC2 _).mono ?_; rintro e w' ⟨rfl, rfl⟩; clear hC2)
            | (go_at_call 197; refine (hS _).mono ?_; rintro e w2 ⟨rfl, hb⟩; have hl := HL0.out.trans (hb.mono (by simp)); have HL1 := Lib.hid hl; have hp := HN0.out.below hb (by simp); have k0 := hp.c0; have k1 := hp.c1; have g0 := hp.f0; have g1 := hp.f1; have HN1 := Lib.hid hp; clear hb hp hl)
            | (go_at_call 213; refine (hF _).mono ?_; rintro e w3 ⟨rfl, hb⟩; have hl := HL1.out.trans (hb.mono HL1.out.size); have HL2 := Lib.hid hl; have hp := HN1.out.below hb HN1.out.lt; have k2 := hp.c0; have k3 := hp.c1; have g2 := hp.f0; have g3 := hp.f1; have HN2 := Lib.hid hp; clear hb hp hl)
            | (go_at_call 214; refine (hT _).mono ?_; rintro e w4 ⟨rfl, hb⟩; have hl := HL2.out.trans (hb.mono HL2.out.size); have HL3 := Lib.hid hl; have hp := HN2.out.below hb HN2.out.lt; have k4 := hp.c0; have k5 := hp.c1; have g4 := hp.f0; have g5 := hp.f1; have HN3 := Lib.hid hp; clear hb hp hl))
          exact ret_param rfl ((HN3.out.set0 _).set1 _) rfl rfl rfl ⟨by rw [HP.out]; rfl, (HL3.out.setCell (p := ⟨w.heap.size, 0, none⟩) (Nat.le_refl _) _).setCell (p := ⟨w.heap.size, 1, none⟩) (Nat.le_refl _) _⟩
        · have HP := Lib.hid (pres_some (s := s) (p := (tw (tlL r), (toqL r3).1)) (rest := r3.drop m) (by rw [HR.out]; unfold pStep; simp only [if_true]; rw [if_neg ht, hr3]; simp only [if_true]; rw [if_neg (by rw [← hm]; exact h0), hm]))
          have hmz : ((m : Int) == 0) = false := by rw [beq_eq_false_iff_ne]; omega
          have HB2 := Lib.hid (show B2 = ba (tw (tlL r)) by rw [← HE2.out]; exact (ba_data _).symm)
          have HB4 := Lib.hid (show B4 = ba (toqL r3).1 from hB4)
          have HN := Lib.hid (show (((s.size - (r3.drop m).length : Nat)) : Int) = (s.size : Int) - (B3.size : Int) + (m : Int) by
            have : r3.length = B3.size := by rw [hB3]; rfl
            rw [List.length_drop]; omega)
          clear hx hr3 hB3 hB4 hm e3 ht hdl h0 hsz
          go_enter Tryz.func198, Tryz.ntmps198
          go_wp2_with (first
            | (go_at_call 127; refine (hC _).mono ?_; rintro e w' ⟨rfl, rfl⟩; clear hC)
            | (go_at_call 127; refine (hC2 _).mono ?_; rintro e w' ⟨rfl, rfl⟩; clear hC2)
            | (go_at_call 197; refine (hS _).mono ?_; rintro e w2 ⟨rfl, hb⟩; have hl := HL0.out.trans (hb.mono (by simp)); have HL1 := Lib.hid hl; have hp := HN0.out.below hb (by simp); have k0 := hp.c0; have k1 := hp.c1; have g0 := hp.f0; have g1 := hp.f1; have HN1 := Lib.hid hp; clear hb hp hl)
            | (go_at_call 213; refine (hF _).mono ?_; rintro e w3 ⟨rfl, hb⟩; have hl := HL1.out.trans (hb.mono HL1.out.size); have HL2 := Lib.hid hl; have hp := HN1.out.below hb HN1.out.lt; have k2 := hp.c0; have k3 := hp.c1; have g2 := hp.f0; have g3 := hp.f1; have HN2 := Lib.hid hp; clear hb hp hl)
            | (go_at_call 214; refine (hT _).mono ?_; rintro e w4 ⟨rfl, hb⟩; have hl := HL2.out.trans (hb.mono HL2.out.size); have HL3 := Lib.hid hl; have hp := HN2.out.below hb HN2.out.lt; have k4 := hp.c0; have k5 := hp.c1; have g4 := hp.f0; have g5 := hp.f1; have HN3 := Lib.hid hp; clear hb hp hl))
          exact ret_param rfl ((HN3.out.set0 _).set1 _) rfl rfl rfl ⟨by rw [HP.out, HB2.out, HB4.out, HN.out]; rfl, (HL3.out.setCell (p := ⟨w.heap.size, 0, none⟩) (Nat.le_refl _) _).setCell (p := ⟨w.heap.size, 1, none⟩) (Nat.le_refl _) _⟩
      · have hC20 := cut_no (s := B1.extract B2.size B1.size) (c := 61) (fun r3 e => h61 ⟨r3, hx.symm.trans e⟩)
        obtain ⟨B3, hB3⟩ : ∃ B3, B3 = B1.extract B2.size B1.size := ⟨_, rfl⟩
        have hC2 : ∀ w, Calls Tryz.prog 127 #[.string (B1.extract B2.size B1.size), .string { data := #[61] }] w fun e w' => e = .returned (.tuple #[.string B3, .bool false]) ∧ w = w' := fun w => by rw [hB3]; exact hC20 w
        have hl3 : B3.size ≤ r.length := by rw [← len_data, hB3, hx]; exact hdl
        have hl3s : B3.size ≤ s.size := by omega
        have HP := Lib.hid (pres_some (s := s) (p := (tw (tlL r), [])) (rest := dwt (tlL r)) (by
          rw [HR.out]; unfold pStep; simp only [if_true]; rw [if_neg ht]
          cases hd : dwt (tlL r) with
          | nil => rfl
          | cons e r3 =>
            have he : e ≠ 61 := fun e' => h61 ⟨r3, by rw [hd, e']⟩
            simp only [if_neg he]))
        have HB2 := Lib.hid (show B2 = ba (tw (tlL r)) by rw [← HE2.out]; exact (ba_data _).symm)
        have HN := Lib.hid (show (((s.size - (dwt (tlL r)).length : Nat)) : Int) = (s.size : Int) - (B3.size : Int) by
          have : (dwt (tlL r)).length = B3.size := by rw [hB3, ← hx]; rfl
          omega)
        clear hC20 hx hB3 ht hdl h61 hsz
        go_enter Tryz.func198, Tryz.ntmps198
        go_wp2_with (first
          | (go_at_call 127; refine (hC _).mono ?_; rintro e w' ⟨rfl, rfl⟩; clear hC)
          | (go_at_call 127; refine (hC2 _).mono ?_; rintro e w' ⟨rfl, rfl⟩; clear hC2)
          | (go_at_call 197; refine (hS _).mono ?_; rintro e w2 ⟨rfl, hb⟩; have hl := HL0.out.trans (hb.mono (by simp)); have HL1 := Lib.hid hl; have hp := HN0.out.below hb (by simp); have k0 := hp.c0; have k1 := hp.c1; have g0 := hp.f0; have g1 := hp.f1; have HN1 := Lib.hid hp; clear hb hp hl)
          | (go_at_call 213; refine (hF _).mono ?_; rintro e w3 ⟨rfl, hb⟩; have hl := HL1.out.trans (hb.mono HL1.out.size); have HL2 := Lib.hid hl; have hp := HN1.out.below hb HN1.out.lt; have k2 := hp.c0; have k3 := hp.c1; have g2 := hp.f0; have g3 := hp.f1; have HN2 := Lib.hid hp; clear hb hp hl))
        exact ret_param rfl ((HN2.out.set0 _).set1 _) rfl rfl rfl ⟨by rw [HP.out, HB2.out, HN.out]; rfl, (HL2.out.setCell (p := ⟨w.heap.size, 0, none⟩) (Nat.le_refl _) _).setCell (p := ⟨w.heap.size, 1, none⟩) (Nat.le_refl _) _⟩
  · have hC := cut_no (s := s) (c := 59) (fun r e => h59 ⟨r, e⟩)
    have HP := Lib.hid (pres_none (s := s) (by
      unfold pStep
      cases hl : s.data.toList with
      | nil => rfl
      | cons c r => have hc : c ≠ 59 := fun e => h59 ⟨r, by rw [hl, e]⟩
                    simp [hc]))
    clear h59
    go_enter Tryz.func198, Tryz.ntmps198
    go_wp2_with (go_at_call 127; refine (hC _).mono ?_; rintro e w' ⟨rfl, rfl⟩)
    exact ret_param rfl HN0.out rfl rfl rfl ⟨by rw [HP.out]; rfl, HL0.out⟩
end Go.Proofs.YtgkhelbpccehcaaGreatDoor

/- The code's Params. Conditions: a text of at most a million bytes. -/
namespace Go.Proofs.YtgkhelbpccehcaaGreatDoor
open Go.RowKit
set_option linter.unusedVariables false

def encPs (ps : List PV) : List Value := ps.flatMap fun p => [strV p.1, strV p.2]
theorem encPs_snoc (ps : List PV) (p : PV) : encPs (ps ++ [p]) = encPs ps ++ [strV p.1, strV p.2] := by simp [encPs]
/-- What Params answers: new memory, nothing that lay has turned. -/
def PrAns (t : TypeId) (w : World) (s : ByteArray) (e : Ending) (w' : World) : Prop :=
  Below w.heap.size w w' ∧
  match parsL s.data.toList with
  | some ps => ∃ v, e = .returned (.tuple #[v, .bool true]) ∧ w'.ownsRow w.heap.size t 2 v ps.length (encPs ps)
  | none => e = .returned (.tuple #[.slice none 0 0, .bool false])
theorem infoP : (Tryz.prog.info? 199).map (fun i => (i.zero, i.size, i.bytes)) = some (some (.agg #[.string ByteArray.empty, .string ByteArray.empty]), 2, 32) := by kernel_rfl
theorem infoP2 : (Tryz.prog.info? 148).map (fun i => (i.zero, i.size, i.bytes)) = some (some (.agg #[.string ByteArray.empty, .string ByteArray.empty]), 2, 32) := by kernel_rfl
theorem pres_zero {s : ByteArray} {x y : ByteArray} {n : Nat} (h : pres s = (x, y, n)) : (n = 0 ∧ pStep s.data.toList = none) ∨ ∃ p rest, n ≠ 0 ∧ n ≤ s.size ∧ pStep s.data.toList = some (p, rest) ∧ x = ba p.1 ∧ y = ba p.2 ∧ s.data.toList.drop n = rest := by
  unfold pres at h
  cases hp : pStep s.data.toList with
  | none => rw [hp] at h; injection h with h1 h2; injection h2 with h3 h4; exact .inl ⟨h4.symm, rfl⟩
  | some q =>
    obtain ⟨p, rest⟩ := q
    rw [hp] at h
    simp only [Prod.mk.injEq] at h
    obtain ⟨rfl, rfl, rfl⟩ := h
    have := pStep_count hp
    rw [len_data] at this
    exact .inr ⟨p, rest, by omega, by omega, rfl, rfl, rfl, this.2.2⟩

set_option maxRecDepth 10000 in
set_option maxHeartbeats 2000000 in
theorem params_a (s : ByteArray) (w : World) (hs : s.size ≤ 1000000) : Calls Tryz.prog 167 #[.string s] w (PrAns 199 w s) := by
  have hS0 := fun w => skip_a s w
  obtain ⟨r0, hr0⟩ : ∃ r0, r0 = skipB s := ⟨_, rfl⟩
  rw [← hr0] at hS0
  have hrl : r0.data.toList = tlL s.data.toList := by rw [hr0]; rfl
  have hrz : r0.size ≤ 1000000 := by rw [hr0]; exact Nat.le_trans (skipB_size s) hs
  have HRL := Lib.hid hrl
  have HRZ := Lib.hid hrz
  clear hr0 hrl hrz
  go_enter Tryz.func167, Tryz.ntmps167
  go_wp2_with (go_at_call 197; refine (hS0 _).mono ?_; rintro e w1 ⟨rfl, hb⟩; have HB1 := Lib.hid hb; clear hb)
  clear hS0
  go_loopw [4, 5] (fun v t wr => ∃ (ps : List PV) (rs : ByteArray), t = .string rs ∧ rs.size ≤ 1000000 ∧ tlL rs.data.toList = rs.data.toList ∧ ps.length ≤ 16 ∧ parsL s.data.toList = (parsF (16 - ps.length) rs.data.toList).map (ps ++ ·) ∧ Gat w 199 2 ps.length (encPs ps) v wr) (fun _ t _ => sizeV t)
  case atStart => exact ⟨[], r0, rfl, HRZ.out, by rw [HRL.out, tlL_idem], Nat.zero_le _, by rw [HRL.out, parsF_tl]; unfold parsL; cases parsF 16 s.data.toList <;> rfl, ⟨World.ownsRow_nil _ _ _ _, HB1.out⟩⟩
  case round =>
    obtain ⟨ps, rs, rfl, hrs, htl, h16, hp, hg⟩ := hrel
    have HTL := Lib.hid htl
    have HP := Lib.hid hp
    have HG := Lib.hid hg
    clear htl hp hg
    by_cases h0 : rs.size = 0
    · have hz2 := emp_yes h0
      have hz3 : rs.toList.isEmpty = true := by rw [hz2]; rfl
      have hall : parsL s.data.toList = some ps := by rw [HP.out, pars_end (by rw [HTL.out, nil_of_size h0])]; simp
      have HALL := Lib.hid hall
      obtain ⟨va, vc, rfl⟩ := HG.out.form
      clear h0 hall
      go_wp2
      go_ret2
      exact ⟨HG.out.low, by rw [HALL.out]; exact ⟨_, rfl, HG.out.row⟩⟩
    · obtain ⟨hz2, hz3⟩ := emp_no (s := rs) (by omega)
      have hne : tlL rs.data.toList ≠ [] := by rw [HTL.out]; intro e; exact h0 (by rw [← len_data, e]; rfl)
      have hpa := fun w => param_a rs w hrs
      obtain ⟨x, hx⟩ : ∃ x, x = (pres rs).1 := ⟨_, rfl⟩
      obtain ⟨y, hy⟩ : ∃ y, y = (pres rs).2.1 := ⟨_, rfl⟩
      obtain ⟨n, hn⟩ : ∃ n, n = (pres rs).2.2 := ⟨_, rfl⟩
      have hpr : pres rs = (x, y, n) := by rw [hx, hy, hn]
      unfold PAns at hpa
      rw [← hx, ← hy, ← hn] at hpa
      have HNE := Lib.hid hne
      clear hx hy hn hne
      rcases pres_zero hpr with ⟨rfl, hnone⟩ | ⟨p, rest, hn0, hns, hstep, rfl, rfl, hdrop⟩
      · have HN := Lib.hid (show parsL s.data.toList = none by rw [HP.out, pars_bad HNE.out (by rw [HTL.out]; exact hnone)]; rfl)
        clear hnone hpr
        go_wp2_with (go_at_call 198; refine (hpa _).mono ?_; rintro e w2 ⟨rfl, hb⟩; have HB2 := Lib.hid (HG.out.low.trans (hb.mono HG.out.low.size)); clear hb)
        go_ret2
        exact ⟨HB2.out.alloc HB2.out.size _, by rw [HN.out]; rfl⟩
      · have hnz : ((n : Int) == 0) = false := by rw [beq_eq_false_iff_ne]; omega
        by_cases hfull : ps.length = 16
        · have HN := Lib.hid (show parsL s.data.toList = none by rw [HP.out, hfull, pars_full HNE.out]; rfl)
          have hl16 : ((ps.length : Int) == 16) = true := by rw [hfull]; rfl
          obtain ⟨va, vc, rfl⟩ := HG.out.form
          clear hfull hpr hstep hdrop
          go_wp2_with (go_at_call 198; refine (hpa _).mono ?_; rintro e w2 ⟨rfl, hb⟩; have HB2 := Lib.hid (HG.out.low.trans (hb.mono HG.out.low.size)); clear hb)
          go_ret2
          exact ⟨HB2.out.alloc HB2.out.size _, by rw [HN.out]; rfl⟩
        · have hl16 : ((ps.length : Int) == 16) = false := by rw [beq_eq_false_iff_ne]; omega
          have HLT := Lib.hid (show ps.length + 1 ≤ 16 by omega)
          obtain ⟨va, vc, rfl⟩ := HG.out.form
          have hnext : parsL s.data.toList = (parsF (16 - (ps ++ [p]).length) (tlL rest)).map ((ps ++ [p]) ++ ·) := by
            rw [HP.out, parsF_tl, show 16 - ps.length = (16 - (ps ++ [p]).length) + 1 by simp; omega, pars_one HNE.out (by rw [HTL.out]; exact hstep), Option.map_map]
            cases parsF (16 - (ps ++ [p]).length) rest <;> simp
          have HX := Lib.hid hnext
          have hd2 : (rs.extract n rs.size).data.toList = rest := by rw [ext_drop]; exact hdrop
          have hS := fun w => skip_a (rs.extract n rs.size) w
          obtain ⟨r2, hr2⟩ : ∃ r2, r2 = skipB (rs.extract n rs.size) := ⟨_, rfl⟩
          rw [← hr2] at hS
          have hr2l : r2.data.toList = tlL rest := by rw [hr2]; show tlL (rs.extract n rs.size).data.toList = _; rw [hd2]
          have hr2s : r2.size < rs.size := by
            have h1 := skipB_size (rs.extract n rs.size)
            rw [← hr2, extract_size _ _ _ (Nat.le_refl _)] at h1; omega
          have HR2 := Lib.hid hr2l
          clear hpr hstep hdrop hnext hd2 hr2 hr2l hfull
          go_wp2_with (first
            | (go_at_call 198; refine (hpa _).mono ?_; rintro e w2 ⟨rfl, hb⟩; have hg2 := (HG.out.below hb).below ((Below.refl _ w2).alloc (Nat.le_refl _) (.cells #[.string (ba p.1), .string (ba p.2)] 199)); obtain ⟨g, n', c', w3, hrun, hg4⟩ := app_gat hg2 Tryz.underlying172 infoP rfl (by decide) (by omega) (by decide) [.string (ba p.1), .string (ba p.2)] rfl (by simp [Value.oneCell']); simp only [World.size_alloc] at hrun; have HG4 := Lib.hid hg4; clear hb hg2 hg4)
            | (at_builtin; refine wpList_run_app rfl (.tmp 26) (.tmp 28) 172 rfl rfl rfl hrun ?_)
            | (go_at_call 197; refine (hS _).mono ?_; rintro e w4 ⟨rfl, hb⟩; have hg5 := HG4.out.below hb; have HG5 := Lib.hid hg5; clear hb hg5))
          go_roundw
          case rel => exact ⟨ps ++ [p], r2, rfl, by omega, by rw [HR2.out, tlL_idem], by rw [List.length_append]; exact HLT.out, by rw [HR2.out]; exact HX.out, by rw [encPs_snoc, List.length_append]; exact HG5.out⟩
          case measure => exact hr2s
end Go.Proofs.YtgkhelbpccehcaaGreatDoor

/- The document's blanks and token. Conditions: a text of at most a million bytes. -/
namespace Go.Proofs.YtgkhelbpccehcaaGreatDoor
open Go.RowKit
set_option linter.unusedVariables false

theorem tk_more {p : UInt8 → Bool} : ∀ {l : List UInt8} {k : Nat} (hk : k < l.length), k ≤ (l.takeWhile p).length → p l[k] = true → k + 1 ≤ (l.takeWhile p).length
  | c :: r, 0, _, _, hb => by
    have hb : p c = true := hb
    rw [List.takeWhile_cons, if_pos hb]; simp
  | c :: r, k + 1, hk, hle, hb => by
    by_cases hc : p c = true
    · rw [List.takeWhile_cons, if_pos hc] at hle ⊢
      simp only [List.length_cons] at hle ⊢
      have := tk_more (l := r) (k := k) (by simp at hk; omega) (by omega) hb
      omega
    · rw [List.takeWhile_cons, if_neg hc] at hle; simp at hle
theorem tk_stop {p : UInt8 → Bool} : ∀ {l : List UInt8} {k : Nat} (hk : k < l.length), k ≤ (l.takeWhile p).length → p l[k] = false → (l.takeWhile p).length = k
  | c :: r, 0, _, _, hb => by
    have hb : p c = false := hb
    rw [List.takeWhile_cons, if_neg (by rw [hb]; simp)]; rfl
  | c :: r, k + 1, hk, hle, hb => by
    by_cases hc : p c = true
    · rw [List.takeWhile_cons, if_pos hc] at hle ⊢
      simp only [List.length_cons] at hle ⊢
      have := tk_stop (l := r) (k := k) (by simp at hk; omega) (by omega) hb
      omega
    · rw [List.takeWhile_cons, if_neg hc] at hle; simp at hle
theorem tk_le (p : UInt8 → Bool) (l : List UInt8) : (l.takeWhile p).length ≤ l.length := by
  have := congrArg List.length (List.takeWhile_append_dropWhile (p := p) (l := l)); rw [List.length_append] at this; omega
theorem tk_drop (p : UInt8 → Bool) (l : List UInt8) : l.drop (l.takeWhile p).length = l.dropWhile p := by
  have h := List.takeWhile_append_dropWhile (p := p) (l := l)
  conv => lhs; rw [← h]
  rw [List.drop_append_of_le_length (by rw [h]; exact Nat.le_refl _)]
  simp [h]
/-- How many blanks stand at the beginning; how many bytes the token there has. -/
def bkw (s : ByteArray) : Nat := (s.data.toList.takeWhile blk).length
def tkw (s : ByteArray) : Nat := (tw s.data.toList).length
theorem bkw_le (s : ByteArray) : bkw s ≤ s.size := tk_le blk _
theorem tkw_le (s : ByteArray) : tkw s ≤ s.size := tw_len _
theorem bkw_drop (s : ByteArray) : (s.extract (bkw s) s.size).data.toList = tlL s.data.toList := by rw [ext_drop]; exact tk_drop blk _
theorem tkw_drop (s : ByteArray) : (s.extract (tkw s) s.size).data.toList = dwt s.data.toList := by rw [ext_drop]; exact dwt_drop _
theorem tkw_take (s : ByteArray) : (s.extract 0 (tkw s)).data.toList = tw s.data.toList := by rw [ext_list, List.drop_zero, Nat.sub_zero]; exact tw_take _
set_option maxRecDepth 10000 in
theorem blanks_r (s : ByteArray) (w : World) (hs : s.size ≤ 1000000) : Calls Tryz.prog 115 #[.string s] w fun e w' => e = .returned (.int .i64 (bkw s : Int)) ∧ w = w' := by
  go_enter Tryz.func115, Tryz.ntmps115
  go_wp2
  go_loop [3] (fun i => ∃ (k : Nat), k ≤ s.size ∧ i = .int .i64 k ∧ k ≤ bkw s) (fun i => s.size - (intOf i).toNat)
  case atStart => exact ⟨0, Nat.zero_le _, rfl, Nat.zero_le _⟩
  case round =>
    obtain ⟨k, hk, rfl, hle⟩ := hrel
    have HLE := Lib.hid hle
    clear hle
    by_cases hlt : k < s.size
    · have hlt' : k < s.data.toList.length := hlt
      cases h9 : ((s[k].toNat : Int) == 9)
      · cases h32 : ((s[k].toNat : Int) == 32)
        · have HK := Lib.hid (show bkw s = k from tk_stop (p := blk) (l := s.data.toList) hlt' HLE.out (show blk s[k] = false from blk_no h9 h32))
          go_wp2
          go_ret
          exact ⟨by rw [HK.out]; rfl, rfl⟩
        · have HK := Lib.hid (show k + 1 ≤ bkw s from tk_more (p := blk) (l := s.data.toList) hlt' HLE.out (show blk s[k] = true from blk_32 h32))
          go_wp2
          go_round
          case rel => exact ⟨k + 1, by omega, by go_num, HK.out⟩
          case measure => simp [intOf]; omega
      · have HK := Lib.hid (show k + 1 ≤ bkw s from tk_more (p := blk) (l := s.data.toList) hlt' HLE.out (show blk s[k] = true from blk_9 h9))
        go_wp2
        go_round
        case rel => exact ⟨k + 1, by omega, by go_num, HK.out⟩
        case measure => simp [intOf]; omega
    · have HK := Lib.hid (show bkw s = k by have := HLE.out; have := bkw_le s; omega)
      go_wp2
      go_ret
      exact ⟨by rw [HK.out]; rfl, rfl⟩
set_option maxRecDepth 10000 in
theorem token_r (s : ByteArray) (w : World) (hs : s.size ≤ 1000000) : Calls Tryz.prog 116 #[.string s] w fun e w' => e = .returned (.int .i64 (tkw s : Int)) ∧ w = w' := by
  go_enter Tryz.func116, Tryz.ntmps116
  go_wp2
  go_loop [3] (fun i => ∃ (k : Nat), k ≤ s.size ∧ i = .int .i64 k ∧ k ≤ tkw s) (fun i => s.size - (intOf i).toNat)
  case atStart => exact ⟨0, Nat.zero_le _, rfl, Nat.zero_le _⟩
  case round =>
    obtain ⟨k, hk, rfl, hle⟩ := hrel
    have HLE := Lib.hid hle
    clear hle
    by_cases hlt : k < s.size
    · have hlt' : k < s.data.toList.length := hlt
      have hT := fun w => tok_r s[k] w
      cases hb : tokB s[k]
      · have HK := Lib.hid (show tkw s = k from tk_stop (p := tokB) (l := s.data.toList) hlt' HLE.out hb)
        rw [hb] at hT
        clear hb
        go_wp2_with (go_at_call 96; refine (hT _).mono ?_; rintro e w' ⟨rfl, rfl⟩)
        go_ret
        exact ⟨by rw [HK.out]; rfl, rfl⟩
      · have HK := Lib.hid (show k + 1 ≤ tkw s from tk_more (p := tokB) (l := s.data.toList) hlt' HLE.out hb)
        rw [hb] at hT
        clear hb
        go_wp2_with (go_at_call 96; refine (hT _).mono ?_; rintro e w' ⟨rfl, rfl⟩)
        go_round
        case rel => exact ⟨k + 1, by omega, by go_num, HK.out⟩
        case measure => simp [intOf]; omega
    · have HK := Lib.hid (show tkw s = k by have := HLE.out; have := tkw_le s; omega)
      go_wp2
      go_ret
      exact ⟨by rw [HK.out]; rfl, rfl⟩
end Go.Proofs.YtgkhelbpccehcaaGreatDoor

/- The document's Params. Conditions: a text of at most a million bytes. -/
namespace Go.Proofs.YtgkhelbpccehcaaGreatDoor
open Go.RowKit
set_option linter.unusedVariables false

theorem byte_is {c : UInt8} {n : Nat} (hn : n < 256) : (((c.toNat : Int) == (n : Int)) = true ∧ ((c.toNat : Int) != (n : Int)) = false ∧ c = UInt8.ofNat n) ∨ (((c.toNat : Int) == (n : Int)) = false ∧ ((c.toNat : Int) != (n : Int)) = true ∧ c ≠ UInt8.ofNat n) := by
  by_cases h : c = UInt8.ofNat n
  · exact .inl ⟨(byte_yes hn h).1, (byte_yes hn h).2, h⟩
  · exact .inr ⟨(byte_no hn h).1, (byte_no hn h).2, h⟩
theorem head_tail (s : ByteArray) (h : 0 < s.size) : s.data.toList = s[0] :: (s.extract 1 s.size).data.toList := by rw [ext_drop]; exact list_head s h
theorem pStep_no {c : UInt8} (h : c ≠ 59) (r : List UInt8) : pStep (c :: r) = none := by unfold pStep; simp [h]
theorem pStep_noname {r : List UInt8} (h : tw (tlL r) = []) : pStep (59 :: r) = none := by unfold pStep; simp [h]
theorem pStep_end {r : List UInt8} (h : tw (tlL r) ≠ []) (h2 : dwt (tlL r) = []) : pStep (59 :: r) = some ((tw (tlL r), []), []) := by unfold pStep; simp only [if_true]; rw [if_neg h, h2]
theorem pStep_bare {r : List UInt8} {e : UInt8} {r3 : List UInt8} (h : tw (tlL r) ≠ []) (h2 : dwt (tlL r) = e :: r3) (he : e ≠ 61) : pStep (59 :: r) = some ((tw (tlL r), []), e :: r3) := by unfold pStep; simp only [if_true]; rw [if_neg h, h2]; simp only [if_neg he]
theorem pStep_val {r : List UInt8} {r3 : List UInt8} (h : tw (tlL r) ≠ []) (h2 : dwt (tlL r) = 61 :: r3) (h3 : (toqL r3).2 ≠ 0) : pStep (59 :: r) = some ((tw (tlL r), (toqL r3).1), r3.drop (toqL r3).2) := by
  unfold pStep; simp only [if_true]; rw [if_neg h, h2]; simp only [if_true]; rw [if_neg h3]
theorem pStep_noval {r : List UInt8} {r3 : List UInt8} (h : tw (tlL r) ≠ []) (h2 : dwt (tlL r) = 61 :: r3) (h3 : (toqL r3).2 = 0) : pStep (59 :: r) = none := by
  unfold pStep; simp only [if_true]; rw [if_neg h, h2]; simp only [if_true]; rw [if_pos h3]
/-- One parameter more: what a round hands on. -/
theorem pars_next {s : ByteArray} {ps : List PV} {rs s1 rest : ByteArray} {p : PV} (hp : parsL s.data.toList = (parsF (16 - ps.length) rs.data.toList).map (ps ++ ·)) (h1 : s1.data.toList = tlL rs.data.toList) (hne : 0 < s1.size) (hl : ps.length + 1 ≤ 16)
    (hs : pStep s1.data.toList = some (p, rest.data.toList)) : parsL s.data.toList = (parsF (16 - (ps ++ [p]).length) rest.data.toList).map ((ps ++ [p]) ++ ·) := by
  rw [hp, show 16 - ps.length = (16 - (ps ++ [p]).length) + 1 by rw [List.length_append]; simp only [List.length_cons, List.length_nil]; omega,
    pars_one (by rw [← h1]; intro e; have : s1.size = 0 := (by rw [← len_data, e]; rfl); omega) (by rw [← h1]; exact hs), Option.map_map]
  cases parsF (16 - (ps ++ [p]).length) rest.data.toList <;> simp
theorem pars_no {s : ByteArray} {ps : List PV} {rs s1 : ByteArray} (hp : parsL s.data.toList = (parsF (16 - ps.length) rs.data.toList).map (ps ++ ·)) (h1 : s1.data.toList = tlL rs.data.toList) (hne : 0 < s1.size) (hs : pStep s1.data.toList = none) : parsL s.data.toList = none := by
  rw [hp, pars_bad (by rw [← h1]; intro e; have : s1.size = 0 := (by rw [← len_data, e]; rfl); omega) (by rw [← h1]; exact hs)]; rfl
def GP (w : World) (ps : List PV) (v : Value) (wr : World) : Prop := Gat w 148 2 ps.length (encPs ps) v wr
theorem GP.snoc {w wr : World} {ps : List PV} {v : Value} (h : GP w ps v wr) (hl : ps.length + 1 ≤ 16) (x y : ByteArray) :
    ∃ (g n' c' : Nat) (w' : World), (Builtin.append_ #[131, 131] 131 #[v, .slice (some ⟨wr.heap.size, 0, none⟩) 1 1]).run Tryz.prog (wr.alloc (.cells #[.string x, .string y] 148)) = .ok (.slice (some ⟨g, 0, none⟩) n' c') w' ∧
      GP w (ps ++ [(x.data.toList, y.data.toList)]) (.slice (some ⟨g, 0, none⟩) n' c') w' := by
  obtain ⟨g, n', c', w', hr, hg⟩ := app_gat h Tryz.underlying131 infoP2 rfl (by decide) (by omega) (by decide) [.string x, .string y] rfl (by simp [Value.oneCell'])
  refine ⟨g, n', c', w', hr, ?_⟩
  unfold GP
  rw [encPs_snoc, List.length_append]
  have e : ∀ z : ByteArray, strV z.data.toList = .string z := fun z => by unfold strV; congr 1
  rw [e, e]; exact hg
theorem GP.below {w wr w' : World} {ps : List PV} {v : Value} (h : GP w ps v wr) (hb : Below wr.heap.size wr w') : GP w ps v w' := Gat.below h hb
/-- A store into a block that is none of the row's. -/
theorem GP.set {w wr : World} {ps : List PV} {v : Value} {r j : Nat} {x : Value} (h : GP w ps v wr) (hr : w.heap.size ≤ r) (hne : v.ownBlock ≠ some r) : GP w ps v (wr.setCell ⟨r, j, none⟩ x) :=
  ⟨h.row.kept (row := some r) ⟨rfl, rfl, rfl, (KeepsWalks.setCell wr ⟨r, j, none⟩ x).size, fun k _ hk => Below.heap_setCell _ _ _ k (fun e => hk (by rw [e]))⟩ (by
    cases hv : v.ownBlock with
    | none => exact .inl rfl
    | some g => exact .inr fun e => hne (by rw [hv]; exact e)), h.low.setCell (p := ⟨r, j, none⟩) hr _⟩

set_option maxRecDepth 10000 in
set_option maxHeartbeats 4000000 in
theorem refparams (s : ByteArray) (w : World) (hs : s.size ≤ 1000000) : Calls Tryz.prog 95 #[.string s] w (PrAns 148 w s) := by
  go_enter Tryz.func95, Tryz.ntmps95
  go_wp2
  go_loopw [0, 4] (fun t v wr => ∃ (ps : List PV) (rs : ByteArray), t = .string rs ∧ rs.size ≤ 1000000 ∧ ps.length ≤ 16 ∧ parsL s.data.toList = (parsF (16 - ps.length) rs.data.toList).map (ps ++ ·) ∧ GP w ps v wr) (fun t _ _ => sizeV t)
  case atStart => exact ⟨[], s, rfl, hs, Nat.zero_le _, by unfold parsL; show parsF 16 _ = _; cases parsF 16 s.data.toList <;> rfl, ⟨World.ownsRow_nil _ _ _ _, Below.refl _ _⟩⟩
  case round =>
    obtain ⟨ps, rs, rfl, hrs, h16, hp, hg⟩ := hrel
    have HP := Lib.hid hp
    have HG := Lib.hid hg
    clear hp hg
    obtain ⟨va, vc, rfl⟩ := HG.out.form
    have hbk := bkw_le rs
    go_upto_region 3 with (go_at_call 115; refine (blanks_r rs _ hrs).mono ?_; rintro e w' ⟨rfl, rfl⟩)
    have hs1 := bkw_drop rs
    have hz1 : (rs.extract (bkw rs) rs.size).size ≤ rs.size := by rw [extract_size _ _ _ (Nat.le_refl _)]; omega
    obtain ⟨s1, he1⟩ : ∃ s1, s1 = rs.extract (bkw rs) rs.size := ⟨_, rfl⟩
    rw [← he1] at hs1 hz1 ⊢
    have H1 := Lib.hid hs1
    clear hs1 he1 hbk
    by_cases h0 : s1.size = 0
    · have hz2 := emp_yes h0
      have hz3 : s1.toList.isEmpty = true := by rw [hz2]; rfl
      have HALL := Lib.hid (show parsL s.data.toList = some ps by rw [HP.out, pars_end (by rw [← H1.out, nil_of_size h0])]; simp)
      clear h0
      go_wp2
      go_ret2
      exact ⟨HG.out.low, by rw [HALL.out]; exact ⟨_, rfl, HG.out.row⟩⟩
    · have h00 : 0 < s1.size := by omega
      obtain ⟨hz2, hz3⟩ := emp_no (s := s1) h00
      have HT := Lib.hid (head_tail s1 h00)
      rcases byte_is (c := s1[0]) (n := 59) (by decide) with ⟨-, b59', e59⟩ | ⟨-, b59', e59⟩
      · have b59 : ((s1[0].toNat : Int) != 59) = false := b59'
        clear b59'
        by_cases hfull : ps.length = 16
        · have hl16 : ((ps.length : Int) == 16) = true := by rw [hfull]; rfl
          have HN := Lib.hid (show parsL s.data.toList = none by
            rw [HP.out, hfull, pars_full (by rw [← H1.out]; intro e; have : s1.size = 0 := (by rw [← len_data, e]; rfl); omega)]; rfl)
          clear hfull e59
          go_wp2
          go_ret2
          exact ⟨HG.out.low, by rw [HN.out]; rfl⟩
        · have hl16 : ((ps.length : Int) == 16) = false := by rw [beq_eq_false_iff_ne]; omega
          have HLT := Lib.hid (show ps.length + 1 ≤ 16 by omega)
          clear hfull
          have HT2 := Lib.hid (show s1.data.toList = 59 :: (s1.extract 1 s1.size).data.toList by have := HT.out; rw [e59] at this; exact this)
          clear e59
          have h1le : 1 ≤ s1.size := h00
          go_upto_region 8 with fail
          have hzz : (s1.extract 1 s1.size).size ≤ s1.size - 1 := by rw [extract_size _ _ _ (Nat.le_refl _)]; exact Nat.le_refl _
          obtain ⟨s2, he2⟩ : ∃ s2, s2 = s1.extract 1 s1.size := ⟨_, rfl⟩
          rw [← he2] at HT2 hzz ⊢
          have hbk2 := bkw_le s2
          clear he2
          have hs2m : s2.size ≤ 1000000 := by omega
          go_upto_region 9 with (go_at_call 115; refine (blanks_r s2 _ hs2m).mono ?_; rintro e w' ⟨rfl, rfl⟩)
          have hs3 := bkw_drop s2
          have hz3' : (s2.extract (bkw s2) s2.size).size ≤ s2.size := by rw [extract_size _ _ _ (Nat.le_refl _)]; omega
          obtain ⟨s3, he3⟩ : ∃ s3, s3 = s2.extract (bkw s2) s2.size := ⟨_, rfl⟩
          rw [← he3] at hs3 hz3' ⊢
          have H3 := Lib.hid hs3
          have hs3m : s3.size ≤ 1000000 := by omega
          clear hs3 he3 hbk2
          have hn3 := tkw_le s3
          have hnt := tkw_take s3
          have hnd := tkw_drop s3
          have hTK := fun w => token_r s3 w hs3m
          obtain ⟨n, hn⟩ : ∃ n, n = tkw s3 := ⟨_, rfl⟩
          rw [← hn] at hn3 hnt hnd hTK
          have HNT := Lib.hid hnt
          have HND := Lib.hid hnd
          have HNL := Lib.hid (show n = (tw s3.data.toList).length from hn)
          clear hnt hnd hn
          by_cases hn0 : n = 0
          · have hnz : ((n : Int) == 0) = true := by rw [hn0]; rfl
            have HN := Lib.hid (pars_no HP.out H1.out h00 (by rw [HT2.out]; exact pStep_noname (by rw [← H3.out]; exact List.eq_nil_of_length_eq_zero (by rw [← HNL.out]; exact hn0))))
            subst hn0
            go_wp2_with (go_at_call 116; refine (hTK _).mono ?_; rintro e w' ⟨rfl, rfl⟩)
            go_ret2
            exact ⟨HG.out.low, by rw [HN.out]; rfl⟩
          · have hnz : ((n : Int) == 0) = false := by rw [beq_eq_false_iff_ne]; omega
            have HNE := Lib.hid (show tw (tlL s2.data.toList) ≠ [] by rw [← H3.out]; intro e; exact hn0 (by rw [HNL.out, e]; rfl))
            go_upto_region 14 with (go_at_call 116; refine (hTK _).mono ?_; rintro e w' ⟨rfl, rfl⟩)
            clear hTK
            have hz4 : (s3.extract n s3.size).size + n = s3.size := by rw [extract_size _ _ _ (Nat.le_refl _)]; omega
            obtain ⟨nm, hnm⟩ : ∃ nm, nm = s3.extract 0 n := ⟨_, rfl⟩
            obtain ⟨s4, he4⟩ : ∃ s4, s4 = s3.extract n s3.size := ⟨_, rfl⟩
            rw [← hnm] at HNT ⊢
            rw [← he4] at HND hz4 ⊢
            clear hnm he4
            have HNM := Lib.hid (show nm.data.toList = tw (tlL s2.data.toList) by rw [HNT.out, H3.out])
            have H4 := Lib.hid (show s4.data.toList = dwt (tlL s2.data.toList) by rw [HND.out, H3.out])
            have hg2 := HG.out.below ((Below.refl _ wr).alloc (Nat.le_refl _) (.cells #[.string nm, .string { data := #[] }] 148))
            have HG2 := Lib.hid hg2
            clear hg2
            by_cases h40 : s4.size = 0
            · have hz5 := emp_yes h40
              have hz6 : s4.toList.isEmpty = true := by rw [hz5]; rfl
              obtain ⟨g, n', c', w3, hrun, hg4⟩ := HG2.out.snoc HLT.out nm ⟨#[]⟩
              simp only [World.size_alloc] at hrun
              have HG4 := Lib.hid hg4
              have HX := Lib.hid (pars_next (rest := s4) (p := (nm.data.toList, [])) HP.out H1.out h00 HLT.out (by
                rw [HT2.out, pStep_end HNE.out (by rw [← H4.out, nil_of_size h40]), HNM.out, nil_of_size h40]))
              clear hg4 h40
              go_wp2_with (at_builtin; refine wpList_run_app rfl (.tmp 67) (.tmp 69) 131 rfl rfl rfl hrun ?_)
              go_roundw
              case rel => exact ⟨ps ++ [(nm.data.toList, [])], s4, rfl, by omega, by rw [List.length_append]; exact HLT.out, HX.out, HG4.out⟩
              case measure => simp only [sizeV]; omega
            · have h400 : 0 < s4.size := by omega
              obtain ⟨hz5, hz6⟩ := emp_no (s := s4) h400
              have HT4 := Lib.hid (head_tail s4 h400)
              rcases byte_is (c := s4[0]) (n := 61) (by decide) with ⟨b61', -, e61⟩ | ⟨b61', -, e61⟩
              · have b61 : ((s4[0].toNat : Int) == 61) = true := b61'
                clear b61'
                have HT5 := Lib.hid (show s4.data.toList = 61 :: (s4.extract 1 s4.size).data.toList by have := HT4.out; rw [e61] at this; exact this)
                clear e61
                have h4le : 1 ≤ s4.size := h400
                go_upto_region 16 with fail
                have hzz5 : (s4.extract 1 s4.size).size + 1 = s4.size := by rw [extract_size _ _ _ (Nat.le_refl _)]; omega
                obtain ⟨s5, he5⟩ : ∃ s5, s5 = s4.extract 1 s4.size := ⟨_, rfl⟩
                rw [← he5] at HT5 hzz5 ⊢
                clear he5
                have hs5m : s5.size ≤ 1000000 := by omega
                have H5 := Lib.hid (show dwt (tlL s2.data.toList) = 61 :: s5.data.toList by rw [← H4.out, HT5.out])
                have hm5 := tkw_le s5
                have hmt := tkw_take s5
                have hmd := tkw_drop s5
                have hTK5 := fun w => token_r s5 w hs5m
                obtain ⟨m, hm⟩ : ∃ m, m = tkw s5 := ⟨_, rfl⟩
                rw [← hm] at hm5 hmt hmd hTK5
                have HMT := Lib.hid hmt
                have HMD := Lib.hid hmd
                have HML := Lib.hid (show m = (tw s5.data.toList).length from hm)
                clear hmt hmd hm
                go_upto_region 18 with (go_at_call 116; refine (hTK5 _).mono ?_; rintro e w' ⟨rfl, rfl⟩)
                clear hTK5
                obtain ⟨vl, hvl⟩ : ∃ vl, vl = s5.extract 0 m := ⟨_, rfl⟩
                rw [← hvl] at HMT ⊢
                clear hvl
                have hg3 := HG.out.below ((Below.refl _ wr).alloc (Nat.le_refl _) (.cells #[.string nm, .string vl] 148))
                have HG3 := Lib.hid hg3
                clear hg3
                have hvb : (Value.slice va ps.length vc).ownBlock ≠ some wr.heap.size := fun e => by have := (HG.out.row.lt _ e).2; omega
                have HVB := Lib.hid hvb
                clear hvb
                by_cases hm0 : m = 0
                · have hmz : ((m : Int) == 0) = true := by rw [hm0]; rfl
                  have htq : toqL s5.data.toList = qans s5.data.toList := by
                    unfold toqL; rw [if_pos (List.eq_nil_of_length_eq_zero (by rw [← HML.out]; exact hm0))]
                  have hQ := fun w => refquoted s5 w hs5m
                  unfold QAns at hQ
                  obtain ⟨qv, hqv⟩ : ∃ qv : ByteArray, qv = ⟨(qans s5.data.toList).1.toArray⟩ := ⟨_, rfl⟩
                  obtain ⟨j, hj⟩ : ∃ j, j = (qans s5.data.toList).2 := ⟨_, rfl⟩
                  rw [← hqv, ← hj] at hQ
                  have hjl : j ≤ s5.size := by rw [hj]; exact (qans_le _).1
                  have hp0 := PB.new 148 wr nm vl
                  have HP0 := Lib.hid hp0
                  clear hp0 hm0
                  by_cases hj0 : j = 0
                  · have hjz : ((j : Int) == 0) = true := by rw [hj0]; rfl
                    have HN := Lib.hid (pars_no HP.out H1.out h00 (by rw [HT2.out]; exact pStep_noval HNE.out H5.out (by rw [htq, ← hj]; exact hj0)))
                    clear htq hqv hj hj0
                    go_wp2_with (go_at_call 117; refine (hQ _).mono ?_; rintro e w2 ⟨rfl, hb⟩; have hp1 := HP0.out.below hb (by simp); have k1 := hp1.c1; have f1 := hp1.f1; have hlw := HG3.out.below hb; have HLW := Lib.hid hlw; clear hb hp1 hlw)
                    go_ret2
                    exact ⟨HLW.out.low.setCell (p := ⟨wr.heap.size, 1, none⟩) HG.out.low.size _, by rw [HN.out]; rfl⟩
                  · have hjz : ((j : Int) == 0) = false := by rw [beq_eq_false_iff_ne]; omega
                    have hz6 : (s5.extract j s5.size).size ≤ s5.size := by rw [extract_size _ _ _ (Nat.le_refl _)]; omega
                    have hrd : (s5.extract j s5.size).data.toList = s5.data.toList.drop (toqL s5.data.toList).2 := by rw [ext_drop, htq, ← hj]
                    have HX := Lib.hid (pars_next (rest := s5.extract j s5.size) (p := (nm.data.toList, qv.data.toList)) HP.out H1.out h00 HLT.out (by
                      rw [HT2.out, hrd, pStep_val HNE.out H5.out (by rw [htq, ← hj]; exact hj0), HNM.out, htq, hqv]))
                    clear htq hqv hj hrd hj0
                    go_wp2_with (first
                      | (go_at_call 117; refine (hQ _).mono ?_; rintro e w2 ⟨rfl, hb⟩; have hp1 := HP0.out.below hb (by simp); have k1 := hp1.c1; have k0 := hp1.c0; have f1 := hp1.f1; have hlw := HG3.out.below hb; have hp2 := hp1.set1 qv; have k2 := hp2.c0; have k3 := hp2.c1; have hgs := GP.set (j := 1) (x := .string qv) hlw HG.out.low.size HVB.out; obtain ⟨g, n', c', w3, hrun, hg4⟩ := hgs.snoc HLT.out nm qv; rw [show (w2.setCell ⟨wr.heap.size, 1, none⟩ (.string qv)).heap.size = w2.heap.size by simp [World.setCell]] at hrun; have HG4 := Lib.hid hg4; clear hb hp1 hlw hp2 hgs hg4)
                      | (at_builtin; refine wpList_run_app rfl (.tmp 67) (.tmp 69) 131 rfl rfl rfl hrun ?_))
                    go_roundw
                    case rel => exact ⟨ps ++ [(nm.data.toList, qv.data.toList)], s5.extract j s5.size, rfl, by omega, by rw [List.length_append]; exact HLT.out, HX.out, HG4.out⟩
                    case measure => simp only [sizeV]; omega
                · have hmz : ((m : Int) == 0) = false := by rw [beq_eq_false_iff_ne]; omega
                  have hz6 : (s5.extract m s5.size).size ≤ s5.size := by rw [extract_size _ _ _ (Nat.le_refl _)]; omega
                  have htne : tw s5.data.toList ≠ [] := by intro e; exact hm0 (by rw [HML.out, e]; rfl)
                  have htq : toqL s5.data.toList = (tw s5.data.toList, m) := by unfold toqL; rw [if_neg htne, HML.out]
                  have HX := Lib.hid (pars_next (rest := s5.extract m s5.size) (p := (nm.data.toList, vl.data.toList)) HP.out H1.out h00 HLT.out (by
                    rw [HT2.out, ext_drop, pStep_val HNE.out H5.out (by rw [htq]; exact hm0), HNM.out, HMT.out, htq]))
                  obtain ⟨g, n', c', w3, hrun, hg4⟩ := HG3.out.snoc HLT.out nm vl
                  simp only [World.size_alloc] at hrun
                  have HG4 := Lib.hid hg4
                  clear hg4 htq htne
                  go_wp2_with (at_builtin; refine wpList_run_app rfl (.tmp 67) (.tmp 69) 131 rfl rfl rfl hrun ?_)
                  go_roundw
                  case rel => exact ⟨ps ++ [(nm.data.toList, vl.data.toList)], s5.extract m s5.size, rfl, by omega, by rw [List.length_append]; exact HLT.out, HX.out, HG4.out⟩
                  case measure => simp only [sizeV]; omega
              · have b61 : ((s4[0].toNat : Int) == 61) = false := b61'
                clear b61'
                obtain ⟨g, n', c', w3, hrun, hg4⟩ := HG2.out.snoc HLT.out nm ⟨#[]⟩
                simp only [World.size_alloc] at hrun
                have HG4 := Lib.hid hg4
                have HX := Lib.hid (pars_next (rest := s4) (p := (nm.data.toList, [])) HP.out H1.out h00 HLT.out (by
                  rw [HT2.out, pStep_bare HNE.out (show dwt (tlL s2.data.toList) = s4[0] :: (s4.extract 1 s4.size).data.toList by rw [← H4.out]; exact HT4.out) e61, HNM.out, ← HT4.out]))
                clear hg4 e61
                go_wp2_with (at_builtin; refine wpList_run_app rfl (.tmp 67) (.tmp 69) 131 rfl rfl rfl hrun ?_)
                go_roundw
                case rel => exact ⟨ps ++ [(nm.data.toList, [])], s4, rfl, by omega, by rw [List.length_append]; exact HLT.out, HX.out, HG4.out⟩
                case measure => simp only [sizeV]; omega
      · have b59 : ((s1[0].toNat : Int) != 59) = true := b59'
        clear b59'
        have HN := Lib.hid (pars_no HP.out H1.out h00 (by rw [HT.out]; exact pStep_no e59 _))
        clear e59
        go_wp2
        go_ret2
        exact ⟨HG.out.low, by rw [HN.out]; rfl⟩
end Go.Proofs.YtgkhelbpccehcaaGreatDoor

/- The document's Has. Conditions: at most a million bytes in all. -/
namespace Go.Proofs.YtgkhelbpccehcaaGreatDoor
open Go.RowKit
set_option linter.unusedVariables false

theorem ba_toList (l : List UInt8) : (ba l).toList = l := by rw [ByteArray.toList_eq]; rfl
theorem any_take {L : List (List UInt8)} {p : List UInt8 → Bool} {k : Nat} (h : k < L.length) : (L.take (k + 1)).any p = ((L.take k).any p || p L[k]) := by
  rw [List.take_succ_eq_append_getElem h, List.any_append]; simp
set_option maxRecDepth 10000 in
set_option maxHeartbeats 1000000 in
theorem refhas (tok : ByteArray) (ts : List ByteArray) (v : Value) (w : World) (h : StrsAt w v ts) (hs : sizes ts ≤ 1000000) (ht : tok.size ≤ 1000000) :
    Calls Tryz.prog 78 #[.string tok, v] w (HasAns w tok ts) := by
  have hm : tok.size ≤ 140737488351232 := by omega
  have HT := reftok ts v w h hs
  have HS := Lib.hid hs
  clear hs h
  cases hL : toksO ts with
  | none =>
    have hh : hasL tok.data.toList ts = false := by unfold hasL; rw [hL]
    have HH := Lib.hid hh
    have HL := Lib.hid hL
    clear hh hL
    go_enter Tryz.func78, Tryz.ntmps78
    go_wp2_with (go_at_call 77; refine HT.mono ?_; rintro e w1 ⟨hb, he⟩; rw [HL.out] at he; obtain rfl := he; have HB := Lib.hid hb; clear hb)
    refine wp_loop_rounds 1 ?_
    rw [rounds_succ]
    go_wp2
    go_ret
    exact ⟨by rw [HH.out]; rfl, HB.out⟩
  | some L =>
    have hh : hasL tok.data.toList ts = L.any (fun x => x == lowL tok.data.toList) := by unfold hasL; rw [hL]
    have hlen := Nat.le_trans (toksO_len hL) HS.out
    have HH := Lib.hid hh
    have HL := Lib.hid hL
    clear hh hL
    go_enter Tryz.func78, Tryz.ntmps78
    go_wp2_with (go_at_call 77; refine HT.mono ?_; rintro e w1 ⟨hb, he⟩; rw [HL.out] at he; obtain ⟨v1, rfl, hr⟩ := he; have HB := Lib.hid hb; have HR := Lib.hid (row_strs hr); clear hb hr)
    obtain ⟨a, ca, hv⟩ := HR.out.len
    rw [List.length_map] at hv
    subst hv
    go_loopw [7] (fun i wr => ∃ (k : Nat), k ≤ L.length ∧ i = .int .i64 k ∧ Below w1.heap.size w1 wr ∧ (L.take k).any (fun x => x == lowL tok.data.toList) = false) (fun i _ => L.length - (intOf i).toNat)
    case atStart => exact ⟨0, Nat.zero_le _, rfl, Below.refl _ _, rfl⟩
    case round =>
      obtain ⟨k, hk, rfl, hlow, hall⟩ := hrel
      have HLO := Lib.hid hlow
      have HA := Lib.hid hall
      clear hlow hall
      by_cases hlt : k < L.length
      · rcases HR.out.below HLO.out with ⟨h0, -⟩ | ⟨b, off, cap, hv2, h0, hb, hc⟩
        · exfalso; have := congrArg List.length h0; rw [List.length_map] at this; simp at this; rw [this] at hlt; simp at hlt
        · injection hv2 with e1 e2 e3
          subst e1
          have hc1 : wr.cell? ⟨b, off + k, none⟩ = some (.string (ba L[k])) := by have := hc k (by rw [List.length_map]; exact hlt); rw [List.getElem_map] at this; exact this
          clear hc h0 e2 e3
          by_cases he : L[k] = lowL tok.data.toList
          · have h1 := (bytes_eq (show ba L[k] = ba (lowL tok.data.toList) by rw [he])).1
            rw [ba_toList (lowL _)] at h1
            have hyes : L.any (fun x => x == lowL tok.data.toList) = true := List.any_eq_true.2 ⟨L[k], List.getElem_mem hlt, by rw [he]; simp⟩
            have HY := Lib.hid hyes
            clear hyes he
            go_wp2
            go_region_with (go_at_call 99; refine (lower_r tok _ hm).mono ?_; rintro e w2 ⟨rfl, hb2⟩; have hc2 : w2.cell? ⟨b, off + k, none⟩ = some (.string (ba L[k])) := ((((Below.refl _ wr).drew.trans hb2)).cell (p := ⟨b, off + k, none⟩) hb).trans hc1; have HB2 := Lib.hid hb2; clear hb2)
            all_goals go_wp2
            all_goals go_ret
            all_goals exact ⟨by rw [HH.out, HY.out]; rfl, HB.out.trans ((HLO.out.trans ((Below.refl _ wr).drew.trans (HB2.out.mono (Nat.le_refl _)) |>.mono HLO.out.size)).mono HB.out.size)⟩
          · have h1 := (bytes_ne (show ba L[k] ≠ ba (lowL tok.data.toList) from fun e => he (ba_inj e))).1
            rw [ba_toList (lowL _)] at h1
            have hno : (L.take (k + 1)).any (fun x => x == lowL tok.data.toList) = false := by rw [any_take hlt, HA.out]; simpa using he
            have HN := Lib.hid hno
            clear hno he
            go_wp2
            go_region_with (go_at_call 99; refine (lower_r tok _ hm).mono ?_; rintro e w2 ⟨rfl, hb2⟩; have hc2 : w2.cell? ⟨b, off + k, none⟩ = some (.string (ba L[k])) := ((((Below.refl _ wr).drew.trans hb2)).cell (p := ⟨b, off + k, none⟩) hb).trans hc1; have HB2 := Lib.hid hb2; clear hb2)
            all_goals go_wp2
            all_goals go_roundw
            all_goals first
              | exact ⟨k + 1, by omega, by go_num, HLO.out.trans (((Below.refl _ wr).drew.trans (HB2.out.mono (Nat.le_refl _))).mono HLO.out.size), HN.out⟩
              | (simp [intOf]; omega)
      · have hno : L.any (fun x => x == lowL tok.data.toList) = false := by have := HA.out; rw [List.take_of_length_le (by omega)] at this; exact this
        have HN := Lib.hid hno
        clear hno
        go_wp2
        go_ret
        exact ⟨by rw [HH.out, HN.out]; rfl, HB.out.trans (HLO.out.mono HB.out.size)⟩
end Go.Proofs.YtgkhelbpccehcaaGreatDoor

/- Fields as pairs of texts, rows of them and of texts in memory, what each call makes of them. No text of the program. -/
namespace Go.Proofs.YtgkhelbpccehcaaGreatDoor
open Go.RowKit
set_option linter.unusedVariables false
set_option linter.unusedSimpArgs false

abbrev FV := ByteArray × ByteArray
/-- Is it a field? -/
def okF (p : FV) : Bool := tokL p.1.data.toList && valL p.2.data.toList && decide (trimA p.2 = p.2)
def encF (l : List FV) : List Value := l.flatMap fun p => [.string p.1, .string p.2]
def encS (l : List ByteArray) : List Value := l.map Value.string
theorem encF_cons (p : FV) (l : List FV) : encF (p :: l) = .string p.1 :: .string p.2 :: encF l := rfl
theorem encF_append (a b : List FV) : encF (a ++ b) = encF a ++ encF b := by simp [encF]
theorem encF_len (l : List FV) : (encF l).length = l.length * 2 := by
  induction l with
  | nil => rfl
  | cons p r ih => rw [encF_cons]; simp only [List.length_cons, ih]; omega
theorem encF_at : ∀ (l : List FV) (j : Nat) (h : j < l.length), (encF l)[j * 2]? = some (.string l[j].1) ∧ (encF l)[j * 2 + 1]? = some (.string l[j].2)
  | p :: r, 0, _ => by simp [encF]
  | p :: r, j + 1, h => by
    have ih := encF_at r j (by simp at h; omega)
    rw [encF_cons, show (j + 1) * 2 = j * 2 + 1 + 1 by omega]
    simp only [List.getElem?_cons_succ, List.getElem_cons_succ]
    exact ih
theorem encF_one (l : List FV) : ∀ u ∈ encF l, u.oneCell' = true := by
  intro u hu
  obtain ⟨x, _, hx⟩ := List.mem_flatMap.1 hu
  simp only [List.mem_cons, List.mem_nil_iff, or_false] at hx
  rcases hx with rfl | rfl <;> rfl
/-- Fields lie behind a slice, wherever it begins. -/
def FsAt (W : World) (v : Value) (l : List FV) : Prop :=
  (l = [] ∧ ∃ a cap, v = .slice a 0 cap) ∨
  ∃ (b off cap : Nat), v = .slice (some ⟨b, off, none⟩) l.length cap ∧ 0 < l.length ∧ b < W.heap.size ∧
    ∀ j (h : j < l.length), W.cell? ⟨b, off + j * 2, none⟩ = some (.string l[j].1) ∧ W.cell? ⟨b, off + j * 2 + 1, none⟩ = some (.string l[j].2)
/-- Texts lie behind a slice. -/
def SsAt (W : World) (v : Value) (l : List ByteArray) : Prop :=
  (l = [] ∧ ∃ a cap, v = .slice a 0 cap) ∨
  ∃ (b off cap : Nat), v = .slice (some ⟨b, off, none⟩) l.length cap ∧ 0 < l.length ∧ l.length ≤ cap ∧ b < W.heap.size ∧
    ∀ j (h : j < l.length), W.cell? ⟨b, off + j, none⟩ = some (.string l[j])
section
variable {W W' : World} {v : Value} {l : List FV} {s : List ByteArray} {F : List Nat}
theorem FsAt.mods (h : FsAt W v l) (hm : Mods F W W') (hn : ∀ k ∈ v.ownBlock.toList, k ∉ F) : FsAt W' v l := by
  rcases h with h | ⟨b, off, cap, rfl, h0, hlt, hc⟩
  · exact .inl h
  · have hb : b ∉ F := hn b (by simp [Value.ownBlock])
    exact .inr ⟨b, off, cap, rfl, h0, Nat.lt_of_lt_of_le hlt hm.size, fun j hj => ⟨cell_mods (hc j hj).1 hm hb, cell_mods (hc j hj).2 hm hb⟩⟩
theorem SsAt.mods (h : SsAt W v s) (hm : Mods F W W') (hn : ∀ k ∈ v.ownBlock.toList, k ∉ F) : SsAt W' v s := by
  rcases h with h | ⟨b, off, cap, rfl, h0, hcap, hlt, hc⟩
  · exact .inl h
  · have hb : b ∉ F := hn b (by simp [Value.ownBlock])
    exact .inr ⟨b, off, cap, rfl, h0, hcap, Nat.lt_of_lt_of_le hlt hm.size, fun j hj => cell_mods (hc j hj) hm hb⟩
theorem FsAt.low (h : FsAt W v l) (hm : Mods [] W W') : FsAt W' v l := h.mods hm (by simp)
theorem SsAt.low (h : SsAt W v s) (hm : Mods [] W W') : SsAt W' v s := h.mods hm (by simp)
theorem FsAt.len (h : FsAt W v l) : ∃ a cap, v = .slice a l.length cap := by
  rcases h with ⟨rfl, a, cap, rfl⟩ | ⟨b, off, cap, rfl, _⟩
  · exact ⟨a, cap, rfl⟩
  · exact ⟨_, cap, rfl⟩
theorem SsAt.len (h : SsAt W v s) : ∃ a cap, v = .slice a s.length cap := by
  rcases h with ⟨rfl, a, cap, rfl⟩ | ⟨b, off, cap, rfl, _⟩
  · exact ⟨a, cap, rfl⟩
  · exact ⟨_, cap, rfl⟩
theorem FsAt.lt (h : FsAt W v l) (h0 : 0 < l.length) : ∀ k ∈ v.ownBlock.toList, k < W.heap.size := by
  rcases h with ⟨rfl, _⟩ | ⟨b, off, cap, rfl, _, hlt, _⟩
  · cases h0
  · intro k hk
    have : k = b := by simpa [Value.ownBlock, eq_comm] using hk
    subst this; exact hlt
theorem FsAt.of_row {base : Nat} {t : TypeId} (h : W.ownsRow base t 2 v l.length (encF l)) : FsAt W v l := by
  by_cases h0 : l.length = 0
  · have : l = [] := List.eq_nil_of_length_eq_zero h0
    subst this
    rcases h.2 with ⟨rfl, _⟩ | ⟨g, cap, cur, rfl, _⟩ <;> exact Or.inl ⟨rfl, _, _, rfl⟩
  · rcases h.2 with ⟨rfl, h1⟩ | ⟨g, cap, cur, rfl, hb, hg, hn, hm, hc, ht⟩
    · exact absurd h1 h0
    · right
      refine ⟨g, 0, cap, rfl, by omega, (Array.getElem?_eq_some_iff.1 hg).1, fun j hj => ?_⟩
      have cell : ∀ i (x : ByteArray), i < l.length * 2 → (encF l)[i]? = some (.string x) → W.cell? ⟨g, 0 + i, none⟩ = some (.string x) := by
        intro i x hi hx
        have h1 : (cur.toList.take (l.length * 2))[i]? = (encF l)[i]? := by rw [ht]
        rw [List.getElem?_take, if_pos hi, hx] at h1
        have e2 : cur[i]? = some (.string x) := by rw [← Array.getElem?_toList]; exact h1
        simp only [World.cell?, hg, Nat.zero_add]
        simp [e2]
      have := encF_at l j hj
      exact ⟨cell _ _ (by omega) this.1, by have := cell (j * 2 + 1) _ (by omega) this.2; rw [← Nat.add_assoc] at this; exact this⟩
theorem SsAt.of_row {base : Nat} {t : TypeId} (h : W.ownsRow base t 1 v s.length (encS s)) : SsAt W v s := by
  by_cases h0 : s.length = 0
  · have : s = [] := List.eq_nil_of_length_eq_zero h0
    subst this
    rcases h.2 with ⟨rfl, _⟩ | ⟨g, cap, cur, rfl, _⟩ <;> exact Or.inl ⟨rfl, _, _, rfl⟩
  · rcases h.2 with ⟨rfl, h1⟩ | ⟨g, cap, cur, rfl, hb, hg, hn, hm, hc, ht⟩
    · exact absurd h1 h0
    · right
      refine ⟨g, 0, cap, rfl, by omega, hn, (Array.getElem?_eq_some_iff.1 hg).1, fun j hj => ?_⟩
      have e : cur.toList[j]? = some (.string s[j]) := by
        have h1 : (cur.toList.take (s.length * 1))[j]? = (encS s)[j]? := by rw [ht]
        rw [List.getElem?_take, if_pos (by omega)] at h1
        rw [h1]; simp [encS, hj]
      have e2 : cur[j]? = some (.string s[j]) := by rw [← Array.getElem?_toList]; exact e
      simp only [World.cell?, hg, Nat.zero_add]
      simp [e2]
end
theorem FsAt.new (W : World) (t : TypeId) (l : List FV) (h0 : 0 < l.length) (cap : Nat) : FsAt (W.alloc (.cells (encF l).toArray t)) (.slice (some ⟨W.heap.size, 0, none⟩) l.length cap) l := by
  refine .inr ⟨_, 0, cap, rfl, h0, by simp, fun j hj => ?_⟩
  have := encF_at l j hj
  simp only [(Row.new W t (encF l).toArray).cell, Nat.zero_add, List.getElem?_toArray]
  exact this
theorem SsAt.new (W : World) (t : TypeId) (l : List ByteArray) (h0 : 0 < l.length) : SsAt (W.alloc (.cells (encS l).toArray t)) (.slice (some ⟨W.heap.size, 0, none⟩) l.length l.length) l := by
  refine .inr ⟨_, 0, _, rfl, h0, Nat.le_refl _, by simp, fun j hj => ?_⟩
  simp only [(Row.new W t (encS l).toArray).cell, Nat.zero_add, List.getElem?_toArray]
  simp [encS, hj]

/-- Texts of a size that every call takes. -/
def Small (l : List FV) : Prop := ∀ p ∈ l, p.1.size ≤ 1000000 ∧ p.2.size ≤ 1000000
def SmallS (l : List ByteArray) : Prop := ∀ p ∈ l, p.size ≤ 1000000
theorem Small.at {l : List FV} (h : Small l) (j : Nat) (hj : j < l.length) : l[j].1.size ≤ 1000000 ∧ l[j].2.size ≤ 1000000 := h _ (List.getElem_mem hj)
/-- How many of l are laid behind k fields, and the error of the first that is not. -/
def addR : Nat → List FV → Nat × Int
  | _, [] => (0, 0)
  | k, p :: r => if okF p = true then (if k = 24 then (0, 3) else ((addR (k + 1) r).1 + 1, (addR (k + 1) r).2)) else (0, 8)
/-- The first i have been laid. -/
theorem addR_walk : ∀ (i : Nat) (l : List FV) (k : Nat), i ≤ l.length → (∀ j (h : j < l.length), j < i → okF l[j] = true) → k + i ≤ 24 → addR k l = (i + (addR (k + i) (l.drop i)).1, (addR (k + i) (l.drop i)).2)
  | 0, l, k, _, _, _ => by simp
  | i + 1, [], k, h, _, _ => by simp at h
  | i + 1, p :: r, k, h, hok, hk => by
    have h0 := hok 0 (by simp) (by omega)
    simp only [List.getElem_cons_zero] at h0
    have ih := addR_walk i r (k + 1) (by simp at h; omega) (fun j hj hji => by have := hok (j + 1) (by simp; omega) (by omega); simpa using this) (by omega)
    rw [addR, if_pos h0, if_neg (by omega), ih, List.drop_succ_cons, show k + 1 + i = k + (i + 1) by omega]
    simp; omega
theorem addR_end {l : List FV} {k : Nat} (hok : ∀ j (h : j < l.length), j < l.length → okF l[j] = true) (hk : k + l.length ≤ 24) : addR k l = (l.length, 0) := by
  rw [addR_walk l.length l k (Nat.le_refl _) (fun j h _ => hok j h h) hk]; simp [addR]
theorem addR_bad {l : List FV} {k i : Nat} (hi : i < l.length) (hok : ∀ j (h : j < l.length), j < i → okF l[j] = true) (hk : k + i ≤ 24) (hb : okF l[i] = false) : addR k l = (i, 8) := by
  rw [addR_walk i l k (by omega) hok hk, List.drop_eq_getElem_cons hi, addR, if_neg (by simp [hb])]; simp
theorem addR_full {l : List FV} {k i : Nat} (hi : i < l.length) (hok : ∀ j (h : j < l.length), j < i → okF l[j] = true) (hk : k + i = 24) (hb : okF l[i] = true) : addR k l = (i, 3) := by
  rw [addR_walk i l k (by omega) hok (by omega), List.drop_eq_getElem_cons hi, addR, if_pos hb, if_pos hk]; simp
/-- The fields behind Add. -/
def addF (S l : List FV) : List FV := S ++ l.take (addR S.length l).1

/-- The fields of a name, their values, what is left. -/
def namedF (S : List FV) (n : ByteArray) : List FV := S.filter fun p => sameL p.1 n
def valsF (S : List FV) (n : ByteArray) : List ByteArray := (namedF S n).map (·.2)
def hasF (S : List FV) (n : ByteArray) : Bool := S.any fun p => sameL p.1 n
def sepF : ByteArray := ⟨#[44, 32]⟩
def getL (S : List FV) (n : ByteArray) : List UInt8 := Lib.join ((valsF S n).map (·.data.toList)) sepF.data.toList
def getF (S : List FV) (n : ByteArray) : ByteArray := ⟨(getL S n).toArray⟩
theorem valsF_snoc (S : List FV) (p : FV) (n : ByteArray) : valsF (S ++ [p]) n = valsF S n ++ (if sameL p.1 n = true then [p.2] else []) := by
  unfold valsF namedF
  rw [List.filter_append, List.map_append]
  by_cases h : sameL p.1 n = true <;> simp [h]
theorem namedF_len (S : List FV) (n : ByteArray) : (namedF S n).length ≤ S.length := List.length_filter_le _ _
theorem valsF_len (S : List FV) (n : ByteArray) : (valsF S n).length ≤ S.length := by unfold valsF; rw [List.length_map]; exact namedF_len S n
theorem valsF_small {S : List FV} (h : Small S) (n : ByteArray) : SmallS (valsF S n) := by
  intro x hx
  obtain ⟨p, hp, rfl⟩ := List.mem_map.1 hx
  exact (h p (List.mem_filter.1 hp).1).2
theorem hasF_vals (S : List FV) (n : ByteArray) : hasF S n = decide (0 < (valsF S n).length) := by
  unfold hasF valsF namedF
  rw [List.length_map, Bool.eq_iff_iff, List.any_eq_true, decide_eq_true_iff, List.length_pos_iff_exists_mem]
  constructor
  · rintro ⟨p, hp, h⟩; exact ⟨p, List.mem_filter.2 ⟨hp, h⟩⟩
  · rintro ⟨p, hp⟩; exact ⟨p, (List.mem_filter.1 hp).1, (List.mem_filter.1 hp).2⟩
theorem join_snoc (l : List (List UInt8)) (x sep : List UInt8) : Lib.join (l ++ [x]) sep = Lib.join l sep ++ (if l = [] then x else sep ++ x) := by
  cases l with
  | nil => simp [Lib.join_one, Lib.join_nil]
  | cons y r => rw [List.cons_append, Lib.join_cons, Lib.join_cons, if_neg (by simp)]; simp [Lib.joinTail]
theorem join_bound : ∀ (l : List ByteArray), SmallS l → (Lib.join (l.map (·.data.toList)) sepF.data.toList).length ≤ l.length * 1000002
  | [], _ => by simp [Lib.join_nil]
  | x :: r, h => by
    rw [List.map_cons, Lib.join_cons]
    have hx : x.data.toList.length ≤ 1000000 := h x (by simp)
    have ht : ∀ (r : List ByteArray), SmallS r → (Lib.joinTail sepF.data.toList (r.map (·.data.toList))).length ≤ r.length * 1000002 := by
      intro r
      induction r with
      | nil => intro _; simp [Lib.joinTail]
      | cons y s ih =>
        intro hs
        have h1 := ih fun p hp => hs p (by simp [hp])
        have hy : y.data.toList.length ≤ 1000000 := hs y (by simp)
        have h2 : sepF.data.toList.length = 2 := rfl
        simp only [Lib.joinTail, List.map_cons, List.flatten_cons, List.length_append, List.length_cons] at h1 ⊢
        omega
    have := ht r fun p hp => h p (by simp [hp])
    simp only [List.length_append, List.length_cons]; omega
theorem join_take {l : List ByteArray} (h : SmallS l) (k : Nat) : (Lib.join ((l.take k).map (·.data.toList)) sepF.data.toList).length ≤ l.length * 1000002 := by
  have := join_bound (l.take k) fun p hp => h p (List.mem_of_mem_take hp)
  have h2 : (l.take k).length ≤ l.length := by rw [List.length_take]; omega
  exact Nat.le_trans this (Nat.mul_le_mul_right _ h2)
end Go.Proofs.YtgkhelbpccehcaaGreatDoor

/- What the code's isField and copied, and the document's Is, answer. Conditions: texts of at most a million bytes. -/
namespace Go.Proofs.YtgkhelbpccehcaaGreatDoor
open Go.RowKit
set_option linter.unusedVariables false
set_option linter.unusedSimpArgs false

theorem okF_tok {p : FV} (h : tokL p.1.data.toList = false) : okF p = false := by unfold okF; rw [h]; rfl
theorem okF_val {p : FV} (h : valL p.2.data.toList = false) : okF p = false := by unfold okF; rw [h]; simp
theorem bytes_eqF {a b : ByteArray} (h : a = b) : (a.toList == b.toList) = true := by subst h; simp
theorem bytes_neF {a b : ByteArray} (h : a ≠ b) : (a.toList == b.toList) = false := by
  rw [beq_eq_false_iff_ne]; intro e
  exact h (Go.WideShapes.bytes_inj (by rw [← ByteArray.toList_eq, ← ByteArray.toList_eq, e]))
theorem istokK (a : ByteArray) {r : Bool} (h : tokL a.data.toList = r) (hs : a.size ≤ 1000000) (w : World) : Calls Tryz.prog 106 #[.string a] w fun e w' => e = .returned (.bool r) ∧ w = w' := by
  subst h; exact istok_a a w (by unfold maxLen; omega)
theorem isvalK (a : ByteArray) {r : Bool} (h : valL a.data.toList = r) (hs : a.size ≤ 1000000) (w : World) : Calls Tryz.prog 123 #[.string a] w fun e w' => e = .returned (.bool r) ∧ w = w' := by
  subst h; exact isval_a a w (by unfold maxLen; omega)
theorem trimK (a : ByteArray) (hs : a.size ≤ 1000000) (w : World) : Calls Tryz.prog 124 #[.string a] w fun e w' => e = .returned (.string (trimA a)) ∧ Mods [] w w' :=
  (trim_a a w (by omega)).mono fun e w' ⟨h1, h2⟩ => ⟨h1, .of_below h2⟩
theorem istokR (a : ByteArray) {r : Bool} (h : tokL a.data.toList = r) (hs : a.size ≤ 1000000) (w : World) : Calls Tryz.prog 70 #[.string a] w fun e w' => e = .returned (.bool r) ∧ w = w' := by
  subst h; exact istok_r a w (by unfold maxLen; omega)
theorem isvalR (a : ByteArray) {r : Bool} (h : valL a.data.toList = r) (hs : a.size ≤ 1000000) (w : World) : Calls Tryz.prog 103 #[.string a] w fun e w' => e = .returned (.bool r) ∧ w = w' := by
  subst h; exact isval_r a w (by unfold maxLen; omega)
theorem trimR (a : ByteArray) (hs : a.size ≤ 1000000) (w : World) : Calls Tryz.prog 81 #[.string a] w fun e w' => e = .returned (.string (trimA a)) ∧ w = w' := trim_r a w (by omega)
theorem of_drewF {F : List Nat} {a w : World} (h : Mods F a.drew w) : Mods F a w := ⟨h.os, h.tape, h.output, h.size, h.block⟩
theorem cloneK (a : ByteArray) (hs : a.size ≤ 1000000) (w : World) : Calls Tryz.prog 40 #[.string a] w fun e w' => e = .returned (.string a) ∧ Mods [] w w' := by
  go_enter Tryz.func40, Tryz.ntmps40
  go_wp2_with fail
  refine (clone_shelf a _ (by omega)).mono ?_
  rintro e w2 ⟨rfl, hd⟩
  have H := Lib.hid hd
  clear hd
  go_wp2
  go_ret
  exact ⟨rfl, .of_below H.out⟩

set_option maxRecDepth 10000 in
theorem isf_r (p : FV) (w : World) (h1 : p.1.size ≤ 1000000) (h2 : p.2.size ≤ 1000000) :
    Calls Tryz.prog 82 #[.agg #[.string p.1, .string p.2]] w fun e w' => e = .returned (.bool (okF p)) ∧ Mods [] w w' := by
  obtain ⟨a, b⟩ := p
  simp only at h1 h2
  cases ht : tokL a.data.toList with
  | false =>
    have HR := Lib.hid (okF_tok (p := (a, b)) ht)
    have HT := Lib.hid (fun w => istokR a ht h1 w)
    clear ht
    go_enter Tryz.func82, Tryz.ntmps82
    go_wp2_with fail
    go_quiet ((go_at_call 70; exact Calls.quiet_of_same ((HT.out _).mono fun _ _ ⟨x, y⟩ => ⟨x, y.symm⟩)))
    go_wp2
    go_ret
    exact ⟨by rw [HR.out]; rfl, ((Mods.refl [] w).alloc _).drewN _⟩
  | true =>
    cases hv : valL b.data.toList with
    | false =>
      have HR := Lib.hid (okF_val (p := (a, b)) hv)
      have HT := Lib.hid (fun w => istokR a ht h1 w)
      have HV := Lib.hid (fun w => isvalR b hv h2 w)
      clear ht hv
      go_enter Tryz.func82, Tryz.ntmps82
      go_wp2_with fail
      go_quiet (first | (go_at_call 70; exact Calls.quiet_of_same ((HT.out _).mono fun _ _ ⟨x, y⟩ => ⟨x, y.symm⟩)) | (go_at_call 103; exact Calls.quiet_of_same ((HV.out _).mono fun _ _ ⟨x, y⟩ => ⟨x, y.symm⟩)))
      go_wp2
      go_ret
      exact ⟨by rw [HR.out]; rfl, ((Mods.refl [] w).alloc _).drewN _⟩
    | true =>
      have HT := Lib.hid (fun w => istokR a ht h1 w)
      have HV := Lib.hid (fun w => isvalR b hv h2 w)
      have HX := Lib.hid (fun w => trimR b h2 w)
      have HR := Lib.hid (show okF (a, b) = decide (trimA b = b) by unfold okF; rw [ht, hv]; rfl)
      clear ht hv
      obtain ⟨c, hc⟩ : ∃ c, c = trimA b := ⟨_, rfl⟩
      rw [← hc] at HR HX
      clear hc
      by_cases he : c = b
      · have heq := bytes_eqF he
        have HE := Lib.hid he
        rw [decide_eq_true he] at HR
        clear he
        go_enter Tryz.func82, Tryz.ntmps82
        go_wp2_with fail
        go_quiet (first | (go_at_call 70; exact Calls.quiet_of_same ((HT.out _).mono fun _ _ ⟨x, y⟩ => ⟨x, y.symm⟩)) | (go_at_call 103; exact Calls.quiet_of_same ((HV.out _).mono fun _ _ ⟨x, y⟩ => ⟨x, y.symm⟩)) | (go_at_call 81; exact Calls.quiet_of_same ((HX.out _).mono fun _ _ ⟨x, y⟩ => ⟨x, y.symm⟩)))
        go_wp2
        go_ret
        exact ⟨by rw [HR.out]; rfl, ((Mods.refl [] w).alloc _).drewN _⟩
      · have heq := bytes_neF he
        have HE := Lib.hid he
        rw [decide_eq_false he] at HR
        clear he
        go_enter Tryz.func82, Tryz.ntmps82
        go_wp2_with fail
        go_quiet (first | (go_at_call 70; exact Calls.quiet_of_same ((HT.out _).mono fun _ _ ⟨x, y⟩ => ⟨x, y.symm⟩)) | (go_at_call 103; exact Calls.quiet_of_same ((HV.out _).mono fun _ _ ⟨x, y⟩ => ⟨x, y.symm⟩)) | (go_at_call 81; exact Calls.quiet_of_same ((HX.out _).mono fun _ _ ⟨x, y⟩ => ⟨x, y.symm⟩)))
        go_wp2
        go_ret
        exact ⟨by rw [HR.out]; rfl, ((Mods.refl [] w).alloc _).drewN _⟩

set_option maxRecDepth 10000 in
theorem isf_a (p : FV) (w : World) (h1 : p.1.size ≤ 1000000) (h2 : p.2.size ≤ 1000000) :
    Calls Tryz.prog 104 #[.agg #[.string p.1, .string p.2]] w fun e w' => e = .returned (.bool (okF p)) ∧ Mods [] w w' := by
  obtain ⟨a, b⟩ := p
  simp only at h1 h2
  cases ht : tokL a.data.toList with
  | false =>
    have HR := Lib.hid (okF_tok (p := (a, b)) ht)
    have HT := Lib.hid (fun w => istokK a ht h1 w)
    clear ht
    go_enter Tryz.func104, Tryz.ntmps104
    go_wp2_with fail
    go_quiet ((go_at_call 106; exact Calls.quiet_of_same ((HT.out _).mono fun _ _ ⟨x, y⟩ => ⟨x, y.symm⟩)))
    go_wp2
    go_ret
    exact ⟨by rw [HR.out]; rfl, ((Mods.refl [] w).alloc _).drewN _⟩
  | true =>
    cases hv : valL b.data.toList with
    | false =>
      have HR := Lib.hid (okF_val (p := (a, b)) hv)
      have HT := Lib.hid (fun w => istokK a ht h1 w)
      have HV := Lib.hid (fun w => isvalK b hv h2 w)
      clear ht hv
      go_enter Tryz.func104, Tryz.ntmps104
      go_wp2_with fail
      go_quiet (first | (go_at_call 106; exact Calls.quiet_of_same ((HT.out _).mono fun _ _ ⟨x, y⟩ => ⟨x, y.symm⟩)) | (go_at_call 123; exact Calls.quiet_of_same ((HV.out _).mono fun _ _ ⟨x, y⟩ => ⟨x, y.symm⟩)))
      go_wp2
      go_ret
      exact ⟨by rw [HR.out]; rfl, ((Mods.refl [] w).alloc _).drewN _⟩
    | true =>
      have HT := Lib.hid (fun w => istokK a ht h1 w)
      have HV := Lib.hid (fun w => isvalK b hv h2 w)
      have HX := Lib.hid (fun w => trimK b h2 w)
      have HR := Lib.hid (show okF (a, b) = decide (trimA b = b) by unfold okF; rw [ht, hv]; rfl)
      clear ht hv
      obtain ⟨c, hc⟩ : ∃ c, c = trimA b := ⟨_, rfl⟩
      rw [← hc] at HR HX
      clear hc
      by_cases he : c = b
      · have heq := bytes_eqF he
        have HE := Lib.hid he
        rw [decide_eq_true he] at HR
        clear he
        go_enter Tryz.func104, Tryz.ntmps104
        go_wp2_with fail
        have hcell : (w.alloc (.cells #[.string a, .string b] 81)).cell? ⟨w.heap.size, 0, none⟩ = some (.string a) ∧ (w.alloc (.cells #[.string a, .string b] 81)).cell? ⟨w.heap.size, 1, none⟩ = some (.string b) :=
          ⟨(Row.new w _ _).cell 0, (Row.new w _ _).cell 1⟩
        obtain ⟨k0, k1⟩ := hcell
        have HM := Lib.hid ((Mods.refl [] w).alloc (.cells #[.string a, .string b] 81))
        have hsz : w.heap.size < (w.alloc (.cells #[.string a, .string b] 81)).heap.size := by simp
        obtain ⟨w0, hw0⟩ : ∃ w0, w0 = w.alloc (.cells #[.string a, .string b] 81) := ⟨_, rfl⟩
        rw [← hw0] at k0 k1 HM hsz ⊢
        clear hw0
        go_region_held3 (fun w' => w'.cell? ⟨w.heap.size, 0, none⟩ = some (.string a) ∧ w'.cell? ⟨w.heap.size, 1, none⟩ = some (.string b)) (go_keep)
          (first
            | (go_at_call 106; refine (HT.out _).mono ?_; rintro e w' ⟨rfl, rfl⟩)
            | (go_at_call 123; refine (HV.out _).mono ?_; rintro e w' ⟨rfl, rfl⟩)
            | (go_at_call 124; refine (HX.out _).mono ?_; rintro e w1 ⟨rfl, hm⟩; have m0 := HM.out.trans (of_drewF hm) (fun _ h => (nomatch h)); have c0 := cell_mods k0 (of_drewF hm) (by simp); have c1 := cell_mods k1 (of_drewF hm) (by simp); have M1 := Lib.hid m0; clear hm m0))
        go_wp2
        go_ret
        exact ⟨by rw [HR.out]; rfl, M1.out⟩
      · have heq := bytes_neF he
        have HE := Lib.hid he
        rw [decide_eq_false he] at HR
        clear he
        go_enter Tryz.func104, Tryz.ntmps104
        go_wp2_with fail
        have hcell : (w.alloc (.cells #[.string a, .string b] 81)).cell? ⟨w.heap.size, 0, none⟩ = some (.string a) ∧ (w.alloc (.cells #[.string a, .string b] 81)).cell? ⟨w.heap.size, 1, none⟩ = some (.string b) :=
          ⟨(Row.new w _ _).cell 0, (Row.new w _ _).cell 1⟩
        obtain ⟨k0, k1⟩ := hcell
        have HM := Lib.hid ((Mods.refl [] w).alloc (.cells #[.string a, .string b] 81))
        have hsz : w.heap.size < (w.alloc (.cells #[.string a, .string b] 81)).heap.size := by simp
        obtain ⟨w0, hw0⟩ : ∃ w0, w0 = w.alloc (.cells #[.string a, .string b] 81) := ⟨_, rfl⟩
        rw [← hw0] at k0 k1 HM hsz ⊢
        clear hw0
        go_region_held3 (fun w' => w'.cell? ⟨w.heap.size, 0, none⟩ = some (.string a) ∧ w'.cell? ⟨w.heap.size, 1, none⟩ = some (.string b)) (go_keep)
          (first
            | (go_at_call 106; refine (HT.out _).mono ?_; rintro e w' ⟨rfl, rfl⟩)
            | (go_at_call 123; refine (HV.out _).mono ?_; rintro e w' ⟨rfl, rfl⟩)
            | (go_at_call 124; refine (HX.out _).mono ?_; rintro e w1 ⟨rfl, hm⟩; have m0 := HM.out.trans (of_drewF hm) (fun _ h => (nomatch h)); have c0 := cell_mods k0 (of_drewF hm) (by simp); have c1 := cell_mods k1 (of_drewF hm) (by simp); have M1 := Lib.hid m0; clear hm m0))
        go_wp2
        go_ret
        exact ⟨by rw [HR.out]; rfl, M1.out⟩

/-- What a function with a result of two texts in a block of its own hands back. -/
theorem ret_fld {fn : Func} {a : Act} {W : World} {R : Ending → World → Prop} {r : Nat} {x y : ByteArray} {t : TypeId} {q : Tmp} (hres : fn.results = #[.cell q t])
    (c0 : W.cell? ⟨r, 0, none⟩ = some (.string x)) (c1 : W.cell? ⟨r, 1, none⟩ = some (.string y))
    (ha : (isAgg t).run Tryz.prog W = .ok true W) (hs : (Go.sizeOf t).run Tryz.prog W = .ok 2 W)
    (h2 : a.tmps.getD q undef = .pointer (some ⟨r, 0, none⟩)) (hd : a.defers = []) (hR : R (.returned (.agg #[.string x, .string y])) W) : bodyPost Tryz.prog fn R .ret a W := by
  refine bodyPost_ret (v := .agg #[.string x, .string y]) ?_ hd hR
  have g2 : a.tmps[q]?.getD undef = .pointer (some ⟨r, 0, none⟩) := by simpa using h2
  simp [results, hres, go_sem, g2, c0, c1, ha, hs]
set_option maxRecDepth 10000 in
theorem copied_a (p : FV) (w : World) (h1 : p.1.size ≤ 1000000) (h2 : p.2.size ≤ 1000000) :
    Calls Tryz.prog 39 #[.agg #[.string p.1, .string p.2]] w fun e w' => e = .returned (.agg #[.string p.1, .string p.2]) ∧ Mods [] w w' := by
  obtain ⟨a, b⟩ := p
  simp only at h1 h2
  have HA := Lib.hid (fun w => cloneK a h1 w)
  have HB := Lib.hid (fun w => cloneK b h2 w)
  go_enter Tryz.func39, Tryz.ntmps39
  go_wp2_with fail
  obtain ⟨n0, hn0⟩ : ∃ n0, n0 = w.heap.size := ⟨_, rfl⟩
  obtain ⟨w0, hw0⟩ : ∃ w0, w0 = (w.alloc (.cells #[.string a, .string b] 81)).alloc (.cells #[.string ⟨#[]⟩, .string ⟨#[]⟩] 81) := ⟨_, rfl⟩
  have r0 : Row w0 n0 81 #[.string a, .string b] := by rw [hw0, hn0]; exact (Row.new w _ _).alloc _
  have r1 : Row w0 (n0 + 1) 81 #[.string ⟨#[]⟩, .string ⟨#[]⟩] := by rw [hw0, hn0]; exact (by simpa using Row.new (w.alloc (.cells #[.string a, .string b] 81)) 81 #[.string ⟨#[]⟩, .string ⟨#[]⟩])
  have HM := Lib.hid (show Mods [] w w0 by rw [hw0]; exact ((Mods.refl [] w).alloc _).alloc _)
  have HN := Lib.hid (show w.heap.size ≤ n0 by omega)
  rw [← hw0, ← hn0]
  clear hw0 hn0
  have k0 := r0.cell 0
  have k1 := r0.cell 1
  have R1 := Lib.hid r1
  simp only [List.getElem?_toArray, List.getElem?_cons_zero, List.getElem?_cons_succ] at k0 k1
  clear r0 r1
  go_region_held3 (fun w' => w'.cell? ⟨n0, 0, none⟩ = some (.string a) ∧ w'.cell? ⟨n0, 1, none⟩ = some (.string b)) (go_keep)
    (first
      | (go_at_call 40; refine (HA.out _).mono ?_; rintro e w1 ⟨rfl, hm⟩; have c0 := cell_mods k0 (of_drewF hm) (by simp); have c1 := cell_mods k1 (of_drewF hm) (by simp); have M1 := Lib.hid (of_drewF hm); clear hm)
      | (go_at_call 40; refine (HB.out _).mono ?_; rintro e w2 ⟨rfl, hm0⟩; have hm : Mods [] w1 w2 := (by first | exact hm0 | exact of_drewF hm0); clear hm0; have d0 := cell_mods c0 hm (by simp); have d1 := cell_mods c1 hm (by simp); have R2 := Lib.hid ((R1.out.mods M1.out (by simp)).mods hm (by simp)); have M2 := Lib.hid ((HM.out.trans M1.out (fun _ h => nomatch h)).trans hm (fun _ h => nomatch h)); have z0 := R2.out.cell 0; have z1 := R2.out.cell 1; have y0 := R2.out.free 0; have y1 := R2.out.free 1; simp only [List.getElem?_toArray, List.getElem?_cons_zero, List.getElem?_cons_succ] at z0 z1; clear hm))
  have R3 := Lib.hid ((R2.out.set 0 (.string a)).set 1 (.string b))
  have M3 := Lib.hid ((M2.out.setCell (p := ⟨n0 + 1, 0, none⟩) (.inr (by have := HN.out; show _ ≤ n0 + 1; omega)) (.string a)).setCell (p := ⟨n0 + 1, 1, none⟩) (.inr (by have := HN.out; show _ ≤ n0 + 1; omega)) (.string b))
  obtain ⟨w3, hw3⟩ : ∃ w3, w3 = (w2.setCell ⟨n0 + 1, 0, none⟩ (.string a)).setCell ⟨n0 + 1, 1, none⟩ (.string b) := ⟨_, rfl⟩
  rw [← hw3] at R3 M3 ⊢
  clear hw3
  go_wp2
  exact ret_fld rfl (R3.out.cell 0) (R3.out.cell 1) (Tryz.isAgg81 _) (Tryz.sizeOf81 _) rfl rfl ⟨rfl, M3.out⟩

end Go.Proofs.YtgkhelbpccehcaaGreatDoor

/- A row that a function gathers, and a Fields in memory; kept, Len, Values of the code. Conditions: texts of at most a million bytes, 24 fields. -/
namespace Go.Proofs.YtgkhelbpccehcaaGreatDoor
open Go.RowKit
set_option linter.unusedVariables false
set_option linter.unusedSimpArgs false

/-- append, by how it runs. -/
theorem wpList_run_appF {P : Program} {ops : Array Oper} {rest : List Oper} {o : Oper} {a : Act} {w w' : World} {Q : Exit → Act → World → Prop} (hgd : o.guard = none) (s x : Operand) (t : TypeId)
    (ho : o.op = .call { callee := .builtin .append, args := #[s, x], argTypes := #[t, t] }) {v u v' : Value} (hs : a.eval s = v) (hx : a.eval x = u)
    (hr : (Builtin.append_ #[t, t] o.type #[v, u]).run P w = .ok v' w') (h : wpList P ops Q rest (a.put o.dst v') w') : wpList P ops Q (o :: rest) a w := by
  refine wpList_plain hgd fun K hK => ?_
  unfold Oper.wp
  simp [execOp, ho, resolve, invoke, builtin, hs, hx, hr, Result.andThen]
  exact hK _ _ h
theorem step_run_app {P : Program} {o : Oper} {a : Act} {w w' : World} {K : Act → World → Prop} {Q : Exit → Act → World → Prop} {s x : Operand} {t : TypeId} {v u v' : Value}
    (ho : o.op = .call { callee := .builtin .append, args := #[s, x], argTypes := #[t, t] }) (hs : a.eval s = v) (hx : a.eval x = u)
    (hr : (Builtin.append_ #[t, t] o.type #[v, u]).run P w = .ok v' w') (hK : K (a.put o.dst v') w') : Oper.wp P o a w K Q := by
  unfold Oper.wp
  simp [execOp, ho, resolve, invoke, builtin, hs, hx, hr, Result.andThen]
  exact hK

/-- A row of n elements of a type that a function of w0 has gathered. -/
structure Gt (w0 : World) (t : TypeId) (size n : Nat) (xs : List Value) (v : Value) (w : World) : Prop where
  row : w.ownsRow w0.heap.size t size v n xs
  low : Mods [] w0 w
theorem own_base {w w' : World} {B B' size n : Nat} {t : TypeId} {v : Value} {xs : List Value} (h : w.ownsRow B t size v n xs) (hb : B' ≤ B) : w.ownsRow B' t size v n xs := by
  refine ⟨h.1, ?_⟩
  rcases h.2 with h | ⟨g, cap, cur, hv, h0, r⟩
  · exact .inl h
  · exact .inr ⟨g, cap, cur, hv, by omega, r⟩
theorem own_modsB {F : List Nat} {w w' : World} {B size n : Nat} {t : TypeId} {v : Value} {xs : List Value} (h : w.ownsRow B t size v n xs) (hm : Mods F w w') (hn : ∀ k ∈ v.ownBlock.toList, k ∉ F) : w'.ownsRow B t size v n xs := by
  refine ⟨h.1, ?_⟩
  rcases h.2 with h | ⟨g, cap, cur, rfl, hb, hg, r⟩
  · exact .inl h
  · exact .inr ⟨g, cap, cur, rfl, hb, (hm.block g (Array.getElem?_eq_some_iff.1 hg).1 (hn g (by simp [Value.ownBlock]))).trans hg, r⟩
theorem Gt.mods {w0 w w' : World} {t : TypeId} {size n : Nat} {xs : List Value} {v : Value} (h : Gt w0 t size n xs v w) (hm : Mods [] w w') : Gt w0 t size n xs v w' :=
  ⟨own_modsB h.row hm (by simp), h.low.trans hm (fun _ h => nomatch h)⟩
theorem Gt.nil (w : World) (t : TypeId) (size : Nat) : Gt w t size 0 [] (.slice none 0 0) w := ⟨World.ownsRow_nil _ _ _ _, Mods.refl _ _⟩
theorem Gt.form {w0 w : World} {t : TypeId} {size n : Nat} {xs : List Value} {v : Value} (h : Gt w0 t size n xs v w) : ∃ a c, v = .slice a n c := by
  rcases h.row.2 with ⟨hv, h0⟩ | ⟨g, cap, cur, rfl, _⟩
  · exact ⟨none, 0, by rw [hv, h0]⟩
  · exact ⟨_, _, rfl⟩
theorem Gt.news {w0 w : World} {t : TypeId} {size n : Nat} {xs : List Value} {v : Value} (h : Gt w0 t size n xs v w) : ∀ k ∈ v.ownBlock.toList, w0.heap.size ≤ k := by
  rcases h.row.2 with ⟨rfl, _⟩ | ⟨g, cap, cur, rfl, hb, _⟩
  · intro k hk; simp [Value.ownBlock] at hk
  · intro k hk
    have : k = g := by simpa [Value.ownBlock, eq_comm] using hk
    omega
theorem add_noneF (b o j : Nat) : (⟨b, o, none⟩ : Addr).add j = ⟨b, o + j, none⟩ := by unfold Addr.add; split <;> simp_all
theorem cells_newF (w : World) (l : List Value) (t : TypeId) : ∀ (j : Nat) u, l[j]? = some u → (w.alloc (.cells l.toArray t)).cell? ((⟨w.heap.size, 0, none⟩ : Addr).add j) = some u := by
  intro j u hj
  rw [add_noneF, Nat.zero_add, (Row.new w t l.toArray).cell]
  simpa using hj
theorem Gt.app {w0 w : World} {st t : TypeId} {z : Value} {size bytes n : Nat} {xs : List Value} {v : Value} (h : Gt w0 t size n xs v w) (hu : Tryz.prog.underlying st = some (.slice t))
    (hinfo : (Tryz.prog.info? t).map (fun i => (i.zero, i.size, i.bytes)) = some (some z, size, bytes)) (hz : z.cells.size = size) (h0 : 0 < size) (hroom : n + 1 ≤ 1000000) (hby : bytes ≤ 1000)
    (l : List Value) (hl : l.length = size) (h1 : ∀ u ∈ l, u.oneCell' = true) :
    ∃ (g n' c' : Nat) (w' : World), (Builtin.append_ #[st, st] st #[v, .slice (some ⟨w.heap.size, 0, none⟩) 1 1]).run Tryz.prog (w.alloc (.cells l.toArray t)) = .ok (.slice (some ⟨g, 0, none⟩) n' c') w' ∧
      Gt w0 t size (n + 1) (xs ++ l) (.slice (some ⟨g, 0, none⟩) n' c') w' := by
  obtain ⟨i0, hi, hz0, hz1, hz2⟩ := info_parts hinfo
  obtain ⟨v', w5, hrun, hown', hgrow, -, -⟩ := run_append_own_at (P := Tryz.prog) (w := w.alloc (.cells l.toArray t)) w0.heap.size st st t i0 z size bytes hu hi hz0 hz1 hz2 hz h0
    v n xs (own_modsB h.row ((Mods.refl [] w).alloc _) (by simp)) ⟨w.heap.size, 0, none⟩ 1 1 l (by omega) (cells_newF w l t) h1 (by unfold maxLen; omega) (by have := Nat.mul_le_mul hroom hby; omega) (by have := h.low.size; simp; omega)
  obtain ⟨g, c', rfl⟩ := ownsRow_succ hown'
  exact ⟨g, _, c', w5, hrun, hown', (h.low.alloc _).grown hgrow fun k e => .inr (h.news k (by rw [e]; simp))⟩
theorem infoSt : (Tryz.prog.info? 9).map (fun i => (i.zero, i.size, i.bytes)) = some (some (.string ByteArray.empty), 1, 16) := by kernel_rfl
theorem infoFl : (Tryz.prog.info? 81).map (fun i => (i.zero, i.size, i.bytes)) = some (some (.agg #[.string ByteArray.empty, .string ByteArray.empty]), 2, 32) := by kernel_rfl

/-- A Fields: its block g, its slice v, its fields S; R is what stands behind the slice in its block (an object that has it embedded). -/
structure FldE (t : TypeId) (R : List Value) (w : World) (g : Nat) (v : Value) (S : List FV) : Prop where
  row : Row w g t (v :: R).toArray
  own : w.ownsRow 0 81 2 v S.length (encF S)
  len : S.length ≤ 24
  small : Small S
abbrev Fld (t : TypeId) (w : World) (g : Nat) (v : Value) (S : List FV) : Prop := FldE t [] w g v S
section
variable {t : TypeId} {R : List Value} {w w' : World} {g : Nat} {v : Value} {S : List FV} {F : List Nat}
theorem FldE.mods (h : FldE t R w g v S) (hm : Mods F w w') (hg : g ∉ F) (hv : ∀ k ∈ v.ownBlock.toList, k ∉ F) : FldE t R w' g v S :=
  ⟨h.row.mods hm hg, own_mods h.own hm hv, h.len, h.small⟩
theorem FldE.low (h : FldE t R w g v S) (hm : Mods [] w w') : FldE t R w' g v S := h.mods hm (by simp) (by simp)
theorem FldE.fs (h : FldE t R w g v S) : FsAt w v S := FsAt.of_row h.own
theorem FldE.form (h : FldE t R w g v S) : ∃ a c, v = .slice a S.length c := h.fs.len
theorem FldE.lt (h : FldE t R w g v S) : ∀ k ∈ v.ownBlock.toList, k < w.heap.size := own_lt h.own
theorem FldE.cell (h : FldE t R w g v S) : w.cell? ⟨g, 0, none⟩ = some v := by rw [h.row.cell 0]; simp
theorem FldE.ne (h : FldE t R w g v S) (ht : 81 ≠ t) : ∀ k ∈ v.ownBlock.toList, k ≠ g := own_ne_row h.own h.row ht
theorem row_put {u : Value} (h : Row w g t (v :: R).toArray) : Row (w.setCell ⟨g, 0, none⟩ u) g t (u :: R).toArray := by
  have := h.set 0 u
  simpa using this
end
abbrev ptr (g : Nat) : Value := .pointer (some ⟨g, 0, none⟩)

set_option maxRecDepth 10000 in
theorem kept_a {g : Nat} {v : Value} {S : List FV} (w : World) (h : Fld 93 w g v S) : Calls Tryz.prog 38 #[ptr g] w fun e w' => e = .returned v ∧ w = w' := by
  have hc := h.cell
  obtain ⟨a, c, rfl⟩ := h.form
  have hl := h.len
  clear h
  unfold ptr
  go_enter Tryz.func38, Tryz.ntmps38
  go_wp2
  go_ret
  exact ⟨rfl, rfl⟩
theorem kept_nil (w : World) : Calls Tryz.prog 38 #[.pointer none] w fun e w' => e = .returned (.slice none 0 0) ∧ w = w' := by
  go_enter Tryz.func38, Tryz.ntmps38
  go_wp2
  go_ret
  exact ⟨rfl, rfl⟩
theorem sameK (a b : ByteArray) {r : Bool} (h : sameL a b = r) (ha : a.size ≤ 1000000) (hb : b.size ≤ 1000000) (w : World) : Calls Tryz.prog 154 #[.string a, .string b] w fun e w' => e = .returned (.bool r) ∧ Mods [] w w' := by
  subst h
  exact (same_a a b w (by unfold maxLen; omega) (by unfold maxLen; omega)).mono fun e w' ⟨h1, n, h2⟩ => ⟨h1, by rw [h2]; exact (Mods.refl _ _).drewN n⟩

set_option maxRecDepth 10000 in
theorem vals_a {g : Nat} {v : Value} {S : List FV} (n : ByteArray) (w : World) (h : Fld 93 w g v S) (hn : n.size ≤ 1000000) :
    Calls Tryz.prog 156 #[ptr g, .string n] w fun e w' => ∃ u, e = .returned u ∧ Gt w 9 1 (valsF S n).length (encS (valsF S n)) u w' := by
  have HK := Lib.hid (fun w' h' => kept_a (g := g) (v := v) (S := S) w' h')
  have H := Lib.hid h
  have hl := h.len
  have HF := Lib.hid h.fs
  have HS := Lib.hid h.small
  unfold ptr
  by_cases h0 : S.length = 0
  · obtain rfl : S = [] := List.eq_nil_of_length_eq_zero h0
    obtain ⟨a, c, rfl⟩ := h.form
    clear h h0
    go_enter Tryz.func156, Tryz.ntmps156
    go_wp2_with (go_at_call 38; refine (HK.out _ H.out).mono ?_; rintro e w' ⟨rfl, rfl⟩)
    refine wp_loop_rounds 1 ?_
    rw [rounds_succ]
    go_wp2
    go_ret
    exact ⟨_, rfl, Gt.nil _ _ _⟩
  · rcases HF.out with ⟨rfl, _⟩ | ⟨b, off, cap, rfl, -, hb, hc⟩
    · exact absurd rfl h0
    have HC := Lib.hid hc
    clear h hc h0
    go_enter Tryz.func156, Tryz.ntmps156
    go_wp2_with (go_at_call 38; refine (HK.out _ H.out).mono ?_; rintro e w' ⟨rfl, rfl⟩)
    go_loopw [5, 11] (fun u i wr => ∃ (k : Nat), k ≤ S.length ∧ i = .int .i64 k ∧ Gt w 9 1 (valsF (S.take k) n).length (encS (valsF (S.take k) n)) u wr) (fun _ i _ => S.length - (intOf i).toNat)
    case atStart => exact ⟨0, Nat.zero_le _, rfl, Gt.nil _ _ _⟩
    case round =>
      obtain ⟨k, hk, rfl, hG⟩ := hrel
      have HG := Lib.hid hG
      clear hG
      by_cases hlt : k < S.length
      · have c0 : wr.cell? ⟨b, off + k * 2, none⟩ = some (.string S[k].1) := cell_mods (HC.out k hlt).1 HG.out.low (by simp)
        have c1 : wr.cell? ⟨b, off + k * 2 + 1, none⟩ = some (.string S[k].2) := cell_mods (HC.out k hlt).2 HG.out.low (by simp)
        have HT := Lib.hid (valsF_snoc (S.take k) S[k] n)
        have HTK := Lib.hid (List.take_succ_eq_append_getElem hlt)
        have hs1 := (HS.out.at k hlt).1
        have hs2 := (HS.out.at k hlt).2
        have HLN := Lib.hid (valsF_len (S.take k) n)
        obtain ⟨x, hx⟩ : ∃ x, x = S[k].1 := ⟨_, rfl⟩
        obtain ⟨y, hy⟩ : ∃ y, y = S[k].2 := ⟨_, rfl⟩
        rw [← hx] at c0 HT hs1
        rw [← hy] at c1 HT hs2
        clear hx hy
        have hz : wr.heap.size < (wr.alloc (.cells #[.string x, .string y] 81)).heap.size := by simp
        cases hsm : sameL x n with
        | true =>
          have HSM := Lib.hid (fun w => sameK x n hsm hs1 hn w)
          rw [hsm, if_pos rfl] at HT
          clear hsm
          have HCL := Lib.hid (fun w => cloneK y hs2 w)
          obtain ⟨va, vc, rfl⟩ := HG.out.form
          have hroom : (valsF (S.take k) n).length + 1 ≤ 1000000 := by have := HLN.out; rw [List.length_take] at this; omega
          go_wp2_with (first
            | (go_at_call 154; refine (HSM.out _).mono ?_; rintro e w1 ⟨rfl, hm⟩; have c2 := ((Row.new wr 81 #[.string x, .string y]).mods hm (by simp)).cell 1; have HG1 := Lib.hid ((HG.out.mods ((Mods.refl [] wr).alloc _)).mods hm); simp only [List.getElem?_toArray, List.getElem?_cons_zero, List.getElem?_cons_succ] at c2; clear hm)
            | (go_at_call 40; refine (HCL.out _).mono ?_; rintro e w2 ⟨rfl, hm⟩; obtain ⟨g5, n5, c5, w3, hrun, hG5⟩ := (HG1.out.mods hm).app Tryz.underlying112 infoSt rfl (by decide) hroom (by decide) [.string y] rfl (by simp [Value.oneCell']); have HG5 := Lib.hid hG5; clear hm hG5)
            | (at_builtin; refine wpList_run_appF rfl (.tmp 19) (.tmp 23) 112 rfl rfl rfl hrun ?_))
          go_roundw
          case rel => exact ⟨k + 1, by omega, by go_num, by rw [HTK.out, HT.out, List.length_append, show encS (valsF (S.take k) n ++ [y]) = encS (valsF (S.take k) n) ++ [.string y] by simp [encS]]; exact HG5.out⟩
          case measure => simp [intOf]; omega
        | false =>
          have HSM := Lib.hid (fun w => sameK x n hsm hs1 hn w)
          rw [hsm, if_neg (by simp), List.append_nil] at HT
          clear hsm
          go_wp2_with (go_at_call 154; refine (HSM.out _).mono ?_; rintro e w1 ⟨rfl, hm⟩; have HG1 := Lib.hid ((HG.out.mods ((Mods.refl [] wr).alloc _)).mods hm); clear hm)
          go_roundw
          case rel => exact ⟨k + 1, by omega, by go_num, by rw [HTK.out, HT.out]; exact HG1.out⟩
          case measure => simp [intOf]; omega
      · obtain rfl : k = S.length := by omega
        obtain ⟨va, vc, hv⟩ := HG.out.form
        have HE := HG.out
        rw [List.take_length] at HE
        have HE := Lib.hid HE
        go_wp2
        go_ret
        exact ⟨_, rfl, HE.out⟩
end Go.Proofs.YtgkhelbpccehcaaGreatDoor

/- Contracts of the library's Index of one byte and Join at this program. Conditions: as each says. -/
namespace Go.Proofs.YtgkhelbpccehcaaGreatDoor
open Go.Shelf
def l219_ren : Go.Shelf.Ren := ⟨fun | 217 => 179 | 219 => 178 | 224 => 204 | 225 => 203 | 266 => 206 | 267 => 205 | 314 => 217 | n => n, fun | 3 => 3 | 4 => 4 | 5 => 5 | 9 => 9 | 46 => 162 | 51 => 211 | 146 => 212 | n => n, fun | 1 => 0 | n => n⟩
theorem l219 : Go.Proofs.Lays.n219 Tryz.prog l219_ren := {
  mixed := by kernel_rfl
  f217 := Tryz.func179.trans (congrArg some (by kernel_rfl))
  f219 := Tryz.func178.trans (congrArg some (by kernel_rfl))
  f224 := Tryz.func204.trans (congrArg some (by kernel_rfl))
  f225 := Tryz.func203.trans (congrArg some (by kernel_rfl))
  f266 := Tryz.func206.trans (congrArg some (by kernel_rfl))
  f267 := Tryz.func205.trans (congrArg some (by kernel_rfl))
  f314 := Tryz.func217.trans (congrArg some (by kernel_rfl))
  t3 := Tryz.underlying3
  a3 := Tryz.isAgg3
  z3 := Tryz.sizeOf3
  v3 := Tryz.zeroValue3
  t4 := Tryz.underlying4
  a4 := Tryz.isAgg4
  z4 := Tryz.sizeOf4
  v4 := Tryz.zeroValue4
  t5 := Tryz.underlying5
  a5 := Tryz.isAgg5
  z5 := Tryz.sizeOf5
  v5 := Tryz.zeroValue5
  t9 := Tryz.underlying9
  a9 := Tryz.isAgg9
  z9 := Tryz.sizeOf9
  v9 := Tryz.zeroValue9
  t46 := Tryz.underlying162
  a46 := Tryz.isAgg162
  z46 := Tryz.sizeOf162
  v46 := Tryz.zeroValue162
  t51 := Tryz.underlying211
  a51 := Tryz.isAgg211
  z51 := Tryz.sizeOf211
  v51 := Tryz.zeroValue211
  t146 := Tryz.underlying212
  a146 := Tryz.isAgg212
  z146 := Tryz.sizeOf212
  v146 := Tryz.zeroValue212
  g1 := by kernel_rfl }

def l156_ren : Go.Shelf.Ren := ⟨fun | 156 => 194 | 165 => 210 | 166 => 187 | 169 => 188 | 240 => 207 | 241 => 220 | 276 => 218 | 277 => 223 | n => n, fun | 0 => 0 | 3 => 3 | 4 => 4 | 5 => 5 | 9 => 9 | 20 => 20 | 31 => 112 | 37 => 22 | 70 => 185 | 72 => 187 | 75 => 189 | 76 => 190 | 80 => 192 | 127 => 104 | 164 => 214 | n => n, fun | n => n⟩
theorem l156 : Go.Proofs.Lays.n156 Tryz.prog l156_ren := {
  mixed := by kernel_rfl
  f156 := Tryz.func194.trans (congrArg some (by kernel_rfl))
  f165 := Tryz.func210.trans (congrArg some (by kernel_rfl))
  f166 := Tryz.func187.trans (congrArg some (by kernel_rfl))
  f169 := Tryz.func188.trans (congrArg some (by kernel_rfl))
  f240 := Tryz.func207.trans (congrArg some (by kernel_rfl))
  f241 := Tryz.func220.trans (congrArg some (by kernel_rfl))
  f276 := Tryz.func218.trans (congrArg some (by kernel_rfl))
  f277 := Tryz.func223.trans (congrArg some (by kernel_rfl))
  t0 := Tryz.underlying0
  a0 := Tryz.isAgg0
  z0 := Tryz.sizeOf0
  v0 := Tryz.zeroValue0
  t3 := Tryz.underlying3
  a3 := Tryz.isAgg3
  z3 := Tryz.sizeOf3
  v3 := Tryz.zeroValue3
  t4 := Tryz.underlying4
  a4 := Tryz.isAgg4
  z4 := Tryz.sizeOf4
  v4 := Tryz.zeroValue4
  t9 := Tryz.underlying9
  a9 := Tryz.isAgg9
  z9 := Tryz.sizeOf9
  v9 := Tryz.zeroValue9
  t20 := Tryz.underlying20
  a20 := Tryz.isAgg20
  z20 := Tryz.sizeOf20
  v20 := Tryz.zeroValue20
  t31 := Tryz.underlying112
  a31 := Tryz.isAgg112
  z31 := Tryz.sizeOf112
  v31 := Tryz.zeroValue112
  t37 := Tryz.underlying22
  a37 := Tryz.isAgg22
  z37 := Tryz.sizeOf22
  v37 := Tryz.zeroValue22
  t70 := Tryz.underlying185
  a70 := Tryz.isAgg185
  z70 := Tryz.sizeOf185
  v70 := Tryz.zeroValue185
  t72 := Tryz.underlying187
  a72 := Tryz.isAgg187
  z72 := Tryz.sizeOf187
  v72 := Tryz.zeroValue187
  t75 := Tryz.underlying189
  a75 := Tryz.isAgg189
  z75 := Tryz.sizeOf189
  v75 := Tryz.zeroValue189
  t76 := Tryz.underlying190
  a76 := Tryz.isAgg190
  z76 := Tryz.sizeOf190
  v76 := Tryz.zeroValue190
  t127 := Tryz.underlying104
  a127 := Tryz.isAgg104
  z127 := Tryz.sizeOf104
  v127 := Tryz.zeroValue104
  t164 := Tryz.underlying214
  a164 := Tryz.isAgg214
  z164 := Tryz.sizeOf214
  v164 := Tryz.zeroValue214 }


theorem extra156 : Builder.Extra Tryz.prog l156_ren := {
  sizeBuilder := by kernel_rfl
  liesBuilder := by kernel_rfl
  t5 := Tryz.underlying5
  a5 := Tryz.isAgg5
  z5 := Tryz.sizeOf5
  v5 := Tryz.zeroValue5
  infoByte := by kernel_rfl
  cellsByte := by kernel_rfl
  sizeByte := by kernel_rfl
  neB5 := by decide }
open Go.RowKit in
theorem sindex_shelf (s : ByteArray) (c : UInt8) (w : World) :
    Calls Tryz.prog 178 #[.string s, .string ⟨#[c]⟩] w fun e w' => e = .returned (.int .i64 (Lib.indexByte s.data.toList c)) ∧ w' = w := Any.stringslite_Index_one l219 s c w
open Go.RowKit in
theorem join_shelf (bk o c : Nat) (xs : List ByteArray) (sep : ByteArray) (w : World) (hcells : ∀ (j : Nat) x, xs[j]? = some x → w.cell? ⟨bk, o + j, none⟩ = some (.string x))
    (hbk : bk < w.heap.size) (hN : xs.length ≤ 140737488355328) (hcap : xs.length ≤ c) (hlen : (Lib.join (xs.map (·.data.toList)) sep.data.toList).length ≤ 140737488355328) :
    Calls Tryz.prog 194 #[.slice (some ⟨bk, o, none⟩) xs.length c, .string sep] w fun e w' => e = .returned (.string ⟨(Lib.join (xs.map (·.data.toList)) sep.data.toList).toArray⟩) ∧ Below w.heap.size w w' :=
  Any.strings_Join l156 extra156 bk o c xs sep w hcells hbk hN hcap hlen
open Go.RowKit in
theorem join_none (a : Option Addr) (c : Nat) (sep : ByteArray) (w : World) :
    Calls Tryz.prog 194 #[.slice a 0 c, .string sep] w fun e w' => e = .returned (.string ⟨#[]⟩) ∧ w' = w := Any.strings_Join_none l156 extra156 a c sep w
end Go.Proofs.YtgkhelbpccehcaaGreatDoor

/- Get, Has and All of the code; the library's IndexFunc and ContainsFunc with the code's closures. Conditions: texts of at most a million bytes, 24 fields. -/
namespace Go.Proofs.YtgkhelbpccehcaaGreatDoor
open Go.RowKit
set_option linter.unusedVariables false
set_option linter.unusedSimpArgs false

/-- The first place at which p holds; -1. -/
def idxI {α : Type} (p : α → Bool) (l : List α) : Int := match l.findIdx? p with | none => -1 | some i => (i : Int)
theorem idxI_none {α : Type} {p : α → Bool} {l : List α} (h : ∀ j (hj : j < l.length), p l[j] = false) : idxI p l = -1 := by
  unfold idxI
  rw [List.findIdx?_eq_none_iff.2 (fun x hx => by obtain ⟨j, hj, rfl⟩ := List.mem_iff_getElem.1 hx; exact h j hj)]
theorem idxI_some {α : Type} {p : α → Bool} {l : List α} {i : Nat} (hi : i < l.length) (h : p l[i] = true) (h0 : ∀ j (hj : j < l.length), j < i → p l[j] = false) : idxI p l = i := by
  unfold idxI
  rw [show l.findIdx? p = some i from List.findIdx?_eq_some_iff_getElem.2 ⟨hi, h, fun j hj => by simp [h0 j (by omega) hj]⟩]
theorem idxI_any {α : Type} (p : α → Bool) (l : List α) : decide (0 ≤ idxI p l) = l.any p := by
  unfold idxI
  cases h : l.findIdx? p with
  | none =>
    rw [List.findIdx?_eq_none_iff] at h
    rw [show l.any p = false from by rw [List.any_eq_false]; intro x hx; simp [h x hx]]; rfl
  | some i =>
    obtain ⟨hi, hp, _⟩ := List.findIdx?_eq_some_iff_getElem.1 h
    rw [show l.any p = true from List.any_eq_true.2 ⟨_, List.getElem_mem hi, hp⟩]
    simp only [decide_eq_true_eq]; omega
theorem get_a {g : Nat} {v : Value} {S : List FV} (n : ByteArray) (w : World) (h : Fld 93 w g v S) (hn : n.size ≤ 1000000) :
    Calls Tryz.prog 163 #[ptr g, .string n] w fun e w' => e = .returned (.string (getF S n)) ∧ Mods [] w w' := by
  have HV := Lib.hid (vals_a n w h hn)
  have hl := valsF_len S n
  have hl2 := h.len
  have HSM := Lib.hid (valsF_small h.small n)
  clear h
  unfold ptr at *
  by_cases h0 : (valsF S n).length = 0
  · have HE := Lib.hid (show getF S n = ⟨#[]⟩ by unfold getF getL; rw [List.eq_nil_of_length_eq_zero h0]; rfl)
    rw [h0] at HV
    clear h0 hl hl2
    go_enter Tryz.func163, Tryz.ntmps163
    go_wp2_with (first
      | (go_at_call 156; refine HV.out.mono ?_; rintro e w1 ⟨u, rfl, hG⟩; obtain ⟨a, c, rfl⟩ := hG.form; have M1 := Lib.hid hG.low; clear hG)
      | (go_at_call 194; refine (join_none _ _ _ _).mono ?_; rintro e w2 ⟨rfl, rfl⟩))
    go_ret
    exact ⟨by rw [HE.out]; rfl, M1.out⟩
  · go_enter Tryz.func163, Tryz.ntmps163
    go_wp2_with (go_at_call 156; refine HV.out.mono ?_; rintro e w1 ⟨u, rfl, hG⟩)
    rcases SsAt.of_row hG.row with ⟨h1, _⟩ | ⟨b, off, cap, rfl, -, hcap, hb, hc⟩
    · exact absurd (congrArg List.length h1) h0
    have hj := join_shelf b off cap (valsF S n) sepF w1 (fun j x hx => by obtain ⟨hj, rfl⟩ := List.getElem?_eq_some_iff.1 hx; exact hc j hj) hb (by omega) hcap (by
      have := join_bound _ HSM.out; have := Nat.mul_le_mul_right 1000002 (show (valsF S n).length ≤ 24 by omega); omega)
    have HJ := Lib.hid hj
    have M1 := Lib.hid hG.low
    clear hj hG hc h0
    go_wp2_with fail
    refine HJ.out.mono ?_
    rintro e w2 ⟨rfl, hm⟩
    have M2 := Lib.hid (M1.out.trans (.of_below hm) (F2 := []) (fun _ h => nomatch h))
    clear hm
    go_wp2
    go_ret
    exact ⟨rfl, M2.out⟩

set_option maxRecDepth 10000 in
theorem index_h (B : Nat) (p : FV → Bool) (v : Value) (S : List FV) (w : World) (hA : FsAt w v S) (hl : S.length ≤ 1000000)
    (hp : ∀ (W : World) (x : FV), x ∈ S → Mods [] w W → Calls Tryz.prog 190 #[.agg #[.string x.1, .string x.2], ptr B] W fun e w' => e = .returned (.bool (p x)) ∧ Mods [] W w') :
    Calls Tryz.prog 208 #[v, .func (.func 190) #[] #[ptr B]] w fun e w' => e = .returned (.int .i64 (idxI p S)) ∧ Mods [] w w' := by
  unfold ptr at *
  have HP := Lib.hid hp
  rcases hA with ⟨rfl, a, cap, rfl⟩ | ⟨b, off, cap, rfl, -, hb, hc⟩
  · go_enter Tryz.func208, Tryz.ntmps208
    go_wp2
    refine wp_loop_rounds 1 ?_
    rw [rounds_succ]
    go_wp2
    go_ret
    exact ⟨rfl, Mods.refl _ _⟩
  · have HC := Lib.hid hc
    clear hc hp
    go_enter Tryz.func208, Tryz.ntmps208
    go_wp2
    go_loopw [5, 8] (fun _ i wr => ∃ (k : Nat), k ≤ S.length ∧ i = .int .i64 k ∧ Mods [] w wr ∧ ∀ j (hj : j < S.length), j < k → p S[j] = false) (fun _ i _ => S.length - (intOf i).toNat)
    case atStart => exact ⟨0, Nat.zero_le _, rfl, Mods.refl _ _, fun j _ h => absurd h (Nat.not_lt_zero _)⟩
    case round =>
      obtain ⟨k, hk, rfl, hm, hno⟩ := hrel
      have HM := Lib.hid hm
      have HN := Lib.hid hno
      clear hm hno
      by_cases hlt : k < S.length
      · have c0 : wr.cell? ⟨b, off + k * 2, none⟩ = some (.string S[k].1) := cell_mods (HC.out k hlt).1 HM.out (by simp)
        have c1 : wr.cell? ⟨b, off + k * 2 + 1, none⟩ = some (.string S[k].2) := cell_mods (HC.out k hlt).2 HM.out (by simp)
        have HX := Lib.hid (fun W hW => HP.out W S[k] (List.getElem_mem hlt) hW)
        obtain ⟨x, hx⟩ : ∃ x, x = S[k] := ⟨_, rfl⟩
        have HXE := Lib.hid hx
        rw [← hx] at HX c0 c1
        clear hx
        cases hpx : p x with
        | true =>
          have HI := Lib.hid (idxI_some hlt (by rw [← HXE.out]; exact hpx) HN.out)
          rw [hpx] at HX
          clear hpx
          go_wp2_with (go_at_call 190; refine (HX.out _ HM.out).mono ?_; rintro e w1 ⟨rfl, hm⟩; have M1 := Lib.hid (HM.out.trans hm (fun _ h => nomatch h)); clear hm)
          go_ret
          exact ⟨by rw [HI.out]; rfl, M1.out⟩
        | false =>
          have HF := Lib.hid (show p S[k] = false by rw [← HXE.out]; exact hpx)
          rw [hpx] at HX
          clear hpx
          go_wp2_with (go_at_call 190; refine (HX.out _ HM.out).mono ?_; rintro e w1 ⟨rfl, hm⟩; have M1 := Lib.hid (HM.out.trans hm (fun _ h => nomatch h)); clear hm)
          go_roundw
          case rel =>
            refine ⟨k + 1, by omega, by go_num, M1.out, fun j hj hjk => ?_⟩
            by_cases e : j = k
            · subst e; exact HF.out
            · exact HN.out j hj (by omega)
          case measure => simp [intOf]; omega
      · obtain rfl : k = S.length := by omega
        have HI := Lib.hid (idxI_none fun j hj => HN.out j hj hj)
        go_wp2
        go_ret
        exact ⟨by rw [HI.out]; rfl, HM.out⟩

theorem contains_f (B : Nat) (p : FV → Bool) (v : Value) (S : List FV) (w : World) (hA : FsAt w v S) (hl : S.length ≤ 1000000)
    (hp : ∀ (W : World) (x : FV), x ∈ S → Mods [] w W → Calls Tryz.prog 190 #[.agg #[.string x.1, .string x.2], ptr B] W fun e w' => e = .returned (.bool (p x)) ∧ Mods [] W w') :
    Calls Tryz.prog 189 #[v, .func (.func 190) #[] #[ptr B]] w fun e w' => e = .returned (.bool (S.any p)) ∧ Mods [] w w' := by
  have HI := Lib.hid (index_h B p v S w hA hl hp)
  have HA := Lib.hid (idxI_any p S)
  clear hp
  obtain ⟨a, c, rfl⟩ := hA.len
  unfold ptr at *
  go_enter Tryz.func189, Tryz.ntmps189
  go_wp2_with (go_at_call 208; refine HI.out.mono ?_; rintro e w1 ⟨rfl, hm⟩; have M1 := Lib.hid hm; clear hm)
  go_ret
  exact ⟨by rw [← HA.out]; rfl, M1.out⟩

theorem same_any (a b : ByteArray) (ha : a.size ≤ 1000000) (hb : b.size ≤ 1000000) (w : World) : Calls Tryz.prog 154 #[.string a, .string b] w fun e w' => e = .returned (.bool (sameL a b)) ∧ Mods [] w w' := sameK a b rfl ha hb w
set_option maxRecDepth 10000 in
theorem has_clo (x : FV) (n : ByteArray) (B : Nat) (w : World) (hB : w.cell? ⟨B, 0, none⟩ = some (.string n)) (hx : x.1.size ≤ 1000000) (hn : n.size ≤ 1000000) :
    Calls Tryz.prog 190 #[.agg #[.string x.1, .string x.2], ptr B] w fun e w' => e = .returned (.bool (sameL x.1 n)) ∧ Mods [] w w' := by
  obtain ⟨a, b⟩ := x
  simp only at hx
  have hc := cell_alloc hB (.cells #[.string a, .string b] 81)
  have HS := Lib.hid (fun w => same_any a n hx hn w)
  unfold ptr
  go_enter Tryz.func190, Tryz.ntmps190
  go_wp2_with (go_at_call 154; refine (HS.out _).mono ?_; rintro e w1 ⟨rfl, hm⟩; have M1 := Lib.hid (((Mods.refl [] w).alloc _).trans hm (fun _ h => nomatch h)); clear hm)
  go_ret
  exact ⟨rfl, M1.out⟩
set_option maxRecDepth 10000 in
theorem fhas_a {g : Nat} {v : Value} {S : List FV} (n : ByteArray) (w : World) (h : Fld 93 w g v S) (hn : n.size ≤ 1000000) :
    Calls Tryz.prog 158 #[ptr g, .string n] w fun e w' => e = .returned (.bool (hasF S n)) ∧ Mods [] w w' := by
  have h1 := h.low ((Mods.refl [] w).alloc (.cells #[.string n] 9))
  have hK := kept_a _ h1
  have hC := contains_f w.heap.size (fun x => sameL x.1 n) v S _ h1.fs (by have := h.len; omega) (fun W x hx hm => has_clo x n w.heap.size W (cell_mods ((Row.new w 9 #[.string n]).cell 0) hm (by simp)) (h.small x hx).1 hn)
  have HC := Lib.hid hC
  have HK := Lib.hid hK
  obtain ⟨a, c, rfl⟩ := h.form
  clear hC hK h1 h
  unfold ptr at *
  go_enter Tryz.func158, Tryz.ntmps158
  go_wp2_with (first
    | (go_at_call 38; refine HK.out.mono ?_; rintro e w' ⟨rfl, rfl⟩)
    | (go_at_call 189; refine HC.out.mono ?_; rintro e w1 ⟨rfl, hm⟩; have M1 := Lib.hid (((Mods.refl [] w).alloc _).trans hm (fun _ h => nomatch h)); clear hm))
  go_ret
  exact ⟨rfl, M1.out⟩
theorem has_nil (n : ByteArray) (w : World) (hn : n.size ≤ 1000000) : Calls Tryz.prog 158 #[.pointer none, .string n] w fun e w' => e = .returned (.bool false) ∧ Mods [] w w' := by
  have hC := fun w0 => contains_f w.heap.size (fun x => sameL x.1 n) (.slice none 0 0) [] w0 (.inl ⟨rfl, _, _, rfl⟩) (by simp) (fun W x hx hm => nomatch hx)
  have HC := Lib.hid hC
  clear hC
  unfold ptr at *
  go_enter Tryz.func158, Tryz.ntmps158
  go_wp2_with (first
    | (go_at_call 38; refine (kept_nil _).mono ?_; rintro e w' ⟨rfl, rfl⟩)
    | (go_at_call 189; refine (HC.out _).mono ?_; rintro e w1 ⟨rfl, hm⟩; have M1 := Lib.hid (((Mods.refl [] w).alloc _).trans hm (fun _ h => nomatch h)); clear hm))
  go_ret
  exact ⟨rfl, M1.out⟩
end Go.Proofs.YtgkhelbpccehcaaGreatDoor
