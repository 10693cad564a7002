/- The law's known lists are as they must be. Conditions: none. -/
import Derived.Test.YtfnjkkjpffnbiaaDoorPl9
namespace Go.Proofs.YtfnjkkjpffnbiaaDoor
open Go.RowKit
set_option linter.unusedVariables false

def kT : List ByteArray := [⟨#[97, 44, 32, 44, 66]⟩, ⟨#[99]⟩]
def kL : List ByteArray := [⟨#[97]⟩, ⟨#[98]⟩, ⟨#[99]⟩]
def kP : List PV := [([120], [49]), ([121], [97, 34, 98])]
theorem kT_ans : toksO kT = some [[97], [98], [99]] := by decide +kernel
theorem kP_ans : parsL [59, 32, 120, 61, 49, 59, 121, 61, 34, 97, 92, 34, 98, 34] = some kP := by decide +kernel
/-- Rows that a call lays itself. -/
theorem strs_new (w : World) (ts : List ByteArray) (h : 0 < ts.length) : StrsAt (w.alloc (.cells (ts.map Value.string).toArray 9)) (.slice (some ⟨w.heap.size, 0, none⟩) ts.length ts.length) ts := by
  refine .inr ⟨w.heap.size, 0, ts.length, rfl, h, by simp, fun j hj => ?_⟩
  have e := World.alloc_heap_new w (.cells (ts.map Value.string).toArray 9)
  simp only [World.cell?, e, Nat.zero_add]
  simp [hj]
theorem tok_known (w : World) : Calls Tryd.prog 10 #[.slice (some ⟨w.heap.size, 0, none⟩) 2 2] (w.alloc (.cells #[.string { data := #[97, 44, 32, 44, 66] }, .string { data := #[99] }] 9))
    fun e w' => ∃ a c, e = .returned (.tuple #[.slice a 3 c, .bool true]) ∧ StrsAt w' (.slice a 3 c) kL ∧ Below w.heap.size w w' := by
  refine (tokens_a kT _ _ (strs_new w kT (by decide)) (by decide)).mono ?_
  rintro e w' ⟨hb, he⟩
  rw [kT_ans] at he
  obtain ⟨v, rfl, hr⟩ := he
  have hs := row_strs hr
  obtain ⟨a, c, hv⟩ := hs.len
  exact ⟨a, c, by rw [hv]; rfl, by rw [← show v = .slice a 3 c from hv]; exact hs, ((Below.refl _ w).alloc (Nat.le_refl _) _).trans (hb.mono (by simp))⟩
theorem par_known (w : World) : Calls Tryd.prog 18 #[.string { data := #[59, 32, 120, 61, 49, 59, 121, 61, 34, 97, 92, 34, 98, 34] }] w
    fun e w' => ∃ a c, e = .returned (.tuple #[.slice a 2 c, .bool true]) ∧ ParAt w' (.slice a 2 c) kP ∧ Below w.heap.size w w' := by
  refine (params_a _ w (by decide)).mono ?_
  rintro e w' ⟨hb, he⟩
  rw [kP_ans] at he
  obtain ⟨v, rfl, hr⟩ := he
  have hs := row_pars hr
  obtain ⟨a, c, hv⟩ := hs.len
  exact ⟨a, c, by rw [hv]; rfl, by rw [← show v = .slice a 2 c from hv]; exact hs, hb⟩
theorem texts_known (a : Option Addr) (c : Nat) (w : World) (h : StrsAt w (.slice a 3 c) kL) : Calls Tryd.prog 12 #[.slice a 3 c, .slice (some ⟨w.heap.size, 0, none⟩) 3 3]
    (w.alloc (.cells #[.string { data := #[97] }, .string { data := #[98] }, .string { data := #[99] }] 9)) fun e w' => e = .returned (.bool true) ∧ Below w.heap.size w w' :=
  (texts_l kL kL _ _ _ (h.below ((Below.refl _ w).alloc (Nat.le_refl _) _)) (strs_new w kL (by decide)) (by decide) (by decide)).mono fun e w' ⟨he, hd⟩ =>
    ⟨by rw [he]; simp, ((Below.refl _ w).alloc (Nat.le_refl _) _).trans (hd.below.mono (by simp))⟩
theorem pars_new (t : TypeId) (w : World) : ParAt (w.alloc (.cells #[.string { data := #[120] }, .string { data := #[49] }, .string { data := #[121] }, .string { data := #[97, 34, 98] }] t)) (.slice (some ⟨w.heap.size, 0, none⟩) 2 2) kP := by
  refine .inr ⟨w.heap.size, 2, rfl, by decide, by simp, fun j hj => ?_⟩
  have e := World.alloc_heap_new w (.cells #[.string { data := #[120] }, .string { data := #[49] }, .string { data := #[121] }, .string { data := #[97, 34, 98] }] t)
  have hj2 : j = 0 ∨ j = 1 := by have : j < 2 := hj; omega
  simp only [World.cell?, e]
  rcases hj2 with rfl | rfl <;> exact ⟨rfl, rfl⟩
theorem params_known (a : Option Addr) (c : Nat) (w : World) (h : ParAt w (.slice a 2 c) kP) : Calls Tryd.prog 20 #[.slice a 2 c, .slice (some ⟨w.heap.size, 0, none⟩) 2 2]
    (w.alloc (.cells #[.string { data := #[120] }, .string { data := #[49] }, .string { data := #[121] }, .string { data := #[97, 34, 98] }] 43)) fun e w' => e = .returned (.bool true) ∧ Below w.heap.size w w' :=
  (params_l kP kP _ _ _ (h.below ((Below.refl _ w).alloc (Nat.le_refl _) _)) (pars_new _ w) (by decide) (by decide)).mono fun e w' ⟨he, hd⟩ =>
    ⟨by rw [he]; simp, ((Below.refl _ w).alloc (Nat.le_refl _) _).trans (hd.below.mono (by simp))⟩
set_option maxRecDepth 10000 in
theorem known9 (w : World) : Calls Tryd.prog 15 #[] w fun e w' => e = .returned (.bool true) ∧ Below w.heap.size w w' := by
  go_enter Tryd.func15, Tryd.ntmps15
  go_wp2_with (first
    | (go_at_call 10; refine (tok_known w).mono ?_; rintro e w1 ⟨a, c, rfl, h1, hb1⟩; have H1 := Lib.hid h1; have HB1 := Lib.hid hb1; clear h1 hb1)
    | (go_at_call 18; refine (par_known _).mono ?_; rintro e w2 ⟨a2, c2, rfl, h2, hb2⟩; have H2 := Lib.hid h2; have HB2 := Lib.hid hb2; clear h2 hb2)
    | (go_at_call 12; refine (texts_known a c w2 (H1.out.below HB2.out)).mono ?_; rintro e w3 ⟨rfl, hb3⟩; have HB3 := Lib.hid hb3; clear hb3)
    | (go_at_call 20; refine (params_known a2 c2 w3 (H2.out.below HB3.out)).mono ?_; rintro e w4 ⟨rfl, hb4⟩; have HB4 := Lib.hid hb4; clear hb4))
  go_ret
  exact ⟨rfl, HB1.out.trans ((HB2.out.trans ((HB3.out.trans (HB4.out.mono HB3.out.size)).mono HB2.out.size)).mono HB1.out.size)⟩
end Go.Proofs.YtfnjkkjpffnbiaaDoor
