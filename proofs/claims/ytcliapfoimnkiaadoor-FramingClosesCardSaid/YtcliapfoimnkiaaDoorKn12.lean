/- The two heads that the laws know: two lengths of one number, an unknown coding. Conditions: none. -/
import Derived.Test.YtcliapfoimnkiaaDoorFz12
import Derived.Test.YtcliapfoimnkiaaDoorFg10
import Derived.Deep.RegionHeld3
namespace Go.Proofs.YtcliapfoimnkiaaDoor
open Go.RowKit
set_option linter.unusedVariables false
set_option linter.unusedSimpArgs false

def kn1 : List FV := [(⟨#[72, 111, 115, 116]⟩, ⟨#[97]⟩), (⟨#[67, 111, 110, 116, 101, 110, 116, 45, 76, 101, 110, 103, 116, 104]⟩, ⟨#[53]⟩), (⟨#[99, 111, 110, 116, 101, 110, 116, 45, 108, 101, 110, 103, 116, 104]⟩, ⟨#[53, 44, 32, 48, 53]⟩)]
def kn2 : List FV := [(⟨#[72, 111, 115, 116]⟩, ⟨#[97]⟩), (⟨#[84, 114, 97, 110, 115, 102, 101, 114, 45, 69, 110, 99, 111, 100, 105, 110, 103]⟩, ⟨#[103, 122, 105, 112, 44, 32, 99, 104, 117, 110, 107, 101, 100]⟩)]
theorem kn1_of : (frm 1 (addF [] kn1)).1.kind = 1 ∧ (frm 1 (addF [] kn1)).1.length = 5 ∧ (frm 1 (addF [] kn1)).1.close = false ∧ (frm 1 (addF [] kn1)).1.expect = false ∧ (frm 1 (addF [] kn1)).2 = 0 := by decide +kernel
theorem kn2_of : (frm 1 (addF [] kn2)).1.kind = 0 ∧ (frm 1 (addF [] kn2)).1.length = 0 ∧ (frm 1 (addF [] kn2)).1.close = false ∧ (frm 1 (addF [] kn2)).1.expect = false ∧ (frm 1 (addF [] kn2)).2 = 501 := by decide +kernel
theorem kn2_is : frm 1 (addF [] kn2) = (⟨0, 0, false, false⟩, 501) := by
  obtain ⟨h1, h2, h3, h4, h5⟩ := kn2_of
  generalize frm 1 (addF [] kn2) = r at *
  obtain ⟨⟨a, b, c, d⟩, s⟩ := r
  simp only at h1 h2 h3 h4 h5
  subst h1; subst h2; subst h3; subst h4; subst h5; rfl
theorem kn1_is : frm 1 (addF [] kn1) = (⟨1, 5, false, false⟩, 0) := by
  obtain ⟨h1, h2, h3, h4, h5⟩ := kn1_of
  generalize frm 1 (addF [] kn1) = r at *
  obtain ⟨⟨a, b, c, d⟩, s⟩ := r
  simp only at h1 h2 h3 h4 h5
  subst h1; subst h2; subst h3; subst h4; subst h5; rfl
theorem kn_small : Small kn1 ∧ Small kn2 ∧ Lite (addF [] kn1) ∧ Lite (addF [] kn2) := by
  refine ⟨?_, ?_, ?_, ?_⟩
  · intro p hp; simp only [kn1, List.mem_cons, List.not_mem_nil, or_false] at hp; rcases hp with rfl | rfl | rfl <;> exact ⟨by decide, by decide⟩
  · intro p hp; simp only [kn2, List.mem_cons, List.not_mem_nil, or_false] at hp; rcases hp with rfl | rfl <;> exact ⟨by decide, by decide⟩
  · unfold Lite; decide +kernel
  · unfold Lite; decide +kernel

set_option maxRecDepth 10000 in
set_option maxHeartbeats 4000000 in
theorem known_12 (w : World) : Calls Tryd.prog 7 #[] w fun e w' => e = .returned (.bool true) ∧ Mods [] w w' := by
  have HO1 := Lib.hid (of_a (.slice (some ⟨w.heap.size, 0, none⟩) kn1.length 3) kn1 _ (FsAt.new w 25 kn1 (by decide) 3) (by decide) kn_small.1)
  go_enter Tryd.func7, Tryd.ntmps7
  go_wp2_with (first
    | (go_at_call 5; (with_reducible show Calls _ _ #[.slice _ 3 3] _ _); refine HO1.out.mono ?_; rintro e w1 ⟨g1, u1, rfl, hA⟩; have HA1 := Lib.hid hA; have HM1 := Lib.hid (((Mods.refl [] w).alloc _).trans hA.mods (fun _ h => nomatch h)); have HF1 := Lib.hid (of_f (m := 1) (FP.of_fld hA.fld) kn_small.2.2.1); rw [kn1_is] at HF1; unfold ptr; unfold ptr at HF1; clear hA)
    | (go_at_call 6; (with_reducible show Calls _ _ #[_, .pointer (some ⟨g1, 0, none⟩)] _ _); refine HF1.out.mono ?_; rintro e w2 ⟨rfl, hm⟩; have HM2 := Lib.hid (HM1.out.trans hm (fun _ h => nomatch h)); have HO2 := Lib.hid (of_a (.slice (some ⟨(w2.alloc (.cells #[.int .i64 1, .int .i64 5, .bool false, .bool false] 30)).heap.size, 0, none⟩) kn2.length 2) kn2 _ (FsAt.new (w2.alloc (.cells #[.int .i64 1, .int .i64 5, .bool false, .bool false] 30)) 25 kn2 (by decide) 2) (by decide) kn_small.2.1); rw [World.size_alloc] at HO2; unfold howV; clear hm)
    | (go_at_call 5; refine HO2.out.mono ?_; rintro e w3 ⟨g3, u3, rfl, hA⟩; have HR3 := Lib.hid (((Row.new w2 30 #[.int .i64 1, .int .i64 5, .bool false, .bool false]).alloc _).mods hA.mods (by simp)); have HM3 := Lib.hid (((HM2.out.alloc _).alloc _).trans hA.mods (fun _ h => nomatch h)); have HF3 := Lib.hid (of_f (m := 1) (FP.of_fld hA.fld) kn_small.2.2.2); rw [kn2_is] at HF3; unfold ptr; unfold ptr at HF3; clear hA)
    | (go_at_call 6; refine HF3.out.mono ?_; rintro e w4 ⟨rfl, hm⟩; have HR4 := HR3.out.mods hm (by simp); have k0 := HR4.cell 0; have k1 := HR4.cell 1; have k2 := HR4.cell 2; have k3 := HR4.cell 3; simp only [List.getElem?_toArray, List.getElem?_cons_zero, List.getElem?_cons_succ] at k0 k1 k2 k3; have k0 := cell_alloc k0 (.cells #[.int .i64 0, .int .i64 0, .bool false, .bool false] 30); have k1 := cell_alloc k1 (.cells #[.int .i64 0, .int .i64 0, .bool false, .bool false] 30); have k2 := cell_alloc k2 (.cells #[.int .i64 0, .int .i64 0, .bool false, .bool false] 30); have k3 := cell_alloc k3 (.cells #[.int .i64 0, .int .i64 0, .bool false, .bool false] 30); have HM4 := Lib.hid ((HM3.out.trans hm (fun _ h => nomatch h)).alloc (.cells #[.int .i64 0, .int .i64 0, .bool false, .bool false] 30)); unfold howV; clear hm HR4))
  go_ret
  exact ⟨rfl, HM4.out⟩
end Go.Proofs.YtcliapfoimnkiaaDoor
