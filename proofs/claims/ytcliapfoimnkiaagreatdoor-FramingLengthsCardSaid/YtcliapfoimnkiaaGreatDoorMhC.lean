/- The two heads that the laws know: two lengths of one number, an unknown coding. Conditions: none. -/
import Derived.Test.YtcliapfoimnkiaaGreatDoorMhA
import Derived.Test.YtcliapfoimnkiaaGreatDoorFg10
import Derived.Deep.RegionHeld3
import Derived.Test.YtcliapfoimnkiaaGreatDoorFo10
import Derived.Test.YtcliapfoimnkiaaGreatDoorFl10
import Derived.BigQuiet
import Derived.Test.YtcliapfoimnkiaaGreatDoorMhB
import Derived.Test.YtcliapfoimnkiaaGreatDoorOpenN
import Derived.Test.YtcliapfoimnkiaaGreatDoorMhM
import Derived.Test.YtcliapfoimnkiaaGreatDoorDigits
import Derived.Test.YtcliapfoimnkiaaGreatDoorLowerR
namespace Go.Proofs.YtcliapfoimnkiaaGreatDoor
open Go.RowKit
set_option linter.unusedVariables false
set_option linter.unusedSimpArgs false

def kn1 : List FV := [(⟨#[72, 111, 115, 116]⟩, ⟨#[97]⟩), (⟨#[67, 111, 110, 116, 101, 110, 116, 45, 76, 101, 110, 103, 116, 104]⟩, ⟨#[53]⟩), (⟨#[99, 111, 110, 116, 101, 110, 116, 45, 108, 101, 110, 103, 116, 104]⟩, ⟨#[53, 44, 32, 48, 53]⟩)]
def kn2 : List FV := [(⟨#[72, 111, 115, 116]⟩, ⟨#[97]⟩), (⟨#[84, 114, 97, 110, 115, 102, 101, 114, 45, 69, 110, 99, 111, 100, 105, 110, 103]⟩, ⟨#[103, 122, 105, 112, 44, 32, 99, 104, 117, 110, 107, 101, 100]⟩)]
theorem kn1_of : (frm 1 (addF [] kn1)).1.kind = 1 ∧ (frm 1 (addF [] kn1)).1.length = 5 ∧ (frm 1 (addF [] kn1)).1.close = false ∧ (frm 1 (addF [] kn1)).1.expect = false ∧ (frm 1 (addF [] kn1)).2 = 0 := by decide +kernel
theorem kn2_of : (frm 1 (addF [] kn2)).1.kind = 0 ∧ (frm 1 (addF [] kn2)).1.length = 0 ∧ (frm 1 (addF [] kn2)).1.close = false ∧ (frm 1 (addF [] kn2)).1.expect = false ∧ (frm 1 (addF [] kn2)).2 = 501 := by decide +kernel
theorem kn2_is : frm 1 (addF [] kn2) = (⟨0, 0, false, false⟩, 501) := by
  obtain ⟨h1, h2, h3, h4, h5⟩ := kn2_of
  generalize frm 1 (addF [] kn2) = r at *
  obtain ⟨⟨a, b, c, d⟩, s⟩ := r
  simp only at h1 h2 h3 h4 h5
  subst h1; subst h2; subst h3; subst h4; subst h5; rfl
theorem kn1_is : frm 1 (addF [] kn1) = (⟨1, 5, false, false⟩, 0) := by
  obtain ⟨h1, h2, h3, h4, h5⟩ := kn1_of
  generalize frm 1 (addF [] kn1) = r at *
  obtain ⟨⟨a, b, c, d⟩, s⟩ := r
  simp only at h1 h2 h3 h4 h5
  subst h1; subst h2; subst h3; subst h4; subst h5; rfl
theorem kn_small : Small kn1 ∧ Small kn2 ∧ Lite (addF [] kn1) ∧ Lite (addF [] kn2) := by
  refine ⟨?_, ?_, ?_, ?_⟩
  · intro p hp; simp only [kn1, List.mem_cons, List.not_mem_nil, or_false] at hp; rcases hp with rfl | rfl | rfl <;> exact ⟨by decide, by decide⟩
  · intro p hp; simp only [kn2, List.mem_cons, List.not_mem_nil, or_false] at hp; rcases hp with rfl | rfl <;> exact ⟨by decide, by decide⟩
  · unfold Lite; decide +kernel
  · unfold Lite; decide +kernel

set_option maxRecDepth 10000 in
set_option maxHeartbeats 4000000 in
theorem known_12 (w : World) : Calls Tryz.prog 9 #[] w fun e w' => e = .returned (.bool true) ∧ Mods [] w w' := by
  have HO1 := Lib.hid (of_a (.slice (some ⟨w.heap.size, 0, none⟩) kn1.length 3) kn1 _ (FsAt.new w 35 kn1 (by decide) 3) (by decide) kn_small.1)
  go_enter Tryz.func9, Tryz.ntmps9
  go_wp2_with (first
    | (go_at_call 11; (with_reducible show Calls _ _ #[.slice _ 3 3] _ _); refine HO1.out.mono ?_; rintro e w1 ⟨g1, u1, rfl, hA⟩; have HA1 := Lib.hid hA; have HM1 := Lib.hid (((Mods.refl [] w).alloc _).trans hA.mods (fun _ h => nomatch h)); have HF1 := Lib.hid (of_f (m := 1) (FP.of_fld hA.fld) kn_small.2.2.1); rw [kn1_is] at HF1; unfold ptr; unfold ptr at HF1; clear hA)
    | (go_at_call 6; (with_reducible show Calls _ _ #[_, .pointer (some ⟨g1, 0, none⟩)] _ _); refine HF1.out.mono ?_; rintro e w2 ⟨rfl, hm⟩; have HM2 := Lib.hid (HM1.out.trans hm (fun _ h => nomatch h)); have HO2 := Lib.hid (of_a (.slice (some ⟨(w2.alloc (.cells #[.int .i64 1, .int .i64 5, .bool false, .bool false] 25)).heap.size, 0, none⟩) kn2.length 2) kn2 _ (FsAt.new (w2.alloc (.cells #[.int .i64 1, .int .i64 5, .bool false, .bool false] 25)) 35 kn2 (by decide) 2) (by decide) kn_small.2.1); rw [World.size_alloc] at HO2; unfold howV; clear hm)
    | (go_at_call 11; refine HO2.out.mono ?_; rintro e w3 ⟨g3, u3, rfl, hA⟩; have HR3 := Lib.hid (((Row.new w2 25 #[.int .i64 1, .int .i64 5, .bool false, .bool false]).alloc _).mods hA.mods (by simp)); have HM3 := Lib.hid (((HM2.out.alloc _).alloc _).trans hA.mods (fun _ h => nomatch h)); have HF3 := Lib.hid (of_f (m := 1) (FP.of_fld hA.fld) kn_small.2.2.2); rw [kn2_is] at HF3; unfold ptr; unfold ptr at HF3; clear hA)
    | (go_at_call 6; refine HF3.out.mono ?_; rintro e w4 ⟨rfl, hm⟩; have HR4 := HR3.out.mods hm (by simp); have k0 := HR4.cell 0; have k1 := HR4.cell 1; have k2 := HR4.cell 2; have k3 := HR4.cell 3; simp only [List.getElem?_toArray, List.getElem?_cons_zero, List.getElem?_cons_succ] at k0 k1 k2 k3; have k0 := cell_alloc k0 (.cells #[.int .i64 0, .int .i64 0, .bool false, .bool false] 25); have k1 := cell_alloc k1 (.cells #[.int .i64 0, .int .i64 0, .bool false, .bool false] 25); have k2 := cell_alloc k2 (.cells #[.int .i64 0, .int .i64 0, .bool false, .bool false] 25); have k3 := cell_alloc k3 (.cells #[.int .i64 0, .int .i64 0, .bool false, .bool false] 25); have HM4 := Lib.hid ((HM3.out.trans hm (fun _ h => nomatch h)).alloc (.cells #[.int .i64 0, .int .i64 0, .bool false, .bool false] 25)); unfold howV; clear hm HR4))
  go_ret
  exact ⟨rfl, HM4.out⟩
end Go.Proofs.YtcliapfoimnkiaaGreatDoor

/- The law's heavy: fields that are not heavy are light. Conditions: fields that came in. -/
namespace Go.Proofs.YtcliapfoimnkiaaGreatDoor
open Go.RowKit
set_option linter.unusedVariables false
set_option linter.unusedSimpArgs false

def wgt (l : List FV) : Nat := (l.map fun p => 5 + p.1.size + p.2.size).sum
theorem wgt_snoc (l : List FV) (p : FV) : wgt (l ++ [p]) = wgt l + (5 + p.1.size + p.2.size) := by unfold wgt; simp
theorem wgt_mem {l : List FV} {p : FV} (h : p ∈ l) : 5 + p.1.size + p.2.size ≤ wgt l := by
  unfold wgt
  induction l with
  | nil => cases h
  | cons q r ih =>
    rw [List.map_cons, List.sum_cons]
    rcases List.mem_cons.1 h with rfl | h
    · omega
    · have := ih h; omega
theorem wgt_sizes (l : List FV) : sizes (l.map (·.2)) + l.length * 4 ≤ wgt l := by
  unfold wgt
  induction l with
  | nil => simp [sizes]
  | cons q r ih => rw [List.map_cons, List.map_cons, List.sum_cons]; simp only [sizes, List.length_cons]; omega
theorem wgt_small {l : List FV} (h : wgt l ≤ 3000) : Small l := fun p hp => by have := wgt_mem hp; omega
theorem wgt_len {l : List FV} (h : wgt l ≤ 3000) : l.length ≤ 1000000 := by have := wgt_sizes l; omega
theorem wgt_lite {l : List FV} (h : wgt l ≤ 3000) : Lite (addF [] l) := by
  have h1 := wgt_sizes l
  have h2 : sizes ((addF [] l).map (·.2)) ≤ sizes (l.map (·.2)) := sizes_sub (by unfold addF; rw [List.nil_append]; exact (List.take_sublist _ _).map _)
  unfold Lite
  omega
/-- What heavy answers. -/
def Hv12 (l : List FV) (w : World) (e : Ending) (w' : World) : Prop := ∃ b, e = .returned (.bool b) ∧ (b = false → wgt l ≤ 3000) ∧ Mods [] w w'
set_option maxRecDepth 10000 in
set_option maxHeartbeats 4000000 in
theorem heavy_12 (r : FRow) (w : World) (h : r.Ok w) : Calls Tryz.prog 5 #[r.v] w (Hv12 r.l w) := by
  obtain ⟨A, C, l⟩ := r
  have hlb := h.len
  have HBG := Lib.hid h.big
  obtain ⟨A2, C2, hrv, hcell⟩ := h.fs.gen
  simp only [FRow.v] at hrv hcell hlb ⊢
  injection hrv with hr1 hr2 hr3
  subst hr1 hr3
  have HCL := Lib.hid hcell
  clear h hr2 hcell
  go_enter Tryz.func5, Tryz.ntmps5
  go_wp2
  go_loopw [3, 4] (fun n i wr => ∃ (k m : Nat), k ≤ l.length ∧ i = .int .i64 k ∧ n = .int .i64 m ∧ m ≤ 3000 ∧ m = wgt (l.take k) ∧ Mods [] w wr) (fun _ i _ => l.length - (intOf i).toNat)
  case atStart => exact ⟨0, 0, Nat.zero_le _, rfl, rfl, Nat.zero_le _, rfl, Mods.refl _ _⟩
  case round =>
    obtain ⟨k, m, hk, rfl, rfl, hm, hmk, hM⟩ := hrel
    have HM := Lib.hid hM
    have HMK := Lib.hid hmk
    clear hM hmk
    by_cases hlt : k < l.length
    · obtain ⟨fb, fo, rfl, hf1, hf2⟩ := HCL.out k hlt
      have e1 := cell_mods hf1 HM.out (by simp)
      have e2 := cell_mods hf2 HM.out (by simp)
      have hbg := HBG.out _ (List.getElem_mem hlt)
      have HTK := Lib.hid (show wgt (l.take (k + 1)) = wgt (l.take k) + (5 + l[k].1.size + l[k].2.size) by rw [List.take_succ_eq_append_getElem hlt, wgt_snoc])
      obtain ⟨p, hp⟩ : ∃ p, p = l[k] := ⟨_, rfl⟩
      rw [← hp] at e1 e2 hbg HTK
      clear hp hf1 hf2
      obtain ⟨x, y⟩ := p
      simp only at e1 e2 hbg HTK
      obtain ⟨hb1, hb2⟩ := hbg
      by_cases hbig : 3000 < m + 5 + x.size + y.size
      · go_wp2
        go_quiet (fail)
        go_wp2
        go_ret
        exact ⟨true, rfl, (fun h => nomatch h), HM.out.drewN _⟩
      · go_wp2
        go_quiet (fail)
        go_wp2
        go_roundw
        case rel => exact ⟨k + 1, m + 5 + x.size + y.size, by omega, by go_num, congrArg (Value.int .i64) (by omega), by omega, by rw [HTK.out, ← HMK.out]; omega, HM.out.drewN _⟩
        case measure => simp [intOf]; omega
    · obtain rfl : k = l.length := by omega
      go_wp2
      go_ret
      exact ⟨false, rfl, fun _ => by have := HMK.out; rw [List.take_length] at this; omega, HM.out⟩
end Go.Proofs.YtcliapfoimnkiaaGreatDoor

/- The law's of: both answer the same, and both hold as many fields. Conditions: fields of at most 3000 bytes in all. -/
namespace Go.Proofs.YtcliapfoimnkiaaGreatDoor
open Go.RowKit
set_option linter.unusedVariables false
set_option linter.unusedSimpArgs false

theorem eql_how (a b : Int) (c d : Bool) (w : World) : (binOp .eql 25 (.agg #[.int .i64 a, .int .i64 b, .bool c, .bool d]) (.agg #[.int .i64 a, .int .i64 b, .bool c, .bool d])).run Tryz.prog w = .ok (.bool true) w := by
  have u3 := Tryz.underlying3
  have a3 := Tryz.isAgg3
  have z3 := Tryz.sizeOf3
  have u4 := Tryz.underlying4
  have a4 := Tryz.isAgg4
  have z4 := Tryz.sizeOf4
  have hS : Tryz.prog.underlying 25 = some (.struct (Tryz.prog.fieldsOf 25)) := by kernel_rfl
  have hp : Tryz.prog.stoodInHeld 25 = false := by kernel_rfl
  rw [run_eql_struct, show (10000 : Nat) = 9999 + 1 from rfl, run_equalIn_agg w 9999 25 _ _ hS hp]
  simp only [Program.fieldsOf, Tryz.underlying25]
  go_simp
theorem eqg_how : Tryz.prog.eqGuardType Tryz.prog.depth 25 = false := by kernel_rfl
theorem fs_lt {w : World} {v : Value} {l : List FV} (h : FsAt w v l) (h0 : 0 < l.length) : ∀ k ∈ v.ownBlock.toList, k < w.heap.size := h.lt h0
/-- A Fields of the document's that a law makes and fills. -/
theorem radd_new (vl : Value) (l : List FV) (w : World) (hA : FsAt w vl l) (hw : wgt l ≤ 3000) :
    Calls Tryz.prog 24 #[ptr w.heap.size, vl] (w.alloc (.cells #[.slice none 0 0] 48)) fun e w' => ∃ u r1 r2, e = .returned (.tuple #[.int .i64 r1, .int .i64 r2]) ∧ Made 48 w w.heap.size u (addF [] l) w' := by
  have h := radd vl l _ (fld_new 48 w) (hA.low ((Mods.refl [] w).alloc _)) (wgt_len hw) (wgt_small hw) (fun h0 k hk => ⟨by have := hA.lt h0 k hk; omega, by simp [Value.ownBlock]⟩)
  exact h.mono fun e w' ⟨u, he, hadd⟩ => ⟨u, _, _, he, made_of hadd⟩

set_option maxRecDepth 10000 in
set_option maxHeartbeats 4000000 in
theorem of_l (m : Int) (vl : Value) (l : List FV) (w : World) (hA : FsAt w vl l) (hw : wgt l ≤ 3000) :
    Calls Tryz.prog 8 #[.int .i64 m, vl] w fun e w' => e = .returned (.bool true) ∧ Mods [] w w' := by
  have HO := Lib.hid (of_a vl l w hA (wgt_len hw) (wgt_small hw))
  have HRA := Lib.hid (fun w1 (hm : Mods [] w w1) => radd_new vl l w1 (hA.low hm) hw)
  have HLT := Lib.hid (wgt_lite hw)
  have HRN := Lib.hid (show ∀ (g : Nat) (v : Value) (w : World), Fld 48 w g v (addF [] l) → Calls Tryz.prog 7 #[.int .i64 m, ptr g] w (HAns w (frm m (addF [] l))) from fun g v w h => of_rfld (minN_max m).symm (minN_01 m) h HLT.out)
  have HFN := Lib.hid (show ∀ (g : Nat) (v : Value) (w : World), Fld 63 w g v (addF [] l) → Calls Tryz.prog 6 #[.int .i64 m, ptr g] w (HAns w (frm m (addF [] l))) from fun g v w h => of_f (FP.of_fld h) HLT.out)
  unfold HAns howV at HRN HFN
  have hsl : (addF [] l).length ≤ 24 := addF_len (by simp)
  generalize frm m (addF [] l) = rr at *
  obtain ⟨⟨k, ln, c, x⟩, s⟩ := rr
  simp only at HRN HFN
  obtain ⟨a0, c0, rfl⟩ := hA.len
  clear hA hw
  go_enter Tryz.func8, Tryz.ntmps8
  go_upto_region 8 with (first
    | (go_at_call 11; refine HO.out.mono ?_; rintro e w1 ⟨g1, u1, rfl, hA⟩; have HA1 := Lib.hid hA; unfold ptr; clear hA)
    | (go_at_call 24; refine (HRA.out _ HA1.out.mods).mono ?_; rintro e w2 ⟨u2, r1, r2, rfl, hA⟩; have HA2 := Lib.hid hA; clear hA)
    | (go_at_call 6; refine (HFN.out _ _ _ (HA1.out.fld.low HA2.out.mods)).mono ?_; rintro e w3 ⟨rfl, hm⟩; have HM3 := Lib.hid hm; clear hm)
    | (go_at_call 7; refine (HRN.out _ _ _ ((HA2.out.fld.low HM3.out).low ((Mods.refl [] w3).alloc (.cells #[.int .i64 k, .int .i64 ln, .bool c, .bool x] 25)))).mono ?_; rintro e w4 ⟨rfl, hm⟩; have HR4 := Lib.hid ((Row.new w3 25 #[.int .i64 k, .int .i64 ln, .bool c, .bool x]).mods hm (by simp)); have HM4 := Lib.hid (((Mods.refl [] w3).alloc (.cells #[.int .i64 k, .int .i64 ln, .bool c, .bool x] 25)).trans hm (fun _ h => nomatch h)); clear hm))
  obtain ⟨W, hW⟩ : ∃ W, W = w4.alloc (.cells #[.int .i64 k, .int .i64 ln, .bool c, .bool x] 28) := ⟨_, rfl⟩
  have hRA := HR4.out.alloc (.cells #[.int .i64 k, .int .i64 ln, .bool c, .bool x] 28)
  have hRB := Row.new w4 28 #[.int .i64 k, .int .i64 ln, .bool c, .bool x]
  have hM := HM4.out.alloc (.cells #[.int .i64 k, .int .i64 ln, .bool c, .bool x] 28)
  rw [← hW] at hRA hRB hM ⊢
  clear hW
  have hMW := ((HA1.out.mods.trans HA2.out.mods (fun _ h => nomatch h)).trans HM3.out (fun _ h => nomatch h)).trans hM (fun _ h => nomatch h)
  have hF1 := ((HA1.out.fld.low HA2.out.mods).low HM3.out).low hM
  have hF2 := (HA2.out.fld.low HM3.out).low hM
  obtain ⟨a2, c2, rfl⟩ := HA2.out.fld.form
  have k0 : W.cell? ⟨w3.heap.size, 0, none⟩ = some (.int .i64 k) := hRA.cell 0
  have k1 : W.cell? ⟨w3.heap.size, 1, none⟩ = some (.int .i64 ln) := hRA.cell 1
  have k2 : W.cell? ⟨w3.heap.size, 2, none⟩ = some (.bool c) := hRA.cell 2
  have k3 : W.cell? ⟨w3.heap.size, 3, none⟩ = some (.bool x) := hRA.cell 3
  have j0 : W.cell? ⟨w4.heap.size, 0, none⟩ = some (.int .i64 k) := hRB.cell 0
  have j1 : W.cell? ⟨w4.heap.size, 1, none⟩ = some (.int .i64 ln) := hRB.cell 1
  have j2 : W.cell? ⟨w4.heap.size, 2, none⟩ = some (.bool c) := hRB.cell 2
  have j3 : W.cell? ⟨w4.heap.size, 3, none⟩ = some (.bool x) := hRB.cell 3
  have f0 := hF2.cell
  have HL := Lib.hid (show ∀ w', Mods [] W w' → Calls Tryz.prog 25 #[.pointer (some ⟨g1, 0, none⟩)] w' fun e w'' => e = .returned (.int .i64 ((addF [] l).length : Nat)) ∧ w' = w'' from fun w' hm => len_a w' (hF1.low hm))
  have HMW := Lib.hid hMW
  clear hRA hRB hM hMW hF1 hF2
  have hq := eql_how
  have hg := eqg_how
  generalize (addF [] l).length = n at *
  have hnn : ((n : Int) == (n : Int)) = true := by simp
  have hss : (s == s) = true := by simp
  go_region_held3 (fun w' => w'.cell? ⟨w3.heap.size, 0, none⟩ = some (.int .i64 k) ∧ w'.cell? ⟨w3.heap.size, 1, none⟩ = some (.int .i64 ln) ∧ w'.cell? ⟨w3.heap.size, 2, none⟩ = some (.bool c) ∧ w'.cell? ⟨w3.heap.size, 3, none⟩ = some (.bool x) ∧ w'.cell? ⟨w4.heap.size, 0, none⟩ = some (.int .i64 k) ∧ w'.cell? ⟨w4.heap.size, 1, none⟩ = some (.int .i64 ln) ∧ w'.cell? ⟨w4.heap.size, 2, none⟩ = some (.bool c) ∧ w'.cell? ⟨w4.heap.size, 3, none⟩ = some (.bool x) ∧ w'.cell? ⟨w1.heap.size, 0, none⟩ = some (.slice a2 n c2)) (go_keep)
    ((go_at_call 25; refine Calls.mono (HL.out _ ?_) ?_; exact (Mods.refl [] W).same rfl rfl rfl rfl; rintro e w6 ⟨rfl, rfl⟩))
  all_goals
    go_wp2
    go_ret
    exact ⟨rfl, HMW.out.same rfl rfl rfl rfl⟩
end Go.Proofs.YtcliapfoimnkiaaGreatDoor

/- Rows of numbers that came in, and the fields that chapter 12's laws make of them. Conditions: none. -/
namespace Go.Proofs.YtcliapfoimnkiaaGreatDoor
open Go.RowKit
set_option linter.unusedVariables false
set_option linter.unusedSimpArgs false

theorem and_maskK (a : Int) (m : Nat) (hm : m ≤ 65535) : ∃ k : Nat, bits BinOp.and IntKind.i64 a m = (k : Int) ∧ k ≤ m := by
  have e : bits BinOp.and IntKind.i64 a m = IntKind.i64.wrap ((BitVec.ofInt 64 a &&& BitVec.ofInt 64 m).toNat : Int) := rfl
  have h : (BitVec.ofInt 64 a &&& BitVec.ofInt 64 m).toNat ≤ m := by
    rw [BitVec.toNat_and]
    refine Nat.le_trans Nat.and_le_right ?_
    rw [BitVec.toNat_ofInt]
    omega
  refine ⟨(BitVec.ofInt 64 a &&& BitVec.ofInt 64 m).toNat, ?_, h⟩
  rw [e, IntKind.wrap_i64]
  omega
/-- Which of six a number picks. -/
def kOf (x : Int) : Nat := (bits BinOp.and IntKind.i64 x 1023).toNat % 6
theorem kOf_lt (x : Int) : kOf x < 6 := Nat.mod_lt _ (by decide)
theorem kOf_mem {xs : List Int} : ∀ k ∈ xs.map kOf, k < 6 := fun k hk => by
  obtain ⟨x, _, rfl⟩ := List.mem_map.1 hk
  exact kOf_lt x
theorem ints_gen {W : World} {v : Value} (h : IsInts W v) : ∃ (A : Option Addr) (C : Nat) (xs : List Int), v = .slice A xs.length C ∧ ∀ j (h : j < xs.length), ∃ b o, A = some ⟨b, o, none⟩ ∧ W.cell? ⟨b, o + j, none⟩ = some (.int .i64 xs[j]) := by
  rcases h with ⟨a, cap, rfl⟩ | ⟨b, off, len, cap, f, rfl, h0, _, _, hb, hc⟩
  · exact ⟨a, cap, [], rfl, fun j h => absurd h (Nat.not_lt_zero _)⟩
  · refine ⟨some ⟨b, off, none⟩, cap, (List.range len).map f, by simp, fun j hj => ⟨b, off, rfl, ?_⟩⟩
    have hj2 : j < len := by simpa using hj
    rw [(hc j hj2).1]; simp
theorem addF_all {l : List FV} (h : ∀ p ∈ l, okF p = true) (hl : l.length ≤ 24) : addF [] l = l := by
  unfold addF
  rw [show ([] : List FV).length = 0 from rfl, addR_end (fun j hj _ => h _ (List.getElem_mem hj)) (by omega), List.nil_append, List.take_length]
theorem host_ok : ∀ k : Fin 6, okF (kHOST, allH k.1) = true := by decide +kernel
theorem word_ok : ∀ k : Fin 6, okF (nCon, allW k.1) = true := by decide +kernel
theorem hosts_of (ks : List Nat) (hk : ∀ k ∈ ks, k < 6) (hl : ks.length ≤ 10) : addF [] (oneN kHOST (ks.map allH)) = oneN kHOST (ks.map allH) := by
  refine addF_all (fun p hp => ?_) (by unfold oneN; simp; omega)
  unfold oneN at hp
  obtain ⟨v, hv, rfl⟩ := List.mem_map.1 hp
  obtain ⟨k, hk2, rfl⟩ := List.mem_map.1 hv
  exact host_ok ⟨k, hk k hk2⟩
theorem sizes_small {l : List ByteArray} (h : ∀ x ∈ l, x.size ≤ 10) : sizes l ≤ l.length * 11 := by
  induction l with
  | nil => simp [sizes]
  | cons a r ih =>
    have h1 := h a (by simp)
    have h2 := ih fun x hx => h x (by simp [hx])
    simp only [sizes, List.length_cons]; omega
theorem one_small {n : ByteArray} (hn : n.size ≤ 1000000) {vs : List ByteArray} (h : ∀ x ∈ vs, x.size ≤ 10) : Small (oneN n vs) := fun p hp => by
  unfold oneN at hp
  obtain ⟨v, hv, rfl⟩ := List.mem_map.1 hp
  exact ⟨hn, Nat.le_trans (h v hv) (by decide)⟩
theorem one_vals (n : ByteArray) (vs : List ByteArray) : (oneN n vs).map (·.2) = vs := by unfold oneN; rw [List.map_map]; exact (List.map_congr_left (fun v _ => rfl)).trans (List.map_id _)
theorem allH_size : ∀ k : Fin 6, (allH k.1).size ≤ 10 := by decide +kernel
theorem allW_size : ∀ k : Fin 6, (allW k.1).size ≤ 10 := by decide +kernel
theorem mem_allH {ks : List Nat} (hk : ∀ k ∈ ks, k < 6) : ∀ x ∈ ks.map allH, x.size ≤ 10 := fun x hx => by
  obtain ⟨k, hk2, rfl⟩ := List.mem_map.1 hx
  exact allH_size ⟨k, hk k hk2⟩
theorem mem_allW {ks : List Nat} (hk : ∀ k ∈ ks, k < 6) : ∀ x ∈ ks.map allW, x.size ≤ 10 := fun x hx => by
  obtain ⟨k, hk2, rfl⟩ := List.mem_map.1 hx
  exact allW_size ⟨k, hk k hk2⟩
theorem min_lt {m : Int} (h : m < 1) : minN m = 0 := by unfold minN; rw [if_neg (by omega)]
theorem min_ge {m : Int} (h : 1 ≤ m) : minN m = 1 := by unfold minN; rw [if_pos h]
/-- What the code's Of answers to hosts. -/
theorem hosts_frm (m : Int) (ks : List Nat) (hk : ∀ k ∈ ks, k < 6) : frm m (oneN kHOST (ks.map allH)) = if 1 < ks.length ∨ ks.any (fun k => decide (3 ≤ k)) = true ∨ (ks = [] ∧ 1 ≤ m) then (noH, 400) else (⟨0, 0, decide (m < 1), false⟩, 0) := by
  unfold frm
  rw [hosts_law _ ks hk]
  by_cases h : m < 1
  · have e0 : minN m = 0 := min_lt h
    rw [e0, decide_eq_true h]
    by_cases h2 : 1 < ks.length ∨ ks.any (fun k => decide (3 ≤ k)) = true ∨ (ks = [] ∧ 1 ≤ m)
    · rw [if_pos h2, if_pos]
      rcases h2 with h2 | h2 | h2
      · exact .inl h2
      · exact .inr (.inl h2)
      · omega
    · rw [if_neg h2, if_neg]
      · rfl
      · rintro (h3 | h3 | h3)
        · exact h2 (.inl h3)
        · exact h2 (.inr (.inl h3))
        · cases h3.2
  · have e0 : minN m = 1 := min_ge (by omega)
    rw [e0, decide_eq_false h]
    by_cases h2 : 1 < ks.length ∨ ks.any (fun k => decide (3 ≤ k)) = true ∨ (ks = [] ∧ 1 ≤ m)
    · rw [if_pos h2, if_pos]
      rcases h2 with h2 | h2 | h2
      · exact .inl h2
      · exact .inr (.inl h2)
      · exact .inr (.inr ⟨h2.1, rfl⟩)
    · rw [if_neg h2, if_neg]
      · rfl
      · rintro (h3 | h3 | h3)
        · exact h2 (.inl h3)
        · exact h2 (.inr (.inl h3))
        · exact h2 (.inr (.inr ⟨h3.1, by omega⟩))
theorem Gt.lit (w : World) (t : TypeId) (size n : Nat) (cs : Array Value) (hs : cs.size = n * size) (hn : n ≤ 1000) : Gt w t size n cs.toList (.slice (some ⟨w.heap.size, 0, none⟩) n n) (w.alloc (.cells cs t)) :=
  ⟨World.ownsRow_lit w cs n (Nat.le_refl _) (by unfold maxLen; omega) hs, (Mods.refl [] w).alloc _⟩
/-- A host, and words of Connection. -/
def closeF (vs : List ByteArray) : List FV := oneN nHost [⟨#[97]⟩] ++ oneN nCon vs
theorem closeF_len (vs : List ByteArray) : (closeF vs).length = vs.length + 1 := by unfold closeF oneN; simp [Nat.add_comm]
theorem closeF_snoc (vs : List ByteArray) (v : ByteArray) : closeF (vs ++ [v]) = closeF vs ++ [(nCon, v)] := by unfold closeF oneN; simp
theorem closes_of (ks : List Nat) (hk : ∀ k ∈ ks, k < 6) (hl : ks.length ≤ 10) : addF [] (closeF (ks.map allW)) = closeF (ks.map allW) := by
  refine addF_all (fun p hp => ?_) (by rw [closeF_len, List.length_map]; omega)
  rcases List.mem_append.1 hp with hp | hp
  · have : p = (nHost, ⟨#[97]⟩) := by simpa [oneN] using hp
    subst this
    decide +kernel
  · unfold oneN at hp
    obtain ⟨v, hv, rfl⟩ := List.mem_map.1 hp
    obtain ⟨k, hk2, rfl⟩ := List.mem_map.1 hv
    exact word_ok ⟨k, hk k hk2⟩
theorem closes_small {ks : List Nat} (hk : ∀ k ∈ ks, k < 6) : Small (closeF (ks.map allW)) := fun p hp => by
  rcases List.mem_append.1 hp with hp | hp
  · have : p = (nHost, ⟨#[97]⟩) := by simpa [oneN] using hp
    subst this
    exact ⟨by decide, by decide⟩
  · exact one_small (by decide) (mem_allW hk) p hp
theorem closes_lite {ks : List Nat} (hk : ∀ k ∈ ks, k < 6) (hl : ks.length ≤ 10) : Lite (closeF (ks.map allW)) := by
  unfold Lite closeF
  rw [List.map_append, one_vals, one_vals, sizes_append]
  have h1 := sizes_small (mem_allW hk)
  rw [List.length_map] at h1
  have h2 : sizes [⟨#[97]⟩] = 2 := rfl
  omega
theorem closes_frm (m : Int) (ks : List Nat) (hk : ∀ k ∈ ks, k < 6) : frm m (closeF (ks.map allW)) = (⟨0, 0, ks.any (fun k => decide (k < 2)) || (decide (m < 1) && !ks.any (fun k => decide (k = 2 ∨ k = 3))), false⟩, 0) := by
  unfold frm closeF
  rw [closes_law _ ks hk]
  by_cases h : m < 1
  · rw [min_lt h, decide_eq_true h]; rfl
  · rw [min_ge (by omega), decide_eq_false h]; rfl
end Go.Proofs.YtcliapfoimnkiaaGreatDoor

/- The document's digits of base 10 are a number's digits, below 0 those of 0. Conditions: none. -/
namespace Go.Proofs.YtcliapfoimnkiaaGreatDoor
open Go.RowKit
set_option linter.unusedVariables false

theorem back_byte (c : UInt8) (w : World) : (convert 74 9 (.slice (some ⟨w.heap.size, 0, none⟩) 1 1)).run Tryz.prog (w.alloc (.cells #[.int .u8 (c.toNat : Int)] 5)) = .ok (.string ⟨#[c]⟩) (w.alloc (.cells #[.int .u8 (c.toNat : Int)] 5)) :=
  run_convert_bytes_back (P := Tryz.prog) (w.alloc (.cells #[.int .u8 (c.toNat : Int)] 5)) 74 9 5 ⟨w.heap.size, 0, none⟩ 1 [c] Tryz.underlying74 Tryz.underlying5 Tryz.underlying9 (fun j hj => by
    have hj0 : j = 0 := by simpa using hj
    subst hj0
    simp [Addr.add])

def hxA : ByteArray := ⟨#[48, 49, 50, 51, 52, 53, 54, 55, 56, 57, 97, 98, 99, 100, 101, 102]⟩
theorem hxA_at (d : Nat) (h : d < 16) : hxA[d]'(by show d < 16; omega) = dgt d := by
  have h2 := List.all_eq_true.1 (show (List.range 16).all (fun d => hxA.data.toList.getD d 0 == dgt d) = true by decide +kernel) d (by rw [List.mem_range]; exact h)
  rw [beq_iff_eq] at h2
  rw [← h2, List.getD_eq_getElem?_getD, List.getElem?_eq_getElem (by show d < 16; omega)]; rfl
theorem hx_list (d : Nat) (h : d < 16) (t : ByteArray) : ((⟨#[hxA[d]'(by show d < 16; omega)]⟩ : ByteArray) ++ t).data.toList = dgt d :: t.data.toList := by
  rw [hxA_at d h]; simp [ByteArray.data_append]

set_option maxRecDepth 100000 in
theorem text_r10 (n : Int) (hn : n ≤ 9223372036854775807) (w : World) :
    Calls Tryz.prog 26 #[.int .i64 n, .int .i64 10] w fun e w' => e = .returned (.string (decB n.toNat)) ∧ Below w.heap.size w w' := by
  have hm : n.toNat < 9223372036854775808 := by omega
  have HM := Lib.hid hm
  have hback := back_byte
  clear hm
  go_enter Tryz.func26, Tryz.ntmps26
  go_wp2
  go_loopw [0, 5] (fun x y wr => ∃ (v : Nat) (t : ByteArray), x = .int .i64 v ∧ y = .string t ∧ v < 9223372036854775808 ∧ digs 10 n.toNat = digs 10 v ++ t.data.toList ∧ Below w.heap.size w wr) (fun x _ _ => (intOf x).toNat)
  case atStart => exact ⟨n.toNat, ⟨#[]⟩, by rw [show (max 0 n : Int) = ((n.toNat : Nat) : Int) by omega], rfl, HM.out, by simp, Below.refl _ _⟩
  case round =>
    obtain ⟨v, t, rfl, rfl, hv, hd, hbel⟩ := hrel
    have hlen := congrArg List.length hd
    rw [List.length_append] at hlen
    have hle := digs_le 10 (by decide) 62 n.toNat (Nat.lt_trans HM.out (by decide))
    have ht : t.size ≤ 100 := by
      have : t.data.toList.length = t.size := rfl
      omega
    have HD := Lib.hid hd
    have HB := Lib.hid hbel
    have hvb : (v : Int) ≤ 9223372036854775807 := by omega
    clear hd hlen hle hbel hv
    have hmod : v % 10 < 10 := Nat.mod_lt _ (by decide)
    by_cases h0 : v < 10
    · have hz : v / 10 = 0 := by omega
      have hq : (((v : Int) / 10) == 0) = true := by simp; omega
      have HZ := Lib.hid hz
      clear hz
      have hlow : v % 10 = v := by omega
      have HL := Lib.hid hlow
      clear hlow
      go_wp2
      go_ret
      refine ⟨ret_str (Go.WideShapes.bytes_inj ?_), HB.out.alloc HB.out.size _⟩
      refine (hx_list (v % 10) (by omega) t).trans ?_
      show _ = digs 10 n.toNat
      rw [HD.out, digs_low h0, HL.out]; rfl
    · have hq : (((v : Int) / 10) == 0) = false := by simp; omega
      go_wp2
      go_roundw
      case rel =>
        refine ⟨v / 10, _, by go_num, rfl, by omega, ?_, HB.out.alloc HB.out.size _⟩
        rw [HD.out, digs_high (by omega) (by decide), List.append_assoc]
        congr 1
        exact (hx_list (v % 10) (by omega) t).symm
      case measure => simp [intOf]; omega
theorem dec_r (n : Int) (hn : n ≤ 9223372036854775807) (w : World) : Calls Tryz.prog 10 #[.int .i64 n] w fun e w' => e = .returned (.string (decB n.toNat)) ∧ Below w.heap.size w w' := by
  have HT := Lib.hid (text_r10 n hn w)
  go_enter Tryz.func10, Tryz.ntmps10
  go_wp2_with (go_at_call 26; refine HT.out.mono ?_; rintro e w1 ⟨rfl, hb⟩; have HB := Lib.hid hb; clear hb)
  go_ret
  exact ⟨rfl, HB.out⟩
end Go.Proofs.YtcliapfoimnkiaaGreatDoor

/- The fields that chapter 12's law on lengths makes. Conditions: none. -/
namespace Go.Proofs.YtcliapfoimnkiaaGreatDoor
open Go.RowKit
set_option linter.unusedVariables false
set_option linter.unusedSimpArgs false

/-- The number that the law makes of a number. -/
def nOf (x : Int) : Nat := (bits BinOp.and IntKind.i64 x 4095).toNat
theorem nOf_le (x : Int) : nOf x ≤ 4095 := by
  obtain ⟨q, hq, hq2⟩ := and_maskK x 4095 (by omega)
  unfold nOf
  rw [show ((4095 : Nat) : Int) = 4095 from rfl] at hq
  rw [hq]; simpa using hq2
theorem nOf_mem {xs : List Int} : ∀ n ∈ xs.map nOf, n ≤ 4095 := fun n hn => by
  obtain ⟨x, _, rfl⟩ := List.mem_map.1 hn
  exact nOf_le x
def len0 (ns : List Nat) : List FV := oneN nHost [⟨#[97]⟩] ++ oneN nCL (ns.map decB)
theorem len0_len (ns : List Nat) : (len0 ns).length = ns.length + 1 := by unfold len0 oneN; simp [Nat.add_comm]
theorem len0_snoc (ns : List Nat) (n : Nat) : len0 (ns ++ [n]) = len0 ns ++ [(nCL, decB n)] := by unfold len0 oneN; simp
theorem lenF_none (ns : List Nat) : lenF ns [] = len0 ns := by unfold lenF len0 oneN; simp
theorem lenF_one (ns : List Nat) : lenF ns [chunkedB] = len0 ns ++ [(nTE, chunkedB)] := by unfold lenF len0 oneN; simp
theorem d_val (c : UInt8) (h : isD c = true) : valB c = true := by
  have := by_byte (fun c => !isD c || valB c) (by decide +kernel) c
  rw [h] at this; simpa using this
theorem dec_ok (n : Nat) : okF (nCL, decB n) = true := by
  have h := digs_d n
  have h0 := digs_pos 10 n
  refine okF_yes (show tokL nCL.data.toList = true by decide +kernel) ?_ ?_
  · unfold valL decB
    rw [ofL_list]
    exact List.all_eq_true.2 fun x hx => d_val x (List.all_eq_true.1 h x hx)
  · unfold trimA decB
    rw [ofL_list, d_trim h h0]; rfl
theorem dec_size {n : Nat} (h : n ≤ 4095) : (decB n).size ≤ 10 := by
  have := digs_le 10 (by decide) 3 n (by omega)
  have e : (decB n).size = (digs 10 n).length := by unfold decB; exact congrArg List.length (ofL_list _)
  omega
theorem len0_mem {ns : List Nat} (hn : ∀ n ∈ ns, n ≤ 4095) : ∀ p ∈ len0 ns, okF p = true ∧ p.1.size ≤ 20 ∧ p.2.size ≤ 10 := fun p hp => by
  rcases List.mem_append.1 hp with hp | hp
  · have : p = (nHost, ⟨#[97]⟩) := by simpa [oneN] using hp
    subst this
    exact ⟨by decide +kernel, by decide, by decide⟩
  · unfold oneN at hp
    obtain ⟨v, hv, rfl⟩ := List.mem_map.1 hp
    obtain ⟨n, hn2, rfl⟩ := List.mem_map.1 hv
    exact ⟨dec_ok n, (show nCL.size ≤ 20 by decide), dec_size (hn n hn2)⟩
theorem lenF_mem {ns : List Nat} (coded : Bool) (hn : ∀ n ∈ ns, n ≤ 4095) : ∀ p ∈ lenF ns (if coded = true then [chunkedB] else []), okF p = true ∧ p.1.size ≤ 20 ∧ p.2.size ≤ 10 := fun p hp => by
  cases coded with
  | false => rw [if_neg (by simp), lenF_none] at hp; exact len0_mem hn p hp
  | true =>
    rw [if_pos rfl, lenF_one] at hp
    rcases List.mem_append.1 hp with hp | hp
    · exact len0_mem hn p hp
    · have : p = (nTE, chunkedB) := by simpa using hp
      subst this
      exact ⟨by decide +kernel, by decide, by decide⟩
theorem lenF_len (ns : List Nat) (coded : Bool) : (lenF ns (if coded = true then [chunkedB] else [])).length ≤ ns.length + 2 := by
  cases coded with
  | false => rw [if_neg (by simp), lenF_none, len0_len]; omega
  | true => rw [if_pos rfl, lenF_one, List.length_append, len0_len]; simp
theorem wgt_le {l : List FV} (h : ∀ p ∈ l, p.1.size ≤ 20 ∧ p.2.size ≤ 10) : wgt l ≤ l.length * 35 := by
  unfold wgt
  induction l with
  | nil => simp
  | cons q r ih =>
    have h1 := h q (by simp)
    have h2 := ih fun p hp => h p (by simp [hp])
    rw [List.map_cons, List.sum_cons, List.length_cons]; omega
theorem lenF_wgt {ns : List Nat} (coded : Bool) (hn : ∀ n ∈ ns, n ≤ 4095) (hl : ns.length ≤ 15) : wgt (lenF ns (if coded = true then [chunkedB] else [])) ≤ 3000 := by
  have h1 := wgt_le (l := lenF ns (if coded = true then [chunkedB] else [])) (fun p hp => (lenF_mem coded hn p hp).2)
  have h2 := lenF_len ns coded
  omega
theorem lenF_of {ns : List Nat} (coded : Bool) (hn : ∀ n ∈ ns, n ≤ 4095) (hl : ns.length ≤ 15) : addF [] (lenF ns (if coded = true then [chunkedB] else [])) = lenF ns (if coded = true then [chunkedB] else []) :=
  addF_all (fun p hp => (lenF_mem coded hn p hp).1) (by have := lenF_len ns coded; omega)
/-- What the code's Of answers to lengths. -/
theorem lens_frm (m : Int) {ns : List Nat} (coded : Bool) (hn : ∀ n ∈ ns, n ≤ 4095) : frm m (lenF ns (if coded = true then [chunkedB] else [])) = lenR (minN m) ns coded := lengths_law _ ns coded hn
/-- Whether all numbers are the first one. -/
def sameN (ns : List Nat) : Bool := ns.all fun n => decide (n = ns.headD 0)
theorem lenR_400 {m : Int} {ns : List Nat} (h : ns ≠ [] ∨ m < 1) : lenR (minN m) ns true = (noH, 400) := by
  unfold lenR
  rw [if_pos rfl, if_pos]
  rcases h with h | h
  · exact .inl h
  · exact .inr (min_lt h)
theorem lenR_ch {m : Int} (h : ¬ m < 1) : lenR (minN m) [] true = (⟨2, 0, false, false⟩, 0) := by
  rw [min_ge (by omega)]; rfl
theorem lenR_no (m : Int) : lenR (minN m) [] false = (⟨0, 0, decide (minN m = 0), false⟩, 0) := rfl
theorem lenR_un {m : Int} {ns : List Nat} (h0 : ns ≠ []) (h : sameN ns = false) : lenR (minN m) ns false = (noH, 400) := by
  match ns, h0 with
  | n :: r, _ =>
    unfold lenR
    rw [if_neg (by simp)]
    simp only
    rw [if_neg]
    intro h2
    unfold sameN at h
    rw [List.headD_cons, List.all_cons, h2] at h
    simp at h
theorem lenR_big {m : Int} {ns : List Nat} (h0 : ns ≠ []) (h : sameN ns = true) (hb : 2048 < ns.headD 0) : lenR (minN m) ns false = (noH, 413) := by
  match ns, h0 with
  | n :: r, _ =>
    unfold lenR
    rw [if_neg (by simp)]
    simp only
    unfold sameN at h
    rw [List.headD_cons, List.all_cons, Bool.and_eq_true] at h
    rw [if_pos h.2, if_pos (by rw [List.headD_cons] at hb; omega)]
theorem lenR_ok {m : Int} {ns : List Nat} (h0 : ns ≠ []) (h : sameN ns = true) (hb : ¬ 2048 < ns.headD 0) : lenR (minN m) ns false = (⟨1, (ns.headD 0 : Nat), decide (minN m = 0), false⟩, 0) := by
  match ns, h0 with
  | n :: r, _ =>
    unfold lenR
    rw [if_neg (by simp)]
    simp only
    unfold sameN at h
    rw [List.headD_cons, List.all_cons, Bool.and_eq_true] at h
    rw [if_pos h.2, if_neg (by rw [List.headD_cons] at hb; omega)]
    rfl
end Go.Proofs.YtcliapfoimnkiaaGreatDoor
