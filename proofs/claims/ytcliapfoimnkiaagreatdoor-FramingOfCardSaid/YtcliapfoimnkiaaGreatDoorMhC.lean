/- The two heads that the laws know: two lengths of one number, an unknown coding. Conditions: none. -/
import Derived.Test.YtcliapfoimnkiaaGreatDoorMhA
import Derived.Test.YtcliapfoimnkiaaGreatDoorFg10
import Derived.Deep.RegionHeld3
import Derived.Test.YtcliapfoimnkiaaGreatDoorFo10
import Derived.Test.YtcliapfoimnkiaaGreatDoorFl10
import Derived.BigQuiet
import Derived.Test.YtcliapfoimnkiaaGreatDoorMhB
namespace Go.Proofs.YtcliapfoimnkiaaGreatDoor
open Go.RowKit
set_option linter.unusedVariables false
set_option linter.unusedSimpArgs false

def kn1 : List FV := [(⟨#[72, 111, 115, 116]⟩, ⟨#[97]⟩), (⟨#[67, 111, 110, 116, 101, 110, 116, 45, 76, 101, 110, 103, 116, 104]⟩, ⟨#[53]⟩), (⟨#[99, 111, 110, 116, 101, 110, 116, 45, 108, 101, 110, 103, 116, 104]⟩, ⟨#[53, 44, 32, 48, 53]⟩)]
def kn2 : List FV := [(⟨#[72, 111, 115, 116]⟩, ⟨#[97]⟩), (⟨#[84, 114, 97, 110, 115, 102, 101, 114, 45, 69, 110, 99, 111, 100, 105, 110, 103]⟩, ⟨#[103, 122, 105, 112, 44, 32, 99, 104, 117, 110, 107, 101, 100]⟩)]
theorem kn1_of : (frm 1 (addF [] kn1)).1.kind = 1 ∧ (frm 1 (addF [] kn1)).1.length = 5 ∧ (frm 1 (addF [] kn1)).1.close = false ∧ (frm 1 (addF [] kn1)).1.expect = false ∧ (frm 1 (addF [] kn1)).2 = 0 := by decide +kernel
theorem kn2_of : (frm 1 (addF [] kn2)).1.kind = 0 ∧ (frm 1 (addF [] kn2)).1.length = 0 ∧ (frm 1 (addF [] kn2)).1.close = false ∧ (frm 1 (addF [] kn2)).1.expect = false ∧ (frm 1 (addF [] kn2)).2 = 501 := by decide +kernel
theorem kn2_is : frm 1 (addF [] kn2) = (⟨0, 0, false, false⟩, 501) := by
  obtain ⟨h1, h2, h3, h4, h5⟩ := kn2_of
  generalize frm 1 (addF [] kn2) = r at *
  obtain ⟨⟨a, b, c, d⟩, s⟩ := r
  simp only at h1 h2 h3 h4 h5
  subst h1; subst h2; subst h3; subst h4; subst h5; rfl
theorem kn1_is : frm 1 (addF [] kn1) = (⟨1, 5, false, false⟩, 0) := by
  obtain ⟨h1, h2, h3, h4, h5⟩ := kn1_of
  generalize frm 1 (addF [] kn1) = r at *
  obtain ⟨⟨a, b, c, d⟩, s⟩ := r
  simp only at h1 h2 h3 h4 h5
  subst h1; subst h2; subst h3; subst h4; subst h5; rfl
theorem kn_small : Small kn1 ∧ Small kn2 ∧ Lite (addF [] kn1) ∧ Lite (addF [] kn2) := by
  refine ⟨?_, ?_, ?_, ?_⟩
  · intro p hp; simp only [kn1, List.mem_cons, List.not_mem_nil, or_false] at hp; rcases hp with rfl | rfl | rfl <;> exact ⟨by decide, by decide⟩
  · intro p hp; simp only [kn2, List.mem_cons, List.not_mem_nil, or_false] at hp; rcases hp with rfl | rfl <;> exact ⟨by decide, by decide⟩
  · unfold Lite; decide +kernel
  · unfold Lite; decide +kernel

set_option maxRecDepth 10000 in
set_option maxHeartbeats 4000000 in
theorem known_12 (w : World) : Calls Tryz.prog 9 #[] w fun e w' => e = .returned (.bool true) ∧ Mods [] w w' := by
  have HO1 := Lib.hid (of_a (.slice (some ⟨w.heap.size, 0, none⟩) kn1.length 3) kn1 _ (FsAt.new w 35 kn1 (by decide) 3) (by decide) kn_small.1)
  go_enter Tryz.func9, Tryz.ntmps9
  go_wp2_with (first
    | (go_at_call 11; (with_reducible show Calls _ _ #[.slice _ 3 3] _ _); refine HO1.out.mono ?_; rintro e w1 ⟨g1, u1, rfl, hA⟩; have HA1 := Lib.hid hA; have HM1 := Lib.hid (((Mods.refl [] w).alloc _).trans hA.mods (fun _ h => nomatch h)); have HF1 := Lib.hid (of_f (m := 1) (FP.of_fld hA.fld) kn_small.2.2.1); rw [kn1_is] at HF1; unfold ptr; unfold ptr at HF1; clear hA)
    | (go_at_call 6; (with_reducible show Calls _ _ #[_, .pointer (some ⟨g1, 0, none⟩)] _ _); refine HF1.out.mono ?_; rintro e w2 ⟨rfl, hm⟩; have HM2 := Lib.hid (HM1.out.trans hm (fun _ h => nomatch h)); have HO2 := Lib.hid (of_a (.slice (some ⟨(w2.alloc (.cells #[.int .i64 1, .int .i64 5, .bool false, .bool false] 25)).heap.size, 0, none⟩) kn2.length 2) kn2 _ (FsAt.new (w2.alloc (.cells #[.int .i64 1, .int .i64 5, .bool false, .bool false] 25)) 35 kn2 (by decide) 2) (by decide) kn_small.2.1); rw [World.size_alloc] at HO2; unfold howV; clear hm)
    | (go_at_call 11; refine HO2.out.mono ?_; rintro e w3 ⟨g3, u3, rfl, hA⟩; have HR3 := Lib.hid (((Row.new w2 25 #[.int .i64 1, .int .i64 5, .bool false, .bool false]).alloc _).mods hA.mods (by simp)); have HM3 := Lib.hid (((HM2.out.alloc _).alloc _).trans hA.mods (fun _ h => nomatch h)); have HF3 := Lib.hid (of_f (m := 1) (FP.of_fld hA.fld) kn_small.2.2.2); rw [kn2_is] at HF3; unfold ptr; unfold ptr at HF3; clear hA)
    | (go_at_call 6; refine HF3.out.mono ?_; rintro e w4 ⟨rfl, hm⟩; have HR4 := HR3.out.mods hm (by simp); have k0 := HR4.cell 0; have k1 := HR4.cell 1; have k2 := HR4.cell 2; have k3 := HR4.cell 3; simp only [List.getElem?_toArray, List.getElem?_cons_zero, List.getElem?_cons_succ] at k0 k1 k2 k3; have k0 := cell_alloc k0 (.cells #[.int .i64 0, .int .i64 0, .bool false, .bool false] 25); have k1 := cell_alloc k1 (.cells #[.int .i64 0, .int .i64 0, .bool false, .bool false] 25); have k2 := cell_alloc k2 (.cells #[.int .i64 0, .int .i64 0, .bool false, .bool false] 25); have k3 := cell_alloc k3 (.cells #[.int .i64 0, .int .i64 0, .bool false, .bool false] 25); have HM4 := Lib.hid ((HM3.out.trans hm (fun _ h => nomatch h)).alloc (.cells #[.int .i64 0, .int .i64 0, .bool false, .bool false] 25)); unfold howV; clear hm HR4))
  go_ret
  exact ⟨rfl, HM4.out⟩
end Go.Proofs.YtcliapfoimnkiaaGreatDoor

/- The law's heavy: fields that are not heavy are light. Conditions: fields that came in. -/
namespace Go.Proofs.YtcliapfoimnkiaaGreatDoor
open Go.RowKit
set_option linter.unusedVariables false
set_option linter.unusedSimpArgs false

def wgt (l : List FV) : Nat := (l.map fun p => 5 + p.1.size + p.2.size).sum
theorem wgt_snoc (l : List FV) (p : FV) : wgt (l ++ [p]) = wgt l + (5 + p.1.size + p.2.size) := by unfold wgt; simp
theorem wgt_mem {l : List FV} {p : FV} (h : p ∈ l) : 5 + p.1.size + p.2.size ≤ wgt l := by
  unfold wgt
  induction l with
  | nil => cases h
  | cons q r ih =>
    rw [List.map_cons, List.sum_cons]
    rcases List.mem_cons.1 h with rfl | h
    · omega
    · have := ih h; omega
theorem wgt_sizes (l : List FV) : sizes (l.map (·.2)) + l.length * 4 ≤ wgt l := by
  unfold wgt
  induction l with
  | nil => simp [sizes]
  | cons q r ih => rw [List.map_cons, List.map_cons, List.sum_cons]; simp only [sizes, List.length_cons]; omega
theorem wgt_small {l : List FV} (h : wgt l ≤ 3000) : Small l := fun p hp => by have := wgt_mem hp; omega
theorem wgt_len {l : List FV} (h : wgt l ≤ 3000) : l.length ≤ 1000000 := by have := wgt_sizes l; omega
theorem wgt_lite {l : List FV} (h : wgt l ≤ 3000) : Lite (addF [] l) := by
  have h1 := wgt_sizes l
  have h2 : sizes ((addF [] l).map (·.2)) ≤ sizes (l.map (·.2)) := sizes_sub (by unfold addF; rw [List.nil_append]; exact (List.take_sublist _ _).map _)
  unfold Lite
  omega
/-- What heavy answers. -/
def Hv12 (l : List FV) (w : World) (e : Ending) (w' : World) : Prop := ∃ b, e = .returned (.bool b) ∧ (b = false → wgt l ≤ 3000) ∧ Mods [] w w'
set_option maxRecDepth 10000 in
set_option maxHeartbeats 4000000 in
theorem heavy_12 (r : FRow) (w : World) (h : r.Ok w) : Calls Tryz.prog 5 #[r.v] w (Hv12 r.l w) := by
  obtain ⟨A, C, l⟩ := r
  have hlb := h.len
  have HBG := Lib.hid h.big
  obtain ⟨A2, C2, hrv, hcell⟩ := h.fs.gen
  simp only [FRow.v] at hrv hcell hlb ⊢
  injection hrv with hr1 hr2 hr3
  subst hr1 hr3
  have HCL := Lib.hid hcell
  clear h hr2 hcell
  go_enter Tryz.func5, Tryz.ntmps5
  go_wp2
  go_loopw [3, 4] (fun n i wr => ∃ (k m : Nat), k ≤ l.length ∧ i = .int .i64 k ∧ n = .int .i64 m ∧ m ≤ 3000 ∧ m = wgt (l.take k) ∧ Mods [] w wr) (fun _ i _ => l.length - (intOf i).toNat)
  case atStart => exact ⟨0, 0, Nat.zero_le _, rfl, rfl, Nat.zero_le _, rfl, Mods.refl _ _⟩
  case round =>
    obtain ⟨k, m, hk, rfl, rfl, hm, hmk, hM⟩ := hrel
    have HM := Lib.hid hM
    have HMK := Lib.hid hmk
    clear hM hmk
    by_cases hlt : k < l.length
    · obtain ⟨fb, fo, rfl, hf1, hf2⟩ := HCL.out k hlt
      have e1 := cell_mods hf1 HM.out (by simp)
      have e2 := cell_mods hf2 HM.out (by simp)
      have hbg := HBG.out _ (List.getElem_mem hlt)
      have HTK := Lib.hid (show wgt (l.take (k + 1)) = wgt (l.take k) + (5 + l[k].1.size + l[k].2.size) by rw [List.take_succ_eq_append_getElem hlt, wgt_snoc])
      obtain ⟨p, hp⟩ : ∃ p, p = l[k] := ⟨_, rfl⟩
      rw [← hp] at e1 e2 hbg HTK
      clear hp hf1 hf2
      obtain ⟨x, y⟩ := p
      simp only at e1 e2 hbg HTK
      obtain ⟨hb1, hb2⟩ := hbg
      by_cases hbig : 3000 < m + 5 + x.size + y.size
      · go_wp2
        go_quiet (fail)
        go_wp2
        go_ret
        exact ⟨true, rfl, (fun h => nomatch h), HM.out.drewN _⟩
      · go_wp2
        go_quiet (fail)
        go_wp2
        go_roundw
        case rel => exact ⟨k + 1, m + 5 + x.size + y.size, by omega, by go_num, congrArg (Value.int .i64) (by omega), by omega, by rw [HTK.out, ← HMK.out]; omega, HM.out.drewN _⟩
        case measure => simp [intOf]; omega
    · obtain rfl : k = l.length := by omega
      go_wp2
      go_ret
      exact ⟨false, rfl, fun _ => by have := HMK.out; rw [List.take_length] at this; omega, HM.out⟩
end Go.Proofs.YtcliapfoimnkiaaGreatDoor

/- The law's of: both answer the same, and both hold as many fields. Conditions: fields of at most 3000 bytes in all. -/
namespace Go.Proofs.YtcliapfoimnkiaaGreatDoor
open Go.RowKit
set_option linter.unusedVariables false
set_option linter.unusedSimpArgs false

theorem eql_how (a b : Int) (c d : Bool) (w : World) : (binOp .eql 25 (.agg #[.int .i64 a, .int .i64 b, .bool c, .bool d]) (.agg #[.int .i64 a, .int .i64 b, .bool c, .bool d])).run Tryz.prog w = .ok (.bool true) w := by
  have u3 := Tryz.underlying3
  have a3 := Tryz.isAgg3
  have z3 := Tryz.sizeOf3
  have u4 := Tryz.underlying4
  have a4 := Tryz.isAgg4
  have z4 := Tryz.sizeOf4
  have hS : Tryz.prog.underlying 25 = some (.struct (Tryz.prog.fieldsOf 25)) := by kernel_rfl
  have hp : Tryz.prog.stoodInHeld 25 = false := by kernel_rfl
  rw [run_eql_struct, show (10000 : Nat) = 9999 + 1 from rfl, run_equalIn_agg w 9999 25 _ _ hS hp]
  simp only [Program.fieldsOf, Tryz.underlying25]
  go_simp
theorem eqg_how : Tryz.prog.eqGuardType Tryz.prog.depth 25 = false := by kernel_rfl
theorem fs_lt {w : World} {v : Value} {l : List FV} (h : FsAt w v l) (h0 : 0 < l.length) : ∀ k ∈ v.ownBlock.toList, k < w.heap.size := h.lt h0
/-- A Fields of the document's that a law makes and fills. -/
theorem radd_new (vl : Value) (l : List FV) (w : World) (hA : FsAt w vl l) (hw : wgt l ≤ 3000) :
    Calls Tryz.prog 24 #[ptr w.heap.size, vl] (w.alloc (.cells #[.slice none 0 0] 48)) fun e w' => ∃ u r1 r2, e = .returned (.tuple #[.int .i64 r1, .int .i64 r2]) ∧ Made 48 w w.heap.size u (addF [] l) w' := by
  have h := radd vl l _ (fld_new 48 w) (hA.low ((Mods.refl [] w).alloc _)) (wgt_len hw) (wgt_small hw) (fun h0 k hk => ⟨by have := hA.lt h0 k hk; omega, by simp [Value.ownBlock]⟩)
  exact h.mono fun e w' ⟨u, he, hadd⟩ => ⟨u, _, _, he, made_of hadd⟩

set_option maxRecDepth 10000 in
set_option maxHeartbeats 4000000 in
theorem of_l (m : Int) (vl : Value) (l : List FV) (w : World) (hA : FsAt w vl l) (hw : wgt l ≤ 3000) :
    Calls Tryz.prog 8 #[.int .i64 m, vl] w fun e w' => e = .returned (.bool true) ∧ Mods [] w w' := by
  have HO := Lib.hid (of_a vl l w hA (wgt_len hw) (wgt_small hw))
  have HRA := Lib.hid (fun w1 (hm : Mods [] w w1) => radd_new vl l w1 (hA.low hm) hw)
  have HLT := Lib.hid (wgt_lite hw)
  have HRN := Lib.hid (show ∀ (g : Nat) (v : Value) (w : World), Fld 48 w g v (addF [] l) → Calls Tryz.prog 7 #[.int .i64 m, ptr g] w (HAns w (frm m (addF [] l))) from fun g v w h => of_rfld (minN_max m).symm (minN_01 m) h HLT.out)
  have HFN := Lib.hid (show ∀ (g : Nat) (v : Value) (w : World), Fld 63 w g v (addF [] l) → Calls Tryz.prog 6 #[.int .i64 m, ptr g] w (HAns w (frm m (addF [] l))) from fun g v w h => of_f (FP.of_fld h) HLT.out)
  unfold HAns howV at HRN HFN
  have hsl : (addF [] l).length ≤ 24 := addF_len (by simp)
  generalize frm m (addF [] l) = rr at *
  obtain ⟨⟨k, ln, c, x⟩, s⟩ := rr
  simp only at HRN HFN
  obtain ⟨a0, c0, rfl⟩ := hA.len
  clear hA hw
  go_enter Tryz.func8, Tryz.ntmps8
  go_upto_region 8 with (first
    | (go_at_call 11; refine HO.out.mono ?_; rintro e w1 ⟨g1, u1, rfl, hA⟩; have HA1 := Lib.hid hA; unfold ptr; clear hA)
    | (go_at_call 24; refine (HRA.out _ HA1.out.mods).mono ?_; rintro e w2 ⟨u2, r1, r2, rfl, hA⟩; have HA2 := Lib.hid hA; clear hA)
    | (go_at_call 6; refine (HFN.out _ _ _ (HA1.out.fld.low HA2.out.mods)).mono ?_; rintro e w3 ⟨rfl, hm⟩; have HM3 := Lib.hid hm; clear hm)
    | (go_at_call 7; refine (HRN.out _ _ _ ((HA2.out.fld.low HM3.out).low ((Mods.refl [] w3).alloc (.cells #[.int .i64 k, .int .i64 ln, .bool c, .bool x] 25)))).mono ?_; rintro e w4 ⟨rfl, hm⟩; have HR4 := Lib.hid ((Row.new w3 25 #[.int .i64 k, .int .i64 ln, .bool c, .bool x]).mods hm (by simp)); have HM4 := Lib.hid (((Mods.refl [] w3).alloc (.cells #[.int .i64 k, .int .i64 ln, .bool c, .bool x] 25)).trans hm (fun _ h => nomatch h)); clear hm))
  obtain ⟨W, hW⟩ : ∃ W, W = w4.alloc (.cells #[.int .i64 k, .int .i64 ln, .bool c, .bool x] 28) := ⟨_, rfl⟩
  have hRA := HR4.out.alloc (.cells #[.int .i64 k, .int .i64 ln, .bool c, .bool x] 28)
  have hRB := Row.new w4 28 #[.int .i64 k, .int .i64 ln, .bool c, .bool x]
  have hM := HM4.out.alloc (.cells #[.int .i64 k, .int .i64 ln, .bool c, .bool x] 28)
  rw [← hW] at hRA hRB hM ⊢
  clear hW
  have hMW := ((HA1.out.mods.trans HA2.out.mods (fun _ h => nomatch h)).trans HM3.out (fun _ h => nomatch h)).trans hM (fun _ h => nomatch h)
  have hF1 := ((HA1.out.fld.low HA2.out.mods).low HM3.out).low hM
  have hF2 := (HA2.out.fld.low HM3.out).low hM
  obtain ⟨a2, c2, rfl⟩ := HA2.out.fld.form
  have k0 : W.cell? ⟨w3.heap.size, 0, none⟩ = some (.int .i64 k) := hRA.cell 0
  have k1 : W.cell? ⟨w3.heap.size, 1, none⟩ = some (.int .i64 ln) := hRA.cell 1
  have k2 : W.cell? ⟨w3.heap.size, 2, none⟩ = some (.bool c) := hRA.cell 2
  have k3 : W.cell? ⟨w3.heap.size, 3, none⟩ = some (.bool x) := hRA.cell 3
  have j0 : W.cell? ⟨w4.heap.size, 0, none⟩ = some (.int .i64 k) := hRB.cell 0
  have j1 : W.cell? ⟨w4.heap.size, 1, none⟩ = some (.int .i64 ln) := hRB.cell 1
  have j2 : W.cell? ⟨w4.heap.size, 2, none⟩ = some (.bool c) := hRB.cell 2
  have j3 : W.cell? ⟨w4.heap.size, 3, none⟩ = some (.bool x) := hRB.cell 3
  have f0 := hF2.cell
  have HL := Lib.hid (show ∀ w', Mods [] W w' → Calls Tryz.prog 25 #[.pointer (some ⟨g1, 0, none⟩)] w' fun e w'' => e = .returned (.int .i64 ((addF [] l).length : Nat)) ∧ w' = w'' from fun w' hm => len_a w' (hF1.low hm))
  have HMW := Lib.hid hMW
  clear hRA hRB hM hMW hF1 hF2
  have hq := eql_how
  have hg := eqg_how
  generalize (addF [] l).length = n at *
  have hnn : ((n : Int) == (n : Int)) = true := by simp
  have hss : (s == s) = true := by simp
  go_region_held3 (fun w' => w'.cell? ⟨w3.heap.size, 0, none⟩ = some (.int .i64 k) ∧ w'.cell? ⟨w3.heap.size, 1, none⟩ = some (.int .i64 ln) ∧ w'.cell? ⟨w3.heap.size, 2, none⟩ = some (.bool c) ∧ w'.cell? ⟨w3.heap.size, 3, none⟩ = some (.bool x) ∧ w'.cell? ⟨w4.heap.size, 0, none⟩ = some (.int .i64 k) ∧ w'.cell? ⟨w4.heap.size, 1, none⟩ = some (.int .i64 ln) ∧ w'.cell? ⟨w4.heap.size, 2, none⟩ = some (.bool c) ∧ w'.cell? ⟨w4.heap.size, 3, none⟩ = some (.bool x) ∧ w'.cell? ⟨w1.heap.size, 0, none⟩ = some (.slice a2 n c2)) (go_keep)
    ((go_at_call 25; refine Calls.mono (HL.out _ ?_) ?_; exact (Mods.refl [] W).same rfl rfl rfl rfl; rintro e w6 ⟨rfl, rfl⟩))
  all_goals
    go_wp2
    go_ret
    exact ⟨rfl, HMW.out.same rfl rfl rfl rfl⟩
end Go.Proofs.YtcliapfoimnkiaaGreatDoor
