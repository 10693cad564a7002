/- What the code's isField and copied, and the document's Is, answer. Conditions: texts of at most a million bytes. -/
import Derived.Test.YtjoineomkdiekaaGreatDoorFa10
import Derived.Test.YtjoineomkdiekaaGreatDoorTokR
import Derived.Deep.RegionHeld3
import Derived.Deep.QuietTactic
import Derived.BigQuiet
import Derived.BigRegion
namespace Go.Proofs.YtjoineomkdiekaaGreatDoor
open Go.RowKit
set_option linter.unusedVariables false
set_option linter.unusedSimpArgs false

theorem okF_tok {p : FV} (h : tokL p.1.data.toList = false) : okF p = false := by unfold okF; rw [h]; rfl
theorem okF_val {p : FV} (h : valL p.2.data.toList = false) : okF p = false := by unfold okF; rw [h]; simp
theorem okF_trim {p : FV} (h : trimA p.2 ≠ p.2) : okF p = false := by unfold okF; rw [decide_eq_false h]; simp
theorem okF_yes {p : FV} (h1 : tokL p.1.data.toList = true) (h2 : valL p.2.data.toList = true) (h3 : trimA p.2 = p.2) : okF p = true := by unfold okF; rw [h1, h2, decide_eq_true h3]; rfl
theorem bytes_eqF {a b : ByteArray} (h : a = b) : (a.toList == b.toList) = true := by subst h; simp
theorem bytes_neF {a b : ByteArray} (h : a ≠ b) : (a.toList == b.toList) = false := by
  rw [beq_eq_false_iff_ne]; intro e
  exact h (Go.WideShapes.bytes_inj (by rw [← ByteArray.toList_eq, ← ByteArray.toList_eq, e]))
theorem istokK (a : ByteArray) {r : Bool} (h : tokL a.data.toList = r) (hs : a.size ≤ 1000000) (w : World) : Calls Tryz.prog 57 #[.string a] w fun e w' => e = .returned (.bool r) ∧ w = w' := by
  subst h; exact istok_a a w (by unfold maxLen; omega)
theorem isvalK (a : ByteArray) {r : Bool} (h : valL a.data.toList = r) (hs : a.size ≤ 1000000) (w : World) : Calls Tryz.prog 87 #[.string a] w fun e w' => e = .returned (.bool r) ∧ w = w' := by
  subst h; exact isval_a a w (by unfold maxLen; omega)
theorem trimK (a : ByteArray) (hs : a.size ≤ 1000000) (w : World) : Calls Tryz.prog 85 #[.string a] w fun e w' => e = .returned (.string (trimA a)) ∧ Mods [] w w' :=
  (trim_a a w (by omega)).mono fun e w' ⟨h1, h2⟩ => ⟨h1, .of_below h2⟩
theorem istokR (a : ByteArray) {r : Bool} (h : tokL a.data.toList = r) (hs : a.size ≤ 1000000) (w : World) : Calls Tryz.prog 45 #[.string a] w fun e w' => e = .returned (.bool r) ∧ w = w' := by
  subst h; exact istok_r a w (by unfold maxLen; omega)
theorem isvalR (a : ByteArray) {r : Bool} (h : valL a.data.toList = r) (hs : a.size ≤ 1000000) (w : World) : Calls Tryz.prog 46 #[.string a] w fun e w' => e = .returned (.bool r) ∧ w = w' := by
  subst h; exact isval_r a w (by unfold maxLen; omega)
theorem trimR (a : ByteArray) (hs : a.size ≤ 1000000) (w : World) : Calls Tryz.prog 47 #[.string a] w fun e w' => e = .returned (.string (trimA a)) ∧ w = w' := trim_r a w (by omega)
theorem of_drewF {F : List Nat} {a w : World} (h : Mods F a.drew w) : Mods F a w := ⟨h.os, h.tape, h.output, h.size, h.block⟩
theorem cloneK (a : ByteArray) (hs : a.size ≤ 1000000) (w : World) : Calls Tryz.prog 21 #[.string a] w fun e w' => e = .returned (.string a) ∧ Mods [] w w' := by
  go_enter Tryz.func21, Tryz.ntmps21
  go_wp2_with fail
  refine (clone_shelf a _ (by omega)).mono ?_
  rintro e w2 ⟨rfl, hd⟩
  have H := Lib.hid hd
  clear hd
  go_wp2
  go_ret
  exact ⟨rfl, .of_below H.out⟩

set_option maxRecDepth 10000 in
theorem isf_r (p : FV) (w : World) (h1 : p.1.size ≤ 1000000) (h2 : p.2.size ≤ 1000000) :
    Calls Tryz.prog 23 #[.agg #[.string p.1, .string p.2]] w fun e w' => e = .returned (.bool (okF p)) ∧ Mods [] w w' := by
  obtain ⟨a, b⟩ := p
  simp only at h1 h2
  cases ht : tokL a.data.toList with
  | false =>
    have HR := Lib.hid (okF_tok (p := (a, b)) ht)
    have HT := Lib.hid (fun w => istokR a ht h1 w)
    clear ht
    go_enter Tryz.func23, Tryz.ntmps23
    go_wp2_with fail
    go_quiet ((go_at_call 45; exact Calls.quiet_of_same ((HT.out _).mono fun _ _ ⟨x, y⟩ => ⟨x, y.symm⟩)))
    go_wp2
    go_ret
    exact ⟨by rw [HR.out]; rfl, ((Mods.refl [] w).alloc _).drewN _⟩
  | true =>
    cases hv : valL b.data.toList with
    | false =>
      have HR := Lib.hid (okF_val (p := (a, b)) hv)
      have HT := Lib.hid (fun w => istokR a ht h1 w)
      have HV := Lib.hid (fun w => isvalR b hv h2 w)
      clear ht hv
      go_enter Tryz.func23, Tryz.ntmps23
      go_wp2_with fail
      go_quiet (first | (go_at_call 45; exact Calls.quiet_of_same ((HT.out _).mono fun _ _ ⟨x, y⟩ => ⟨x, y.symm⟩)) | (go_at_call 46; exact Calls.quiet_of_same ((HV.out _).mono fun _ _ ⟨x, y⟩ => ⟨x, y.symm⟩)))
      go_wp2
      go_ret
      exact ⟨by rw [HR.out]; rfl, ((Mods.refl [] w).alloc _).drewN _⟩
    | true =>
      have HT := Lib.hid (fun w => istokR a ht h1 w)
      have HV := Lib.hid (fun w => isvalR b hv h2 w)
      have HX := Lib.hid (fun w => trimR b h2 w)
      have HR := Lib.hid (show okF (a, b) = decide (trimA b = b) by unfold okF; rw [ht, hv]; rfl)
      clear ht hv
      obtain ⟨c, hc⟩ : ∃ c, c = trimA b := ⟨_, rfl⟩
      rw [← hc] at HR HX
      clear hc
      by_cases he : c = b
      · have heq := bytes_eqF he
        have HE := Lib.hid he
        rw [decide_eq_true he] at HR
        clear he
        go_enter Tryz.func23, Tryz.ntmps23
        go_wp2_with fail
        go_quiet (first | (go_at_call 45; exact Calls.quiet_of_same ((HT.out _).mono fun _ _ ⟨x, y⟩ => ⟨x, y.symm⟩)) | (go_at_call 46; exact Calls.quiet_of_same ((HV.out _).mono fun _ _ ⟨x, y⟩ => ⟨x, y.symm⟩)) | (go_at_call 47; exact Calls.quiet_of_same ((HX.out _).mono fun _ _ ⟨x, y⟩ => ⟨x, y.symm⟩)))
        go_wp2
        go_ret
        exact ⟨by rw [HR.out]; rfl, ((Mods.refl [] w).alloc _).drewN _⟩
      · have heq := bytes_neF he
        have HE := Lib.hid he
        rw [decide_eq_false he] at HR
        clear he
        go_enter Tryz.func23, Tryz.ntmps23
        go_wp2_with fail
        go_quiet (first | (go_at_call 45; exact Calls.quiet_of_same ((HT.out _).mono fun _ _ ⟨x, y⟩ => ⟨x, y.symm⟩)) | (go_at_call 46; exact Calls.quiet_of_same ((HV.out _).mono fun _ _ ⟨x, y⟩ => ⟨x, y.symm⟩)) | (go_at_call 47; exact Calls.quiet_of_same ((HX.out _).mono fun _ _ ⟨x, y⟩ => ⟨x, y.symm⟩)))
        go_wp2
        go_ret
        exact ⟨by rw [HR.out]; rfl, ((Mods.refl [] w).alloc _).drewN _⟩

set_option maxRecDepth 10000 in
theorem isf_a (p : FV) (w : World) (h1 : p.1.size ≤ 1000000) (h2 : p.2.size ≤ 1000000) :
    Calls Tryz.prog 64 #[.agg #[.string p.1, .string p.2]] w fun e w' => e = .returned (.bool (okF p)) ∧ Mods [] w w' := by
  obtain ⟨a, b⟩ := p
  simp only at h1 h2
  cases ht : tokL a.data.toList with
  | false =>
    have HR := Lib.hid (okF_tok (p := (a, b)) ht)
    have HT := Lib.hid (fun w => istokK a ht h1 w)
    clear ht
    go_enter Tryz.func64, Tryz.ntmps64
    go_wp2_with fail
    go_quiet ((go_at_call 57; exact Calls.quiet_of_same ((HT.out _).mono fun _ _ ⟨x, y⟩ => ⟨x, y.symm⟩)))
    go_wp2
    go_ret
    exact ⟨by rw [HR.out]; rfl, ((Mods.refl [] w).alloc _).drewN _⟩
  | true =>
    cases hv : valL b.data.toList with
    | false =>
      have HR := Lib.hid (okF_val (p := (a, b)) hv)
      have HT := Lib.hid (fun w => istokK a ht h1 w)
      have HV := Lib.hid (fun w => isvalK b hv h2 w)
      clear ht hv
      go_enter Tryz.func64, Tryz.ntmps64
      go_wp2_with fail
      go_quiet (first | (go_at_call 57; exact Calls.quiet_of_same ((HT.out _).mono fun _ _ ⟨x, y⟩ => ⟨x, y.symm⟩)) | (go_at_call 87; exact Calls.quiet_of_same ((HV.out _).mono fun _ _ ⟨x, y⟩ => ⟨x, y.symm⟩)))
      go_wp2
      go_ret
      exact ⟨by rw [HR.out]; rfl, ((Mods.refl [] w).alloc _).drewN _⟩
    | true =>
      have HT := Lib.hid (fun w => istokK a ht h1 w)
      have HV := Lib.hid (fun w => isvalK b hv h2 w)
      have HX := Lib.hid (fun w => trimK b h2 w)
      have HR := Lib.hid (show okF (a, b) = decide (trimA b = b) by unfold okF; rw [ht, hv]; rfl)
      clear ht hv
      obtain ⟨c, hc⟩ : ∃ c, c = trimA b := ⟨_, rfl⟩
      rw [← hc] at HR HX
      clear hc
      by_cases he : c = b
      · have heq := bytes_eqF he
        have HE := Lib.hid he
        rw [decide_eq_true he] at HR
        clear he
        go_enter Tryz.func64, Tryz.ntmps64
        go_wp2_with fail
        have hcell : (w.alloc (.cells #[.string a, .string b] 49)).cell? ⟨w.heap.size, 0, none⟩ = some (.string a) ∧ (w.alloc (.cells #[.string a, .string b] 49)).cell? ⟨w.heap.size, 1, none⟩ = some (.string b) :=
          ⟨(Row.new w _ _).cell 0, (Row.new w _ _).cell 1⟩
        obtain ⟨k0, k1⟩ := hcell
        have HM := Lib.hid ((Mods.refl [] w).alloc (.cells #[.string a, .string b] 49))
        have hsz : w.heap.size < (w.alloc (.cells #[.string a, .string b] 49)).heap.size := by simp
        obtain ⟨w0, hw0⟩ : ∃ w0, w0 = w.alloc (.cells #[.string a, .string b] 49) := ⟨_, rfl⟩
        rw [← hw0] at k0 k1 HM hsz ⊢
        clear hw0
        go_region_held3 (fun w' => w'.cell? ⟨w.heap.size, 0, none⟩ = some (.string a) ∧ w'.cell? ⟨w.heap.size, 1, none⟩ = some (.string b)) (go_keep)
          (first
            | (go_at_call 57; refine (HT.out _).mono ?_; rintro e w' ⟨rfl, rfl⟩)
            | (go_at_call 87; refine (HV.out _).mono ?_; rintro e w' ⟨rfl, rfl⟩)
            | (go_at_call 85; refine (HX.out _).mono ?_; rintro e w1 ⟨rfl, hm⟩; have m0 := HM.out.trans (of_drewF hm) (fun _ h => (nomatch h)); have c0 := cell_mods k0 (of_drewF hm) (by simp); have c1 := cell_mods k1 (of_drewF hm) (by simp); have M1 := Lib.hid m0; clear hm m0))
        go_wp2
        go_ret
        exact ⟨by rw [HR.out]; rfl, M1.out⟩
      · have heq := bytes_neF he
        have HE := Lib.hid he
        rw [decide_eq_false he] at HR
        clear he
        go_enter Tryz.func64, Tryz.ntmps64
        go_wp2_with fail
        have hcell : (w.alloc (.cells #[.string a, .string b] 49)).cell? ⟨w.heap.size, 0, none⟩ = some (.string a) ∧ (w.alloc (.cells #[.string a, .string b] 49)).cell? ⟨w.heap.size, 1, none⟩ = some (.string b) :=
          ⟨(Row.new w _ _).cell 0, (Row.new w _ _).cell 1⟩
        obtain ⟨k0, k1⟩ := hcell
        have HM := Lib.hid ((Mods.refl [] w).alloc (.cells #[.string a, .string b] 49))
        have hsz : w.heap.size < (w.alloc (.cells #[.string a, .string b] 49)).heap.size := by simp
        obtain ⟨w0, hw0⟩ : ∃ w0, w0 = w.alloc (.cells #[.string a, .string b] 49) := ⟨_, rfl⟩
        rw [← hw0] at k0 k1 HM hsz ⊢
        clear hw0
        go_region_held3 (fun w' => w'.cell? ⟨w.heap.size, 0, none⟩ = some (.string a) ∧ w'.cell? ⟨w.heap.size, 1, none⟩ = some (.string b)) (go_keep)
          (first
            | (go_at_call 57; refine (HT.out _).mono ?_; rintro e w' ⟨rfl, rfl⟩)
            | (go_at_call 87; refine (HV.out _).mono ?_; rintro e w' ⟨rfl, rfl⟩)
            | (go_at_call 85; refine (HX.out _).mono ?_; rintro e w1 ⟨rfl, hm⟩; have m0 := HM.out.trans (of_drewF hm) (fun _ h => (nomatch h)); have c0 := cell_mods k0 (of_drewF hm) (by simp); have c1 := cell_mods k1 (of_drewF hm) (by simp); have M1 := Lib.hid m0; clear hm m0))
        go_wp2
        go_ret
        exact ⟨by rw [HR.out]; rfl, M1.out⟩

/-- What a function with a result of two texts in a block of its own hands back. -/
theorem ret_fld {fn : Func} {a : Act} {W : World} {R : Ending → World → Prop} {r : Nat} {x y : ByteArray} {t : TypeId} {q : Tmp} (hres : fn.results = #[.cell q t])
    (c0 : W.cell? ⟨r, 0, none⟩ = some (.string x)) (c1 : W.cell? ⟨r, 1, none⟩ = some (.string y))
    (ha : (isAgg t).run Tryz.prog W = .ok true W) (hs : (Go.sizeOf t).run Tryz.prog W = .ok 2 W)
    (h2 : a.tmps.getD q undef = .pointer (some ⟨r, 0, none⟩)) (hd : a.defers = []) (hR : R (.returned (.agg #[.string x, .string y])) W) : bodyPost Tryz.prog fn R .ret a W := by
  refine bodyPost_ret (v := .agg #[.string x, .string y]) ?_ hd hR
  have g2 : a.tmps[q]?.getD undef = .pointer (some ⟨r, 0, none⟩) := by simpa using h2
  simp [results, hres, go_sem, g2, c0, c1, ha, hs]
set_option maxRecDepth 10000 in
theorem copied_a (p : FV) (w : World) (h1 : p.1.size ≤ 1000000) (h2 : p.2.size ≤ 1000000) :
    Calls Tryz.prog 35 #[.agg #[.string p.1, .string p.2]] w fun e w' => e = .returned (.agg #[.string p.1, .string p.2]) ∧ Mods [] w w' := by
  obtain ⟨a, b⟩ := p
  simp only at h1 h2
  have HA := Lib.hid (fun w => cloneK a h1 w)
  have HB := Lib.hid (fun w => cloneK b h2 w)
  go_enter Tryz.func35, Tryz.ntmps35
  go_wp2_with fail
  obtain ⟨n0, hn0⟩ : ∃ n0, n0 = w.heap.size := ⟨_, rfl⟩
  obtain ⟨w0, hw0⟩ : ∃ w0, w0 = (w.alloc (.cells #[.string a, .string b] 49)).alloc (.cells #[.string ⟨#[]⟩, .string ⟨#[]⟩] 49) := ⟨_, rfl⟩
  have r0 : Row w0 n0 49 #[.string a, .string b] := by rw [hw0, hn0]; exact (Row.new w _ _).alloc _
  have r1 : Row w0 (n0 + 1) 49 #[.string ⟨#[]⟩, .string ⟨#[]⟩] := by rw [hw0, hn0]; exact (by simpa using Row.new (w.alloc (.cells #[.string a, .string b] 49)) 49 #[.string ⟨#[]⟩, .string ⟨#[]⟩])
  have HM := Lib.hid (show Mods [] w w0 by rw [hw0]; exact ((Mods.refl [] w).alloc _).alloc _)
  have HN := Lib.hid (show w.heap.size ≤ n0 by omega)
  rw [← hw0, ← hn0]
  clear hw0 hn0
  have k0 := r0.cell 0
  have k1 := r0.cell 1
  have R1 := Lib.hid r1
  simp only [List.getElem?_toArray, List.getElem?_cons_zero, List.getElem?_cons_succ] at k0 k1
  clear r0 r1
  go_region_held3 (fun w' => w'.cell? ⟨n0, 0, none⟩ = some (.string a) ∧ w'.cell? ⟨n0, 1, none⟩ = some (.string b)) (go_keep)
    (first
      | (go_at_call 21; refine (HA.out _).mono ?_; rintro e w1 ⟨rfl, hm⟩; have c0 := cell_mods k0 (of_drewF hm) (by simp); have c1 := cell_mods k1 (of_drewF hm) (by simp); have M1 := Lib.hid (of_drewF hm); clear hm)
      | (go_at_call 21; refine (HB.out _).mono ?_; rintro e w2 ⟨rfl, hm0⟩; have hm : Mods [] w1 w2 := (by first | exact hm0 | exact of_drewF hm0); clear hm0; have d0 := cell_mods c0 hm (by simp); have d1 := cell_mods c1 hm (by simp); have R2 := Lib.hid ((R1.out.mods M1.out (by simp)).mods hm (by simp)); have M2 := Lib.hid ((HM.out.trans M1.out (fun _ h => nomatch h)).trans hm (fun _ h => nomatch h)); have z0 := R2.out.cell 0; have z1 := R2.out.cell 1; have y0 := R2.out.free 0; have y1 := R2.out.free 1; simp only [List.getElem?_toArray, List.getElem?_cons_zero, List.getElem?_cons_succ] at z0 z1; clear hm))
  have R3 := Lib.hid ((R2.out.set 0 (.string a)).set 1 (.string b))
  have M3 := Lib.hid ((M2.out.setCell (p := ⟨n0 + 1, 0, none⟩) (.inr (by have := HN.out; show _ ≤ n0 + 1; omega)) (.string a)).setCell (p := ⟨n0 + 1, 1, none⟩) (.inr (by have := HN.out; show _ ≤ n0 + 1; omega)) (.string b))
  obtain ⟨w3, hw3⟩ : ∃ w3, w3 = (w2.setCell ⟨n0 + 1, 0, none⟩ (.string a)).setCell ⟨n0 + 1, 1, none⟩ (.string b) := ⟨_, rfl⟩
  rw [← hw3] at R3 M3 ⊢
  clear hw3
  go_wp2
  exact ret_fld rfl (R3.out.cell 0) (R3.out.cell 1) (Tryz.isAgg49 _) (Tryz.sizeOf49 _) rfl rfl ⟨rfl, M3.out⟩

end Go.Proofs.YtjoineomkdiekaaGreatDoor
