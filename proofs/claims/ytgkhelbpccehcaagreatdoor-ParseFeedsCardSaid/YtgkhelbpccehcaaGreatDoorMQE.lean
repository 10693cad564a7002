/- The steps of the code's walk through a head: host, coding, length, body, connection, expect, each by its plain answer. Conditions: names of at most a million bytes, values of at most 900000 bytes in all. -/
import Derived.Test.YtgkhelbpccehcaaGreatDoorMQD
import Derived.Deep.RegionWith
import Derived.Deep.RegionHeld3
import Derived.BigRegion
import Derived.Test.YtgkhelbpccehcaaGreatDoorLz9
import Derived.Test.YtgkhelbpccehcaaGreatDoorMem
import Derived.OwnWalk
import Derived.Laws.EntriesVeiled
import Derived.Test.YtgkhelbpccehcaaGreatDoorMQB
import Derived.Test.YtgkhelbpccehcaaGreatDoorMQA
import Derived.Test.YtgkhelbpccehcaaGreatDoorMQC
import Derived.Deep.DeepCutAuto
import Derived.Deep.CutBlock
namespace Go.Proofs.YtgkhelbpccehcaaGreatDoor
open Go.RowKit
set_option linter.unusedVariables false
set_option linter.unusedSimpArgs false

/-- The walk in memory. -/
def WkA (w : World) (p : Nat) (el : Bool) (fp : Value) (k l : Int) (c x : Bool) : Prop := Row w p 157 #[.bool el, fp, .int .i64 k, .int .i64 l, .bool c, .bool x]
def minOf (el : Bool) : Int := if el = true then 0 else 1

set_option maxRecDepth 10000 in
theorem ishost_a (v : ByteArray) (w : World) (hs : v.size ≤ 1000000) : Calls Tryz.prog 157 #[.string v] w fun e w' => e = .returned (.bool (decide (v.data.toList = []) || hostL v.data.toList)) ∧ w = w' := by
  have HH := Lib.hid (fun w => host_a v w hs)
  by_cases h : v.data.toList = []
  · have he := text_eq h
    have HE := Lib.hid (decide_eq_true h)
    clear h
    go_enter Tryz.func157, Tryz.ntmps157
    go_wp2
    go_ret
    exact ⟨by rw [HE.out]; rfl, rfl⟩
  · have he := text_ne h
    have HE := Lib.hid (decide_eq_false h)
    clear h
    go_enter Tryz.func157, Tryz.ntmps157
    go_wp2_with (go_at_call 148; refine (HH.out _).mono ?_; rintro e w1 ⟨rfl, rfl⟩)
    go_ret
    exact ⟨by rw [HE.out]; rfl, rfl⟩

/-- The status of the host. -/
def hostS (m : Int) (vs : List ByteArray) : Int := if hostOk m vs = true then 0 else 400
set_option maxRecDepth 10000 in
theorem host_w {w : World} {p : Nat} {el : Bool} {fp : Value} {k l : Int} {c x : Bool} {S : List FV} {B : Nat} (hr : WkA w p el fp k l c x) (hf : FP 93 B w fp S) (hs : Lite S) :
    Calls Tryz.prog 134 #[ptr p] w fun e w' => e = .returned (.int .i64 (hostS (minOf el) (valsF S nHost))) ∧ Mods [] w w' := by
  have c0 : w.cell? ⟨p, 0, none⟩ = some (.bool el) := hr.cell 0
  have c1 : w.cell? ⟨p, 1, none⟩ = some fp := hr.cell 1
  have HV := Lib.hid (vals_p nHost w hf (by decide))
  have HS := Lib.hid (hs.vals nHost)
  obtain ⟨A, rfl⟩ := hf.form
  clear hr hf hs
  unfold ptr
  generalize valsF S nHost = vs at *
  match vs with
  | [] =>
    cases el
    · go_enter Tryz.func134, Tryz.ntmps134
      go_wp2_with (go_at_call 156; refine HV.out.mono ?_; rintro e w1 ⟨u, rfl, hA, hm⟩; obtain ⟨a, cap, rfl⟩ := strs_nil hA; have d0 := cell_mods c0 hm (by simp); have HM := Lib.hid hm; clear hA hm)
      go_ret
      exact ⟨rfl, HM.out⟩
    · go_enter Tryz.func134, Tryz.ntmps134
      go_wp2_with (go_at_call 156; refine HV.out.mono ?_; rintro e w1 ⟨u, rfl, hA, hm⟩; obtain ⟨a, cap, rfl⟩ := strs_nil hA; have d0 := cell_mods c0 hm (by simp); have HM := Lib.hid hm; clear hA hm)
      go_ret
      exact ⟨rfl, HM.out⟩
  | [v] =>
    have HI := Lib.hid (fun w => ishost_a v w (by have := HS.out; simp only [sizes] at this; omega))
    cases hh : (decide (v.data.toList = []) || hostL v.data.toList) with
    | true =>
      rw [hh] at HI
      have HA := Lib.hid (show hostS (minOf el) [v] = 0 by unfold hostS; rw [show hostOk (minOf el) [v] = true from hh]; rfl)
      clear hh
      go_enter Tryz.func134, Tryz.ntmps134
      go_wp2_with (first
        | (go_at_call 156; refine HV.out.mono ?_; rintro e w1 ⟨u, rfl, hA, hm⟩; obtain ⟨b, off, cap, rfl, d1⟩ := strs_one hA; have HM := Lib.hid hm; clear hA hm)
        | (go_at_call 157; refine (HI.out _).mono ?_; rintro e w2 ⟨rfl, rfl⟩))
      go_ret
      exact ⟨by rw [HA.out]; rfl, HM.out⟩
    | false =>
      rw [hh] at HI
      have HA := Lib.hid (show hostS (minOf el) [v] = 400 by unfold hostS; rw [show hostOk (minOf el) [v] = false from hh]; rfl)
      clear hh
      go_enter Tryz.func134, Tryz.ntmps134
      go_wp2_with (first
        | (go_at_call 156; refine HV.out.mono ?_; rintro e w1 ⟨u, rfl, hA, hm⟩; obtain ⟨b, off, cap, rfl, d1⟩ := strs_one hA; have HM := Lib.hid hm; clear hA hm)
        | (go_at_call 157; refine (HI.out _).mono ?_; rintro e w2 ⟨rfl, rfl⟩))
      go_ret
      exact ⟨by rw [HA.out]; rfl, HM.out⟩
  | v :: v2 :: r =>
    go_enter Tryz.func134, Tryz.ntmps134
    go_wp2_with (go_at_call 156; refine HV.out.mono ?_; rintro e w1 ⟨u, rfl, hA, hm⟩; obtain ⟨a, n, cap, rfl, hn⟩ := strs_two hA; have hd : decide (1 < n) = true := decide_eq_true (by omega); have HM := Lib.hid hm; clear hA hm)
    go_ret
    exact ⟨rfl, HM.out⟩

/-! Codings. -/
def chB : ByteArray := ⟨#[99, 104, 117, 110, 107, 101, 100]⟩
theorem cod_elder (cl te : List ByteArray) : codS (minOf true) cl te = 400 := by unfold codS minOf; simp
theorem cod_len {cl te : List ByteArray} (h : cl ≠ []) (m : Int) : codS m cl te = 400 := by unfold codS; rw [if_pos (.inr h)]
theorem cod_none {te : List ByteArray} (h : toksO te = none) : codS 1 [] te = 400 := by unfold codS; rw [h]; simp
theorem cod_nil {te : List ByteArray} (h : toksO te = some []) : codS 1 [] te = 400 := by unfold codS; rw [h]; decide
theorem cod_idx {L : List (List UInt8)} (h0 : L ≠ []) : Lib.idxOfS (L.map ba) chB = (L.length : Int) - 1 ↔ L.getLastD [] = chunkedL ∧ chunkedL ∉ L.dropLast := by
  have h := idx_last (l := L.map ba) (x := chB) (by simpa using h0)
  rw [List.length_map] at h
  rw [h, List.getLast_map, ← List.map_dropLast]
  have hb : chB = ba chunkedL := rfl
  have hg : L.getLastD [] = L.getLast h0 := by
    cases L with
    | nil => exact absurd rfl h0
    | cons a r => rw [List.getLastD_cons]; rw [List.getLast_eq_getLastD]
  rw [hb, hg]
  constructor
  · rintro ⟨h1, h2⟩
    exact ⟨ba_inj h1, fun h => h2 (List.mem_map.2 ⟨_, h, rfl⟩)⟩
  · rintro ⟨h1, h2⟩
    refine ⟨by rw [h1], fun h => ?_⟩
    obtain ⟨y, hy, he⟩ := List.mem_map.1 h
    exact h2 (ba_inj he ▸ hy)
theorem cod_bad {te : List ByteArray} {L : List (List UInt8)} (h : toksO te = some L) (h0 : L ≠ []) (hi : Lib.idxOfS (L.map ba) chB ≠ (L.length : Int) - 1) : codS 1 [] te = 400 := by
  have hn : ¬ (L.getLastD [] = chunkedL ∧ chunkedL ∉ L.dropLast) := fun h => hi ((cod_idx h0).2 h)
  unfold codS
  rw [if_neg (by simp), h]
  simp only
  by_cases h1 : L.getLastD [] ≠ chunkedL
  · rw [if_pos h1]
  · have h1 : L.getLastD [] = chunkedL := Classical.not_not.1 h1
    have h2 : chunkedL ∈ L.dropLast := Classical.byContradiction fun h => hn ⟨h1, h⟩
    rw [if_neg (by simpa using h1), if_neg (fun e => by
      have := List.length_pos_of_mem h2
      rw [List.length_dropLast] at this; omega), if_pos h2]
theorem cod_one {te : List ByteArray} {L : List (List UInt8)} (h : toksO te = some L) (h0 : L ≠ []) (hi : Lib.idxOfS (L.map ba) chB = (L.length : Int) - 1) (h1 : L.length = 1) : codS 1 [] te = 0 := by
  obtain ⟨a, b⟩ := (cod_idx h0).1 hi
  unfold codS
  rw [if_neg (by simp), h]
  simp only
  rw [if_neg (by simpa using a), if_pos h1]
theorem cod_more {te : List ByteArray} {L : List (List UInt8)} (h : toksO te = some L) (h0 : L ≠ []) (hi : Lib.idxOfS (L.map ba) chB = (L.length : Int) - 1) (h1 : L.length ≠ 1) : codS 1 [] te = 501 := by
  obtain ⟨a, b⟩ := (cod_idx h0).1 hi
  unfold codS
  rw [if_neg (by simp), h]
  simp only
  rw [if_neg (by simpa using a), if_neg h1, if_neg b]
theorem strs_map {W : World} {v : Value} {L : List (List UInt8)} (h : StrsAt W v (L.map ba)) : ∃ a cap, v = .slice a L.length cap := by
  obtain ⟨a, cap, h⟩ := h.len; rw [List.length_map] at h; exact ⟨a, cap, h⟩

/-- What a step answers that has found kind and length. -/
def Step (w : World) (p : Nat) (s : Int) (el : Bool) (fp : Value) (k l : Int) (c x : Bool) (e : Ending) (w' : World) : Prop :=
  e = .returned (.int .i64 s) ∧ (s = 0 → WkA w' p el fp k l c x) ∧ Mods [p] w w'
set_option maxRecDepth 10000 in
theorem coding_w {w : World} {p : Nat} {el : Bool} {fp : Value} {k l : Int} {c x : Bool} {S : List FV} {B : Nat} (hr : WkA w p el fp k l c x) (hf : FP 93 B w fp S) (hs : Lite S) :
    Calls Tryz.prog 159 #[ptr p] w (Step w p (codS (minOf el) (valsF S nCL) (valsF S nTE)) el fp 2 l c x) := by
  have c0 : w.cell? ⟨p, 0, none⟩ = some (.bool el) := hr.cell 0
  have c1 : w.cell? ⟨p, 1, none⟩ = some fp := hr.cell 1
  have HS := Lib.hid (hs.vals nTE)
  have HR := Lib.hid hr
  have HH := Lib.hid (has_p nCL w hf (by decide))
  have HV := Lib.hid (fun w' (hm : Mods [] w w') => vals_p nTE w' (hf.low hm) (by decide))
  obtain ⟨A, rfl⟩ := hf.form
  clear hr hf hs
  unfold ptr
  generalize valsF S nTE = te at *
  generalize valsF S nCL = cl at *
  cases el with
  | true =>
    have HC := Lib.hid (cod_elder cl te)
    go_enter Tryz.func159, Tryz.ntmps159
    go_wp2
    go_ret
    exact ⟨by rw [HC.out]; rfl, fun h => absurd (HC.out.symm.trans h) (by decide), Mods.refl _ _⟩
  | false =>
    by_cases hcl : cl = []
    · subst hcl
      rw [show decide (([] : List ByteArray) ≠ []) = false from rfl] at HH
      cases hT : toksO te with
      | none =>
        have HC := Lib.hid (cod_none hT)
        have HT := Lib.hid (fun v w h => tok_n hT v w h HS.out)
        clear hT
        go_enter Tryz.func159, Tryz.ntmps159
        go_wp2_with (first
          | (go_at_call 158; refine HH.out.mono ?_; rintro e w1 ⟨rfl, hm⟩; have d1 := cell_mods c1 hm (by simp); have HM1 := Lib.hid hm; clear hm)
          | (go_at_call 156; refine (HV.out _ HM1.out).mono ?_; rintro e w2 ⟨u, rfl, hA, hm⟩; have HA := Lib.hid hA; have HM2 := Lib.hid (HM1.out.trans hm (fun _ h => nomatch h)); clear hA hm)
          | (go_at_call 161; refine (HT.out _ _ HA.out).mono ?_; rintro e w3 ⟨rfl, hm⟩; have HM3 := Lib.hid (HM2.out.trans hm (fun _ h => nomatch h)); clear hm))
        go_ret
        exact ⟨by rw [show minOf false = 1 from rfl, HC.out]; rfl, fun h => absurd (HC.out.symm.trans h) (by decide), HM3.out.more (by simp)⟩
      | some L =>
        have hlen := Nat.le_trans (toksO_len hT) HS.out
        have HT := Lib.hid (fun v w h => tok_y hT v w h HS.out)
        by_cases h0 : L = []
        · subst h0
          have HC := Lib.hid (cod_nil hT)
          clear hT hlen
          go_enter Tryz.func159, Tryz.ntmps159
          go_wp2_with (first
            | (go_at_call 158; refine HH.out.mono ?_; rintro e w1 ⟨rfl, hm⟩; have d1 := cell_mods c1 hm (by simp); have HM1 := Lib.hid hm; clear hm)
            | (go_at_call 156; refine (HV.out _ HM1.out).mono ?_; rintro e w2 ⟨u, rfl, hA, hm⟩; have HA := Lib.hid hA; have HM2 := Lib.hid (HM1.out.trans hm (fun _ h => nomatch h)); clear hA hm)
            | (go_at_call 161; refine (HT.out _ _ HA.out).mono ?_; rintro e w3 ⟨u2, rfl, hA2, hm⟩; obtain ⟨a, cap, rfl⟩ := strs_nil hA2; have HM3 := Lib.hid (HM2.out.trans hm (fun _ h => nomatch h)); clear hm hA2))
          go_ret
          exact ⟨by rw [show minOf false = 1 from rfl, HC.out]; rfl, fun h => absurd (HC.out.symm.trans h) (by decide), HM3.out.more (by simp)⟩
        · have hpos : 0 < L.length := List.length_pos_iff.2 h0
          have HN := Lib.hid (fun W v (h : StrsAt W v (L.map ba)) => strs_map h)
          have HX := Lib.hid (fun v w h => index_tk (L.map ba) v chB w h (by rw [List.length_map]; omega))
          by_cases hi : Lib.idxOfS (L.map ba) chB = (L.length : Int) - 1
          · have H1 := Lib.hid (cod_one hT h0 hi)
            have H2 := Lib.hid (cod_more hT h0 hi)
            rw [hi] at HX
            clear hT h0 hi
            generalize L.length = n at *
            have hne : (((n : Int) - 1) != ((n : Int) - 1)) = false := by simp
            have hlt : decide ((n : Int) - 1 < 0) = false := decide_eq_false (by omega)
            by_cases h1 : n = 1
            · have HC := Lib.hid (H1.out h1)
              subst h1
              rw [show ((1 : Nat) : Int) - 1 = 0 from rfl] at HX
              clear hne hlt hlen hpos
              clear H1 H2
              go_enter Tryz.func159, Tryz.ntmps159
              go_wp2_with (first
                | (go_at_call 158; refine HH.out.mono ?_; rintro e w1 ⟨rfl, hm⟩; have d1 := cell_mods c1 hm (by simp); have HM1 := Lib.hid hm; clear hm)
                | (go_at_call 156; refine (HV.out _ HM1.out).mono ?_; rintro e w2 ⟨u, rfl, hA, hm⟩; have HA := Lib.hid hA; have HM2 := Lib.hid (HM1.out.trans hm (fun _ h => nomatch h)); clear hA hm)
                | (go_at_call 161; refine (HT.out _ _ HA.out).mono ?_; rintro e w3 ⟨u2, rfl, hA2, hm⟩; have HA2 := Lib.hid hA2; obtain ⟨a, cap, rfl⟩ := HN.out _ _ hA2; have HM3 := Lib.hid (HM2.out.trans hm (fun _ h => nomatch h)); have e2 : w3.cell? ⟨p, 2, none⟩ = some (.int .i64 k) := (HR.out.mods HM3.out (by simp)).cell 2; have g2 : w3.frozen? ⟨p, 2, none⟩ = false := (HR.out.mods HM3.out (by simp)).free 2; clear hm hA2)
                | (go_at_call 191; refine (HX.out _ _ HA2.out).mono ?_; rintro e w4 ⟨rfl, rfl⟩))
              go_ret
              exact ⟨by rw [show minOf false = 1 from rfl, HC.out]; rfl, fun _ => (HR.out.mods HM3.out (by simp)).set 2 _, (HM3.out.more (by simp)).setCell (.inl (by simp)) _⟩
            · have HC := Lib.hid (H2.out h1)
              have hgt : decide ((n : Int) - 1 > 0) = true := decide_eq_true (by omega)
              clear H1 H2
              go_enter Tryz.func159, Tryz.ntmps159
              go_wp2_with (first
                | (go_at_call 158; refine HH.out.mono ?_; rintro e w1 ⟨rfl, hm⟩; have d1 := cell_mods c1 hm (by simp); have HM1 := Lib.hid hm; clear hm)
                | (go_at_call 156; refine (HV.out _ HM1.out).mono ?_; rintro e w2 ⟨u, rfl, hA, hm⟩; have HA := Lib.hid hA; have HM2 := Lib.hid (HM1.out.trans hm (fun _ h => nomatch h)); clear hA hm)
                | (go_at_call 161; refine (HT.out _ _ HA.out).mono ?_; rintro e w3 ⟨u2, rfl, hA2, hm⟩; have HA2 := Lib.hid hA2; obtain ⟨a, cap, rfl⟩ := HN.out _ _ hA2; have HM3 := Lib.hid (HM2.out.trans hm (fun _ h => nomatch h)); clear hm hA2)
                | (go_at_call 191; refine (HX.out _ _ HA2.out).mono ?_; rintro e w4 ⟨rfl, rfl⟩))
              go_ret
              exact ⟨by rw [show minOf false = 1 from rfl, HC.out]; rfl, fun h => absurd (HC.out.symm.trans h) (by decide), HM3.out.more (by simp)⟩
          · have HC := Lib.hid (cod_bad hT h0 hi)
            generalize Lib.idxOfS (L.map ba) chB = i at *
            clear hT h0
            generalize L.length = n at *
            have hne : (i != ((n : Int) - 1)) = true := by simpa using hi
            have hlt : decide ((n : Int) - 1 < 0) = false := decide_eq_false (by omega)
            clear hi
            go_enter Tryz.func159, Tryz.ntmps159
            go_wp2_with (first
              | (go_at_call 158; refine HH.out.mono ?_; rintro e w1 ⟨rfl, hm⟩; have d1 := cell_mods c1 hm (by simp); have HM1 := Lib.hid hm; clear hm)
              | (go_at_call 156; refine (HV.out _ HM1.out).mono ?_; rintro e w2 ⟨u, rfl, hA, hm⟩; have HA := Lib.hid hA; have HM2 := Lib.hid (HM1.out.trans hm (fun _ h => nomatch h)); clear hA hm)
              | (go_at_call 161; refine (HT.out _ _ HA.out).mono ?_; rintro e w3 ⟨u2, rfl, hA2, hm⟩; have HA2 := Lib.hid hA2; obtain ⟨a, cap, rfl⟩ := HN.out _ _ hA2; have HM3 := Lib.hid (HM2.out.trans hm (fun _ h => nomatch h)); clear hm hA2)
              | (go_at_call 191; refine (HX.out _ _ HA2.out).mono ?_; rintro e w4 ⟨rfl, rfl⟩))
            go_ret
            exact ⟨by rw [show minOf false = 1 from rfl, HC.out]; rfl, fun h => absurd (HC.out.symm.trans h) (by decide), HM3.out.more (by simp)⟩
    · rw [show decide (cl ≠ []) = true from decide_eq_true hcl] at HH
      have HC := Lib.hid (cod_len (te := te) hcl (minOf false))
      clear hcl
      go_enter Tryz.func159, Tryz.ntmps159
      go_wp2_with (go_at_call 158; refine HH.out.mono ?_; rintro e w1 ⟨rfl, hm⟩; have HM1 := Lib.hid hm; clear hm)
      go_ret
      exact ⟨by rw [HC.out]; rfl, fun h => absurd (HC.out.symm.trans h) (by decide), HM1.out.more (by simp)⟩
end Go.Proofs.YtgkhelbpccehcaaGreatDoor

/- The steps of the code's walk through a head: length, body, connection, expect. Conditions: names of at most a million bytes, values of at most 900000 bytes in all. -/
namespace Go.Proofs.YtgkhelbpccehcaaGreatDoor
open Go.RowKit
set_option linter.unusedVariables false
set_option linter.unusedSimpArgs false

/-! Lengths. -/
def numF (y : List UInt8) : Int := (numB 10 15 y).1
def goodF (f : Int) (y : List UInt8) : Bool := (numB 10 15 y).2 && numF y == f
theorem lenN_cons (x : List UInt8) (r : List (List UInt8)) : lenN (x :: r) = if (numB 10 15 x).2 = true ∧ r.all (fun y => (numB 10 15 y).2 && (numB 10 15 y).1 == (numB 10 15 x).1) = true then some (numB 10 15 x).1 else none := rfl
theorem lenN_all {x : List UInt8} {r : List (List UInt8)} (h : ∀ j (hj : j < (x :: r).length), goodF (numF x) (x :: r)[j] = true) : lenN (x :: r) = some (numF x) := by
  have h0 := h 0 (by simp)
  unfold goodF at h0
  simp only [List.getElem_cons_zero, Bool.and_eq_true] at h0
  rw [lenN_cons, if_pos ⟨h0.1, List.all_eq_true.2 fun y hy => by
    obtain ⟨j, hj, rfl⟩ := List.mem_iff_getElem.1 hy
    have := h (j + 1) (by simp; omega)
    rw [List.getElem_cons_succ] at this
    exact this⟩]
  rfl
theorem lenN_bad {x : List UInt8} {r : List (List UInt8)} {j : Nat} (hj : j < (x :: r).length) (h : goodF (numF x) (x :: r)[j] = false) : lenN (x :: r) = none := by
  rw [lenN_cons, if_neg]
  rintro ⟨h1, h2⟩
  cases j with
  | zero =>
    rw [List.getElem_cons_zero] at h
    unfold goodF at h
    rw [h1] at h
    simp at h
  | succ j =>
    rw [List.getElem_cons_succ] at h
    have := List.all_eq_true.1 h2 _ (List.getElem_mem (h := by simp at hj; omega))
    unfold goodF at h
    exact absurd (this.symm.trans h) (by simp)
theorem len_toks {cl : List ByteArray} (h : toksO cl = none) : lenS cl = (0, 400) := by unfold lenS; rw [h]
theorem lenv_nil {cl : List ByteArray} (h : toksO cl = some []) : lenS cl = (0, 400) := by unfold lenS; rw [h]; rfl
theorem len_bad {cl : List ByteArray} {L : List (List UInt8)} (h : toksO cl = some L) (h2 : lenN L = none) : lenS cl = (0, 400) := by unfold lenS; rw [h]; simp only; rw [h2]
theorem len_big {cl : List ByteArray} {L : List (List UInt8)} {n : Int} (h : toksO cl = some L) (h2 : lenN L = some n) (h3 : 2048 < n) : lenS cl = (0, 413) := by unfold lenS; rw [h]; simp only; rw [h2]; simp only; rw [if_pos h3]
theorem len_ok {cl : List ByteArray} {L : List (List UInt8)} {n : Int} (h : toksO cl = some L) (h2 : lenN L = some n) (h3 : ¬ 2048 < n) : lenS cl = (n, 0) := by unfold lenS; rw [h]; simp only; rw [h2]; simp only; rw [if_neg h3]
theorem len_facts {cl : List ByteArray} {L : List (List UInt8)} (h : toksO cl = some L) (h0 : 0 < L.length) :
    (∀ j (hj : j < L.length), goodF (numF L[0]) L[j] = false → lenS cl = (0, 400)) ∧
    ((∀ j (hj : j < L.length), goodF (numF L[0]) L[j] = true) → 2048 < numF L[0] → lenS cl = (0, 413)) ∧
    ((∀ j (hj : j < L.length), goodF (numF L[0]) L[j] = true) → ¬ 2048 < numF L[0] → lenS cl = (numF L[0], 0)) := by
  match L, h0 with
  | y :: r, h0 => exact ⟨fun j hj hb => len_bad h (lenN_bad hj hb), fun ha h3 => len_big h (lenN_all ha) h3, fun ha h3 => len_ok h (lenN_all ha) h3⟩
theorem strs_at {W : World} {v : Value} {L : List (List UInt8)} (h : StrsAt W v (L.map ba)) (h0 : 0 < L.length) : ∃ (b off cap : Nat), v = .slice (some ⟨b, off, none⟩) L.length cap ∧ ∀ j (h : j < L.length), W.cell? ⟨b, off + j, none⟩ = some (.string (ba L[j])) := by
  rcases h with ⟨h, _⟩ | ⟨b, off, cap, hv, h0, hb, hc⟩
  · have := congrArg List.length h
    rw [List.length_map] at this
    rw [List.length_nil] at this; omega
  · refine ⟨b, off, cap, by rw [hv, List.length_map], fun j hj => ?_⟩
    have := hc j (by rw [List.length_map]; exact hj)
    rw [List.getElem_map] at this; exact this
theorem tok_size {ts : List ByteArray} {L : List (List UInt8)} (h : toksO ts = some L) (hs : sizes ts ≤ 900000) : ∀ j (hj : j < L.length), (ba L[j]).size ≤ 1000000 := fun j hj => by
  obtain ⟨p, hp, hle⟩ := tokO_size h (List.getElem_mem hj)
  have := partsO_size hp
  have e : (ba L[j]).size = L[j].length := rfl
  omega

set_option maxRecDepth 10000 in
set_option maxHeartbeats 1000000 in
theorem length_w {w : World} {p : Nat} {el : Bool} {fp : Value} {k l : Int} {c x : Bool} {S : List FV} {B : Nat} (hr : WkA w p el fp k l c x) (hf : FP 93 B w fp S) (hs : Lite S) :
    Calls Tryz.prog 160 #[ptr p] w (Step w p (lenS (valsF S nCL)).2 el fp 1 (lenS (valsF S nCL)).1 c x) := by
  have c1 : w.cell? ⟨p, 1, none⟩ = some fp := hr.cell 1
  have HS := Lib.hid (hs.vals nCL)
  have HR := Lib.hid hr
  have HV := Lib.hid (vals_p nCL w hf (by decide))
  obtain ⟨A, rfl⟩ := hf.form
  clear hr hf hs
  unfold ptr
  generalize valsF S nCL = cl at *
  cases hT : toksO cl with
  | none =>
    have HC := Lib.hid (len_toks hT)
    have HT := Lib.hid (fun v w h => tok_n hT v w h HS.out)
    clear hT
    go_enter Tryz.func160, Tryz.ntmps160
    go_wp2_with (first
      | (go_at_call 156; refine HV.out.mono ?_; rintro e w2 ⟨u, rfl, hA, hm⟩; have HA := Lib.hid hA; have HM2 := Lib.hid hm; clear hA hm)
      | (go_at_call 161; refine (HT.out _ _ HA.out).mono ?_; rintro e w3 ⟨rfl, hm⟩; have HM3 := Lib.hid (HM2.out.trans hm (fun _ h => nomatch h)); clear hm))
    go_ret
    exact ⟨by rw [HC.out]; rfl, fun h => absurd ((congrArg Prod.snd HC.out).symm.trans h) (by decide), HM3.out.more (by simp)⟩
  | some L =>
    have hlen := Nat.le_trans (toksO_len hT) HS.out
    have HT := Lib.hid (fun v w h => tok_y hT v w h HS.out)
    by_cases hn : L = []
    · subst hn
      have HC := Lib.hid (lenv_nil hT)
      clear hT hlen
      go_enter Tryz.func160, Tryz.ntmps160
      go_wp2_with (first
        | (go_at_call 156; refine HV.out.mono ?_; rintro e w2 ⟨u, rfl, hA, hm⟩; have HA := Lib.hid hA; have HM2 := Lib.hid hm; clear hA hm)
        | (go_at_call 161; refine (HT.out _ _ HA.out).mono ?_; rintro e w3 ⟨u2, rfl, hA2, hm⟩; obtain ⟨a, cap, rfl⟩ := strs_nil hA2; have HM3 := Lib.hid (HM2.out.trans hm (fun _ h => nomatch h)); clear hm hA2))
      go_ret
      exact ⟨by rw [HC.out]; rfl, fun h => absurd ((congrArg Prod.snd HC.out).symm.trans h) (by decide), HM3.out.more (by simp)⟩
    · have h0 : 0 < L.length := List.length_pos_iff.2 hn
      have HSZ := tok_size hT HS.out
      obtain ⟨hbad, hbig, hok⟩ := len_facts hT h0
      have HN := Lib.hid (fun W v (h : StrsAt W v (L.map ba)) => strs_at h h0)
      have HNU := Lib.hid (fun w j (hj : j < L.length) => num_A (ba L[j]) w (HSZ j hj))
      unfold NumIs at HNU
      have HBAD := Lib.hid hbad
      have HBIG := Lib.hid hbig
      have HOK := Lib.hid hok
      obtain ⟨f, hf⟩ : ∃ f, f = numF L[0] := ⟨_, rfl⟩
      have HF := Lib.hid (show (numB 10 15 L[0]).1 = f from hf.symm)
      rw [← hf] at HBAD HBIG HOK
      clear hT hn hbad hbig hok HSZ hf
      have hn0 := fun w => HNU.out w 0 h0
      rw [show (ba L[0]).data.toList = L[0] from rfl, HF.out] at hn0
      generalize (numB 10 15 L[0]).2 = ok0 at hn0
      have HN0 := Lib.hid hn0
      clear hn0
      have hne : decide ((L.length : Int) = 0) = false := decide_eq_false (by omega)
      go_enter Tryz.func160, Tryz.ntmps160
      go_wp2_with (first
        | (go_at_call 156; refine HV.out.mono ?_; rintro e w2 ⟨u, rfl, hA, hm⟩; have HA := Lib.hid hA; have HM2 := Lib.hid hm; clear hA hm)
        | (go_at_call 161; refine (HT.out _ _ HA.out).mono ?_; rintro e w3 ⟨u2, rfl, hA2, hm⟩; obtain ⟨b, off, cap, rfl, hc⟩ := HN.out _ _ hA2; have HM3 := Lib.hid (HM2.out.trans hm (fun _ h => nomatch h)); have d0 : w3.cell? ⟨b, off, none⟩ = some (.string (ba L[0])) := hc 0 h0; have HC := Lib.hid hc; clear hm hA2 hc)
        | (go_at_call 192; refine (HN0.out _).mono ?_; rintro e w4 ⟨rfl, rfl⟩))
      go_loopw [36] (fun i wr => ∃ k : Nat, k ≤ L.length ∧ i = .int .i64 k ∧ Mods [] w wr ∧ (∀ j (h : j < L.length), wr.cell? ⟨b, off + j, none⟩ = some (.string (ba L[j]))) ∧ ∀ j (hj : j < L.length), j < k → goodF f L[j] = true) (fun i _ => L.length - (intOf i).toNat)
      case atStart => exact ⟨0, Nat.zero_le _, rfl, HM3.out, HC.out, fun j _ h => absurd h (Nat.not_lt_zero _)⟩
      case round =>
        obtain ⟨k1, hk, rfl, hm, hc, hgood⟩ := hrel
        have HM := Lib.hid hm
        have HCW := Lib.hid hc
        have HG := Lib.hid hgood
        clear hm hc hgood
        by_cases hlt : k1 < L.length
        · have ck := HCW.out k1 hlt
          have hnu := fun w => HNU.out w k1 hlt
          have hgq : goodF f L[k1] = ((numB 10 15 L[k1]).2 && (numB 10 15 L[k1]).1 == f) := rfl
          have HBK := Lib.hid (HBAD.out k1 hlt)
          have HGK := Lib.hid (fun (h : goodF f L[k1] = true) => show ∀ j (hj : j < L.length), j < k1 + 1 → goodF f L[j] = true from fun j hj hjk => by
            by_cases e : j = k1
            · subst e; exact h
            · exact HG.out j hj (by omega))
          rw [show (ba L[k1]).data.toList = L[k1] from rfl] at hnu
          obtain ⟨xs, hxs⟩ : ∃ xs, xs = ba L[k1] := ⟨_, rfl⟩
          obtain ⟨q, hq⟩ : ∃ q, q = numB 10 15 L[k1] := ⟨_, rfl⟩
          rw [← hxs] at ck hnu
          rw [← hq] at hnu hgq
          have HNK := Lib.hid hnu
          clear hxs hq hnu
          obtain ⟨n, ok⟩ := q
          simp only at hgq HNK
          cases ok with
          | false =>
            have HB := Lib.hid (HBK.out (by rw [hgq]; rfl))
            clear hgq
            go_wp2_with (go_at_call 192; refine (HNK.out _).mono ?_; rintro e w5 ⟨rfl, rfl⟩)
            go_ret
            exact ⟨by rw [HB.out]; rfl, fun h => absurd ((congrArg Prod.snd HB.out).symm.trans h) (by decide), HM.out.more (by simp)⟩
          | true =>
            by_cases hnf : n = f
            · have HGN := Lib.hid (HGK.out (by rw [hgq]; simp [hnf]))
              have hno : (n != f) = false := by simp [hnf]
              clear hgq hnf
              go_wp2_with (go_at_call 192; refine (HNK.out _).mono ?_; rintro e w5 ⟨rfl, rfl⟩)
              go_roundw
              case rel => exact ⟨k1 + 1, by omega, by go_num, HM.out, HCW.out, HGN.out⟩
              case measure => simp [intOf]; omega
            · have HB := Lib.hid (HBK.out (by rw [hgq]; simpa using hnf))
              have hno : (n != f) = true := by simpa using hnf
              clear hgq hnf
              go_wp2_with (go_at_call 192; refine (HNK.out _).mono ?_; rintro e w5 ⟨rfl, rfl⟩)
              go_ret
              exact ⟨by rw [HB.out]; rfl, fun h => absurd ((congrArg Prod.snd HB.out).symm.trans h) (by decide), HM.out.more (by simp)⟩
        · have hall := fun j (hj : j < L.length) => HG.out j hj (by omega)
          have e2 : wr.cell? ⟨p, 2, none⟩ = some (.int .i64 k) := (HR.out.mods HM.out (by simp)).cell 2
          have g2 : wr.frozen? ⟨p, 2, none⟩ = false := (HR.out.mods HM.out (by simp)).free 2
          have e3 : wr.cell? ⟨p, 3, none⟩ = some (.int .i64 l) := (HR.out.mods HM.out (by simp)).cell 3
          have g3 : wr.frozen? ⟨p, 3, none⟩ = false := (HR.out.mods HM.out (by simp)).free 3
          by_cases hb : 2048 < f
          · have HB := Lib.hid (HBIG.out hall hb)
            clear hall
            go_wp2
            go_ret
            exact ⟨by rw [HB.out]; rfl, fun h => absurd ((congrArg Prod.snd HB.out).symm.trans h) (by decide), HM.out.more (by simp)⟩
          · have HB := Lib.hid (HOK.out hall (by omega))
            clear hall
            go_wp2
            go_ret
            exact ⟨by rw [HB.out]; rfl, fun _ => by rw [HB.out]; exact ((HR.out.mods HM.out (by simp)).set 2 _).set 3 _, ((HM.out.more (by simp)).setCell (.inl (by simp)) _).setCell (.inl (by simp)) _⟩

/-! Body: by a coding, a length, none. -/
theorem body_te {m : Int} {S : List FV} (h : valsF S nTE ≠ []) : bodyS m S = (2, 0, codS m (valsF S nCL) (valsF S nTE)) := by unfold bodyS; rw [if_pos h]
theorem body_cl {m : Int} {S : List FV} (h : valsF S nTE = []) (h2 : valsF S nCL ≠ []) : bodyS m S = (1, (lenS (valsF S nCL)).1, (lenS (valsF S nCL)).2) := by unfold bodyS; rw [if_neg (by simpa using h), if_pos h2]
theorem body_no {m : Int} {S : List FV} (h : valsF S nTE = []) (h2 : valsF S nCL = []) : bodyS m S = (0, 0, 0) := by unfold bodyS; rw [if_neg (by simpa using h), if_neg (by simpa using h2)]
set_option maxRecDepth 10000 in
theorem body_w {w : World} {p : Nat} {el : Bool} {fp : Value} {k : Int} {c x : Bool} {S : List FV} {B : Nat} (hr : WkA w p el fp k 0 c x) (hf : FP 93 B w fp S) (hs : Lite S) :
    Calls Tryz.prog 135 #[ptr p] w (Step w p (bodyS (minOf el) S).2.2 el fp (bodyS (minOf el) S).1 (bodyS (minOf el) S).2.1 c x) := by
  have c1 : w.cell? ⟨p, 1, none⟩ = some fp := hr.cell 1
  have HR := Lib.hid hr
  have HT := Lib.hid (has_p nTE w hf (by decide))
  have HL := Lib.hid (fun w' (hm : Mods [] w w') => has_p nCL w' (hf.low hm) (by decide))
  have HCW := Lib.hid (fun w' (hm : Mods [] w w') => coding_w (hr.mods hm (by simp)) (hf.low hm) hs)
  have HLW := Lib.hid (fun w' (hm : Mods [] w w') => length_w (hr.mods hm (by simp)) (hf.low hm) hs)
  obtain ⟨A, rfl⟩ := hf.form
  clear hr hf hs
  unfold ptr at *
  by_cases hte : valsF S nTE = []
  · rw [show decide (valsF S nTE ≠ []) = false from decide_eq_false (by simpa using hte)] at HT
    by_cases hcl : valsF S nCL = []
    · rw [show decide (valsF S nCL ≠ []) = false from decide_eq_false (by simpa using hcl)] at HL
      have HB := Lib.hid (body_no (m := minOf el) hte hcl)
      clear hte hcl HCW HLW
      go_enter Tryz.func135, Tryz.ntmps135
      go_wp2_with (first
        | (go_at_call 158; (with_reducible show Calls _ _ #[_, .string ⟨#[84, 114, 97, 110, 115, 102, 101, 114, 45, 69, 110, 99, 111, 100, 105, 110, 103]⟩] _ _); refine HT.out.mono ?_; rintro e w1 ⟨rfl, hm⟩; have d1 := cell_mods c1 hm (by simp); have HM1 := Lib.hid hm; clear hm)
        | (go_at_call 158; refine (HL.out _ HM1.out).mono ?_; rintro e w2 ⟨rfl, hm⟩; have HM2 := Lib.hid (HM1.out.trans hm (fun _ h => nomatch h)); have e2 : w2.cell? ⟨p, 2, none⟩ = some (.int .i64 k) := (HR.out.mods HM2.out (by simp)).cell 2; have g2 : w2.frozen? ⟨p, 2, none⟩ = false := (HR.out.mods HM2.out (by simp)).free 2; clear hm))
      go_ret
      rw [HB.out]
      exact ⟨rfl, fun _ => (HR.out.mods HM2.out (by simp)).set 2 _, (HM2.out.more (by simp)).setCell (.inl (by simp)) _⟩
    · rw [show decide (valsF S nCL ≠ []) = true from decide_eq_true hcl] at HL
      have HB := Lib.hid (body_cl (m := minOf el) hte hcl)
      clear hte hcl HCW
      go_enter Tryz.func135, Tryz.ntmps135
      go_wp2_with (first
        | (go_at_call 158; (with_reducible show Calls _ _ #[_, .string ⟨#[84, 114, 97, 110, 115, 102, 101, 114, 45, 69, 110, 99, 111, 100, 105, 110, 103]⟩] _ _); refine HT.out.mono ?_; rintro e w1 ⟨rfl, hm⟩; have d1 := cell_mods c1 hm (by simp); have HM1 := Lib.hid hm; clear hm)
        | (go_at_call 158; refine (HL.out _ HM1.out).mono ?_; rintro e w2 ⟨rfl, hm⟩; have HM2 := Lib.hid (HM1.out.trans hm (fun _ h => nomatch h)); clear hm)
        | (go_at_call 160; refine (HLW.out _ HM2.out).mono ?_; rintro e w3 ⟨rfl, hs, hm⟩; have HS3 := Lib.hid hs; have HM3 := Lib.hid ((HM2.out.more (F2 := [p]) (by simp)).trans hm (fun _ h => .inl h)); clear hm hs))
      go_ret
      rw [HB.out]
      exact ⟨rfl, HS3.out, HM3.out⟩
  · rw [show decide (valsF S nTE ≠ []) = true from decide_eq_true hte] at HT
    have HB := Lib.hid (body_te (m := minOf el) hte)
    clear hte HL HLW
    go_enter Tryz.func135, Tryz.ntmps135
    go_wp2_with (first
      | (go_at_call 158; refine HT.out.mono ?_; rintro e w1 ⟨rfl, hm⟩; have HM1 := Lib.hid hm; clear hm)
      | (go_at_call 159; refine (HCW.out _ HM1.out).mono ?_; rintro e w3 ⟨rfl, hs, hm⟩; have HS3 := Lib.hid hs; have HM3 := Lib.hid ((HM1.out.more (F2 := [p]) (by simp)).trans hm (fun _ h => .inl h)); clear hm hs))
    go_ret
    rw [HB.out]
    exact ⟨rfl, HS3.out, HM3.out⟩
end Go.Proofs.YtgkhelbpccehcaaGreatDoor

/- The steps of the code's walk through a head: connection, expect; and Of: how a request goes on, or the status by which it is refused. Conditions: names of at most a million bytes, values of at most 900000 bytes in all. -/
namespace Go.Proofs.YtgkhelbpccehcaaGreatDoor
open Go.RowKit
set_option linter.unusedVariables false
set_option linter.unusedSimpArgs false

def clB : ByteArray := ⟨#[99, 108, 111, 115, 101]⟩
def kpB : ByteArray := ⟨#[107, 101, 101, 112, 45, 97, 108, 105, 118, 101]⟩
theorem has_close {con : List ByteArray} {L : List (List UInt8)} (h : toksO con = some L) : hasL closeL con = Lib.containsS (L.map ba) clB := by
  unfold hasL; rw [h, show clB = ba closeL from rfl, has_contains, show lowL closeL = closeL by decide +kernel]
theorem has_keep {con : List ByteArray} {L : List (List UInt8)} (h : toksO con = some L) : hasL keepL con = Lib.containsS (L.map ba) kpB := by
  unfold hasL; rw [h, show kpB = ba keepL from rfl, has_contains, show lowL keepL = keepL by decide +kernel]
/-- The status of Connection. -/
def conS (con : List ByteArray) : Int := if toksO con = none then 400 else 0
set_option maxRecDepth 10000 in
set_option maxHeartbeats 1000000 in
theorem connection_w {w : World} {p : Nat} {el : Bool} {fp : Value} {k l : Int} {c x : Bool} {S : List FV} {B : Nat} (hr : WkA w p el fp k l c x) (hf : FP 93 B w fp S) (hs : Lite S) :
    Calls Tryz.prog 136 #[ptr p] w (Step w p (conS (valsF S nCon)) el fp k l (closeS (minOf el) (valsF S nCon)) x) := by
  have c1 : w.cell? ⟨p, 1, none⟩ = some fp := hr.cell 1
  have HS := Lib.hid (hs.vals nCon)
  have HR := Lib.hid hr
  have HV := Lib.hid (vals_p nCon w hf (by decide))
  obtain ⟨A, rfl⟩ := hf.form
  clear hr hf hs
  unfold ptr
  generalize valsF S nCon = con at *
  cases hT : toksO con with
  | none =>
    have HC := Lib.hid (show conS con = 400 by unfold conS; rw [if_pos hT])
    have HT := Lib.hid (fun v w h => tok_n hT v w h HS.out)
    clear hT
    go_enter Tryz.func136, Tryz.ntmps136
    go_wp2_with (first
      | (go_at_call 156; refine HV.out.mono ?_; rintro e w2 ⟨u, rfl, hA, hm⟩; have HA := Lib.hid hA; have HM2 := Lib.hid hm; clear hA hm)
      | (go_at_call 161; refine (HT.out _ _ HA.out).mono ?_; rintro e w3 ⟨rfl, hm⟩; have HM3 := Lib.hid (HM2.out.trans hm (fun _ h => nomatch h)); clear hm))
    go_ret
    exact ⟨by rw [HC.out]; rfl, fun h => absurd (HC.out.symm.trans h) (by decide), HM3.out.more (by simp)⟩
  | some L =>
    have hlen := Nat.le_trans (toksO_len hT) HS.out
    have HT := Lib.hid (fun v w h => tok_y hT v w h HS.out)
    have HC := Lib.hid (show conS con = 0 by unfold conS; rw [if_neg (by rw [hT]; simp)])
    have hcc : closeS (minOf el) con = (Lib.containsS (L.map ba) clB || (decide (minOf el = 0) && !Lib.containsS (L.map ba) kpB)) := by unfold closeS; rw [has_close hT, has_keep hT]
    have H1 := Lib.hid (fun v w h => contains_any (L.map ba) v clB w h (by rw [List.length_map]; omega))
    have H2 := Lib.hid (fun v w h => contains_any (L.map ba) v kpB w h (by rw [List.length_map]; omega))
    generalize Lib.containsS (L.map ba) clB = bc at *
    generalize Lib.containsS (L.map ba) kpB = bk at *
    have HCC := Lib.hid hcc
    have HN := Lib.hid (fun W v (h : StrsAt W v (L.map ba)) => strs_map h)
    clear hT hcc hlen
    cases bc <;> cases el <;> cases bk
    all_goals
      go_enter Tryz.func136, Tryz.ntmps136
      go_wp2_with (first
        | (go_at_call 156; refine HV.out.mono ?_; rintro e w2 ⟨u, rfl, hA, hm⟩; have HA := Lib.hid hA; have HM2 := Lib.hid hm; clear hA hm)
        | (go_at_call 161; refine (HT.out _ _ HA.out).mono ?_; rintro e w3 ⟨u2, rfl, hA2, hm⟩; have HA2 := Lib.hid hA2; have HM3 := Lib.hid (HM2.out.trans hm (fun _ h => nomatch h)); obtain ⟨a, cap, rfl⟩ := HN.out _ _ hA2; have d0 := (HR.out.mods HM3.out (by simp)).cell 0; have d4 := (HR.out.mods HM3.out (by simp)).cell 4; have g4 := (HR.out.mods HM3.out (by simp)).free 4; simp only [List.getElem?_toArray, List.getElem?_cons_zero, List.getElem?_cons_succ] at d0 d4; clear hm hA2)
        | (go_at_call 162; (with_reducible show Calls _ _ #[_, .string ⟨#[99, 108, 111, 115, 101]⟩] _ _); refine (H1.out _ _ HA2.out).mono ?_; rintro e w4 ⟨rfl, rfl⟩)
        | (go_at_call 162; (with_reducible show Calls _ _ #[_, .string ⟨#[107, 101, 101, 112, 45, 97, 108, 105, 118, 101]⟩] _ _); refine (H2.out _ _ HA2.out).mono ?_; rintro e w5 ⟨rfl, rfl⟩))
      go_ret
      exact ⟨by rw [HC.out]; rfl, fun _ => by rw [HCC.out]; exact (HR.out.mods HM3.out (by simp)).set 4 _, (HM3.out.more (by simp)).setCell (.inl (by simp)) _⟩

/-- The status of Expect, and whether somebody waits. -/
def expS (m : Int) (S : List FV) : Int := if m = 1 ∧ valsF S nExp ≠ [] ∧ sameL (getF S nExp) contB = false then 417 else 0
def expX (m k l : Int) (S : List FV) : Bool := decide (m = 1 ∧ valsF S nExp ≠ []) && (k == 2 || decide (0 < l))
theorem getF_size {S : List FV} (hl : S.length ≤ 24) (hs : Small S) (n : ByteArray) : (getF S n).size ≤ 24000048 := by
  have h := join_bound _ (valsF_small hs n)
  have h2 := valsF_len S n
  have h3 : (getF S n).size = (getL S n).length := rfl
  have h4 := Nat.mul_le_mul_right 1000002 (show (valsF S n).length ≤ 24 by omega)
  unfold getL at h3
  omega
theorem FP.same {t : TypeId} {B : Nat} {w : World} {fp : Value} {S : List FV} (h : FP t B w fp S) : S.length ≤ 24 ∧ Small S := by
  rcases h with ⟨_, rfl⟩ | ⟨g, v, _, hf, _⟩
  · exact ⟨by simp, fun _ h => nomatch h⟩
  · exact ⟨hf.len, hf.small⟩
set_option maxRecDepth 10000 in
set_option maxHeartbeats 1000000 in
theorem expect_w {w : World} {p : Nat} {el : Bool} {fp : Value} {k l : Int} {c : Bool} {S : List FV} {B : Nat} (hr : WkA w p el fp k l c false) (hf : FP 93 B w fp S) (hs : Lite S) :
    Calls Tryz.prog 137 #[ptr p] w (Step w p (expS (minOf el) S) el fp k l c (expX (minOf el) k l S)) := by
  have c0 : w.cell? ⟨p, 0, none⟩ = some (.bool el) := hr.cell 0
  have c1 : w.cell? ⟨p, 1, none⟩ = some fp := hr.cell 1
  have HR := Lib.hid hr
  have HH := Lib.hid (has_p nExp w hf (by decide))
  cases el with
  | true =>
    have HC := Lib.hid (show expS (minOf true) S = 0 by unfold expS minOf; simp)
    have HX := Lib.hid (show expX (minOf true) k l S = false by unfold expX minOf; simp)
    obtain ⟨A, rfl⟩ := hf.form
    clear hr hf hs
    unfold ptr
    go_enter Tryz.func137, Tryz.ntmps137
    go_wp2
    go_ret
    exact ⟨by rw [HC.out]; rfl, fun _ => by rw [HX.out]; exact HR.out, Mods.refl _ _⟩
  | false =>
    by_cases hv : valsF S nExp = []
    · rw [show decide (valsF S nExp ≠ []) = false from decide_eq_false (by simpa using hv)] at HH
      have HC := Lib.hid (show expS (minOf false) S = 0 by unfold expS; rw [hv]; simp)
      have HX := Lib.hid (show expX (minOf false) k l S = false by unfold expX; rw [hv]; simp)
      obtain ⟨A, rfl⟩ := hf.form
      clear hr hf hs hv
      unfold ptr
      go_enter Tryz.func137, Tryz.ntmps137
      go_wp2_with (go_at_call 158; refine HH.out.mono ?_; rintro e w1 ⟨rfl, hm⟩; have HM1 := Lib.hid hm; clear hm)
      go_ret
      exact ⟨by rw [HC.out]; rfl, fun _ => by rw [HX.out]; exact HR.out.mods HM1.out (by simp), HM1.out.more (by simp)⟩
    · rw [show decide (valsF S nExp ≠ []) = true from decide_eq_true hv] at HH
      have hgs := getF_size hf.same.1 hf.same.2 nExp
      have HG := Lib.hid (fun w' (hm : Mods [] w w') => get_p nExp w' (hf.low hm) (by decide) hv)
      have HSM := Lib.hid (fun w => same_a (getF S nExp) contB w (by unfold maxLen; omega) (by decide))
      have HX := Lib.hid (show expX (minOf false) k l S = (k == 2 || decide (0 < l)) by unfold expX; rw [decide_eq_true ⟨rfl, hv⟩]; rfl)
      have hce : expS (minOf false) S = if sameL (getF S nExp) contB = false then 417 else 0 := by
        unfold expS
        by_cases h : sameL (getF S nExp) contB = false
        · rw [if_pos ⟨rfl, hv, h⟩, if_pos h]
        · rw [if_neg (fun h2 => h h2.2.2), if_neg h]
      obtain ⟨A, rfl⟩ := hf.form
      generalize getF S nExp = gx at *
      generalize sameL gx contB = bs at *
      clear hr hf hs hv
      unfold ptr
      cases bs with
      | false =>
        have HC := Lib.hid (show expS (minOf false) S = 417 by rw [hce]; rfl)
        clear hce
        go_enter Tryz.func137, Tryz.ntmps137
        go_wp2_with (first
          | (go_at_call 158; refine HH.out.mono ?_; rintro e w1 ⟨rfl, hm⟩; have HM1 := Lib.hid hm; have d1 := cell_mods c1 hm (by simp); clear hm)
          | (go_at_call 163; refine (HG.out _ HM1.out).mono ?_; rintro e w2 ⟨rfl, hm⟩; have HM2 := Lib.hid (HM1.out.trans hm (fun _ h => nomatch h)); clear hm)
          | (go_at_call 154; refine (HSM.out _).mono ?_; rintro e w3 ⟨rfl, nn, hd⟩; have HM3 := Lib.hid (show Mods [] w w3 by rw [hd]; exact HM2.out.drewN nn); clear hd))
        go_ret
        exact ⟨by rw [HC.out]; rfl, fun h => absurd (HC.out.symm.trans h) (by decide), HM3.out.more (by simp)⟩
      | true =>
        have HC := Lib.hid (show expS (minOf false) S = 0 by rw [hce]; rfl)
        clear hce
        by_cases hk : k = 2
        · subst hk
          go_enter Tryz.func137, Tryz.ntmps137
          go_wp2_with (first
            | (go_at_call 158; refine HH.out.mono ?_; rintro e w1 ⟨rfl, hm⟩; have HM1 := Lib.hid hm; have d1 := cell_mods c1 hm (by simp); clear hm)
            | (go_at_call 163; refine (HG.out _ HM1.out).mono ?_; rintro e w2 ⟨rfl, hm⟩; have HM2 := Lib.hid (HM1.out.trans hm (fun _ h => nomatch h)); clear hm)
            | (go_at_call 154; refine (HSM.out _).mono ?_; rintro e w3 ⟨rfl, nn, hd⟩; have HM3 := Lib.hid (show Mods [] w w3 by rw [hd]; exact HM2.out.drewN nn); have d2 : w3.cell? ⟨p, 2, none⟩ = some (.int .i64 2) := (HR.out.mods HM3.out (by simp)).cell 2; have d5 : w3.cell? ⟨p, 5, none⟩ = some (.bool false) := (HR.out.mods HM3.out (by simp)).cell 5; have g5 : w3.frozen? ⟨p, 5, none⟩ = false := (HR.out.mods HM3.out (by simp)).free 5; clear hd))
          go_ret
          exact ⟨by rw [HC.out]; rfl, fun _ => by rw [HX.out]; exact (HR.out.mods HM3.out (by simp)).set 5 _, (HM3.out.more (by simp)).setCell (.inl (by simp)) _⟩
        · have hk1 : (k == 2) = false := by simpa using hk
          clear hk
          rw [hk1, Bool.false_or] at HX
          go_enter Tryz.func137, Tryz.ntmps137
          go_wp2_with (first
            | (go_at_call 158; refine HH.out.mono ?_; rintro e w1 ⟨rfl, hm⟩; have HM1 := Lib.hid hm; have d1 := cell_mods c1 hm (by simp); clear hm)
            | (go_at_call 163; refine (HG.out _ HM1.out).mono ?_; rintro e w2 ⟨rfl, hm⟩; have HM2 := Lib.hid (HM1.out.trans hm (fun _ h => nomatch h)); clear hm)
            | (go_at_call 154; refine (HSM.out _).mono ?_; rintro e w3 ⟨rfl, nn, hd⟩; have HM3 := Lib.hid (show Mods [] w w3 by rw [hd]; exact HM2.out.drewN nn); have d2 : w3.cell? ⟨p, 2, none⟩ = some (.int .i64 k) := (HR.out.mods HM3.out (by simp)).cell 2; have d3 : w3.cell? ⟨p, 3, none⟩ = some (.int .i64 l) := (HR.out.mods HM3.out (by simp)).cell 3; have d5 : w3.cell? ⟨p, 5, none⟩ = some (.bool false) := (HR.out.mods HM3.out (by simp)).cell 5; have g5 : w3.frozen? ⟨p, 5, none⟩ = false := (HR.out.mods HM3.out (by simp)).free 5; clear hd))
          go_ret
          exact ⟨by rw [HC.out]; rfl, fun _ => by rw [HX.out]; exact (HR.out.mods HM3.out (by simp)).set 5 _, (HM3.out.more (by simp)).setCell (.inl (by simp)) _⟩
end Go.Proofs.YtgkhelbpccehcaaGreatDoor

/- The end of a function that answers how a request goes on. Conditions: none. -/
namespace Go.Proofs.YtgkhelbpccehcaaGreatDoor
open Go.RowKit
set_option linter.unusedVariables false
set_option linter.unusedSimpArgs false

def HowP.cells (h : HowP) : Array Value := #[.int .i64 h.kind, .int .i64 h.length, .bool h.close, .bool h.expect]
def howV (h : HowP) : Value := .agg #[.int .i64 h.kind, .int .i64 h.length, .bool h.close, .bool h.expect]
def HAns (w : World) (rr : HowP × Int) (e : Ending) (w' : World) : Prop := e = .returned (.tuple #[howV rr.1, .int .i64 rr.2]) ∧ Mods [] w w'
theorem ret_how {fn : Func} {a : Act} {W : World} {R : Ending → World → Prop} {r : Nat} {h : HowP} {t : TypeId} {q q2 : Tmp} {v : Value} (hres : fn.results = #[.cell q t, .tmp q2])
    (hrow : Row W r t h.cells) (ha : (isAgg t).run Tryz.prog W = .ok true W) (hs : (Go.sizeOf t).run Tryz.prog W = .ok 4 W)
    (h2 : a.tmps.getD q undef = .pointer (some ⟨r, 0, none⟩)) (h3 : a.tmps.getD q2 undef = v) (hd : a.defers = []) (hR : R (.returned (.tuple #[howV h, v])) W) : bodyPost Tryz.prog fn R .ret a W := by
  refine bodyPost_ret (v := .tuple #[howV h, v]) ?_ hd hR
  have c0 : W.cell? ⟨r, 0, none⟩ = some (.int .i64 h.kind) := hrow.cell 0
  have c1 : W.cell? ⟨r, 1, none⟩ = some (.int .i64 h.length) := hrow.cell 1
  have c2 : W.cell? ⟨r, 2, none⟩ = some (.bool h.close) := hrow.cell 2
  have c3 : W.cell? ⟨r, 3, none⟩ = some (.bool h.expect) := hrow.cell 3
  have g2 : a.tmps[q]?.getD undef = .pointer (some ⟨r, 0, none⟩) := by simpa using h2
  have g3 : a.tmps[q2]?.getD undef = v := by simpa using h3
  simp [results, hres, go_sem, g2, g3, c0, c1, c2, c3, ha, hs, howV]
def setH (w : World) (n : Nat) (h : HowP) : World := (((w.setCell ⟨n, 0, none⟩ (.int .i64 h.kind)).setCell ⟨n, 1, none⟩ (.int .i64 h.length)).setCell ⟨n, 2, none⟩ (.bool h.close)).setCell ⟨n, 3, none⟩ (.bool h.expect)
theorem Row.putH {w : World} {n : Nat} {t : TypeId} {h0 : HowP} (h : Row w n t h0.cells) (x : HowP) : Row (setH w n x) n t x.cells := (((h.set 0 _).set 1 _).set 2 _).set 3 _
theorem Mods.putH {F : List Nat} {a w : World} (h : Mods F a w) {n : Nat} (hn : n ∈ F ∨ a.heap.size ≤ n) (x : HowP) : Mods F a (setH w n x) :=
  (((h.setCell (p := ⟨n, 0, none⟩) hn _).setCell (p := ⟨n, 1, none⟩) hn _).setCell (p := ⟨n, 2, none⟩) hn _).setCell (p := ⟨n, 3, none⟩) hn _
/-- The end of a function that has stored its result. -/
theorem end_H {fn : Func} {a : Act} {w W : World} {rr : HowP × Int} {r : Nat} {t : TypeId} {h0 : HowP} {k l : Int} {c x : Bool} {q q2 : Tmp} {n : Int} (hres : fn.results = #[.cell q t, .tmp q2])
    (hrow : Row W r t h0.cells) (ha : ∀ W, (isAgg t).run Tryz.prog W = .ok true W) (hs : ∀ W, (Go.sizeOf t).run Tryz.prog W = .ok 4 W)
    (h2 : a.tmps.getD q undef = .pointer (some ⟨r, 0, none⟩)) (h3 : a.tmps.getD q2 undef = .int .i64 n) (hd : a.defers = [])
    (hX : rr = (⟨k, l, c, x⟩, n)) (hM : Mods [] w W) (hn : w.heap.size ≤ r) :
    bodyPost Tryz.prog fn (HAns w rr) .ret a ((((W.setCell ⟨r, 0, none⟩ (.int .i64 k)).setCell ⟨r, 1, none⟩ (.int .i64 l)).setCell ⟨r, 2, none⟩ (.bool c)).setCell ⟨r, 3, none⟩ (.bool x)) := by
  have hR := hrow.putH ⟨k, l, c, x⟩
  have hM2 := hM.putH (.inr hn) ⟨k, l, c, x⟩
  change bodyPost Tryz.prog fn (HAns w rr) .ret a (setH W r ⟨k, l, c, x⟩)
  generalize setH W r ⟨k, l, c, x⟩ = w6 at hR hM2 ⊢
  exact ret_how (h := ⟨k, l, c, x⟩) hres hR (ha _) (hs _) h2 h3 hd ⟨by rw [hX], hM2⟩
/-- What a walk asks of the block. -/
theorem Row.factsH {w : World} {n : Nat} {t : TypeId} {h : HowP} (hr : Row w n t h.cells) :
    w.cell? ⟨n, 0, none⟩ = some (.int .i64 h.kind) ∧ w.cell? ⟨n, 1, none⟩ = some (.int .i64 h.length) ∧ w.cell? ⟨n, 2, none⟩ = some (.bool h.close) ∧ w.cell? ⟨n, 3, none⟩ = some (.bool h.expect) ∧
    w.frozen? ⟨n, 0, none⟩ = false ∧ w.frozen? ⟨n, 1, none⟩ = false ∧ w.frozen? ⟨n, 2, none⟩ = false ∧ w.frozen? ⟨n, 3, none⟩ = false :=
  ⟨hr.cell 0, hr.cell 1, hr.cell 2, hr.cell 3, hr.free 0, hr.free 1, hr.free 2, hr.free 3⟩
end Go.Proofs.YtgkhelbpccehcaaGreatDoor

/- The code's Of: how a request goes on, or the status by which it is refused. Conditions: names of at most a million bytes, values of at most 900000 bytes in all. -/
namespace Go.Proofs.YtgkhelbpccehcaaGreatDoor
open Go.RowKit
set_option linter.unusedVariables false
set_option linter.unusedSimpArgs false

theorem frm_end {m : Int} {S : List FV} (h : hostOk m (valsF S nHost) = true) (h2 : (bodyS m S).2.2 = 0) (h3 : toksO (valsF S nCon) ≠ none) (h4 : expS m S = 0) :
    frmN m S = (⟨(bodyS m S).1, (bodyS m S).2.1, closeS m (valsF S nCon), expX m (bodyS m S).1 (bodyS m S).2.1 S⟩, 0) := by
  unfold expX
  by_cases hx : m = 1 ∧ valsF S nExp ≠ []
  · have hs : sameL (getF S nExp) contB = true := by
      cases hs : sameL (getF S nExp) contB with
      | true => rfl
      | false => unfold expS at h4; rw [if_pos ⟨hx.1, hx.2, hs⟩] at h4; cases h4
    rw [frm_exp h h2 h3 hx hs, decide_eq_true hx, Bool.true_and]
    congr 3
    rw [Bool.eq_iff_iff]; simp
  · rw [frm_plain h h2 h3 hx, decide_eq_false hx]; rfl
theorem frm_exp417 {m : Int} {S : List FV} (h : hostOk m (valsF S nHost) = true) (h2 : (bodyS m S).2.2 = 0) (h3 : toksO (valsF S nCon) ≠ none) (h4 : expS m S ≠ 0) : frmN m S = (noH, 417) ∧ expS m S = 417 := by
  by_cases hx : m = 1 ∧ valsF S nExp ≠ [] ∧ sameL (getF S nExp) contB = false
  · exact ⟨frm_417 h h2 h3 ⟨hx.1, hx.2.1⟩ hx.2.2, by unfold expS; rw [if_pos hx]⟩
  · exact absurd (by unfold expS; rw [if_neg hx]) h4

abbrev fnsA : Array Value := #[.func (.func 134) #[] #[], .func (.func 135) #[] #[], .func (.func 136) #[] #[], .func (.func 137) #[] #[]]
theorem index_0 (w : World) : (Instr.index 160 (.agg fnsA) (.int .i64 0)).run Tryz.prog w = .ok (.func (.func 134) #[] #[]) w := by kernel_rfl
theorem index_1 (w : World) : (Instr.index 160 (.agg fnsA) (.int .i64 1)).run Tryz.prog w = .ok (.func (.func 135) #[] #[]) w := by kernel_rfl
theorem index_2 (w : World) : (Instr.index 160 (.agg fnsA) (.int .i64 2)).run Tryz.prog w = .ok (.func (.func 136) #[] #[]) w := by kernel_rfl
theorem index_3 (w : World) : (Instr.index 160 (.agg fnsA) (.int .i64 3)).run Tryz.prog w = .ok (.func (.func 137) #[] #[]) w := by kernel_rfl
theorem start_of {w : World} {A : Option Addr} {S : List FV} {el : Bool} (hf : FP 93 w.heap.size w (.pointer A) S) :
    ∃ W, W = (((w.alloc (.cells #[.int .i64 0, .int .i64 0, .bool false, .bool false] 65)).alloc (.cells #[.bool el, .pointer A, .int .i64 0, .int .i64 0, .bool false, .bool false] 157)).alloc (.cells fnsA 160)) ∧
      WkA W (w.heap.size + 1) el (.pointer A) 0 0 false false ∧ Row W w.heap.size 65 noH.cells ∧ Mods [] w W ∧ FP 93 w.heap.size W (.pointer A) S := by
  have hm := (((Mods.refl [] w).alloc (.cells #[.int .i64 0, .int .i64 0, .bool false, .bool false] 65)).alloc (.cells #[.bool el, .pointer A, .int .i64 0, .int .i64 0, .bool false, .bool false] 157)).alloc (.cells fnsA 160)
  refine ⟨_, rfl, ?_, ((Row.new w _ _).alloc _).alloc _, hm, hf.low hm⟩
  have h := (Row.new (w.alloc (.cells #[.int .i64 0, .int .i64 0, .bool false, .bool false] 65)) 157 #[.bool el, .pointer A, .int .i64 0, .int .i64 0, .bool false, .bool false]).alloc (.cells fnsA 160)
  rw [World.size_alloc] at h
  exact h

set_option maxRecDepth 10000 in
set_option maxHeartbeats 2000000 in
theorem of_el {m : Int} {fp : Value} {S : List FV} {w : World} (el : Bool) (hel : decide (m < 1) = el) (hf : FP 93 w.heap.size w fp S) (hs : Lite S) :
    Calls Tryz.prog 109 #[.int .i64 m, fp] w (HAns w (frmN (minOf el) S)) := by
  obtain ⟨A, rfl⟩ := hf.form
  obtain ⟨W, hW, hk, hr, hm, hfW⟩ := start_of (el := el) hf
  have HRW := Lib.hid hr
  have HM := Lib.hid hm
  have H1' := host_w hk hfW hs
  have H2' := fun (w1 : World) (h : Mods [] W w1) => body_w (hk.mods h (by simp)) (hfW.low h) hs
  have H3' := fun (w1 : World) (k l : Int) (h : WkA w1 (w.heap.size + 1) el (.pointer A) k l false false) (hm : Mods [w.heap.size + 1] W w1) => connection_w h (hfW.mods hm (by simp)) hs
  have H4' := fun (w1 : World) (k l : Int) (c : Bool) (h : WkA w1 (w.heap.size + 1) el (.pointer A) k l c false) (hm : Mods [w.heap.size + 1] W w1) => expect_w h (hfW.mods hm (by simp)) hs
  unfold ptr at H1' H2' H3' H4'
  have i0 := index_0
  have i1 := index_1
  have i2 := index_2
  have i3 := index_3
  have HR := Lib.hid (fun (w1 : World) (hm : Mods [w.heap.size + 1] W w1) => hr.mods hm (by simp))
  have HMM := Lib.hid (fun (w1 : World) (hm1 : Mods [w.heap.size + 1] W w1) => hm.trans hm1 (fun k hk => .inr (by simp at hk; omega)))
  clear hk hr hm hfW hf hs
  cases h1 : hostOk (minOf el) (valsF S nHost) with
  | false =>
    have HE := Lib.hid (frm_host h1)
    rw [show hostS (minOf el) (valsF S nHost) = 400 by unfold hostS; rw [h1]; rfl] at H1'
    have H1 := Lib.hid H1'
    clear h1 H1' H2' H3' H4' i1 i2 i3
    go_enter Tryz.func109, Tryz.ntmps109
    go_wp2_with fail
    rw [← hW]
    clear hW
    refine wp_loop_rounds 5 ?_
    rw [rounds_succ]
    go_wp2_with (go_at_call 134; refine H1.out.mono ?_; rintro e w1 ⟨rfl, hm1⟩; have M0 := Lib.hid hm1; have M1 := Lib.hid (hm1.more (F2 := [w.heap.size + 1]) (by simp)); obtain ⟨k0, k1, k2, k3, f0, f1, f2, f3⟩ := (HR.out _ M1.out).factsH; clear hm1)
    exact end_H rfl (HR.out _ M1.out) Tryz.isAgg65 Tryz.sizeOf65 rfl rfl rfl HE.out (HMM.out _ M1.out) (Nat.le_refl _)
  | true =>
    rw [show hostS (minOf el) (valsF S nHost) = 0 by unfold hostS; rw [h1]; rfl] at H1'
    have H1 := Lib.hid H1'
    clear H1'
    by_cases h2 : (bodyS (minOf el) S).2.2 = 0
    · rw [h2] at H2'
      have H2 := Lib.hid H2'
      clear H2'
      by_cases h3 : toksO (valsF S nCon) = none
      · have HE := Lib.hid (frm_con h1 h2 h3)
        rw [show conS (valsF S nCon) = 400 by unfold conS; rw [if_pos h3]] at H3'
        have H3 := Lib.hid H3'
        clear h1 h2 h3 H3' H4' i3
        go_enter Tryz.func109, Tryz.ntmps109
        go_wp2_with fail
        rw [← hW]
        clear hW
        refine wp_loop_rounds 5 ?_
        rw [rounds_succ]
        go_wp2_with (go_at_call 134; refine H1.out.mono ?_; rintro e w1 ⟨rfl, hm1⟩; have M0 := Lib.hid hm1; have M1 := Lib.hid (hm1.more (F2 := [w.heap.size + 1]) (by simp)); clear hm1)
        rw [rounds_succ]
        go_wp2_with (go_at_call 135; refine (H2.out _ M0.out).mono ?_; rintro e w2 ⟨rfl, hk2, hm2⟩; have K2 := Lib.hid (hk2 rfl); have M2 := Lib.hid (M1.out.trans hm2 (fun _ h => .inl h)); clear hm2 hk2)
        rw [rounds_succ]
        go_wp2_with (go_at_call 136; refine (H3.out _ _ _ K2.out M2.out).mono ?_; rintro e w3 ⟨rfl, hk3, hm3⟩; have M3 := Lib.hid (M2.out.trans hm3 (fun _ h => .inl h)); obtain ⟨k0, k1, k2, k3, f0, f1, f2, f3⟩ := (HR.out _ M3.out).factsH; clear hm3 hk3)
        exact end_H rfl (HR.out _ M3.out) Tryz.isAgg65 Tryz.sizeOf65 rfl rfl rfl HE.out (HMM.out _ M3.out) (Nat.le_refl _)
      · rw [show conS (valsF S nCon) = 0 by unfold conS; rw [if_neg h3]] at H3'
        have H3 := Lib.hid H3'
        clear H3'
        by_cases h4 : expS (minOf el) S = 0
        · have HE := Lib.hid (frm_end h1 h2 h3 h4)
          rw [h4] at H4'
          have H4 := Lib.hid H4'
          clear h1 h2 h3 h4 H4'
          generalize (bodyS (minOf el) S).1 = bk at *
          generalize (bodyS (minOf el) S).2.1 = bl at *
          generalize closeS (minOf el) (valsF S nCon) = bc at *
          go_enter Tryz.func109, Tryz.ntmps109
          go_wp2_with fail
          rw [← hW]
          clear hW
          refine wp_loop_rounds 5 ?_
          rw [rounds_succ]
          go_wp2_with (go_at_call 134; refine H1.out.mono ?_; rintro e w1 ⟨rfl, hm1⟩; have M0 := Lib.hid hm1; have M1 := Lib.hid (hm1.more (F2 := [w.heap.size + 1]) (by simp)); clear hm1)
          rw [rounds_succ]
          go_wp2_with (go_at_call 135; refine (H2.out _ M0.out).mono ?_; rintro e w2 ⟨rfl, hk2, hm2⟩; have K2 := Lib.hid (hk2 rfl); have M2 := Lib.hid (M1.out.trans hm2 (fun _ h => .inl h)); clear hm2 hk2)
          rw [rounds_succ]
          go_wp2_with (go_at_call 136; refine (H3.out _ _ _ K2.out M2.out).mono ?_; rintro e w3 ⟨rfl, hk3, hm3⟩; have K3 := Lib.hid (hk3 rfl); have M3 := Lib.hid (M2.out.trans hm3 (fun _ h => .inl h)); clear hm3 hk3)
          rw [rounds_succ]
          go_wp2_with (go_at_call 137; refine (H4.out _ _ _ _ K3.out M3.out).mono ?_; rintro e w4 ⟨rfl, hk4, hm4⟩; have K4 := Lib.hid (hk4 rfl); have M4 := Lib.hid (M3.out.trans hm4 (fun _ h => .inl h)); have c2 : w4.cell? ⟨w.heap.size + 1, 2, none⟩ = some (.int .i64 bk) := K4.out.cell 2; have c3 : w4.cell? ⟨w.heap.size + 1, 3, none⟩ = some (.int .i64 bl) := K4.out.cell 3; have c4 : w4.cell? ⟨w.heap.size + 1, 4, none⟩ = some (.bool bc) := K4.out.cell 4; have c5 : w4.cell? ⟨w.heap.size + 1, 5, none⟩ = some (.bool (expX (minOf el) bk bl S)) := K4.out.cell 5; obtain ⟨k0, k1, k2, k3, f0, f1, f2, f3⟩ := (HR.out _ M4.out).factsH; clear hm4 hk4)
          rw [rounds_succ]
          go_wp2_with fail
          exact end_H rfl (HR.out _ M4.out) Tryz.isAgg65 Tryz.sizeOf65 rfl rfl rfl HE.out (HMM.out _ M4.out) (Nat.le_refl _)
        · obtain ⟨he, h5⟩ := frm_exp417 h1 h2 h3 h4
          have HE := Lib.hid he
          rw [h5] at H4'
          have H4 := Lib.hid H4'
          clear h1 h2 h3 h4 h5 he H4'
          go_enter Tryz.func109, Tryz.ntmps109
          go_wp2_with fail
          rw [← hW]
          clear hW
          refine wp_loop_rounds 5 ?_
          rw [rounds_succ]
          go_wp2_with (go_at_call 134; refine H1.out.mono ?_; rintro e w1 ⟨rfl, hm1⟩; have M0 := Lib.hid hm1; have M1 := Lib.hid (hm1.more (F2 := [w.heap.size + 1]) (by simp)); clear hm1)
          rw [rounds_succ]
          go_wp2_with (go_at_call 135; refine (H2.out _ M0.out).mono ?_; rintro e w2 ⟨rfl, hk2, hm2⟩; have K2 := Lib.hid (hk2 rfl); have M2 := Lib.hid (M1.out.trans hm2 (fun _ h => .inl h)); clear hm2 hk2)
          rw [rounds_succ]
          go_wp2_with (go_at_call 136; refine (H3.out _ _ _ K2.out M2.out).mono ?_; rintro e w3 ⟨rfl, hk3, hm3⟩; have K3 := Lib.hid (hk3 rfl); have M3 := Lib.hid (M2.out.trans hm3 (fun _ h => .inl h)); clear hm3 hk3)
          rw [rounds_succ]
          go_wp2_with (go_at_call 137; refine (H4.out _ _ _ _ K3.out M3.out).mono ?_; rintro e w4 ⟨rfl, hk4, hm4⟩; have M4 := Lib.hid (M3.out.trans hm4 (fun _ h => .inl h)); obtain ⟨k0, k1, k2, k3, f0, f1, f2, f3⟩ := (HR.out _ M4.out).factsH; clear hm4 hk4)
          exact end_H rfl (HR.out _ M4.out) Tryz.isAgg65 Tryz.sizeOf65 rfl rfl rfl HE.out (HMM.out _ M4.out) (Nat.le_refl _)
    · have HE := Lib.hid (frm_body h1 h2)
      have H2 := Lib.hid H2'
      have hne : ((bodyS (minOf el) S).2.2 != 0) = true := by simpa using h2
      generalize (bodyS (minOf el) S).2.2 = s2 at *
      clear h1 h2 H2' H3' H4' i2 i3
      go_enter Tryz.func109, Tryz.ntmps109
      go_wp2_with fail
      rw [← hW]
      clear hW
      refine wp_loop_rounds 5 ?_
      rw [rounds_succ]
      go_wp2_with (go_at_call 134; refine H1.out.mono ?_; rintro e w1 ⟨rfl, hm1⟩; have M0 := Lib.hid hm1; have M1 := Lib.hid (hm1.more (F2 := [w.heap.size + 1]) (by simp)); clear hm1)
      rw [rounds_succ]
      go_wp2_with (go_at_call 135; refine (H2.out _ M0.out).mono ?_; rintro e w2 ⟨rfl, hk2, hm2⟩; have M2 := Lib.hid (M1.out.trans hm2 (fun _ h => .inl h)); obtain ⟨k0, k1, k2, k3, f0, f1, f2, f3⟩ := (HR.out _ M2.out).factsH; clear hm2 hk2)
      exact end_H rfl (HR.out _ M2.out) Tryz.isAgg65 Tryz.sizeOf65 rfl rfl rfl HE.out (HMM.out _ M2.out) (Nat.le_refl _)
theorem of_f {m : Int} {fp : Value} {S : List FV} {w : World} (hf : FP 93 w.heap.size w fp S) (hs : Lite S) :
    Calls Tryz.prog 109 #[.int .i64 m, fp] w (HAns w (frm m S)) := by
  have h := of_el (m := m) _ rfl hf hs
  rw [show minOf (decide (m < 1)) = minN m by unfold minOf minN; simp only [decide_eq_true_eq]; split <;> split <;> omega] at h
  exact h
end Go.Proofs.YtgkhelbpccehcaaGreatDoor

/- The document's host, coding, length by their plain answers. Conditions: names of at most a million bytes, values of at most 900000 bytes in all. -/
namespace Go.Proofs.YtgkhelbpccehcaaGreatDoor
open Go.RowKit
set_option linter.unusedVariables false
set_option linter.unusedSimpArgs false

section
variable {t : TypeId} {R : List Value} {g : Nat} {v : Value} {S : List FV} {w : World}
theorem vals_r (n : ByteArray) (w : World) (h : FldE t R w g v S) (hn : n.size ≤ 1000000) :
    Calls Tryz.prog 74 #[ptr g, .string n] w fun e w' => ∃ u, e = .returned u ∧ StrsAt w' u (valsF S n) ∧ Mods [] w w' :=
  (rvals n w h hn).mono fun e w' ⟨u, h1, hG⟩ => ⟨u, h1, .of_ss (SsAt.of_row hG.row), hG.low⟩
theorem rtok_y {ts : List ByteArray} {L : List (List UInt8)} (hL : toksO ts = some L) (v : Value) (w : World) (h : StrsAt w v ts) (hs : sizes ts ≤ 900000) :
    Calls Tryz.prog 77 #[v] w fun e w' => ∃ u, e = .returned (.tuple #[u, .bool true]) ∧ StrsAt w' u (L.map ba) ∧ Mods [] w w' := by
  refine (reftok ts v w h (by omega)).mono fun e w' ⟨hb, ha⟩ => ?_
  rw [hL] at ha
  obtain ⟨u, h1, h2⟩ := ha
  exact ⟨u, h1, row_strs h2, .of_below hb⟩
theorem rtok_n {ts : List ByteArray} (hL : toksO ts = none) (v : Value) (w : World) (h : StrsAt w v ts) (hs : sizes ts ≤ 900000) :
    Calls Tryz.prog 77 #[v] w fun e w' => e = .returned (.tuple #[.slice none 0 0, .bool false]) ∧ Mods [] w w' := by
  refine (reftok ts v w h (by omega)).mono fun e w' ⟨hb, ha⟩ => ?_
  rw [hL] at ha
  exact ⟨ha, .of_below hb⟩
theorem rhas (tok : ByteArray) (ts : List ByteArray) (v : Value) (w : World) (h : StrsAt w v ts) (hs : sizes ts ≤ 900000) (ht : tok.size ≤ 1000000) {r : Bool} (hr : hasL tok.data.toList ts = r) :
    Calls Tryz.prog 78 #[.string tok, v] w fun e w' => e = .returned (.bool r) ∧ Mods [] w w' :=
  (refhas tok ts v w h (by omega) ht).mono fun e w' ⟨h1, hb⟩ => ⟨by rw [h1, hr], .of_below hb⟩

set_option maxRecDepth 10000 in
theorem host12_r {m : Int} (h01 : m = 0 ∨ m = 1) (h : FldE t R w g v S) (hs : Lite S) :
    Calls Tryz.prog 73 #[.int .i64 m, ptr g] w fun e w' => e = .returned (.bool (hostOk m (valsF S nHost))) ∧ Mods [] w w' := by
  have HV := Lib.hid (vals_r nHost w h (by decide))
  have HS := Lib.hid (hs.vals nHost)
  clear h hs
  unfold ptr at *
  generalize valsF S nHost = vs at *
  match vs with
  | [] =>
    rcases h01 with rfl | rfl
    · go_enter Tryz.func73, Tryz.ntmps73
      go_wp2_with (go_at_call 74; refine HV.out.mono ?_; rintro e w1 ⟨u, rfl, hA, hm⟩; obtain ⟨a, cap, rfl⟩ := strs_nil hA; have HM := Lib.hid hm; clear hA hm)
      go_ret
      exact ⟨rfl, HM.out⟩
    · go_enter Tryz.func73, Tryz.ntmps73
      go_wp2_with (go_at_call 74; refine HV.out.mono ?_; rintro e w1 ⟨u, rfl, hA, hm⟩; obtain ⟨a, cap, rfl⟩ := strs_nil hA; have HM := Lib.hid hm; clear hA hm)
      go_ret
      exact ⟨rfl, HM.out⟩
  | [x] =>
    have HI := Lib.hid (fun w => host_r x w (by have := HS.out; simp only [sizes] at this; omega))
    have HO := Lib.hid (show hostOk m [x] = (decide (x.data.toList = []) || hostL x.data.toList) from rfl)
    clear h01
    by_cases hx : x.data.toList = []
    · have he := text_eq hx
      have HE := Lib.hid (decide_eq_true hx)
      clear hx
      go_enter Tryz.func73, Tryz.ntmps73
      go_wp2_with (go_at_call 74; refine HV.out.mono ?_; rintro e w1 ⟨u, rfl, hA, hm⟩; obtain ⟨b, off, cap, rfl, d1⟩ := strs_one hA; have HM := Lib.hid hm; clear hA hm)
      go_ret
      exact ⟨by rw [HO.out, HE.out]; rfl, HM.out⟩
    · have he := text_ne hx
      have HE := Lib.hid (decide_eq_false hx)
      clear hx
      go_enter Tryz.func73, Tryz.ntmps73
      go_wp2_with (first
        | (go_at_call 74; refine HV.out.mono ?_; rintro e w1 ⟨u, rfl, hA, hm⟩; obtain ⟨b, off, cap, rfl, d1⟩ := strs_one hA; have HM := Lib.hid hm; clear hA hm)
        | (go_at_call 97; refine (HI.out _).mono ?_; rintro e w2 ⟨rfl, rfl⟩))
      go_ret
      exact ⟨by rw [HO.out, HE.out]; rfl, HM.out⟩
  | x :: y :: r =>
    go_enter Tryz.func73, Tryz.ntmps73
    go_wp2_with (go_at_call 74; refine HV.out.mono ?_; rintro e w1 ⟨u, rfl, hA, hm⟩; obtain ⟨a, n, cap, rfl, hn⟩ := strs_two hA; have hd : decide (1 < n) = true := decide_eq_true (by omega); have HM := Lib.hid hm; clear hA hm)
    go_ret
    exact ⟨rfl, HM.out⟩

/-! Codings. -/
theorem cod_lastD {L : List (List UInt8)} {i : Nat} (hi : L.length = i + 1) : L.getLastD [] = L[i] := by
  have e : L.length - 1 = i := by omega
  rw [List.getLastD_eq_getLast?, List.getLast?_eq_getElem?, e, List.getElem?_eq_getElem (by omega)]; rfl
theorem codR_last {te : List ByteArray} {L : List (List UInt8)} {i : Nat} (h : toksO te = some L) (hi : L.length = i + 1) (hl : L[i] ≠ chunkedL) : codS 1 [] te = 400 := by
  unfold codS
  rw [if_neg (by simp), h]
  simp only
  rw [if_pos (by rw [cod_lastD hi]; exact hl)]
theorem codR_one {te : List ByteArray} {L : List (List UInt8)} (h : toksO te = some L) (hi : L.length = 0 + 1) (hl : L[0] = chunkedL) : codS 1 [] te = 0 := by
  unfold codS
  rw [if_neg (by simp), h]
  simp only
  rw [cod_lastD hi, if_neg (by simpa using hl), if_pos hi]
theorem codR_in {te : List ByteArray} {L : List (List UInt8)} {i j : Nat} (h : toksO te = some L) (hi : L.length = i + 1) (hl : L[i] = chunkedL) (hj : j < i) (he : L[j] = chunkedL) : codS 1 [] te = 400 := by
  unfold codS
  rw [if_neg (by simp), h]
  simp only
  rw [cod_lastD hi, if_neg (by simpa using hl), if_neg (by omega), if_pos]
  exact List.mem_iff_getElem.2 ⟨j, by rw [List.length_dropLast]; omega, by rw [List.getElem_dropLast]; exact he⟩
theorem codR_out {te : List ByteArray} {L : List (List UInt8)} {i : Nat} (h : toksO te = some L) (hi : L.length = i + 1) (hl : L[i] = chunkedL) (h0 : i ≠ 0) (he : ∀ j (hj : j < L.length), j < i → L[j] ≠ chunkedL) : codS 1 [] te = 501 := by
  unfold codS
  rw [if_neg (by simp), h]
  simp only
  rw [cod_lastD hi, if_neg (by simpa using hl), if_neg (by omega), if_neg]
  intro hm
  obtain ⟨j, hj, hx⟩ := List.mem_iff_getElem.1 hm
  rw [List.length_dropLast] at hj
  rw [List.getElem_dropLast] at hx
  exact he j (by omega) (by omega) hx
theorem ch_eq {l : List UInt8} (h : l = chunkedL) : ((ba l).toList == [99, 104, 117, 110, 107, 101, 100]) = true := text_eq h
theorem ch_ne {l : List UInt8} (h : l ≠ chunkedL) : ((ba l).toList == [99, 104, 117, 110, 107, 101, 100]) = false := text_ne h
theorem strs_ix {W : World} {v : Value} {L : List (List UInt8)} {i : Nat} (h : StrsAt W v (L.map ba)) (hi : L.length = i + 1) : ∃ (b off cap : Nat), v = .slice (some ⟨b, off, none⟩) (i + 1) cap ∧ ∀ j (h : j < L.length), W.cell? ⟨b, off + j, none⟩ = some (.string (ba L[j])) := by
  obtain ⟨b, off, cap, hv, hc⟩ := strs_at h (by omega)
  rw [hi] at hv
  exact ⟨b, off, cap, hv, hc⟩

set_option maxRecDepth 10000 in
set_option maxHeartbeats 1000000 in
theorem coding_r {m : Int} (h01 : m = 0 ∨ m = 1) (h : FldE t R w g v S) (hs : Lite S) :
    Calls Tryz.prog 75 #[.int .i64 m, ptr g] w fun e w' => e = .returned (.int .i64 (codS m (valsF S nCL) (valsF S nTE))) ∧ Mods [] w w' := by
  have HC0 := Lib.hid (vals_r nCL w h (by decide))
  have HV0 := Lib.hid (fun w' (hm : Mods [] w w') => vals_r nTE w' (h.low hm) (by decide))
  have HS := Lib.hid (hs.vals nTE)
  clear h hs
  unfold ptr at *
  generalize valsF S nTE = te at *
  generalize valsF S nCL = cl at *
  rcases h01 with rfl | rfl
  · have HC := Lib.hid (show codS 0 cl te = 400 by unfold codS; simp)
    go_enter Tryz.func75, Tryz.ntmps75
    go_wp2
    go_ret
    exact ⟨by rw [HC.out]; rfl, Mods.refl _ _⟩
  · by_cases hcl : cl = []
    · subst hcl
      cases hT : toksO te with
      | none =>
        have HC := Lib.hid (cod_none hT)
        have HT := Lib.hid (fun v w h => rtok_n hT v w h HS.out)
        clear hT
        go_enter Tryz.func75, Tryz.ntmps75
        go_wp2_with (first
          | (go_at_call 74; (with_reducible show Calls _ _ #[_, .string ⟨#[67, 111, 110, 116, 101, 110, 116, 45, 76, 101, 110, 103, 116, 104]⟩] _ _); refine HC0.out.mono ?_; rintro e w1 ⟨u, rfl, hA, hm⟩; obtain ⟨a, cap, rfl⟩ := strs_nil hA; have HM1 := Lib.hid hm; clear hA hm)
          | (go_at_call 74; refine (HV0.out _ HM1.out).mono ?_; rintro e w2 ⟨u2, rfl, hA, hm⟩; have HA := Lib.hid hA; have HM2 := Lib.hid (HM1.out.trans hm (fun _ h => nomatch h)); clear hA hm)
          | (go_at_call 77; refine (HT.out _ _ HA.out).mono ?_; rintro e w3 ⟨rfl, hm⟩; have HM3 := Lib.hid (HM2.out.trans hm (fun _ h => nomatch h)); clear hm))
        go_ret
        exact ⟨by rw [HC.out]; rfl, HM3.out⟩
      | some L =>
        have hlen := Nat.le_trans (toksO_len hT) HS.out
        have HT := Lib.hid (fun v w h => rtok_y hT v w h HS.out)
        by_cases h0 : L = []
        · subst h0
          have HC := Lib.hid (cod_nil hT)
          clear hT hlen
          go_enter Tryz.func75, Tryz.ntmps75
          go_wp2_with (first
            | (go_at_call 74; (with_reducible show Calls _ _ #[_, .string ⟨#[67, 111, 110, 116, 101, 110, 116, 45, 76, 101, 110, 103, 116, 104]⟩] _ _); refine HC0.out.mono ?_; rintro e w1 ⟨u, rfl, hA, hm⟩; obtain ⟨a, cap, rfl⟩ := strs_nil hA; have HM1 := Lib.hid hm; clear hA hm)
            | (go_at_call 74; refine (HV0.out _ HM1.out).mono ?_; rintro e w2 ⟨u2, rfl, hA, hm⟩; have HA := Lib.hid hA; have HM2 := Lib.hid (HM1.out.trans hm (fun _ h => nomatch h)); clear hA hm)
            | (go_at_call 77; refine (HT.out _ _ HA.out).mono ?_; rintro e w3 ⟨u3, rfl, hA, hm⟩; obtain ⟨a3, cap3, rfl⟩ := strs_nil hA; have HM3 := Lib.hid (HM2.out.trans hm (fun _ h => nomatch h)); clear hA hm))
          go_ret
          exact ⟨by rw [HC.out]; rfl, HM3.out⟩
        · obtain ⟨i, hi⟩ : ∃ i, L.length = i + 1 := ⟨L.length - 1, by have := List.length_pos_iff.2 h0; omega⟩
          have HN := Lib.hid (fun W v (h : StrsAt W v (L.map ba)) => strs_ix h hi)
          have HLL := Lib.hid hi
          have hib : (i : Int) ≤ 900000 := by omega
          clear h0
          by_cases hl : L[i] = chunkedL
          · have hch := ch_eq hl
            by_cases hi0 : i = 0
            · subst hi0
              have HC := Lib.hid (codR_one hT hi hl)
              clear hT hlen hl
              obtain ⟨xs, hxs⟩ : ∃ xs, xs = ba (L[0]'(by rw [HLL.out]; omega)) := ⟨_, rfl⟩
              rw [← hxs] at hch
              have HXS := Lib.hid hxs
              clear hxs hi
              go_enter Tryz.func75, Tryz.ntmps75
              go_wp2_with (first
                | (go_at_call 74; (with_reducible show Calls _ _ #[_, .string ⟨#[67, 111, 110, 116, 101, 110, 116, 45, 76, 101, 110, 103, 116, 104]⟩] _ _); refine HC0.out.mono ?_; rintro e w1 ⟨u, rfl, hA, hm⟩; obtain ⟨a, cap, rfl⟩ := strs_nil hA; have HM1 := Lib.hid hm; clear hA hm)
                | (go_at_call 74; refine (HV0.out _ HM1.out).mono ?_; rintro e w2 ⟨u2, rfl, hA, hm⟩; have HA := Lib.hid hA; have HM2 := Lib.hid (HM1.out.trans hm (fun _ h => nomatch h)); clear hA hm)
                | (go_at_call 77; refine (HT.out _ _ HA.out).mono ?_; rintro e w3 ⟨u3, rfl, hA, hm⟩; obtain ⟨b, off, cap3, rfl, hc⟩ := HN.out _ _ hA; have c0 : w3.cell? ⟨b, off, none⟩ = some (.string xs) := by rw [HXS.out]; exact hc 0 (by rw [HLL.out]; omega)
                   have HM3 := Lib.hid (HM2.out.trans hm (fun _ h => nomatch h)); clear hA hm hc))
              go_ret
              exact ⟨by rw [HC.out]; rfl, HM3.out⟩
            · have HIN := Lib.hid (fun j (hj : j < i) (hj2 : j < L.length) (he : L[j] = chunkedL) => codR_in hT hi hl hj he)
              have HOUT := Lib.hid (fun he => codR_out hT hi hl hi0 he)
              have hi1 : 1 ≤ i := by omega
              clear hT hlen hl hi0
              obtain ⟨xs, hxs⟩ : ∃ xs, xs = ba (L[i]'(by rw [HLL.out]; omega)) := ⟨_, rfl⟩
              rw [← hxs] at hch
              have HXS := Lib.hid hxs
              clear hxs hi
              go_enter Tryz.func75, Tryz.ntmps75
              go_wp2_with (first
                | (go_at_call 74; (with_reducible show Calls _ _ #[_, .string ⟨#[67, 111, 110, 116, 101, 110, 116, 45, 76, 101, 110, 103, 116, 104]⟩] _ _); refine HC0.out.mono ?_; rintro e w1 ⟨u, rfl, hA, hm⟩; obtain ⟨a, cap, rfl⟩ := strs_nil hA; have HM1 := Lib.hid hm; clear hA hm)
                | (go_at_call 74; refine (HV0.out _ HM1.out).mono ?_; rintro e w2 ⟨u2, rfl, hA, hm⟩; have HA := Lib.hid hA; have HM2 := Lib.hid (HM1.out.trans hm (fun _ h => nomatch h)); clear hA hm)
                | (go_at_call 77; refine (HT.out _ _ HA.out).mono ?_; rintro e w3 ⟨u3, rfl, hA, hm⟩; obtain ⟨b, off, cap3, rfl, hc⟩ := HN.out _ _ hA; have c0 : w3.cell? ⟨b, off + i, none⟩ = some (.string xs) := by rw [HXS.out]; exact hc i (by rw [HLL.out]; omega)
                   have HCC := Lib.hid hc; have HM3 := Lib.hid (HM2.out.trans hm (fun _ h => nomatch h)); clear hA hm hc))
              go_loopw [7] (fun q wr => ∃ k : Nat, k ≤ i ∧ q = .int .i64 k ∧ Mods [] w wr ∧ (∀ j (h : j < L.length), wr.cell? ⟨b, off + j, none⟩ = some (.string (ba L[j]))) ∧ ∀ j (hj : j < L.length), j < k → L[j] ≠ chunkedL) (fun q _ => i - (intOf q).toNat)
              case atStart => exact ⟨0, Nat.zero_le _, rfl, HM3.out, HCC.out, fun j _ h => absurd h (Nat.not_lt_zero _)⟩
              case round =>
                obtain ⟨k, hk, rfl, hm, hc, hno⟩ := hrel
                have HM := Lib.hid hm
                have HCW := Lib.hid hc
                have HNO := Lib.hid hno
                clear hm hc hno
                by_cases hlt : k < i
                · have hkL : k < L.length := by rw [HLL.out]; omega
                  have ck := HCW.out k hkL
                  have HLL2 := Lib.hid hkL
                  by_cases he : L[k] = chunkedL
                  · have HC := Lib.hid (HIN.out k hlt hkL he)
                    obtain ⟨ys, hys⟩ : ∃ ys, ys = ba (L[k]'(HLL2.out)) := ⟨_, rfl⟩
                    have hce : (ys.toList == [99, 104, 117, 110, 107, 101, 100]) = true := by rw [hys]; exact ch_eq he
                    rw [← hys] at ck
                    clear hys he hkL
                    go_wp2
                    go_ret
                    exact ⟨by rw [HC.out]; rfl, HM.out⟩
                  · have HNK := Lib.hid (show ∀ j (hj : j < L.length), j < k + 1 → L[j] ≠ chunkedL from fun j hj hjk => by
                      by_cases e : j = k
                      · subst e; exact he
                      · exact HNO.out j hj (by omega))
                    obtain ⟨ys, hys⟩ : ∃ ys, ys = ba (L[k]'(HLL2.out)) := ⟨_, rfl⟩
                    have hce : (ys.toList == [99, 104, 117, 110, 107, 101, 100]) = false := by rw [hys]; exact ch_ne he
                    rw [← hys] at ck
                    clear hys he hkL
                    go_wp2
                    go_roundw
                    case rel => exact ⟨k + 1, by omega, by go_num, HM.out, HCW.out, HNK.out⟩
                    case measure => simp [intOf]; omega
                · have HC := Lib.hid (HOUT.out fun j hj hji => HNO.out j hj (by omega))
                  go_wp2
                  go_ret
                  exact ⟨by rw [HC.out]; rfl, HM.out⟩
          · have HC := Lib.hid (codR_last hT hi hl)
            have hch := ch_ne hl
            clear hT hlen hl
            obtain ⟨xs, hxs⟩ : ∃ xs, xs = ba (L[i]'(by rw [HLL.out]; omega)) := ⟨_, rfl⟩
            rw [← hxs] at hch
            have HXS := Lib.hid hxs
            clear hxs hi
            go_enter Tryz.func75, Tryz.ntmps75
            go_wp2_with (first
              | (go_at_call 74; (with_reducible show Calls _ _ #[_, .string ⟨#[67, 111, 110, 116, 101, 110, 116, 45, 76, 101, 110, 103, 116, 104]⟩] _ _); refine HC0.out.mono ?_; rintro e w1 ⟨u, rfl, hA, hm⟩; obtain ⟨a, cap, rfl⟩ := strs_nil hA; have HM1 := Lib.hid hm; clear hA hm)
              | (go_at_call 74; refine (HV0.out _ HM1.out).mono ?_; rintro e w2 ⟨u2, rfl, hA, hm⟩; have HA := Lib.hid hA; have HM2 := Lib.hid (HM1.out.trans hm (fun _ h => nomatch h)); clear hA hm)
              | (go_at_call 77; refine (HT.out _ _ HA.out).mono ?_; rintro e w3 ⟨u3, rfl, hA, hm⟩; obtain ⟨b, off, cap3, rfl, hc⟩ := HN.out _ _ hA; have c0 : w3.cell? ⟨b, off + i, none⟩ = some (.string xs) := by rw [HXS.out]; exact hc i (by rw [HLL.out]; omega)
                 have HM3 := Lib.hid (HM2.out.trans hm (fun _ h => nomatch h)); clear hA hm hc))
            go_ret
            exact ⟨by rw [HC.out]; rfl, HM3.out⟩
    · have HC := Lib.hid (cod_len (te := te) hcl 1)
      obtain ⟨n, hn⟩ : ∃ n, n = cl.length := ⟨_, rfl⟩
      have hpos : 0 < n := by rw [hn]; exact List.length_pos_iff.2 hcl
      have HN := Lib.hid (fun W v (h : StrsAt W v cl) => show ∃ a cap, v = .slice a n cap by rw [hn]; exact h.len)
      clear hcl hn
      go_enter Tryz.func75, Tryz.ntmps75
      go_wp2_with (go_at_call 74; refine HC0.out.mono ?_; rintro e w1 ⟨u, rfl, hA, hm⟩; obtain ⟨a, cap, rfl⟩ := HN.out _ _ hA; have HM1 := Lib.hid hm; clear hA hm)
      go_ret
      exact ⟨by rw [HC.out]; rfl, HM1.out⟩
end
end Go.Proofs.YtgkhelbpccehcaaGreatDoor

/- The document's length by its plain answer. Conditions: names of at most a million bytes, values of at most 900000 bytes in all. -/
namespace Go.Proofs.YtgkhelbpccehcaaGreatDoor
open Go.RowKit
set_option linter.unusedVariables false
set_option linter.unusedSimpArgs false

section
variable {t : TypeId} {R : List Value} {g : Nat} {v : Value} {S : List FV} {w : World}
set_option maxRecDepth 10000 in
set_option maxHeartbeats 1000000 in
theorem length_r (h : FldE t R w g v S) (hs : Lite S) :
    Calls Tryz.prog 76 #[ptr g] w fun e w' => e = .returned (.tuple #[.int .i64 (lenS (valsF S nCL)).1, .int .i64 (lenS (valsF S nCL)).2]) ∧ Mods [] w w' := by
  have HV := Lib.hid (vals_r nCL w h (by decide))
  have HS := Lib.hid (hs.vals nCL)
  clear h hs
  unfold ptr at *
  generalize valsF S nCL = cl at *
  cases hT : toksO cl with
  | none =>
    have HC := Lib.hid (len_toks hT)
    have HT := Lib.hid (fun v w h => rtok_n hT v w h HS.out)
    clear hT
    go_enter Tryz.func76, Tryz.ntmps76
    go_wp2_with (first
      | (go_at_call 74; refine HV.out.mono ?_; rintro e w2 ⟨u, rfl, hA, hm⟩; have HA := Lib.hid hA; have HM2 := Lib.hid hm; clear hA hm)
      | (go_at_call 77; refine (HT.out _ _ HA.out).mono ?_; rintro e w3 ⟨rfl, hm⟩; have HM3 := Lib.hid (HM2.out.trans hm (fun _ h => nomatch h)); clear hm))
    go_ret2
    exact ⟨by rw [HC.out]; rfl, HM3.out⟩
  | some L =>
    have hlen := Nat.le_trans (toksO_len hT) HS.out
    have HT := Lib.hid (fun v w h => rtok_y hT v w h HS.out)
    by_cases hn : L = []
    · subst hn
      have HC := Lib.hid (lenv_nil hT)
      clear hT hlen
      go_enter Tryz.func76, Tryz.ntmps76
      go_wp2_with (first
        | (go_at_call 74; refine HV.out.mono ?_; rintro e w2 ⟨u, rfl, hA, hm⟩; have HA := Lib.hid hA; have HM2 := Lib.hid hm; clear hA hm)
        | (go_at_call 77; refine (HT.out _ _ HA.out).mono ?_; rintro e w3 ⟨u2, rfl, hA2, hm⟩; obtain ⟨a, cap, rfl⟩ := strs_nil hA2; have HM3 := Lib.hid (HM2.out.trans hm (fun _ h => nomatch h)); clear hm hA2))
      go_ret2
      exact ⟨by rw [HC.out]; rfl, HM3.out⟩
    · have h0 : 0 < L.length := List.length_pos_iff.2 hn
      have HSZ := tok_size hT HS.out
      obtain ⟨hbad, hbig, hok⟩ := len_facts hT h0
      have HN := Lib.hid (fun W v (h : StrsAt W v (L.map ba)) => strs_at h h0)
      have HNU := Lib.hid (fun w j (hj : j < L.length) => num_R (ba L[j]) w (HSZ j hj))
      unfold NumIs at HNU
      have HBAD := Lib.hid hbad
      have HBIG := Lib.hid hbig
      have HOK := Lib.hid hok
      obtain ⟨f, hf⟩ : ∃ f, f = numF L[0] := ⟨_, rfl⟩
      have HF := Lib.hid (show (numB 10 15 L[0]).1 = f from hf.symm)
      rw [← hf] at HBAD HBIG HOK
      clear hT hn hbad hbig hok HSZ hf
      have hne : ((L.length : Int) == 0) = false := beq_eq_false_iff_ne.2 (by omega)
      go_enter Tryz.func76, Tryz.ntmps76
      go_wp2_with (first
        | (go_at_call 74; refine HV.out.mono ?_; rintro e w2 ⟨u, rfl, hA, hm⟩; have HA := Lib.hid hA; have HM2 := Lib.hid hm; clear hA hm)
        | (go_at_call 77; refine (HT.out _ _ HA.out).mono ?_; rintro e w3 ⟨u2, rfl, hA2, hm⟩; obtain ⟨b, off, cap, rfl, hc⟩ := HN.out _ _ hA2; have HM3 := Lib.hid (HM2.out.trans hm (fun _ h => nomatch h)); have HC := Lib.hid hc; clear hm hA2 hc))
      go_loopw [6, 7] (fun q i wr => ∃ k : Nat, k ≤ L.length ∧ i = .int .i64 k ∧ q = .int .i64 (if k = 0 then 0 else f) ∧ Mods [] w wr ∧ (∀ j (h : j < L.length), wr.cell? ⟨b, off + j, none⟩ = some (.string (ba L[j]))) ∧ ∀ j (hj : j < L.length), j < k → goodF f L[j] = true) (fun _ i _ => L.length - (intOf i).toNat)
      case atStart => exact ⟨0, Nat.zero_le _, rfl, rfl, HM3.out, HC.out, fun j _ h => absurd h (Nat.not_lt_zero _)⟩
      case round =>
        obtain ⟨k1, hk, rfl, hq0, hm, hc, hgood⟩ := hrel
        have HM := Lib.hid hm
        have HCW := Lib.hid hc
        have HG := Lib.hid hgood
        clear hm hc hgood
        by_cases hlt : k1 < L.length
        · have ck := HCW.out k1 hlt
          have hnu := fun w => HNU.out w k1 hlt
          have hgq : goodF f L[k1] = ((numB 10 15 L[k1]).2 && (numB 10 15 L[k1]).1 == f) := rfl
          have HBK := Lib.hid (HBAD.out k1 hlt)
          have HGK := Lib.hid (fun (h : goodF f L[k1] = true) => show ∀ j (hj : j < L.length), j < k1 + 1 → goodF f L[j] = true from fun j hj hjk => by
            by_cases e : j = k1
            · subst e; exact h
            · exact HG.out j hj (by omega))
          have H0 := Lib.hid (show k1 = 0 → (numB 10 15 L[k1]).1 = f from fun e => by subst e; exact HF.out)
          rw [show (ba L[k1]).data.toList = L[k1] from rfl] at hnu
          obtain ⟨xs, hxs⟩ : ∃ xs, xs = ba L[k1] := ⟨_, rfl⟩
          obtain ⟨q, hq⟩ : ∃ q, q = numB 10 15 L[k1] := ⟨_, rfl⟩
          rw [← hxs] at ck hnu
          rw [← hq] at hnu hgq H0
          have HNK := Lib.hid hnu
          clear hxs hq hnu
          obtain ⟨n, ok⟩ := q
          simp only at hgq HNK H0
          cases ok with
          | false =>
            have HB := Lib.hid (HBK.out (by rw [hgq]; rfl))
            subst hq0
            clear hgq
            generalize (if k1 = 0 then 0 else f) = z
            go_wp2_with (go_at_call 102; refine (HNK.out _).mono ?_; rintro e w5 ⟨rfl, rfl⟩)
            go_ret2
            exact ⟨by rw [HB.out]; rfl, HM.out⟩
          | true =>
            by_cases hk0 : k1 = 0
            · have hnf : n = f := H0.out hk0
              rw [if_pos hk0] at hq0
              subst hq0
              subst hnf
              have HGN := Lib.hid (HGK.out (by rw [hgq]; simp))
              have hkz : decide (0 < k1) = false := decide_eq_false (by omega)
              have HZ := Lib.hid hk0
              clear hgq hk0
              go_wp2_with (go_at_call 102; refine (HNK.out _).mono ?_; rintro e w5 ⟨rfl, rfl⟩)
              go_roundw
              case rel => exact ⟨k1 + 1, by omega, by go_num, by rw [if_neg (by omega)], HM.out, HCW.out, HGN.out⟩
              case measure => simp [intOf]; omega
            · rw [if_neg hk0] at hq0
              subst hq0
              have hkz : decide (0 < k1) = true := decide_eq_true (by omega)
              by_cases hnf : n = f
              · have HGN := Lib.hid (HGK.out (by rw [hgq]; simp [hnf]))
                have hno : (n != f) = false := by simp [hnf]
                have HNF := Lib.hid hnf
                clear hgq hnf hk0
                go_wp2_with (go_at_call 102; refine (HNK.out _).mono ?_; rintro e w5 ⟨rfl, rfl⟩)
                go_roundw
                case rel => exact ⟨k1 + 1, by omega, by go_num, by rw [if_neg (by omega), HNF.out], HM.out, HCW.out, HGN.out⟩
                case measure => simp [intOf]; omega
              · have HB := Lib.hid (HBK.out (by rw [hgq]; simpa using hnf))
                have hno : (n != f) = true := by simpa using hnf
                clear hgq hnf hk0
                go_wp2_with (go_at_call 102; refine (HNK.out _).mono ?_; rintro e w5 ⟨rfl, rfl⟩)
                go_ret2
                exact ⟨by rw [HB.out]; rfl, HM.out⟩
        · have hall := fun j (hj : j < L.length) => HG.out j hj (by omega)
          rw [if_neg (by omega)] at hq0
          subst hq0
          by_cases hb : 2048 < f
          · have HB := Lib.hid (HBIG.out hall hb)
            clear hall
            go_wp2
            go_ret2
            exact ⟨by rw [HB.out]; rfl, HM.out⟩
          · have HB := Lib.hid (HOK.out hall (by omega))
            clear hall
            go_wp2
            go_ret2
            exact ⟨by rw [HB.out]; rfl, HM.out⟩
end
end Go.Proofs.YtgkhelbpccehcaaGreatDoor

/- The document's Of by its plain answer. Conditions: names of at most a million bytes, values of at most 900000 bytes in all. -/
namespace Go.Proofs.YtgkhelbpccehcaaGreatDoor
open Go.RowKit
set_option linter.unusedVariables false
set_option linter.unusedSimpArgs false

theorem join_sizes : ∀ (l : List ByteArray), (Lib.join (l.map (·.data.toList)) sepF.data.toList).length ≤ sizes l + l.length
  | [] => by simp [Lib.join_nil]
  | x :: r => by
    rw [List.map_cons, Lib.join_cons]
    have hx : x.data.toList.length = x.size := rfl
    have ht : ∀ (r : List ByteArray), (Lib.joinTail sepF.data.toList (r.map (·.data.toList))).length ≤ sizes r + r.length := by
      intro r
      induction r with
      | nil => simp [Lib.joinTail]
      | cons y s ih =>
        have hy : y.data.toList.length = y.size := rfl
        have h2 : sepF.data.toList.length = 2 := rfl
        simp only [Lib.joinTail, List.map_cons, List.flatten_cons, List.length_append, List.length_cons, sizes] at ih ⊢
        omega
    have := ht r
    simp only [List.length_append, List.length_cons, sizes]; omega
theorem Lite.get {S : List FV} (h : Lite S) (hl : S.length ≤ 24) (n : ByteArray) : (getF S n).size ≤ 1000000 := by
  have h1 := join_sizes (valsF S n)
  have h2 := h.vals n
  have h3 := valsF_len S n
  have h4 : (getF S n).size = (getL S n).length := rfl
  unfold getL at h4
  omega

/-- What the document's Of holds while it walks: its result's block, the block of how, the fields. -/
structure RSt (t : TypeId) (R : List Value) (w : World) (g : Nat) (S : List FV) (b : Nat) (h : HowP) (W : World) : Prop where
  res : Row W w.heap.size 29 noH.cells
  how : Row W b 29 h.cells
  low : Mods [] w W
  fld : ∃ v, FldE t R W g v S
  hb : w.heap.size < b
  ht : t ≠ 29
section
variable {t : TypeId} {R : List Value} {w W W' : World} {g b : Nat} {S : List FV} {h : HowP}
theorem RSt.step (r : RSt t R w g S b h W) (hm : Mods [] W W') : RSt t R w g S b h W' := by
  obtain ⟨v, hf⟩ := r.fld
  exact ⟨r.res.mods hm (by simp), r.how.mods hm (by simp), r.low.trans hm (fun _ h => nomatch h), ⟨v, hf.low hm⟩, r.hb, r.ht⟩
theorem RSt.put (r : RSt t R w g S b h W) (i : Nat) (u : Value) (h' : HowP) (he : h.cells.setIfInBounds i u = h'.cells) : RSt t R w g S b h' (W.setCell ⟨b, i, none⟩ u) := by
  obtain ⟨v, hf⟩ := r.fld
  have hb := r.hb
  have hm : Mods [b] W (W.setCell ⟨b, i, none⟩ u) := (Mods.refl [b] W).setCell (.inl (by simp)) u
  refine ⟨r.res.mods hm (by simp; omega), he ▸ r.how.set i u, r.low.setCell (.inr (Nat.le_of_lt hb)) u, ⟨v, hf.mods hm ?_ ?_⟩, hb, r.ht⟩
  · have := Row.type_ne hf.row r.how r.ht
    simpa using this
  · intro k hk
    have := own_ne_row hf.own r.how (by decide) k hk
    simpa using this
theorem RSt.facts (r : RSt t R w g S b h W) : W.cell? ⟨b, 0, none⟩ = some (.int .i64 h.kind) ∧ W.cell? ⟨b, 1, none⟩ = some (.int .i64 h.length) ∧ W.cell? ⟨b, 2, none⟩ = some (.bool h.close) ∧ W.cell? ⟨b, 3, none⟩ = some (.bool h.expect) ∧
    W.frozen? ⟨b, 0, none⟩ = false ∧ W.frozen? ⟨b, 1, none⟩ = false ∧ W.frozen? ⟨b, 2, none⟩ = false ∧ W.frozen? ⟨b, 3, none⟩ = false := r.how.factsH
theorem vals_rs (n : ByteArray) (r : RSt t R w g S b h W) (hn : n.size ≤ 1000000) :
    Calls Tryz.prog 74 #[ptr g, .string n] W fun e w' => ∃ u, e = .returned u ∧ StrsAt w' u (valsF S n) ∧ Mods [] W w' := by
  obtain ⟨v, hf⟩ := r.fld
  exact vals_r n W hf hn
theorem coding_rs {m : Int} (h01 : m = 0 ∨ m = 1) (r : RSt t R w g S b h W) (hs : Lite S) :
    Calls Tryz.prog 75 #[.int .i64 m, ptr g] W fun e w' => e = .returned (.int .i64 (codS m (valsF S nCL) (valsF S nTE))) ∧ Mods [] W w' := by
  obtain ⟨v, hf⟩ := r.fld
  exact coding_r h01 hf hs
theorem length_rs (r : RSt t R w g S b h W) (hs : Lite S) :
    Calls Tryz.prog 76 #[ptr g] W fun e w' => e = .returned (.tuple #[.int .i64 (lenS (valsF S nCL)).1, .int .i64 (lenS (valsF S nCL)).2]) ∧ Mods [] W w' := by
  obtain ⟨v, hf⟩ := r.fld
  exact length_r hf hs
theorem get_rs (n : ByteArray) (r : RSt t R w g S b h W) (hn : n.size ≤ 1000000) :
    Calls Tryz.prog 80 #[ptr g, .string n] W fun e w' => e = .returned (.string (getF S n)) ∧ Mods [] W w' := by
  obtain ⟨v, hf⟩ := r.fld
  exact rget n W hf hn
end

set_option maxRecDepth 10000 in
set_option maxHeartbeats 4000000 in
theorem of_rfld {t : TypeId} {R : List Value} {g : Nat} {v : Value} {S : List FV} {w : World} {m q : Int} (hmm : max 0 (min 1 m) = q) (h01 : q = 0 ∨ q = 1) (h : FldE t R w g v S) (hs : Lite S) (ht : t ≠ 29 := by decide) :
    Calls Tryz.prog 57 #[.int .i64 m, ptr g] w (HAns w (frmN q S)) := by
  have hm0 := (Mods.refl [] w).alloc (.cells #[.int .i64 0, .int .i64 0, .bool false, .bool false] 29)
  have hf0 := h.low hm0
  have HH := Lib.hid (host12_r h01 hf0 hs)
  have HF := Lib.hid (fun W (hm : Mods [] (w.alloc (.cells #[.int .i64 0, .int .i64 0, .bool false, .bool false] 29)) W) => show ∃ v, FldE t R W g v S from ⟨v, hf0.low hm⟩)
  have HM0 := Lib.hid hm0
  have H01 := Lib.hid h01
  have HMM := Lib.hid hmm
  have HS := Lib.hid hs
  clear h hf0 hm0 h01 hmm hs
  unfold ptr at *
  cases h1 : hostOk q (valsF S nHost) with
  | false =>
    have HE := Lib.hid (frm_host h1)
    rw [h1] at HH
    clear h1
    go_enter Tryz.func57, Tryz.ntmps57
    go_wp2_with (go_at_call 73; rw [HMM.out]; refine HH.out.mono ?_; rintro e w1 ⟨rfl, hm⟩; have R1 := Lib.hid ((Row.new w 29 noH.cells).mods hm (by simp)); have M1 := Lib.hid (HM0.out.trans hm (fun _ h => nomatch h)); obtain ⟨k0, k1, k2, k3, f0, f1, f2, f3⟩ := R1.out.factsH; clear hm)
    exact end_H rfl R1.out Tryz.isAgg29 Tryz.sizeOf29 rfl rfl rfl HE.out M1.out (Nat.le_refl _)
  | true =>
    have H1 := Lib.hid h1
    rw [h1] at HH
    clear h1
    go_enter Tryz.func57, Tryz.ntmps57
    go_upto_block 0 with (go_at_call 73; rw [HMM.out]; refine HH.out.mono ?_; rintro e w1 ⟨rfl, hm⟩; have R1 := Lib.hid (show RSt t R w g S w1.heap.size noH (w1.alloc (.cells #[.int .i64 0, .int .i64 0, .bool false, .bool false] 29)) from ⟨((Row.new w 29 noH.cells).mods hm (by simp)).alloc _, Row.new _ _ _, (HM0.out.trans hm (fun _ h => nomatch h)).alloc _, HF.out _ (hm.alloc _), by have := hm.size; simp at this; omega, ht⟩); clear hm)
    go_cut [7] (fun s wx => s = .int .i64 (bodyS q S).2.2 ∧ Hid (RSt t R w g S w1.heap.size ⟨(bodyS q S).1, (bodyS q S).2.1, false, false⟩ wx))
    case first =>
      by_cases hte : valsF S nTE = []
      · by_cases hcl : valsF S nCL = []
        · have HB := Lib.hid (body_no (m := q) hte hcl)
          have HTE := Lib.hid hte
          have HCL := Lib.hid hcl
          clear hte hcl
          go_wp2_with (first
            | (go_at_call 74; (with_reducible show Calls _ _ #[_, .string ⟨#[84, 114, 97, 110, 115, 102, 101, 114, 45, 69, 110, 99, 111, 100, 105, 110, 103]⟩] _ _); refine (vals_rs nTE R1.out (by decide)).mono ?_; rintro e w2 ⟨u2, rfl, hA, hm⟩; rw [HTE.out] at hA; obtain ⟨a2, c2, rfl⟩ := strs_nil hA; have R2 := Lib.hid (R1.out.step hm); obtain ⟨k0, k1, k2, k3, f0, f1, f2, f3⟩ := R2.out.facts; clear hA hm)
            | (go_at_call 74; (with_reducible show Calls _ _ #[_, .string ⟨#[67, 111, 110, 116, 101, 110, 116, 45, 76, 101, 110, 103, 116, 104]⟩] _ _); refine (vals_rs nCL R2.out (by decide)).mono ?_; rintro e w3 ⟨u3, rfl, hA, hm⟩; rw [HCL.out] at hA; obtain ⟨a3, c3, rfl⟩ := strs_nil hA; have R3 := Lib.hid (R2.out.step hm); obtain ⟨k0, k1, k2, k3, f0, f1, f2, f3⟩ := R3.out.facts; clear hA hm))
          go_meet
          case rel => exact ⟨by rw [HB.out], Lib.hid (by rw [HB.out]; exact R3.out)⟩
        · have HB := Lib.hid (body_cl (m := q) hte hcl)
          have HTE := Lib.hid hte
          obtain ⟨n, hn⟩ : ∃ n, n = (valsF S nCL).length := ⟨_, rfl⟩
          have hpos : 0 < n := by rw [hn]; exact List.length_pos_iff.2 hcl
          have HN := Lib.hid (fun W v (h : StrsAt W v (valsF S nCL)) => show ∃ a cap, v = .slice a n cap by rw [hn]; exact h.len)
          clear hte hcl hn
          go_wp2_with (first
            | (go_at_call 74; (with_reducible show Calls _ _ #[_, .string ⟨#[84, 114, 97, 110, 115, 102, 101, 114, 45, 69, 110, 99, 111, 100, 105, 110, 103]⟩] _ _); refine (vals_rs nTE R1.out (by decide)).mono ?_; rintro e w2 ⟨u2, rfl, hA, hm⟩; rw [HTE.out] at hA; obtain ⟨a2, c2, rfl⟩ := strs_nil hA; have R2 := Lib.hid (R1.out.step hm); obtain ⟨k0, k1, k2, k3, f0, f1, f2, f3⟩ := R2.out.facts; clear hA hm)
            | (go_at_call 74; (with_reducible show Calls _ _ #[_, .string ⟨#[67, 111, 110, 116, 101, 110, 116, 45, 76, 101, 110, 103, 116, 104]⟩] _ _); refine (vals_rs nCL R2.out (by decide)).mono ?_; rintro e w3 ⟨u3, rfl, hA, hm⟩; obtain ⟨a3, c3, rfl⟩ := HN.out _ _ hA; have R3 := Lib.hid (R2.out.step hm); obtain ⟨k0, k1, k2, k3, f0, f1, f2, f3⟩ := R3.out.facts; clear hA hm)
            | (go_at_call 76; refine (length_rs (R3.out.put 0 (.int .i64 1) ⟨1, 0, false, false⟩ rfl) HS.out).mono ?_; rintro e w4 ⟨rfl, hm⟩; have R4 := Lib.hid ((R3.out.put 0 (.int .i64 1) ⟨1, 0, false, false⟩ rfl).step hm); obtain ⟨j0, j1, j2, j3, g0, g1, g2, g3⟩ := R4.out.facts; clear hm))
          go_meet
          case rel => exact ⟨by rw [HB.out], Lib.hid (by rw [HB.out]; exact R4.out.put 1 (.int .i64 (lenS (valsF S nCL)).1) ⟨1, (lenS (valsF S nCL)).1, false, false⟩ rfl)⟩
      · have HB := Lib.hid (body_te (m := q) hte)
        obtain ⟨n, hn⟩ : ∃ n, n = (valsF S nTE).length := ⟨_, rfl⟩
        have hpos : 0 < n := by rw [hn]; exact List.length_pos_iff.2 hte
        have HN := Lib.hid (fun W v (h : StrsAt W v (valsF S nTE)) => show ∃ a cap, v = .slice a n cap by rw [hn]; exact h.len)
        clear hte hn
        go_wp2_with (first
          | (go_at_call 74; (with_reducible show Calls _ _ #[_, .string ⟨#[84, 114, 97, 110, 115, 102, 101, 114, 45, 69, 110, 99, 111, 100, 105, 110, 103]⟩] _ _); refine (vals_rs nTE R1.out (by decide)).mono ?_; rintro e w2 ⟨u2, rfl, hA, hm⟩; obtain ⟨a2, c2, rfl⟩ := HN.out _ _ hA; have R2 := Lib.hid (R1.out.step hm); obtain ⟨k0, k1, k2, k3, f0, f1, f2, f3⟩ := R2.out.facts; clear hA hm)
          | (go_at_call 75; (try rw [HMM.out]); refine (coding_rs H01.out (R2.out.put 0 (.int .i64 2) ⟨2, 0, false, false⟩ rfl) HS.out).mono ?_; rintro e w4 ⟨rfl, hm⟩; have R4 := Lib.hid ((R2.out.put 0 (.int .i64 2) ⟨2, 0, false, false⟩ rfl).step hm); clear hm))
        go_meet
        case rel => exact ⟨by rw [HB.out], Lib.hid (by rw [HB.out]; exact R4.out)⟩
    case rest =>
      obtain ⟨rfl, hR⟩ := hcut
      have R5 := Lib.hid hR.out
      clear hR
      obtain ⟨k0, k1, k2, k3, f0, f1, f2, f3⟩ := R5.out.res.factsH
      by_cases h2 : (bodyS q S).2.2 = 0
      · cases hT : toksO (valsF S nCon) with
        | none =>
          have HE := Lib.hid (frm_con H1.out h2 hT)
          have HT := Lib.hid (fun v w h => rtok_n hT v w h (HS.out.vals nCon))
          rw [h2]
          clear h2 hT
          go_wp2_with (first
            | (go_at_call 74; refine (vals_rs nCon R5.out (by decide)).mono ?_; rintro e w6 ⟨u6, rfl, hA, hm⟩; have HA6 := Lib.hid hA; have R6 := Lib.hid (R5.out.step hm); clear hA hm)
            | (go_at_call 77; refine (HT.out _ _ HA6.out).mono ?_; rintro e w7 ⟨rfl, hm⟩; have R7 := Lib.hid (R6.out.step hm); obtain ⟨k0, k1, k2, k3, f0, f1, f2, f3⟩ := R7.out.res.factsH; clear hm))
          exact end_H rfl R7.out.res Tryz.isAgg29 Tryz.sizeOf29 rfl rfl rfl HE.out R7.out.low (Nat.le_refl _)
        | some L =>
          have HE := Lib.hid (fun h4 => frm_end H1.out h2 (by rw [hT]; simp) h4)
          have HE4 := Lib.hid (fun h4 => (frm_exp417 H1.out h2 (by rw [hT]; simp) h4).1)
          have HT := Lib.hid (fun v w h => rtok_y hT v w h (HS.out.vals nCon))
          have HC1 := Lib.hid (fun v w h => rhas clB (valsF S nCon) v w h (HS.out.vals nCon) (by decide) rfl)
          have HC2 := Lib.hid (fun v w h => rhas kpB (valsF S nCon) v w h (HS.out.vals nCon) (by decide) rfl)
          have HCC := Lib.hid (show closeS q (valsF S nCon) = (hasL clB.data.toList (valsF S nCon) || (decide (q = 0) && !hasL kpB.data.toList (valsF S nCon))) from rfl)
          rw [h2]
          clear h2 hT
          generalize (bodyS q S).1 = bk at *
          generalize (bodyS q S).2.1 = bl at *
          generalize hasL clB.data.toList (valsF S nCon) = b1 at *
          generalize hasL kpB.data.toList (valsF S nCon) = b2 at *
          generalize closeS q (valsF S nCon) = bc at *
          go_upto_region 20 with (first
            | (go_at_call 74; refine (vals_rs nCon R5.out (by decide)).mono ?_; rintro e w6 ⟨u6, rfl, hA, hm⟩; have HA6 := Lib.hid hA; have R6 := Lib.hid (R5.out.step hm); clear hA hm)
            | (go_at_call 77; refine (HT.out _ _ HA6.out).mono ?_; rintro e w7 ⟨u7, rfl, hA, hm⟩; have R7 := Lib.hid (R6.out.step hm); have HA7 := Lib.hid (HA6.out.low hm); clear hm hA))
          go_cut [] (fun wx => Hid (RSt t R w g S w1.heap.size ⟨bk, bl, bc, false⟩ wx))
          case first =>
            have h01 := H01.out
            rcases h01 with rfl | rfl <;> cases b1 <;> cases b2
            all_goals
              go_wp2_with (first
                | (go_at_call 78; (with_reducible show Calls _ _ #[.string ⟨#[99, 108, 111, 115, 101]⟩, _] _ _); refine (HC1.out _ _ HA7.out).mono ?_; rintro e w8 ⟨rfl, hm⟩; have HA8 := Lib.hid (HA7.out.low hm); have R9 := Lib.hid (R7.out.step hm); obtain ⟨j0, j1, j2, j3, g0, g1, g2, g3⟩ := R9.out.facts; clear hm)
                | (go_at_call 78; (with_reducible show Calls _ _ #[.string ⟨#[107, 101, 101, 112, 45, 97, 108, 105, 118, 101]⟩, _] _ _); refine (HC2.out _ _ HA8.out).mono ?_; rintro e w9 ⟨rfl, hm⟩; have R9 := Lib.hid (R9.out.step hm); obtain ⟨j0, j1, j2, j3, g0, g1, g2, g3⟩ := R9.out.facts; clear hm))
              go_meet
              case rel => exact Lib.hid (by rw [HCC.out]; exact R9.out.put 2 _ ⟨bk, bl, _, false⟩ rfl)
          case rest =>
            have R10 := Lib.hid hcut.out
            clear hcut
            obtain ⟨k0, k1, k2, k3, f0, f1, f2, f3⟩ := R10.out.res.factsH; 
            obtain ⟨j0, j1, j2, j3, g0, g1, g2, g3⟩ := R10.out.facts; 
            have h01 := H01.out
            rcases h01 with rfl | rfl
            · have HE := Lib.hid (HE.out (by unfold expS; simp))
              rw [show expX 0 bk bl S = false by unfold expX; simp] at HE
              go_wp2_with fail
              exact end_H rfl R10.out.res Tryz.isAgg29 Tryz.sizeOf29 rfl rfl rfl HE.out R10.out.low (Nat.le_refl _)
            · by_cases hex : valsF S nExp = []
              · have HE := Lib.hid (HE.out (by unfold expS; rw [hex]; simp))
                rw [show expX 1 bk bl S = false by unfold expX; rw [hex]; simp] at HE
                have HX := Lib.hid hex
                clear hex
                go_wp2_with (go_at_call 74; refine (vals_rs nExp R10.out (by decide)).mono ?_; rintro e w11 ⟨u11, rfl, hA, hm⟩; rw [HX.out] at hA; obtain ⟨a11, c11, rfl⟩ := strs_nil hA; have R11 := Lib.hid (R10.out.step hm); obtain ⟨k0, k1, k2, k3, f0, f1, f2, f3⟩ := R11.out.res.factsH; obtain ⟨j0, j1, j2, j3, g0, g1, g2, g3⟩ := R11.out.facts; clear hA hm)
                exact end_H rfl R11.out.res Tryz.isAgg29 Tryz.sizeOf29 rfl rfl rfl HE.out R11.out.low (Nat.le_refl _)
              · obtain ⟨n, hn⟩ : ∃ n, n = (valsF S nExp).length := ⟨_, rfl⟩
                have hpos : 0 < n := by rw [hn]; exact List.length_pos_iff.2 hex
                have HN := Lib.hid (fun W v (h : StrsAt W v (valsF S nExp)) => show ∃ a cap, v = .slice a n cap by rw [hn]; exact h.len)
                have hgs : (getF S nExp).size ≤ 1000000 := by
                  obtain ⟨v, hf⟩ := R10.out.fld
                  exact HS.out.get hf.len nExp
                have HES := Lib.hid (show expS 1 S = if sameL (getF S nExp) contB = false then 417 else 0 by
                  unfold expS
                  by_cases h : sameL (getF S nExp) contB = false
                  · rw [if_pos ⟨rfl, hex, h⟩, if_pos h]
                  · rw [if_neg (fun h2 => h h2.2.2), if_neg h])
                rw [show expX 1 bk bl S = (bk == 2 || decide (0 < bl)) by unfold expX; rw [decide_eq_true ⟨rfl, hex⟩]; rfl] at HE
                have HG := Lib.hid (fun (W : World) (r : RSt t R w g S w1.heap.size ⟨bk, bl, bc, false⟩ W) => get_rs nExp r (by decide))
                have HSM := Lib.hid (fun w => same_r (getF S nExp) contB rfl hgs (by decide) w)
                unfold ptr at HG
                clear hex hn
                generalize getF S nExp = gx at *
                generalize sameL gx contB = bs at *
                cases bs with
                | false =>
                  have HE := Lib.hid (HE4.out (by rw [HES.out]; simp))
                  go_wp2_with (first
                    | (go_at_call 74; refine (vals_rs nExp R10.out (by decide)).mono ?_; rintro e w11 ⟨u11, rfl, hA, hm⟩; obtain ⟨a11, c11, rfl⟩ := HN.out _ _ hA; have R11 := Lib.hid (R10.out.step hm); clear hA hm)
                    | (go_at_call 80; refine (HG.out _ R11.out).mono ?_; rintro e w12 ⟨rfl, hm⟩; have R12 := Lib.hid (R11.out.step hm); clear hm)
                    | (go_at_call 79; refine (HSM.out _).mono ?_; rintro e w13 ⟨rfl, hm⟩; have R13 := Lib.hid (R12.out.step hm); obtain ⟨k0, k1, k2, k3, f0, f1, f2, f3⟩ := R13.out.res.factsH; obtain ⟨j0, j1, j2, j3, g0, g1, g2, g3⟩ := R13.out.facts; clear hm))
                  exact end_H rfl R13.out.res Tryz.isAgg29 Tryz.sizeOf29 rfl rfl rfl HE.out R13.out.low (Nat.le_refl _)
                | true =>
                  have HE := Lib.hid (HE.out (by rw [HES.out]; simp))
                  by_cases hk : bk = 2
                  · subst hk
                    go_wp2_with (first
                      | (go_at_call 74; refine (vals_rs nExp R10.out (by decide)).mono ?_; rintro e w11 ⟨u11, rfl, hA, hm⟩; obtain ⟨a11, c11, rfl⟩ := HN.out _ _ hA; have R11 := Lib.hid (R10.out.step hm); clear hA hm)
                      | (go_at_call 80; refine (HG.out _ R11.out).mono ?_; rintro e w12 ⟨rfl, hm⟩; have R12 := Lib.hid (R11.out.step hm); clear hm)
                      | (go_at_call 79; refine (HSM.out _).mono ?_; rintro e w13 ⟨rfl, hm⟩; have R13 := Lib.hid (R12.out.step hm); obtain ⟨j0, j1, j2, j3, g0, g1, g2, g3⟩ := R13.out.facts; have R14 := Lib.hid (R13.out.put 3 (.bool true) ⟨2, bl, bc, true⟩ rfl); obtain ⟨k0, k1, k2, k3, f0, f1, f2, f3⟩ := R14.out.res.factsH; obtain ⟨i0, i1, i2, i3, -, -, -, -⟩ := R14.out.facts; clear hm))
                    exact end_H rfl R14.out.res Tryz.isAgg29 Tryz.sizeOf29 rfl rfl rfl HE.out R14.out.low (Nat.le_refl _)
                  · have hk1 : (bk == 2) = false := by simpa using hk
                    rw [hk1, Bool.false_or] at HE
                    clear hk
                    go_wp2_with (first
                      | (go_at_call 74; refine (vals_rs nExp R10.out (by decide)).mono ?_; rintro e w11 ⟨u11, rfl, hA, hm⟩; obtain ⟨a11, c11, rfl⟩ := HN.out _ _ hA; have R11 := Lib.hid (R10.out.step hm); clear hA hm)
                      | (go_at_call 80; refine (HG.out _ R11.out).mono ?_; rintro e w12 ⟨rfl, hm⟩; have R12 := Lib.hid (R11.out.step hm); clear hm)
                      | (go_at_call 79; refine (HSM.out _).mono ?_; rintro e w13 ⟨rfl, hm⟩; have R13 := Lib.hid (R12.out.step hm); obtain ⟨j0, j1, j2, j3, g0, g1, g2, g3⟩ := R13.out.facts; have R14 := Lib.hid (R13.out.put 3 (.bool (decide (0 < bl))) ⟨bk, bl, bc, decide (0 < bl)⟩ rfl); obtain ⟨k0, k1, k2, k3, f0, f1, f2, f3⟩ := R14.out.res.factsH; obtain ⟨i0, i1, i2, i3, -, -, -, -⟩ := R14.out.facts; clear hm))
                    exact end_H rfl R14.out.res Tryz.isAgg29 Tryz.sizeOf29 rfl rfl rfl HE.out R14.out.low (Nat.le_refl _)
      · have HE := Lib.hid (frm_body H1.out h2)
        have hne : ((bodyS q S).2.2 != 0) = true := by simpa using h2
        generalize (bodyS q S).2.2 = s2 at *
        clear h2
        go_wp2_with fail
        exact end_H rfl R5.out.res Tryz.isAgg29 Tryz.sizeOf29 rfl rfl rfl HE.out R5.out.low (Nat.le_refl _)
end Go.Proofs.YtgkhelbpccehcaaGreatDoor

/- A field that is written as a line with a colon and blanks is parsed as it is. No program but for what Parse answers. -/
namespace Go.Proofs.YtgkhelbpccehcaaGreatDoor
open Go.RowKit
set_option linter.unusedVariables false
set_option linter.unusedSimpArgs false

theorem app_listL (a b : ByteArray) : (a ++ b).data.toList = a.data.toList ++ b.data.toList := by simp [ByteArray.data_append]
theorem app_sizeL (a b : ByteArray) : (a ++ b).size = a.size + b.size := by
  have := congrArg List.length (app_listL a b)
  rw [List.length_append] at this; exact this
end Go.Proofs.YtgkhelbpccehcaaGreatDoor

/- A head, line by line: plain functions of chapter 13. No program but for what Parse answers. -/
namespace Go.Proofs.YtgkhelbpccehcaaGreatDoor
open Go.RowKit
set_option linter.unusedVariables false
set_option linter.unusedSimpArgs false

/-- A head as far as it came. -/
structure HdP where
  started : Bool
  meth : ByteArray
  tgt : Tgt
  minor : Int
  how : HowP
  whole : Bool
  status : Int
  bytes : Nat
  empty : Nat
  S : List FV
def newH : HdP := ⟨false, noB, noT, 0, noH, false, 0, 0, 0, []⟩
/-- What stands between blanks. -/
def wAcc : List UInt8 → List UInt8 → List (List UInt8)
  | cur, [] => [cur]
  | cur, c :: r => if c = 32 then cur :: wAcc [] r else wAcc (cur ++ [c]) r
def wordsL (l : List UInt8) : List (List UInt8) := wAcc [] l
def hvL : List UInt8 := [72, 84, 84, 80, 47]
/-- The status of a version; the minor one. -/
def verS (v : List UInt8) : Int :=
  if v.length = 8 ∧ v.take 5 = hvL ∧ isD (v.getD 5 0) = true ∧ v.getD 6 0 = 46 ∧ isD (v.getD 7 0) = true then (if v.getD 5 0 = 49 then 0 else 505) else 400
def verM (v : List UInt8) : Int := if v.getD 7 0 = 48 then 0 else 1
/-- The status of a start line. -/
def startS (l : List UInt8) : Int :=
  match wordsL l with
  | [a, b, v] => if tokL a = false then 400 else if verS v ≠ 0 then verS v else if (parT a b).2 = 9 then 414 else if (parT a b).2 ≠ 0 then 400 else 0
  | _ => 400
def wordN (l : List UInt8) (k : Nat) : List UInt8 := (wordsL l).getD k []
def startP (h : HdP) (l : List UInt8) : HdP :=
  if startS l ≠ 0 then { h with status := startS l }
  else { h with started := true, meth := ofL (wordN l 0), tgt := (parT (wordN l 0) (wordN l 1)).1, minor := verM (wordN l 2) }
def longS (h : HdP) : Int := if h.started = true then 431 else 414
/-- What a line does to a head that goes on, its bytes being counted. -/
def bodyP (h : HdP) (s : ByteArray) : HdP :=
  if h.started = false then
    (if s.size = 0 then { h with empty := h.empty + 1, status := if 4 < h.empty + 1 then 400 else 0 } else startP h s.data.toList)
  else if s.size = 0 then { h with how := (frm h.minor h.S).1, whole := decide ((frm h.minor h.S).2 = 0), status := (frm h.minor h.S).2 }
  else if (parR s).2 ≠ 0 then { h with status := 400 }
  else if 24 ≤ h.S.length then { h with status := 431 }
  else { h with S := h.S ++ [(parR s).1] }
def lineP (h : HdP) (s : ByteArray) : HdP :=
  if h.whole = true ∨ h.status ≠ 0 then h
  else if 256 < s.size then { h with status := longS h }
  else if 1024 < h.bytes + (s.size + 2) then { h with status := longS h }
  else bodyP { h with bytes := h.bytes + (s.size + 2) } s
theorem lineP_end {h : HdP} (s : ByteArray) (he : h.whole = true ∨ h.status ≠ 0) : lineP h s = h := by unfold lineP; rw [if_pos he]
theorem lineP_long {h : HdP} {s : ByteArray} (h1 : h.whole = false) (h2 : h.status = 0) (h3 : 256 < s.size) : lineP h s = { h with status := longS h } := by
  unfold lineP; rw [if_neg (by simp [h1, h2]), if_pos h3]
theorem lineP_much {h : HdP} {s : ByteArray} (h1 : h.whole = false) (h2 : h.status = 0) (h3 : ¬ 256 < s.size) (h4 : 1024 < h.bytes + (s.size + 2)) : lineP h s = { h with status := longS h } := by
  unfold lineP; rw [if_neg (by simp [h1, h2]), if_neg h3, if_pos h4]
theorem lineP_go {h : HdP} {s : ByteArray} (h1 : h.whole = false) (h2 : h.status = 0) (h3 : ¬ 256 < s.size) (h4 : ¬ 1024 < h.bytes + (s.size + 2)) : lineP h s = bodyP { h with bytes := h.bytes + (s.size + 2) } s := by
  unfold lineP; rw [if_neg (by simp [h1, h2]), if_neg h3, if_neg h4]
theorem bodyP_skip {h : HdP} {s : ByteArray} (h1 : h.started = false) (h2 : s.size = 0) : bodyP h s = { h with empty := h.empty + 1, status := if 4 < h.empty + 1 then 400 else 0 } := by
  unfold bodyP; rw [if_pos h1, if_pos h2]
theorem bodyP_start {h : HdP} {s : ByteArray} (h1 : h.started = false) (h2 : s.size ≠ 0) : bodyP h s = startP h s.data.toList := by
  unfold bodyP; rw [if_pos h1, if_neg h2]
theorem bodyP_end {h : HdP} {s : ByteArray} (h1 : h.started = true) (h2 : s.size = 0) : bodyP h s = { h with how := (frm h.minor h.S).1, whole := decide ((frm h.minor h.S).2 = 0), status := (frm h.minor h.S).2 } := by
  unfold bodyP; rw [if_neg (by simp [h1]), if_pos h2]
theorem bodyP_bad {h : HdP} {s : ByteArray} (h1 : h.started = true) (h2 : s.size ≠ 0) (h3 : (parR s).2 ≠ 0) : bodyP h s = { h with status := 400 } := by
  unfold bodyP; rw [if_neg (by simp [h1]), if_neg h2, if_pos h3]
theorem bodyP_full {h : HdP} {s : ByteArray} (h1 : h.started = true) (h2 : s.size ≠ 0) (h3 : (parR s).2 = 0) (h4 : 24 ≤ h.S.length) : bodyP h s = { h with status := 431 } := by
  unfold bodyP; rw [if_neg (by simp [h1]), if_neg h2, if_neg (by simp [h3]), if_pos h4]
theorem bodyP_add {h : HdP} {s : ByteArray} (h1 : h.started = true) (h2 : s.size ≠ 0) (h3 : (parR s).2 = 0) (h4 : ¬ 24 ≤ h.S.length) : bodyP h s = { h with S := h.S ++ [(parR s).1] } := by
  unfold bodyP; rw [if_neg (by simp [h1]), if_neg h2, if_neg (by simp [h3]), if_neg h4]
theorem startP_bad {h : HdP} {l : List UInt8} (e : startS l ≠ 0) : startP h l = { h with status := startS l } := by unfold startP; rw [if_pos e]
theorem startP_yes {h : HdP} {l : List UInt8} (e : startS l = 0) : startP h l = { h with started := true, meth := ofL (wordN l 0), tgt := (parT (wordN l 0) (wordN l 1)).1, minor := verM (wordN l 2) } := by unfold startP; rw [if_neg (by simp [e])]
theorem startS_parts {l : List UInt8} (h : (wordsL l).length ≠ 3) : startS l = 400 := by
  unfold startS
  match hw : wordsL l with
  | [a, b, v] => rw [hw] at h; simp at h
  | [] => rfl
  | [_] => rfl
  | [_, _] => rfl
  | _ :: _ :: _ :: _ :: _ => rfl
theorem startS_three {l a b v : List UInt8} (h : wordsL l = [a, b, v]) : startS l = if tokL a = false then 400 else if verS v ≠ 0 then verS v else if (parT a b).2 = 9 then 414 else if (parT a b).2 ≠ 0 then 400 else 0 := by unfold startS; rw [h]
/-! Splitting at blanks. -/
theorem wAcc_no : ∀ (l cur : List UInt8), (∀ x ∈ l, x ≠ 32) → wAcc cur l = [cur ++ l]
  | [], cur, _ => by simp [wAcc]
  | c :: r, cur, h => by
    rw [wAcc, if_neg (h c (by simp)), wAcc_no r _ (fun x hx => h x (by simp [hx]))]
    simp
theorem wAcc_at : ∀ (a b cur : List UInt8), (∀ x ∈ a, x ≠ 32) → wAcc cur (a ++ 32 :: b) = (cur ++ a) :: wordsL b
  | [], b, cur, _ => by simp [wAcc, wordsL]
  | c :: r, b, cur, h => by
    rw [List.cons_append, wAcc, if_neg (h c (by simp)), wAcc_at r b _ (fun x hx => h x (by simp [hx]))]
    simp
theorem words_no {l : List UInt8} (h : ∀ x ∈ l, x ≠ 32) : wordsL l = [l] := wAcc_no l [] h
theorem words_at {a b : List UInt8} (h : ∀ x ∈ a, x ≠ 32) : wordsL (a ++ 32 :: b) = a :: wordsL b := wAcc_at a b [] h
theorem wAcc_parts : ∀ (l cur : List UInt8), (∀ x ∈ cur, x ≠ 32) → ∀ p ∈ wAcc cur l, (∀ x ∈ p, x ≠ 32) ∧ p.length ≤ cur.length + l.length
  | [], cur, h, p, hp => by
    have : p = cur := by simpa [wAcc] using hp
    subst this
    exact ⟨h, by simp⟩
  | c :: r, cur, h, p, hp => by
    rw [wAcc] at hp
    by_cases hc : c = 32
    · rw [if_pos hc] at hp
      rcases List.mem_cons.1 hp with rfl | hp
      · exact ⟨h, by simp⟩
      · have := wAcc_parts r [] (fun x hx => nomatch hx) p hp
        exact ⟨this.1, by have := this.2; simp only [List.length_nil, List.length_cons] at *; omega⟩
    · rw [if_neg hc] at hp
      have := wAcc_parts r (cur ++ [c]) (fun x hx => by
        rcases List.mem_append.1 hx with hx | hx
        · exact h x hx
        · have : x = c := by simpa using hx
          subst this; exact hc) p hp
      exact ⟨this.1, by have := this.2; simp only [List.length_append, List.length_cons, List.length_nil] at *; omega⟩
theorem words_parts {l p : List UInt8} (h : p ∈ wordsL l) : (∀ x ∈ p, x ≠ 32) ∧ p.length ≤ l.length := by
  have := wAcc_parts l [] (fun x hx => nomatch hx) p h
  simpa using this
end Go.Proofs.YtgkhelbpccehcaaGreatDoor
