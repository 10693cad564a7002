/- The steps of the code's walk through a head: host, coding, length, body, connection, expect, each by its plain answer. Conditions: names of at most a million bytes, values of at most 900000 bytes in all. -/
import Derived.Test.YtcliapfoimnkiaaDoorFp12
import Derived.Deep.RegionWith
import Derived.Deep.RegionHeld3
import Derived.BigRegion
namespace Go.Proofs.YtcliapfoimnkiaaDoor
open Go.RowKit
set_option linter.unusedVariables false
set_option linter.unusedSimpArgs false

/-- The walk in memory. -/
def WkA (w : World) (p : Nat) (el : Bool) (fp : Value) (k l : Int) (c x : Bool) : Prop := Row w p 41 #[.bool el, fp, .int .i64 k, .int .i64 l, .bool c, .bool x]
def minOf (el : Bool) : Int := if el = true then 0 else 1

set_option maxRecDepth 10000 in
theorem ishost_a (v : ByteArray) (w : World) (hs : v.size ≤ 1000000) : Calls Tryd.prog 16 #[.string v] w fun e w' => e = .returned (.bool (decide (v.data.toList = []) || hostL v.data.toList)) ∧ w = w' := by
  have HH := Lib.hid (fun w => host_a v w hs)
  by_cases h : v.data.toList = []
  · have he := text_eq h
    have HE := Lib.hid (decide_eq_true h)
    clear h
    go_enter Tryd.func16, Tryd.ntmps16
    go_wp2
    go_ret
    exact ⟨by rw [HE.out]; rfl, rfl⟩
  · have he := text_ne h
    have HE := Lib.hid (decide_eq_false h)
    clear h
    go_enter Tryd.func16, Tryd.ntmps16
    go_wp2_with (go_at_call 29; refine (HH.out _).mono ?_; rintro e w1 ⟨rfl, rfl⟩)
    go_ret
    exact ⟨by rw [HE.out]; rfl, rfl⟩

/-- The status of the host. -/
def hostS (m : Int) (vs : List ByteArray) : Int := if hostOk m vs = true then 0 else 400
set_option maxRecDepth 10000 in
theorem host_w {w : World} {p : Nat} {el : Bool} {fp : Value} {k l : Int} {c x : Bool} {S : List FV} {B : Nat} (hr : WkA w p el fp k l c x) (hf : FP 36 B w fp S) (hs : Lite S) :
    Calls Tryd.prog 9 #[ptr p] w fun e w' => e = .returned (.int .i64 (hostS (minOf el) (valsF S nHost))) ∧ Mods [] w w' := by
  have c0 : w.cell? ⟨p, 0, none⟩ = some (.bool el) := hr.cell 0
  have c1 : w.cell? ⟨p, 1, none⟩ = some fp := hr.cell 1
  have HV := Lib.hid (vals_p nHost w hf (by decide))
  have HS := Lib.hid (hs.vals nHost)
  obtain ⟨A, rfl⟩ := hf.form
  clear hr hf hs
  unfold ptr
  generalize valsF S nHost = vs at *
  match vs with
  | [] =>
    cases el
    · go_enter Tryd.func9, Tryd.ntmps9
      go_wp2_with (go_at_call 15; refine HV.out.mono ?_; rintro e w1 ⟨u, rfl, hA, hm⟩; obtain ⟨a, cap, rfl⟩ := strs_nil hA; have d0 := cell_mods c0 hm (by simp); have HM := Lib.hid hm; clear hA hm)
      go_ret
      exact ⟨rfl, HM.out⟩
    · go_enter Tryd.func9, Tryd.ntmps9
      go_wp2_with (go_at_call 15; refine HV.out.mono ?_; rintro e w1 ⟨u, rfl, hA, hm⟩; obtain ⟨a, cap, rfl⟩ := strs_nil hA; have d0 := cell_mods c0 hm (by simp); have HM := Lib.hid hm; clear hA hm)
      go_ret
      exact ⟨rfl, HM.out⟩
  | [v] =>
    have HI := Lib.hid (fun w => ishost_a v w (by have := HS.out; simp only [sizes] at this; omega))
    cases hh : (decide (v.data.toList = []) || hostL v.data.toList) with
    | true =>
      rw [hh] at HI
      have HA := Lib.hid (show hostS (minOf el) [v] = 0 by unfold hostS; rw [show hostOk (minOf el) [v] = true from hh]; rfl)
      clear hh
      go_enter Tryd.func9, Tryd.ntmps9
      go_wp2_with (first
        | (go_at_call 15; refine HV.out.mono ?_; rintro e w1 ⟨u, rfl, hA, hm⟩; obtain ⟨b, off, cap, rfl, d1⟩ := strs_one hA; have HM := Lib.hid hm; clear hA hm)
        | (go_at_call 16; refine (HI.out _).mono ?_; rintro e w2 ⟨rfl, rfl⟩))
      go_ret
      exact ⟨by rw [HA.out]; rfl, HM.out⟩
    | false =>
      rw [hh] at HI
      have HA := Lib.hid (show hostS (minOf el) [v] = 400 by unfold hostS; rw [show hostOk (minOf el) [v] = false from hh]; rfl)
      clear hh
      go_enter Tryd.func9, Tryd.ntmps9
      go_wp2_with (first
        | (go_at_call 15; refine HV.out.mono ?_; rintro e w1 ⟨u, rfl, hA, hm⟩; obtain ⟨b, off, cap, rfl, d1⟩ := strs_one hA; have HM := Lib.hid hm; clear hA hm)
        | (go_at_call 16; refine (HI.out _).mono ?_; rintro e w2 ⟨rfl, rfl⟩))
      go_ret
      exact ⟨by rw [HA.out]; rfl, HM.out⟩
  | v :: v2 :: r =>
    go_enter Tryd.func9, Tryd.ntmps9
    go_wp2_with (go_at_call 15; refine HV.out.mono ?_; rintro e w1 ⟨u, rfl, hA, hm⟩; obtain ⟨a, n, cap, rfl, hn⟩ := strs_two hA; have hd : decide (1 < n) = true := decide_eq_true (by omega); have HM := Lib.hid hm; clear hA hm)
    go_ret
    exact ⟨rfl, HM.out⟩

/-! Codings. -/
def chB : ByteArray := ⟨#[99, 104, 117, 110, 107, 101, 100]⟩
theorem cod_elder (cl te : List ByteArray) : codS (minOf true) cl te = 400 := by unfold codS minOf; simp
theorem cod_len {cl te : List ByteArray} (h : cl ≠ []) (m : Int) : codS m cl te = 400 := by unfold codS; rw [if_pos (.inr h)]
theorem cod_none {te : List ByteArray} (h : toksO te = none) : codS 1 [] te = 400 := by unfold codS; rw [h]; simp
theorem cod_nil {te : List ByteArray} (h : toksO te = some []) : codS 1 [] te = 400 := by unfold codS; rw [h]; decide
theorem cod_idx {L : List (List UInt8)} (h0 : L ≠ []) : Lib.idxOfS (L.map ba) chB = (L.length : Int) - 1 ↔ L.getLastD [] = chunkedL ∧ chunkedL ∉ L.dropLast := by
  have h := idx_last (l := L.map ba) (x := chB) (by simpa using h0)
  rw [List.length_map] at h
  rw [h, List.getLast_map, ← List.map_dropLast]
  have hb : chB = ba chunkedL := rfl
  have hg : L.getLastD [] = L.getLast h0 := by
    cases L with
    | nil => exact absurd rfl h0
    | cons a r => rw [List.getLastD_cons]; rw [List.getLast_eq_getLastD]
  rw [hb, hg]
  constructor
  · rintro ⟨h1, h2⟩
    exact ⟨ba_inj h1, fun h => h2 (List.mem_map.2 ⟨_, h, rfl⟩)⟩
  · rintro ⟨h1, h2⟩
    refine ⟨by rw [h1], fun h => ?_⟩
    obtain ⟨y, hy, he⟩ := List.mem_map.1 h
    exact h2 (ba_inj he ▸ hy)
theorem cod_bad {te : List ByteArray} {L : List (List UInt8)} (h : toksO te = some L) (h0 : L ≠ []) (hi : Lib.idxOfS (L.map ba) chB ≠ (L.length : Int) - 1) : codS 1 [] te = 400 := by
  have hn : ¬ (L.getLastD [] = chunkedL ∧ chunkedL ∉ L.dropLast) := fun h => hi ((cod_idx h0).2 h)
  unfold codS
  rw [if_neg (by simp), h]
  simp only
  by_cases h1 : L.getLastD [] ≠ chunkedL
  · rw [if_pos h1]
  · have h1 : L.getLastD [] = chunkedL := Classical.not_not.1 h1
    have h2 : chunkedL ∈ L.dropLast := Classical.byContradiction fun h => hn ⟨h1, h⟩
    rw [if_neg (by simpa using h1), if_neg (fun e => by
      have := List.length_pos_of_mem h2
      rw [List.length_dropLast] at this; omega), if_pos h2]
theorem cod_one {te : List ByteArray} {L : List (List UInt8)} (h : toksO te = some L) (h0 : L ≠ []) (hi : Lib.idxOfS (L.map ba) chB = (L.length : Int) - 1) (h1 : L.length = 1) : codS 1 [] te = 0 := by
  obtain ⟨a, b⟩ := (cod_idx h0).1 hi
  unfold codS
  rw [if_neg (by simp), h]
  simp only
  rw [if_neg (by simpa using a), if_pos h1]
theorem cod_more {te : List ByteArray} {L : List (List UInt8)} (h : toksO te = some L) (h0 : L ≠ []) (hi : Lib.idxOfS (L.map ba) chB = (L.length : Int) - 1) (h1 : L.length ≠ 1) : codS 1 [] te = 501 := by
  obtain ⟨a, b⟩ := (cod_idx h0).1 hi
  unfold codS
  rw [if_neg (by simp), h]
  simp only
  rw [if_neg (by simpa using a), if_neg h1, if_neg b]
theorem strs_map {W : World} {v : Value} {L : List (List UInt8)} (h : StrsAt W v (L.map ba)) : ∃ a cap, v = .slice a L.length cap := by
  obtain ⟨a, cap, h⟩ := h.len; rw [List.length_map] at h; exact ⟨a, cap, h⟩

/-- What a step answers that has found kind and length. -/
def Step (w : World) (p : Nat) (s : Int) (el : Bool) (fp : Value) (k l : Int) (c x : Bool) (e : Ending) (w' : World) : Prop :=
  e = .returned (.int .i64 s) ∧ (s = 0 → WkA w' p el fp k l c x) ∧ Mods [p] w w'
set_option maxRecDepth 10000 in
theorem coding_w {w : World} {p : Nat} {el : Bool} {fp : Value} {k l : Int} {c x : Bool} {S : List FV} {B : Nat} (hr : WkA w p el fp k l c x) (hf : FP 36 B w fp S) (hs : Lite S) :
    Calls Tryd.prog 18 #[ptr p] w (Step w p (codS (minOf el) (valsF S nCL) (valsF S nTE)) el fp 2 l c x) := by
  have c0 : w.cell? ⟨p, 0, none⟩ = some (.bool el) := hr.cell 0
  have c1 : w.cell? ⟨p, 1, none⟩ = some fp := hr.cell 1
  have HS := Lib.hid (hs.vals nTE)
  have HR := Lib.hid hr
  have HH := Lib.hid (has_p nCL w hf (by decide))
  have HV := Lib.hid (fun w' (hm : Mods [] w w') => vals_p nTE w' (hf.low hm) (by decide))
  obtain ⟨A, rfl⟩ := hf.form
  clear hr hf hs
  unfold ptr
  generalize valsF S nTE = te at *
  generalize valsF S nCL = cl at *
  cases el with
  | true =>
    have HC := Lib.hid (cod_elder cl te)
    go_enter Tryd.func18, Tryd.ntmps18
    go_wp2
    go_ret
    exact ⟨by rw [HC.out]; rfl, fun h => absurd (HC.out.symm.trans h) (by decide), Mods.refl _ _⟩
  | false =>
    by_cases hcl : cl = []
    · subst hcl
      rw [show decide (([] : List ByteArray) ≠ []) = false from rfl] at HH
      cases hT : toksO te with
      | none =>
        have HC := Lib.hid (cod_none hT)
        have HT := Lib.hid (fun v w h => tok_n hT v w h HS.out)
        clear hT
        go_enter Tryd.func18, Tryd.ntmps18
        go_wp2_with (first
          | (go_at_call 17; refine HH.out.mono ?_; rintro e w1 ⟨rfl, hm⟩; have d1 := cell_mods c1 hm (by simp); have HM1 := Lib.hid hm; clear hm)
          | (go_at_call 15; refine (HV.out _ HM1.out).mono ?_; rintro e w2 ⟨u, rfl, hA, hm⟩; have HA := Lib.hid hA; have HM2 := Lib.hid (HM1.out.trans hm (fun _ h => nomatch h)); clear hA hm)
          | (go_at_call 20; refine (HT.out _ _ HA.out).mono ?_; rintro e w3 ⟨rfl, hm⟩; have HM3 := Lib.hid (HM2.out.trans hm (fun _ h => nomatch h)); clear hm))
        go_ret
        exact ⟨by rw [show minOf false = 1 from rfl, HC.out]; rfl, fun h => absurd (HC.out.symm.trans h) (by decide), HM3.out.more (by simp)⟩
      | some L =>
        have hlen := Nat.le_trans (toksO_len hT) HS.out
        have HT := Lib.hid (fun v w h => tok_y hT v w h HS.out)
        by_cases h0 : L = []
        · subst h0
          have HC := Lib.hid (cod_nil hT)
          clear hT hlen
          go_enter Tryd.func18, Tryd.ntmps18
          go_wp2_with (first
            | (go_at_call 17; refine HH.out.mono ?_; rintro e w1 ⟨rfl, hm⟩; have d1 := cell_mods c1 hm (by simp); have HM1 := Lib.hid hm; clear hm)
            | (go_at_call 15; refine (HV.out _ HM1.out).mono ?_; rintro e w2 ⟨u, rfl, hA, hm⟩; have HA := Lib.hid hA; have HM2 := Lib.hid (HM1.out.trans hm (fun _ h => nomatch h)); clear hA hm)
            | (go_at_call 20; refine (HT.out _ _ HA.out).mono ?_; rintro e w3 ⟨u2, rfl, hA2, hm⟩; obtain ⟨a, cap, rfl⟩ := strs_nil hA2; have HM3 := Lib.hid (HM2.out.trans hm (fun _ h => nomatch h)); clear hm hA2))
          go_ret
          exact ⟨by rw [show minOf false = 1 from rfl, HC.out]; rfl, fun h => absurd (HC.out.symm.trans h) (by decide), HM3.out.more (by simp)⟩
        · have hpos : 0 < L.length := List.length_pos_iff.2 h0
          have HN := Lib.hid (fun W v (h : StrsAt W v (L.map ba)) => strs_map h)
          have HX := Lib.hid (fun v w h => index_s (L.map ba) v chB w h (by rw [List.length_map]; omega))
          by_cases hi : Lib.idxOfS (L.map ba) chB = (L.length : Int) - 1
          · have H1 := Lib.hid (cod_one hT h0 hi)
            have H2 := Lib.hid (cod_more hT h0 hi)
            rw [hi] at HX
            clear hT h0 hi
            generalize L.length = n at *
            have hne : (((n : Int) - 1) != ((n : Int) - 1)) = false := by simp
            have hlt : decide ((n : Int) - 1 < 0) = false := decide_eq_false (by omega)
            by_cases h1 : n = 1
            · have HC := Lib.hid (H1.out h1)
              subst h1
              rw [show ((1 : Nat) : Int) - 1 = 0 from rfl] at HX
              clear hne hlt hlen hpos
              clear H1 H2
              go_enter Tryd.func18, Tryd.ntmps18
              go_wp2_with (first
                | (go_at_call 17; refine HH.out.mono ?_; rintro e w1 ⟨rfl, hm⟩; have d1 := cell_mods c1 hm (by simp); have HM1 := Lib.hid hm; clear hm)
                | (go_at_call 15; refine (HV.out _ HM1.out).mono ?_; rintro e w2 ⟨u, rfl, hA, hm⟩; have HA := Lib.hid hA; have HM2 := Lib.hid (HM1.out.trans hm (fun _ h => nomatch h)); clear hA hm)
                | (go_at_call 20; refine (HT.out _ _ HA.out).mono ?_; rintro e w3 ⟨u2, rfl, hA2, hm⟩; have HA2 := Lib.hid hA2; obtain ⟨a, cap, rfl⟩ := HN.out _ _ hA2; have HM3 := Lib.hid (HM2.out.trans hm (fun _ h => nomatch h)); have e2 : w3.cell? ⟨p, 2, none⟩ = some (.int .i64 k) := (HR.out.mods HM3.out (by simp)).cell 2; have g2 : w3.frozen? ⟨p, 2, none⟩ = false := (HR.out.mods HM3.out (by simp)).free 2; clear hm hA2)
                | (go_at_call 32; refine (HX.out _ _ HA2.out).mono ?_; rintro e w4 ⟨rfl, rfl⟩))
              go_ret
              exact ⟨by rw [show minOf false = 1 from rfl, HC.out]; rfl, fun _ => (HR.out.mods HM3.out (by simp)).set 2 _, (HM3.out.more (by simp)).setCell (.inl (by simp)) _⟩
            · have HC := Lib.hid (H2.out h1)
              have hgt : decide ((n : Int) - 1 > 0) = true := decide_eq_true (by omega)
              clear H1 H2
              go_enter Tryd.func18, Tryd.ntmps18
              go_wp2_with (first
                | (go_at_call 17; refine HH.out.mono ?_; rintro e w1 ⟨rfl, hm⟩; have d1 := cell_mods c1 hm (by simp); have HM1 := Lib.hid hm; clear hm)
                | (go_at_call 15; refine (HV.out _ HM1.out).mono ?_; rintro e w2 ⟨u, rfl, hA, hm⟩; have HA := Lib.hid hA; have HM2 := Lib.hid (HM1.out.trans hm (fun _ h => nomatch h)); clear hA hm)
                | (go_at_call 20; refine (HT.out _ _ HA.out).mono ?_; rintro e w3 ⟨u2, rfl, hA2, hm⟩; have HA2 := Lib.hid hA2; obtain ⟨a, cap, rfl⟩ := HN.out _ _ hA2; have HM3 := Lib.hid (HM2.out.trans hm (fun _ h => nomatch h)); clear hm hA2)
                | (go_at_call 32; refine (HX.out _ _ HA2.out).mono ?_; rintro e w4 ⟨rfl, rfl⟩))
              go_ret
              exact ⟨by rw [show minOf false = 1 from rfl, HC.out]; rfl, fun h => absurd (HC.out.symm.trans h) (by decide), HM3.out.more (by simp)⟩
          · have HC := Lib.hid (cod_bad hT h0 hi)
            generalize Lib.idxOfS (L.map ba) chB = i at *
            clear hT h0
            generalize L.length = n at *
            have hne : (i != ((n : Int) - 1)) = true := by simpa using hi
            have hlt : decide ((n : Int) - 1 < 0) = false := decide_eq_false (by omega)
            clear hi
            go_enter Tryd.func18, Tryd.ntmps18
            go_wp2_with (first
              | (go_at_call 17; refine HH.out.mono ?_; rintro e w1 ⟨rfl, hm⟩; have d1 := cell_mods c1 hm (by simp); have HM1 := Lib.hid hm; clear hm)
              | (go_at_call 15; refine (HV.out _ HM1.out).mono ?_; rintro e w2 ⟨u, rfl, hA, hm⟩; have HA := Lib.hid hA; have HM2 := Lib.hid (HM1.out.trans hm (fun _ h => nomatch h)); clear hA hm)
              | (go_at_call 20; refine (HT.out _ _ HA.out).mono ?_; rintro e w3 ⟨u2, rfl, hA2, hm⟩; have HA2 := Lib.hid hA2; obtain ⟨a, cap, rfl⟩ := HN.out _ _ hA2; have HM3 := Lib.hid (HM2.out.trans hm (fun _ h => nomatch h)); clear hm hA2)
              | (go_at_call 32; refine (HX.out _ _ HA2.out).mono ?_; rintro e w4 ⟨rfl, rfl⟩))
            go_ret
            exact ⟨by rw [show minOf false = 1 from rfl, HC.out]; rfl, fun h => absurd (HC.out.symm.trans h) (by decide), HM3.out.more (by simp)⟩
    · rw [show decide (cl ≠ []) = true from decide_eq_true hcl] at HH
      have HC := Lib.hid (cod_len (te := te) hcl (minOf false))
      clear hcl
      go_enter Tryd.func18, Tryd.ntmps18
      go_wp2_with (go_at_call 17; refine HH.out.mono ?_; rintro e w1 ⟨rfl, hm⟩; have HM1 := Lib.hid hm; clear hm)
      go_ret
      exact ⟨by rw [HC.out]; rfl, fun h => absurd (HC.out.symm.trans h) (by decide), HM1.out.more (by simp)⟩
end Go.Proofs.YtcliapfoimnkiaaDoor
