/- The steps of the code's walk through a head: connection, expect; and Of: how a request goes on, or the status by which it is refused. Conditions: names of at most a million bytes, values of at most 900000 bytes in all. -/
import Derived.Test.YtcliapfoimnkiaaDoorFx12
namespace Go.Proofs.YtcliapfoimnkiaaDoor
open Go.RowKit
set_option linter.unusedVariables false
set_option linter.unusedSimpArgs false

def clB : ByteArray := ⟨#[99, 108, 111, 115, 101]⟩
def kpB : ByteArray := ⟨#[107, 101, 101, 112, 45, 97, 108, 105, 118, 101]⟩
theorem has_close {con : List ByteArray} {L : List (List UInt8)} (h : toksO con = some L) : hasL closeL con = Lib.containsS (L.map ba) clB := by
  unfold hasL; rw [h, show clB = ba closeL from rfl, has_contains, show lowL closeL = closeL by decide +kernel]
theorem has_keep {con : List ByteArray} {L : List (List UInt8)} (h : toksO con = some L) : hasL keepL con = Lib.containsS (L.map ba) kpB := by
  unfold hasL; rw [h, show kpB = ba keepL from rfl, has_contains, show lowL keepL = keepL by decide +kernel]
/-- The status of Connection. -/
def conS (con : List ByteArray) : Int := if toksO con = none then 400 else 0
set_option maxRecDepth 10000 in
set_option maxHeartbeats 1000000 in
theorem connection_w {w : World} {p : Nat} {el : Bool} {fp : Value} {k l : Int} {c x : Bool} {S : List FV} {B : Nat} (hr : WkA w p el fp k l c x) (hf : FP 36 B w fp S) (hs : Lite S) :
    Calls Tryd.prog 11 #[ptr p] w (Step w p (conS (valsF S nCon)) el fp k l (closeS (minOf el) (valsF S nCon)) x) := by
  have c1 : w.cell? ⟨p, 1, none⟩ = some fp := hr.cell 1
  have HS := Lib.hid (hs.vals nCon)
  have HR := Lib.hid hr
  have HV := Lib.hid (vals_p nCon w hf (by decide))
  obtain ⟨A, rfl⟩ := hf.form
  clear hr hf hs
  unfold ptr
  generalize valsF S nCon = con at *
  cases hT : toksO con with
  | none =>
    have HC := Lib.hid (show conS con = 400 by unfold conS; rw [if_pos hT])
    have HT := Lib.hid (fun v w h => tok_n hT v w h HS.out)
    clear hT
    go_enter Tryd.func11, Tryd.ntmps11
    go_wp2_with (first
      | (go_at_call 15; refine HV.out.mono ?_; rintro e w2 ⟨u, rfl, hA, hm⟩; have HA := Lib.hid hA; have HM2 := Lib.hid hm; clear hA hm)
      | (go_at_call 20; refine (HT.out _ _ HA.out).mono ?_; rintro e w3 ⟨rfl, hm⟩; have HM3 := Lib.hid (HM2.out.trans hm (fun _ h => nomatch h)); clear hm))
    go_ret
    exact ⟨by rw [HC.out]; rfl, fun h => absurd (HC.out.symm.trans h) (by decide), HM3.out.more (by simp)⟩
  | some L =>
    have hlen := Nat.le_trans (toksO_len hT) HS.out
    have HT := Lib.hid (fun v w h => tok_y hT v w h HS.out)
    have HC := Lib.hid (show conS con = 0 by unfold conS; rw [if_neg (by rw [hT]; simp)])
    have hcc : closeS (minOf el) con = (Lib.containsS (L.map ba) clB || (decide (minOf el = 0) && !Lib.containsS (L.map ba) kpB)) := by unfold closeS; rw [has_close hT, has_keep hT]
    have H1 := Lib.hid (fun v w h => contains_any (L.map ba) v clB w h (by rw [List.length_map]; omega))
    have H2 := Lib.hid (fun v w h => contains_any (L.map ba) v kpB w h (by rw [List.length_map]; omega))
    generalize Lib.containsS (L.map ba) clB = bc at *
    generalize Lib.containsS (L.map ba) kpB = bk at *
    have HCC := Lib.hid hcc
    have HN := Lib.hid (fun W v (h : StrsAt W v (L.map ba)) => strs_map h)
    clear hT hcc hlen
    cases bc <;> cases el <;> cases bk
    all_goals
      go_enter Tryd.func11, Tryd.ntmps11
      go_wp2_with (first
        | (go_at_call 15; refine HV.out.mono ?_; rintro e w2 ⟨u, rfl, hA, hm⟩; have HA := Lib.hid hA; have HM2 := Lib.hid hm; clear hA hm)
        | (go_at_call 20; refine (HT.out _ _ HA.out).mono ?_; rintro e w3 ⟨u2, rfl, hA2, hm⟩; have HA2 := Lib.hid hA2; have HM3 := Lib.hid (HM2.out.trans hm (fun _ h => nomatch h)); obtain ⟨a, cap, rfl⟩ := HN.out _ _ hA2; have d0 := (HR.out.mods HM3.out (by simp)).cell 0; have d4 := (HR.out.mods HM3.out (by simp)).cell 4; have g4 := (HR.out.mods HM3.out (by simp)).free 4; simp only [List.getElem?_toArray, List.getElem?_cons_zero, List.getElem?_cons_succ] at d0 d4; clear hm hA2)
        | (go_at_call 21; (with_reducible show Calls _ _ #[_, .string ⟨#[99, 108, 111, 115, 101]⟩] _ _); refine (H1.out _ _ HA2.out).mono ?_; rintro e w4 ⟨rfl, rfl⟩)
        | (go_at_call 21; (with_reducible show Calls _ _ #[_, .string ⟨#[107, 101, 101, 112, 45, 97, 108, 105, 118, 101]⟩] _ _); refine (H2.out _ _ HA2.out).mono ?_; rintro e w5 ⟨rfl, rfl⟩))
      go_ret
      exact ⟨by rw [HC.out]; rfl, fun _ => by rw [HCC.out]; exact (HR.out.mods HM3.out (by simp)).set 4 _, (HM3.out.more (by simp)).setCell (.inl (by simp)) _⟩

/-- The status of Expect, and whether somebody waits. -/
def expS (m : Int) (S : List FV) : Int := if m = 1 ∧ valsF S nExp ≠ [] ∧ sameL (getF S nExp) contB = false then 417 else 0
def expX (m k l : Int) (S : List FV) : Bool := decide (m = 1 ∧ valsF S nExp ≠ []) && (k == 2 || decide (0 < l))
theorem getF_size {S : List FV} (hl : S.length ≤ 24) (hs : Small S) (n : ByteArray) : (getF S n).size ≤ 24000048 := by
  have h := join_bound _ (valsF_small hs n)
  have h2 := valsF_len S n
  have h3 : (getF S n).size = (getL S n).length := rfl
  have h4 := Nat.mul_le_mul_right 1000002 (show (valsF S n).length ≤ 24 by omega)
  unfold getL at h3
  omega
theorem FP.same {t : TypeId} {B : Nat} {w : World} {fp : Value} {S : List FV} (h : FP t B w fp S) : S.length ≤ 24 ∧ Small S := by
  rcases h with ⟨_, rfl⟩ | ⟨g, v, _, hf, _⟩
  · exact ⟨by simp, fun _ h => nomatch h⟩
  · exact ⟨hf.len, hf.small⟩
set_option maxRecDepth 10000 in
set_option maxHeartbeats 1000000 in
theorem expect_w {w : World} {p : Nat} {el : Bool} {fp : Value} {k l : Int} {c : Bool} {S : List FV} {B : Nat} (hr : WkA w p el fp k l c false) (hf : FP 36 B w fp S) (hs : Lite S) :
    Calls Tryd.prog 12 #[ptr p] w (Step w p (expS (minOf el) S) el fp k l c (expX (minOf el) k l S)) := by
  have c0 : w.cell? ⟨p, 0, none⟩ = some (.bool el) := hr.cell 0
  have c1 : w.cell? ⟨p, 1, none⟩ = some fp := hr.cell 1
  have HR := Lib.hid hr
  have HH := Lib.hid (has_p nExp w hf (by decide))
  cases el with
  | true =>
    have HC := Lib.hid (show expS (minOf true) S = 0 by unfold expS minOf; simp)
    have HX := Lib.hid (show expX (minOf true) k l S = false by unfold expX minOf; simp)
    obtain ⟨A, rfl⟩ := hf.form
    clear hr hf hs
    unfold ptr
    go_enter Tryd.func12, Tryd.ntmps12
    go_wp2
    go_ret
    exact ⟨by rw [HC.out]; rfl, fun _ => by rw [HX.out]; exact HR.out, Mods.refl _ _⟩
  | false =>
    by_cases hv : valsF S nExp = []
    · rw [show decide (valsF S nExp ≠ []) = false from decide_eq_false (by simpa using hv)] at HH
      have HC := Lib.hid (show expS (minOf false) S = 0 by unfold expS; rw [hv]; simp)
      have HX := Lib.hid (show expX (minOf false) k l S = false by unfold expX; rw [hv]; simp)
      obtain ⟨A, rfl⟩ := hf.form
      clear hr hf hs hv
      unfold ptr
      go_enter Tryd.func12, Tryd.ntmps12
      go_wp2_with (go_at_call 17; refine HH.out.mono ?_; rintro e w1 ⟨rfl, hm⟩; have HM1 := Lib.hid hm; clear hm)
      go_ret
      exact ⟨by rw [HC.out]; rfl, fun _ => by rw [HX.out]; exact HR.out.mods HM1.out (by simp), HM1.out.more (by simp)⟩
    · rw [show decide (valsF S nExp ≠ []) = true from decide_eq_true hv] at HH
      have hgs := getF_size hf.same.1 hf.same.2 nExp
      have HG := Lib.hid (fun w' (hm : Mods [] w w') => get_p nExp w' (hf.low hm) (by decide) hv)
      have HSM := Lib.hid (fun w => same_a (getF S nExp) contB w (by unfold maxLen; omega) (by decide))
      have HX := Lib.hid (show expX (minOf false) k l S = (k == 2 || decide (0 < l)) by unfold expX; rw [decide_eq_true ⟨rfl, hv⟩]; rfl)
      have hce : expS (minOf false) S = if sameL (getF S nExp) contB = false then 417 else 0 := by
        unfold expS
        by_cases h : sameL (getF S nExp) contB = false
        · rw [if_pos ⟨rfl, hv, h⟩, if_pos h]
        · rw [if_neg (fun h2 => h h2.2.2), if_neg h]
      obtain ⟨A, rfl⟩ := hf.form
      generalize getF S nExp = gx at *
      generalize sameL gx contB = bs at *
      clear hr hf hs hv
      unfold ptr
      cases bs with
      | false =>
        have HC := Lib.hid (show expS (minOf false) S = 417 by rw [hce]; rfl)
        clear hce
        go_enter Tryd.func12, Tryd.ntmps12
        go_wp2_with (first
          | (go_at_call 17; refine HH.out.mono ?_; rintro e w1 ⟨rfl, hm⟩; have HM1 := Lib.hid hm; have d1 := cell_mods c1 hm (by simp); clear hm)
          | (go_at_call 23; refine (HG.out _ HM1.out).mono ?_; rintro e w2 ⟨rfl, hm⟩; have HM2 := Lib.hid (HM1.out.trans hm (fun _ h => nomatch h)); clear hm)
          | (go_at_call 22; refine (HSM.out _).mono ?_; rintro e w3 ⟨rfl, nn, hd⟩; have HM3 := Lib.hid (show Mods [] w w3 by rw [hd]; exact HM2.out.drewN nn); clear hd))
        go_ret
        exact ⟨by rw [HC.out]; rfl, fun h => absurd (HC.out.symm.trans h) (by decide), HM3.out.more (by simp)⟩
      | true =>
        have HC := Lib.hid (show expS (minOf false) S = 0 by rw [hce]; rfl)
        clear hce
        by_cases hk : k = 2
        · subst hk
          go_enter Tryd.func12, Tryd.ntmps12
          go_wp2_with (first
            | (go_at_call 17; refine HH.out.mono ?_; rintro e w1 ⟨rfl, hm⟩; have HM1 := Lib.hid hm; have d1 := cell_mods c1 hm (by simp); clear hm)
            | (go_at_call 23; refine (HG.out _ HM1.out).mono ?_; rintro e w2 ⟨rfl, hm⟩; have HM2 := Lib.hid (HM1.out.trans hm (fun _ h => nomatch h)); clear hm)
            | (go_at_call 22; refine (HSM.out _).mono ?_; rintro e w3 ⟨rfl, nn, hd⟩; have HM3 := Lib.hid (show Mods [] w w3 by rw [hd]; exact HM2.out.drewN nn); have d2 : w3.cell? ⟨p, 2, none⟩ = some (.int .i64 2) := (HR.out.mods HM3.out (by simp)).cell 2; have d5 : w3.cell? ⟨p, 5, none⟩ = some (.bool false) := (HR.out.mods HM3.out (by simp)).cell 5; have g5 : w3.frozen? ⟨p, 5, none⟩ = false := (HR.out.mods HM3.out (by simp)).free 5; clear hd))
          go_ret
          exact ⟨by rw [HC.out]; rfl, fun _ => by rw [HX.out]; exact (HR.out.mods HM3.out (by simp)).set 5 _, (HM3.out.more (by simp)).setCell (.inl (by simp)) _⟩
        · have hk1 : (k == 2) = false := by simpa using hk
          clear hk
          rw [hk1, Bool.false_or] at HX
          go_enter Tryd.func12, Tryd.ntmps12
          go_wp2_with (first
            | (go_at_call 17; refine HH.out.mono ?_; rintro e w1 ⟨rfl, hm⟩; have HM1 := Lib.hid hm; have d1 := cell_mods c1 hm (by simp); clear hm)
            | (go_at_call 23; refine (HG.out _ HM1.out).mono ?_; rintro e w2 ⟨rfl, hm⟩; have HM2 := Lib.hid (HM1.out.trans hm (fun _ h => nomatch h)); clear hm)
            | (go_at_call 22; refine (HSM.out _).mono ?_; rintro e w3 ⟨rfl, nn, hd⟩; have HM3 := Lib.hid (show Mods [] w w3 by rw [hd]; exact HM2.out.drewN nn); have d2 : w3.cell? ⟨p, 2, none⟩ = some (.int .i64 k) := (HR.out.mods HM3.out (by simp)).cell 2; have d3 : w3.cell? ⟨p, 3, none⟩ = some (.int .i64 l) := (HR.out.mods HM3.out (by simp)).cell 3; have d5 : w3.cell? ⟨p, 5, none⟩ = some (.bool false) := (HR.out.mods HM3.out (by simp)).cell 5; have g5 : w3.frozen? ⟨p, 5, none⟩ = false := (HR.out.mods HM3.out (by simp)).free 5; clear hd))
          go_ret
          exact ⟨by rw [HC.out]; rfl, fun _ => by rw [HX.out]; exact (HR.out.mods HM3.out (by simp)).set 5 _, (HM3.out.more (by simp)).setCell (.inl (by simp)) _⟩
end Go.Proofs.YtcliapfoimnkiaaDoor
