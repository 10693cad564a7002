/- The steps of the code's walk through a head: length, body, connection, expect. Conditions: names of at most a million bytes, values of at most 900000 bytes in all. -/
import Derived.Test.YtcliapfoimnkiaaDoorFw12
import Derived.Test.YtcliapfoimnkiaaDoorLz9
namespace Go.Proofs.YtcliapfoimnkiaaDoor
open Go.RowKit
set_option linter.unusedVariables false
set_option linter.unusedSimpArgs false

/-! Lengths. -/
def numF (y : List UInt8) : Int := (numB 10 15 y).1
def goodF (f : Int) (y : List UInt8) : Bool := (numB 10 15 y).2 && numF y == f
theorem lenN_cons (x : List UInt8) (r : List (List UInt8)) : lenN (x :: r) = if (numB 10 15 x).2 = true ∧ r.all (fun y => (numB 10 15 y).2 && (numB 10 15 y).1 == (numB 10 15 x).1) = true then some (numB 10 15 x).1 else none := rfl
theorem lenN_all {x : List UInt8} {r : List (List UInt8)} (h : ∀ j (hj : j < (x :: r).length), goodF (numF x) (x :: r)[j] = true) : lenN (x :: r) = some (numF x) := by
  have h0 := h 0 (by simp)
  unfold goodF at h0
  simp only [List.getElem_cons_zero, Bool.and_eq_true] at h0
  rw [lenN_cons, if_pos ⟨h0.1, List.all_eq_true.2 fun y hy => by
    obtain ⟨j, hj, rfl⟩ := List.mem_iff_getElem.1 hy
    have := h (j + 1) (by simp; omega)
    rw [List.getElem_cons_succ] at this
    exact this⟩]
  rfl
theorem lenN_bad {x : List UInt8} {r : List (List UInt8)} {j : Nat} (hj : j < (x :: r).length) (h : goodF (numF x) (x :: r)[j] = false) : lenN (x :: r) = none := by
  rw [lenN_cons, if_neg]
  rintro ⟨h1, h2⟩
  cases j with
  | zero =>
    rw [List.getElem_cons_zero] at h
    unfold goodF at h
    rw [h1] at h
    simp at h
  | succ j =>
    rw [List.getElem_cons_succ] at h
    have := List.all_eq_true.1 h2 _ (List.getElem_mem (h := by simp at hj; omega))
    unfold goodF at h
    exact absurd (this.symm.trans h) (by simp)
theorem len_toks {cl : List ByteArray} (h : toksO cl = none) : lenS cl = (0, 400) := by unfold lenS; rw [h]
theorem lenv_nil {cl : List ByteArray} (h : toksO cl = some []) : lenS cl = (0, 400) := by unfold lenS; rw [h]; rfl
theorem len_bad {cl : List ByteArray} {L : List (List UInt8)} (h : toksO cl = some L) (h2 : lenN L = none) : lenS cl = (0, 400) := by unfold lenS; rw [h]; simp only; rw [h2]
theorem len_big {cl : List ByteArray} {L : List (List UInt8)} {n : Int} (h : toksO cl = some L) (h2 : lenN L = some n) (h3 : 2048 < n) : lenS cl = (0, 413) := by unfold lenS; rw [h]; simp only; rw [h2]; simp only; rw [if_pos h3]
theorem len_ok {cl : List ByteArray} {L : List (List UInt8)} {n : Int} (h : toksO cl = some L) (h2 : lenN L = some n) (h3 : ¬ 2048 < n) : lenS cl = (n, 0) := by unfold lenS; rw [h]; simp only; rw [h2]; simp only; rw [if_neg h3]
theorem len_facts {cl : List ByteArray} {L : List (List UInt8)} (h : toksO cl = some L) (h0 : 0 < L.length) :
    (∀ j (hj : j < L.length), goodF (numF L[0]) L[j] = false → lenS cl = (0, 400)) ∧
    ((∀ j (hj : j < L.length), goodF (numF L[0]) L[j] = true) → 2048 < numF L[0] → lenS cl = (0, 413)) ∧
    ((∀ j (hj : j < L.length), goodF (numF L[0]) L[j] = true) → ¬ 2048 < numF L[0] → lenS cl = (numF L[0], 0)) := by
  match L, h0 with
  | y :: r, h0 => exact ⟨fun j hj hb => len_bad h (lenN_bad hj hb), fun ha h3 => len_big h (lenN_all ha) h3, fun ha h3 => len_ok h (lenN_all ha) h3⟩
theorem strs_at {W : World} {v : Value} {L : List (List UInt8)} (h : StrsAt W v (L.map ba)) (h0 : 0 < L.length) : ∃ (b off cap : Nat), v = .slice (some ⟨b, off, none⟩) L.length cap ∧ ∀ j (h : j < L.length), W.cell? ⟨b, off + j, none⟩ = some (.string (ba L[j])) := by
  rcases h with ⟨h, _⟩ | ⟨b, off, cap, hv, h0, hb, hc⟩
  · have := congrArg List.length h
    rw [List.length_map] at this
    rw [List.length_nil] at this; omega
  · refine ⟨b, off, cap, by rw [hv, List.length_map], fun j hj => ?_⟩
    have := hc j (by rw [List.length_map]; exact hj)
    rw [List.getElem_map] at this; exact this
theorem tok_size {ts : List ByteArray} {L : List (List UInt8)} (h : toksO ts = some L) (hs : sizes ts ≤ 900000) : ∀ j (hj : j < L.length), (ba L[j]).size ≤ 1000000 := fun j hj => by
  obtain ⟨p, hp, hle⟩ := tokO_size h (List.getElem_mem hj)
  have := partsO_size hp
  have e : (ba L[j]).size = L[j].length := rfl
  omega

set_option maxRecDepth 10000 in
set_option maxHeartbeats 1000000 in
theorem length_w {w : World} {p : Nat} {el : Bool} {fp : Value} {k l : Int} {c x : Bool} {S : List FV} {B : Nat} (hr : WkA w p el fp k l c x) (hf : FP 36 B w fp S) (hs : Lite S) :
    Calls Tryd.prog 19 #[ptr p] w (Step w p (lenS (valsF S nCL)).2 el fp 1 (lenS (valsF S nCL)).1 c x) := by
  have c1 : w.cell? ⟨p, 1, none⟩ = some fp := hr.cell 1
  have HS := Lib.hid (hs.vals nCL)
  have HR := Lib.hid hr
  have HV := Lib.hid (vals_p nCL w hf (by decide))
  obtain ⟨A, rfl⟩ := hf.form
  clear hr hf hs
  unfold ptr
  generalize valsF S nCL = cl at *
  cases hT : toksO cl with
  | none =>
    have HC := Lib.hid (len_toks hT)
    have HT := Lib.hid (fun v w h => tok_n hT v w h HS.out)
    clear hT
    go_enter Tryd.func19, Tryd.ntmps19
    go_wp2_with (first
      | (go_at_call 15; refine HV.out.mono ?_; rintro e w2 ⟨u, rfl, hA, hm⟩; have HA := Lib.hid hA; have HM2 := Lib.hid hm; clear hA hm)
      | (go_at_call 20; refine (HT.out _ _ HA.out).mono ?_; rintro e w3 ⟨rfl, hm⟩; have HM3 := Lib.hid (HM2.out.trans hm (fun _ h => nomatch h)); clear hm))
    go_ret
    exact ⟨by rw [HC.out]; rfl, fun h => absurd ((congrArg Prod.snd HC.out).symm.trans h) (by decide), HM3.out.more (by simp)⟩
  | some L =>
    have hlen := Nat.le_trans (toksO_len hT) HS.out
    have HT := Lib.hid (fun v w h => tok_y hT v w h HS.out)
    by_cases hn : L = []
    · subst hn
      have HC := Lib.hid (lenv_nil hT)
      clear hT hlen
      go_enter Tryd.func19, Tryd.ntmps19
      go_wp2_with (first
        | (go_at_call 15; refine HV.out.mono ?_; rintro e w2 ⟨u, rfl, hA, hm⟩; have HA := Lib.hid hA; have HM2 := Lib.hid hm; clear hA hm)
        | (go_at_call 20; refine (HT.out _ _ HA.out).mono ?_; rintro e w3 ⟨u2, rfl, hA2, hm⟩; obtain ⟨a, cap, rfl⟩ := strs_nil hA2; have HM3 := Lib.hid (HM2.out.trans hm (fun _ h => nomatch h)); clear hm hA2))
      go_ret
      exact ⟨by rw [HC.out]; rfl, fun h => absurd ((congrArg Prod.snd HC.out).symm.trans h) (by decide), HM3.out.more (by simp)⟩
    · have h0 : 0 < L.length := List.length_pos_iff.2 hn
      have HSZ := tok_size hT HS.out
      obtain ⟨hbad, hbig, hok⟩ := len_facts hT h0
      have HN := Lib.hid (fun W v (h : StrsAt W v (L.map ba)) => strs_at h h0)
      have HNU := Lib.hid (fun w j (hj : j < L.length) => num_A (ba L[j]) w (HSZ j hj))
      unfold NumIs at HNU
      have HBAD := Lib.hid hbad
      have HBIG := Lib.hid hbig
      have HOK := Lib.hid hok
      obtain ⟨f, hf⟩ : ∃ f, f = numF L[0] := ⟨_, rfl⟩
      have HF := Lib.hid (show (numB 10 15 L[0]).1 = f from hf.symm)
      rw [← hf] at HBAD HBIG HOK
      clear hT hn hbad hbig hok HSZ hf
      have hn0 := fun w => HNU.out w 0 h0
      rw [show (ba L[0]).data.toList = L[0] from rfl, HF.out] at hn0
      generalize (numB 10 15 L[0]).2 = ok0 at hn0
      have HN0 := Lib.hid hn0
      clear hn0
      have hne : decide ((L.length : Int) = 0) = false := decide_eq_false (by omega)
      go_enter Tryd.func19, Tryd.ntmps19
      go_wp2_with (first
        | (go_at_call 15; refine HV.out.mono ?_; rintro e w2 ⟨u, rfl, hA, hm⟩; have HA := Lib.hid hA; have HM2 := Lib.hid hm; clear hA hm)
        | (go_at_call 20; refine (HT.out _ _ HA.out).mono ?_; rintro e w3 ⟨u2, rfl, hA2, hm⟩; obtain ⟨b, off, cap, rfl, hc⟩ := HN.out _ _ hA2; have HM3 := Lib.hid (HM2.out.trans hm (fun _ h => nomatch h)); have d0 : w3.cell? ⟨b, off, none⟩ = some (.string (ba L[0])) := hc 0 h0; have HC := Lib.hid hc; clear hm hA2 hc)
        | (go_at_call 33; refine (HN0.out _).mono ?_; rintro e w4 ⟨rfl, rfl⟩))
      go_loopw [36] (fun i wr => ∃ k : Nat, k ≤ L.length ∧ i = .int .i64 k ∧ Mods [] w wr ∧ (∀ j (h : j < L.length), wr.cell? ⟨b, off + j, none⟩ = some (.string (ba L[j]))) ∧ ∀ j (hj : j < L.length), j < k → goodF f L[j] = true) (fun i _ => L.length - (intOf i).toNat)
      case atStart => exact ⟨0, Nat.zero_le _, rfl, HM3.out, HC.out, fun j _ h => absurd h (Nat.not_lt_zero _)⟩
      case round =>
        obtain ⟨k1, hk, rfl, hm, hc, hgood⟩ := hrel
        have HM := Lib.hid hm
        have HCW := Lib.hid hc
        have HG := Lib.hid hgood
        clear hm hc hgood
        by_cases hlt : k1 < L.length
        · have ck := HCW.out k1 hlt
          have hnu := fun w => HNU.out w k1 hlt
          have hgq : goodF f L[k1] = ((numB 10 15 L[k1]).2 && (numB 10 15 L[k1]).1 == f) := rfl
          have HBK := Lib.hid (HBAD.out k1 hlt)
          have HGK := Lib.hid (fun (h : goodF f L[k1] = true) => show ∀ j (hj : j < L.length), j < k1 + 1 → goodF f L[j] = true from fun j hj hjk => by
            by_cases e : j = k1
            · subst e; exact h
            · exact HG.out j hj (by omega))
          rw [show (ba L[k1]).data.toList = L[k1] from rfl] at hnu
          obtain ⟨xs, hxs⟩ : ∃ xs, xs = ba L[k1] := ⟨_, rfl⟩
          obtain ⟨q, hq⟩ : ∃ q, q = numB 10 15 L[k1] := ⟨_, rfl⟩
          rw [← hxs] at ck hnu
          rw [← hq] at hnu hgq
          have HNK := Lib.hid hnu
          clear hxs hq hnu
          obtain ⟨n, ok⟩ := q
          simp only at hgq HNK
          cases ok with
          | false =>
            have HB := Lib.hid (HBK.out (by rw [hgq]; rfl))
            clear hgq
            go_wp2_with (go_at_call 33; refine (HNK.out _).mono ?_; rintro e w5 ⟨rfl, rfl⟩)
            go_ret
            exact ⟨by rw [HB.out]; rfl, fun h => absurd ((congrArg Prod.snd HB.out).symm.trans h) (by decide), HM.out.more (by simp)⟩
          | true =>
            by_cases hnf : n = f
            · have HGN := Lib.hid (HGK.out (by rw [hgq]; simp [hnf]))
              have hno : (n != f) = false := by simp [hnf]
              clear hgq hnf
              go_wp2_with (go_at_call 33; refine (HNK.out _).mono ?_; rintro e w5 ⟨rfl, rfl⟩)
              go_roundw
              case rel => exact ⟨k1 + 1, by omega, by go_num, HM.out, HCW.out, HGN.out⟩
              case measure => simp [intOf]; omega
            · have HB := Lib.hid (HBK.out (by rw [hgq]; simpa using hnf))
              have hno : (n != f) = true := by simpa using hnf
              clear hgq hnf
              go_wp2_with (go_at_call 33; refine (HNK.out _).mono ?_; rintro e w5 ⟨rfl, rfl⟩)
              go_ret
              exact ⟨by rw [HB.out]; rfl, fun h => absurd ((congrArg Prod.snd HB.out).symm.trans h) (by decide), HM.out.more (by simp)⟩
        · have hall := fun j (hj : j < L.length) => HG.out j hj (by omega)
          have e2 : wr.cell? ⟨p, 2, none⟩ = some (.int .i64 k) := (HR.out.mods HM.out (by simp)).cell 2
          have g2 : wr.frozen? ⟨p, 2, none⟩ = false := (HR.out.mods HM.out (by simp)).free 2
          have e3 : wr.cell? ⟨p, 3, none⟩ = some (.int .i64 l) := (HR.out.mods HM.out (by simp)).cell 3
          have g3 : wr.frozen? ⟨p, 3, none⟩ = false := (HR.out.mods HM.out (by simp)).free 3
          by_cases hb : 2048 < f
          · have HB := Lib.hid (HBIG.out hall hb)
            clear hall
            go_wp2
            go_ret
            exact ⟨by rw [HB.out]; rfl, fun h => absurd ((congrArg Prod.snd HB.out).symm.trans h) (by decide), HM.out.more (by simp)⟩
          · have HB := Lib.hid (HOK.out hall (by omega))
            clear hall
            go_wp2
            go_ret
            exact ⟨by rw [HB.out]; rfl, fun _ => by rw [HB.out]; exact ((HR.out.mods HM.out (by simp)).set 2 _).set 3 _, ((HM.out.more (by simp)).setCell (.inl (by simp)) _).setCell (.inl (by simp)) _⟩

/-! Body: by a coding, a length, none. -/
theorem body_te {m : Int} {S : List FV} (h : valsF S nTE ≠ []) : bodyS m S = (2, 0, codS m (valsF S nCL) (valsF S nTE)) := by unfold bodyS; rw [if_pos h]
theorem body_cl {m : Int} {S : List FV} (h : valsF S nTE = []) (h2 : valsF S nCL ≠ []) : bodyS m S = (1, (lenS (valsF S nCL)).1, (lenS (valsF S nCL)).2) := by unfold bodyS; rw [if_neg (by simpa using h), if_pos h2]
theorem body_no {m : Int} {S : List FV} (h : valsF S nTE = []) (h2 : valsF S nCL = []) : bodyS m S = (0, 0, 0) := by unfold bodyS; rw [if_neg (by simpa using h), if_neg (by simpa using h2)]
set_option maxRecDepth 10000 in
theorem body_w {w : World} {p : Nat} {el : Bool} {fp : Value} {k : Int} {c x : Bool} {S : List FV} {B : Nat} (hr : WkA w p el fp k 0 c x) (hf : FP 36 B w fp S) (hs : Lite S) :
    Calls Tryd.prog 10 #[ptr p] w (Step w p (bodyS (minOf el) S).2.2 el fp (bodyS (minOf el) S).1 (bodyS (minOf el) S).2.1 c x) := by
  have c1 : w.cell? ⟨p, 1, none⟩ = some fp := hr.cell 1
  have HR := Lib.hid hr
  have HT := Lib.hid (has_p nTE w hf (by decide))
  have HL := Lib.hid (fun w' (hm : Mods [] w w') => has_p nCL w' (hf.low hm) (by decide))
  have HCW := Lib.hid (fun w' (hm : Mods [] w w') => coding_w (hr.mods hm (by simp)) (hf.low hm) hs)
  have HLW := Lib.hid (fun w' (hm : Mods [] w w') => length_w (hr.mods hm (by simp)) (hf.low hm) hs)
  obtain ⟨A, rfl⟩ := hf.form
  clear hr hf hs
  unfold ptr at *
  by_cases hte : valsF S nTE = []
  · rw [show decide (valsF S nTE ≠ []) = false from decide_eq_false (by simpa using hte)] at HT
    by_cases hcl : valsF S nCL = []
    · rw [show decide (valsF S nCL ≠ []) = false from decide_eq_false (by simpa using hcl)] at HL
      have HB := Lib.hid (body_no (m := minOf el) hte hcl)
      clear hte hcl HCW HLW
      go_enter Tryd.func10, Tryd.ntmps10
      go_wp2_with (first
        | (go_at_call 17; (with_reducible show Calls _ _ #[_, .string ⟨#[84, 114, 97, 110, 115, 102, 101, 114, 45, 69, 110, 99, 111, 100, 105, 110, 103]⟩] _ _); refine HT.out.mono ?_; rintro e w1 ⟨rfl, hm⟩; have d1 := cell_mods c1 hm (by simp); have HM1 := Lib.hid hm; clear hm)
        | (go_at_call 17; refine (HL.out _ HM1.out).mono ?_; rintro e w2 ⟨rfl, hm⟩; have HM2 := Lib.hid (HM1.out.trans hm (fun _ h => nomatch h)); have e2 : w2.cell? ⟨p, 2, none⟩ = some (.int .i64 k) := (HR.out.mods HM2.out (by simp)).cell 2; have g2 : w2.frozen? ⟨p, 2, none⟩ = false := (HR.out.mods HM2.out (by simp)).free 2; clear hm))
      go_ret
      rw [HB.out]
      exact ⟨rfl, fun _ => (HR.out.mods HM2.out (by simp)).set 2 _, (HM2.out.more (by simp)).setCell (.inl (by simp)) _⟩
    · rw [show decide (valsF S nCL ≠ []) = true from decide_eq_true hcl] at HL
      have HB := Lib.hid (body_cl (m := minOf el) hte hcl)
      clear hte hcl HCW
      go_enter Tryd.func10, Tryd.ntmps10
      go_wp2_with (first
        | (go_at_call 17; (with_reducible show Calls _ _ #[_, .string ⟨#[84, 114, 97, 110, 115, 102, 101, 114, 45, 69, 110, 99, 111, 100, 105, 110, 103]⟩] _ _); refine HT.out.mono ?_; rintro e w1 ⟨rfl, hm⟩; have d1 := cell_mods c1 hm (by simp); have HM1 := Lib.hid hm; clear hm)
        | (go_at_call 17; refine (HL.out _ HM1.out).mono ?_; rintro e w2 ⟨rfl, hm⟩; have HM2 := Lib.hid (HM1.out.trans hm (fun _ h => nomatch h)); clear hm)
        | (go_at_call 19; refine (HLW.out _ HM2.out).mono ?_; rintro e w3 ⟨rfl, hs, hm⟩; have HS3 := Lib.hid hs; have HM3 := Lib.hid ((HM2.out.more (F2 := [p]) (by simp)).trans hm (fun _ h => .inl h)); clear hm hs))
      go_ret
      rw [HB.out]
      exact ⟨rfl, HS3.out, HM3.out⟩
  · rw [show decide (valsF S nTE ≠ []) = true from decide_eq_true hte] at HT
    have HB := Lib.hid (body_te (m := minOf el) hte)
    clear hte HL HLW
    go_enter Tryd.func10, Tryd.ntmps10
    go_wp2_with (first
      | (go_at_call 17; refine HT.out.mono ?_; rintro e w1 ⟨rfl, hm⟩; have HM1 := Lib.hid hm; clear hm)
      | (go_at_call 18; refine (HCW.out _ HM1.out).mono ?_; rintro e w3 ⟨rfl, hs, hm⟩; have HS3 := Lib.hid hs; have HM3 := Lib.hid ((HM1.out.more (F2 := [p]) (by simp)).trans hm (fun _ h => .inl h)); clear hm hs))
    go_ret
    rw [HB.out]
    exact ⟨rfl, HS3.out, HM3.out⟩
end Go.Proofs.YtcliapfoimnkiaaDoor
