/- The document's host, coding, length by their plain answers. Conditions: names of at most a million bytes, values of at most 900000 bytes in all. -/
import Derived.Test.YtcliapfoimnkiaaGreatDoorMhA
import Derived.Test.YtcliapfoimnkiaaGreatDoorFk10
import Derived.Test.YtcliapfoimnkiaaGreatDoorRh9
import Derived.Test.YtcliapfoimnkiaaGreatDoorTe11
import Derived.Deep.DeepCutAuto
import Derived.Deep.CutBlock
namespace Go.Proofs.YtcliapfoimnkiaaGreatDoor
open Go.RowKit
set_option linter.unusedVariables false
set_option linter.unusedSimpArgs false

section
variable {g : Nat} {v : Value} {S : List FV} {w : World}
theorem vals_r (n : ByteArray) (w : World) (h : Fld 48 w g v S) (hn : n.size ≤ 1000000) :
    Calls Tryz.prog 17 #[ptr g, .string n] w fun e w' => ∃ u, e = .returned u ∧ StrsAt w' u (valsF S n) ∧ Mods [] w w' :=
  (rvals n w h hn).mono fun e w' ⟨u, h1, hG⟩ => ⟨u, h1, .of_ss (SsAt.of_row hG.row), hG.low⟩
theorem rtok_y {ts : List ByteArray} {L : List (List UInt8)} (hL : toksO ts = some L) (v : Value) (w : World) (h : StrsAt w v ts) (hs : sizes ts ≤ 900000) :
    Calls Tryz.prog 20 #[v] w fun e w' => ∃ u, e = .returned (.tuple #[u, .bool true]) ∧ StrsAt w' u (L.map ba) ∧ Mods [] w w' := by
  refine (reftok ts v w h (by omega)).mono fun e w' ⟨hb, ha⟩ => ?_
  rw [hL] at ha
  obtain ⟨u, h1, h2⟩ := ha
  exact ⟨u, h1, row_strs h2, .of_below hb⟩
theorem rtok_n {ts : List ByteArray} (hL : toksO ts = none) (v : Value) (w : World) (h : StrsAt w v ts) (hs : sizes ts ≤ 900000) :
    Calls Tryz.prog 20 #[v] w fun e w' => e = .returned (.tuple #[.slice none 0 0, .bool false]) ∧ Mods [] w w' := by
  refine (reftok ts v w h (by omega)).mono fun e w' ⟨hb, ha⟩ => ?_
  rw [hL] at ha
  exact ⟨ha, .of_below hb⟩
theorem rhas (tok : ByteArray) (ts : List ByteArray) (v : Value) (w : World) (h : StrsAt w v ts) (hs : sizes ts ≤ 900000) (ht : tok.size ≤ 1000000) {r : Bool} (hr : hasL tok.data.toList ts = r) :
    Calls Tryz.prog 21 #[.string tok, v] w fun e w' => e = .returned (.bool r) ∧ Mods [] w w' :=
  (refhas tok ts v w h (by omega) ht).mono fun e w' ⟨h1, hb⟩ => ⟨by rw [h1, hr], .of_below hb⟩

set_option maxRecDepth 10000 in
theorem host12_r {m : Int} (h01 : m = 0 ∨ m = 1) (h : Fld 48 w g v S) (hs : Lite S) :
    Calls Tryz.prog 16 #[.int .i64 m, ptr g] w fun e w' => e = .returned (.bool (hostOk m (valsF S nHost))) ∧ Mods [] w w' := by
  have HV := Lib.hid (vals_r nHost w h (by decide))
  have HS := Lib.hid (hs.vals nHost)
  clear h hs
  unfold ptr at *
  generalize valsF S nHost = vs at *
  match vs with
  | [] =>
    rcases h01 with rfl | rfl
    · go_enter Tryz.func16, Tryz.ntmps16
      go_wp2_with (go_at_call 17; refine HV.out.mono ?_; rintro e w1 ⟨u, rfl, hA, hm⟩; obtain ⟨a, cap, rfl⟩ := strs_nil hA; have HM := Lib.hid hm; clear hA hm)
      go_ret
      exact ⟨rfl, HM.out⟩
    · go_enter Tryz.func16, Tryz.ntmps16
      go_wp2_with (go_at_call 17; refine HV.out.mono ?_; rintro e w1 ⟨u, rfl, hA, hm⟩; obtain ⟨a, cap, rfl⟩ := strs_nil hA; have HM := Lib.hid hm; clear hA hm)
      go_ret
      exact ⟨rfl, HM.out⟩
  | [x] =>
    have HI := Lib.hid (fun w => host_r x w (by have := HS.out; simp only [sizes] at this; omega))
    have HO := Lib.hid (show hostOk m [x] = (decide (x.data.toList = []) || hostL x.data.toList) from rfl)
    clear h01
    by_cases hx : x.data.toList = []
    · have he := text_eq hx
      have HE := Lib.hid (decide_eq_true hx)
      clear hx
      go_enter Tryz.func16, Tryz.ntmps16
      go_wp2_with (go_at_call 17; refine HV.out.mono ?_; rintro e w1 ⟨u, rfl, hA, hm⟩; obtain ⟨b, off, cap, rfl, d1⟩ := strs_one hA; have HM := Lib.hid hm; clear hA hm)
      go_ret
      exact ⟨by rw [HO.out, HE.out]; rfl, HM.out⟩
    · have he := text_ne hx
      have HE := Lib.hid (decide_eq_false hx)
      clear hx
      go_enter Tryz.func16, Tryz.ntmps16
      go_wp2_with (first
        | (go_at_call 17; refine HV.out.mono ?_; rintro e w1 ⟨u, rfl, hA, hm⟩; obtain ⟨b, off, cap, rfl, d1⟩ := strs_one hA; have HM := Lib.hid hm; clear hA hm)
        | (go_at_call 37; refine (HI.out _).mono ?_; rintro e w2 ⟨rfl, rfl⟩))
      go_ret
      exact ⟨by rw [HO.out, HE.out]; rfl, HM.out⟩
  | x :: y :: r =>
    go_enter Tryz.func16, Tryz.ntmps16
    go_wp2_with (go_at_call 17; refine HV.out.mono ?_; rintro e w1 ⟨u, rfl, hA, hm⟩; obtain ⟨a, n, cap, rfl, hn⟩ := strs_two hA; have hd : decide (1 < n) = true := decide_eq_true (by omega); have HM := Lib.hid hm; clear hA hm)
    go_ret
    exact ⟨rfl, HM.out⟩

/-! Codings. -/
theorem cod_lastD {L : List (List UInt8)} {i : Nat} (hi : L.length = i + 1) : L.getLastD [] = L[i] := by
  have e : L.length - 1 = i := by omega
  rw [List.getLastD_eq_getLast?, List.getLast?_eq_getElem?, e, List.getElem?_eq_getElem (by omega)]; rfl
theorem codR_last {te : List ByteArray} {L : List (List UInt8)} {i : Nat} (h : toksO te = some L) (hi : L.length = i + 1) (hl : L[i] ≠ chunkedL) : codS 1 [] te = 400 := by
  unfold codS
  rw [if_neg (by simp), h]
  simp only
  rw [if_pos (by rw [cod_lastD hi]; exact hl)]
theorem codR_one {te : List ByteArray} {L : List (List UInt8)} (h : toksO te = some L) (hi : L.length = 0 + 1) (hl : L[0] = chunkedL) : codS 1 [] te = 0 := by
  unfold codS
  rw [if_neg (by simp), h]
  simp only
  rw [cod_lastD hi, if_neg (by simpa using hl), if_pos hi]
theorem codR_in {te : List ByteArray} {L : List (List UInt8)} {i j : Nat} (h : toksO te = some L) (hi : L.length = i + 1) (hl : L[i] = chunkedL) (hj : j < i) (he : L[j] = chunkedL) : codS 1 [] te = 400 := by
  unfold codS
  rw [if_neg (by simp), h]
  simp only
  rw [cod_lastD hi, if_neg (by simpa using hl), if_neg (by omega), if_pos]
  exact List.mem_iff_getElem.2 ⟨j, by rw [List.length_dropLast]; omega, by rw [List.getElem_dropLast]; exact he⟩
theorem codR_out {te : List ByteArray} {L : List (List UInt8)} {i : Nat} (h : toksO te = some L) (hi : L.length = i + 1) (hl : L[i] = chunkedL) (h0 : i ≠ 0) (he : ∀ j (hj : j < L.length), j < i → L[j] ≠ chunkedL) : codS 1 [] te = 501 := by
  unfold codS
  rw [if_neg (by simp), h]
  simp only
  rw [cod_lastD hi, if_neg (by simpa using hl), if_neg (by omega), if_neg]
  intro hm
  obtain ⟨j, hj, hx⟩ := List.mem_iff_getElem.1 hm
  rw [List.length_dropLast] at hj
  rw [List.getElem_dropLast] at hx
  exact he j (by omega) (by omega) hx
theorem ch_eq {l : List UInt8} (h : l = chunkedL) : ((ba l).toList == [99, 104, 117, 110, 107, 101, 100]) = true := text_eq h
theorem ch_ne {l : List UInt8} (h : l ≠ chunkedL) : ((ba l).toList == [99, 104, 117, 110, 107, 101, 100]) = false := text_ne h
theorem strs_ix {W : World} {v : Value} {L : List (List UInt8)} {i : Nat} (h : StrsAt W v (L.map ba)) (hi : L.length = i + 1) : ∃ (b off cap : Nat), v = .slice (some ⟨b, off, none⟩) (i + 1) cap ∧ ∀ j (h : j < L.length), W.cell? ⟨b, off + j, none⟩ = some (.string (ba L[j])) := by
  obtain ⟨b, off, cap, hv, hc⟩ := strs_at h (by omega)
  rw [hi] at hv
  exact ⟨b, off, cap, hv, hc⟩

set_option maxRecDepth 10000 in
set_option maxHeartbeats 1000000 in
theorem coding_r {m : Int} (h01 : m = 0 ∨ m = 1) (h : Fld 48 w g v S) (hs : Lite S) :
    Calls Tryz.prog 18 #[.int .i64 m, ptr g] w fun e w' => e = .returned (.int .i64 (codS m (valsF S nCL) (valsF S nTE))) ∧ Mods [] w w' := by
  have HC0 := Lib.hid (vals_r nCL w h (by decide))
  have HV0 := Lib.hid (fun w' (hm : Mods [] w w') => vals_r nTE w' (h.low hm) (by decide))
  have HS := Lib.hid (hs.vals nTE)
  clear h hs
  unfold ptr at *
  generalize valsF S nTE = te at *
  generalize valsF S nCL = cl at *
  rcases h01 with rfl | rfl
  · have HC := Lib.hid (show codS 0 cl te = 400 by unfold codS; simp)
    go_enter Tryz.func18, Tryz.ntmps18
    go_wp2
    go_ret
    exact ⟨by rw [HC.out]; rfl, Mods.refl _ _⟩
  · by_cases hcl : cl = []
    · subst hcl
      cases hT : toksO te with
      | none =>
        have HC := Lib.hid (cod_none hT)
        have HT := Lib.hid (fun v w h => rtok_n hT v w h HS.out)
        clear hT
        go_enter Tryz.func18, Tryz.ntmps18
        go_wp2_with (first
          | (go_at_call 17; (with_reducible show Calls _ _ #[_, .string ⟨#[67, 111, 110, 116, 101, 110, 116, 45, 76, 101, 110, 103, 116, 104]⟩] _ _); refine HC0.out.mono ?_; rintro e w1 ⟨u, rfl, hA, hm⟩; obtain ⟨a, cap, rfl⟩ := strs_nil hA; have HM1 := Lib.hid hm; clear hA hm)
          | (go_at_call 17; refine (HV0.out _ HM1.out).mono ?_; rintro e w2 ⟨u2, rfl, hA, hm⟩; have HA := Lib.hid hA; have HM2 := Lib.hid (HM1.out.trans hm (fun _ h => nomatch h)); clear hA hm)
          | (go_at_call 20; refine (HT.out _ _ HA.out).mono ?_; rintro e w3 ⟨rfl, hm⟩; have HM3 := Lib.hid (HM2.out.trans hm (fun _ h => nomatch h)); clear hm))
        go_ret
        exact ⟨by rw [HC.out]; rfl, HM3.out⟩
      | some L =>
        have hlen := Nat.le_trans (toksO_len hT) HS.out
        have HT := Lib.hid (fun v w h => rtok_y hT v w h HS.out)
        by_cases h0 : L = []
        · subst h0
          have HC := Lib.hid (cod_nil hT)
          clear hT hlen
          go_enter Tryz.func18, Tryz.ntmps18
          go_wp2_with (first
            | (go_at_call 17; (with_reducible show Calls _ _ #[_, .string ⟨#[67, 111, 110, 116, 101, 110, 116, 45, 76, 101, 110, 103, 116, 104]⟩] _ _); refine HC0.out.mono ?_; rintro e w1 ⟨u, rfl, hA, hm⟩; obtain ⟨a, cap, rfl⟩ := strs_nil hA; have HM1 := Lib.hid hm; clear hA hm)
            | (go_at_call 17; refine (HV0.out _ HM1.out).mono ?_; rintro e w2 ⟨u2, rfl, hA, hm⟩; have HA := Lib.hid hA; have HM2 := Lib.hid (HM1.out.trans hm (fun _ h => nomatch h)); clear hA hm)
            | (go_at_call 20; refine (HT.out _ _ HA.out).mono ?_; rintro e w3 ⟨u3, rfl, hA, hm⟩; obtain ⟨a3, cap3, rfl⟩ := strs_nil hA; have HM3 := Lib.hid (HM2.out.trans hm (fun _ h => nomatch h)); clear hA hm))
          go_ret
          exact ⟨by rw [HC.out]; rfl, HM3.out⟩
        · obtain ⟨i, hi⟩ : ∃ i, L.length = i + 1 := ⟨L.length - 1, by have := List.length_pos_iff.2 h0; omega⟩
          have HN := Lib.hid (fun W v (h : StrsAt W v (L.map ba)) => strs_ix h hi)
          have HLL := Lib.hid hi
          have hib : (i : Int) ≤ 900000 := by omega
          clear h0
          by_cases hl : L[i] = chunkedL
          · have hch := ch_eq hl
            by_cases hi0 : i = 0
            · subst hi0
              have HC := Lib.hid (codR_one hT hi hl)
              clear hT hlen hl
              obtain ⟨xs, hxs⟩ : ∃ xs, xs = ba (L[0]'(by rw [HLL.out]; omega)) := ⟨_, rfl⟩
              rw [← hxs] at hch
              have HXS := Lib.hid hxs
              clear hxs hi
              go_enter Tryz.func18, Tryz.ntmps18
              go_wp2_with (first
                | (go_at_call 17; (with_reducible show Calls _ _ #[_, .string ⟨#[67, 111, 110, 116, 101, 110, 116, 45, 76, 101, 110, 103, 116, 104]⟩] _ _); refine HC0.out.mono ?_; rintro e w1 ⟨u, rfl, hA, hm⟩; obtain ⟨a, cap, rfl⟩ := strs_nil hA; have HM1 := Lib.hid hm; clear hA hm)
                | (go_at_call 17; refine (HV0.out _ HM1.out).mono ?_; rintro e w2 ⟨u2, rfl, hA, hm⟩; have HA := Lib.hid hA; have HM2 := Lib.hid (HM1.out.trans hm (fun _ h => nomatch h)); clear hA hm)
                | (go_at_call 20; refine (HT.out _ _ HA.out).mono ?_; rintro e w3 ⟨u3, rfl, hA, hm⟩; obtain ⟨b, off, cap3, rfl, hc⟩ := HN.out _ _ hA; have c0 : w3.cell? ⟨b, off, none⟩ = some (.string xs) := by rw [HXS.out]; exact hc 0 (by rw [HLL.out]; omega)
                   have HM3 := Lib.hid (HM2.out.trans hm (fun _ h => nomatch h)); clear hA hm hc))
              go_ret
              exact ⟨by rw [HC.out]; rfl, HM3.out⟩
            · have HIN := Lib.hid (fun j (hj : j < i) (hj2 : j < L.length) (he : L[j] = chunkedL) => codR_in hT hi hl hj he)
              have HOUT := Lib.hid (fun he => codR_out hT hi hl hi0 he)
              have hi1 : 1 ≤ i := by omega
              clear hT hlen hl hi0
              obtain ⟨xs, hxs⟩ : ∃ xs, xs = ba (L[i]'(by rw [HLL.out]; omega)) := ⟨_, rfl⟩
              rw [← hxs] at hch
              have HXS := Lib.hid hxs
              clear hxs hi
              go_enter Tryz.func18, Tryz.ntmps18
              go_wp2_with (first
                | (go_at_call 17; (with_reducible show Calls _ _ #[_, .string ⟨#[67, 111, 110, 116, 101, 110, 116, 45, 76, 101, 110, 103, 116, 104]⟩] _ _); refine HC0.out.mono ?_; rintro e w1 ⟨u, rfl, hA, hm⟩; obtain ⟨a, cap, rfl⟩ := strs_nil hA; have HM1 := Lib.hid hm; clear hA hm)
                | (go_at_call 17; refine (HV0.out _ HM1.out).mono ?_; rintro e w2 ⟨u2, rfl, hA, hm⟩; have HA := Lib.hid hA; have HM2 := Lib.hid (HM1.out.trans hm (fun _ h => nomatch h)); clear hA hm)
                | (go_at_call 20; refine (HT.out _ _ HA.out).mono ?_; rintro e w3 ⟨u3, rfl, hA, hm⟩; obtain ⟨b, off, cap3, rfl, hc⟩ := HN.out _ _ hA; have c0 : w3.cell? ⟨b, off + i, none⟩ = some (.string xs) := by rw [HXS.out]; exact hc i (by rw [HLL.out]; omega)
                   have HCC := Lib.hid hc; have HM3 := Lib.hid (HM2.out.trans hm (fun _ h => nomatch h)); clear hA hm hc))
              go_loopw [7] (fun q wr => ∃ k : Nat, k ≤ i ∧ q = .int .i64 k ∧ Mods [] w wr ∧ (∀ j (h : j < L.length), wr.cell? ⟨b, off + j, none⟩ = some (.string (ba L[j]))) ∧ ∀ j (hj : j < L.length), j < k → L[j] ≠ chunkedL) (fun q _ => i - (intOf q).toNat)
              case atStart => exact ⟨0, Nat.zero_le _, rfl, HM3.out, HCC.out, fun j _ h => absurd h (Nat.not_lt_zero _)⟩
              case round =>
                obtain ⟨k, hk, rfl, hm, hc, hno⟩ := hrel
                have HM := Lib.hid hm
                have HCW := Lib.hid hc
                have HNO := Lib.hid hno
                clear hm hc hno
                by_cases hlt : k < i
                · have hkL : k < L.length := by rw [HLL.out]; omega
                  have ck := HCW.out k hkL
                  have HLL2 := Lib.hid hkL
                  by_cases he : L[k] = chunkedL
                  · have HC := Lib.hid (HIN.out k hlt hkL he)
                    obtain ⟨ys, hys⟩ : ∃ ys, ys = ba (L[k]'(HLL2.out)) := ⟨_, rfl⟩
                    have hce : (ys.toList == [99, 104, 117, 110, 107, 101, 100]) = true := by rw [hys]; exact ch_eq he
                    rw [← hys] at ck
                    clear hys he hkL
                    go_wp2
                    go_ret
                    exact ⟨by rw [HC.out]; rfl, HM.out⟩
                  · have HNK := Lib.hid (show ∀ j (hj : j < L.length), j < k + 1 → L[j] ≠ chunkedL from fun j hj hjk => by
                      by_cases e : j = k
                      · subst e; exact he
                      · exact HNO.out j hj (by omega))
                    obtain ⟨ys, hys⟩ : ∃ ys, ys = ba (L[k]'(HLL2.out)) := ⟨_, rfl⟩
                    have hce : (ys.toList == [99, 104, 117, 110, 107, 101, 100]) = false := by rw [hys]; exact ch_ne he
                    rw [← hys] at ck
                    clear hys he hkL
                    go_wp2
                    go_roundw
                    case rel => exact ⟨k + 1, by omega, by go_num, HM.out, HCW.out, HNK.out⟩
                    case measure => simp [intOf]; omega
                · have HC := Lib.hid (HOUT.out fun j hj hji => HNO.out j hj (by omega))
                  go_wp2
                  go_ret
                  exact ⟨by rw [HC.out]; rfl, HM.out⟩
          · have HC := Lib.hid (codR_last hT hi hl)
            have hch := ch_ne hl
            clear hT hlen hl
            obtain ⟨xs, hxs⟩ : ∃ xs, xs = ba (L[i]'(by rw [HLL.out]; omega)) := ⟨_, rfl⟩
            rw [← hxs] at hch
            have HXS := Lib.hid hxs
            clear hxs hi
            go_enter Tryz.func18, Tryz.ntmps18
            go_wp2_with (first
              | (go_at_call 17; (with_reducible show Calls _ _ #[_, .string ⟨#[67, 111, 110, 116, 101, 110, 116, 45, 76, 101, 110, 103, 116, 104]⟩] _ _); refine HC0.out.mono ?_; rintro e w1 ⟨u, rfl, hA, hm⟩; obtain ⟨a, cap, rfl⟩ := strs_nil hA; have HM1 := Lib.hid hm; clear hA hm)
              | (go_at_call 17; refine (HV0.out _ HM1.out).mono ?_; rintro e w2 ⟨u2, rfl, hA, hm⟩; have HA := Lib.hid hA; have HM2 := Lib.hid (HM1.out.trans hm (fun _ h => nomatch h)); clear hA hm)
              | (go_at_call 20; refine (HT.out _ _ HA.out).mono ?_; rintro e w3 ⟨u3, rfl, hA, hm⟩; obtain ⟨b, off, cap3, rfl, hc⟩ := HN.out _ _ hA; have c0 : w3.cell? ⟨b, off + i, none⟩ = some (.string xs) := by rw [HXS.out]; exact hc i (by rw [HLL.out]; omega)
                 have HM3 := Lib.hid (HM2.out.trans hm (fun _ h => nomatch h)); clear hA hm hc))
            go_ret
            exact ⟨by rw [HC.out]; rfl, HM3.out⟩
    · have HC := Lib.hid (cod_len (te := te) hcl 1)
      obtain ⟨n, hn⟩ : ∃ n, n = cl.length := ⟨_, rfl⟩
      have hpos : 0 < n := by rw [hn]; exact List.length_pos_iff.2 hcl
      have HN := Lib.hid (fun W v (h : StrsAt W v cl) => show ∃ a cap, v = .slice a n cap by rw [hn]; exact h.len)
      clear hcl hn
      go_enter Tryz.func18, Tryz.ntmps18
      go_wp2_with (go_at_call 17; refine HC0.out.mono ?_; rintro e w1 ⟨u, rfl, hA, hm⟩; obtain ⟨a, cap, rfl⟩ := HN.out _ _ hA; have HM1 := Lib.hid hm; clear hA hm)
      go_ret
      exact ⟨by rw [HC.out]; rfl, HM1.out⟩
end
end Go.Proofs.YtcliapfoimnkiaaGreatDoor

/- The document's length by its plain answer. Conditions: names of at most a million bytes, values of at most 900000 bytes in all. -/
namespace Go.Proofs.YtcliapfoimnkiaaGreatDoor
open Go.RowKit
set_option linter.unusedVariables false
set_option linter.unusedSimpArgs false

section
variable {g : Nat} {v : Value} {S : List FV} {w : World}
set_option maxRecDepth 10000 in
set_option maxHeartbeats 1000000 in
theorem length_r (h : Fld 48 w g v S) (hs : Lite S) :
    Calls Tryz.prog 19 #[ptr g] w fun e w' => e = .returned (.tuple #[.int .i64 (lenS (valsF S nCL)).1, .int .i64 (lenS (valsF S nCL)).2]) ∧ Mods [] w w' := by
  have HV := Lib.hid (vals_r nCL w h (by decide))
  have HS := Lib.hid (hs.vals nCL)
  clear h hs
  unfold ptr at *
  generalize valsF S nCL = cl at *
  cases hT : toksO cl with
  | none =>
    have HC := Lib.hid (len_toks hT)
    have HT := Lib.hid (fun v w h => rtok_n hT v w h HS.out)
    clear hT
    go_enter Tryz.func19, Tryz.ntmps19
    go_wp2_with (first
      | (go_at_call 17; refine HV.out.mono ?_; rintro e w2 ⟨u, rfl, hA, hm⟩; have HA := Lib.hid hA; have HM2 := Lib.hid hm; clear hA hm)
      | (go_at_call 20; refine (HT.out _ _ HA.out).mono ?_; rintro e w3 ⟨rfl, hm⟩; have HM3 := Lib.hid (HM2.out.trans hm (fun _ h => nomatch h)); clear hm))
    go_ret2
    exact ⟨by rw [HC.out]; rfl, HM3.out⟩
  | some L =>
    have hlen := Nat.le_trans (toksO_len hT) HS.out
    have HT := Lib.hid (fun v w h => rtok_y hT v w h HS.out)
    by_cases hn : L = []
    · subst hn
      have HC := Lib.hid (lenv_nil hT)
      clear hT hlen
      go_enter Tryz.func19, Tryz.ntmps19
      go_wp2_with (first
        | (go_at_call 17; refine HV.out.mono ?_; rintro e w2 ⟨u, rfl, hA, hm⟩; have HA := Lib.hid hA; have HM2 := Lib.hid hm; clear hA hm)
        | (go_at_call 20; refine (HT.out _ _ HA.out).mono ?_; rintro e w3 ⟨u2, rfl, hA2, hm⟩; obtain ⟨a, cap, rfl⟩ := strs_nil hA2; have HM3 := Lib.hid (HM2.out.trans hm (fun _ h => nomatch h)); clear hm hA2))
      go_ret2
      exact ⟨by rw [HC.out]; rfl, HM3.out⟩
    · have h0 : 0 < L.length := List.length_pos_iff.2 hn
      have HSZ := tok_size hT HS.out
      obtain ⟨hbad, hbig, hok⟩ := len_facts hT h0
      have HN := Lib.hid (fun W v (h : StrsAt W v (L.map ba)) => strs_at h h0)
      have HNU := Lib.hid (fun w j (hj : j < L.length) => num_R (ba L[j]) w (HSZ j hj))
      unfold NumIs at HNU
      have HBAD := Lib.hid hbad
      have HBIG := Lib.hid hbig
      have HOK := Lib.hid hok
      obtain ⟨f, hf⟩ : ∃ f, f = numF L[0] := ⟨_, rfl⟩
      have HF := Lib.hid (show (numB 10 15 L[0]).1 = f from hf.symm)
      rw [← hf] at HBAD HBIG HOK
      clear hT hn hbad hbig hok HSZ hf
      have hne : ((L.length : Int) == 0) = false := beq_eq_false_iff_ne.2 (by omega)
      go_enter Tryz.func19, Tryz.ntmps19
      go_wp2_with (first
        | (go_at_call 17; refine HV.out.mono ?_; rintro e w2 ⟨u, rfl, hA, hm⟩; have HA := Lib.hid hA; have HM2 := Lib.hid hm; clear hA hm)
        | (go_at_call 20; refine (HT.out _ _ HA.out).mono ?_; rintro e w3 ⟨u2, rfl, hA2, hm⟩; obtain ⟨b, off, cap, rfl, hc⟩ := HN.out _ _ hA2; have HM3 := Lib.hid (HM2.out.trans hm (fun _ h => nomatch h)); have HC := Lib.hid hc; clear hm hA2 hc))
      go_loopw [6, 7] (fun q i wr => ∃ k : Nat, k ≤ L.length ∧ i = .int .i64 k ∧ q = .int .i64 (if k = 0 then 0 else f) ∧ Mods [] w wr ∧ (∀ j (h : j < L.length), wr.cell? ⟨b, off + j, none⟩ = some (.string (ba L[j]))) ∧ ∀ j (hj : j < L.length), j < k → goodF f L[j] = true) (fun _ i _ => L.length - (intOf i).toNat)
      case atStart => exact ⟨0, Nat.zero_le _, rfl, rfl, HM3.out, HC.out, fun j _ h => absurd h (Nat.not_lt_zero _)⟩
      case round =>
        obtain ⟨k1, hk, rfl, hq0, hm, hc, hgood⟩ := hrel
        have HM := Lib.hid hm
        have HCW := Lib.hid hc
        have HG := Lib.hid hgood
        clear hm hc hgood
        by_cases hlt : k1 < L.length
        · have ck := HCW.out k1 hlt
          have hnu := fun w => HNU.out w k1 hlt
          have hgq : goodF f L[k1] = ((numB 10 15 L[k1]).2 && (numB 10 15 L[k1]).1 == f) := rfl
          have HBK := Lib.hid (HBAD.out k1 hlt)
          have HGK := Lib.hid (fun (h : goodF f L[k1] = true) => show ∀ j (hj : j < L.length), j < k1 + 1 → goodF f L[j] = true from fun j hj hjk => by
            by_cases e : j = k1
            · subst e; exact h
            · exact HG.out j hj (by omega))
          have H0 := Lib.hid (show k1 = 0 → (numB 10 15 L[k1]).1 = f from fun e => by subst e; exact HF.out)
          rw [show (ba L[k1]).data.toList = L[k1] from rfl] at hnu
          obtain ⟨xs, hxs⟩ : ∃ xs, xs = ba L[k1] := ⟨_, rfl⟩
          obtain ⟨q, hq⟩ : ∃ q, q = numB 10 15 L[k1] := ⟨_, rfl⟩
          rw [← hxs] at ck hnu
          rw [← hq] at hnu hgq H0
          have HNK := Lib.hid hnu
          clear hxs hq hnu
          obtain ⟨n, ok⟩ := q
          simp only at hgq HNK H0
          cases ok with
          | false =>
            have HB := Lib.hid (HBK.out (by rw [hgq]; rfl))
            subst hq0
            clear hgq
            generalize (if k1 = 0 then 0 else f) = z
            go_wp2_with (go_at_call 38; refine (HNK.out _).mono ?_; rintro e w5 ⟨rfl, rfl⟩)
            go_ret2
            exact ⟨by rw [HB.out]; rfl, HM.out⟩
          | true =>
            by_cases hk0 : k1 = 0
            · have hnf : n = f := H0.out hk0
              rw [if_pos hk0] at hq0
              subst hq0
              subst hnf
              have HGN := Lib.hid (HGK.out (by rw [hgq]; simp))
              have hkz : decide (0 < k1) = false := decide_eq_false (by omega)
              have HZ := Lib.hid hk0
              clear hgq hk0
              go_wp2_with (go_at_call 38; refine (HNK.out _).mono ?_; rintro e w5 ⟨rfl, rfl⟩)
              go_roundw
              case rel => exact ⟨k1 + 1, by omega, by go_num, by rw [if_neg (by omega)], HM.out, HCW.out, HGN.out⟩
              case measure => simp [intOf]; omega
            · rw [if_neg hk0] at hq0
              subst hq0
              have hkz : decide (0 < k1) = true := decide_eq_true (by omega)
              by_cases hnf : n = f
              · have HGN := Lib.hid (HGK.out (by rw [hgq]; simp [hnf]))
                have hno : (n != f) = false := by simp [hnf]
                have HNF := Lib.hid hnf
                clear hgq hnf hk0
                go_wp2_with (go_at_call 38; refine (HNK.out _).mono ?_; rintro e w5 ⟨rfl, rfl⟩)
                go_roundw
                case rel => exact ⟨k1 + 1, by omega, by go_num, by rw [if_neg (by omega), HNF.out], HM.out, HCW.out, HGN.out⟩
                case measure => simp [intOf]; omega
              · have HB := Lib.hid (HBK.out (by rw [hgq]; simpa using hnf))
                have hno : (n != f) = true := by simpa using hnf
                clear hgq hnf hk0
                go_wp2_with (go_at_call 38; refine (HNK.out _).mono ?_; rintro e w5 ⟨rfl, rfl⟩)
                go_ret2
                exact ⟨by rw [HB.out]; rfl, HM.out⟩
        · have hall := fun j (hj : j < L.length) => HG.out j hj (by omega)
          rw [if_neg (by omega)] at hq0
          subst hq0
          by_cases hb : 2048 < f
          · have HB := Lib.hid (HBIG.out hall hb)
            clear hall
            go_wp2
            go_ret2
            exact ⟨by rw [HB.out]; rfl, HM.out⟩
          · have HB := Lib.hid (HOK.out hall (by omega))
            clear hall
            go_wp2
            go_ret2
            exact ⟨by rw [HB.out]; rfl, HM.out⟩
end
end Go.Proofs.YtcliapfoimnkiaaGreatDoor

/- The document's Of by its plain answer. Conditions: names of at most a million bytes, values of at most 900000 bytes in all. -/
namespace Go.Proofs.YtcliapfoimnkiaaGreatDoor
open Go.RowKit
set_option linter.unusedVariables false
set_option linter.unusedSimpArgs false

theorem join_sizes : ∀ (l : List ByteArray), (Lib.join (l.map (·.data.toList)) sepF.data.toList).length ≤ sizes l + l.length
  | [] => by simp [Lib.join_nil]
  | x :: r => by
    rw [List.map_cons, Lib.join_cons]
    have hx : x.data.toList.length = x.size := rfl
    have ht : ∀ (r : List ByteArray), (Lib.joinTail sepF.data.toList (r.map (·.data.toList))).length ≤ sizes r + r.length := by
      intro r
      induction r with
      | nil => simp [Lib.joinTail]
      | cons y s ih =>
        have hy : y.data.toList.length = y.size := rfl
        have h2 : sepF.data.toList.length = 2 := rfl
        simp only [Lib.joinTail, List.map_cons, List.flatten_cons, List.length_append, List.length_cons, sizes] at ih ⊢
        omega
    have := ht r
    simp only [List.length_append, List.length_cons, sizes]; omega
theorem Lite.get {S : List FV} (h : Lite S) (hl : S.length ≤ 24) (n : ByteArray) : (getF S n).size ≤ 1000000 := by
  have h1 := join_sizes (valsF S n)
  have h2 := h.vals n
  have h3 := valsF_len S n
  have h4 : (getF S n).size = (getL S n).length := rfl
  unfold getL at h4
  omega

/-- What the document's Of holds while it walks: its result's block, the block of how, the fields. -/
structure RSt (w : World) (g : Nat) (S : List FV) (b : Nat) (h : HowP) (W : World) : Prop where
  res : Row W w.heap.size 28 noH.cells
  how : Row W b 28 h.cells
  low : Mods [] w W
  fld : ∃ v, Fld 48 W g v S
  hb : w.heap.size < b
section
variable {w W W' : World} {g b : Nat} {S : List FV} {h : HowP}
theorem RSt.step (r : RSt w g S b h W) (hm : Mods [] W W') : RSt w g S b h W' := by
  obtain ⟨v, hf⟩ := r.fld
  exact ⟨r.res.mods hm (by simp), r.how.mods hm (by simp), r.low.trans hm (fun _ h => nomatch h), ⟨v, hf.low hm⟩, r.hb⟩
theorem RSt.put (r : RSt w g S b h W) (i : Nat) (u : Value) (h' : HowP) (he : h.cells.setIfInBounds i u = h'.cells) : RSt w g S b h' (W.setCell ⟨b, i, none⟩ u) := by
  obtain ⟨v, hf⟩ := r.fld
  have hb := r.hb
  have hm : Mods [b] W (W.setCell ⟨b, i, none⟩ u) := (Mods.refl [b] W).setCell (.inl (by simp)) u
  refine ⟨r.res.mods hm (by simp; omega), he ▸ r.how.set i u, r.low.setCell (.inr (Nat.le_of_lt hb)) u, ⟨v, hf.mods hm ?_ ?_⟩, hb⟩
  · have := Row.type_ne hf.row r.how (by decide)
    simpa using this
  · intro k hk
    have := own_ne_row hf.own r.how (by decide) k hk
    simpa using this
theorem RSt.facts (r : RSt w g S b h W) : W.cell? ⟨b, 0, none⟩ = some (.int .i64 h.kind) ∧ W.cell? ⟨b, 1, none⟩ = some (.int .i64 h.length) ∧ W.cell? ⟨b, 2, none⟩ = some (.bool h.close) ∧ W.cell? ⟨b, 3, none⟩ = some (.bool h.expect) ∧
    W.frozen? ⟨b, 0, none⟩ = false ∧ W.frozen? ⟨b, 1, none⟩ = false ∧ W.frozen? ⟨b, 2, none⟩ = false ∧ W.frozen? ⟨b, 3, none⟩ = false := r.how.factsH
theorem vals_rs (n : ByteArray) (r : RSt w g S b h W) (hn : n.size ≤ 1000000) :
    Calls Tryz.prog 17 #[ptr g, .string n] W fun e w' => ∃ u, e = .returned u ∧ StrsAt w' u (valsF S n) ∧ Mods [] W w' := by
  obtain ⟨v, hf⟩ := r.fld
  exact vals_r n W hf hn
theorem coding_rs {m : Int} (h01 : m = 0 ∨ m = 1) (r : RSt w g S b h W) (hs : Lite S) :
    Calls Tryz.prog 18 #[.int .i64 m, ptr g] W fun e w' => e = .returned (.int .i64 (codS m (valsF S nCL) (valsF S nTE))) ∧ Mods [] W w' := by
  obtain ⟨v, hf⟩ := r.fld
  exact coding_r h01 hf hs
theorem length_rs (r : RSt w g S b h W) (hs : Lite S) :
    Calls Tryz.prog 19 #[ptr g] W fun e w' => e = .returned (.tuple #[.int .i64 (lenS (valsF S nCL)).1, .int .i64 (lenS (valsF S nCL)).2]) ∧ Mods [] W w' := by
  obtain ⟨v, hf⟩ := r.fld
  exact length_r hf hs
theorem get_rs (n : ByteArray) (r : RSt w g S b h W) (hn : n.size ≤ 1000000) :
    Calls Tryz.prog 23 #[ptr g, .string n] W fun e w' => e = .returned (.string (getF S n)) ∧ Mods [] W w' := by
  obtain ⟨v, hf⟩ := r.fld
  exact rget n W hf hn
end

set_option maxRecDepth 10000 in
set_option maxHeartbeats 4000000 in
theorem of_rfld {g : Nat} {v : Value} {S : List FV} {w : World} {m q : Int} (hmm : max 0 (min 1 m) = q) (h01 : q = 0 ∨ q = 1) (h : Fld 48 w g v S) (hs : Lite S) :
    Calls Tryz.prog 7 #[.int .i64 m, ptr g] w (HAns w (frmN q S)) := by
  have hm0 := (Mods.refl [] w).alloc (.cells #[.int .i64 0, .int .i64 0, .bool false, .bool false] 28)
  have hf0 := h.low hm0
  have HH := Lib.hid (host12_r h01 hf0 hs)
  have HF := Lib.hid (fun W (hm : Mods [] (w.alloc (.cells #[.int .i64 0, .int .i64 0, .bool false, .bool false] 28)) W) => show ∃ v, Fld 48 W g v S from ⟨v, hf0.low hm⟩)
  have HM0 := Lib.hid hm0
  have H01 := Lib.hid h01
  have HMM := Lib.hid hmm
  have HS := Lib.hid hs
  clear h hf0 hm0 h01 hmm hs
  unfold ptr at *
  cases h1 : hostOk q (valsF S nHost) with
  | false =>
    have HE := Lib.hid (frm_host h1)
    rw [h1] at HH
    clear h1
    go_enter Tryz.func7, Tryz.ntmps7
    go_wp2_with (go_at_call 16; rw [HMM.out]; refine HH.out.mono ?_; rintro e w1 ⟨rfl, hm⟩; have R1 := Lib.hid ((Row.new w 28 noH.cells).mods hm (by simp)); have M1 := Lib.hid (HM0.out.trans hm (fun _ h => nomatch h)); obtain ⟨k0, k1, k2, k3, f0, f1, f2, f3⟩ := R1.out.factsH; clear hm)
    exact end_H rfl R1.out Tryz.isAgg28 Tryz.sizeOf28 rfl rfl rfl HE.out M1.out (Nat.le_refl _)
  | true =>
    have H1 := Lib.hid h1
    rw [h1] at HH
    clear h1
    go_enter Tryz.func7, Tryz.ntmps7
    go_upto_block 0 with (go_at_call 16; rw [HMM.out]; refine HH.out.mono ?_; rintro e w1 ⟨rfl, hm⟩; have R1 := Lib.hid (show RSt w g S w1.heap.size noH (w1.alloc (.cells #[.int .i64 0, .int .i64 0, .bool false, .bool false] 28)) from ⟨((Row.new w 28 noH.cells).mods hm (by simp)).alloc _, Row.new _ _ _, (HM0.out.trans hm (fun _ h => nomatch h)).alloc _, HF.out _ (hm.alloc _), by have := hm.size; simp at this; omega⟩); clear hm)
    go_cut [7] (fun s wx => s = .int .i64 (bodyS q S).2.2 ∧ Hid (RSt w g S w1.heap.size ⟨(bodyS q S).1, (bodyS q S).2.1, false, false⟩ wx))
    case first =>
      by_cases hte : valsF S nTE = []
      · by_cases hcl : valsF S nCL = []
        · have HB := Lib.hid (body_no (m := q) hte hcl)
          have HTE := Lib.hid hte
          have HCL := Lib.hid hcl
          clear hte hcl
          go_wp2_with (first
            | (go_at_call 17; (with_reducible show Calls _ _ #[_, .string ⟨#[84, 114, 97, 110, 115, 102, 101, 114, 45, 69, 110, 99, 111, 100, 105, 110, 103]⟩] _ _); refine (vals_rs nTE R1.out (by decide)).mono ?_; rintro e w2 ⟨u2, rfl, hA, hm⟩; rw [HTE.out] at hA; obtain ⟨a2, c2, rfl⟩ := strs_nil hA; have R2 := Lib.hid (R1.out.step hm); obtain ⟨k0, k1, k2, k3, f0, f1, f2, f3⟩ := R2.out.facts; clear hA hm)
            | (go_at_call 17; (with_reducible show Calls _ _ #[_, .string ⟨#[67, 111, 110, 116, 101, 110, 116, 45, 76, 101, 110, 103, 116, 104]⟩] _ _); refine (vals_rs nCL R2.out (by decide)).mono ?_; rintro e w3 ⟨u3, rfl, hA, hm⟩; rw [HCL.out] at hA; obtain ⟨a3, c3, rfl⟩ := strs_nil hA; have R3 := Lib.hid (R2.out.step hm); obtain ⟨k0, k1, k2, k3, f0, f1, f2, f3⟩ := R3.out.facts; clear hA hm))
          go_meet
          case rel => exact ⟨by rw [HB.out], Lib.hid (by rw [HB.out]; exact R3.out)⟩
        · have HB := Lib.hid (body_cl (m := q) hte hcl)
          have HTE := Lib.hid hte
          obtain ⟨n, hn⟩ : ∃ n, n = (valsF S nCL).length := ⟨_, rfl⟩
          have hpos : 0 < n := by rw [hn]; exact List.length_pos_iff.2 hcl
          have HN := Lib.hid (fun W v (h : StrsAt W v (valsF S nCL)) => show ∃ a cap, v = .slice a n cap by rw [hn]; exact h.len)
          clear hte hcl hn
          go_wp2_with (first
            | (go_at_call 17; (with_reducible show Calls _ _ #[_, .string ⟨#[84, 114, 97, 110, 115, 102, 101, 114, 45, 69, 110, 99, 111, 100, 105, 110, 103]⟩] _ _); refine (vals_rs nTE R1.out (by decide)).mono ?_; rintro e w2 ⟨u2, rfl, hA, hm⟩; rw [HTE.out] at hA; obtain ⟨a2, c2, rfl⟩ := strs_nil hA; have R2 := Lib.hid (R1.out.step hm); obtain ⟨k0, k1, k2, k3, f0, f1, f2, f3⟩ := R2.out.facts; clear hA hm)
            | (go_at_call 17; (with_reducible show Calls _ _ #[_, .string ⟨#[67, 111, 110, 116, 101, 110, 116, 45, 76, 101, 110, 103, 116, 104]⟩] _ _); refine (vals_rs nCL R2.out (by decide)).mono ?_; rintro e w3 ⟨u3, rfl, hA, hm⟩; obtain ⟨a3, c3, rfl⟩ := HN.out _ _ hA; have R3 := Lib.hid (R2.out.step hm); obtain ⟨k0, k1, k2, k3, f0, f1, f2, f3⟩ := R3.out.facts; clear hA hm)
            | (go_at_call 19; refine (length_rs (R3.out.put 0 (.int .i64 1) ⟨1, 0, false, false⟩ rfl) HS.out).mono ?_; rintro e w4 ⟨rfl, hm⟩; have R4 := Lib.hid ((R3.out.put 0 (.int .i64 1) ⟨1, 0, false, false⟩ rfl).step hm); obtain ⟨j0, j1, j2, j3, g0, g1, g2, g3⟩ := R4.out.facts; clear hm))
          go_meet
          case rel => exact ⟨by rw [HB.out], Lib.hid (by rw [HB.out]; exact R4.out.put 1 (.int .i64 (lenS (valsF S nCL)).1) ⟨1, (lenS (valsF S nCL)).1, false, false⟩ rfl)⟩
      · have HB := Lib.hid (body_te (m := q) hte)
        obtain ⟨n, hn⟩ : ∃ n, n = (valsF S nTE).length := ⟨_, rfl⟩
        have hpos : 0 < n := by rw [hn]; exact List.length_pos_iff.2 hte
        have HN := Lib.hid (fun W v (h : StrsAt W v (valsF S nTE)) => show ∃ a cap, v = .slice a n cap by rw [hn]; exact h.len)
        clear hte hn
        go_wp2_with (first
          | (go_at_call 17; (with_reducible show Calls _ _ #[_, .string ⟨#[84, 114, 97, 110, 115, 102, 101, 114, 45, 69, 110, 99, 111, 100, 105, 110, 103]⟩] _ _); refine (vals_rs nTE R1.out (by decide)).mono ?_; rintro e w2 ⟨u2, rfl, hA, hm⟩; obtain ⟨a2, c2, rfl⟩ := HN.out _ _ hA; have R2 := Lib.hid (R1.out.step hm); obtain ⟨k0, k1, k2, k3, f0, f1, f2, f3⟩ := R2.out.facts; clear hA hm)
          | (go_at_call 18; (try rw [HMM.out]); refine (coding_rs H01.out (R2.out.put 0 (.int .i64 2) ⟨2, 0, false, false⟩ rfl) HS.out).mono ?_; rintro e w4 ⟨rfl, hm⟩; have R4 := Lib.hid ((R2.out.put 0 (.int .i64 2) ⟨2, 0, false, false⟩ rfl).step hm); clear hm))
        go_meet
        case rel => exact ⟨by rw [HB.out], Lib.hid (by rw [HB.out]; exact R4.out)⟩
    case rest =>
      obtain ⟨rfl, hR⟩ := hcut
      have R5 := Lib.hid hR.out
      clear hR
      obtain ⟨k0, k1, k2, k3, f0, f1, f2, f3⟩ := R5.out.res.factsH
      by_cases h2 : (bodyS q S).2.2 = 0
      · cases hT : toksO (valsF S nCon) with
        | none =>
          have HE := Lib.hid (frm_con H1.out h2 hT)
          have HT := Lib.hid (fun v w h => rtok_n hT v w h (HS.out.vals nCon))
          rw [h2]
          clear h2 hT
          go_wp2_with (first
            | (go_at_call 17; refine (vals_rs nCon R5.out (by decide)).mono ?_; rintro e w6 ⟨u6, rfl, hA, hm⟩; have HA6 := Lib.hid hA; have R6 := Lib.hid (R5.out.step hm); clear hA hm)
            | (go_at_call 20; refine (HT.out _ _ HA6.out).mono ?_; rintro e w7 ⟨rfl, hm⟩; have R7 := Lib.hid (R6.out.step hm); obtain ⟨k0, k1, k2, k3, f0, f1, f2, f3⟩ := R7.out.res.factsH; clear hm))
          exact end_H rfl R7.out.res Tryz.isAgg28 Tryz.sizeOf28 rfl rfl rfl HE.out R7.out.low (Nat.le_refl _)
        | some L =>
          have HE := Lib.hid (fun h4 => frm_end H1.out h2 (by rw [hT]; simp) h4)
          have HE4 := Lib.hid (fun h4 => (frm_exp417 H1.out h2 (by rw [hT]; simp) h4).1)
          have HT := Lib.hid (fun v w h => rtok_y hT v w h (HS.out.vals nCon))
          have HC1 := Lib.hid (fun v w h => rhas clB (valsF S nCon) v w h (HS.out.vals nCon) (by decide) rfl)
          have HC2 := Lib.hid (fun v w h => rhas kpB (valsF S nCon) v w h (HS.out.vals nCon) (by decide) rfl)
          have HCC := Lib.hid (show closeS q (valsF S nCon) = (hasL clB.data.toList (valsF S nCon) || (decide (q = 0) && !hasL kpB.data.toList (valsF S nCon))) from rfl)
          rw [h2]
          clear h2 hT
          generalize (bodyS q S).1 = bk at *
          generalize (bodyS q S).2.1 = bl at *
          generalize hasL clB.data.toList (valsF S nCon) = b1 at *
          generalize hasL kpB.data.toList (valsF S nCon) = b2 at *
          generalize closeS q (valsF S nCon) = bc at *
          go_upto_region 20 with (first
            | (go_at_call 17; refine (vals_rs nCon R5.out (by decide)).mono ?_; rintro e w6 ⟨u6, rfl, hA, hm⟩; have HA6 := Lib.hid hA; have R6 := Lib.hid (R5.out.step hm); clear hA hm)
            | (go_at_call 20; refine (HT.out _ _ HA6.out).mono ?_; rintro e w7 ⟨u7, rfl, hA, hm⟩; have R7 := Lib.hid (R6.out.step hm); have HA7 := Lib.hid (HA6.out.low hm); clear hm hA))
          go_cut [] (fun wx => Hid (RSt w g S w1.heap.size ⟨bk, bl, bc, false⟩ wx))
          case first =>
            have h01 := H01.out
            rcases h01 with rfl | rfl <;> cases b1 <;> cases b2
            all_goals
              go_wp2_with (first
                | (go_at_call 21; (with_reducible show Calls _ _ #[.string ⟨#[99, 108, 111, 115, 101]⟩, _] _ _); refine (HC1.out _ _ HA7.out).mono ?_; rintro e w8 ⟨rfl, hm⟩; have HA8 := Lib.hid (HA7.out.low hm); have R9 := Lib.hid (R7.out.step hm); obtain ⟨j0, j1, j2, j3, g0, g1, g2, g3⟩ := R9.out.facts; clear hm)
                | (go_at_call 21; (with_reducible show Calls _ _ #[.string ⟨#[107, 101, 101, 112, 45, 97, 108, 105, 118, 101]⟩, _] _ _); refine (HC2.out _ _ HA8.out).mono ?_; rintro e w9 ⟨rfl, hm⟩; have R9 := Lib.hid (R9.out.step hm); obtain ⟨j0, j1, j2, j3, g0, g1, g2, g3⟩ := R9.out.facts; clear hm))
              go_meet
              case rel => exact Lib.hid (by rw [HCC.out]; exact R9.out.put 2 _ ⟨bk, bl, _, false⟩ rfl)
          case rest =>
            have R10 := Lib.hid hcut.out
            clear hcut
            obtain ⟨k0, k1, k2, k3, f0, f1, f2, f3⟩ := R10.out.res.factsH; 
            obtain ⟨j0, j1, j2, j3, g0, g1, g2, g3⟩ := R10.out.facts; 
            have h01 := H01.out
            rcases h01 with rfl | rfl
            · have HE := Lib.hid (HE.out (by unfold expS; simp))
              rw [show expX 0 bk bl S = false by unfold expX; simp] at HE
              go_wp2_with fail
              exact end_H rfl R10.out.res Tryz.isAgg28 Tryz.sizeOf28 rfl rfl rfl HE.out R10.out.low (Nat.le_refl _)
            · by_cases hex : valsF S nExp = []
              · have HE := Lib.hid (HE.out (by unfold expS; rw [hex]; simp))
                rw [show expX 1 bk bl S = false by unfold expX; rw [hex]; simp] at HE
                have HX := Lib.hid hex
                clear hex
                go_wp2_with (go_at_call 17; refine (vals_rs nExp R10.out (by decide)).mono ?_; rintro e w11 ⟨u11, rfl, hA, hm⟩; rw [HX.out] at hA; obtain ⟨a11, c11, rfl⟩ := strs_nil hA; have R11 := Lib.hid (R10.out.step hm); obtain ⟨k0, k1, k2, k3, f0, f1, f2, f3⟩ := R11.out.res.factsH; obtain ⟨j0, j1, j2, j3, g0, g1, g2, g3⟩ := R11.out.facts; clear hA hm)
                exact end_H rfl R11.out.res Tryz.isAgg28 Tryz.sizeOf28 rfl rfl rfl HE.out R11.out.low (Nat.le_refl _)
              · obtain ⟨n, hn⟩ : ∃ n, n = (valsF S nExp).length := ⟨_, rfl⟩
                have hpos : 0 < n := by rw [hn]; exact List.length_pos_iff.2 hex
                have HN := Lib.hid (fun W v (h : StrsAt W v (valsF S nExp)) => show ∃ a cap, v = .slice a n cap by rw [hn]; exact h.len)
                have hgs : (getF S nExp).size ≤ 1000000 := by
                  obtain ⟨v, hf⟩ := R10.out.fld
                  exact HS.out.get hf.len nExp
                have HES := Lib.hid (show expS 1 S = if sameL (getF S nExp) contB = false then 417 else 0 by
                  unfold expS
                  by_cases h : sameL (getF S nExp) contB = false
                  · rw [if_pos ⟨rfl, hex, h⟩, if_pos h]
                  · rw [if_neg (fun h2 => h h2.2.2), if_neg h])
                rw [show expX 1 bk bl S = (bk == 2 || decide (0 < bl)) by unfold expX; rw [decide_eq_true ⟨rfl, hex⟩]; rfl] at HE
                have HG := Lib.hid (fun (W : World) (r : RSt w g S w1.heap.size ⟨bk, bl, bc, false⟩ W) => get_rs nExp r (by decide))
                have HSM := Lib.hid (fun w => same_r (getF S nExp) contB rfl hgs (by decide) w)
                unfold ptr at HG
                clear hex hn
                generalize getF S nExp = gx at *
                generalize sameL gx contB = bs at *
                cases bs with
                | false =>
                  have HE := Lib.hid (HE4.out (by rw [HES.out]; simp))
                  go_wp2_with (first
                    | (go_at_call 17; refine (vals_rs nExp R10.out (by decide)).mono ?_; rintro e w11 ⟨u11, rfl, hA, hm⟩; obtain ⟨a11, c11, rfl⟩ := HN.out _ _ hA; have R11 := Lib.hid (R10.out.step hm); clear hA hm)
                    | (go_at_call 23; refine (HG.out _ R11.out).mono ?_; rintro e w12 ⟨rfl, hm⟩; have R12 := Lib.hid (R11.out.step hm); clear hm)
                    | (go_at_call 22; refine (HSM.out _).mono ?_; rintro e w13 ⟨rfl, hm⟩; have R13 := Lib.hid (R12.out.step hm); obtain ⟨k0, k1, k2, k3, f0, f1, f2, f3⟩ := R13.out.res.factsH; obtain ⟨j0, j1, j2, j3, g0, g1, g2, g3⟩ := R13.out.facts; clear hm))
                  exact end_H rfl R13.out.res Tryz.isAgg28 Tryz.sizeOf28 rfl rfl rfl HE.out R13.out.low (Nat.le_refl _)
                | true =>
                  have HE := Lib.hid (HE.out (by rw [HES.out]; simp))
                  by_cases hk : bk = 2
                  · subst hk
                    go_wp2_with (first
                      | (go_at_call 17; refine (vals_rs nExp R10.out (by decide)).mono ?_; rintro e w11 ⟨u11, rfl, hA, hm⟩; obtain ⟨a11, c11, rfl⟩ := HN.out _ _ hA; have R11 := Lib.hid (R10.out.step hm); clear hA hm)
                      | (go_at_call 23; refine (HG.out _ R11.out).mono ?_; rintro e w12 ⟨rfl, hm⟩; have R12 := Lib.hid (R11.out.step hm); clear hm)
                      | (go_at_call 22; refine (HSM.out _).mono ?_; rintro e w13 ⟨rfl, hm⟩; have R13 := Lib.hid (R12.out.step hm); obtain ⟨j0, j1, j2, j3, g0, g1, g2, g3⟩ := R13.out.facts; have R14 := Lib.hid (R13.out.put 3 (.bool true) ⟨2, bl, bc, true⟩ rfl); obtain ⟨k0, k1, k2, k3, f0, f1, f2, f3⟩ := R14.out.res.factsH; obtain ⟨i0, i1, i2, i3, -, -, -, -⟩ := R14.out.facts; clear hm))
                    exact end_H rfl R14.out.res Tryz.isAgg28 Tryz.sizeOf28 rfl rfl rfl HE.out R14.out.low (Nat.le_refl _)
                  · have hk1 : (bk == 2) = false := by simpa using hk
                    rw [hk1, Bool.false_or] at HE
                    clear hk
                    go_wp2_with (first
                      | (go_at_call 17; refine (vals_rs nExp R10.out (by decide)).mono ?_; rintro e w11 ⟨u11, rfl, hA, hm⟩; obtain ⟨a11, c11, rfl⟩ := HN.out _ _ hA; have R11 := Lib.hid (R10.out.step hm); clear hA hm)
                      | (go_at_call 23; refine (HG.out _ R11.out).mono ?_; rintro e w12 ⟨rfl, hm⟩; have R12 := Lib.hid (R11.out.step hm); clear hm)
                      | (go_at_call 22; refine (HSM.out _).mono ?_; rintro e w13 ⟨rfl, hm⟩; have R13 := Lib.hid (R12.out.step hm); obtain ⟨j0, j1, j2, j3, g0, g1, g2, g3⟩ := R13.out.facts; have R14 := Lib.hid (R13.out.put 3 (.bool (decide (0 < bl))) ⟨bk, bl, bc, decide (0 < bl)⟩ rfl); obtain ⟨k0, k1, k2, k3, f0, f1, f2, f3⟩ := R14.out.res.factsH; obtain ⟨i0, i1, i2, i3, -, -, -, -⟩ := R14.out.facts; clear hm))
                    exact end_H rfl R14.out.res Tryz.isAgg28 Tryz.sizeOf28 rfl rfl rfl HE.out R14.out.low (Nat.le_refl _)
      · have HE := Lib.hid (frm_body H1.out h2)
        have hne : ((bodyS q S).2.2 != 0) = true := by simpa using h2
        generalize (bodyS q S).2.2 = s2 at *
        clear h2
        go_wp2_with fail
        exact end_H rfl R5.out.res Tryz.isAgg28 Tryz.sizeOf28 rfl rfl rfl HE.out R5.out.low (Nat.le_refl _)
end Go.Proofs.YtcliapfoimnkiaaGreatDoor

/- The document's Of of no fields by its plain answer. Conditions: none. -/
namespace Go.Proofs.YtcliapfoimnkiaaGreatDoor
open Go.RowKit
set_option linter.unusedVariables false
set_option linter.unusedSimpArgs false

set_option maxRecDepth 10000 in
set_option maxHeartbeats 4000000 in
theorem of_rnil {S : List FV} {w : World} {m q : Int} (hS : S = []) (hmm : max 0 (min 1 m) = q) (h01 : q = 0 ∨ q = 1) :
    Calls Tryz.prog 7 #[.int .i64 m, .pointer none] w (HAns w (frmN q S)) := by
  have hm0 := ((Mods.refl [] w).alloc (.cells #[.int .i64 0, .int .i64 0, .bool false, .bool false] 28)).alloc (.cells #[.slice none 0 0] 48)
  have hrw := Row.new (w.alloc (.cells #[.int .i64 0, .int .i64 0, .bool false, .bool false] 28)) 48 #[.slice none 0 0]
  rw [World.size_alloc] at hrw
  have hf0 : Fld 48 ((w.alloc (.cells #[.int .i64 0, .int .i64 0, .bool false, .bool false] 28)).alloc (.cells #[.slice none 0 0] 48)) (w.heap.size + 1) (.slice none 0 0) S := by
    subst hS; exact ⟨hrw, World.ownsRow_nil _ _ _ _, by simp, fun _ h => nomatch h⟩
  have hs : Lite S := by subst hS; unfold Lite; simp [sizes]
  have h : True := trivial
  have HH := Lib.hid (host12_r h01 hf0 hs)
  have HF := Lib.hid (fun W (hm : Mods [] ((w.alloc (.cells #[.int .i64 0, .int .i64 0, .bool false, .bool false] 28)).alloc (.cells #[.slice none 0 0] 48)) W) => show ∃ v, Fld 48 W (w.heap.size + 1) v S from ⟨_, hf0.low hm⟩)
  have HM0 := Lib.hid hm0
  have H01 := Lib.hid h01
  have HMM := Lib.hid hmm
  have HS := Lib.hid hs
  clear h hf0 hm0 h01 hmm hs hrw hS
  unfold ptr at *
  cases h1 : hostOk q (valsF S nHost) with
  | false =>
    have HE := Lib.hid (frm_host h1)
    rw [h1] at HH
    clear h1
    go_enter Tryz.func7, Tryz.ntmps7
    go_wp2_with (go_at_call 16; rw [HMM.out]; refine HH.out.mono ?_; rintro e w1 ⟨rfl, hm⟩; have R1 := Lib.hid (((Row.new w 28 noH.cells).alloc (.cells #[.slice none 0 0] 48)).mods hm (by simp)); have M1 := Lib.hid (HM0.out.trans hm (fun _ h => nomatch h)); obtain ⟨k0, k1, k2, k3, f0, f1, f2, f3⟩ := R1.out.factsH; clear hm)
    exact end_H rfl R1.out Tryz.isAgg28 Tryz.sizeOf28 rfl rfl rfl HE.out M1.out (Nat.le_refl _)
  | true =>
    have H1 := Lib.hid h1
    rw [h1] at HH
    clear h1
    go_enter Tryz.func7, Tryz.ntmps7
    go_upto_block 0 with (go_at_call 16; rw [HMM.out]; refine HH.out.mono ?_; rintro e w1 ⟨rfl, hm⟩; have R1 := Lib.hid (show RSt w (w.heap.size + 1) S w1.heap.size noH (w1.alloc (.cells #[.int .i64 0, .int .i64 0, .bool false, .bool false] 28)) from ⟨(((Row.new w 28 noH.cells).alloc (.cells #[.slice none 0 0] 48)).mods hm (by simp)).alloc _, Row.new _ _ _, (HM0.out.trans hm (fun _ h => nomatch h)).alloc _, HF.out _ (hm.alloc _), by have := hm.size; simp at this; omega⟩); clear hm)
    go_cut [7] (fun s wx => s = .int .i64 (bodyS q S).2.2 ∧ Hid (RSt w (w.heap.size + 1) S w1.heap.size ⟨(bodyS q S).1, (bodyS q S).2.1, false, false⟩ wx))
    case first =>
      by_cases hte : valsF S nTE = []
      · by_cases hcl : valsF S nCL = []
        · have HB := Lib.hid (body_no (m := q) hte hcl)
          have HTE := Lib.hid hte
          have HCL := Lib.hid hcl
          clear hte hcl
          go_wp2_with (first
            | (go_at_call 17; (with_reducible show Calls _ _ #[_, .string ⟨#[84, 114, 97, 110, 115, 102, 101, 114, 45, 69, 110, 99, 111, 100, 105, 110, 103]⟩] _ _); refine (vals_rs nTE R1.out (by decide)).mono ?_; rintro e w2 ⟨u2, rfl, hA, hm⟩; rw [HTE.out] at hA; obtain ⟨a2, c2, rfl⟩ := strs_nil hA; have R2 := Lib.hid (R1.out.step hm); obtain ⟨k0, k1, k2, k3, f0, f1, f2, f3⟩ := R2.out.facts; clear hA hm)
            | (go_at_call 17; (with_reducible show Calls _ _ #[_, .string ⟨#[67, 111, 110, 116, 101, 110, 116, 45, 76, 101, 110, 103, 116, 104]⟩] _ _); refine (vals_rs nCL R2.out (by decide)).mono ?_; rintro e w3 ⟨u3, rfl, hA, hm⟩; rw [HCL.out] at hA; obtain ⟨a3, c3, rfl⟩ := strs_nil hA; have R3 := Lib.hid (R2.out.step hm); obtain ⟨k0, k1, k2, k3, f0, f1, f2, f3⟩ := R3.out.facts; clear hA hm))
          go_meet
          case rel => exact ⟨by rw [HB.out], Lib.hid (by rw [HB.out]; exact R3.out)⟩
        · have HB := Lib.hid (body_cl (m := q) hte hcl)
          have HTE := Lib.hid hte
          obtain ⟨n, hn⟩ : ∃ n, n = (valsF S nCL).length := ⟨_, rfl⟩
          have hpos : 0 < n := by rw [hn]; exact List.length_pos_iff.2 hcl
          have HN := Lib.hid (fun W v (h : StrsAt W v (valsF S nCL)) => show ∃ a cap, v = .slice a n cap by rw [hn]; exact h.len)
          clear hte hcl hn
          go_wp2_with (first
            | (go_at_call 17; (with_reducible show Calls _ _ #[_, .string ⟨#[84, 114, 97, 110, 115, 102, 101, 114, 45, 69, 110, 99, 111, 100, 105, 110, 103]⟩] _ _); refine (vals_rs nTE R1.out (by decide)).mono ?_; rintro e w2 ⟨u2, rfl, hA, hm⟩; rw [HTE.out] at hA; obtain ⟨a2, c2, rfl⟩ := strs_nil hA; have R2 := Lib.hid (R1.out.step hm); obtain ⟨k0, k1, k2, k3, f0, f1, f2, f3⟩ := R2.out.facts; clear hA hm)
            | (go_at_call 17; (with_reducible show Calls _ _ #[_, .string ⟨#[67, 111, 110, 116, 101, 110, 116, 45, 76, 101, 110, 103, 116, 104]⟩] _ _); refine (vals_rs nCL R2.out (by decide)).mono ?_; rintro e w3 ⟨u3, rfl, hA, hm⟩; obtain ⟨a3, c3, rfl⟩ := HN.out _ _ hA; have R3 := Lib.hid (R2.out.step hm); obtain ⟨k0, k1, k2, k3, f0, f1, f2, f3⟩ := R3.out.facts; clear hA hm)
            | (go_at_call 19; refine (length_rs (R3.out.put 0 (.int .i64 1) ⟨1, 0, false, false⟩ rfl) HS.out).mono ?_; rintro e w4 ⟨rfl, hm⟩; have R4 := Lib.hid ((R3.out.put 0 (.int .i64 1) ⟨1, 0, false, false⟩ rfl).step hm); obtain ⟨j0, j1, j2, j3, g0, g1, g2, g3⟩ := R4.out.facts; clear hm))
          go_meet
          case rel => exact ⟨by rw [HB.out], Lib.hid (by rw [HB.out]; exact R4.out.put 1 (.int .i64 (lenS (valsF S nCL)).1) ⟨1, (lenS (valsF S nCL)).1, false, false⟩ rfl)⟩
      · have HB := Lib.hid (body_te (m := q) hte)
        obtain ⟨n, hn⟩ : ∃ n, n = (valsF S nTE).length := ⟨_, rfl⟩
        have hpos : 0 < n := by rw [hn]; exact List.length_pos_iff.2 hte
        have HN := Lib.hid (fun W v (h : StrsAt W v (valsF S nTE)) => show ∃ a cap, v = .slice a n cap by rw [hn]; exact h.len)
        clear hte hn
        go_wp2_with (first
          | (go_at_call 17; (with_reducible show Calls _ _ #[_, .string ⟨#[84, 114, 97, 110, 115, 102, 101, 114, 45, 69, 110, 99, 111, 100, 105, 110, 103]⟩] _ _); refine (vals_rs nTE R1.out (by decide)).mono ?_; rintro e w2 ⟨u2, rfl, hA, hm⟩; obtain ⟨a2, c2, rfl⟩ := HN.out _ _ hA; have R2 := Lib.hid (R1.out.step hm); obtain ⟨k0, k1, k2, k3, f0, f1, f2, f3⟩ := R2.out.facts; clear hA hm)
          | (go_at_call 18; (try rw [HMM.out]); refine (coding_rs H01.out (R2.out.put 0 (.int .i64 2) ⟨2, 0, false, false⟩ rfl) HS.out).mono ?_; rintro e w4 ⟨rfl, hm⟩; have R4 := Lib.hid ((R2.out.put 0 (.int .i64 2) ⟨2, 0, false, false⟩ rfl).step hm); clear hm))
        go_meet
        case rel => exact ⟨by rw [HB.out], Lib.hid (by rw [HB.out]; exact R4.out)⟩
    case rest =>
      obtain ⟨rfl, hR⟩ := hcut
      have R5 := Lib.hid hR.out
      clear hR
      obtain ⟨k0, k1, k2, k3, f0, f1, f2, f3⟩ := R5.out.res.factsH
      by_cases h2 : (bodyS q S).2.2 = 0
      · cases hT : toksO (valsF S nCon) with
        | none =>
          have HE := Lib.hid (frm_con H1.out h2 hT)
          have HT := Lib.hid (fun v w h => rtok_n hT v w h (HS.out.vals nCon))
          rw [h2]
          clear h2 hT
          go_wp2_with (first
            | (go_at_call 17; refine (vals_rs nCon R5.out (by decide)).mono ?_; rintro e w6 ⟨u6, rfl, hA, hm⟩; have HA6 := Lib.hid hA; have R6 := Lib.hid (R5.out.step hm); clear hA hm)
            | (go_at_call 20; refine (HT.out _ _ HA6.out).mono ?_; rintro e w7 ⟨rfl, hm⟩; have R7 := Lib.hid (R6.out.step hm); obtain ⟨k0, k1, k2, k3, f0, f1, f2, f3⟩ := R7.out.res.factsH; clear hm))
          exact end_H rfl R7.out.res Tryz.isAgg28 Tryz.sizeOf28 rfl rfl rfl HE.out R7.out.low (Nat.le_refl _)
        | some L =>
          have HE := Lib.hid (fun h4 => frm_end H1.out h2 (by rw [hT]; simp) h4)
          have HE4 := Lib.hid (fun h4 => (frm_exp417 H1.out h2 (by rw [hT]; simp) h4).1)
          have HT := Lib.hid (fun v w h => rtok_y hT v w h (HS.out.vals nCon))
          have HC1 := Lib.hid (fun v w h => rhas clB (valsF S nCon) v w h (HS.out.vals nCon) (by decide) rfl)
          have HC2 := Lib.hid (fun v w h => rhas kpB (valsF S nCon) v w h (HS.out.vals nCon) (by decide) rfl)
          have HCC := Lib.hid (show closeS q (valsF S nCon) = (hasL clB.data.toList (valsF S nCon) || (decide (q = 0) && !hasL kpB.data.toList (valsF S nCon))) from rfl)
          rw [h2]
          clear h2 hT
          generalize (bodyS q S).1 = bk at *
          generalize (bodyS q S).2.1 = bl at *
          generalize hasL clB.data.toList (valsF S nCon) = b1 at *
          generalize hasL kpB.data.toList (valsF S nCon) = b2 at *
          generalize closeS q (valsF S nCon) = bc at *
          go_upto_region 20 with (first
            | (go_at_call 17; refine (vals_rs nCon R5.out (by decide)).mono ?_; rintro e w6 ⟨u6, rfl, hA, hm⟩; have HA6 := Lib.hid hA; have R6 := Lib.hid (R5.out.step hm); clear hA hm)
            | (go_at_call 20; refine (HT.out _ _ HA6.out).mono ?_; rintro e w7 ⟨u7, rfl, hA, hm⟩; have R7 := Lib.hid (R6.out.step hm); have HA7 := Lib.hid (HA6.out.low hm); clear hm hA))
          go_cut [] (fun wx => Hid (RSt w (w.heap.size + 1) S w1.heap.size ⟨bk, bl, bc, false⟩ wx))
          case first =>
            have h01 := H01.out
            rcases h01 with rfl | rfl <;> cases b1 <;> cases b2
            all_goals
              go_wp2_with (first
                | (go_at_call 21; (with_reducible show Calls _ _ #[.string ⟨#[99, 108, 111, 115, 101]⟩, _] _ _); refine (HC1.out _ _ HA7.out).mono ?_; rintro e w8 ⟨rfl, hm⟩; have HA8 := Lib.hid (HA7.out.low hm); have R9 := Lib.hid (R7.out.step hm); obtain ⟨j0, j1, j2, j3, g0, g1, g2, g3⟩ := R9.out.facts; clear hm)
                | (go_at_call 21; (with_reducible show Calls _ _ #[.string ⟨#[107, 101, 101, 112, 45, 97, 108, 105, 118, 101]⟩, _] _ _); refine (HC2.out _ _ HA8.out).mono ?_; rintro e w9 ⟨rfl, hm⟩; have R9 := Lib.hid (R9.out.step hm); obtain ⟨j0, j1, j2, j3, g0, g1, g2, g3⟩ := R9.out.facts; clear hm))
              go_meet
              case rel => exact Lib.hid (by rw [HCC.out]; exact R9.out.put 2 _ ⟨bk, bl, _, false⟩ rfl)
          case rest =>
            have R10 := Lib.hid hcut.out
            clear hcut
            obtain ⟨k0, k1, k2, k3, f0, f1, f2, f3⟩ := R10.out.res.factsH; 
            obtain ⟨j0, j1, j2, j3, g0, g1, g2, g3⟩ := R10.out.facts; 
            have h01 := H01.out
            rcases h01 with rfl | rfl
            · have HE := Lib.hid (HE.out (by unfold expS; simp))
              rw [show expX 0 bk bl S = false by unfold expX; simp] at HE
              go_wp2_with fail
              exact end_H rfl R10.out.res Tryz.isAgg28 Tryz.sizeOf28 rfl rfl rfl HE.out R10.out.low (Nat.le_refl _)
            · by_cases hex : valsF S nExp = []
              · have HE := Lib.hid (HE.out (by unfold expS; rw [hex]; simp))
                rw [show expX 1 bk bl S = false by unfold expX; rw [hex]; simp] at HE
                have HX := Lib.hid hex
                clear hex
                go_wp2_with (go_at_call 17; refine (vals_rs nExp R10.out (by decide)).mono ?_; rintro e w11 ⟨u11, rfl, hA, hm⟩; rw [HX.out] at hA; obtain ⟨a11, c11, rfl⟩ := strs_nil hA; have R11 := Lib.hid (R10.out.step hm); obtain ⟨k0, k1, k2, k3, f0, f1, f2, f3⟩ := R11.out.res.factsH; obtain ⟨j0, j1, j2, j3, g0, g1, g2, g3⟩ := R11.out.facts; clear hA hm)
                exact end_H rfl R11.out.res Tryz.isAgg28 Tryz.sizeOf28 rfl rfl rfl HE.out R11.out.low (Nat.le_refl _)
              · obtain ⟨n, hn⟩ : ∃ n, n = (valsF S nExp).length := ⟨_, rfl⟩
                have hpos : 0 < n := by rw [hn]; exact List.length_pos_iff.2 hex
                have HN := Lib.hid (fun W v (h : StrsAt W v (valsF S nExp)) => show ∃ a cap, v = .slice a n cap by rw [hn]; exact h.len)
                have hgs : (getF S nExp).size ≤ 1000000 := by
                  obtain ⟨v, hf⟩ := R10.out.fld
                  exact HS.out.get hf.len nExp
                have HES := Lib.hid (show expS 1 S = if sameL (getF S nExp) contB = false then 417 else 0 by
                  unfold expS
                  by_cases h : sameL (getF S nExp) contB = false
                  · rw [if_pos ⟨rfl, hex, h⟩, if_pos h]
                  · rw [if_neg (fun h2 => h h2.2.2), if_neg h])
                rw [show expX 1 bk bl S = (bk == 2 || decide (0 < bl)) by unfold expX; rw [decide_eq_true ⟨rfl, hex⟩]; rfl] at HE
                have HG := Lib.hid (fun (W : World) (r : RSt w (w.heap.size + 1) S w1.heap.size ⟨bk, bl, bc, false⟩ W) => get_rs nExp r (by decide))
                have HSM := Lib.hid (fun w => same_r (getF S nExp) contB rfl hgs (by decide) w)
                unfold ptr at HG
                clear hex hn
                generalize getF S nExp = gx at *
                generalize sameL gx contB = bs at *
                cases bs with
                | false =>
                  have HE := Lib.hid (HE4.out (by rw [HES.out]; simp))
                  go_wp2_with (first
                    | (go_at_call 17; refine (vals_rs nExp R10.out (by decide)).mono ?_; rintro e w11 ⟨u11, rfl, hA, hm⟩; obtain ⟨a11, c11, rfl⟩ := HN.out _ _ hA; have R11 := Lib.hid (R10.out.step hm); clear hA hm)
                    | (go_at_call 23; refine (HG.out _ R11.out).mono ?_; rintro e w12 ⟨rfl, hm⟩; have R12 := Lib.hid (R11.out.step hm); clear hm)
                    | (go_at_call 22; refine (HSM.out _).mono ?_; rintro e w13 ⟨rfl, hm⟩; have R13 := Lib.hid (R12.out.step hm); obtain ⟨k0, k1, k2, k3, f0, f1, f2, f3⟩ := R13.out.res.factsH; obtain ⟨j0, j1, j2, j3, g0, g1, g2, g3⟩ := R13.out.facts; clear hm))
                  exact end_H rfl R13.out.res Tryz.isAgg28 Tryz.sizeOf28 rfl rfl rfl HE.out R13.out.low (Nat.le_refl _)
                | true =>
                  have HE := Lib.hid (HE.out (by rw [HES.out]; simp))
                  by_cases hk : bk = 2
                  · subst hk
                    go_wp2_with (first
                      | (go_at_call 17; refine (vals_rs nExp R10.out (by decide)).mono ?_; rintro e w11 ⟨u11, rfl, hA, hm⟩; obtain ⟨a11, c11, rfl⟩ := HN.out _ _ hA; have R11 := Lib.hid (R10.out.step hm); clear hA hm)
                      | (go_at_call 23; refine (HG.out _ R11.out).mono ?_; rintro e w12 ⟨rfl, hm⟩; have R12 := Lib.hid (R11.out.step hm); clear hm)
                      | (go_at_call 22; refine (HSM.out _).mono ?_; rintro e w13 ⟨rfl, hm⟩; have R13 := Lib.hid (R12.out.step hm); obtain ⟨j0, j1, j2, j3, g0, g1, g2, g3⟩ := R13.out.facts; have R14 := Lib.hid (R13.out.put 3 (.bool true) ⟨2, bl, bc, true⟩ rfl); obtain ⟨k0, k1, k2, k3, f0, f1, f2, f3⟩ := R14.out.res.factsH; obtain ⟨i0, i1, i2, i3, -, -, -, -⟩ := R14.out.facts; clear hm))
                    exact end_H rfl R14.out.res Tryz.isAgg28 Tryz.sizeOf28 rfl rfl rfl HE.out R14.out.low (Nat.le_refl _)
                  · have hk1 : (bk == 2) = false := by simpa using hk
                    rw [hk1, Bool.false_or] at HE
                    clear hk
                    go_wp2_with (first
                      | (go_at_call 17; refine (vals_rs nExp R10.out (by decide)).mono ?_; rintro e w11 ⟨u11, rfl, hA, hm⟩; obtain ⟨a11, c11, rfl⟩ := HN.out _ _ hA; have R11 := Lib.hid (R10.out.step hm); clear hA hm)
                      | (go_at_call 23; refine (HG.out _ R11.out).mono ?_; rintro e w12 ⟨rfl, hm⟩; have R12 := Lib.hid (R11.out.step hm); clear hm)
                      | (go_at_call 22; refine (HSM.out _).mono ?_; rintro e w13 ⟨rfl, hm⟩; have R13 := Lib.hid (R12.out.step hm); obtain ⟨j0, j1, j2, j3, g0, g1, g2, g3⟩ := R13.out.facts; have R14 := Lib.hid (R13.out.put 3 (.bool (decide (0 < bl))) ⟨bk, bl, bc, decide (0 < bl)⟩ rfl); obtain ⟨k0, k1, k2, k3, f0, f1, f2, f3⟩ := R14.out.res.factsH; obtain ⟨i0, i1, i2, i3, -, -, -, -⟩ := R14.out.facts; clear hm))
                    exact end_H rfl R14.out.res Tryz.isAgg28 Tryz.sizeOf28 rfl rfl rfl HE.out R14.out.low (Nat.le_refl _)
      · have HE := Lib.hid (frm_body H1.out h2)
        have hne : ((bodyS q S).2.2 != 0) = true := by simpa using h2
        generalize (bodyS q S).2.2 = s2 at *
        clear h2
        go_wp2_with fail
        exact end_H rfl R5.out.res Tryz.isAgg28 Tryz.sizeOf28 rfl rfl rfl HE.out R5.out.low (Nat.le_refl _)
end Go.Proofs.YtcliapfoimnkiaaGreatDoor
