/- What the library's merge in place makes of two rows. -/
import Derived.Test.YtgfmjkbelciaaaaDoorSrtA
import Derived.Deep.DeepCutAuto
import Derived.Deep.CutBlock
namespace Go.Proofs.YtgfmjkbelciaaaaDoor
open Go.RowKit
set_option maxRecDepth 100000
set_option linter.unusedVariables false
set_option linter.unusedSimpArgs false
set_option linter.unnecessarySimpa false

/-- What the merge says at rows of up to N elements in all. -/
def MergeTo (N : Nat) : Prop := ∀ (w : World) (B a m b n c : Nat) (A X Y R : List Nat) (key : Nat → Int), X.length + Y.length ≤ N → Arr w B (A ++ (X ++ (Y ++ R))) → a = A.length → m = A.length + X.length → b = A.length + X.length + Y.length → 0 < X.length → 0 < Y.length → Srt key X → Srt key Y → Keyed w B key (X ++ Y) → n = A.length + X.length + Y.length + R.length → n ≤ 1000000000 → n ≤ c →
    Calls Tryd.prog 67 #[.slice (some ⟨B, 0, none⟩) n c, .int .i64 a, .int .i64 m, .int .i64 b, byF] w fun e w' => e = .returned (.tuple #[]) ∧ Hid (Merged key w w' B A X Y R)
theorem nil_of_len {l : List Nat} (h : l.length = 0) : l = [] := List.eq_nil_of_length_eq_zero h
/-- The parts of two rows that are merged. -/
structure Parts (key : Nat → Int) (A X Y : List Nat) (a m b mid s e : Nat) (X1 X2 Y1 Y2 : List Nat) : Prop where
  x : X = X1 ++ X2
  y : Y = Y1 ++ Y2
  sx : Srt key (X1 ++ X2)
  sy : Srt key (Y1 ++ Y2)
  l1 : a + X1.length = s
  l2 : s + X2.length = m
  l3 : m + Y1.length = e
  l4 : e + Y2.length = b
  l5 : s + Y1.length = mid
  l6 : mid + X2.length = e
  h1 : ∀ y ∈ Y1, ∀ x ∈ X2, key y < key x
  h2 : ∀ x ∈ X1, ∀ y ∈ Y2, key x ≤ key y
theorem parts_of {key : Nat → Int} {A X Y R : List Nat} {a m b mid s0 r0 p s : Nat} (hX : Srt key X) (hY : Srt key Y) (ha : a = A.length) (hm : m = A.length + X.length) (hb : b = A.length + X.length + Y.length) (hmid : mid = (a + b) / 2) (h0 : s0 = if mid < m then mid + m - b else a) (hr : r0 = if mid < m then mid else m) (hp : p = mid + m - 1)
    (c : Cut (fun t => key ((A ++ (X ++ (Y ++ R))).getD t 0) ≤ key ((A ++ (X ++ (Y ++ R))).getD (p - t) 0)) s0 r0 s s) : ∃ e X1 X2 Y1 Y2, e = mid + m - s ∧ s ≤ mid + m ∧ Parts key A X Y a m b mid s e X1 X2 Y1 Y2 := by
  rw [h0, hr, hp] at c
  obtain ⟨f1, f2, f3, f4, f5, f6, f7⟩ := merge_facts hX hY ha hm hb hmid c rfl
  refine ⟨_, X.take (s - a), X.drop (s - a), Y.take (mid + m - s - m), Y.drop (mid + m - s - m), rfl, by omega, ⟨(List.take_append_drop _ _).symm, (List.take_append_drop _ _).symm, ?_, ?_, ?_, ?_, ?_, ?_, ?_, ?_, f6, f7⟩⟩
  · rw [List.take_append_drop]; exact hX
  · rw [List.take_append_drop]; exact hY
  all_goals simp only [List.length_take, List.length_drop]; omega
def Stands (w W : World) (B : Nat) (L : List Nat) : Prop := Arr W B L ∧ Mods [B] w W
theorem Stands.drewN {w W : World} {B : Nat} {L : List Nat} (h : Stands w W B L) (n : Nat) : Stands w (W.drewN n) B L := ⟨h.1.drewN n, h.2.drewN n⟩
theorem bool_var (P : Prop) [Decidable P] : ∃ b : Bool, Hid (b = true ↔ P) := ⟨decide P, Lib.hid (by simp)⟩
set_option maxHeartbeats 2000000 in
theorem merge_step (N : Nat) (ih : MergeTo N) (w : World) (B a m b n c : Nat) (A X Y R : List Nat) (key : Nat → Int) (hN : X.length + Y.length ≤ N + 1) (h : Arr w B (A ++ (X ++ (Y ++ R)))) (ha : a = A.length) (hm : m = A.length + X.length) (hb : b = A.length + X.length + Y.length) (hx : 2 ≤ X.length) (hy : 2 ≤ Y.length) (hX : Srt key X) (hY : Srt key Y) (hk : Keyed w B key (X ++ Y)) (hn : n = A.length + X.length + Y.length + R.length) (hs : n ≤ 1000000000) (hc : n ≤ c) :
    Calls Tryd.prog 67 #[.slice (some ⟨B, 0, none⟩) n c, .int .i64 a, .int .i64 m, .int .i64 b, byF] w fun e w' => e = .returned (.tuple #[]) ∧ Hid (Merged key w w' B A X Y R) := by
  have HA := Lib.hid h
  have HK := Lib.hid hk
  have HS := Lib.hid (And.intro hX hY)
  have IH := Lib.hid ih
  have HL := Lib.hid (And.intro ha (And.intro hm (And.intro hb (And.intro hn (And.intro hx (And.intro hy hN))))))
  have w1 : IntKind.i64.wrap ((m : Int) - a) = (X.length : Int) := by rw [IntKind.wrap_i64]; omega
  have w0 : IntKind.i64.wrap ((b : Int) - m) = (Y.length : Int) := by rw [IntKind.wrap_i64]; omega
  have d1 : ((X.length : Int) == 1) = false := by simp; omega
  have d2 : ((Y.length : Int) == 1) = false := by simp; omega
  obtain ⟨mid, hmid⟩ : ∃ mid, mid = (a + b) / 2 := ⟨_, rfl⟩
  obtain ⟨s0, hs0⟩ : ∃ s0, s0 = if mid < m then mid + m - b else a := ⟨_, rfl⟩
  obtain ⟨r0, hr0⟩ : ∃ r0, r0 = if mid < m then mid else m := ⟨_, rfl⟩
  obtain ⟨p, hp⟩ : ∃ p, p = mid + m - 1 := ⟨_, rfl⟩
  have e0 : IntKind.i64.wrap ((a : Int) + b) = (a : Int) + b := by rw [IntKind.wrap_i64]; omega
  have e1 : IntKind.u64.wrap ((a : Int) + b) = (a : Int) + b := by rw [IntKind.wrap_u64]; omega
  have e2 : IntKind.u64.wrap (((a : Int) + b) / 2) = (mid : Int) := by rw [IntKind.wrap_u64]; omega
  have e3 : ((a : Int) + b) / 2 = (mid : Int) := by omega
  have e4 : IntKind.i64.wrap ((mid : Int)) = (mid : Int) := by rw [IntKind.wrap_i64]; omega
  have e5 : IntKind.i64.wrap ((mid : Int) + m) = (mid : Int) + m := by rw [IntKind.wrap_i64]; omega
  have e6 : IntKind.i64.wrap ((mid : Int) + m - 1) = (p : Int) := by rw [IntKind.wrap_i64]; omega
  have HMID := Lib.hid (And.intro hmid (And.intro hs0 (And.intro hr0 hp)))
  have hsr : s0 ≤ r0 := by split at hs0 <;> (first | rw [if_pos (by assumption)] at hr0 | rw [if_neg (by assumption)] at hr0) <;> omega
  have hrn : r0 ≤ mid ∧ r0 ≤ m ∧ a ≤ s0 := by split at hs0 <;> (first | rw [if_pos (by assumption)] at hr0 | rw [if_neg (by assumption)] at hr0) <;> omega
  have HRN := Lib.hid hrn
  have hmn : mid ≤ n := by omega
  have hmm : m ≤ n := by omega
  clear h hk hX hY ih ha hm hb hn hx hy hN hmid hs0 hr0 hp hrn
  go_enter Tryd.func67, Tryd.ntmps67
  go_upto_if 140 with fail
  go_cut [20, 21] (fun x y wx => x = .int .i64 (s0 : Int) ∧ y = .int .i64 (r0 : Int) ∧ w = wx)
  case first =>
    as_aux_lemma =>
      have ⟨h1, h2, h3, h4⟩ := HMID.out
      by_cases hc : mid < m
      · have q1 : (mid : Int) < (m : Int) := by omega
        rw [if_pos hc] at h2 h3
        have q2 : IntKind.i64.wrap ((mid : Int) + m - b) = (s0 : Int) := by have := HL.out; rw [IntKind.wrap_i64]; omega
        have q3 := Lib.hid h3
        clear h1 h2 h3 h4
        go_wp2
        go_meet
        case rel => exact ⟨rfl, by rw [q3.out], rfl⟩
      · have q1 : ¬ (mid : Int) < (m : Int) := by omega
        rw [if_neg hc] at h2 h3
        have q2 := Lib.hid (And.intro h2 h3)
        clear h1 h2 h3 h4
        go_wp2
        go_meet
        case rel => exact ⟨by rw [q2.out.1], by rw [q2.out.2], rfl⟩
  case rest =>
    as_aux_lemma =>
      obtain ⟨rfl, rfl, rfl⟩ := hcut
      have MON := Lib.hid (show ∀ s t, s0 ≤ s → s ≤ t → t < r0 → key ((A ++ (X ++ (Y ++ R))).getD t 0) ≤ key ((A ++ (X ++ (Y ++ R))).getD (p - t) 0) → key ((A ++ (X ++ (Y ++ R))).getD s 0) ≤ key ((A ++ (X ++ (Y ++ R))).getD (p - s) 0) from by
        obtain ⟨h1, h2, h3, h4⟩ := HMID.out
        obtain ⟨g1, g2, g3, g4⟩ := HL.out
        rw [h2, h3, h4]
        exact merge_mono HS.out.1 HS.out.2 g1 g2 g3 h1)
      have KEY := Lib.hid (show ∀ t, s0 ≤ t → t < r0 → ∀ wr, Mods [B] w wr → Arr wr B (A ++ (X ++ (Y ++ R))) → ∃ x y, (A ++ (X ++ (Y ++ R))).getD t 0 = x ∧ (A ++ (X ++ (Y ++ R))).getD (p - t) 0 = y ∧ wr.cell? ⟨B, t, none⟩ = some (ptr x) ∧ wr.cell? ⟨x, 2, none⟩ = some (.int .i64 (key x)) ∧ wr.cell? ⟨B, p - t, none⟩ = some (ptr y) ∧ wr.cell? ⟨y, 2, none⟩ = some (.int .i64 (key y)) ∧ p - t < n ∧ t ≤ p from fun t h1 h2 wr hmo har => by
        obtain ⟨g1, g2, g3, g4, g5, g6, g7⟩ := HL.out
        obtain ⟨m1, m2, m3, m4⟩ := HMID.out
        have r1 := HRN.out
        have hK := HK.out.mods hmo
        have hpt : m ≤ p - t ∧ p - t < b ∧ t ≤ p := by
          split at m2 <;> (first | rw [if_pos (by assumption)] at m3 | rw [if_neg (by assumption)] at m3) <;> omega
        refine ⟨_, _, rfl, rfl, har.get (by simp; omega), (hK _ ?_).2, har.get (by simp; omega), (hK _ ?_).2, by omega, hpt.2.2⟩
        · rw [part_x A X Y R t (by omega) (by omega)]
          exact List.mem_append_left _ (getD_mem _ _ (by omega))
        · rw [part_y A X Y R (p - t) (by omega) (by omega)]
          exact List.mem_append_right _ (getD_mem _ _ (by omega)))
      go_wp2
      go_loopw [20, 21, 23] (fun u v o wr => ∃ i j : Nat, u = .int .i64 i ∧ v = .int .i64 j ∧ i ≤ j ∧ j ≤ r0 ∧ s0 ≤ i ∧ Hid (Cut (fun t => key ((A ++ (X ++ (Y ++ R))).getD t 0) ≤ key ((A ++ (X ++ (Y ++ R))).getD (p - t) 0)) s0 r0 i j ∧ Arr wr B (A ++ (X ++ (Y ++ R))) ∧ Mods [B] w wr)) (fun u v _ _ => (intOf v).toNat - (intOf u).toNat)
      case atStart => exact ⟨s0, r0, rfl, rfl, hsr, Nat.le_refl _, Nat.le_refl _, Lib.hid ⟨Cut.all _ hsr, HA.out, Mods.refl _ _⟩⟩
      case round =>
        obtain ⟨i, j, rfl, rfl, hij, hjb, hmi, hr⟩ := hrel
        have hrm := HRN.out.2.1
        by_cases hlt : i < j
        · obtain ⟨k1, k2, k3, k4, k5, k6⟩ := half_int i j (by omega)
          obtain ⟨c', hc'⟩ : ∃ c', c' = (i + j) / 2 := ⟨_, rfl⟩
          have kz : ((i : Int) + j) / 2 = (c' : Int) := by omega
          rw [kz, ← hc'] at k3 k4
          rw [← hc'] at k5 k6
          have g1 : i ≤ c' := by omega
          have g2 : c' < j := by omega
          obtain ⟨x, y, hx, hy, c1, c2, c3, c4, p1, p2⟩ := KEY.out c' (by omega) (by omega) wr hr.out.2.2 hr.out.2.1
          have HXX := Lib.hid (And.intro hx hy)
          obtain ⟨d, hd⟩ : ∃ d, d = p - c' := ⟨_, rfl⟩
          rw [← hd] at c3 p1
          have k7 : IntKind.i64.wrap ((p : Int) - c') = (d : Int) := by rw [IntKind.wrap_i64]; omega
          have p3 : (c' : Int) < (n : Int) := by omega
          have p4 : (d : Int) < (n : Int) := by omega
          clear hx hy hc' hd p2 hrm
          by_cases hxy : key y < key x
          · have hlt2 : decide (cmpI (key y) (key x) < 0) = true := decide_eq_true ((cmpI_lt _ _).2 hxy)
            go_wp2
            go_quiet (first | (go_at_call 56; exact Calls.quiet_of (by_any y x _ _ _ c4 c2)))
            go_wp2
            go_roundw
            case rel => exact ⟨i, c', rfl, rfl, by omega, by omega, by omega, Lib.hid ⟨hr.out.1.down MON.out g1 g2 (by simp only [HXX.out]; omega), hr.out.2.1.drewN _, hr.out.2.2.drewN _⟩⟩
            case measure => simp [intOf]; omega
          · have hlt2 : decide (cmpI (key y) (key x) < 0) = false := decide_eq_false fun h => hxy ((cmpI_lt _ _).1 h)
            go_wp2
            go_quiet (first | (go_at_call 56; exact Calls.quiet_of (by_any y x _ _ _ c4 c2)))
            go_wp2
            go_roundw
            case rel => exact ⟨c' + 1, j, rfl, rfl, by omega, hjb, by omega, Lib.hid ⟨hr.out.1.up MON.out g1 g2 (by simp only [HXX.out]; omega), hr.out.2.1.drewN _, hr.out.2.2.drewN _⟩⟩
            case measure => simp [intOf]; omega
        · have e : j = i := by omega
          subst e
          obtain ⟨e, X1, X2, Y1, Y2, he, hjm, hp⟩ := (show ∃ e X1 X2 Y1 Y2, e = mid + m - j ∧ j ≤ mid + m ∧ Parts key A X Y a m b mid j e X1 X2 Y1 Y2 from by
            obtain ⟨g1, g2, g3, g4⟩ := HL.out
            obtain ⟨m1, m2, m3, m4⟩ := HMID.out
            exact parts_of HS.out.1 HS.out.2 g1 g2 g3 m1 m2 m3 m4 hr.out.1)
          have HP := Lib.hid hp
          have H1 := Lib.hid (show Stands w wr B (A ++ (X1 ++ (X2 ++ (Y1 ++ (Y2 ++ R))))) from ⟨by
            have := hr.out.2.1
            rw [hp.x, hp.y] at this
            simpa [List.append_assoc] using this, hr.out.2.2⟩)
          have e7 : IntKind.i64.wrap ((mid : Int) + m - j) = (e : Int) := by rw [IntKind.wrap_i64]; omega
          obtain ⟨b1, HB1⟩ := bool_var (j < m ∧ m < e)
          obtain ⟨b2, HB2⟩ := bool_var (a < j ∧ j < mid)
          obtain ⟨b3, HB3⟩ := bool_var (mid < e ∧ e < b)
          clear hr hp he hjm
          go_upto_region 39 with fail
          go_cut [185] (fun v wx => v = .bool b1 ∧ Hid (Stands w wx B (A ++ (X1 ++ (X2 ++ (Y1 ++ (Y2 ++ R)))))))
          case first =>
            as_aux_lemma =>
              by_cases q1 : j < m
              · have q2 : decide ((j : Int) < (m : Int)) = true := decide_eq_true (by omega)
                have q3 : decide (m < e) = b1 := by
                  rw [Bool.eq_iff_iff, HB1.out, decide_eq_true_iff]; omega
                go_wp2
                go_meet
                case rel => exact ⟨by rw [← q3], H1⟩
              · have q2 : decide ((j : Int) < (m : Int)) = false := decide_eq_false (by omega)
                have q3 : b1 = false := by
                  rw [Bool.eq_false_iff]; intro h; have := HB1.out.1 h; omega
                go_wp2
                go_meet
                case rel => exact ⟨by rw [q3], H1⟩
          case rest =>
            as_aux_lemma =>
              obtain ⟨rfl, H2⟩ := hcut
              clear H1
              go_upto_if 185 with fail
              go_cut [190] (fun _ wx => Hid (Stands w wx B (A ++ (X1 ++ (Y1 ++ (X2 ++ (Y2 ++ R)))))))
              case first =>
                as_aux_lemma =>
                  cases b1 with
                  | true =>
                    have HQ := Lib.hid (HB1.out.1 rfl)
                    go_wp2_with fail
                    have hq := HQ.out
                    have hp := HP.out
                    have hl := HL.out
                    have hxl := congrArg List.length hp.x
                    have hyl := congrArg List.length hp.y
                    simp only [List.length_append] at hxl hyl
                    refine (rotate_any _ B j m e n c (A ++ X1) X2 Y1 (Y2 ++ R) _ (by simpa [List.append_assoc] using H2.out.1) ?_ ?_ hp.l3.symm ?_ ?_ ?_ hs hc).mono ?_
                    · have := hp.l1; simp; omega
                    · have := hp.l1; have := hp.l2; simp; omega
                    · have := hp.l2; omega
                    · have := hp.l3; omega
                    · simp; omega
                    rintro e' w' ⟨rfl, ha, hm⟩
                    have H3 := Lib.hid (show Stands w w' B (A ++ (X1 ++ (Y1 ++ (X2 ++ (Y2 ++ R))))) from ⟨by simpa [List.append_assoc] using ha, H2.out.2.trans hm (fun k hk => .inl hk)⟩)
                    clear hq hp hl hxl hyl ha hm
                    go_wp2
                    go_meet
                    case rel => exact H3
                  | false =>
                    have H3 := Lib.hid (show Stands w wc B (A ++ (X1 ++ (Y1 ++ (X2 ++ (Y2 ++ R))))) from by
                      have hq : ¬ (j < m ∧ m < e) := fun h => by have := HB1.out.2 h; cases this
                      have hp := HP.out
                      have h := H2.out
                      by_cases h0 : X2 = []
                      · subst h0; simpa using h
                      · have h1 : 0 < X2.length := List.length_pos_iff.2 h0
                        have h2 : Y1 = [] := nil_of_len (by have := hp.l2; have := hp.l3; omega)
                        subst h2; simpa using h)
                    go_wp2
                    go_meet
                    case rel => exact H3
              case rest =>
                as_aux_lemma =>
                  have H3 := hcut
                  clear H2 hcut
                  go_upto_region 41 with fail
                  go_cut [199] (fun v wx => v = .bool b2 ∧ Hid (Stands w wx B (A ++ (X1 ++ (Y1 ++ (X2 ++ (Y2 ++ R)))))))
                  case first =>
                    as_aux_lemma =>
                      by_cases q1 : a < j
                      · have q2 : decide ((a : Int) < (j : Int)) = true := decide_eq_true (by omega)
                        have q3 : decide (j < mid) = b2 := by
                          rw [Bool.eq_iff_iff, HB2.out, decide_eq_true_iff]; omega
                        go_wp2
                        go_meet
                        case rel => exact ⟨by rw [← q3], H3⟩
                      · have q2 : decide ((a : Int) < (j : Int)) = false := decide_eq_false (by omega)
                        have q3 : b2 = false := by
                          rw [Bool.eq_false_iff]; intro h; have := HB2.out.1 h; omega
                        go_wp2
                        go_meet
                        case rel => exact ⟨by rw [q3], H3⟩
                  case rest =>
                    as_aux_lemma =>
                      obtain ⟨rfl, H4⟩ := hcut
                      clear H3
                      go_upto_if 199 with fail
                      go_cut [204] (fun _ wx => Hid (∃ Z1, Stands w wx B (A ++ (Z1 ++ (X2 ++ (Y2 ++ R)))) ∧ Srt key Z1 ∧ Same key (X1 ++ Y1) Z1))
                      case first =>
                        as_aux_lemma =>
                          cases b2 with
                          | true =>
                            have HQ := Lib.hid (HB2.out.1 rfl)
                            go_wp2_with fail
                            have hq := HQ.out
                            have hp := HP.out
                            have hl := HL.out
                            have hxl := congrArg List.length hp.x
                            have hyl := congrArg List.length hp.y
                            simp only [List.length_append] at hxl hyl
                            have hl1 := hp.l1; have hl2 := hp.l2; have hl3 := hp.l3; have hl4 := hp.l4; have hl5 := hp.l5
                            refine (IH.out _ B a j mid n c A X1 Y1 (X2 ++ (Y2 ++ R)) key (by omega) H4.out.1 hl.1 (by omega) (by omega) (by omega) (by omega) (srt_append.1 hp.sx).1 (srt_append.1 hp.sy).1 ?_ ?_ hs hc).mono ?_
                            · refine (HK.out.mods H4.out.2).sub fun z hz => ?_
                              rw [hp.x, hp.y]
                              simp only [List.mem_append] at hz ⊢
                              rcases hz with h | h
                              · exact .inl (.inl h)
                              · exact .inr (.inl h)
                            · simp; omega
                            rintro e' w' ⟨rfl, hm⟩
                            have H5 := Lib.hid (show ∃ Z1, Stands w w' B (A ++ (Z1 ++ (X2 ++ (Y2 ++ R)))) ∧ Srt key Z1 ∧ Same key (X1 ++ Y1) Z1 from by
                              obtain ⟨Z, z1, z2, z3, z4⟩ := hm.out
                              exact ⟨Z, ⟨z1, H4.out.2.trans z4 (fun k hk => .inl hk)⟩, z2, z3⟩)
                            clear hq hp hl hxl hyl hl1 hl2 hl3 hl4 hl5 hm
                            go_wp2
                            go_meet
                            case rel => exact H5
                          | false =>
                            have H5 := Lib.hid (show ∃ Z1, Stands w wc B (A ++ (Z1 ++ (X2 ++ (Y2 ++ R)))) ∧ Srt key Z1 ∧ Same key (X1 ++ Y1) Z1 from by
                              have hq : ¬ (a < j ∧ j < mid) := fun h => by have := HB2.out.2 h; cases this
                              have hp := HP.out
                              have h := H4.out
                              by_cases h0 : X1 = []
                              · subst h0; exact ⟨Y1, by simpa using h, (srt_append.1 hp.sy).1, Same.refl _ _⟩
                              · have h1 : 0 < X1.length := List.length_pos_iff.2 h0
                                have h2 : Y1 = [] := nil_of_len (by have := hp.l1; have := hp.l5; omega)
                                subst h2; exact ⟨X1, by simpa using h, (srt_append.1 hp.sx).1, by simpa using Same.refl key X1⟩)
                            go_wp2
                            go_meet
                            case rel => exact H5
                      case rest =>
                        as_aux_lemma =>
                          have H5 := hcut
                          clear H4 hcut
                          go_upto_region 43 with fail
                          go_cut [213] (fun v wx => v = .bool b3 ∧ Hid (∃ Z1, Stands w wx B (A ++ (Z1 ++ (X2 ++ (Y2 ++ R)))) ∧ Srt key Z1 ∧ Same key (X1 ++ Y1) Z1))
                          case first =>
                            as_aux_lemma =>
                              by_cases q1 : mid < e
                              · have q2 : decide ((mid : Int) < (e : Int)) = true := decide_eq_true (by omega)
                                have q3 : decide (e < b) = b3 := by
                                  rw [Bool.eq_iff_iff, HB3.out, decide_eq_true_iff]; omega
                                go_wp2
                                go_meet
                                case rel => exact ⟨by rw [← q3], H5⟩
                              · have q2 : decide ((mid : Int) < (e : Int)) = false := decide_eq_false (by omega)
                                have q3 : b3 = false := by
                                  rw [Bool.eq_false_iff]; intro h; have := HB3.out.1 h; omega
                                go_wp2
                                go_meet
                                case rel => exact ⟨by rw [q3], H5⟩
                          case rest =>
                            as_aux_lemma =>
                              obtain ⟨rfl, H6⟩ := hcut
                              clear H5
                              cases b3 with
                              | true =>
                                have HQ := Lib.hid (HB3.out.1 rfl)
                                go_wp2_with fail
                                have hq := HQ.out
                                have hp := HP.out
                                have hl := HL.out
                                have hxl := congrArg List.length hp.x
                                have hyl := congrArg List.length hp.y
                                simp only [List.length_append] at hxl hyl
                                have hl1 := hp.l1; have hl2 := hp.l2; have hl3 := hp.l3; have hl4 := hp.l4; have hl5 := hp.l5; have hl6 := hp.l6
                                obtain ⟨Z1, hz1, hz2, hz3⟩ := H6.out
                                have hz4 := hz3.length
                                rw [List.length_append] at hz4
                                refine (IH.out _ B mid e b n c (A ++ Z1) X2 Y2 R key (by omega) (by simpa [List.append_assoc] using hz1.1) (by simp; omega) (by simp; omega) (by simp; omega) (by omega) (by omega) (srt_append.1 hp.sx).2.1 (srt_append.1 hp.sy).2.1 ?_ ?_ hs hc).mono ?_
                                · refine (HK.out.mods hz1.2).sub fun z hz => ?_
                                  rw [hp.x, hp.y]
                                  simp only [List.mem_append] at hz ⊢
                                  rcases hz with h | h
                                  · exact .inl (.inr h)
                                  · exact .inr (.inr h)
                                · simp; omega
                                rintro e' w' ⟨rfl, hm⟩
                                have H7 := Lib.hid (show Merged key w w' B A X Y R from by
                                  obtain ⟨Z2, y1, y2, y3, y4⟩ := hm.out
                                  obtain ⟨f1, f2⟩ := srt_merge hp.sx hp.sy hp.h1 hp.h2 hz2 hz3 y2 y3
                                  exact ⟨Z1 ++ Z2, by simpa [List.append_assoc] using y1, f1, by rw [hp.x, hp.y]; exact f2, hz1.2.trans y4 (fun k hk => .inl hk)⟩)
                                clear hq hp hl hxl hyl hl1 hl2 hl3 hl4 hl5 hl6 hm hz1 hz2 hz3 hz4
                                go_wp2
                                go_end0
                                exact ⟨rfl, H7⟩
                              | false =>
                                have H7 := Lib.hid (show Merged key w wc B A X Y R from by
                                  have hq : ¬ (mid < e ∧ e < b) := fun h => by have := HB3.out.2 h; cases this
                                  have hp := HP.out
                                  obtain ⟨Z1, hz1, hz2, hz3⟩ := H6.out
                                  have h2 : ∃ Z2, X2 ++ Y2 = Z2 ∧ Srt key Z2 := by
                                    by_cases h0 : X2 = []
                                    · subst h0; exact ⟨Y2, rfl, (srt_append.1 hp.sy).2.1⟩
                                    · have h1 : 0 < X2.length := List.length_pos_iff.2 h0
                                      have h2 : Y2 = [] := nil_of_len (by have := hp.l4; have := hp.l6; omega)
                                      subst h2; exact ⟨X2, by simp, (srt_append.1 hp.sx).2.1⟩
                                  obtain ⟨Z2, hz, hs2⟩ := h2
                                  obtain ⟨f1, f2⟩ := srt_merge hp.sx hp.sy hp.h1 hp.h2 hz2 hz3 hs2 (by rw [hz]; exact Same.refl key Z2)
                                  refine ⟨Z1 ++ Z2, ?_, f1, by rw [hp.x, hp.y]; exact f2, hz1.2⟩
                                  rw [← hz]
                                  simpa [List.append_assoc] using hz1.1)
                                go_wp2
                                go_end0
                                exact ⟨rfl, H7⟩
theorem merge_any (N : Nat) : MergeTo N := by
  induction N with
  | zero =>
    intro w B a m b n c A X Y R key hN _ _ _ _ hx hy
    omega
  | succ N ih =>
    intro w B a m b n c A X Y R key hN h ha hm hb hx hy hX hY hk hn hs hc
    by_cases h1 : X.length = 1
    · obtain ⟨x, rfl⟩ : ∃ x, X = [x] := List.length_eq_one_iff.1 h1
      exact merge_one w B a m b n c x A Y R key h ha (by simpa using hm) (by simpa using hb) hY hk (by simpa using hn) hs hc
    · by_cases h2 : Y.length = 1
      · obtain ⟨y, rfl⟩ : ∃ y, Y = [y] := List.length_eq_one_iff.1 h2
        exact merge_last w B a m b n c y A X R key h ha hm (by simpa using hb) (by omega) hX hk (by simpa using hn) hs hc
      · exact merge_step N ih w B a m b n c A X Y R key hN h ha hm hb (by omega) (by omega) hX hY hk hn hs hc
end Go.Proofs.YtgfmjkbelciaaaaDoor
