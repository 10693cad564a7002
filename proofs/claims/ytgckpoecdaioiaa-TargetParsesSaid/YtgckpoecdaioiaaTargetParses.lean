/- For every method and text, the code's Parse answers as the document's, Print of it too, and printed and parsed again it is the same: the law returns true. Condition: none. -/
import Derived.Test.YtgckpoecdaioiaaRows
import Derived.WalkKit
import Derived.ProofKit
import Derived.OpenShut
import Derived.ShutString
import Derived.ChangeOld
import Derived.Below
import Derived.SizedLaws
import Derived.Test.YtgckpoecdaioiaaTr11
import Derived.Test.YtgckpoecdaioiaaUe11
import Derived.Deep.CutBlock
import Derived.Test.YtgckpoecdaioiaaTs11
namespace Go.Proofs.Ytgckpoecdaioiaa.targetParses
open Go.ChangeShapes Go.WideShapes Go.ChangeAt Go.RowKit
open Go.ChangeMaps (open_string shut_string)
set_option linter.unusedVariables false

theorem orgL_len {l p q : List UInt8} (h : orgL l = some (p, q)) : p.length ≤ l.length + 1 ∧ q.length ≤ l.length := by
  unfold orgL at h
  split at h
  · cases hd : decL (upL (isC 63) l) with
    | none => rw [hd] at h; cases h
    | some d =>
      rw [hd] at h
      cases hc : clnL d with
      | none => rw [show (some d).bind (fun d => (clnL d).map fun p => (p, l.drop ((upL (isC 63) l).length + 1))) = (clnL d).map fun p => (p, l.drop ((upL (isC 63) l).length + 1)) from rfl, hc] at h; cases h
      | some c =>
        rw [show (some d).bind (fun d => (clnL d).map fun p => (p, l.drop ((upL (isC 63) l).length + 1))) = (clnL d).map fun p => (p, l.drop ((upL (isC 63) l).length + 1)) from rfl, hc] at h
        injection h with h
        injection h with h1 h2
        have e1 := clnL_len hc
        have e2 := decL_len _ _ hd
        have e3 := upL_len (isC 63) l
        refine ⟨by rw [← h1]; omega, ?_⟩
        rw [← h2, List.length_drop]; omega
  · cases h
theorem orgF_size {f : Int} {h : ByteArray} {l : List UInt8} {t : Tgt} (e : orgF f h l = (t, 0)) : t.host.size + t.path.size + t.query.size ≤ h.size + 2 * l.length + 1 := by
  rcases orgF_cases l with hc | ⟨p, q, hc⟩
  · rw [orgF_no hc] at e; exact (no_res (by decide) e).elim
  · have hl := orgL_len hc
    rw [orgF_yes hc] at e
    have e1 := (tgt_inj e).1
    rw [← e1]
    show h.size + (ofL p).size + (ofL q).size ≤ _
    rw [ofL_size, ofL_size]; omega
theorem host_len (l : List UInt8) : (hostOf l).length ≤ l.length := upL_len _ _
theorem rest_len (l : List UInt8) : (restOf l).length ≤ l.length + 1 := by
  unfold restOf; split
  · rw [List.length_drop]; omega
  · rw [List.length_cons, List.length_drop]; omega
theorem res_size {m l : List UInt8} {t : Tgt} (e : parT m l = (t, 0)) : t.host.size + t.path.size + t.query.size ≤ 1000 := by
  unfold parT at e
  split at e
  · exact (no_res (by decide) e).elim
  · rename_i hl
    split at e
    · unfold authL at e
      split at e
      · have e1 := (tgt_inj e).1
        rw [← e1]
        show (ofL (lowL l)).size + 0 + 0 ≤ _
        rw [lowA_size]; omega
      · exact (no_res (by decide) e).elim
    · split at e
      · have e1 := (tgt_inj e).1
        rw [← e1]; decide
      · split at e
        · have := orgF_size e
          rw [noB_size] at this; omega
        · split at e
          · unfold absL at e
            split at e
            · have := orgF_size e
              rw [lowA_size] at this
              have h1 := host_len (l.drop 7)
              have h2 := rest_len (l.drop 7)
              rw [List.length_drop] at h1 h2
              omega
            · exact (no_res (by decide) e).elim
          · exact (no_res (by decide) e).elim
theorem back_3 {t : Tgt} {s : ByteArray} (h3 : t.form = 3) (h : prT t = (s, 0)) : parT connectL s.data.toList = (t, 0) := by have := prT_back h; rw [wr_3 h3] at this; exact this
theorem back_4 {t : Tgt} {s : ByteArray} (h4 : t.form = 4) (h : prT t = (s, 0)) : parT optionsL s.data.toList = (t, 0) := by have := prT_back h; rw [wr_4 h4] at this; exact this
theorem back_0 {t : Tgt} {s : ByteArray} (h3 : t.form ≠ 3) (h4 : t.form ≠ 4) (h : prT t = (s, 0)) : parT getL s.data.toList = (t, 0) := by
  have := prT_back h
  by_cases h1 : t.form = 1
  · rw [wr_1 h1] at this; exact this
  · by_cases h2 : t.form = 2
    · rw [wr_2 h2] at this; exact this
    · rw [wr_0 h1 h2 h3 h4] at this; exact this
theorem prT_size {t : Tgt} {s : ByteArray} (hz : t.host.size + t.path.size + t.query.size ≤ 1000) (h : prT t = (s, 0)) : s.size ≤ 5000 := by
  unfold prT at h
  split at h
  · injection h with h1 _
    rw [← h1, ofL_size]
    exact (wr_size t hz).2
  · injection h with _ h2; exact absurd h2 (by decide)

set_option maxRecDepth 100000 in
set_option maxHeartbeats 2000000 in
theorem walk (w : World) (m : ByteArray) (gm : m.size ≤ 140737488351232) (s : ByteArray) (gs : s.size ≤ 140737488351232) :
    Calls Try.prog 3 #[.string m, .string s] w fun e w' => e = .returned (.bool true) ∧ Below w.heap.size w w' := by
  by_cases hl : 2000 < m.size + s.size
  · have hb2 : (2000 : Int) < (m.size : Int) + (s.size : Int) := by omega
    go_enter Try.func3, Try.ntmps3
    go_wp2
    go_ret
    exact ⟨rfl, Below.refl _ _⟩
  · have hb3 : (m.size : Int) + (s.size : Int) ≤ 2000 := by omega
    have hb2 : decide ((2000 : Int) < (m.size : Int) + (s.size : Int)) = false := decide_eq_false (by omega)
    have HA := Lib.hid (fun w => parse_a m s w (by omega) (by omega))
    have HB := Lib.hid (fun w => parse_r m s w (by omega) (by omega))
    unfold TAns at HA HB
    obtain ⟨t, n, hr⟩ : ∃ t n, parT m.data.toList s.data.toList = (t, n) := ⟨_, _, rfl⟩
    rw [hr] at HA HB
    clear hl
    by_cases hn : n = 0
    · subst hn
      have hz := res_size hr
      have HPA := Lib.hid (fun w => print_a t (by omega) w)
      have HPB := Lib.hid (fun w => print_r t (by omega) w)
      unfold PAns at HPA HPB
      obtain ⟨x, n1, hp⟩ : ∃ x n1, prT t = (x, n1) := ⟨_, _, rfl⟩
      rw [hp] at HPA HPB
      have hcase := prT_cases t
      rw [hp] at hcase
      simp only at hcase
      rcases hcase with h1 | h1
      · subst h1
        have hxs := prT_size hz hp
        by_cases h3 : t.form = 3
        · have hback := back_3 h3 hp
          have HC := Lib.hid (fun w => parse_a ⟨#[67, 79, 78, 78, 69, 67, 84]⟩ x w (by decide) (by omega))
          unfold TAns at HC
          rw [show (⟨#[67, 79, 78, 78, 69, 67, 84]⟩ : ByteArray).data.toList = connectL from rfl, hback] at HC
          clear hback hp hr hz
          obtain ⟨f, h, p, q⟩ := t
          simp only at h3
          subst h3
          simp only [Tgt.cells] at HC
          simp only [Tgt.cells] at HA HB
          go_enter Try.func3, Try.ntmps3
          go_upto_region 5 with (first
            | (go_at_call 11; refine (HA.out _).mono ?_; rintro e w1 ⟨rfl, hm⟩; have M1 := Lib.hid hm; clear hm)
            | (go_at_call 12; refine (HB.out _).mono ?_; rintro e w2 ⟨rfl, hm⟩; have M2 := Lib.hid ((M1.out.alloc _).on hm); have R2 := Lib.hid ((Row.new w1 23 #[.int .i64 3, .string h, .string p, .string q]).mods hm (by simp)); clear hm))
          obtain ⟨w3, hw3⟩ : ∃ w3, w3 = w2.alloc (.cells #[.int .i64 3, .string h, .string p, .string q] 23) := ⟨_, rfl⟩
          obtain ⟨na, hna⟩ : ∃ na, na = w1.heap.size := ⟨_, rfl⟩
          obtain ⟨nb, hnb⟩ : ∃ nb, nb = w2.heap.size := ⟨_, rfl⟩
          have RA := Lib.hid (show Row w3 na 23 #[.int .i64 3, .string h, .string p, .string q] by rw [hw3, hna]; exact R2.out.alloc _)
          have RB := Lib.hid (show Row w3 nb 23 #[.int .i64 3, .string h, .string p, .string q] by rw [hw3, hnb]; exact Row.new w2 _ _)
          have M3 := Lib.hid (show Mods [] w w3 by rw [hw3]; exact M2.out.alloc _)
          rw [← hw3, ← hna, ← hnb]
          clear hw3 hna hnb M1 M2 R2
          obtain ⟨c0, c1, c2, c3⟩ := RA.out.facts4
          obtain ⟨d0, d1, d2, d3⟩ := RB.out.facts4
          go_wp2_with (first
            | (go_at_call 14; refine (HPA.out _).mono ?_; rintro e w4 ⟨rfl, hm⟩; have M4 := Lib.hid (M3.out.on hm); have RA4 := Lib.hid (RA.out.mods hm (by simp)); have RB4 := Lib.hid (RB.out.mods hm (by simp)); obtain ⟨g0, g1, g2, g3⟩ := RB4.out.facts4; clear hm)
                    | (go_at_call 15; refine (HPB.out _).mono ?_; rintro e w5 ⟨rfl, hm⟩; have M5 := Lib.hid (M4.out.on hm); have RA5 := Lib.hid (RA4.out.mods hm (by simp)); obtain ⟨k0, k1, k2, k3⟩ := RA5.out.facts4; clear hm)
            | (go_at_call 11; refine (HC.out _).mono ?_; rintro e w6 ⟨rfl, hm⟩; have M6 := Lib.hid (M5.out.on hm); have RA6 := Lib.hid ((RA5.out.mods hm (by simp)).alloc (.cells #[.int .i64 3, .string h, .string p, .string q] 23)); have RC6 := Lib.hid (Row.new w6 23 #[.int .i64 3, .string h, .string p, .string q]); obtain ⟨q0, q1, q2, q3⟩ := RA6.out.facts4; obtain ⟨s0, s1, s2, s3⟩ := RC6.out.facts4; clear hm)
            | (go_at_call 13; refine (known_l _).mono ?_; rintro e w7 ⟨rfl, hm⟩; have M7 := Lib.hid ((M6.out.alloc _).on hm); clear hm))
          go_ret
          exact ⟨rfl, M7.out.below⟩
        · by_cases h4 : t.form = 4
          · have hback := back_4 h4 hp
            have HC := Lib.hid (fun w => parse_a ⟨#[79, 80, 84, 73, 79, 78, 83]⟩ x w (by decide) (by omega))
            unfold TAns at HC
            rw [show (⟨#[79, 80, 84, 73, 79, 78, 83]⟩ : ByteArray).data.toList = optionsL from rfl, hback] at HC
            clear hback hp hr hz h3
            obtain ⟨f, h, p, q⟩ := t
            simp only at h4
            subst h4
            simp only [Tgt.cells] at HC
            simp only [Tgt.cells] at HA HB
            go_enter Try.func3, Try.ntmps3
            go_upto_region 5 with (first
              | (go_at_call 11; refine (HA.out _).mono ?_; rintro e w1 ⟨rfl, hm⟩; have M1 := Lib.hid hm; clear hm)
              | (go_at_call 12; refine (HB.out _).mono ?_; rintro e w2 ⟨rfl, hm⟩; have M2 := Lib.hid ((M1.out.alloc _).on hm); have R2 := Lib.hid ((Row.new w1 23 #[.int .i64 4, .string h, .string p, .string q]).mods hm (by simp)); clear hm))
            obtain ⟨w3, hw3⟩ : ∃ w3, w3 = w2.alloc (.cells #[.int .i64 4, .string h, .string p, .string q] 23) := ⟨_, rfl⟩
            obtain ⟨na, hna⟩ : ∃ na, na = w1.heap.size := ⟨_, rfl⟩
            obtain ⟨nb, hnb⟩ : ∃ nb, nb = w2.heap.size := ⟨_, rfl⟩
            have RA := Lib.hid (show Row w3 na 23 #[.int .i64 4, .string h, .string p, .string q] by rw [hw3, hna]; exact R2.out.alloc _)
            have RB := Lib.hid (show Row w3 nb 23 #[.int .i64 4, .string h, .string p, .string q] by rw [hw3, hnb]; exact Row.new w2 _ _)
            have M3 := Lib.hid (show Mods [] w w3 by rw [hw3]; exact M2.out.alloc _)
            rw [← hw3, ← hna, ← hnb]
            clear hw3 hna hnb M1 M2 R2
            obtain ⟨c0, c1, c2, c3⟩ := RA.out.facts4
            obtain ⟨d0, d1, d2, d3⟩ := RB.out.facts4
            go_wp2_with (first
              | (go_at_call 14; refine (HPA.out _).mono ?_; rintro e w4 ⟨rfl, hm⟩; have M4 := Lib.hid (M3.out.on hm); have RA4 := Lib.hid (RA.out.mods hm (by simp)); have RB4 := Lib.hid (RB.out.mods hm (by simp)); obtain ⟨g0, g1, g2, g3⟩ := RB4.out.facts4; clear hm)
                      | (go_at_call 15; refine (HPB.out _).mono ?_; rintro e w5 ⟨rfl, hm⟩; have M5 := Lib.hid (M4.out.on hm); have RA5 := Lib.hid (RA4.out.mods hm (by simp)); obtain ⟨k0, k1, k2, k3⟩ := RA5.out.facts4; clear hm)
              | (go_at_call 11; refine (HC.out _).mono ?_; rintro e w6 ⟨rfl, hm⟩; have M6 := Lib.hid (M5.out.on hm); have RA6 := Lib.hid ((RA5.out.mods hm (by simp)).alloc (.cells #[.int .i64 4, .string h, .string p, .string q] 23)); have RC6 := Lib.hid (Row.new w6 23 #[.int .i64 4, .string h, .string p, .string q]); obtain ⟨q0, q1, q2, q3⟩ := RA6.out.facts4; obtain ⟨s0, s1, s2, s3⟩ := RC6.out.facts4; clear hm)
              | (go_at_call 13; refine (known_l _).mono ?_; rintro e w7 ⟨rfl, hm⟩; have M7 := Lib.hid ((M6.out.alloc _).on hm); clear hm))
            go_ret
            exact ⟨rfl, M7.out.below⟩
          · have hback := back_0 h3 h4 hp
            have HC := Lib.hid (fun w => parse_a ⟨#[71, 69, 84]⟩ x w (by decide) (by omega))
            unfold TAns at HC
            rw [show (⟨#[71, 69, 84]⟩ : ByteArray).data.toList = getL from rfl, hback] at HC
            clear hback hp hr hz
            obtain ⟨f, h, p, q⟩ := t
            simp only at h3 h4
            have m3 := (i_ne h3).1
            have m4 := (i_ne h4).1
            clear h3 h4
            simp only [Tgt.cells] at HC
            simp only [Tgt.cells] at HA HB
            go_enter Try.func3, Try.ntmps3
            go_upto_region 5 with (first
              | (go_at_call 11; refine (HA.out _).mono ?_; rintro e w1 ⟨rfl, hm⟩; have M1 := Lib.hid hm; clear hm)
              | (go_at_call 12; refine (HB.out _).mono ?_; rintro e w2 ⟨rfl, hm⟩; have M2 := Lib.hid ((M1.out.alloc _).on hm); have R2 := Lib.hid ((Row.new w1 23 #[.int .i64 f, .string h, .string p, .string q]).mods hm (by simp)); clear hm))
            obtain ⟨w3, hw3⟩ : ∃ w3, w3 = w2.alloc (.cells #[.int .i64 f, .string h, .string p, .string q] 23) := ⟨_, rfl⟩
            obtain ⟨na, hna⟩ : ∃ na, na = w1.heap.size := ⟨_, rfl⟩
            obtain ⟨nb, hnb⟩ : ∃ nb, nb = w2.heap.size := ⟨_, rfl⟩
            have RA := Lib.hid (show Row w3 na 23 #[.int .i64 f, .string h, .string p, .string q] by rw [hw3, hna]; exact R2.out.alloc _)
            have RB := Lib.hid (show Row w3 nb 23 #[.int .i64 f, .string h, .string p, .string q] by rw [hw3, hnb]; exact Row.new w2 _ _)
            have M3 := Lib.hid (show Mods [] w w3 by rw [hw3]; exact M2.out.alloc _)
            rw [← hw3, ← hna, ← hnb]
            clear hw3 hna hnb M1 M2 R2
            obtain ⟨c0, c1, c2, c3⟩ := RA.out.facts4
            obtain ⟨d0, d1, d2, d3⟩ := RB.out.facts4
            go_wp2_with (first
              | (go_at_call 14; refine (HPA.out _).mono ?_; rintro e w4 ⟨rfl, hm⟩; have M4 := Lib.hid (M3.out.on hm); have RA4 := Lib.hid (RA.out.mods hm (by simp)); have RB4 := Lib.hid (RB.out.mods hm (by simp)); obtain ⟨g0, g1, g2, g3⟩ := RB4.out.facts4; clear hm)
                      | (go_at_call 15; refine (HPB.out _).mono ?_; rintro e w5 ⟨rfl, hm⟩; have M5 := Lib.hid (M4.out.on hm); have RA5 := Lib.hid (RA4.out.mods hm (by simp)); obtain ⟨k0, k1, k2, k3⟩ := RA5.out.facts4; clear hm)
              | (go_at_call 11; refine (HC.out _).mono ?_; rintro e w6 ⟨rfl, hm⟩; have M6 := Lib.hid (M5.out.on hm); have RA6 := Lib.hid ((RA5.out.mods hm (by simp)).alloc (.cells #[.int .i64 f, .string h, .string p, .string q] 23)); have RC6 := Lib.hid (Row.new w6 23 #[.int .i64 f, .string h, .string p, .string q]); obtain ⟨q0, q1, q2, q3⟩ := RA6.out.facts4; obtain ⟨s0, s1, s2, s3⟩ := RC6.out.facts4; clear hm)
              | (go_at_call 13; refine (known_l _).mono ?_; rintro e w7 ⟨rfl, hm⟩; have M7 := Lib.hid ((M6.out.alloc _).on hm); clear hm))
            go_ret
            exact ⟨rfl, M7.out.below⟩
      · subst h1
        clear hp hr hz
        obtain ⟨f, h, p, q⟩ := t
        simp only [Tgt.cells] at HA HB
        go_enter Try.func3, Try.ntmps3
        go_upto_region 5 with (first
          | (go_at_call 11; refine (HA.out _).mono ?_; rintro e w1 ⟨rfl, hm⟩; have M1 := Lib.hid hm; clear hm)
          | (go_at_call 12; refine (HB.out _).mono ?_; rintro e w2 ⟨rfl, hm⟩; have M2 := Lib.hid ((M1.out.alloc _).on hm); have R2 := Lib.hid ((Row.new w1 23 #[.int .i64 f, .string h, .string p, .string q]).mods hm (by simp)); clear hm))
        obtain ⟨w3, hw3⟩ : ∃ w3, w3 = w2.alloc (.cells #[.int .i64 f, .string h, .string p, .string q] 23) := ⟨_, rfl⟩
        obtain ⟨na, hna⟩ : ∃ na, na = w1.heap.size := ⟨_, rfl⟩
        obtain ⟨nb, hnb⟩ : ∃ nb, nb = w2.heap.size := ⟨_, rfl⟩
        have RA := Lib.hid (show Row w3 na 23 #[.int .i64 f, .string h, .string p, .string q] by rw [hw3, hna]; exact R2.out.alloc _)
        have RB := Lib.hid (show Row w3 nb 23 #[.int .i64 f, .string h, .string p, .string q] by rw [hw3, hnb]; exact Row.new w2 _ _)
        have M3 := Lib.hid (show Mods [] w w3 by rw [hw3]; exact M2.out.alloc _)
        rw [← hw3, ← hna, ← hnb]
        clear hw3 hna hnb M1 M2 R2
        obtain ⟨c0, c1, c2, c3⟩ := RA.out.facts4
        obtain ⟨d0, d1, d2, d3⟩ := RB.out.facts4
        go_wp2_with (first
          | (go_at_call 14; refine (HPA.out _).mono ?_; rintro e w4 ⟨rfl, hm⟩; have M4 := Lib.hid (M3.out.on hm); have RA4 := Lib.hid (RA.out.mods hm (by simp)); have RB4 := Lib.hid (RB.out.mods hm (by simp)); obtain ⟨g0, g1, g2, g3⟩ := RB4.out.facts4; clear hm)
          | (go_at_call 15; refine (HPB.out _).mono ?_; rintro e w5 ⟨rfl, hm⟩; have M5 := Lib.hid (M4.out.on hm); have RA5 := Lib.hid (RA4.out.mods hm (by simp)); obtain ⟨k0, k1, k2, k3⟩ := RA5.out.facts4; clear hm)
          | (go_at_call 13; refine (known_l _).mono ?_; rintro e w6 ⟨rfl, hm⟩; have M6 := Lib.hid (M5.out.on hm); clear hm))
        go_ret
        exact ⟨rfl, M6.out.below⟩
    · have e1 := (i_ne hn).1
      have e2 := (i_ne hn).2
      clear hn hr
      obtain ⟨f, h, p, q⟩ := t
      simp only [Tgt.cells] at HA HB
      go_enter Try.func3, Try.ntmps3
      go_upto_region 5 with (first
        | (go_at_call 11; refine (HA.out _).mono ?_; rintro e w1 ⟨rfl, hm⟩; have M1 := Lib.hid hm; clear hm)
        | (go_at_call 12; refine (HB.out _).mono ?_; rintro e w2 ⟨rfl, hm⟩; have M2 := Lib.hid ((M1.out.alloc _).on hm); have R2 := Lib.hid ((Row.new w1 23 #[.int .i64 f, .string h, .string p, .string q]).mods hm (by simp)); clear hm))
      obtain ⟨w3, hw3⟩ : ∃ w3, w3 = w2.alloc (.cells #[.int .i64 f, .string h, .string p, .string q] 23) := ⟨_, rfl⟩
      obtain ⟨na, hna⟩ : ∃ na, na = w1.heap.size := ⟨_, rfl⟩
      obtain ⟨nb, hnb⟩ : ∃ nb, nb = w2.heap.size := ⟨_, rfl⟩
      have RA := Lib.hid (show Row w3 na 23 #[.int .i64 f, .string h, .string p, .string q] by rw [hw3, hna]; exact R2.out.alloc _)
      have RB := Lib.hid (show Row w3 nb 23 #[.int .i64 f, .string h, .string p, .string q] by rw [hw3, hnb]; exact Row.new w2 _ _)
      have M3 := Lib.hid (show Mods [] w w3 by rw [hw3]; exact M2.out.alloc _)
      rw [← hw3, ← hna, ← hnb]
      clear hw3 hna hnb M1 M2 R2
      obtain ⟨c0, c1, c2, c3⟩ := RA.out.facts4
      obtain ⟨d0, d1, d2, d3⟩ := RB.out.facts4
      go_wp2_with (go_at_call 13; refine (known_l _).mono ?_; rintro e w6 ⟨rfl, hm⟩; have M6 := Lib.hid (M3.out.on hm); clear hm)
      go_ret
      exact ⟨rfl, M6.out.below⟩

theorem own : ownKnob Try.prog.godebug = none := by kernel_rfl
theorem laidOut : laidOutB Try.prog = true := by kernel_rfl
set_option maxRecDepth 100000 in
theorem lifted (os : Os) (started : os.Started) (H : Type) (enc : TypeId × Value → H) :
    ReturnsInHanded {} Try.checked os 3 .any (Rows.targetParsesSpec.pre6 enc Try.prog Try.f3 Rows.targetParsesRow.domain false) (Rows.targetParsesSpec.post enc Try.prog Try.f3 false true false false) := by
  refine returnsInHanded_of_change_sized (C := Try.checked) own started (by kernel_rfl) Try.func3
    (ChangeSpec.witness6 (enc := enc) (C := Try.checked) false ⟨#[], #[.string ByteArray.empty, .string ByteArray.empty], []⟩ 8 (by kernel_rfl) (by kernel_rfl) (by kernel_rfl) (by kernel_rfl)) ?_
  intro W base args ds gs before hval0 hW hcnd hsz0 _
  have hsz : (DataW.weightsEach Try.prog (Try.f3.params.toList ++ Rows.targetParsesSpec.plain.varTypes Try.prog) (ds ++ gs)).all (· ≤ reachBytes) = true := hsz0
  have hval : ∀ (j : Nat) t v, Try.f3.params[j]? = some t → args[j]? = some v → Value.okWide Try.prog W .any base t v := hval0
  have hW' := hW
  obtain ⟨p, q, hA0, hV, rfl, hfz, hnd⟩ := hW
  have hA : DataW.TrodAll enc Try.prog W 0 (fun _ => true) true Try.f3.params.toList args.toList ds p := hA0
  rw [Try.params3] at hA hval hsz
  obtain ⟨v0, vs0, d0, ds0, p0, q0, hargs, rfl, rfl, h0, r0⟩ := trodAll_cons hA
  obtain ⟨v1, vs1, d1, ds1, p1, q1, rfl, rfl, rfl, h1, r1⟩ := trodAll_cons r0
  obtain ⟨rfl, rfl, rfl⟩ := trodAll_nil r1
  obtain rfl : args = #[v0, v1] := by cases args; simp_all
  obtain ⟨rfl, rfl⟩ := trodVars_none hV
  obtain ⟨a0, rfl, rfl, rfl, w0⟩ := open_string Try.underlying9 (hval 0 9 v0 rfl rfl) h0
  have g0 : a0.size ≤ 140737488351232 := sized_string hsz (j := 0) (t := 9) rfl rfl
  obtain ⟨a1, rfl, rfl, rfl, w1⟩ := open_string Try.underlying9 (hval 1 9 v1 rfl rfl) h1
  have g1 : a1.size ≤ 140737488351232 := sized_string hsz (j := 1) (t := 9) rfl rfl
  clear hA0 hval0 hsz0 hsz
  refine (walk W a0 g0 a1 g1).mono fun e W' ⟨he, bel⟩ => ?_
  subst he
  exact ⟨_, rfl, _, _, _, [], _, [], hW', trodAll_mk1 (shut_bool Try.underlying4 _), (trodAll_cons_mk (shut_string Try.underlying9 w0) (trodAll_cons_mk (shut_string Try.underlying9 w1) trodAll_mk0)), rfl, bel.frame _, fun h => by cases h⟩

theorem over : Rows.targetParsesRow.holds Try.pinned (OpenSpec.ofChange Rows.targetParsesSpec) :=
  OpenClaim.holds_of_wide 3 Try.f3 rfl rfl rfl rfl rfl rfl rfl ⟨rfl, rfl, rfl, rfl, rfl⟩ rfl rfl rfl rfl rfl (by kernel_rfl) Try.func3 (by kernel_rfl)
    (of_decide_eq_true (by kernel_rfl)) (by unfold Func.isWrapper; first | (rw [if_pos (by decide +kernel)]; kernel_rfl) | (rw [if_neg (by decide +kernel)]; exact ⟨rfl, rfl⟩))
    (fun os started H enc _ => lifted os started H enc)

theorem proved : Rows.TargetParsesSaid := over
end Go.Proofs.Ytgckpoecdaioiaa.targetParses
