/- What stage 14's laws compare with, and the body that they know. Conditions: rows of at most a million bytes; the library's table of bits is laid. -/
import Derived.Test.YtdalomhcglbhjaaDoorMQC
import Derived.Test.YtdalomhcglbhjaaDoorMQB
import Derived.Test.YtdalomhcglbhjaaDoorSame
import Derived.Test.YtdalomhcglbhjaaDoorRows
import Derived.LaidSub
import Derived.Lib.LaidTab
namespace Go.Proofs.YtdalomhcglbhjaaDoor
open Go.RowKit
set_option linter.unusedVariables false
set_option linter.unusedSimpArgs false

theorem Drawn.mods {w w' : World} (h : Drawn w w') : Mods [] w w' := by obtain ⟨n, rfl⟩ := h; exact (Mods.refl [] w).drewN n
theorem byte_eq14 {a b : UInt8} (h : a = b) : ((a.toNat : Int) != (b.toNat : Int)) = false := by rw [h]; simp
theorem byte_ne14 {a b : UInt8} (h : a ≠ b) : ((a.toNat : Int) != (b.toNat : Int)) = true := by
  simp only [bne, Bool.not_eq_true', beq_eq_false_iff_ne]
  intro e
  exact h (UInt8.toNat_inj.1 (by omega))
/-- The table, out of what a card ties. -/
def debruijn64 : List Int := [0, 1, 56, 2, 57, 49, 28, 3, 61, 58, 42, 50, 38, 29, 17, 4, 62, 47, 59, 36, 45, 43, 51, 22, 53, 39, 33, 30, 24, 18, 12, 5, 63, 55, 48, 27, 60, 41, 37, 16, 46, 35, 44, 21, 52, 32, 23, 11, 54, 26, 40, 15, 34, 20, 31, 10, 25, 14, 19, 9, 13, 8, 7, 6]
theorem tz_data : (Rows.laid_math_bits_deBruijn64tab : DataW Unit) = Lib.tabData .u8 debruijn64 := by kernel_rfl
theorem gTz : Tryd.prog.globalNamed "math/bits.deBruijn64tab" = some 2 := by kernel_rfl
theorem tz_of14 {W : World} {L : List (String × DataW Unit)} (hL : laidMet Tryd.prog L W) (hf : L.filter (fun x => x.1 == "math/bits.deBruijn64tab") = [("math/bits.deBruijn64tab", Rows.laid_math_bits_deBruijn64tab)]) : Tz W := by
  have h1 := hL.filter (fun x => x.1 == "math/bits.deBruijn64tab")
  rw [hf, tz_data] at h1
  have h2 := Lib.tabIs_of_head (rest := []) gTz (by kernel_rfl) Tryd.underlying114 Tryd.underlying5 (by kernel_rfl) (by kernel_rfl) h1
  exact h2.cell gTz 15 (by decide)
set_option maxRecDepth 10000 in
set_option maxHeartbeats 1000000 in
theorem same_l14 (A B : List UInt8) (va vb : Value) (w : World) (ha : BsAt w va A) (hb : BsAt w vb B) {r : Bool} (hr : decide (A = B) = r) :
    Calls Tryd.prog 9 #[va, vb] w fun e w' => e = .returned (.bool r) ∧ Drawn w w' := by
  by_cases hl : A.length = B.length
  · have h1 : ((A.length : Int) != (B.length : Int)) = false := by simp [hl]
    by_cases h0 : A.length = 0
    · obtain rfl : A = [] := List.eq_nil_of_length_eq_zero h0
      obtain rfl : B = [] := List.eq_nil_of_length_eq_zero (by rw [← hl]; rfl)
      obtain rfl : true = r := by rw [← hr]; rfl
      obtain ⟨a, ca, rfl⟩ := ha.len
      obtain ⟨b, cb, rfl⟩ := hb.len
      clear ha hb hr
      go_enter Tryd.func9, Tryd.ntmps9
      go_wp2
      refine wp_loop_rounds 1 ?_
      rw [rounds_succ]
      go_wp2
      go_ret
      exact ⟨rfl, Drawn.refl _⟩
    · rcases ha with ⟨rfl, _⟩ | ⟨b1, o1, c1, rfl, -, hb1, hcap1, hmx1, hc1⟩
      · exact absurd rfl h0
      rcases hb with ⟨rfl, _⟩ | ⟨b2, o2, c2, rfl, -, hb2, hcap2, hmx2, hc2⟩
      · exact absurd hl h0
      have HL := Lib.hid hl
      have HRR := Lib.hid hr
      have hl2 : A.length ≤ B.length := by omega
      clear hl h0 hr
      have HC1 := Lib.hid hc1
      have HC2 := Lib.hid hc2
      clear hc1 hc2
      go_enter Tryd.func9, Tryd.ntmps9
      go_wp2
      go_loopw [5] (fun i wr => ∃ (k : Nat), k ≤ A.length ∧ i = .int .i64 k ∧ Drawn w wr ∧ ∀ j (h : j < A.length) (h2 : j < B.length), j < k → A[j] = B[j]) (fun i _ => A.length - (intOf i).toNat)
      case atStart => exact ⟨0, Nat.zero_le _, rfl, Drawn.refl _, fun j _ _ h => absurd h (by omega)⟩
      case round =>
        obtain ⟨k, hk, rfl, hd, hall⟩ := hrel
        have HA := Lib.hid hall
        clear hall
        by_cases hlt : k < A.length
        · have hlt2 : k < B.length := by omega
          have e1 : wr.cell? ⟨b1, o1 + k, none⟩ = some (.int .u8 (A[k].toNat : Int)) := by obtain ⟨m, rfl⟩ := hd; exact HC1.out k hlt
          have e2 : wr.cell? ⟨b2, o2 + k, none⟩ = some (.int .u8 (B[k].toNat : Int)) := by obtain ⟨m, rfl⟩ := hd; exact HC2.out k hlt2
          by_cases he : A[k] = B[k]
          · have hne := byte_eq14 he
            have HE := Lib.hid he
            clear he
            go_wp2
            go_quiet (fail)
            go_wp2
            go_roundw
            case rel =>
              refine ⟨k + 1, by omega, by go_num, hd.more _, fun j h h2 hj => ?_⟩
              by_cases e : j = k
              · subst e; exact HE.out
              · exact HA.out j h h2 (by omega)
            case measure => simp [intOf]; omega
          · have hne := byte_ne14 he
            have HE := Lib.hid (decide_eq_false (show ¬ A = B from fun e => he (by subst e; rfl)))
            clear he
            go_wp2
            go_quiet (fail)
            go_wp2
            go_ret
            exact ⟨by rw [← HRR.out, HE.out]; rfl, hd.more _⟩
        · have HE := Lib.hid (decide_eq_true (show A = B from List.ext_getElem HL.out fun j h h2 => HA.out j h h2 (by omega)))
          go_wp2
          go_ret
          exact ⟨by rw [← HRR.out, HE.out]; rfl, hd⟩
  · have h1 : ((A.length : Int) != (B.length : Int)) = true := by simp; omega
    have HE := Lib.hid (decide_eq_false (show ¬ A = B from fun e => hl (by rw [e])))
    obtain ⟨a, ca, rfl⟩ := ha.len
    obtain ⟨b, cb, rfl⟩ := hb.len
    have HRR := Lib.hid hr
    clear ha hb hl hr
    go_enter Tryd.func9, Tryd.ntmps9
    go_wp2
    go_ret
    exact ⟨by rw [← HRR.out, HE.out]; rfl, Drawn.refl _⟩
set_option maxRecDepth 10000 in
set_option maxHeartbeats 1000000 in
theorem fields_l14 (A B : List FV) (va vb : Value) (w : World) (ha : FsAt w va A) (hb : FsAt w vb B) (hA : A.length ≤ 1000000) (hB : B.length ≤ 1000000) :
    Calls Tryd.prog 11 #[va, vb] w fun e w' => e = .returned (.bool (decide (A = B))) ∧ Drawn w w' := by
  by_cases hl : A.length = B.length
  · have h1 : ((A.length : Int) != (B.length : Int)) = false := by simp [hl]
    by_cases h0 : A.length = 0
    · obtain rfl : A = [] := List.eq_nil_of_length_eq_zero h0
      obtain rfl : B = [] := List.eq_nil_of_length_eq_zero (by rw [← hl]; rfl)
      obtain ⟨a, ca, rfl⟩ := ha.len
      obtain ⟨b, cb, rfl⟩ := hb.len
      clear ha hb
      go_enter Tryd.func11, Tryd.ntmps11
      go_wp2
      refine wp_loop_rounds 1 ?_
      rw [rounds_succ]
      go_wp2
      go_ret
      exact ⟨rfl, Drawn.refl _⟩
    · rcases ha with ⟨rfl, _⟩ | ⟨b1, o1, c1, rfl, -, hb1, hc1⟩
      · exact absurd rfl h0
      rcases hb with ⟨rfl, _⟩ | ⟨b2, o2, c2, rfl, -, hb2, hc2⟩
      · exact absurd hl h0
      have HL := Lib.hid hl
      have hl2 : A.length ≤ B.length := by omega
      clear hl h0
      have HC1 := Lib.hid hc1
      have HC2 := Lib.hid hc2
      clear hc1 hc2
      go_enter Tryd.func11, Tryd.ntmps11
      go_wp2
      go_loopw [5] (fun i wr => ∃ (k : Nat), k ≤ A.length ∧ i = .int .i64 k ∧ Drawn w wr ∧ ∀ j (h : j < A.length) (h2 : j < B.length), j < k → A[j] = B[j]) (fun i _ => A.length - (intOf i).toNat)
      case atStart => exact ⟨0, Nat.zero_le _, rfl, Drawn.refl _, fun j _ _ h => absurd h (by omega)⟩
      case round =>
        obtain ⟨k, hk, rfl, hd, hall⟩ := hrel
        have HA := Lib.hid hall
        clear hall
        by_cases hlt : k < A.length
        · have hlt2 : k < B.length := by omega
          have e1 : wr.cell? ⟨b1, o1 + k * 2, none⟩ = some (.string (A[k].1)) := by obtain ⟨m, rfl⟩ := hd; exact (HC1.out k hlt).1
          have e2 : wr.cell? ⟨b2, o2 + k * 2, none⟩ = some (.string (B[k].1)) := by obtain ⟨m, rfl⟩ := hd; exact (HC2.out k hlt2).1
          have e3 : wr.cell? ⟨b1, o1 + k * 2 + 1, none⟩ = some (.string (A[k].2)) := by obtain ⟨m, rfl⟩ := hd; exact (HC1.out k hlt).2
          have e4 : wr.cell? ⟨b2, o2 + k * 2 + 1, none⟩ = some (.string (B[k].2)) := by obtain ⟨m, rfl⟩ := hd; exact (HC2.out k hlt2).2
          by_cases he : A[k].1 = B[k].1
          · have hne := (bytes_eqB (show A[k].1 = B[k].1 by rw [he])).1
            by_cases he2 : A[k].2 = B[k].2
            · have hne2 := (bytes_eqB (show A[k].2 = B[k].2 by rw [he2])).1
              have HE := Lib.hid (show A[k] = B[k] from Prod.ext he he2)
              clear he he2
              go_wp2
              go_quiet (fail)
              go_wp2
              go_roundw
              case rel =>
                refine ⟨k + 1, by omega, by go_num, hd.more _, fun j h h2 hj => ?_⟩
                by_cases e : j = k
                · subst e; exact HE.out
                · exact HA.out j h h2 (by omega)
              case measure => simp [intOf]; omega
            · have hne2 := (bytes_neB he2).1
              have HE := Lib.hid (decide_eq_false (show ¬ A = B from fun e => he2 (by subst e; rfl)))
              clear he he2
              go_wp2
              go_quiet (fail)
              go_wp2
              go_ret
              exact ⟨by rw [HE.out]; rfl, hd.more _⟩
          · have hne := (bytes_neB he).1
            have HE := Lib.hid (decide_eq_false (show ¬ A = B from fun e => he (by subst e; rfl)))
            clear he
            go_wp2
            go_quiet (fail)
            go_wp2
            go_ret
            exact ⟨by rw [HE.out]; rfl, hd.more _⟩
        · have HE := Lib.hid (decide_eq_true (show A = B from List.ext_getElem HL.out fun j h h2 => HA.out j h h2 (by omega)))
          go_wp2
          go_ret
          exact ⟨by rw [HE.out]; rfl, hd⟩
  · have h1 : ((A.length : Int) != (B.length : Int)) = true := by simp; omega
    have HE := Lib.hid (decide_eq_false (show ¬ A = B from fun e => hl (by rw [e])))
    obtain ⟨a, ca, rfl⟩ := ha.len
    obtain ⟨b, cb, rfl⟩ := hb.len
    clear ha hb hl
    go_enter Tryd.func11, Tryd.ntmps11
    go_wp2
    go_ret
    exact ⟨by rw [HE.out]; rfl, Drawn.refl _⟩
theorem PsAt.two14 (w4 : World) : PsAt ((w4.alloc (.cells #[.int .u8 97] 5 (1, 2))).alloc (.cells #[.slice (some ⟨w4.heap.size, 0, none⟩) 1 1, .slice none 0 0] 22)) (.slice (some ⟨w4.heap.size + 1, 0, none⟩) 2 2) [[97], []] := by
  have hr := Row.new (w4.alloc (.cells #[.int .u8 97] 5 (1, 2))) 22 #[.slice (some ⟨w4.heap.size, 0, none⟩) 1 1, .slice none 0 0]
  rw [World.size_alloc] at hr
  refine .inr ⟨w4.heap.size + 1, 0, 2, rfl, by decide, by simp, fun j hj => ?_⟩
  have hj2 : j = 0 ∨ j = 1 := by simp only [List.length_cons, List.length_nil] at hj; omega
  rcases hj2 with rfl | rfl
  · exact ⟨_, hr.cell 0, (lit_at w4 [97] (1, 2) (by decide) (by decide)).low ((Mods.refl [] _).alloc _)⟩
  · exact ⟨_, hr.cell 1, .inl ⟨rfl, _, _, rfl⟩⟩
set_option maxRecDepth 10000 in
set_option maxHeartbeats 4000000 in
theorem known_14 (w : World) (ht : Tz w) : Calls Tryd.prog 13 #[] w fun z w' => z = .returned (.bool true) ∧ Mods [] w w' := by
  have HN := Lib.hid (new_c w)
  have HT := Lib.hid ht
  clear ht
  obtain ⟨r1, n1, hr1⟩ : ∃ r1 n1, feedP newC knC = (r1, n1) := ⟨_, _, rfl⟩
  obtain ⟨k1, k2, k3, k4⟩ := knC_feed
  rw [hr1] at k1 k2 k3 k4
  simp only at k1 k2 k3 k4
  subst k1
  have HR := Lib.hid hr1
  have HK := Lib.hid (And.intro k2 (And.intro k3 k4))
  clear hr1 k2 k3 k4
  unfold ptr at HN
  go_enter Tryd.func13, Tryd.ntmps13
  go_upto_region 2 with (go_at_call 7; refine HN.out.mono ?_; rintro z w1 ⟨g, F, rfl, hk⟩; have HA := Lib.hid hk.out; clear hk)
  have hcv1 := conv_lit w1 #[.int .u8 51, .int .u8 59, .int .u8 97, .int .u8 61, .int .u8 98, .int .u8 13, .int .u8 10, .int .u8 97, .int .u8 98, .int .u8 99, .int .u8 13, .int .u8 10, .int .u8 48, .int .u8 13, .int .u8 10, .int .u8 13, .int .u8 10, .int .u8 120] 18 18 _ rfl
  have m1 : Mods [] w1 (w1.alloc (.cells #[.int .u8 51, .int .u8 59, .int .u8 97, .int .u8 61, .int .u8 98, .int .u8 13, .int .u8 10, .int .u8 97, .int .u8 98, .int .u8 99, .int .u8 13, .int .u8 10, .int .u8 48, .int .u8 13, .int .u8 10, .int .u8 13, .int .u8 10, .int .u8 120] 5 (18, 19))) := (Mods.refl [] w1).alloc _
  have hbs : BsAt (w1.alloc (.cells #[.int .u8 51, .int .u8 59, .int .u8 97, .int .u8 61, .int .u8 98, .int .u8 13, .int .u8 10, .int .u8 97, .int .u8 98, .int .u8 99, .int .u8 13, .int .u8 10, .int .u8 48, .int .u8 13, .int .u8 10, .int .u8 13, .int .u8 10, .int .u8 120] 5 (18, 19))) (.slice (some ⟨w1.heap.size, 0, none⟩) 18 18) knC := lit_at w1 knC (18, 19) (by decide) (by decide)
  have HFD := Lib.hid (feed_c _ knC hbs (fun _ k hk hF => by have := HA.out.1.lt k hF; simp [Value.ownBlock] at hk; omega) (HA.out.1.low m1) (by decide))
  rw [HR.out] at HFD
  simp only at HFD
  rw [HK.out.1, HK.out.2.1] at HFD
  have M1 := Lib.hid (HA.out.2.1.trans m1 (fun _ h => nomatch h))
  have HFN := Lib.hid (show ∀ k ∈ F, w.heap.size ≤ k from HA.out.2.2)
  unfold ptr at HFD
  clear m1 hbs HN
  go_upto_region 3 with (go_at_call 8; refine HFD.out.mono ?_; rintro z w2 ⟨rfl, hk⟩; have HQ := Lib.hid hk.out; clear hk)
  clear hcv1
  obtain ⟨F2, a2, hg2⟩ := HQ.out
  have hb2 := body_c a2
  rw [HK.out.2.2] at hb2
  have HB := Lib.hid hb2
  have M2 := Lib.hid (show Mods [] w w2 from M1.out.trans hg2.mods (fun k hk => .inr (HFN.out k hk)))
  unfold ptr at HB
  clear hb2 a2 hg2
  go_wp2_with (first
    | (go_at_call 10; refine HB.out.mono ?_; rintro z w3 ⟨u, rfl, hk⟩; have hcv3 := conv_lit w3 #[.int .u8 97, .int .u8 98, .int .u8 99] 3 3 _ rfl; obtain ⟨ua, uc, rfl⟩ := hk.out.form; have HG3 := Lib.hid hk.out; clear hk)
    | (go_at_call 14; refine HE5.out.mono ?_; rintro z w5 ⟨u5, rfl, hk⟩; have hcv5 := conv_lit w5 #[.int .u8 49, .int .u8 13, .int .u8 10, .int .u8 97, .int .u8 13, .int .u8 10, .int .u8 48, .int .u8 13, .int .u8 10, .int .u8 13, .int .u8 10] 11 11 _ rfl; obtain ⟨xa, xc, rfl⟩ := hk.out.form; have HG5 := Lib.hid hk.out; clear hk)
    | (go_at_call 9; have hx := HG5; clear hx; refine (same_l14 [49, 13, 10, 97, 13, 10, 48, 13, 10, 13, 10] [49, 13, 10, 97, 13, 10, 48, 13, 10, 13, 10] _ _ _ (by rw [← knC_enc]; exact HG5.out.at.low ((Mods.refl [] _).alloc _)) (lit_at _ [49, 13, 10, 97, 13, 10, 48, 13, 10, 13, 10] (11, 12) (by decide) (by decide)) (r := true) (by decide)).mono ?_; rintro z w6 ⟨rfl, hd⟩; have M6 := Lib.hid ((M4.out.trans HG5.out.mods (fun _ h => nomatch h)).alloc (.cells #[.int .u8 49, .int .u8 13, .int .u8 10, .int .u8 97, .int .u8 13, .int .u8 10, .int .u8 48, .int .u8 13, .int .u8 10, .int .u8 13, .int .u8 10] 5 (11, 12)) |>.trans hd.mods (fun _ h => nomatch h)); clear hd)
    | (go_at_call 9; refine (same_l14 [97, 98, 99] [97, 98, 99] _ _ _ (HG3.out.at.low ((Mods.refl [] _).alloc _)) (lit_at w3 [97, 98, 99] (3, 4) (by decide) (by decide)) (r := true) (by decide)).mono ?_; rintro z w4 ⟨rfl, hd⟩; have hcv4 := conv_lit w4 #[.int .u8 97] 1 1 _ rfl; have M40 := ((M2.out.trans HG3.out.mods (fun _ h => nomatch h)).alloc (.cells #[.int .u8 97, .int .u8 98, .int .u8 99] 5 (3, 4))).trans hd.mods (fun _ h => nomatch h); have M4 := Lib.hid ((M40.alloc (.cells #[.int .u8 97] 5 (1, 2))).alloc (.cells #[.slice (some ⟨w4.heap.size, 0, none⟩) 1 1, .slice none 0 0] 22)); have HE5 := Lib.hid (encode_c (.slice (some ⟨w4.heap.size + 1, 0, none⟩) 2 2) [[97], []] ((w4.alloc (.cells #[.int .u8 97] 5 (1, 2))).alloc (.cells #[.slice (some ⟨w4.heap.size, 0, none⟩) 1 1, .slice none 0 0] 22)) (PsAt.two14 w4) (HT.out.low M4.out) (by decide) (by decide)); clear hd M40))
  go_ret
  exact ⟨rfl, M6.out⟩
end Go.Proofs.YtdalomhcglbhjaaDoor
