/- For every three times, a timer is on the wheel of the highest digit of six bits in which its time and the time part, in the slot of that digit: the law returns true. Condition: the library's table of 64 is laid as its initialiser lays it. -/
import Derived.Test.YtgfmjkbelciaaaaDoorCards
import Derived.Test.YtgfmjkbelciaaaaDoorTie
import Derived.Lay
import Derived.LaidOnce
import Derived.MakeChecks
import Derived.SevenTiedAt
import Derived.WalkKit
import Derived.ProofKit
import Derived.OpenShut
import Derived.ShutString
import Derived.ChangeOld
import Derived.Below
import Derived.SizedLaws
import Derived.Test.YtgfmjkbelciaaaaDoorWhKn
import Derived.Test.YtgfmjkbelciaaaaDoorTz2
import Derived.Carry

namespace Go.Proofs.YtgfmjkbelciaaaaDoor.wheelPlaces
open Go.ChangeShapes Go.WideShapes Go.ChangeAt Go.RowKit
open Go.ChangeMaps (open_string shut_string)
set_option linter.unusedVariables false
theorem fire1 (t b s g a : Nat) (h : t < a) : fireT t [(⟨b, s, g, a⟩ : Tm)] = [] ∧ leftT t [(⟨b, s, g, a⟩ : Tm)] = [⟨b, s, g, a⟩] := by
  constructor
  · unfold fireT
    rw [List.filter_cons, if_neg (by simp; omega)]; rfl
  · unfold leftT
    rw [List.filter_cons, if_pos (by simp; omega)]; rfl
theorem fire2 (t b s g a : Nat) (h : a ≤ t) : fireT t [(⟨b, s, g, a⟩ : Tm)] = [⟨b, s, g, a⟩] ∧ leftT t [(⟨b, s, g, a⟩ : Tm)] = [] := by
  constructor
  · unfold fireT
    rw [List.filter_cons, if_pos (by simp; omega)]; rfl
  · unfold leftT
    rw [List.filter_cons, if_neg (by simp; omega)]; rfl
theorem gone1 (b a : Nat) : (takeL ((Slb.new 4096).put 1) [(⟨b, 0, 1, a⟩ : Tm)]).is 0 1 = false := by rfl
/-- What the law wants of a time, when j levels have been asked. -/
def wpt (a t : Nat) : Nat → Nat × Nat
  | 0 => (4, 0)
  | j + 1 => if a / 64 ^ (4 - j) = t / 64 ^ (4 - j) then (3 - j, a / 64 ^ (3 - j) % 64) else wpt a t j
theorem wpt_plc (a t : Nat) (h : t < a) : (wpt a t 4).1 = plc t a / 64 ∧ (wpt a t 4).2 = plc t a % 64 := by
  unfold plc
  rw [if_neg (by omega)]
  simp only [wpt, Nat.reducePow, Nat.reduceSub]
  by_cases h1 : a / 64 = t / 64
  · rw [if_pos h1, if_pos h1]; constructor <;> simp <;> omega
  rw [if_neg h1, if_neg h1]
  by_cases h2 : a / 4096 = t / 4096
  · rw [if_pos h2, if_pos h2]; constructor <;> simp <;> omega
  rw [if_neg h2, if_neg h2]
  by_cases h3 : a / 262144 = t / 262144
  · rw [if_pos h3, if_pos h3]; constructor <;> simp <;> omega
  rw [if_neg h3, if_neg h3]
  by_cases h4 : a / 16777216 = t / 16777216
  · rw [if_pos h4, if_pos h4]; constructor <;> simp <;> omega
  rw [if_neg h4, if_neg h4]
  constructor <;> rfl
theorem pow_le (i : Nat) (h : i ≤ 4) : 1 ≤ 64 ^ i ∧ 64 ^ i ≤ 16777216 := by
  have : i = 0 ∨ i = 1 ∨ i = 2 ∨ i = 3 ∨ i = 4 := by omega
  rcases this with rfl | rfl | rfl | rfl | rfl <;> exact ⟨by decide, by decide⟩
theorem div_fact (a s : Nat) (ha : a ≤ 1099511627776) : IntKind.i64.wrap ((a : Int).tdiv (s : Int)) = ((a / s : Nat) : Int) := by
  have h : ((a : Int).tdiv (s : Int)) = ((a / s : Nat) : Int) := (Int.ofNat_tdiv a s).symm
  have := Nat.div_le_self a s
  rw [h]
  generalize a / s = q at *
  rw [IntKind.wrap_i64]; omega
theorem mod_fact (a : Nat) (ha : a ≤ 1099511627776) : IntKind.i64.wrap ((a : Int).tmod 64) = ((a % 64 : Nat) : Int) := by
  have h : ((a : Int).tmod 64) = ((a % 64 : Nat) : Int) := (Int.ofNat_tmod a 64).symm
  rw [h, IntKind.wrap_i64]; omega
theorem nums (a t s p : Nat) (ha : a ≤ 1099511627776) (ht : t ≤ 1099511627776) (hs : s = 64 * p) (h1 : 1 ≤ p) (h2 : s ≤ 16777216) :
    wrap64 ((a : Int) / (s : Int)) = ((a / s : Nat) : Int) ∧ wrap64 ((t : Int) / (s : Int)) = ((t / s : Nat) : Int) ∧ wrap64 ((a : Int) / (p : Int)) = ((a / p : Nat) : Int) ∧ wrap64 ((s : Int) / 64) = (p : Int) ∧
      ((a / p : Nat) : Int).tmod 64 = ((a / p % 64 : Nat) : Int) ∧ (s : Int) ≠ 0 ∧ (p : Int) ≠ 0 := by
  have go : ∀ x y : Nat, x ≤ 1099511627776 → wrap64 ((x : Int) / (y : Int)) = ((x / y : Nat) : Int) := fun x y hx => by
    have := Nat.div_le_self x y
    rw [← Int.natCast_ediv]
    generalize x / y = q at *
    exact IntWalk.wrap64_in _ ⟨by omega, by omega⟩
  refine ⟨go a s ha, go t s ht, go a p ha, ?_, (Int.ofNat_tmod _ _).symm, by omega, by omega⟩
  have h := go s 64 (by omega)
  rw [show s / 64 = p by omega] at h
  exact h
set_option maxHeartbeats 2000000 in
theorem late (now a t : Nat) (h1 : now ≤ 1099511627776) (h2 : a ≤ 1099511627776) (h3 : now ≤ t) (h4 : t ≤ 1099511627776) (h5 : t < a) (w : World) (ht : TzTab w) :
    Calls Tryd.prog 7 #[.int .i64 (now : Int), .int .i64 (a : Int), .int .i64 (t : Int)] w fun e w' => e = .returned (.bool true) ∧ Below w.heap.size w w' := by
  have HT := Lib.hid ht
  have he := eql_whl
  clear ht
  have g1 : ¬ (now : Int) < 0 := by omega
  have g2 : ¬ 1099511627776 < (now : Int) := by omega
  have g3 : ¬ (a : Int) < 0 := by omega
  have g4 : ¬ 1099511627776 < (a : Int) := by omega
  have g5 : ¬ (t : Int) < (now : Int) := by omega
  have g6 : ¬ 1099511627776 < (t : Int) := by omega
  have g7 : ¬ (a : Int) ≤ (t : Int) := by omega
  have g8 : decide (a ≤ t) = false := by simp; omega
  go_enter Tryd.func7, Tryd.ntmps7
  go_wp2_with fail
  refine (new_as w now (Mods.refl [] w) (by omega)).mono ?_
  rintro e w1 ⟨g, rfl, hf⟩
  obtain ⟨F1, hh, -, -⟩ := hf.out
  have H1 := Lib.hid hh
  clear hf hh
  go_wp2_with fail
  refine (add_as w1 g a 1 F1 _ 0 now [] 0 1 H1.out HT.out (by omega) (by decide) (by omega) (by rw [k_least]; rfl) (by rw [k_gen]; rfl)).mono ?_
  rintro e w2 ⟨rfl, hf⟩
  obtain ⟨F2, b, hh, -⟩ := hf.out
  rw [k_least, k_gen, List.nil_append] at hh
  have H2 := Lib.hid hh
  clear hf hh
  go_wp2_with fail
  have H2a := Lib.hid (H2.out.step ((Mods.refl [] w2).alloc (.cells #[.int .i64 0, .int .i64 1] 32)))
  refine (adv_as _ g F2 _ _ now t t _ H2a.out (by omega) (by omega)).mono ?_
  rintro e w3 ⟨v3, rfl, hf⟩
  obtain ⟨F3, hh, -, m3, -⟩ := hf.out
  rw [(fire1 t b 0 1 a h5).1] at hh
  rw [(fire1 t b 0 1 a h5).2] at hh
  have H3 := Lib.hid hh
  have c0 := cell_new m3 (H2a.out.wh.far_hand (Row.new w2 _ _)) 0
  have c1 := cell_new m3 (H2a.out.wh.far_hand (Row.new w2 _ _)) 1
  clear hf hh m3
  have HW := Lib.hid (wpt_plc a t h5)
  obtain ⟨x, hx⟩ : ∃ x, plc t a / 64 = x := ⟨_, rfl⟩
  obtain ⟨y, hy⟩ : ∃ y, plc t a % 64 = y := ⟨_, rfl⟩
  have HP := Lib.hid (where_as (w0 := w) w3 g F3 _ _ t _ ⟨b, 0, 1, a⟩ 0 1 x y H3.out (by simp) rfl rfl (by rw [hx]) (by rw [hy]))
  rw [hx, hy] at HW
  clear hx hy
  go_wp2_with fail
  refine HP.out.mono ?_
  rintro e w4 ⟨rfl, hm⟩
  have H4 := Lib.hid (H3.out.step hm).mods
  clear hm HP c0 c1
  go_wp2_with fail
  go_loopw [14, 15, 16, 17, 18] (fun wv pv lv _ _ wr => ∃ j : Nat, j ≤ 4 ∧ wv = .int .i64 ((wpt a t j).1 : Nat) ∧ pv = .int .i64 ((wpt a t j).2 : Nat) ∧ lv = .int .i64 (3 - (j : Int)) ∧ Hid (Mods [] w wr)) (fun _ _ lv _ _ _ => (intOf lv + 1).toNat)
  case atStart => exact ⟨0, by omega, rfl, rfl, rfl, H4⟩
  case round =>
    clear H4
    obtain ⟨j, hj, rfl, rfl, rfl, hd⟩ := hrel
    obtain ⟨wo, rfl⟩ : ∃ wo : World, wo = wr := ⟨_, rfl⟩
    have HD := Lib.hid hd.out
    clear hd
    by_cases hlt : j < 4
    · have e1 : (0 : Int) ≤ 3 - (j : Int) := by omega
      have HS := Lib.hid (show wpt a t (j + 1) = if a / 64 ^ (4 - j) = t / 64 ^ (4 - j) then (3 - j, a / 64 ^ (3 - j) % 64) else wpt a t j from rfl)
      have HX := Lib.hid (show 64 ^ (4 - j) = 64 * 64 ^ (3 - j) by rw [show 4 - j = (3 - j) + 1 by omega, Nat.pow_succ, Nat.mul_comm])
      obtain ⟨u, hu⟩ : ∃ u, (wpt a t j).1 = u := ⟨_, rfl⟩
      obtain ⟨v, hv⟩ : ∃ v, (wpt a t j).2 = v := ⟨_, rfl⟩
      have HUV := Lib.hid (And.intro hu hv)
      rw [hu, hv]
      clear hu hv
      go_wp2_with fail
      go_loopw [17, 18] (fun sv iv wx => ∃ i : Nat, i ≤ 4 - j ∧ sv = .int .i64 ((64 ^ i : Nat) : Int) ∧ iv = .int .i64 (i : Int) ∧ Hid (Mods [] w wx)) (fun _ iv _ => 4 - j - (intOf iv).toNat)
      case atStart => exact ⟨0, by omega, rfl, rfl, HD⟩
      case round =>
        obtain ⟨i, hi, rfl, rfl, hd⟩ := hrel
        have HE := Lib.hid hd.out
        clear hd HD
        have ⟨p1, p2⟩ := pow_le i (by omega)
        by_cases hli : i < 4 - j
        · have e2 : (i : Int) ≤ 3 - (j : Int) := by omega
          have ⟨p3, p4⟩ := pow_le (i + 1) (by omega)
          have p5 : 64 ^ (i + 1) = 64 * 64 ^ i := by rw [Nat.pow_succ, Nat.mul_comm]
          have e3 : IntKind.i64.wrap (64 * ((64 ^ i : Nat) : Int)) = ((64 ^ (i + 1) : Nat) : Int) := by rw [IntKind.wrap_i64]; omega
          have e4 : IntKind.i64.wrap ((i : Int) + 1) = ((i + 1 : Nat) : Int) := by rw [IntKind.wrap_i64]; omega
          obtain ⟨s1, hs1⟩ : ∃ s, 64 ^ (i + 1) = s := ⟨_, rfl⟩
          obtain ⟨s0, hs0⟩ : ∃ s, 64 ^ i = s := ⟨_, rfl⟩
          rw [hs1, hs0] at e3
          rw [hs0]
          have HS1 := Lib.hid hs1
          clear hs1 hs0 p1 p2 p3 p4 p5
          go_wp2
          go_roundw
          case rel => exact ⟨i + 1, by omega, by simp only [HS1.out], by go_num, HE⟩
          case measure => simp [intOf]; omega
        · have hie : i = 4 - j := by omega
          subst hie
          have e2 : ¬ ((4 - j : Nat) : Int) ≤ 3 - (j : Int) := by omega
          have ⟨p3, p4⟩ := pow_le (3 - j) (by omega)
          obtain ⟨s, hs⟩ : ∃ s, 64 ^ (4 - j) = s := ⟨_, rfl⟩
          obtain ⟨p, hp⟩ : ∃ p, 64 ^ (3 - j) = p := ⟨_, rfl⟩
          rw [hs, hp] at HS HX
          rw [hs] at p1 p2
          rw [hp] at p3 p4
          rw [hs]
          clear hs hp
          have hsp := HX.out
          obtain ⟨q1, q2, q4, q3, r4, q6, q7⟩ := nums a t s p h2 h4 hsp (by omega) (by omega)
          have q8 : IntKind.i64.wrap (3 - (j : Int) - 1) = 3 - ((j : Int) + 1) := by rw [IntKind.wrap_i64]; omega
          generalize a / s = da at q1 HS
          generalize t / s = dt at q2 HS
          generalize a / p = dp at q4 r4 HS
          generalize dp % 64 = m at r4 HS
          clear hsp HX p1 p2 p3 p4 hli hi g1 g2 g3 g4 g5 g6 g7 g8 he HT H3 HW
          by_cases hq : da = dt
          · have q9 : ((da : Int) == (dt : Int)) = true := by simp; omega
            rw [if_pos hq] at HS
            go_wp2
            go_region
            all_goals go_wp2
            go_region
            all_goals go_wp2
            all_goals go_roundw
            case rel => exact ⟨j + 1, by omega, by rw [HS.out]; go_num, by rw [HS.out], by go_num, Lib.hid ((HE.out.drewN 1).drewN 1)⟩
            case measure => simp [intOf]; omega
          · have q9 : ((da : Int) == (dt : Int)) = false := by simp; omega
            rw [if_neg hq] at HS
            go_wp2
            go_region
            all_goals go_wp2
            all_goals go_roundw
            case rel => exact ⟨j + 1, by omega, by rw [HS.out, HUV.out.1], by rw [HS.out, HUV.out.2], by go_num, Lib.hid (HE.out.drewN 1)⟩
            case measure => simp [intOf]; omega
    · have hj4 : j = 4 := by omega
      subst hj4
      have e1 : ¬ (0 : Int) ≤ 3 - ((4 : Nat) : Int) := by omega
      rw [HW.out.1, HW.out.2]
      have q1 : ((x : Int) == (x : Int)) = true := by simp
      have q2 : ((y : Int) == (y : Int)) = true := by simp
      go_wp2_with fail
      refine (known_any _ (HT.out.mods HD.out (by simp))).mono ?_
      rintro e w9 ⟨rfl, hm⟩
      have M9 := Lib.hid (HD.out.trans hm (by simp))
      clear hm
      go_wp2
      go_ret
      exact ⟨rfl, M9.out.below⟩
set_option maxHeartbeats 2000000 in
theorem early (now a t : Nat) (h1 : now ≤ 1099511627776) (h2 : a ≤ 1099511627776) (h3 : now ≤ t) (h4 : t ≤ 1099511627776) (h5 : a ≤ t) (w : World) (ht : TzTab w) :
    Calls Tryd.prog 7 #[.int .i64 (now : Int), .int .i64 (a : Int), .int .i64 (t : Int)] w fun e w' => e = .returned (.bool true) ∧ Below w.heap.size w w' := by
  have HT := Lib.hid ht
  have he := eql_whl
  clear ht
  have g1 : ¬ (now : Int) < 0 := by omega
  have g2 : ¬ 1099511627776 < (now : Int) := by omega
  have g3 : ¬ (a : Int) < 0 := by omega
  have g4 : ¬ 1099511627776 < (a : Int) := by omega
  have g5 : ¬ (t : Int) < (now : Int) := by omega
  have g6 : ¬ 1099511627776 < (t : Int) := by omega
  have g7 : (a : Int) ≤ (t : Int) := by omega
  go_enter Tryd.func7, Tryd.ntmps7
  go_wp2_with fail
  refine (new_as w now (Mods.refl [] w) (by omega)).mono ?_
  rintro e w1 ⟨g, rfl, hf⟩
  obtain ⟨F1, hh, -, -⟩ := hf.out
  have H1 := Lib.hid hh
  clear hf hh
  go_wp2_with fail
  refine (add_as w1 g a 1 F1 _ 0 now [] 0 1 H1.out HT.out (by omega) (by decide) (by omega) (by rw [k_least]; rfl) (by rw [k_gen]; rfl)).mono ?_
  rintro e w2 ⟨rfl, hf⟩
  obtain ⟨F2, b, hh, -⟩ := hf.out
  rw [k_least, k_gen, List.nil_append] at hh
  have H2 := Lib.hid hh
  clear hf hh
  go_wp2_with fail
  have H2a := Lib.hid (H2.out.step ((Mods.refl [] w2).alloc (.cells #[.int .i64 0, .int .i64 1] 32)))
  refine (adv_as _ g F2 _ _ now t t _ H2a.out (by omega) (by omega)).mono ?_
  rintro e w3 ⟨v3, rfl, hf⟩
  obtain ⟨F3, hh, -, m3, -⟩ := hf.out
  rw [(fire2 t b 0 1 a h5).1] at hh
  rw [(fire2 t b 0 1 a h5).2] at hh
  have H3 := Lib.hid hh
  have c0 := cell_new m3 (H2a.out.wh.far_hand (Row.new w2 _ _)) 0
  have c1 := cell_new m3 (H2a.out.wh.far_hand (Row.new w2 _ _)) 1
  clear hf hh m3
  have HP := Lib.hid (where_no w3 g F3 _ _ t _ 0 1 H3.out.wh (by omega) (by omega) (gone1 b a))
  go_wp2_with fail
  refine HP.out.mono ?_
  rintro e w4 ⟨rfl, hm⟩
  have H4 := Lib.hid (H3.out.step hm)
  have HL := Lib.hid (wlen_any w4 g F3 _ _ t [] H4.out.wh)
  clear hm HP c0 c1
  go_wp2_with fail
  refine HL.out.mono ?_
  rintro e w5 ⟨rfl, rfl⟩
  go_wp2_with fail
  refine (known_any _ (HT.out.mods H4.out.mods (by simp))).mono ?_
  rintro e w9 ⟨rfl, hm⟩
  have M9 := Lib.hid (H4.out.mods.trans hm (by simp))
  clear hm
  go_wp2
  go_ret
  exact ⟨rfl, M9.out.below⟩
set_option maxHeartbeats 2000000 in
theorem outer (a b c : Int) (h : a < 0 ∨ 1099511627776 < a ∨ b < 0 ∨ 1099511627776 < b ∨ c < a ∨ 1099511627776 < c) (w : World) (ht : TzTab w) :
    Calls Tryd.prog 7 #[.int .i64 a, .int .i64 b, .int .i64 c] w fun e w' => e = .returned (.bool true) ∧ Below w.heap.size w w' := by
  have HT := Lib.hid (known_any w ht)
  clear ht
  by_cases c1 : a < 0
  all_goals try by_cases c2 : 1099511627776 < a
  all_goals try by_cases c3 : b < 0
  all_goals try by_cases c4 : 1099511627776 < b
  all_goals try by_cases c5 : c < a
  all_goals try by_cases c6 : 1099511627776 < c
  all_goals first
    | (exfalso; omega)
    | (clear h
       go_enter Tryd.func7, Tryd.ntmps7
       go_wp2_with fail
       refine HT.out.mono ?_
       rintro e w' ⟨rfl, hm⟩
       go_wp2
       go_ret
       exact ⟨rfl, hm.below⟩)
theorem walk (a : Int) (wa : (Lit.int .i64 a).wf = true) (b : Int) (wb : (Lit.int .i64 b).wf = true) (c : Int) (wc : (Lit.int .i64 c).wf = true) (w : World) (hL : laidMetH Tryd.prog Rows.wheelPlacesRow.laid w) :
    Calls Tryd.prog 7 #[.int .i64 a, .int .i64 b, .int .i64 c] w fun e w' => e = .returned (.bool true) ∧ Below w.heap.size w w' := by
  rw [MakeChecks.laidMetH_plain _ _ _ (by kernel_rfl)] at hL
  have ht := tz_of hL rfl
  by_cases h : a < 0 ∨ 1099511627776 < a ∨ b < 0 ∨ 1099511627776 < b ∨ c < a ∨ 1099511627776 < c
  · exact outer a b c h w ht
  · obtain ⟨a, rfl⟩ := Int.eq_ofNat_of_zero_le (a := a) (by omega)
    obtain ⟨b, rfl⟩ := Int.eq_ofNat_of_zero_le (a := b) (by omega)
    obtain ⟨c, rfl⟩ := Int.eq_ofNat_of_zero_le (a := c) (by omega)
    by_cases h5 : b ≤ c
    · exact early a b c (by omega) (by omega) (by omega) (by omega) h5 w ht
    · exact late a b c (by omega) (by omega) (by omega) (by omega) (by omega) w ht

theorem own : ownKnob Tryd.prog.godebug = none := by kernel_rfl
theorem laidOut : laidOutB Tryd.prog = true := by kernel_rfl
set_option maxRecDepth 100000 in
theorem lifted (os : Os) (started : os.Started) (H : Type) (enc : TypeId × Value → H) :
    ReturnsInHanded {} Tryd.checked os 7 .any (fun w args => (Rows.wheelPlacesSpec.pre enc Tryd.prog Tryd.f7 [] false w args ∧ laidMetH Tryd.prog Rows.wheelPlacesRow.laid w) ∧ sizedMet enc Tryd.prog Tryd.f7 (OpenSpec.ofChange Rows.wheelPlacesSpec) false w args)
      (Rows.wheelPlacesSpec.post enc Tryd.prog Tryd.f7 false true false false) := by
  refine returnsInHanded_of_change_and (C := Tryd.checked) (X := fun w _ => laidMetH Tryd.prog Rows.wheelPlacesRow.laid w) (fun _ _ _ hh h => h.of_heap hh) own started (by kernel_rfl) Tryd.func7
    (ChangeSpec.witness_shaped (enc := enc) (C := Tryd.checked) (os := os) (X := fun w _ => laidMetH Tryd.prog Rows.wheelPlacesRow.laid w) false (World.laidAll Tryd.prog os Rows.wheelPlacesRow.laid) #[.int .i64 0, .int .i64 0, .int .i64 0] 8 (World.laidAll_os _ _ _)
      (World.shaped_of_ZipB (by kernel_rfl) (by kernel_rfl)) (by kernel_rfl) (by kernel_rfl) (by kernel_rfl)
      (by rw [MakeChecks.laidMetH_plain _ _ _ (by kernel_rfl)]; exact laidMet_laidAll _ (by kernel_rfl) (by kernel_rfl))) ?_
  intro W base args ds gs before hval0 hW hcnd hsz0 hL _
  have hsz : (DataW.weightsEach Tryd.prog (Tryd.f7.params.toList ++ Rows.wheelPlacesSpec.plain.varTypes Tryd.prog) (ds ++ gs)).all (· ≤ reachBytes) = true := hsz0
  have hval : ∀ (j : Nat) t v, Tryd.f7.params[j]? = some t → args[j]? = some v → Value.okWide Tryd.prog W .any base t v := hval0
  have hW' := hW
  obtain ⟨p, q, hA0, hV, rfl, hfz, hnd⟩ := hW
  have hA : DataW.TrodAll enc Tryd.prog W 0 (fun _ => true) true Tryd.f7.params.toList args.toList ds p := hA0
  rw [Tryd.params7] at hA hval hsz
  obtain ⟨v0, vs0, d0, ds0, p0, q0, hargs, rfl, rfl, h0, r0⟩ := trodAll_cons hA
  obtain ⟨v1, vs1, d1, ds1, p1, q1, rfl, rfl, rfl, h1, r1⟩ := trodAll_cons r0
  obtain ⟨v2, vs2, d2, ds2, p2, q2, rfl, rfl, rfl, h2, r2⟩ := trodAll_cons r1
  obtain ⟨rfl, rfl, rfl⟩ := trodAll_nil r2
  obtain rfl : args = #[v0, v1, v2] := by cases args; simp_all
  obtain ⟨rfl, rfl⟩ := trodVars_none hV
  obtain ⟨a0, rfl, rfl, rfl, w0⟩ := open_int Tryd.underlying3 (hval 0 3 v0 rfl rfl) h0
  obtain ⟨a1, rfl, rfl, rfl, w1⟩ := open_int Tryd.underlying3 (hval 1 3 v1 rfl rfl) h1
  obtain ⟨a2, rfl, rfl, rfl, w2⟩ := open_int Tryd.underlying3 (hval 2 3 v2 rfl rfl) h2
  clear hA0 hval0 hsz0 hsz
  refine (walk a0 w0 a1 w1 a2 w2 W hL).mono fun e W' ⟨he, bel⟩ => ?_
  subst he
  exact ⟨_, rfl, _, _, _, [], _, [], hW', trodAll_mk1 (shut_bool Tryd.underlying4 _), (trodAll_cons_mk (shut_int Tryd.underlying3 w0) (trodAll_cons_mk (shut_int Tryd.underlying3 w1) (trodAll_cons_mk (shut_int Tryd.underlying3 w2) trodAll_mk0))), rfl, bel.frame _, fun h => by cases h⟩

theorem over : Rows.wheelPlacesRow.holds Tryd.pinned (OpenSpec.ofChange Rows.wheelPlacesSpec) :=
  OpenClaim.holds_of_wide 7 Tryd.f7 rfl rfl rfl rfl rfl rfl rfl ⟨rfl, rfl, rfl, rfl, rfl⟩ rfl rfl rfl rfl rfl (by kernel_rfl) Tryd.func7 (by kernel_rfl)
    (of_decide_eq_true (by kernel_rfl)) (by unfold Func.isWrapper; first | (rw [if_pos (by decide +kernel)]; kernel_rfl) | (rw [if_neg (by decide +kernel)]; exact ⟨rfl, rfl⟩))
    (fun os started H enc _ => lifted os started H enc)

theorem said : Rows.WheelPlacesSaid := over
theorem plain (f : FuncId) (fn : Func) (hf : Tryd.pinned.checked.prog.funcNamed "usher/usherlaw6.WheelPlaces" = some f) (hfn : Tryd.pinned.checked.prog.funcs[f]? = some fn) :
    false = Tryd.pinned.checked.prog.looks [] ∧ ∀ (j : Nat) t, fn.params[j]? = some t → Tryd.pinned.checked.prog.wantsStandIn t = false := by
  obtain rfl : f = 7 := Option.some.inj ((show Tryd.prog.funcNamed "usher/usherlaw6.WheelPlaces" = some 7 by kernel_rfl).symm.trans hf) |>.symm
  obtain rfl : fn = Tryd.f7 := (Option.some.inj (Tryd.func7.symm.trans hfn)).symm
  refine ⟨by kernel_rfl, fun j t ht => ?_⟩
  rw [Tryd.params7] at ht
  have hm : t ∈ [3] := by simpa using Array.mem_of_getElem? ht
  simp only [List.mem_cons, List.mem_nil_iff, or_false] at hm
  rcases hm with rfl
  · exact (show Tryd.prog.wantsStandIn 3 = false by kernel_rfl)
theorem proved : Rows.WheelPlacesCardSaid :=
  Claim7.holds_tied_plain_at .later [] _ _ _ _ said (fun _ h => by cases h) (by kernel_rfl) (fun _ h => by cases h) wheelPlaces_row_tie rfl ⟨rfl, rfl⟩ (by kernel_rfl) rfl plain (by kernel_rfl)
end Go.Proofs.YtgfmjkbelciaaaaDoor.wheelPlaces
