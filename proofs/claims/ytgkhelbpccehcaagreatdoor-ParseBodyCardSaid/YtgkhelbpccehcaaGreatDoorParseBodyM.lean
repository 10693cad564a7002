/- For every body with a length and any bytes behind it, the request is whole at its last byte, not ahead of it, and what stands behind is left: the law returns true. -/
import Derived.Test.YtgkhelbpccehcaaGreatDoorCards
import Derived.Test.YtgkhelbpccehcaaGreatDoorTie
import Derived.Lay
import Derived.LaidOnce
import Derived.MakeChecks
import Derived.SevenTiedAt
import Derived.WalkKit
import Derived.ProofKit
import Derived.OpenShut
import Derived.ShutString
import Derived.ChangeOld
import Derived.Below
import Derived.SizedLaws
import Derived.Test.YtgkhelbpccehcaaGreatDoorMQI
import Derived.Test.YtgkhelbpccehcaaGreatDoorMQF
import Derived.Test.YtgkhelbpccehcaaGreatDoorMQD
import Derived.Test.YtgkhelbpccehcaaGreatDoorMQG
import Derived.Carry
import Derived.Deep.CutBlock
namespace Go.Proofs.YtgkhelbpccehcaaGreatDoor.parseBody
open Go.ChangeShapes Go.WideShapes Go.ChangeAt Go.RowKit
open Go.ChangeMaps (open_string shut_string)
set_option linter.unusedVariables false
theorem take_last (l : List UInt8) : l.take (l.length - 1) = l.dropLast := List.dropLast_eq_take.symm
set_option maxRecDepth 100000 in
set_option maxHeartbeats 8000000 in
theorem walk (w : World) (hL : laidMetH Tryz.prog Rows.parseBodyRow.laid w) (v : Value) (l : List UInt8) (hb : BsAt w v l) (v2 : Value) (t : List UInt8) (hb2 : BsAt w v2 t) (ex : Bool) :
    Calls Tryz.prog 7 #[v, v2, .bool ex] w fun e w' => e = .returned (.bool true) ∧ Below w.heap.size w w' := by
  have HB := Lib.hid hb
  have HT := Lib.hid hb2
  obtain ⟨A, c, rfl⟩ := hb.len
  obtain ⟨A2, c2, rfl⟩ := hb2.len
  clear hL hb hb2
  by_cases hl : 1500 < l.length
  · have g1 : (1500 : Int) < (l.length : Int) := by omega
    clear hl
    go_enter Tryz.func7, Tryz.ntmps7
    go_wp2
    go_ret
    exact ⟨rfl, Below.refl _ _⟩
  by_cases hl2 : 500 < t.length
  · have g1 : ¬ (1500 : Int) < (l.length : Int) := by omega
    have g2 : (500 : Int) < (t.length : Int) := by omega
    clear hl hl2
    go_enter Tryz.func7, Tryz.ntmps7
    go_wp2
    go_ret
    exact ⟨rfl, Below.refl _ _⟩
  have g1 : ¬ (1500 : Int) < (l.length : Int) := by omega
  have g2 : ¬ (500 : Int) < (t.length : Int) := by omega
  have hlb : l.length ≤ 1500 := by omega
  have htb : t.length ≤ 500 := by omega
  obtain ⟨R1, e1, e2, e3, e4, e5⟩ := body_law (body := l) (behind := t) ex (by omega)
  have HD := Lib.hid (fun W => dec_r (l.length : Int) (by omega) W)
  have HN := Lib.hid (fun w => new_p w)
  unfold ptr at HN
  have hdz := dec_size (n := l.length) (by omega)
  clear hl hl2
  simp only [Int.toNat_natCast] at HD
  obtain ⟨n, hn⟩ : ∃ n, n = l.length := ⟨_, rfl⟩
  rw [← hn] at HB HD hdz hlb g1 e1 e2 e3 e4 e5 ⊢
  have HNL := Lib.hid hn
  clear hn
  rcases Nat.eq_zero_or_pos n with rfl | hpos
  · cases ex with
    | false =>
      have hsl : (⟨#[80, 79, 83, 84, 32, 47, 120, 32, 72, 84, 84, 80, 47, 49, 46, 49, 13, 10, 72, 111, 115, 116, 58, 32, 97, 13, 10, 67, 111, 110, 116, 101, 110, 116, 45, 76, 101, 110, 103, 116, 104, 58, 32]⟩ ++ decB 0 ++ ⟨#[13, 10]⟩).data.toList = hdX 0 false := sX_false 0
      have hsz : (⟨#[80, 79, 83, 84, 32, 47, 120, 32, 72, 84, 84, 80, 47, 49, 46, 49, 13, 10, 72, 111, 115, 116, 58, 32, 97, 13, 10, 67, 111, 110, 116, 101, 110, 116, 45, 76, 101, 110, 103, 116, 104, 58, 32]⟩ ++ decB 0 ++ ⟨#[13, 10]⟩).size = (hdX 0 false).length := by rw [← hsl]; rfl
      have hsz1 : 0 < (⟨#[80, 79, 83, 84, 32, 47, 120, 32, 72, 84, 84, 80, 47, 49, 46, 49, 13, 10, 72, 111, 115, 116, 58, 32, 97, 13, 10, 67, 111, 110, 116, 101, 110, 116, 45, 76, 101, 110, 103, 116, 104, 58, 32]⟩ ++ decB 0 ++ ⟨#[13, 10]⟩).size ∧ (⟨#[80, 79, 83, 84, 32, 47, 120, 32, 72, 84, 84, 80, 47, 49, 46, 49, 13, 10, 72, 111, 115, 116, 58, 32, 97, 13, 10, 67, 111, 110, 116, 101, 110, 116, 45, 76, 101, 110, 103, 116, 104, 58, 32]⟩ ++ decB 0 ++ ⟨#[13, 10]⟩).size ≤ 1000 := by
        have h9 : (⟨#[80, 79, 83, 84, 32, 47, 120, 32, 72, 84, 84, 80, 47, 49, 46, 49, 13, 10, 72, 111, 115, 116, 58, 32, 97, 13, 10, 67, 111, 110, 116, 101, 110, 116, 45, 76, 101, 110, 103, 116, 104, 58, 32]⟩ ++ decB 0 ++ ⟨#[13, 10]⟩).size = 43 + (decB 0).size + 2 := by simp [ByteArray.size_append]; rfl
        omega
      go_enter Tryz.func7, Tryz.ntmps7
      go_upto_region 7 with (first
        | (go_at_call 22; refine (HD.out _).mono ?_; rintro z w1 ⟨rfl, hm⟩; have M1 := Lib.hid (show Mods [] w w1 from Mods.of_below hm); clear hm)
        | (go_at_call 9; refine (HN.out _).mono ?_; rintro z w2 ⟨g, F, rfl, hk⟩; have HA := Lib.hid hk.out; clear hk))
      obtain ⟨s, hs⟩ : ∃ s, s = (⟨#[80, 79, 83, 84, 32, 47, 120, 32, 72, 84, 84, 80, 47, 49, 46, 49, 13, 10, 72, 111, 115, 116, 58, 32, 97, 13, 10, 67, 111, 110, 116, 101, 110, 116, 45, 76, 101, 110, 103, 116, 104, 58, 32]⟩ ++ decB 0 ++ ⟨#[13, 10]⟩) := ⟨_, rfl⟩
      rw [← hs] at hsl hsz1 hsz
      rw [← hs]
      clear hs hdz HD HN g1 g2
      obtain ⟨cap, W3, hcv, hb3, m3, hz3⟩ := conv_bs w2 s hsz1.1 (by omega)
      have hcw : (convert 22 22 (.slice (some ⟨W3.heap.size, 0, none⟩) 2 2)).run Tryz.prog (W3.alloc (.cells #[.int .u8 13, .int .u8 10] 5)) = .ok (.slice (some ⟨W3.heap.size, 0, none⟩) 2 2) (W3.alloc (.cells #[.int .u8 13, .int .u8 10] 5 (2, 3))) := conv_lit W3 #[.int .u8 13, .int .u8 10] 2 2 _ rfl
      have hb4 : BsAt (W3.alloc (.cells #[.int .u8 13, .int .u8 10] 5 (2, 3))) (.slice (some ⟨W3.heap.size, 0, none⟩) 2 2) [13, 10] := lit_at W3 [13, 10] (2, 3) (by decide) (by decide)
      have m4 : Mods [] W3 (W3.alloc (.cells #[.int .u8 13, .int .u8 10] 5 (2, 3))) := (Mods.refl [] W3).alloc _
      have hz4 : (W3.alloc (.cells #[.int .u8 13, .int .u8 10] 5 (2, 3))).heap.size = W3.heap.size + 1 := World.size_alloc _ _
      obtain ⟨W4, hW4⟩ : ∃ W4, W4 = W3.alloc (.cells #[.int .u8 13, .int .u8 10] 5 (2, 3)) := ⟨_, rfl⟩
      rw [← hW4] at hcw hb4 m4 hz4
      clear hW4
      have hlt := HA.out.1.lt
      have hps : PsAp (W4.alloc (.cells #[.slice (some ⟨w2.heap.size, 0, none⟩) s.size cap, .slice (some ⟨W3.heap.size, 0, none⟩) 2 2] 22)) (.slice (some ⟨W4.heap.size, 0, none⟩) 2 2) [s.data.toList, [13, 10]] F :=
        psap_two (W := W4) (A := s.data.toList) (B := [13, 10]) (F := F) (a1 := some ⟨w2.heap.size, 0, none⟩) (c1 := cap) (hb3.low m4) hb4 (fun q hq => by have := hlt q hq; omega) (fun _ => own_apart hlt (Nat.le_refl _)) (fun _ => own_apart hlt (by omega))
      have m5 := (Mods.refl [] W4).alloc (.cells #[.slice (some ⟨w2.heap.size, 0, none⟩) s.size cap, .slice (some ⟨W3.heap.size, 0, none⟩) 2 2] 22)
      have hfd := feedr_p _ [s.data.toList, [13, 10]] hps (((HA.out.1.low m3).low m4).low m5) (by rw [hsl]; simp only [List.flatten_cons, List.flatten_nil, List.length_append]; rw [← hsz]; simp; omega) (by simp)
      rw [show [s.data.toList, [13, 10]].flatten = hdX 0 false ++ [13, 10] by rw [← hsl]; simp, e1] at hfd
      simp only at hfd
      rw [← hsz] at hfd
      unfold ptr at hfd
      have HFD := Lib.hid hfd
      have M5 := Lib.hid ((((M1.out.trans HA.out.2.1 (fun _ h => nomatch h)).trans m3 (fun _ h => nomatch h)).trans m4 (fun _ h => nomatch h)).trans m5 (fun _ h => nomatch h))
      have S2 := Lib.hid (show ∀ q ∈ F, w.heap.size ≤ q from fun q hq => Nat.le_trans M1.out.size (HA.out.2.2 q hq))
      have E2 := Lib.hid (show waitsR R1 = false from e2.trans (by simp))
      have E3 := Lib.hid (show R1.phase = 3 from e3.trans (by simp))
      have E4 := Lib.hid e4
      have E5 := Lib.hid e5
      have hsm : s.size ≤ 1000 := hsz1.2
      clear hfd hb3 m3 hz3 hb4 m4 hz4 hlt hps m5 e1 e2 e3 e4 e5 hsl hsz hsz1
      go_upto_region 8 with (go_at_call 11; refine HFD.out.mono ?_; rintro z w3 ⟨rfl, hk⟩; have HQ := Lib.hid hk.out; clear hk)
      clear hcv hcw HFD
      obtain ⟨F3, a3, hg3⟩ := HQ.out
      have M6 := Lib.hid (show Mods [] w w3 from M5.out.trans hg3.mods (fun q hq => .inr (S2.out q hq)))
      have S3 := Lib.hid (show ∀ q ∈ F3, w.heap.size ≤ q from fun q hq => by
        rcases hg3.news q hq with h | h
        · exact S2.out q h
        · have := M5.out.size; omega)
      have A3 := Lib.hid a3
      have hwt := waits_p a3
      rw [E2.out] at hwt
      unfold ptr at hwt
      have HWT := Lib.hid hwt
      clear a3 hg3 hwt HQ
      have hph := fun W' (hm : Mods [] w3 W') => phase_p (A3.out.low hm)
      have hwt := waits_p A3.out
      rw [E2.out] at hwt
      rw [E3.out] at hph
      unfold ptr at hwt hph
      have HWT := Lib.hid hwt
      have HPH := Lib.hid hph
      clear hwt hph
      go_upto_region 16 with (first
        | (go_at_call 21; refine HWT.out.mono ?_; rintro z w4 ⟨rfl, hm⟩; have M7 := Lib.hid hm; clear hm)
        | (go_at_call 19; refine (HPH.out _ M7.out).mono ?_; rintro z q1 ⟨rfl, rfl⟩))
      clear HWT HPH
      have RQ4 := Lib.hid (show rqOf R1 = ⟨ofL postM, pathT ⟨#[47, 120]⟩, 1, lenS15 0 false, l, false, false⟩ from (E4.out (by simp)).trans (by simp))
      have htk := takerq_p (A3.out.low M7.out)
      rw [take_w E3.out, RQ4.out] at htk
      simp only at htk
      have ht1 : takeR R1 = ({ R1 with phase := 0 }, ⟨ofL postM, pathT ⟨#[47, 120]⟩, 1, lenS15 0 false, l, false, false⟩, 0) := by rw [take_w E3.out, RQ4.out]
      unfold ptr reqV reqCells pathT at htk
      simp only at htk
      rw [show ofL postM = ⟨#[80, 79, 83, 84]⟩ from rfl] at htk
      have HTK := Lib.hid htk
      have HT1 := Lib.hid ht1
      clear htk ht1
      go_upto_region 17 with (go_at_call 14; refine HTK.out.mono ?_; rintro z w7 ⟨vf, vb, rfl, hk⟩; have hk2 := hk.out; unfold TookR at hk2; rw [HT1.out] at hk2; simp only at hk2; have TR1 := Lib.hid hk2; obtain ⟨fa, fc, rfl⟩ := hk2.1.len; obtain ⟨ba, bc, rfl⟩ := hk2.2.1.len; clear hk hk2)
      clear HTK
      rw [← HNL.out] at TR1 ⊢
      obtain ⟨tf1, tb1, F9, a9, hg9, hn9⟩ := TR1.out
      have M20 := Lib.hid (show Mods [] w w7 from (M6.out.trans M7.out (fun _ h => nomatch h)).trans hg9.mods (fun q hq => .inr (S3.out q hq)))
      have S20 := Lib.hid (show ∀ q ∈ F9, w.heap.size ≤ q from fun q hq => by
        rcases hg9.news q hq with h | h
        · exact S3.out q h
        · have := (M6.out.trans M7.out (fun _ h => nomatch h)).size; omega)
      obtain ⟨nf, hnf⟩ : ∃ n, n = (lenS15 0 false).length := ⟨_, rfl⟩
      rw [← hnf]
      have mz := (Mods.refl [] w7).alloc (.cells #[.string ⟨#[80, 79, 83, 84]⟩, .int .i64 1, .string noB, .string ⟨#[47, 120]⟩, .string noB, .int .i64 1, .slice fa nf fc, .slice ba 0 bc, .bool false, .bool false] 40)
      have R20 := Lib.hid (Row.new w7 40 #[.string ⟨#[80, 79, 83, 84]⟩, .int .i64 1, .string noB, .string ⟨#[47, 120]⟩, .string noB, .int .i64 1, .slice fa nf fc, .slice ba 0 bc, .bool false, .bool false])
      have htk2 := takerq_p (a9.low mz)
      rw [take_n (show ({ R1 with phase := 0 } : PrP).phase ≠ 3 from fun h => by cases h)] at htk2
      unfold ptr reqV reqCells noRq noT at htk2
      simp only at htk2
      have HTK2 := Lib.hid htk2
      have A9 := Lib.hid (a9.low mz)
      have HL9 := Lib.hid a9.lt
      have MZ := Lib.hid mz
      have TB := Lib.hid (show BsAt w7 (.slice ba 0 bc) l from tb1)
      have HN9 := Lib.hid hn9
      clear htk2 tf1 tb1 a9 hg9 hn9 hnf TR1
      go_upto_region 18 with (go_at_call 14; refine HTK2.out.mono ?_; rintro z w8 ⟨vf, vb, rfl, hk⟩; have hk2 := hk.out; unfold TookR at hk2; rw [take_n (show ({ R1 with phase := 0 } : PrP).phase ≠ 3 from fun h => by cases h)] at hk2; simp only at hk2; have TR2 := Lib.hid hk2; obtain ⟨ga, gc, rfl⟩ := hk2.1.len; obtain ⟨ha, hc, rfl⟩ := hk2.2.1.len; clear hk hk2)
      clear HTK2
      obtain ⟨-, -, F10, a10, hg10, -⟩ := TR2.out
      have r20 := R20.out.mods hg10.mods (fun h => by have := HL9.out _ h; omega)
      have M30 := Lib.hid (show Mods [] w w8 from (M20.out.trans MZ.out (fun _ h => nomatch h)).trans hg10.mods (fun q hq => .inr (S20.out q hq)))
      have tb2 : BsAt w8 (.slice ba 0 bc) l := (TB.out.low MZ.out).mods' hg10.mods (fun _ k hk => (HN9.out k (.inr hk)).2.1)
      have HSM := Lib.hid (fun W' (hm : Mods [] w8 W') => same_l15 l l (.slice ba 0 bc) (.slice A 0 c) W' (tb2.low hm) (HB.out.low (M30.out.trans hm (fun _ h => nomatch h))) (r := true) (decide_eq_true rfl))
      have hph2 := fun W' (hm : Mods [] w8 W') => phase_p (a10.low hm)
      unfold ptr at hph2
      have HPH2 := Lib.hid (show ∀ W', Mods [] w8 W' → Calls Tryz.prog 19 #[.pointer (some ⟨g, 0, none⟩)] W' (fun z w' => z = .returned (.int .i64 0) ∧ W' = w') from hph2)
      obtain ⟨s0, s1, s2, s3, s4, s5, s6, s7, s8, s9⟩ := r20.ten
      have u0 := fun o => cell_alloc s0 o
      have u3 := fun o => cell_alloc s3 o
      have u7 := fun o => cell_alloc s7 o
      have u8 := fun o => cell_alloc s8 o
      have u9 := fun o => cell_alloc s9 o
      clear a10 hg10 r20 tb2 hph2 s0 s1 s2 s3 s4 s5 s6 s7 s8 s9 TR2
      go_wp2_with (first
        | (go_at_call 23; refine (HSM.out _ ((Mods.refl [] w8).alloc _)).mono ?_; rintro z w9 ⟨rfl, hd⟩; have M31 := Lib.hid (show Mods [] w8 w9 from ((Mods.refl [] w8).alloc _).trans hd.mods15 (fun _ h => nomatch h)); obtain ⟨qd, rfl⟩ := hd)
        | (go_at_call 19; refine (HPH2.out _ M31.out).mono ?_; rintro z q2 ⟨rfl, rfl⟩)
        | (go_at_call 18; refine (known_15 _).mono ?_; rintro z w12 ⟨rfl, hm⟩; have M40 := Lib.hid ((M30.out.trans M31.out (fun _ h => nomatch h)).trans hm (fun _ h => nomatch h)); clear hm))
      go_ret
      exact ⟨rfl, M40.out.below⟩
    | true =>
      have hsl : (⟨#[80, 79, 83, 84, 32, 47, 120, 32, 72, 84, 84, 80, 47, 49, 46, 49, 13, 10, 72, 111, 115, 116, 58, 32, 97, 13, 10, 67, 111, 110, 116, 101, 110, 116, 45, 76, 101, 110, 103, 116, 104, 58, 32]⟩ ++ decB 0 ++ ⟨#[13, 10]⟩ ++ ⟨#[69, 120, 112, 101, 99, 116, 58, 32, 49, 48, 48, 45, 67, 111, 110, 116, 105, 110, 117, 101, 13, 10]⟩).data.toList = hdX 0 true := sX_true 0
      have hsz : (⟨#[80, 79, 83, 84, 32, 47, 120, 32, 72, 84, 84, 80, 47, 49, 46, 49, 13, 10, 72, 111, 115, 116, 58, 32, 97, 13, 10, 67, 111, 110, 116, 101, 110, 116, 45, 76, 101, 110, 103, 116, 104, 58, 32]⟩ ++ decB 0 ++ ⟨#[13, 10]⟩ ++ ⟨#[69, 120, 112, 101, 99, 116, 58, 32, 49, 48, 48, 45, 67, 111, 110, 116, 105, 110, 117, 101, 13, 10]⟩).size = (hdX 0 true).length := by rw [← hsl]; rfl
      have hsz1 : 0 < (⟨#[80, 79, 83, 84, 32, 47, 120, 32, 72, 84, 84, 80, 47, 49, 46, 49, 13, 10, 72, 111, 115, 116, 58, 32, 97, 13, 10, 67, 111, 110, 116, 101, 110, 116, 45, 76, 101, 110, 103, 116, 104, 58, 32]⟩ ++ decB 0 ++ ⟨#[13, 10]⟩ ++ ⟨#[69, 120, 112, 101, 99, 116, 58, 32, 49, 48, 48, 45, 67, 111, 110, 116, 105, 110, 117, 101, 13, 10]⟩).size ∧ (⟨#[80, 79, 83, 84, 32, 47, 120, 32, 72, 84, 84, 80, 47, 49, 46, 49, 13, 10, 72, 111, 115, 116, 58, 32, 97, 13, 10, 67, 111, 110, 116, 101, 110, 116, 45, 76, 101, 110, 103, 116, 104, 58, 32]⟩ ++ decB 0 ++ ⟨#[13, 10]⟩ ++ ⟨#[69, 120, 112, 101, 99, 116, 58, 32, 49, 48, 48, 45, 67, 111, 110, 116, 105, 110, 117, 101, 13, 10]⟩).size ≤ 1000 := by
        have h9 : (⟨#[80, 79, 83, 84, 32, 47, 120, 32, 72, 84, 84, 80, 47, 49, 46, 49, 13, 10, 72, 111, 115, 116, 58, 32, 97, 13, 10, 67, 111, 110, 116, 101, 110, 116, 45, 76, 101, 110, 103, 116, 104, 58, 32]⟩ ++ decB 0 ++ ⟨#[13, 10]⟩ ++ ⟨#[69, 120, 112, 101, 99, 116, 58, 32, 49, 48, 48, 45, 67, 111, 110, 116, 105, 110, 117, 101, 13, 10]⟩).size = 43 + (decB 0).size + 2 + 22 := by simp [ByteArray.size_append]; rfl
        omega
      go_enter Tryz.func7, Tryz.ntmps7
      go_upto_region 7 with (first
        | (go_at_call 22; refine (HD.out _).mono ?_; rintro z w1 ⟨rfl, hm⟩; have M1 := Lib.hid (show Mods [] w w1 from Mods.of_below hm); clear hm)
        | (go_at_call 9; refine (HN.out _).mono ?_; rintro z w2 ⟨g, F, rfl, hk⟩; have HA := Lib.hid hk.out; clear hk))
      obtain ⟨s, hs⟩ : ∃ s, s = (⟨#[80, 79, 83, 84, 32, 47, 120, 32, 72, 84, 84, 80, 47, 49, 46, 49, 13, 10, 72, 111, 115, 116, 58, 32, 97, 13, 10, 67, 111, 110, 116, 101, 110, 116, 45, 76, 101, 110, 103, 116, 104, 58, 32]⟩ ++ decB 0 ++ ⟨#[13, 10]⟩ ++ ⟨#[69, 120, 112, 101, 99, 116, 58, 32, 49, 48, 48, 45, 67, 111, 110, 116, 105, 110, 117, 101, 13, 10]⟩) := ⟨_, rfl⟩
      rw [← hs] at hsl hsz1 hsz
      rw [← hs]
      clear hs hdz HD HN g1 g2
      obtain ⟨cap, W3, hcv, hb3, m3, hz3⟩ := conv_bs w2 s hsz1.1 (by omega)
      have hcw : (convert 22 22 (.slice (some ⟨W3.heap.size, 0, none⟩) 2 2)).run Tryz.prog (W3.alloc (.cells #[.int .u8 13, .int .u8 10] 5)) = .ok (.slice (some ⟨W3.heap.size, 0, none⟩) 2 2) (W3.alloc (.cells #[.int .u8 13, .int .u8 10] 5 (2, 3))) := conv_lit W3 #[.int .u8 13, .int .u8 10] 2 2 _ rfl
      have hb4 : BsAt (W3.alloc (.cells #[.int .u8 13, .int .u8 10] 5 (2, 3))) (.slice (some ⟨W3.heap.size, 0, none⟩) 2 2) [13, 10] := lit_at W3 [13, 10] (2, 3) (by decide) (by decide)
      have m4 : Mods [] W3 (W3.alloc (.cells #[.int .u8 13, .int .u8 10] 5 (2, 3))) := (Mods.refl [] W3).alloc _
      have hz4 : (W3.alloc (.cells #[.int .u8 13, .int .u8 10] 5 (2, 3))).heap.size = W3.heap.size + 1 := World.size_alloc _ _
      obtain ⟨W4, hW4⟩ : ∃ W4, W4 = W3.alloc (.cells #[.int .u8 13, .int .u8 10] 5 (2, 3)) := ⟨_, rfl⟩
      rw [← hW4] at hcw hb4 m4 hz4
      clear hW4
      have hlt := HA.out.1.lt
      have hps : PsAp (W4.alloc (.cells #[.slice (some ⟨w2.heap.size, 0, none⟩) s.size cap, .slice (some ⟨W3.heap.size, 0, none⟩) 2 2] 22)) (.slice (some ⟨W4.heap.size, 0, none⟩) 2 2) [s.data.toList, [13, 10]] F :=
        psap_two (W := W4) (A := s.data.toList) (B := [13, 10]) (F := F) (a1 := some ⟨w2.heap.size, 0, none⟩) (c1 := cap) (hb3.low m4) hb4 (fun q hq => by have := hlt q hq; omega) (fun _ => own_apart hlt (Nat.le_refl _)) (fun _ => own_apart hlt (by omega))
      have m5 := (Mods.refl [] W4).alloc (.cells #[.slice (some ⟨w2.heap.size, 0, none⟩) s.size cap, .slice (some ⟨W3.heap.size, 0, none⟩) 2 2] 22)
      have hfd := feedr_p _ [s.data.toList, [13, 10]] hps (((HA.out.1.low m3).low m4).low m5) (by rw [hsl]; simp only [List.flatten_cons, List.flatten_nil, List.length_append]; rw [← hsz]; simp; omega) (by simp)
      rw [show [s.data.toList, [13, 10]].flatten = hdX 0 true ++ [13, 10] by rw [← hsl]; simp, e1] at hfd
      simp only at hfd
      rw [← hsz] at hfd
      unfold ptr at hfd
      have HFD := Lib.hid hfd
      have M5 := Lib.hid ((((M1.out.trans HA.out.2.1 (fun _ h => nomatch h)).trans m3 (fun _ h => nomatch h)).trans m4 (fun _ h => nomatch h)).trans m5 (fun _ h => nomatch h))
      have S2 := Lib.hid (show ∀ q ∈ F, w.heap.size ≤ q from fun q hq => Nat.le_trans M1.out.size (HA.out.2.2 q hq))
      have E2 := Lib.hid (show waitsR R1 = false from e2.trans (by simp))
      have E3 := Lib.hid (show R1.phase = 3 from e3.trans (by simp))
      have E4 := Lib.hid e4
      have E5 := Lib.hid e5
      have hsm : s.size ≤ 1000 := hsz1.2
      clear hfd hb3 m3 hz3 hb4 m4 hz4 hlt hps m5 e1 e2 e3 e4 e5 hsl hsz hsz1
      go_upto_region 8 with (go_at_call 11; refine HFD.out.mono ?_; rintro z w3 ⟨rfl, hk⟩; have HQ := Lib.hid hk.out; clear hk)
      clear hcv hcw HFD
      obtain ⟨F3, a3, hg3⟩ := HQ.out
      have M6 := Lib.hid (show Mods [] w w3 from M5.out.trans hg3.mods (fun q hq => .inr (S2.out q hq)))
      have S3 := Lib.hid (show ∀ q ∈ F3, w.heap.size ≤ q from fun q hq => by
        rcases hg3.news q hq with h | h
        · exact S2.out q h
        · have := M5.out.size; omega)
      have A3 := Lib.hid a3
      have hwt := waits_p a3
      rw [E2.out] at hwt
      unfold ptr at hwt
      have HWT := Lib.hid hwt
      clear a3 hg3 hwt HQ
      have hph := fun W' (hm : Mods [] w3 W') => phase_p (A3.out.low hm)
      have hwt := waits_p A3.out
      rw [E2.out] at hwt
      rw [E3.out] at hph
      unfold ptr at hwt hph
      have HWT := Lib.hid hwt
      have HPH := Lib.hid hph
      clear hwt hph
      go_upto_region 16 with (first
        | (go_at_call 21; refine HWT.out.mono ?_; rintro z w4 ⟨rfl, hm⟩; have M7 := Lib.hid hm; clear hm)
        | (go_at_call 19; refine (HPH.out _ M7.out).mono ?_; rintro z q1 ⟨rfl, rfl⟩))
      clear HWT HPH
      have RQ4 := Lib.hid (show rqOf R1 = ⟨ofL postM, pathT ⟨#[47, 120]⟩, 1, lenS15 0 true, l, false, false⟩ from (E4.out (by simp)).trans (by simp))
      have htk := takerq_p (A3.out.low M7.out)
      rw [take_w E3.out, RQ4.out] at htk
      simp only at htk
      have ht1 : takeR R1 = ({ R1 with phase := 0 }, ⟨ofL postM, pathT ⟨#[47, 120]⟩, 1, lenS15 0 true, l, false, false⟩, 0) := by rw [take_w E3.out, RQ4.out]
      unfold ptr reqV reqCells pathT at htk
      simp only at htk
      rw [show ofL postM = ⟨#[80, 79, 83, 84]⟩ from rfl] at htk
      have HTK := Lib.hid htk
      have HT1 := Lib.hid ht1
      clear htk ht1
      go_upto_region 17 with (go_at_call 14; refine HTK.out.mono ?_; rintro z w7 ⟨vf, vb, rfl, hk⟩; have hk2 := hk.out; unfold TookR at hk2; rw [HT1.out] at hk2; simp only at hk2; have TR1 := Lib.hid hk2; obtain ⟨fa, fc, rfl⟩ := hk2.1.len; obtain ⟨ba, bc, rfl⟩ := hk2.2.1.len; clear hk hk2)
      clear HTK
      rw [← HNL.out] at TR1 ⊢
      obtain ⟨tf1, tb1, F9, a9, hg9, hn9⟩ := TR1.out
      have M20 := Lib.hid (show Mods [] w w7 from (M6.out.trans M7.out (fun _ h => nomatch h)).trans hg9.mods (fun q hq => .inr (S3.out q hq)))
      have S20 := Lib.hid (show ∀ q ∈ F9, w.heap.size ≤ q from fun q hq => by
        rcases hg9.news q hq with h | h
        · exact S3.out q h
        · have := (M6.out.trans M7.out (fun _ h => nomatch h)).size; omega)
      obtain ⟨nf, hnf⟩ : ∃ n, n = (lenS15 0 true).length := ⟨_, rfl⟩
      rw [← hnf]
      have mz := (Mods.refl [] w7).alloc (.cells #[.string ⟨#[80, 79, 83, 84]⟩, .int .i64 1, .string noB, .string ⟨#[47, 120]⟩, .string noB, .int .i64 1, .slice fa nf fc, .slice ba 0 bc, .bool false, .bool false] 40)
      have R20 := Lib.hid (Row.new w7 40 #[.string ⟨#[80, 79, 83, 84]⟩, .int .i64 1, .string noB, .string ⟨#[47, 120]⟩, .string noB, .int .i64 1, .slice fa nf fc, .slice ba 0 bc, .bool false, .bool false])
      have htk2 := takerq_p (a9.low mz)
      rw [take_n (show ({ R1 with phase := 0 } : PrP).phase ≠ 3 from fun h => by cases h)] at htk2
      unfold ptr reqV reqCells noRq noT at htk2
      simp only at htk2
      have HTK2 := Lib.hid htk2
      have A9 := Lib.hid (a9.low mz)
      have HL9 := Lib.hid a9.lt
      have MZ := Lib.hid mz
      have TB := Lib.hid (show BsAt w7 (.slice ba 0 bc) l from tb1)
      have HN9 := Lib.hid hn9
      clear htk2 tf1 tb1 a9 hg9 hn9 hnf TR1
      go_upto_region 18 with (go_at_call 14; refine HTK2.out.mono ?_; rintro z w8 ⟨vf, vb, rfl, hk⟩; have hk2 := hk.out; unfold TookR at hk2; rw [take_n (show ({ R1 with phase := 0 } : PrP).phase ≠ 3 from fun h => by cases h)] at hk2; simp only at hk2; have TR2 := Lib.hid hk2; obtain ⟨ga, gc, rfl⟩ := hk2.1.len; obtain ⟨ha, hc, rfl⟩ := hk2.2.1.len; clear hk hk2)
      clear HTK2
      obtain ⟨-, -, F10, a10, hg10, -⟩ := TR2.out
      have r20 := R20.out.mods hg10.mods (fun h => by have := HL9.out _ h; omega)
      have M30 := Lib.hid (show Mods [] w w8 from (M20.out.trans MZ.out (fun _ h => nomatch h)).trans hg10.mods (fun q hq => .inr (S20.out q hq)))
      have tb2 : BsAt w8 (.slice ba 0 bc) l := (TB.out.low MZ.out).mods' hg10.mods (fun _ k hk => (HN9.out k (.inr hk)).2.1)
      have HSM := Lib.hid (fun W' (hm : Mods [] w8 W') => same_l15 l l (.slice ba 0 bc) (.slice A 0 c) W' (tb2.low hm) (HB.out.low (M30.out.trans hm (fun _ h => nomatch h))) (r := true) (decide_eq_true rfl))
      have hph2 := fun W' (hm : Mods [] w8 W') => phase_p (a10.low hm)
      unfold ptr at hph2
      have HPH2 := Lib.hid (show ∀ W', Mods [] w8 W' → Calls Tryz.prog 19 #[.pointer (some ⟨g, 0, none⟩)] W' (fun z w' => z = .returned (.int .i64 0) ∧ W' = w') from hph2)
      obtain ⟨s0, s1, s2, s3, s4, s5, s6, s7, s8, s9⟩ := r20.ten
      have u0 := fun o => cell_alloc s0 o
      have u3 := fun o => cell_alloc s3 o
      have u7 := fun o => cell_alloc s7 o
      have u8 := fun o => cell_alloc s8 o
      have u9 := fun o => cell_alloc s9 o
      clear a10 hg10 r20 tb2 hph2 s0 s1 s2 s3 s4 s5 s6 s7 s8 s9 TR2
      go_wp2_with (first
        | (go_at_call 23; refine (HSM.out _ ((Mods.refl [] w8).alloc _)).mono ?_; rintro z w9 ⟨rfl, hd⟩; have M31 := Lib.hid (show Mods [] w8 w9 from ((Mods.refl [] w8).alloc _).trans hd.mods15 (fun _ h => nomatch h)); obtain ⟨qd, rfl⟩ := hd)
        | (go_at_call 19; refine (HPH2.out _ M31.out).mono ?_; rintro z q2 ⟨rfl, rfl⟩)
        | (go_at_call 18; refine (known_15 _).mono ?_; rintro z w12 ⟨rfl, hm⟩; have M40 := Lib.hid ((M30.out.trans M31.out (fun _ h => nomatch h)).trans hm (fun _ h => nomatch h)); clear hm))
      go_ret
      exact ⟨rfl, M40.out.below⟩
  · obtain ⟨n1, rfl⟩ : ∃ n1, n = n1 + 1 := ⟨n - 1, by omega⟩
    clear hpos
    cases ex with
    | false =>
      have hsl : (⟨#[80, 79, 83, 84, 32, 47, 120, 32, 72, 84, 84, 80, 47, 49, 46, 49, 13, 10, 72, 111, 115, 116, 58, 32, 97, 13, 10, 67, 111, 110, 116, 101, 110, 116, 45, 76, 101, 110, 103, 116, 104, 58, 32]⟩ ++ decB (n1 + 1) ++ ⟨#[13, 10]⟩).data.toList = hdX (n1 + 1) false := sX_false (n1 + 1)
      have hsz : (⟨#[80, 79, 83, 84, 32, 47, 120, 32, 72, 84, 84, 80, 47, 49, 46, 49, 13, 10, 72, 111, 115, 116, 58, 32, 97, 13, 10, 67, 111, 110, 116, 101, 110, 116, 45, 76, 101, 110, 103, 116, 104, 58, 32]⟩ ++ decB (n1 + 1) ++ ⟨#[13, 10]⟩).size = (hdX (n1 + 1) false).length := by rw [← hsl]; rfl
      have hsz1 : 0 < (⟨#[80, 79, 83, 84, 32, 47, 120, 32, 72, 84, 84, 80, 47, 49, 46, 49, 13, 10, 72, 111, 115, 116, 58, 32, 97, 13, 10, 67, 111, 110, 116, 101, 110, 116, 45, 76, 101, 110, 103, 116, 104, 58, 32]⟩ ++ decB (n1 + 1) ++ ⟨#[13, 10]⟩).size ∧ (⟨#[80, 79, 83, 84, 32, 47, 120, 32, 72, 84, 84, 80, 47, 49, 46, 49, 13, 10, 72, 111, 115, 116, 58, 32, 97, 13, 10, 67, 111, 110, 116, 101, 110, 116, 45, 76, 101, 110, 103, 116, 104, 58, 32]⟩ ++ decB (n1 + 1) ++ ⟨#[13, 10]⟩).size ≤ 1000 := by
        have h9 : (⟨#[80, 79, 83, 84, 32, 47, 120, 32, 72, 84, 84, 80, 47, 49, 46, 49, 13, 10, 72, 111, 115, 116, 58, 32, 97, 13, 10, 67, 111, 110, 116, 101, 110, 116, 45, 76, 101, 110, 103, 116, 104, 58, 32]⟩ ++ decB (n1 + 1) ++ ⟨#[13, 10]⟩).size = 43 + (decB (n1 + 1)).size + 2 := by simp [ByteArray.size_append]; rfl
        omega
      go_enter Tryz.func7, Tryz.ntmps7
      go_upto_region 7 with (first
        | (go_at_call 22; refine (HD.out _).mono ?_; rintro z w1 ⟨rfl, hm⟩; have M1 := Lib.hid (show Mods [] w w1 from Mods.of_below hm); clear hm)
        | (go_at_call 9; refine (HN.out _).mono ?_; rintro z w2 ⟨g, F, rfl, hk⟩; have HA := Lib.hid hk.out; clear hk))
      obtain ⟨s, hs⟩ : ∃ s, s = (⟨#[80, 79, 83, 84, 32, 47, 120, 32, 72, 84, 84, 80, 47, 49, 46, 49, 13, 10, 72, 111, 115, 116, 58, 32, 97, 13, 10, 67, 111, 110, 116, 101, 110, 116, 45, 76, 101, 110, 103, 116, 104, 58, 32]⟩ ++ decB (n1 + 1) ++ ⟨#[13, 10]⟩) := ⟨_, rfl⟩
      rw [← hs] at hsl hsz1 hsz
      rw [← hs]
      clear hs hdz HD HN g1 g2
      obtain ⟨cap, W3, hcv, hb3, m3, hz3⟩ := conv_bs w2 s hsz1.1 (by omega)
      have hcw : (convert 22 22 (.slice (some ⟨W3.heap.size, 0, none⟩) 2 2)).run Tryz.prog (W3.alloc (.cells #[.int .u8 13, .int .u8 10] 5)) = .ok (.slice (some ⟨W3.heap.size, 0, none⟩) 2 2) (W3.alloc (.cells #[.int .u8 13, .int .u8 10] 5 (2, 3))) := conv_lit W3 #[.int .u8 13, .int .u8 10] 2 2 _ rfl
      have hb4 : BsAt (W3.alloc (.cells #[.int .u8 13, .int .u8 10] 5 (2, 3))) (.slice (some ⟨W3.heap.size, 0, none⟩) 2 2) [13, 10] := lit_at W3 [13, 10] (2, 3) (by decide) (by decide)
      have m4 : Mods [] W3 (W3.alloc (.cells #[.int .u8 13, .int .u8 10] 5 (2, 3))) := (Mods.refl [] W3).alloc _
      have hz4 : (W3.alloc (.cells #[.int .u8 13, .int .u8 10] 5 (2, 3))).heap.size = W3.heap.size + 1 := World.size_alloc _ _
      obtain ⟨W4, hW4⟩ : ∃ W4, W4 = W3.alloc (.cells #[.int .u8 13, .int .u8 10] 5 (2, 3)) := ⟨_, rfl⟩
      rw [← hW4] at hcw hb4 m4 hz4
      clear hW4
      have hlt := HA.out.1.lt
      have hps : PsAp (W4.alloc (.cells #[.slice (some ⟨w2.heap.size, 0, none⟩) s.size cap, .slice (some ⟨W3.heap.size, 0, none⟩) 2 2] 22)) (.slice (some ⟨W4.heap.size, 0, none⟩) 2 2) [s.data.toList, [13, 10]] F :=
        psap_two (W := W4) (A := s.data.toList) (B := [13, 10]) (F := F) (a1 := some ⟨w2.heap.size, 0, none⟩) (c1 := cap) (hb3.low m4) hb4 (fun q hq => by have := hlt q hq; omega) (fun _ => own_apart hlt (Nat.le_refl _)) (fun _ => own_apart hlt (by omega))
      have m5 := (Mods.refl [] W4).alloc (.cells #[.slice (some ⟨w2.heap.size, 0, none⟩) s.size cap, .slice (some ⟨W3.heap.size, 0, none⟩) 2 2] 22)
      have hfd := feedr_p _ [s.data.toList, [13, 10]] hps (((HA.out.1.low m3).low m4).low m5) (by rw [hsl]; simp only [List.flatten_cons, List.flatten_nil, List.length_append]; rw [← hsz]; simp; omega) (by simp)
      rw [show [s.data.toList, [13, 10]].flatten = hdX (n1 + 1) false ++ [13, 10] by rw [← hsl]; simp, e1] at hfd
      simp only at hfd
      rw [← hsz] at hfd
      unfold ptr at hfd
      have HFD := Lib.hid hfd
      have M5 := Lib.hid ((((M1.out.trans HA.out.2.1 (fun _ h => nomatch h)).trans m3 (fun _ h => nomatch h)).trans m4 (fun _ h => nomatch h)).trans m5 (fun _ h => nomatch h))
      have S2 := Lib.hid (show ∀ q ∈ F, w.heap.size ≤ q from fun q hq => Nat.le_trans M1.out.size (HA.out.2.2 q hq))
      have E2 := Lib.hid (show waitsR R1 = false from e2.trans (by simp))
      have E3 := Lib.hid (show R1.phase = 2 from e3.trans (by simp))
      have E4 := Lib.hid e4
      have E5 := Lib.hid e5
      have hsm : s.size ≤ 1000 := hsz1.2
      clear hfd hb3 m3 hz3 hb4 m4 hz4 hlt hps m5 e1 e2 e3 e4 e5 hsl hsz hsz1
      go_upto_region 8 with (go_at_call 11; refine HFD.out.mono ?_; rintro z w3 ⟨rfl, hk⟩; have HQ := Lib.hid hk.out; clear hk)
      clear hcv hcw HFD
      obtain ⟨F3, a3, hg3⟩ := HQ.out
      have M6 := Lib.hid (show Mods [] w w3 from M5.out.trans hg3.mods (fun q hq => .inr (S2.out q hq)))
      have S3 := Lib.hid (show ∀ q ∈ F3, w.heap.size ≤ q from fun q hq => by
        rcases hg3.news q hq with h | h
        · exact S2.out q h
        · have := M5.out.size; omega)
      have A3 := Lib.hid a3
      have hwt := waits_p a3
      rw [E2.out] at hwt
      unfold ptr at hwt
      have HWT := Lib.hid hwt
      clear a3 hg3 hwt HQ
      obtain ⟨R2, R3, f1, f2, f3, f4, f5, f6⟩ := E5.out (by omega)
      simp only [Nat.add_sub_cancel] at f1 f4
      obtain ⟨b1, hb1⟩ : ∃ b1, b1 = decide (n1 + 1 = 1) := ⟨_, rfl⟩
      rw [← hb1] at f3
      have hq1 : (((n1 : Int) + 1) == 1) = b1 := by
        rw [hb1]
        by_cases h : n1 = 0
        · subst h; rfl
        · rw [decide_eq_false (by omega), beq_eq_false_iff_ne]; omega
      have hbb : (b1 != b1) = false := by cases b1 <;> rfl
      have hcap : n1 + 1 ≤ c := by
        rcases HB.out with ⟨e, _⟩ | ⟨_, _, _, hv, _, _, h1, _⟩
        · have := HNL.out; rw [e] at this; cases this
        · injection hv with _ _ e; have := HNL.out; omega
      have hph := fun W' (hm : Mods [] w3 W') => phase_p (A3.out.low hm)
      have hwt := waits_p A3.out
      rw [E2.out] at hwt
      rw [E3.out] at hph
      unfold ptr at hwt hph
      have HWT := Lib.hid hwt
      have HPH := Lib.hid hph
      have F1 := Lib.hid f1
      have F2' := Lib.hid f2
      have F3' := Lib.hid f3
      have F4 := Lib.hid f4
      have F5 := Lib.hid f5
      have F6 := Lib.hid f6
      clear hwt hph hb1 f1 f2 f3 f4 f5 f6
      go_upto_region 12 with (first
        | (go_at_call 21; refine HWT.out.mono ?_; rintro z w4 ⟨rfl, hm⟩; have M7 := Lib.hid hm; clear hm)
        | (go_at_call 19; refine (HPH.out _ M7.out).mono ?_; rintro z q1 ⟨rfl, rfl⟩))
      clear HWT HPH
      have M8 := Lib.hid (M6.out.trans M7.out (fun _ h => nomatch h))
      have a4 := A3.out.low M7.out
      have m9 := (Mods.refl [] w4).alloc (.cells #[.slice A n1 c] 22)
      have hlt1 : (l.take n1).length = n1 := by rw [List.length_take]; have := HNL.out; omega
      have hps2 : PsAp (w4.alloc (.cells #[.slice A n1 c] 22)) (.slice (some ⟨w4.heap.size, 0, none⟩) 1 1) [l.take n1] F3 := by
        have h1 := psap_one (W := w4) (A := l.take n1) (F := F3) (a1 := A) (c1 := c) (by rw [hlt1]; exact (HB.out.low M8.out).to n1 (by omega)) a4.lt (fun h0 q hq hF => by
          have h1 := S3.out q hF
          have h2 := HB.out.lt (by have := HNL.out; omega) q (by rw [cut0_block A (n1 + 1) c (l.take n1).length c]; exact hq)
          omega)
        rw [hlt1] at h1
        exact h1
      have hfd2 := feedr_p _ [l.take n1] hps2 (a4.low m9) (by simp only [List.flatten_cons, List.flatten_nil, List.append_nil]; rw [hlt1]; omega) (by simp)
      rw [show [l.take n1].flatten = l.dropLast by rw [← take_last, ← HNL.out]; simp, F1.out] at hfd2
      simp only at hfd2
      unfold ptr at hfd2
      have HFD2 := Lib.hid hfd2
      have M9 := Lib.hid (M8.out.trans m9 (fun _ h => nomatch h))
      clear hfd2 hps2 m9 a4 hlt1
      have HW2 := Lib.hid (fun (F5 : List Nat) (w5 : World) (a5 : PaA F5 w5 g R2) => show Calls Tryz.prog 21 #[.pointer (some ⟨g, 0, none⟩)] w5 (fun z w' => z = .returned (.bool (false && b1)) ∧ Mods [] w5 w') from by
        have h := waits_p a5
        rw [F3'.out] at h
        exact h)
      have HP2 := Lib.hid (fun (F5 : List Nat) (w5 : World) (a5 : PaA F5 w5 g R2) => show Calls Tryz.prog 19 #[.pointer (some ⟨g, 0, none⟩)] w5 (fun z w' => z = .returned (.int .i64 2) ∧ w5 = w') from by
        have h := phase_p a5
        rw [F2'.out] at h
        exact h)
      go_upto_region 14 with (first
        | (go_at_call 11; refine HFD2.out.mono ?_; rintro z w5 ⟨rfl, hk⟩; obtain ⟨F5b, a5, hg5⟩ := hk.out; have A5 := Lib.hid a5; have G5 := Lib.hid hg5; clear hk a5 hg5)
        | (go_at_call 19; refine (HP2.out _ _ A5.out).mono ?_; rintro z q2 ⟨rfl, rfl⟩)
        | (go_at_call 21; refine (HW2.out _ _ A5.out).mono ?_; rintro z w6 ⟨rfl, hm⟩; have M10 := Lib.hid hm; clear hm))
      clear HFD2 HP2 HW2
      have M11 := Lib.hid (show Mods [] w w6 from (M9.out.trans G5.out.mods (fun q hq => .inr (S3.out q hq))).trans M10.out (fun _ h => nomatch h))
      have S5 := Lib.hid (show ∀ q ∈ F5b, w.heap.size ≤ q from fun q hq => by
        rcases G5.out.news q hq with h | h
        · exact S3.out q h
        · have := M9.out.size; omega)
      have a6 := A5.out.low M10.out
      have m12 := (Mods.refl [] w6).alloc (.cells #[.slice (Option.map (fun x => x.add n1) A) 1 (c - n1), .slice A2 t.length c2] 22)
      have hld : (l.drop n1).length = 1 := by rw [List.length_drop]; have := HNL.out; omega
      have hps3 : PsAp (w6.alloc (.cells #[.slice (Option.map (fun x => x.add n1) A) 1 (c - n1), .slice A2 t.length c2] 22)) (.slice (some ⟨w6.heap.size, 0, none⟩) 2 2) [l.drop n1, t] F5b := by
        have h1 := psap_two (W := w6) (A := l.drop n1) (B := t) (F := F5b) (a1 := Option.map (fun x => x.add n1) A) (c1 := c - n1) (a2 := A2) (c2 := c2) (by rw [hld]; exact (HB.out.low M11.out).from' n1 (by omega) (by rw [if_neg (by omega)]) 1 (c - n1) (by omega) rfl) (HT.out.low M11.out) a6.lt (fun h0 q hq hF => by
          have h1 := S5.out q hF
          have h2 := HB.out.lt (by have := HNL.out; omega) q (by
            cases A with
            | none => simp [Value.ownBlock] at hq
            | some aa =>
              obtain ⟨ab, ao, asp⟩ := aa
              have e9 : ((⟨ab, ao, asp⟩ : Addr).add n1).block = ab := by unfold Addr.add; split <;> rfl
              simpa [Value.ownBlock, e9] using hq)
          omega) (fun h0 q hq hF => by
          have h1 := S5.out q hF
          have h2 := HT.out.lt h0 q hq
          omega)
        rw [hld] at h1
        exact h1
      have hfd3 := feedr_p _ [l.drop n1, t] hps3 (a6.low m12) (by simp only [List.flatten_cons, List.flatten_nil, List.length_append]; rw [hld]; simp; omega) (by simp)
      rw [show [l.drop n1, t].flatten = l.drop n1 ++ t by simp, F4.out] at hfd3
      simp only at hfd3
      unfold ptr at hfd3
      have HFD3 := Lib.hid hfd3
      have M12 := Lib.hid (M11.out.trans m12 (fun _ h => nomatch h))
      clear hfd3 hps3 m12 a6 hld hq1 hbb
      go_upto_region 16 with (go_at_call 11; refine HFD3.out.mono ?_; rintro z w6b ⟨rfl, hk⟩; obtain ⟨F6b, a6b, hg6b⟩ := hk.out; have A6 := Lib.hid a6b; have G6 := Lib.hid hg6b; clear hk a6b hg6b)
      clear HFD3
      have M13 := Lib.hid (show Mods [] w w6b from M12.out.trans G6.out.mods (fun q hq => .inr (S5.out q hq)))
      have S6 := Lib.hid (show ∀ q ∈ F6b, w.heap.size ≤ q from fun q hq => by
        rcases G6.out.news q hq with h | h
        · exact S5.out q h
        · have := M12.out.size; omega)
      have RQ4 := Lib.hid (show rqOf R3 = ⟨ofL postM, pathT ⟨#[47, 120]⟩, 1, lenS15 (n1 + 1) false, l, false, false⟩ from F6.out.trans (by simp))
      have htk := takerq_p A6.out
      rw [take_w F5.out, RQ4.out] at htk
      simp only at htk
      have ht1 : takeR R3 = ({ R3 with phase := 0 }, ⟨ofL postM, pathT ⟨#[47, 120]⟩, 1, lenS15 (n1 + 1) false, l, false, false⟩, 0) := by rw [take_w F5.out, RQ4.out]
      unfold ptr reqV reqCells pathT at htk
      simp only at htk
      rw [show ofL postM = ⟨#[80, 79, 83, 84]⟩ from rfl] at htk
      have HTK := Lib.hid htk
      have HT1 := Lib.hid ht1
      clear htk ht1
      go_upto_region 17 with (go_at_call 14; refine HTK.out.mono ?_; rintro z w7 ⟨vf, vb, rfl, hk⟩; have hk2 := hk.out; unfold TookR at hk2; rw [HT1.out] at hk2; simp only at hk2; have TR1 := Lib.hid hk2; obtain ⟨fa, fc, rfl⟩ := hk2.1.len; obtain ⟨ba, bc, rfl⟩ := hk2.2.1.len; clear hk hk2)
      clear HTK
      rw [← HNL.out] at TR1 ⊢
      obtain ⟨tf1, tb1, F9, a9, hg9, hn9⟩ := TR1.out
      have M20 := Lib.hid (show Mods [] w w7 from (M13.out).trans hg9.mods (fun q hq => .inr (S6.out q hq)))
      have S20 := Lib.hid (show ∀ q ∈ F9, w.heap.size ≤ q from fun q hq => by
        rcases hg9.news q hq with h | h
        · exact S6.out q h
        · have := (M13.out).size; omega)
      obtain ⟨nf, hnf⟩ : ∃ n, n = (lenS15 (n1 + 1) false).length := ⟨_, rfl⟩
      rw [← hnf]
      have mz := (Mods.refl [] w7).alloc (.cells #[.string ⟨#[80, 79, 83, 84]⟩, .int .i64 1, .string noB, .string ⟨#[47, 120]⟩, .string noB, .int .i64 1, .slice fa nf fc, .slice ba (n1 + 1) bc, .bool false, .bool false] 40)
      have R20 := Lib.hid (Row.new w7 40 #[.string ⟨#[80, 79, 83, 84]⟩, .int .i64 1, .string noB, .string ⟨#[47, 120]⟩, .string noB, .int .i64 1, .slice fa nf fc, .slice ba (n1 + 1) bc, .bool false, .bool false])
      have htk2 := takerq_p (a9.low mz)
      rw [take_n (show ({ R3 with phase := 0 } : PrP).phase ≠ 3 from fun h => by cases h)] at htk2
      unfold ptr reqV reqCells noRq noT at htk2
      simp only at htk2
      have HTK2 := Lib.hid htk2
      have A9 := Lib.hid (a9.low mz)
      have HL9 := Lib.hid a9.lt
      have MZ := Lib.hid mz
      have TB := Lib.hid (show BsAt w7 (.slice ba (n1 + 1) bc) l from tb1)
      have HN9 := Lib.hid hn9
      clear htk2 tf1 tb1 a9 hg9 hn9 hnf TR1
      go_upto_region 18 with (go_at_call 14; refine HTK2.out.mono ?_; rintro z w8 ⟨vf, vb, rfl, hk⟩; have hk2 := hk.out; unfold TookR at hk2; rw [take_n (show ({ R3 with phase := 0 } : PrP).phase ≠ 3 from fun h => by cases h)] at hk2; simp only at hk2; have TR2 := Lib.hid hk2; obtain ⟨ga, gc, rfl⟩ := hk2.1.len; obtain ⟨ha, hc, rfl⟩ := hk2.2.1.len; clear hk hk2)
      clear HTK2
      obtain ⟨-, -, F10, a10, hg10, -⟩ := TR2.out
      have r20 := R20.out.mods hg10.mods (fun h => by have := HL9.out _ h; omega)
      have M30 := Lib.hid (show Mods [] w w8 from (M20.out.trans MZ.out (fun _ h => nomatch h)).trans hg10.mods (fun q hq => .inr (S20.out q hq)))
      have tb2 : BsAt w8 (.slice ba (n1 + 1) bc) l := (TB.out.low MZ.out).mods' hg10.mods (fun _ k hk => (HN9.out k (.inr hk)).2.1)
      have HSM := Lib.hid (fun W' (hm : Mods [] w8 W') => same_l15 l l (.slice ba (n1 + 1) bc) (.slice A (n1 + 1) c) W' (tb2.low hm) (HB.out.low (M30.out.trans hm (fun _ h => nomatch h))) (r := true) (decide_eq_true rfl))
      have hph2 := fun W' (hm : Mods [] w8 W') => phase_p (a10.low hm)
      unfold ptr at hph2
      have HPH2 := Lib.hid (show ∀ W', Mods [] w8 W' → Calls Tryz.prog 19 #[.pointer (some ⟨g, 0, none⟩)] W' (fun z w' => z = .returned (.int .i64 0) ∧ W' = w') from hph2)
      obtain ⟨s0, s1, s2, s3, s4, s5, s6, s7, s8, s9⟩ := r20.ten
      have u0 := fun o => cell_alloc s0 o
      have u3 := fun o => cell_alloc s3 o
      have u7 := fun o => cell_alloc s7 o
      have u8 := fun o => cell_alloc s8 o
      have u9 := fun o => cell_alloc s9 o
      clear a10 hg10 r20 tb2 hph2 s0 s1 s2 s3 s4 s5 s6 s7 s8 s9 TR2
      go_wp2_with (first
        | (go_at_call 23; refine (HSM.out _ ((Mods.refl [] w8).alloc _)).mono ?_; rintro z w9 ⟨rfl, hd⟩; have M31 := Lib.hid (show Mods [] w8 w9 from ((Mods.refl [] w8).alloc _).trans hd.mods15 (fun _ h => nomatch h)); obtain ⟨qd, rfl⟩ := hd)
        | (go_at_call 19; refine (HPH2.out _ M31.out).mono ?_; rintro z q2 ⟨rfl, rfl⟩)
        | (go_at_call 18; refine (known_15 _).mono ?_; rintro z w12 ⟨rfl, hm⟩; have M40 := Lib.hid ((M30.out.trans M31.out (fun _ h => nomatch h)).trans hm (fun _ h => nomatch h)); clear hm))
      go_ret
      exact ⟨rfl, M40.out.below⟩
    | true =>
      have hsl : (⟨#[80, 79, 83, 84, 32, 47, 120, 32, 72, 84, 84, 80, 47, 49, 46, 49, 13, 10, 72, 111, 115, 116, 58, 32, 97, 13, 10, 67, 111, 110, 116, 101, 110, 116, 45, 76, 101, 110, 103, 116, 104, 58, 32]⟩ ++ decB (n1 + 1) ++ ⟨#[13, 10]⟩ ++ ⟨#[69, 120, 112, 101, 99, 116, 58, 32, 49, 48, 48, 45, 67, 111, 110, 116, 105, 110, 117, 101, 13, 10]⟩).data.toList = hdX (n1 + 1) true := sX_true (n1 + 1)
      have hsz : (⟨#[80, 79, 83, 84, 32, 47, 120, 32, 72, 84, 84, 80, 47, 49, 46, 49, 13, 10, 72, 111, 115, 116, 58, 32, 97, 13, 10, 67, 111, 110, 116, 101, 110, 116, 45, 76, 101, 110, 103, 116, 104, 58, 32]⟩ ++ decB (n1 + 1) ++ ⟨#[13, 10]⟩ ++ ⟨#[69, 120, 112, 101, 99, 116, 58, 32, 49, 48, 48, 45, 67, 111, 110, 116, 105, 110, 117, 101, 13, 10]⟩).size = (hdX (n1 + 1) true).length := by rw [← hsl]; rfl
      have hsz1 : 0 < (⟨#[80, 79, 83, 84, 32, 47, 120, 32, 72, 84, 84, 80, 47, 49, 46, 49, 13, 10, 72, 111, 115, 116, 58, 32, 97, 13, 10, 67, 111, 110, 116, 101, 110, 116, 45, 76, 101, 110, 103, 116, 104, 58, 32]⟩ ++ decB (n1 + 1) ++ ⟨#[13, 10]⟩ ++ ⟨#[69, 120, 112, 101, 99, 116, 58, 32, 49, 48, 48, 45, 67, 111, 110, 116, 105, 110, 117, 101, 13, 10]⟩).size ∧ (⟨#[80, 79, 83, 84, 32, 47, 120, 32, 72, 84, 84, 80, 47, 49, 46, 49, 13, 10, 72, 111, 115, 116, 58, 32, 97, 13, 10, 67, 111, 110, 116, 101, 110, 116, 45, 76, 101, 110, 103, 116, 104, 58, 32]⟩ ++ decB (n1 + 1) ++ ⟨#[13, 10]⟩ ++ ⟨#[69, 120, 112, 101, 99, 116, 58, 32, 49, 48, 48, 45, 67, 111, 110, 116, 105, 110, 117, 101, 13, 10]⟩).size ≤ 1000 := by
        have h9 : (⟨#[80, 79, 83, 84, 32, 47, 120, 32, 72, 84, 84, 80, 47, 49, 46, 49, 13, 10, 72, 111, 115, 116, 58, 32, 97, 13, 10, 67, 111, 110, 116, 101, 110, 116, 45, 76, 101, 110, 103, 116, 104, 58, 32]⟩ ++ decB (n1 + 1) ++ ⟨#[13, 10]⟩ ++ ⟨#[69, 120, 112, 101, 99, 116, 58, 32, 49, 48, 48, 45, 67, 111, 110, 116, 105, 110, 117, 101, 13, 10]⟩).size = 43 + (decB (n1 + 1)).size + 2 + 22 := by simp [ByteArray.size_append]; rfl
        omega
      go_enter Tryz.func7, Tryz.ntmps7
      go_upto_region 7 with (first
        | (go_at_call 22; refine (HD.out _).mono ?_; rintro z w1 ⟨rfl, hm⟩; have M1 := Lib.hid (show Mods [] w w1 from Mods.of_below hm); clear hm)
        | (go_at_call 9; refine (HN.out _).mono ?_; rintro z w2 ⟨g, F, rfl, hk⟩; have HA := Lib.hid hk.out; clear hk))
      obtain ⟨s, hs⟩ : ∃ s, s = (⟨#[80, 79, 83, 84, 32, 47, 120, 32, 72, 84, 84, 80, 47, 49, 46, 49, 13, 10, 72, 111, 115, 116, 58, 32, 97, 13, 10, 67, 111, 110, 116, 101, 110, 116, 45, 76, 101, 110, 103, 116, 104, 58, 32]⟩ ++ decB (n1 + 1) ++ ⟨#[13, 10]⟩ ++ ⟨#[69, 120, 112, 101, 99, 116, 58, 32, 49, 48, 48, 45, 67, 111, 110, 116, 105, 110, 117, 101, 13, 10]⟩) := ⟨_, rfl⟩
      rw [← hs] at hsl hsz1 hsz
      rw [← hs]
      clear hs hdz HD HN g1 g2
      obtain ⟨cap, W3, hcv, hb3, m3, hz3⟩ := conv_bs w2 s hsz1.1 (by omega)
      have hcw : (convert 22 22 (.slice (some ⟨W3.heap.size, 0, none⟩) 2 2)).run Tryz.prog (W3.alloc (.cells #[.int .u8 13, .int .u8 10] 5)) = .ok (.slice (some ⟨W3.heap.size, 0, none⟩) 2 2) (W3.alloc (.cells #[.int .u8 13, .int .u8 10] 5 (2, 3))) := conv_lit W3 #[.int .u8 13, .int .u8 10] 2 2 _ rfl
      have hb4 : BsAt (W3.alloc (.cells #[.int .u8 13, .int .u8 10] 5 (2, 3))) (.slice (some ⟨W3.heap.size, 0, none⟩) 2 2) [13, 10] := lit_at W3 [13, 10] (2, 3) (by decide) (by decide)
      have m4 : Mods [] W3 (W3.alloc (.cells #[.int .u8 13, .int .u8 10] 5 (2, 3))) := (Mods.refl [] W3).alloc _
      have hz4 : (W3.alloc (.cells #[.int .u8 13, .int .u8 10] 5 (2, 3))).heap.size = W3.heap.size + 1 := World.size_alloc _ _
      obtain ⟨W4, hW4⟩ : ∃ W4, W4 = W3.alloc (.cells #[.int .u8 13, .int .u8 10] 5 (2, 3)) := ⟨_, rfl⟩
      rw [← hW4] at hcw hb4 m4 hz4
      clear hW4
      have hlt := HA.out.1.lt
      have hps : PsAp (W4.alloc (.cells #[.slice (some ⟨w2.heap.size, 0, none⟩) s.size cap, .slice (some ⟨W3.heap.size, 0, none⟩) 2 2] 22)) (.slice (some ⟨W4.heap.size, 0, none⟩) 2 2) [s.data.toList, [13, 10]] F :=
        psap_two (W := W4) (A := s.data.toList) (B := [13, 10]) (F := F) (a1 := some ⟨w2.heap.size, 0, none⟩) (c1 := cap) (hb3.low m4) hb4 (fun q hq => by have := hlt q hq; omega) (fun _ => own_apart hlt (Nat.le_refl _)) (fun _ => own_apart hlt (by omega))
      have m5 := (Mods.refl [] W4).alloc (.cells #[.slice (some ⟨w2.heap.size, 0, none⟩) s.size cap, .slice (some ⟨W3.heap.size, 0, none⟩) 2 2] 22)
      have hfd := feedr_p _ [s.data.toList, [13, 10]] hps (((HA.out.1.low m3).low m4).low m5) (by rw [hsl]; simp only [List.flatten_cons, List.flatten_nil, List.length_append]; rw [← hsz]; simp; omega) (by simp)
      rw [show [s.data.toList, [13, 10]].flatten = hdX (n1 + 1) true ++ [13, 10] by rw [← hsl]; simp, e1] at hfd
      simp only at hfd
      rw [← hsz] at hfd
      unfold ptr at hfd
      have HFD := Lib.hid hfd
      have M5 := Lib.hid ((((M1.out.trans HA.out.2.1 (fun _ h => nomatch h)).trans m3 (fun _ h => nomatch h)).trans m4 (fun _ h => nomatch h)).trans m5 (fun _ h => nomatch h))
      have S2 := Lib.hid (show ∀ q ∈ F, w.heap.size ≤ q from fun q hq => Nat.le_trans M1.out.size (HA.out.2.2 q hq))
      have E2 := Lib.hid (show waitsR R1 = true from e2.trans (by simp))
      have E3 := Lib.hid (show R1.phase = 2 from e3.trans (by simp))
      have E4 := Lib.hid e4
      have E5 := Lib.hid e5
      have hsm : s.size ≤ 1000 := hsz1.2
      clear hfd hb3 m3 hz3 hb4 m4 hz4 hlt hps m5 e1 e2 e3 e4 e5 hsl hsz hsz1
      go_upto_region 8 with (go_at_call 11; refine HFD.out.mono ?_; rintro z w3 ⟨rfl, hk⟩; have HQ := Lib.hid hk.out; clear hk)
      clear hcv hcw HFD
      obtain ⟨F3, a3, hg3⟩ := HQ.out
      have M6 := Lib.hid (show Mods [] w w3 from M5.out.trans hg3.mods (fun q hq => .inr (S2.out q hq)))
      have S3 := Lib.hid (show ∀ q ∈ F3, w.heap.size ≤ q from fun q hq => by
        rcases hg3.news q hq with h | h
        · exact S2.out q h
        · have := M5.out.size; omega)
      have A3 := Lib.hid a3
      have hwt := waits_p a3
      rw [E2.out] at hwt
      unfold ptr at hwt
      have HWT := Lib.hid hwt
      clear a3 hg3 hwt HQ
      obtain ⟨R2, R3, f1, f2, f3, f4, f5, f6⟩ := E5.out (by omega)
      simp only [Nat.add_sub_cancel] at f1 f4
      obtain ⟨b1, hb1⟩ : ∃ b1, b1 = decide (n1 + 1 = 1) := ⟨_, rfl⟩
      rw [← hb1] at f3
      have hq1 : (((n1 : Int) + 1) == 1) = b1 := by
        rw [hb1]
        by_cases h : n1 = 0
        · subst h; rfl
        · rw [decide_eq_false (by omega), beq_eq_false_iff_ne]; omega
      have hbb : (b1 != b1) = false := by cases b1 <;> rfl
      have hcap : n1 + 1 ≤ c := by
        rcases HB.out with ⟨e, _⟩ | ⟨_, _, _, hv, _, _, h1, _⟩
        · have := HNL.out; rw [e] at this; cases this
        · injection hv with _ _ e; have := HNL.out; omega
      have hph := fun W' (hm : Mods [] w3 W') => phase_p (A3.out.low hm)
      have hwt := waits_p A3.out
      rw [E2.out] at hwt
      rw [E3.out] at hph
      unfold ptr at hwt hph
      have HWT := Lib.hid hwt
      have HPH := Lib.hid hph
      have F1 := Lib.hid f1
      have F2' := Lib.hid f2
      have F3' := Lib.hid f3
      have F4 := Lib.hid f4
      have F5 := Lib.hid f5
      have F6 := Lib.hid f6
      clear hwt hph hb1 f1 f2 f3 f4 f5 f6
      go_upto_region 12 with (first
        | (go_at_call 21; refine HWT.out.mono ?_; rintro z w4 ⟨rfl, hm⟩; have M7 := Lib.hid hm; clear hm)
        | (go_at_call 19; refine (HPH.out _ M7.out).mono ?_; rintro z q1 ⟨rfl, rfl⟩))
      clear HWT HPH
      have M8 := Lib.hid (M6.out.trans M7.out (fun _ h => nomatch h))
      have a4 := A3.out.low M7.out
      have m9 := (Mods.refl [] w4).alloc (.cells #[.slice A n1 c] 22)
      have hlt1 : (l.take n1).length = n1 := by rw [List.length_take]; have := HNL.out; omega
      have hps2 : PsAp (w4.alloc (.cells #[.slice A n1 c] 22)) (.slice (some ⟨w4.heap.size, 0, none⟩) 1 1) [l.take n1] F3 := by
        have h1 := psap_one (W := w4) (A := l.take n1) (F := F3) (a1 := A) (c1 := c) (by rw [hlt1]; exact (HB.out.low M8.out).to n1 (by omega)) a4.lt (fun h0 q hq hF => by
          have h1 := S3.out q hF
          have h2 := HB.out.lt (by have := HNL.out; omega) q (by rw [cut0_block A (n1 + 1) c (l.take n1).length c]; exact hq)
          omega)
        rw [hlt1] at h1
        exact h1
      have hfd2 := feedr_p _ [l.take n1] hps2 (a4.low m9) (by simp only [List.flatten_cons, List.flatten_nil, List.append_nil]; rw [hlt1]; omega) (by simp)
      rw [show [l.take n1].flatten = l.dropLast by rw [← take_last, ← HNL.out]; simp, F1.out] at hfd2
      simp only at hfd2
      unfold ptr at hfd2
      have HFD2 := Lib.hid hfd2
      have M9 := Lib.hid (M8.out.trans m9 (fun _ h => nomatch h))
      clear hfd2 hps2 m9 a4 hlt1
      have HW2 := Lib.hid (fun (F5 : List Nat) (w5 : World) (a5 : PaA F5 w5 g R2) => show Calls Tryz.prog 21 #[.pointer (some ⟨g, 0, none⟩)] w5 (fun z w' => z = .returned (.bool (true && b1)) ∧ Mods [] w5 w') from by
        have h := waits_p a5
        rw [F3'.out] at h
        exact h)
      have HP2 := Lib.hid (fun (F5 : List Nat) (w5 : World) (a5 : PaA F5 w5 g R2) => show Calls Tryz.prog 19 #[.pointer (some ⟨g, 0, none⟩)] w5 (fun z w' => z = .returned (.int .i64 2) ∧ w5 = w') from by
        have h := phase_p a5
        rw [F2'.out] at h
        exact h)
      go_upto_region 14 with (first
        | (go_at_call 11; refine HFD2.out.mono ?_; rintro z w5 ⟨rfl, hk⟩; obtain ⟨F5b, a5, hg5⟩ := hk.out; have A5 := Lib.hid a5; have G5 := Lib.hid hg5; clear hk a5 hg5)
        | (go_at_call 19; refine (HP2.out _ _ A5.out).mono ?_; rintro z q2 ⟨rfl, rfl⟩)
        | (go_at_call 21; refine (HW2.out _ _ A5.out).mono ?_; rintro z w6 ⟨rfl, hm⟩; have M10 := Lib.hid hm; clear hm))
      clear HFD2 HP2 HW2
      have M11 := Lib.hid (show Mods [] w w6 from (M9.out.trans G5.out.mods (fun q hq => .inr (S3.out q hq))).trans M10.out (fun _ h => nomatch h))
      have S5 := Lib.hid (show ∀ q ∈ F5b, w.heap.size ≤ q from fun q hq => by
        rcases G5.out.news q hq with h | h
        · exact S3.out q h
        · have := M9.out.size; omega)
      have a6 := A5.out.low M10.out
      have m12 := (Mods.refl [] w6).alloc (.cells #[.slice (Option.map (fun x => x.add n1) A) 1 (c - n1), .slice A2 t.length c2] 22)
      have hld : (l.drop n1).length = 1 := by rw [List.length_drop]; have := HNL.out; omega
      have hps3 : PsAp (w6.alloc (.cells #[.slice (Option.map (fun x => x.add n1) A) 1 (c - n1), .slice A2 t.length c2] 22)) (.slice (some ⟨w6.heap.size, 0, none⟩) 2 2) [l.drop n1, t] F5b := by
        have h1 := psap_two (W := w6) (A := l.drop n1) (B := t) (F := F5b) (a1 := Option.map (fun x => x.add n1) A) (c1 := c - n1) (a2 := A2) (c2 := c2) (by rw [hld]; exact (HB.out.low M11.out).from' n1 (by omega) (by rw [if_neg (by omega)]) 1 (c - n1) (by omega) rfl) (HT.out.low M11.out) a6.lt (fun h0 q hq hF => by
          have h1 := S5.out q hF
          have h2 := HB.out.lt (by have := HNL.out; omega) q (by
            cases A with
            | none => simp [Value.ownBlock] at hq
            | some aa =>
              obtain ⟨ab, ao, asp⟩ := aa
              have e9 : ((⟨ab, ao, asp⟩ : Addr).add n1).block = ab := by unfold Addr.add; split <;> rfl
              simpa [Value.ownBlock, e9] using hq)
          omega) (fun h0 q hq hF => by
          have h1 := S5.out q hF
          have h2 := HT.out.lt h0 q hq
          omega)
        rw [hld] at h1
        exact h1
      have hfd3 := feedr_p _ [l.drop n1, t] hps3 (a6.low m12) (by simp only [List.flatten_cons, List.flatten_nil, List.length_append]; rw [hld]; simp; omega) (by simp)
      rw [show [l.drop n1, t].flatten = l.drop n1 ++ t by simp, F4.out] at hfd3
      simp only at hfd3
      unfold ptr at hfd3
      have HFD3 := Lib.hid hfd3
      have M12 := Lib.hid (M11.out.trans m12 (fun _ h => nomatch h))
      clear hfd3 hps3 m12 a6 hld hq1 hbb
      go_upto_region 16 with (go_at_call 11; refine HFD3.out.mono ?_; rintro z w6b ⟨rfl, hk⟩; obtain ⟨F6b, a6b, hg6b⟩ := hk.out; have A6 := Lib.hid a6b; have G6 := Lib.hid hg6b; clear hk a6b hg6b)
      clear HFD3
      have M13 := Lib.hid (show Mods [] w w6b from M12.out.trans G6.out.mods (fun q hq => .inr (S5.out q hq)))
      have S6 := Lib.hid (show ∀ q ∈ F6b, w.heap.size ≤ q from fun q hq => by
        rcases G6.out.news q hq with h | h
        · exact S5.out q h
        · have := M12.out.size; omega)
      have RQ4 := Lib.hid (show rqOf R3 = ⟨ofL postM, pathT ⟨#[47, 120]⟩, 1, lenS15 (n1 + 1) true, l, false, true⟩ from F6.out.trans (by simp))
      have htk := takerq_p A6.out
      rw [take_w F5.out, RQ4.out] at htk
      simp only at htk
      have ht1 : takeR R3 = ({ R3 with phase := 0 }, ⟨ofL postM, pathT ⟨#[47, 120]⟩, 1, lenS15 (n1 + 1) true, l, false, true⟩, 0) := by rw [take_w F5.out, RQ4.out]
      unfold ptr reqV reqCells pathT at htk
      simp only at htk
      rw [show ofL postM = ⟨#[80, 79, 83, 84]⟩ from rfl] at htk
      have HTK := Lib.hid htk
      have HT1 := Lib.hid ht1
      clear htk ht1
      go_upto_region 17 with (go_at_call 14; refine HTK.out.mono ?_; rintro z w7 ⟨vf, vb, rfl, hk⟩; have hk2 := hk.out; unfold TookR at hk2; rw [HT1.out] at hk2; simp only at hk2; have TR1 := Lib.hid hk2; obtain ⟨fa, fc, rfl⟩ := hk2.1.len; obtain ⟨ba, bc, rfl⟩ := hk2.2.1.len; clear hk hk2)
      clear HTK
      rw [← HNL.out] at TR1 ⊢
      obtain ⟨tf1, tb1, F9, a9, hg9, hn9⟩ := TR1.out
      have M20 := Lib.hid (show Mods [] w w7 from (M13.out).trans hg9.mods (fun q hq => .inr (S6.out q hq)))
      have S20 := Lib.hid (show ∀ q ∈ F9, w.heap.size ≤ q from fun q hq => by
        rcases hg9.news q hq with h | h
        · exact S6.out q h
        · have := (M13.out).size; omega)
      obtain ⟨nf, hnf⟩ : ∃ n, n = (lenS15 (n1 + 1) true).length := ⟨_, rfl⟩
      rw [← hnf]
      have mz := (Mods.refl [] w7).alloc (.cells #[.string ⟨#[80, 79, 83, 84]⟩, .int .i64 1, .string noB, .string ⟨#[47, 120]⟩, .string noB, .int .i64 1, .slice fa nf fc, .slice ba (n1 + 1) bc, .bool false, .bool true] 40)
      have R20 := Lib.hid (Row.new w7 40 #[.string ⟨#[80, 79, 83, 84]⟩, .int .i64 1, .string noB, .string ⟨#[47, 120]⟩, .string noB, .int .i64 1, .slice fa nf fc, .slice ba (n1 + 1) bc, .bool false, .bool true])
      have htk2 := takerq_p (a9.low mz)
      rw [take_n (show ({ R3 with phase := 0 } : PrP).phase ≠ 3 from fun h => by cases h)] at htk2
      unfold ptr reqV reqCells noRq noT at htk2
      simp only at htk2
      have HTK2 := Lib.hid htk2
      have A9 := Lib.hid (a9.low mz)
      have HL9 := Lib.hid a9.lt
      have MZ := Lib.hid mz
      have TB := Lib.hid (show BsAt w7 (.slice ba (n1 + 1) bc) l from tb1)
      have HN9 := Lib.hid hn9
      clear htk2 tf1 tb1 a9 hg9 hn9 hnf TR1
      go_upto_region 18 with (go_at_call 14; refine HTK2.out.mono ?_; rintro z w8 ⟨vf, vb, rfl, hk⟩; have hk2 := hk.out; unfold TookR at hk2; rw [take_n (show ({ R3 with phase := 0 } : PrP).phase ≠ 3 from fun h => by cases h)] at hk2; simp only at hk2; have TR2 := Lib.hid hk2; obtain ⟨ga, gc, rfl⟩ := hk2.1.len; obtain ⟨ha, hc, rfl⟩ := hk2.2.1.len; clear hk hk2)
      clear HTK2
      obtain ⟨-, -, F10, a10, hg10, -⟩ := TR2.out
      have r20 := R20.out.mods hg10.mods (fun h => by have := HL9.out _ h; omega)
      have M30 := Lib.hid (show Mods [] w w8 from (M20.out.trans MZ.out (fun _ h => nomatch h)).trans hg10.mods (fun q hq => .inr (S20.out q hq)))
      have tb2 : BsAt w8 (.slice ba (n1 + 1) bc) l := (TB.out.low MZ.out).mods' hg10.mods (fun _ k hk => (HN9.out k (.inr hk)).2.1)
      have HSM := Lib.hid (fun W' (hm : Mods [] w8 W') => same_l15 l l (.slice ba (n1 + 1) bc) (.slice A (n1 + 1) c) W' (tb2.low hm) (HB.out.low (M30.out.trans hm (fun _ h => nomatch h))) (r := true) (decide_eq_true rfl))
      have hph2 := fun W' (hm : Mods [] w8 W') => phase_p (a10.low hm)
      unfold ptr at hph2
      have HPH2 := Lib.hid (show ∀ W', Mods [] w8 W' → Calls Tryz.prog 19 #[.pointer (some ⟨g, 0, none⟩)] W' (fun z w' => z = .returned (.int .i64 0) ∧ W' = w') from hph2)
      obtain ⟨s0, s1, s2, s3, s4, s5, s6, s7, s8, s9⟩ := r20.ten
      have u0 := fun o => cell_alloc s0 o
      have u3 := fun o => cell_alloc s3 o
      have u7 := fun o => cell_alloc s7 o
      have u8 := fun o => cell_alloc s8 o
      have u9 := fun o => cell_alloc s9 o
      clear a10 hg10 r20 tb2 hph2 s0 s1 s2 s3 s4 s5 s6 s7 s8 s9 TR2
      go_wp2_with (first
        | (go_at_call 23; refine (HSM.out _ ((Mods.refl [] w8).alloc _)).mono ?_; rintro z w9 ⟨rfl, hd⟩; have M31 := Lib.hid (show Mods [] w8 w9 from ((Mods.refl [] w8).alloc _).trans hd.mods15 (fun _ h => nomatch h)); obtain ⟨qd, rfl⟩ := hd)
        | (go_at_call 19; refine (HPH2.out _ M31.out).mono ?_; rintro z q2 ⟨rfl, rfl⟩)
        | (go_at_call 18; refine (known_15 _).mono ?_; rintro z w12 ⟨rfl, hm⟩; have M40 := Lib.hid ((M30.out.trans M31.out (fun _ h => nomatch h)).trans hm (fun _ h => nomatch h)); clear hm))
      go_ret
      exact ⟨rfl, M40.out.below⟩

theorem own : ownKnob Tryz.prog.godebug = none := by kernel_rfl
theorem laidOut : laidOutB Tryz.prog = true := by kernel_rfl
set_option maxRecDepth 100000 in
theorem lifted (os : Os) (started : os.Started) (H : Type) (enc : TypeId × Value → H) :
    ReturnsInHanded {} Tryz.checked os 7 .any (fun w args => (Rows.parseBodySpec.pre enc Tryz.prog Tryz.f7 [] false w args ∧ laidMetH Tryz.prog Rows.parseBodyRow.laid w) ∧ sizedMet enc Tryz.prog Tryz.f7 (OpenSpec.ofChange Rows.parseBodySpec) false w args)
      (Rows.parseBodySpec.post enc Tryz.prog Tryz.f7 false true false false) := by
  refine returnsInHanded_of_change_and (C := Tryz.checked) (X := fun w _ => laidMetH Tryz.prog Rows.parseBodyRow.laid w) (fun _ _ _ hh h => h.of_heap hh) own started (by kernel_rfl) Tryz.func7
    (ChangeSpec.witness_shaped (enc := enc) (C := Tryz.checked) (os := os) (X := fun w _ => laidMetH Tryz.prog Rows.parseBodyRow.laid w) false (World.laidAll Tryz.prog os Rows.parseBodyRow.laid) #[.slice none 0 0, .slice none 0 0, .bool false] 8 (World.laidAll_os _ _ _)
      (World.shaped_of_ZipB (by kernel_rfl) (by kernel_rfl)) (by kernel_rfl) (by kernel_rfl) (by kernel_rfl)
      (by rw [MakeChecks.laidMetH_plain _ _ _ (by kernel_rfl)]; exact laidMet_laidAll _ (by kernel_rfl) (by kernel_rfl))) ?_
  intro W base args ds gs before hval0 hW hcnd hsz0 hL _
  have hsz : (DataW.weightsEach Tryz.prog (Tryz.f7.params.toList ++ Rows.parseBodySpec.plain.varTypes Tryz.prog) (ds ++ gs)).all (· ≤ reachBytes) = true := hsz0
  have hval : ∀ (j : Nat) t v, Tryz.f7.params[j]? = some t → args[j]? = some v → Value.okWide Tryz.prog W .any base t v := hval0
  have hW' := hW
  obtain ⟨p, q, hA0, hV, rfl, hfz, hnd⟩ := hW
  have hA : DataW.TrodAll enc Tryz.prog W 0 (fun _ => true) true Tryz.f7.params.toList args.toList ds p := hA0
  rw [Tryz.params7] at hA hval hsz
  obtain ⟨v0, vs0, d0, ds0, p0, q0, hargs, rfl, rfl, h0, r0⟩ := trodAll_cons hA
  obtain ⟨v1, vs1, d1, ds1, p1, q1, rfl, rfl, rfl, h1, r1⟩ := trodAll_cons r0
  obtain ⟨v2, vs2, d2, ds2, p2, q2, rfl, rfl, rfl, h2, r2⟩ := trodAll_cons r1
  obtain ⟨rfl, rfl, rfl⟩ := trodAll_nil r2
  obtain rfl : args = #[v0, v1, v2] := by cases args; simp_all
  obtain ⟨rfl, rfl⟩ := trodVars_none hV
  have k0 := h0
  have lt0 : ∀ x ∈ p0, x.block < W.heap.size := by obtain ⟨m, hm⟩ := k0; exact DataW.trod_lt m _ _ _ hm
  obtain ⟨bl0, o0⟩ := open_bs14 (hval 0 22 v0 rfl rfl) k0 (fun n hn => by simpa using List.all_eq_true.1 hsz n (DataW.weights_mem_each (j := 0) (t := 22) rfl rfl n hn))
  have k1 := h1
  have lt1 : ∀ x ∈ p1, x.block < W.heap.size := by obtain ⟨m, hm⟩ := k1; exact DataW.trod_lt m _ _ _ hm
  obtain ⟨bl1, o1⟩ := open_bs14 (hval 1 22 v1 rfl rfl) k1 (fun n hn => by simpa using List.all_eq_true.1 hsz n (DataW.weights_mem_each (j := 1) (t := 22) rfl rfl n hn))
  obtain ⟨a2, rfl, rfl, rfl⟩ := open_bool Tryz.underlying4 (hval 2 4 v2 rfl rfl) h2
  clear hA0 hval0 hsz0 hsz
  refine (walk W hL v0 bl0 o0 v1 bl1 o1 a2).mono fun e W' ⟨he, bel⟩ => ?_
  subst he
  exact ⟨_, rfl, _, _, _, [], _, [], hW', trodAll_mk1 (shut_bool Tryz.underlying4 _), (trodAll_cons_mk (Below.trod laidOut (by kernel_rfl) (of_decide_eq_true (by kernel_rfl)) k0 bel lt0) (trodAll_cons_mk (Below.trod laidOut (by kernel_rfl) (of_decide_eq_true (by kernel_rfl)) k1 bel lt1) (trodAll_cons_mk (shut_bool Tryz.underlying4 a2) trodAll_mk0))), rfl, bel.frame _, fun h => by cases h⟩

theorem over : Rows.parseBodyRow.holds Tryz.pinned (OpenSpec.ofChange Rows.parseBodySpec) :=
  OpenClaim.holds_of_wide 7 Tryz.f7 rfl rfl rfl rfl rfl rfl rfl ⟨rfl, rfl, rfl, rfl, rfl⟩ rfl rfl rfl rfl rfl (by kernel_rfl) Tryz.func7 (by kernel_rfl)
    (of_decide_eq_true (by kernel_rfl)) (by unfold Func.isWrapper; first | (rw [if_pos (by decide +kernel)]; kernel_rfl) | (rw [if_neg (by decide +kernel)]; exact ⟨rfl, rfl⟩))
    (fun os started H enc _ => lifted os started H enc)

theorem said : Rows.ParseBodySaid := over
theorem plain (f : FuncId) (fn : Func) (hf : Tryz.pinned.checked.prog.funcNamed "usher/usherlaw15.ParseBody" = some f) (hfn : Tryz.pinned.checked.prog.funcs[f]? = some fn) :
    false = Tryz.pinned.checked.prog.looks [] ∧ ∀ (j : Nat) t, fn.params[j]? = some t → Tryz.pinned.checked.prog.wantsStandIn t = false := by
  obtain rfl : f = 7 := Option.some.inj ((show Tryz.prog.funcNamed "usher/usherlaw15.ParseBody" = some 7 by kernel_rfl).symm.trans hf) |>.symm
  obtain rfl : fn = Tryz.f7 := (Option.some.inj (Tryz.func7.symm.trans hfn)).symm
  refine ⟨by kernel_rfl, fun j t ht => ?_⟩
  rw [Tryz.params7] at ht
  have hm : t ∈ [22, 4] := by simpa using Array.mem_of_getElem? ht
  simp only [List.mem_cons, List.mem_nil_iff, or_false] at hm
  rcases hm with rfl | rfl
  · exact (show Tryz.prog.wantsStandIn 22 = false by kernel_rfl)
  · exact (show Tryz.prog.wantsStandIn 4 = false by kernel_rfl)
theorem proved : Rows.ParseBodyCardSaid :=
  Claim7.holds_tied_plain_at .later [] _ _ _ _ said (fun _ h => by cases h) (by kernel_rfl) (fun _ h => by cases h) parseBody_row_tie rfl ⟨rfl, rfl⟩ (by kernel_rfl) rfl plain (by kernel_rfl)
end Go.Proofs.YtgkhelbpccehcaaGreatDoor.parseBody
