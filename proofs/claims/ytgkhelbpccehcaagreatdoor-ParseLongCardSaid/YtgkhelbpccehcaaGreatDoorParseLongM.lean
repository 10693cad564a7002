/- For every length, a line up to the bound is taken, and with one byte more it is refused at that byte: the law returns true. -/
import Derived.Test.YtgkhelbpccehcaaGreatDoorCards
import Derived.Test.YtgkhelbpccehcaaGreatDoorTie
import Derived.Lay
import Derived.LaidOnce
import Derived.MakeChecks
import Derived.SevenTiedAt
import Derived.WalkKit
import Derived.ProofKit
import Derived.OpenShut
import Derived.ShutString
import Derived.ChangeOld
import Derived.Below
import Derived.SizedLaws
import Derived.Test.YtgkhelbpccehcaaGreatDoorMQI
import Derived.Test.YtgkhelbpccehcaaGreatDoorMQG
import Derived.Carry
import Derived.Deep.CutBlock
namespace Go.Proofs.YtgkhelbpccehcaaGreatDoor.parseLong
open Go.ChangeShapes Go.WideShapes Go.ChangeAt Go.RowKit
open Go.ChangeMaps (open_string shut_string)
set_option linter.unusedVariables false
/-- The bytes so far: a literal that is full, or a row of the call's own. -/
def LongB (w : World) (pre : List UInt8) (k : Nat) (v : Value) (wr : World) : Prop :=
  (∃ b, k = 0 ∧ v = .slice (some ⟨b, 0, none⟩) pre.length pre.length ∧ BsAt wr v pre ∧ Mods [] w wr ∧ w.heap.size ≤ b) ∨ GB w (pre ++ bs98 k) v wr
theorem LongB.at {w wr : World} {pre : List UInt8} {k : Nat} {v : Value} (h : LongB w pre k v wr) : BsAt wr v (pre ++ bs98 k) ∧ Mods [] w wr ∧ ∀ q ∈ v.ownBlock.toList, w.heap.size ≤ q := by
  rcases h with ⟨b, rfl, rfl, h1, h2, h3⟩ | h
  · exact ⟨by rw [show bs98 0 = [] from rfl, List.append_nil]; exact h1, h2, fun q hq => by have : q = b := by simpa [Value.ownBlock, eq_comm] using hq
                                                                                            omega⟩
  · exact ⟨h.at, h.mods, h.news⟩
theorem LongB.app {w wr : World} {pre : List UInt8} {k : Nat} {v : Value} (h : LongB w pre k v wr) (hp : 0 < pre.length) (hk : pre.length + k ≤ 1000) :
    ∃ b' c' w', (Builtin.append_ #[22, 22] 22 #[v, .slice (some ⟨wr.heap.size, 0, none⟩) 1 1]).run Tryz.prog (wr.alloc (.cells #[.int .u8 98] 5)) = .ok (.slice (some ⟨b', 0, none⟩) (pre.length + (k + 1)) c') w' ∧ LongB w pre (k + 1) (.slice (some ⟨b', 0, none⟩) (pre.length + (k + 1)) c') w' := by
  have ma : Mods [] wr (wr.alloc (.cells #[.int .u8 98] 5)) := (Mods.refl [] wr).alloc _
  have hx : BsAt (wr.alloc (.cells #[.int .u8 98] 5)) (.slice (some ⟨wr.heap.size, 0, none⟩) 1 1) [98] := BsAt.new wr [98] (by decide) (by decide)
  have e98 : bs98 (k + 1) = bs98 k ++ [98] := by unfold bs98; rw [List.replicate_succ']
  rcases h with ⟨b, rfl, rfl, h1, h2, h3⟩ | h
  · obtain ⟨b', c', w', hr, hg⟩ := app_full (h1.low ma) hx hp (by decide) (by simp; omega)
    exact ⟨b', c', w', hr, .inr (by rw [e98]; exact hg.since (h2.trans ma (fun _ h => nomatch h)))⟩
  · obtain ⟨a, n, c, w', hr, hg⟩ := app_bs (h.on ma) hx (by rw [List.length_append, bs98_len]; simp; omega)
    rw [List.append_assoc, ← e98] at hg
    have hz : n = pre.length + (k + 1) := by
      obtain ⟨ax, cx, hv⟩ := hg.form
      rw [show (pre ++ bs98 (k + 1)).length = pre.length + (k + 1) by rw [List.length_append, bs98_len]] at hv
      injection hv with _ e _
    subst hz
    have hpos : 0 < pre.length + (k + 1) := by omega
    have hg2 := hg
    unfold GB at hg2
    rw [show (pre ++ bs98 (k + 1)).length = pre.length + (k + 1) by rw [List.length_append, bs98_len]] at hg2
    rcases hg2.row.2 with ⟨e, _⟩ | ⟨g2, cap, cur, e, _⟩
    · injection e with _ e2 _; omega
    · injection e with e1 _ _
      subst e1
      exact ⟨g2, c, w', hr, .inr hg⟩
/-- What the law asks of the end. -/
structure LongR (n f : Nat) (st : Int) (l : List UInt8) : Prop where
  low : ¬ 256 < l.length - f → ∃ r, feedR newR (l ++ [13]) = (r, l.length + 1) ∧ r.phase = 1 ∧ r.status = 0
  high : 256 < l.length - f → ∃ r, feedR newR (l ++ [13]) = (r, f + 257) ∧ r.phase = 4 ∧ r.status = st
set_option maxRecDepth 100000 in
theorem long_get (n : Nat) : LongR n 0 414 (getS ++ bs98 n) := by
  have hz : (getS ++ bs98 n).length = 5 + n := by rw [List.length_append, bs98_len]; rfl
  refine ⟨fun h => ?_, fun h => ?_⟩
  · obtain ⟨r, h1, h2⟩ := getS_short (n := n) (by omega)
    exact ⟨r, by rw [h1, hz], h2⟩
  · obtain ⟨r, h1, h2⟩ := getS_long (n := n) (by omega)
    exact ⟨r, h1, h2⟩
def preG : List UInt8 := [71, 69, 84, 32, 47, 32, 72, 84, 84, 80, 47, 49, 46, 49, 13, 10, 72, 111, 115, 116, 58, 32, 97, 13, 10, 97, 58]
set_option maxRecDepth 100000 in
theorem long_fld (n : Nat) : LongR n 25 431 (preG ++ bs98 n) := by
  have hz : (preG ++ bs98 n).length = 27 + n := by rw [List.length_append, bs98_len]; rfl
  have he : preG ++ bs98 n ++ [13] = preF ++ ([97, 58] ++ bs98 n) ++ [13] := rfl
  refine ⟨fun h => ?_, fun h => ?_⟩
  · obtain ⟨r, h1, h2⟩ := preF_short (n := n) (by omega)
    exact ⟨r, by rw [he, h1, hz]; congr 1; omega, h2⟩
  · obtain ⟨r, h1, h2⟩ := preF_long (n := n) (by omega)
    exact ⟨r, by rw [he, h1], h2⟩
set_option maxRecDepth 100000 in
set_option maxHeartbeats 8000000 in
theorem walk (w : World) (hL : laidMetH Tryz.prog Rows.parseLongRow.laid w) (n0 : Int) (hn0 : (Lit.int .i64 n0).wf = true) (f0 : Bool) :
    Calls Tryz.prog 5 #[.int .i64 n0, .bool f0] w fun e w' => e = .returned (.bool true) ∧ Below w.heap.size w w' := by
  clear hL hn0
  by_cases hneg : n0 < 0
  · go_enter Tryz.func5, Tryz.ntmps5
    go_wp2_with (go_at_call 18; refine (known_15 _).mono ?_; rintro z w12 ⟨rfl, hm⟩; have M12 := Lib.hid hm; clear hm)
    go_ret
    exact ⟨rfl, M12.out.below⟩
  by_cases hbig : 400 < n0
  · have g1 : decide (n0 < 0) = false := by simpa using hneg
    clear hneg
    go_enter Tryz.func5, Tryz.ntmps5
    go_wp2_with (go_at_call 18; refine (known_15 _).mono ?_; rintro z w12 ⟨rfl, hm⟩; have M12 := Lib.hid hm; clear hm)
    go_ret
    exact ⟨rfl, M12.out.below⟩
  obtain ⟨n, rfl⟩ : ∃ n : Nat, n0 = (n : Int) := ⟨n0.toNat, by omega⟩
  have hn : n ≤ 400 := by omega
  have g1 : decide ((n : Int) < 0) = false := by simp
  have g2 : ¬ (400 : Int) < (n : Int) := by omega
  have HN := Lib.hid (fun w => new_p w)
  unfold ptr at HN
  clear hneg hbig
  cases f0 with
  | false =>
    have hcv : (convert 22 22 (.slice (some ⟨w.heap.size, 0, none⟩) 5 5)).run Tryz.prog (w.alloc (.cells #[.int .u8 71, .int .u8 69, .int .u8 84, .int .u8 32, .int .u8 47] 5)) = .ok (.slice (some ⟨w.heap.size, 0, none⟩) 5 5) (w.alloc (.cells #[.int .u8 71, .int .u8 69, .int .u8 84, .int .u8 32, .int .u8 47] 5 (5, 6))) := conv_lit w #[.int .u8 71, .int .u8 69, .int .u8 84, .int .u8 32, .int .u8 47] 5 5 _ rfl
    have bhcv : BsAt (w.alloc (.cells #[.int .u8 71, .int .u8 69, .int .u8 84, .int .u8 32, .int .u8 47] 5 (5, 6))) (.slice (some ⟨w.heap.size, 0, none⟩) 5 5) getS := lit_at w getS (5, 6) (by decide) (by decide)
    have mhcv : Mods [] w (w.alloc (.cells #[.int .u8 71, .int .u8 69, .int .u8 84, .int .u8 32, .int .u8 47] 5 (5, 6))) := (Mods.refl [] w).alloc _
    obtain ⟨W1, hW1⟩ : ∃ W1, W1 = w.alloc (.cells #[.int .u8 71, .int .u8 69, .int .u8 84, .int .u8 32, .int .u8 47] 5 (5, 6)) := ⟨_, rfl⟩
    rw [← hW1] at hcv bhcv mhcv
    clear hW1
    go_enter Tryz.func5, Tryz.ntmps5
    have HLG := Lib.hid (long_get n)
    go_upto_region 11 with fail
    have hL0 : LongB w getS 0 (.slice (some ⟨w.heap.size, 0, none⟩) 5 5) W1 := .inl ⟨w.heap.size, rfl, rfl, bhcv, mhcv, Nat.le_refl _⟩
    have HL0 := Lib.hid hL0
    clear hcv bhcv mhcv hL0 g1 g2
    go_wp2
    go_loopw [5, 8] (fun v vi wr => ∃ (k : Nat) (A : Option Addr) (c : Nat), vi = .int .i64 k ∧ k ≤ n ∧ v = .slice A (5 + k) c ∧ Hid (LongB w getS k (.slice A (5 + k) c) wr)) (fun _ vi _ => n - (intOf vi).toNat)
    case atStart => exact ⟨0, _, _, rfl, by omega, rfl, HL0⟩
    case round =>
      obtain ⟨k, A, c, rfl, hk, rfl, HB⟩ := hrel
      clear HL0
      by_cases hlt : k < n
      · obtain ⟨b', c', w', hrun, hnext⟩ := HB.out.app (by decide) (by show 5 + k ≤ 1000; omega)
        change (Builtin.append_ #[22, 22] 22 #[.slice A (5 + k) c, .slice (some ⟨wr.heap.size, 0, none⟩) 1 1]).run Tryz.prog (wr.alloc (.cells #[.int .u8 98] 5)) = .ok (.slice (some ⟨b', 0, none⟩) (5 + (k + 1)) c') w' at hrun
        have HNX := Lib.hid hnext
        clear hnext
        go_wp2_with (at_builtin; refine wpList_run_app2 rfl (.tmp 32) (.tmp 33) 22 22 rfl rfl rfl hrun ?_)
        go_roundw
        case rel => exact ⟨k + 1, _, c', by go_num, by omega, rfl, HNX⟩
        case measure => simp [intOf]; omega
      · obtain rfl : k = n := by omega
        obtain ⟨hat, hmm, hown⟩ := HB.out.at
        have hzl : (getS ++ bs98 k).length = 5 + k := by rw [List.length_append, bs98_len]; rfl
        have HAT := Lib.hid hat
        have MM := Lib.hid hmm
        have HOW := Lib.hid hown
        have HZL := Lib.hid hzl
        clear hat hmm hown hzl HB
        go_upto_region 16 with (go_at_call 9; refine (HN.out _).mono ?_; rintro z w1 ⟨g, F, rfl, hk⟩; have HA := Lib.hid hk.out; clear hk)
        have m1 := (Mods.refl [] w1).alloc (.cells #[.int .u8 13] 5)
        have hps : PsAp ((w1.alloc (.cells #[.int .u8 13] 5)).alloc (.cells #[.slice A (5 + k) c, .slice (some ⟨w1.heap.size, 0, none⟩) 1 1] 22)) (.slice (some ⟨w1.heap.size + 1, 0, none⟩) 2 2) [getS ++ bs98 k, [13]] F := by
          have h1 := psap_two (W := w1.alloc (.cells #[.int .u8 13] 5)) (A := getS ++ bs98 k) (B := [13]) (F := F) (a1 := A) (c1 := c) (a2 := some ⟨w1.heap.size, 0, none⟩) (c2 := 1) (by rw [HZL.out]; exact (HAT.out.low HA.out.2.1).low m1) (BsAt.new w1 [13] (by decide) (by decide)) (fun q hq => by have h1 := HA.out.1.lt q hq; have h2 := m1.size; omega)
            (fun h0 q hq hF => by have h1 := HA.out.2.2 q hF; have h2 := HAT.out.lt h0 q (by rw [HZL.out] at hq; exact hq); omega) (fun _ => own_apart HA.out.1.lt (Nat.le_refl _))
          rw [HZL.out, World.size_alloc] at h1
          exact h1
        have m2 := m1.alloc (.cells #[.slice A (5 + k) c, .slice (some ⟨w1.heap.size, 0, none⟩) 1 1] 22)
        have hfd := feedr_p _ [getS ++ bs98 k, [13]] hps (HA.out.1.low m2) (by simp only [List.flatten_cons, List.flatten_nil, List.length_append, bs98_len]; simp [getS]; omega) (by simp)
        rw [show [getS ++ bs98 k, [13]].flatten = getS ++ bs98 k ++ [13] by simp] at hfd
        have M2 := Lib.hid ((MM.out.trans HA.out.2.1 (fun _ h => nomatch h)).trans m2 (fun _ h => nomatch h))
        have S2 := Lib.hid (show ∀ q ∈ F, w.heap.size ≤ q from fun q hq => Nat.le_trans MM.out.size (HA.out.2.2 q hq))
        obtain ⟨R, nn, hr⟩ : ∃ R nn, feedR newR (getS ++ bs98 k ++ [13]) = (R, nn) := ⟨_, _, rfl⟩
        rw [hr] at hfd
        simp only at hfd
        unfold ptr at hfd
        have HFD := Lib.hid hfd
        have HR := Lib.hid hr
        clear hfd hr hps m1 m2
        by_cases hover : 256 < 5 + k - 0
        · obtain ⟨r, e1, e2, e3⟩ := HLG.out.high (by rw [HZL.out]; exact hover)
          obtain ⟨rfl, rfl⟩ : R = r ∧ nn = 0 + 257 := by have := HR.out.symm.trans e1; injection this with h1 h2; exact ⟨h1, h2⟩
          have HE := Lib.hid (And.intro e2 e3)
          have o1 : (256 : Int) < ((5 + k : Nat) : Int) - 0 := by omega
          simp only [Int.natCast_add] at o1
          clear e1 e2 e3 hover
          go_upto_region 17 with (go_at_call 11; refine HFD.out.mono ?_; rintro z w3 ⟨rfl, hk⟩; have HQ := Lib.hid hk.out; clear hk)
          obtain ⟨F3, a3, hg3⟩ := HQ.out
          have M3 := Lib.hid (show Mods [] w w3 from M2.out.trans hg3.mods (fun q hq => .inr (S2.out q hq)))
          have hph := phase_p a3
          have hst := status_p a3
          rw [HE.out.1] at hph
          rw [HE.out.2] at hst
          unfold ptr at hph hst
          have HPH := Lib.hid hph
          have HST := Lib.hid hst
          clear hph hst a3 hg3
          go_wp2_with (first
            | (go_at_call 19; refine HPH.out.mono ?_; rintro z q1 ⟨rfl, rfl⟩)
            | (go_at_call 20; refine HST.out.mono ?_; rintro z q2 ⟨rfl, rfl⟩)
            | (go_at_call 18; refine (known_15 _).mono ?_; rintro z w12 ⟨rfl, hm⟩; have M12 := Lib.hid (M3.out.trans hm (fun _ h => nomatch h)); clear hm))
          go_ret
          exact ⟨rfl, M12.out.below⟩
        · obtain ⟨r, e1, e2, e3⟩ := HLG.out.low (by rw [HZL.out]; exact hover)
          obtain ⟨rfl, rfl⟩ : R = r ∧ nn = 5 + k + 1 := by have := HR.out.symm.trans e1; injection this with h1 h2; exact ⟨h1, by rw [h2, HZL.out]⟩
          have HE := Lib.hid (And.intro e2 e3)
          have o1 : ¬ (256 : Int) < ((5 + k : Nat) : Int) - 0 := by omega
          simp only [Int.natCast_add] at o1
          clear e1 e2 e3 hover
          go_upto_region 17 with (go_at_call 11; refine HFD.out.mono ?_; rintro z w3 ⟨rfl, hk⟩; have HQ := Lib.hid hk.out; clear hk)
          obtain ⟨F3, a3, hg3⟩ := HQ.out
          have M3 := Lib.hid (show Mods [] w w3 from M2.out.trans hg3.mods (fun q hq => .inr (S2.out q hq)))
          have hph := phase_p a3
          have hst := status_p a3
          rw [HE.out.1] at hph
          rw [HE.out.2] at hst
          unfold ptr at hph hst
          have HPH := Lib.hid hph
          have HST := Lib.hid hst
          clear hph hst a3 hg3
          go_wp2_with (first
            | (go_at_call 19; refine HPH.out.mono ?_; rintro z q1 ⟨rfl, rfl⟩)
            | (go_at_call 20; refine HST.out.mono ?_; rintro z q2 ⟨rfl, rfl⟩)
            | (go_at_call 18; refine (known_15 _).mono ?_; rintro z w12 ⟨rfl, hm⟩; have M12 := Lib.hid (M3.out.trans hm (fun _ h => nomatch h)); clear hm))
          go_ret
          exact ⟨rfl, M12.out.below⟩
  | true =>
    have hcv : (convert 22 22 (.slice (some ⟨w.heap.size, 0, none⟩) 5 5)).run Tryz.prog (w.alloc (.cells #[.int .u8 71, .int .u8 69, .int .u8 84, .int .u8 32, .int .u8 47] 5)) = .ok (.slice (some ⟨w.heap.size, 0, none⟩) 5 5) (w.alloc (.cells #[.int .u8 71, .int .u8 69, .int .u8 84, .int .u8 32, .int .u8 47] 5 (5, 6))) := conv_lit w #[.int .u8 71, .int .u8 69, .int .u8 84, .int .u8 32, .int .u8 47] 5 5 _ rfl
    have bhcv : BsAt (w.alloc (.cells #[.int .u8 71, .int .u8 69, .int .u8 84, .int .u8 32, .int .u8 47] 5 (5, 6))) (.slice (some ⟨w.heap.size, 0, none⟩) 5 5) getS := lit_at w getS (5, 6) (by decide) (by decide)
    have mhcv : Mods [] w (w.alloc (.cells #[.int .u8 71, .int .u8 69, .int .u8 84, .int .u8 32, .int .u8 47] 5 (5, 6))) := (Mods.refl [] w).alloc _
    obtain ⟨W0, hW0⟩ : ∃ W0, W0 = w.alloc (.cells #[.int .u8 71, .int .u8 69, .int .u8 84, .int .u8 32, .int .u8 47] 5 (5, 6)) := ⟨_, rfl⟩
    rw [← hW0] at hcv bhcv mhcv
    clear hW0
    have hcw : (convert 22 22 (.slice (some ⟨W0.heap.size, 0, none⟩) 27 27)).run Tryz.prog (W0.alloc (.cells #[.int .u8 71, .int .u8 69, .int .u8 84, .int .u8 32, .int .u8 47, .int .u8 32, .int .u8 72, .int .u8 84, .int .u8 84, .int .u8 80, .int .u8 47, .int .u8 49, .int .u8 46, .int .u8 49, .int .u8 13, .int .u8 10, .int .u8 72, .int .u8 111, .int .u8 115, .int .u8 116, .int .u8 58, .int .u8 32, .int .u8 97, .int .u8 13, .int .u8 10, .int .u8 97, .int .u8 58] 5)) = .ok (.slice (some ⟨W0.heap.size, 0, none⟩) 27 27) (W0.alloc (.cells #[.int .u8 71, .int .u8 69, .int .u8 84, .int .u8 32, .int .u8 47, .int .u8 32, .int .u8 72, .int .u8 84, .int .u8 84, .int .u8 80, .int .u8 47, .int .u8 49, .int .u8 46, .int .u8 49, .int .u8 13, .int .u8 10, .int .u8 72, .int .u8 111, .int .u8 115, .int .u8 116, .int .u8 58, .int .u8 32, .int .u8 97, .int .u8 13, .int .u8 10, .int .u8 97, .int .u8 58] 5 (27, 28))) := conv_lit W0 #[.int .u8 71, .int .u8 69, .int .u8 84, .int .u8 32, .int .u8 47, .int .u8 32, .int .u8 72, .int .u8 84, .int .u8 84, .int .u8 80, .int .u8 47, .int .u8 49, .int .u8 46, .int .u8 49, .int .u8 13, .int .u8 10, .int .u8 72, .int .u8 111, .int .u8 115, .int .u8 116, .int .u8 58, .int .u8 32, .int .u8 97, .int .u8 13, .int .u8 10, .int .u8 97, .int .u8 58] 27 27 _ rfl
    have bhcw : BsAt (W0.alloc (.cells #[.int .u8 71, .int .u8 69, .int .u8 84, .int .u8 32, .int .u8 47, .int .u8 32, .int .u8 72, .int .u8 84, .int .u8 84, .int .u8 80, .int .u8 47, .int .u8 49, .int .u8 46, .int .u8 49, .int .u8 13, .int .u8 10, .int .u8 72, .int .u8 111, .int .u8 115, .int .u8 116, .int .u8 58, .int .u8 32, .int .u8 97, .int .u8 13, .int .u8 10, .int .u8 97, .int .u8 58] 5 (27, 28))) (.slice (some ⟨W0.heap.size, 0, none⟩) 27 27) preG := lit_at W0 preG (27, 28) (by decide) (by decide)
    have mhcw : Mods [] W0 (W0.alloc (.cells #[.int .u8 71, .int .u8 69, .int .u8 84, .int .u8 32, .int .u8 47, .int .u8 32, .int .u8 72, .int .u8 84, .int .u8 84, .int .u8 80, .int .u8 47, .int .u8 49, .int .u8 46, .int .u8 49, .int .u8 13, .int .u8 10, .int .u8 72, .int .u8 111, .int .u8 115, .int .u8 116, .int .u8 58, .int .u8 32, .int .u8 97, .int .u8 13, .int .u8 10, .int .u8 97, .int .u8 58] 5 (27, 28))) := (Mods.refl [] W0).alloc _
    obtain ⟨W1, hW1⟩ : ∃ W1, W1 = W0.alloc (.cells #[.int .u8 71, .int .u8 69, .int .u8 84, .int .u8 32, .int .u8 47, .int .u8 32, .int .u8 72, .int .u8 84, .int .u8 84, .int .u8 80, .int .u8 47, .int .u8 49, .int .u8 46, .int .u8 49, .int .u8 13, .int .u8 10, .int .u8 72, .int .u8 111, .int .u8 115, .int .u8 116, .int .u8 58, .int .u8 32, .int .u8 97, .int .u8 13, .int .u8 10, .int .u8 97, .int .u8 58] 5 (27, 28)) := ⟨_, rfl⟩
    rw [← hW1] at hcw bhcw mhcw
    clear hW1
    go_enter Tryz.func5, Tryz.ntmps5
    have HLG := Lib.hid (long_fld n)
    go_upto_region 11 with fail
    have hL0 : LongB w preG 0 (.slice (some ⟨W0.heap.size, 0, none⟩) 27 27) W1 := .inl ⟨W0.heap.size, rfl, rfl, bhcw, (mhcv.trans mhcw (fun _ h => nomatch h)), mhcv.size⟩
    have HL0 := Lib.hid hL0
    clear hcv bhcv mhcv hcw bhcw mhcw hL0 g1 g2
    go_wp2
    go_loopw [5, 8] (fun v vi wr => ∃ (k : Nat) (A : Option Addr) (c : Nat), vi = .int .i64 k ∧ k ≤ n ∧ v = .slice A (27 + k) c ∧ Hid (LongB w preG k (.slice A (27 + k) c) wr)) (fun _ vi _ => n - (intOf vi).toNat)
    case atStart => exact ⟨0, _, _, rfl, by omega, rfl, HL0⟩
    case round =>
      obtain ⟨k, A, c, rfl, hk, rfl, HB⟩ := hrel
      clear HL0
      by_cases hlt : k < n
      · obtain ⟨b', c', w', hrun, hnext⟩ := HB.out.app (by decide) (by show 27 + k ≤ 1000; omega)
        change (Builtin.append_ #[22, 22] 22 #[.slice A (27 + k) c, .slice (some ⟨wr.heap.size, 0, none⟩) 1 1]).run Tryz.prog (wr.alloc (.cells #[.int .u8 98] 5)) = .ok (.slice (some ⟨b', 0, none⟩) (27 + (k + 1)) c') w' at hrun
        have HNX := Lib.hid hnext
        clear hnext
        go_wp2_with (at_builtin; refine wpList_run_app2 rfl (.tmp 32) (.tmp 33) 22 22 rfl rfl rfl hrun ?_)
        go_roundw
        case rel => exact ⟨k + 1, _, c', by go_num, by omega, rfl, HNX⟩
        case measure => simp [intOf]; omega
      · obtain rfl : k = n := by omega
        obtain ⟨hat, hmm, hown⟩ := HB.out.at
        have hzl : (preG ++ bs98 k).length = 27 + k := by rw [List.length_append, bs98_len]; rfl
        have HAT := Lib.hid hat
        have MM := Lib.hid hmm
        have HOW := Lib.hid hown
        have HZL := Lib.hid hzl
        clear hat hmm hown hzl HB
        go_upto_region 16 with (go_at_call 9; refine (HN.out _).mono ?_; rintro z w1 ⟨g, F, rfl, hk⟩; have HA := Lib.hid hk.out; clear hk)
        have m1 := (Mods.refl [] w1).alloc (.cells #[.int .u8 13] 5)
        have hps : PsAp ((w1.alloc (.cells #[.int .u8 13] 5)).alloc (.cells #[.slice A (27 + k) c, .slice (some ⟨w1.heap.size, 0, none⟩) 1 1] 22)) (.slice (some ⟨w1.heap.size + 1, 0, none⟩) 2 2) [preG ++ bs98 k, [13]] F := by
          have h1 := psap_two (W := w1.alloc (.cells #[.int .u8 13] 5)) (A := preG ++ bs98 k) (B := [13]) (F := F) (a1 := A) (c1 := c) (a2 := some ⟨w1.heap.size, 0, none⟩) (c2 := 1) (by rw [HZL.out]; exact (HAT.out.low HA.out.2.1).low m1) (BsAt.new w1 [13] (by decide) (by decide)) (fun q hq => by have h1 := HA.out.1.lt q hq; have h2 := m1.size; omega)
            (fun h0 q hq hF => by have h1 := HA.out.2.2 q hF; have h2 := HAT.out.lt h0 q (by rw [HZL.out] at hq; exact hq); omega) (fun _ => own_apart HA.out.1.lt (Nat.le_refl _))
          rw [HZL.out, World.size_alloc] at h1
          exact h1
        have m2 := m1.alloc (.cells #[.slice A (27 + k) c, .slice (some ⟨w1.heap.size, 0, none⟩) 1 1] 22)
        have hfd := feedr_p _ [preG ++ bs98 k, [13]] hps (HA.out.1.low m2) (by simp only [List.flatten_cons, List.flatten_nil, List.length_append, bs98_len]; simp [preG]; omega) (by simp)
        rw [show [preG ++ bs98 k, [13]].flatten = preG ++ bs98 k ++ [13] by simp] at hfd
        have M2 := Lib.hid ((MM.out.trans HA.out.2.1 (fun _ h => nomatch h)).trans m2 (fun _ h => nomatch h))
        have S2 := Lib.hid (show ∀ q ∈ F, w.heap.size ≤ q from fun q hq => Nat.le_trans MM.out.size (HA.out.2.2 q hq))
        obtain ⟨R, nn, hr⟩ : ∃ R nn, feedR newR (preG ++ bs98 k ++ [13]) = (R, nn) := ⟨_, _, rfl⟩
        rw [hr] at hfd
        simp only at hfd
        unfold ptr at hfd
        have HFD := Lib.hid hfd
        have HR := Lib.hid hr
        clear hfd hr hps m1 m2
        by_cases hover : 256 < 27 + k - 25
        · obtain ⟨r, e1, e2, e3⟩ := HLG.out.high (by rw [HZL.out]; exact hover)
          obtain ⟨rfl, rfl⟩ : R = r ∧ nn = 25 + 257 := by have := HR.out.symm.trans e1; injection this with h1 h2; exact ⟨h1, h2⟩
          have HE := Lib.hid (And.intro e2 e3)
          have o1 : (256 : Int) < ((27 + k : Nat) : Int) - 25 := by omega
          simp only [Int.natCast_add] at o1
          clear e1 e2 e3 hover
          go_upto_region 17 with (go_at_call 11; refine HFD.out.mono ?_; rintro z w3 ⟨rfl, hk⟩; have HQ := Lib.hid hk.out; clear hk)
          obtain ⟨F3, a3, hg3⟩ := HQ.out
          have M3 := Lib.hid (show Mods [] w w3 from M2.out.trans hg3.mods (fun q hq => .inr (S2.out q hq)))
          have hph := phase_p a3
          have hst := status_p a3
          rw [HE.out.1] at hph
          rw [HE.out.2] at hst
          unfold ptr at hph hst
          have HPH := Lib.hid hph
          have HST := Lib.hid hst
          clear hph hst a3 hg3
          go_wp2_with (first
            | (go_at_call 19; refine HPH.out.mono ?_; rintro z q1 ⟨rfl, rfl⟩)
            | (go_at_call 20; refine HST.out.mono ?_; rintro z q2 ⟨rfl, rfl⟩)
            | (go_at_call 18; refine (known_15 _).mono ?_; rintro z w12 ⟨rfl, hm⟩; have M12 := Lib.hid (M3.out.trans hm (fun _ h => nomatch h)); clear hm))
          go_ret
          exact ⟨rfl, M12.out.below⟩
        · obtain ⟨r, e1, e2, e3⟩ := HLG.out.low (by rw [HZL.out]; exact hover)
          obtain ⟨rfl, rfl⟩ : R = r ∧ nn = 27 + k + 1 := by have := HR.out.symm.trans e1; injection this with h1 h2; exact ⟨h1, by rw [h2, HZL.out]⟩
          have HE := Lib.hid (And.intro e2 e3)
          have o1 : ¬ (256 : Int) < ((27 + k : Nat) : Int) - 25 := by omega
          simp only [Int.natCast_add] at o1
          clear e1 e2 e3 hover
          go_upto_region 17 with (go_at_call 11; refine HFD.out.mono ?_; rintro z w3 ⟨rfl, hk⟩; have HQ := Lib.hid hk.out; clear hk)
          obtain ⟨F3, a3, hg3⟩ := HQ.out
          have M3 := Lib.hid (show Mods [] w w3 from M2.out.trans hg3.mods (fun q hq => .inr (S2.out q hq)))
          have hph := phase_p a3
          have hst := status_p a3
          rw [HE.out.1] at hph
          rw [HE.out.2] at hst
          unfold ptr at hph hst
          have HPH := Lib.hid hph
          have HST := Lib.hid hst
          clear hph hst a3 hg3
          go_wp2_with (first
            | (go_at_call 19; refine HPH.out.mono ?_; rintro z q1 ⟨rfl, rfl⟩)
            | (go_at_call 20; refine HST.out.mono ?_; rintro z q2 ⟨rfl, rfl⟩)
            | (go_at_call 18; refine (known_15 _).mono ?_; rintro z w12 ⟨rfl, hm⟩; have M12 := Lib.hid (M3.out.trans hm (fun _ h => nomatch h)); clear hm))
          go_ret
          exact ⟨rfl, M12.out.below⟩

theorem own : ownKnob Tryz.prog.godebug = none := by kernel_rfl
theorem laidOut : laidOutB Tryz.prog = true := by kernel_rfl
set_option maxRecDepth 100000 in
theorem lifted (os : Os) (started : os.Started) (H : Type) (enc : TypeId × Value → H) :
    ReturnsInHanded {} Tryz.checked os 5 .any (fun w args => (Rows.parseLongSpec.pre enc Tryz.prog Tryz.f5 [] false w args ∧ laidMetH Tryz.prog Rows.parseLongRow.laid w) ∧ sizedMet enc Tryz.prog Tryz.f5 (OpenSpec.ofChange Rows.parseLongSpec) false w args)
      (Rows.parseLongSpec.post enc Tryz.prog Tryz.f5 false true false false) := by
  refine returnsInHanded_of_change_and (C := Tryz.checked) (X := fun w _ => laidMetH Tryz.prog Rows.parseLongRow.laid w) (fun _ _ _ hh h => h.of_heap hh) own started (by kernel_rfl) Tryz.func5
    (ChangeSpec.witness_shaped (enc := enc) (C := Tryz.checked) (os := os) (X := fun w _ => laidMetH Tryz.prog Rows.parseLongRow.laid w) false (World.laidAll Tryz.prog os Rows.parseLongRow.laid) #[.int .i64 0, .bool false] 8 (World.laidAll_os _ _ _)
      (World.shaped_of_ZipB (by kernel_rfl) (by kernel_rfl)) (by kernel_rfl) (by kernel_rfl) (by kernel_rfl)
      (by rw [MakeChecks.laidMetH_plain _ _ _ (by kernel_rfl)]; exact laidMet_laidAll _ (by kernel_rfl) (by kernel_rfl))) ?_
  intro W base args ds gs before hval0 hW hcnd hsz0 hL _
  have hsz : (DataW.weightsEach Tryz.prog (Tryz.f5.params.toList ++ Rows.parseLongSpec.plain.varTypes Tryz.prog) (ds ++ gs)).all (· ≤ reachBytes) = true := hsz0
  have hval : ∀ (j : Nat) t v, Tryz.f5.params[j]? = some t → args[j]? = some v → Value.okWide Tryz.prog W .any base t v := hval0
  have hW' := hW
  obtain ⟨p, q, hA0, hV, rfl, hfz, hnd⟩ := hW
  have hA : DataW.TrodAll enc Tryz.prog W 0 (fun _ => true) true Tryz.f5.params.toList args.toList ds p := hA0
  rw [Tryz.params5] at hA hval hsz
  obtain ⟨v0, vs0, d0, ds0, p0, q0, hargs, rfl, rfl, h0, r0⟩ := trodAll_cons hA
  obtain ⟨v1, vs1, d1, ds1, p1, q1, rfl, rfl, rfl, h1, r1⟩ := trodAll_cons r0
  obtain ⟨rfl, rfl, rfl⟩ := trodAll_nil r1
  obtain rfl : args = #[v0, v1] := by cases args; simp_all
  obtain ⟨rfl, rfl⟩ := trodVars_none hV
  obtain ⟨a0, rfl, rfl, rfl, w0⟩ := open_int Tryz.underlying3 (hval 0 3 v0 rfl rfl) h0
  obtain ⟨a1, rfl, rfl, rfl⟩ := open_bool Tryz.underlying4 (hval 1 4 v1 rfl rfl) h1
  clear hA0 hval0 hsz0 hsz
  refine (walk W hL a0 w0 a1).mono fun e W' ⟨he, bel⟩ => ?_
  subst he
  exact ⟨_, rfl, _, _, _, [], _, [], hW', trodAll_mk1 (shut_bool Tryz.underlying4 _), (trodAll_cons_mk (shut_int Tryz.underlying3 w0) (trodAll_cons_mk (shut_bool Tryz.underlying4 a1) trodAll_mk0)), rfl, bel.frame _, fun h => by cases h⟩

theorem over : Rows.parseLongRow.holds Tryz.pinned (OpenSpec.ofChange Rows.parseLongSpec) :=
  OpenClaim.holds_of_wide 5 Tryz.f5 rfl rfl rfl rfl rfl rfl rfl ⟨rfl, rfl, rfl, rfl, rfl⟩ rfl rfl rfl rfl rfl (by kernel_rfl) Tryz.func5 (by kernel_rfl)
    (of_decide_eq_true (by kernel_rfl)) (by unfold Func.isWrapper; first | (rw [if_pos (by decide +kernel)]; kernel_rfl) | (rw [if_neg (by decide +kernel)]; exact ⟨rfl, rfl⟩))
    (fun os started H enc _ => lifted os started H enc)

theorem said : Rows.ParseLongSaid := over
theorem plain (f : FuncId) (fn : Func) (hf : Tryz.pinned.checked.prog.funcNamed "usher/usherlaw15.ParseLong" = some f) (hfn : Tryz.pinned.checked.prog.funcs[f]? = some fn) :
    false = Tryz.pinned.checked.prog.looks [] ∧ ∀ (j : Nat) t, fn.params[j]? = some t → Tryz.pinned.checked.prog.wantsStandIn t = false := by
  obtain rfl : f = 5 := Option.some.inj ((show Tryz.prog.funcNamed "usher/usherlaw15.ParseLong" = some 5 by kernel_rfl).symm.trans hf) |>.symm
  obtain rfl : fn = Tryz.f5 := (Option.some.inj (Tryz.func5.symm.trans hfn)).symm
  refine ⟨by kernel_rfl, fun j t ht => ?_⟩
  rw [Tryz.params5] at ht
  have hm : t ∈ [3, 4] := by simpa using Array.mem_of_getElem? ht
  simp only [List.mem_cons, List.mem_nil_iff, or_false] at hm
  rcases hm with rfl | rfl
  · exact (show Tryz.prog.wantsStandIn 3 = false by kernel_rfl)
  · exact (show Tryz.prog.wantsStandIn 4 = false by kernel_rfl)
theorem proved : Rows.ParseLongCardSaid :=
  Claim7.holds_tied_plain_at .later [] _ _ _ _ said (fun _ h => by cases h) (by kernel_rfl) (fun _ h => by cases h) parseLong_row_tie rfl ⟨rfl, rfl⟩ (by kernel_rfl) rfl plain (by kernel_rfl)
end Go.Proofs.YtgkhelbpccehcaaGreatDoor.parseLong
