/- For every row of bytes and every list of cuts, what comes in the end is the same: the law returns true. Condition: the library's tables are laid as its initialisers lay them. -/
import Derived.Test.YtdalomhcglbhjaaDoorCards
import Derived.Test.YtdalomhcglbhjaaDoorTie
import Derived.Lay
import Derived.LaidOnce
import Derived.MakeChecks
import Derived.SevenTiedAt
import Derived.WalkKit
import Derived.ProofKit
import Derived.OpenShut
import Derived.ShutString
import Derived.ChangeOld
import Derived.Below
import Derived.SizedLaws
import Derived.Test.YtdalomhcglbhjaaDoorMQD
import Derived.Test.YtdalomhcglbhjaaDoorMQC
import Derived.Test.YtdalomhcglbhjaaDoorOpenN
import Derived.Carry
import Derived.Deep.CutBlock
namespace Go.Proofs.YtdalomhcglbhjaaDoor.chunkCuts
open Go.ChangeShapes Go.WideShapes Go.ChangeAt Go.RowKit
open Go.ChangeMaps (open_string shut_string)
set_option linter.unusedVariables false
theorem feed_first {r' : ChP} : ∀ (l : List UInt8) {m : Nat} {r : ChP}, feedP r l = (r', m) → feedP r (l.take m) = (r', m)
  | [], m, r, h => by rw [List.take_nil]; exact h
  | c :: l, m, r, h => by
    cases hd : doneC r with
    | true => rw [feed_done hd] at h; injection h with h1 h2; subst h1 h2; rw [List.take_zero]; rfl
    | false =>
      rw [feed_cons hd] at h
      injection h with h1 h2
      obtain ⟨j, rfl⟩ : ∃ j, m = j + 1 := ⟨(feedP (oneP r c) l).2, h2.symm⟩
      have ih := feed_first l (m := j) (r := oneP r c) (Prod.ext h1 (Nat.succ.inj h2))
      rw [List.take_succ_cons, feed_cons hd, ih]
theorem Fed.portion {r r2 r3 : ChP} {l : List UInt8} {a K m : Nat} (h : Fed r l a r2) (h3 : feedP r2 ((l.drop a).take K) = (r3, m)) (hK : m ≤ K) : Fed r l (a + m) r3 := by
  unfold Fed at *
  have e := feed_first _ h3
  rw [List.take_take, Nat.min_eq_left hK] at e
  rw [List.take_add, feed_app, h]
  show ((feedP r2 ((l.drop a).take m)).1, a + (feedP r2 ((l.drop a).take m)).2) = _
  rw [e]
theorem and31 (a : Int) : ∃ k : Nat, bits BinOp.and IntKind.i64 a 31 = (k : Int) ∧ k ≤ 31 := by
  have e : bits BinOp.and IntKind.i64 a 31 = IntKind.i64.wrap ((BitVec.ofInt 64 a &&& BitVec.ofInt 64 31).toNat : Int) := rfl
  have h : (BitVec.ofInt 64 a &&& BitVec.ofInt 64 31).toNat ≤ 31 := by
    rw [BitVec.toNat_and]
    refine Nat.le_trans Nat.and_le_right ?_
    rw [BitVec.toNat_ofInt]
    omega
  refine ⟨(BitVec.ofInt 64 a &&& BitVec.ofInt 64 31).toNat, ?_, h⟩
  rw [e, IntKind.wrap_i64]
  omega
/-- Numbers that came in, by list. -/
theorem ints14 {W : World} {v : Value} (h : IsInts W v) : ∃ (A : Option Addr) (C : Nat) (xs : List Int), v = .slice A xs.length C ∧ ∀ j (h : j < xs.length), ∃ b o, A = some ⟨b, o, none⟩ ∧ b < W.heap.size ∧ W.cell? ⟨b, o + j, none⟩ = some (.int .i64 xs[j]) := by
  rcases h with ⟨a, cap, rfl⟩ | ⟨b, off, len, cap, f, rfl, h0, h1, h2, hb, hc⟩
  · exact ⟨a, cap, [], rfl, fun j hj => nomatch hj⟩
  · refine ⟨some ⟨b, off, none⟩, cap, (List.range len).map f, by rw [List.length_map, List.length_range], fun j hj => ⟨b, off, rfl, hb, ?_⟩⟩
    rw [List.length_map, List.length_range] at hj
    rw [(hc j hj).1]; simp
set_option maxRecDepth 100000 in
set_option maxHeartbeats 8000000 in
theorem walk (w : World) (hL : laidMetH Tryd.prog Rows.chunkCutsRow.laid w) (v : Value) (l : List UInt8) (hb : BsAt w v l) (v2 : Value) (hi : IsInts w v2) :
    Calls Tryd.prog 3 #[v, v2] w fun e w' => e = .returned (.bool true) ∧ Below w.heap.size w w' := by
  rw [MakeChecks.laidMetH_plain _ _ _ (by kernel_rfl)] at hL
  have HT := Lib.hid (tz_of14 hL rfl)
  have HB := Lib.hid hb
  obtain ⟨A, c, rfl⟩ := hb.len
  obtain ⟨A2, c2, xs, rfl, hxs⟩ := ints14 hi
  have HXS := Lib.hid hxs
  clear hL hb hi hxs
  by_cases hl : 4000 < l.length
  · have g1 : (4000 : Int) < (l.length : Int) := by omega
    clear hl
    go_enter Tryd.func3, Tryd.ntmps3
    go_wp2
    go_ret
    exact ⟨rfl, Below.refl _ _⟩
  by_cases hl2 : 300 < xs.length
  · have g1 : ¬ (4000 : Int) < (l.length : Int) := by omega
    have g2 : (300 : Int) < (xs.length : Int) := by omega
    clear hl hl2
    go_enter Tryd.func3, Tryd.ntmps3
    go_wp2
    go_ret
    exact ⟨rfl, Below.refl _ _⟩
  have g1 : ¬ (4000 : Int) < (l.length : Int) := by omega
  have g2 : ¬ (300 : Int) < (xs.length : Int) := by omega
  have hlb : l.length ≤ 4000 := by omega
  have hxb : xs.length ≤ 300 := by omega
  obtain ⟨r1, n1, hr1⟩ : ∃ r1 n1, feedP newC l = (r1, n1) := ⟨_, _, rfl⟩
  have HR := Lib.hid hr1
  have HN := Lib.hid (fun w => new_c w)
  unfold ptr at HN
  have hcap : l.length ≤ c ∨ l.length = 0 := by
    rcases HB.out with ⟨e, _⟩ | ⟨_, _, _, hv, _, _, h1, _⟩
    · rw [e]; exact .inr rfl
    · injection hv with _ _ e; exact .inl (by omega)
  clear hl hl2 hr1
  go_enter Tryd.func3, Tryd.ntmps3
  go_upto_region 4 with (first
    | (go_at_call 7; have hx := HA1; clear hx; refine (HN.out _).mono ?_; rintro z w2 ⟨g2', F2, rfl, hk⟩; have HA2 := Lib.hid hk.out; clear hk)
    | (go_at_call 7; refine (HN.out _).mono ?_; rintro z w1 ⟨g1', F1, rfl, hk⟩; have HA1 := Lib.hid hk.out; clear hk))
  clear g1 g2 HN
  have HD0 := Lib.hid (show ∀ k ∈ F1, k ∉ F2 from fun k hk hk2 => by have h1 := HA1.out.1.lt k hk; have h2 := HA2.out.2.2 k hk2; omega)
  have HFN := Lib.hid (show ∀ F : List Nat, (∀ k ∈ F, w.heap.size ≤ k) → 0 < l.length → ∀ k ∈ (Value.slice A l.length c).ownBlock.toList, k ∉ F from fun F hF h0 k hk hk2 => by have h1 := hF k hk2; have h2 := HB.out.lt h0 k hk; omega)
  have HFD := Lib.hid (feed_c _ l (HB.out.low (HA1.out.2.1.trans HA2.out.2.1 (fun _ h => nomatch h))) (HFN.out F1 HA1.out.2.2) (HA1.out.1.low HA2.out.2.1) (by omega))
  rw [HR.out] at HFD
  simp only at HFD
  unfold ptr at HFD
  go_upto_region 5 with (go_at_call 8; refine HFD.out.mono ?_; rintro z w3 ⟨rfl, hk⟩; have HQ := Lib.hid hk.out; clear hk)
  obtain ⟨F3, a3, hg3⟩ := HQ.out
  have M3 := Lib.hid (show Mods [] w w3 from (HA1.out.2.1.trans HA2.out.2.1 (fun _ h => nomatch h)).trans hg3.mods (fun k hk => .inr (HA1.out.2.2 k hk)))
  have HX10 := Lib.hid a3
  have HX20 := Lib.hid (HA2.out.1.mods hg3.mods (fun k hk hk2 => HD0.out k hk2 hk))
  have HF3 := Lib.hid (show ∀ k ∈ F3, k ∉ F2 ∧ w.heap.size ≤ k from fun k hk => by
    rcases hg3.news k hk with h | h
    · exact ⟨HD0.out k h, HA1.out.2.2 k h⟩
    · exact ⟨fun h2 => by have := HA2.out.1.lt k h2; omega, by have := M3.out.size; have := HA1.out.2.1.size; have := HA2.out.2.1.size; omega⟩)
  have HF2 := Lib.hid (show ∀ k ∈ F2, w.heap.size ≤ k from fun k hk => Nat.le_trans HA1.out.2.1.size (HA2.out.2.2 k hk))
  clear a3 hg3
  go_wp2
  go_loopw [10, 11, 12, 13] (fun va vi vt vn wr => ∃ (i a : Nat) (r2 : ChP), vn = .int .i64 i ∧ va = .int .i64 a ∧ vi = .bool r2.whole ∧ vt = .int .i64 r2.status ∧ i ≤ xs.length + 1 ∧ a ≤ l.length ∧ Hid (Fed newC l a r2 ∧ doneC r2 = false ∧ (i = xs.length + 1 → a = l.length)) ∧ Hid (FedC F2 w3 g2' r2 wr)) (fun _ _ _ vn _ => xs.length + 1 - (intOf vn).toNat)
  case atStart => exact ⟨0, 0, newC, rfl, rfl, rfl, rfl, by omega, by omega, Lib.hid ⟨Fed.start newC l, rfl, fun h => by omega⟩, Lib.hid ⟨F2, HX20.out, Grew.refl _ _⟩⟩
  case round =>
    obtain ⟨i, a, r2, rfl, rfl, rfl, rfl, hix, hal, HS, HC⟩ := hrel
    obtain ⟨F4, a4, hg4⟩ := HC.out
    have HF4 := Lib.hid (show ∀ k ∈ F4, w.heap.size ≤ k ∧ k ∉ F3 from fun k hk => by
      rcases hg4.news k hk with h | h
      · exact ⟨HF2.out k h, fun h3 => (HF3.out k h3).1 h⟩
      · exact ⟨by have := M3.out.size; omega, fun h3 => by have := HX10.out.lt k h3; omega⟩)
    have HX1 := Lib.hid (HX10.out.mods hg4.mods (fun k hk hk2 => (HF3.out k hk).1 hk2))
    have HX2 := Lib.hid a4
    have MX := Lib.hid (show Mods [] w wr from M3.out.trans hg4.mods (fun k hk => .inr (HF2.out k hk)))
    have HG4 := Lib.hid hg4
    clear a4 hg4
    by_cases hend : i = xs.length + 1
    · have HST := Lib.hid (show feedP newC l = (r2, a) from HS.out.1.stop (.inr (by have := HS.out.2.2 hend; omega)))
      subst hend
      obtain ⟨rfl, rfl⟩ : r1 = r2 ∧ n1 = a := by have := HR.out.symm.trans HST.out; injection this with h1 h2; exact ⟨h1, h2⟩
      have HOK := Lib.hid (show ∀ p ∈ r1.trail, okF p = true by have := feed_trail l newC (fun p hp => nomatch hp); rw [HR.out] at this; exact this)
      have HB1 := Lib.hid (body_c HX1.out)
      unfold ptr at HB1
      have h8 := HX1.out.ok.len
      have H8 := Lib.hid h8
      clear h8
      go_wp2_with (first
        | (go_at_call 10; have hx := HB2; clear hx; refine HB2.out.mono ?_; rintro z w6 ⟨u6, rfl, hk⟩; have HG6 := Lib.hid hk.out; have HX16 := Lib.hid (HX15.out.low hk.out.mods); have HX26 := Lib.hid (HX25.out.low hk.out.mods); obtain ⟨qa, qc, rfl⟩ := hk.out.form; clear hk)
        | (go_at_call 10; refine HB1.out.mono ?_; rintro z w5 ⟨u5, rfl, hk⟩; have HG5 := Lib.hid hk.out; have HX15 := Lib.hid (HX1.out.low hk.out.mods); have HX25 := Lib.hid (HX2.out.low hk.out.mods); have hb2 := body_c (HX2.out.low hk.out.mods); unfold ptr at hb2; have HB2 := Lib.hid hb2; obtain ⟨pa, pc, rfl⟩ := hk.out.form; clear hk hb2)
        | (go_at_call 9; refine (same_l14 r1.body r1.body _ _ _ (HG5.out.at.low HG6.out.mods) HG6.out.at (r := true) (decide_eq_true rfl)).mono ?_; rintro z w7 ⟨rfl, hd⟩; have M7 := Lib.hid (((MX.out.trans HG5.out.mods (fun _ h => nomatch h)).trans HG6.out.mods (fun _ h => nomatch h)).trans hd.mods (fun _ h => nomatch h)); have HX17 := Lib.hid (HX16.out.low hd.mods); have HX27 := Lib.hid (HX26.out.low hd.mods); have ht1 := trailers_c HX17.out HOK.out; unfold ptr at ht1; have HT1 := Lib.hid ht1; clear hd ht1)
        | (go_at_call 12; have hx := HT2; clear hx; refine HT2.out.mono ?_; rintro z w9 ⟨B9, rfl, hk⟩; have HG9 := Lib.hid hk.out; clear hk)
        | (go_at_call 12; refine HT1.out.mono ?_; rintro z w8 ⟨B8, rfl, hk⟩; have HG8 := Lib.hid hk.out; have ht2 := trailers_c (HX27.out.low hk.out.low) HOK.out; unfold ptr at ht2; have HT2 := Lib.hid ht2; clear hk ht2)
        | (go_at_call 11; refine (fields_l14 r1.trail r1.trail _ _ _ ((FsAt.of_row HG8.out.row).low HG9.out.low) (FsAt.of_row HG9.out.row) (by have := H8.out; omega) (by have := H8.out; omega)).mono ?_; rw [decide_eq_true (rfl : r1.trail = r1.trail)]; rintro z w10 ⟨rfl, hd⟩; have M10 := Lib.hid (((M7.out.trans HG8.out.low (fun _ h => nomatch h)).trans HG9.out.low (fun _ h => nomatch h)).trans hd.mods (fun _ h => nomatch h)); clear hd)
        | (go_at_call 13; refine (known_14 _ (HT.out.low M10.out)).mono ?_; rintro z w11 ⟨rfl, hm⟩; have M11 := Lib.hid (M10.out.trans hm (fun _ h => nomatch h)); clear hm))
      go_ret
      exact ⟨rfl, M11.out.below⟩
    · have hile : i ≤ xs.length := by omega
      have hK : ∃ K : Nat, K ≤ l.length - a ∧ (i < xs.length → ∃ (b o : Nat) (x : Int), A2 = some ⟨b, o, none⟩ ∧ wr.cell? ⟨b, o + i, none⟩ = some (.int .i64 x) ∧ min ((l.length : Int) - (a : Int)) (bits BinOp.and IntKind.i64 x 31) = (K : Int)) ∧ (¬ i < xs.length → K = l.length - a) := by
        by_cases hlt : i < xs.length
        · obtain ⟨b, o, e1, e2, e3⟩ := HXS.out i hlt
          obtain ⟨q, hq, hq2⟩ := and31 xs[i]
          refine ⟨min (l.length - a) q, by omega, fun _ => ⟨b, o, xs[i], e1, cell_mods e3 MX.out (by simp), by rw [hq]; omega⟩, fun h => absurd hlt h⟩
        · exact ⟨l.length - a, Nat.le_refl _, fun h => absurd h hlt, fun _ => rfl⟩
      obtain ⟨K, hKl, hK1, hK2⟩ := hK
      have HK2 := Lib.hid hK2
      have HK1 := Lib.hid hK1
      clear hK1 hK2
      obtain ⟨r3, m, hr3⟩ : ∃ r3 m, feedP r2 ((l.drop a).take K) = (r3, m) := ⟨_, _, rfl⟩
      have hcl : ((l.drop a).take K).length = K := by rw [List.length_take, List.length_drop]; omega
      have hmle : m ≤ K := by have := feed_le ((l.drop a).take K) r2; rw [hr3, hcl] at this; exact this
      have HDN := Lib.hid (show m < K → doneC r3 = true from fun h => by have := feed_lt ((l.drop a).take K) r2; rw [hr3, hcl] at this; exact this h)
      have HST1 := Lib.hid (Fed.portion HS.out.1 hr3 hmle)
      have HBS := Lib.hid (show ∀ A3 c3, A3 = (if c = a then A else Option.map (fun x => x.add a) A) → BsAt wr (.slice A3 K c3) ((l.drop a).take K) ∨ True from fun _ _ _ => .inr trivial)
      have hbs := ((HB.out.low MX.out).from' a hal rfl (l.length - a) (c - a) rfl rfl).to K hKl
      have HR3 := Lib.hid hr3
      have HFD2 := Lib.hid (feed_c _ _ hbs (fun h0 k hk hk2 => by
        have h1 := (HF4.out k hk2).1
        rw [hcl] at h0
        have hlp : 0 < l.length := by omega
        have hkk : k ∈ (Value.slice A l.length c).ownBlock.toList := by
          cases A with
          | none => split at hk <;> simp [Value.ownBlock] at hk
          | some aa =>
            obtain ⟨ab, ao, asp⟩ := aa
            split at hk
            · exact hk
            · have e9 : ((⟨ab, ao, asp⟩ : Addr).add a).block = ab := by unfold Addr.add; split <;> rfl
              simpa [Value.ownBlock, e9] using hk
        have h2 := HB.out.lt hlp k hkk
        omega) HX2.out (by rw [hcl]; omega))
      rw [hr3] at HFD2
      simp only at HFD2
      unfold ptr at HFD2
      obtain ⟨bw, hbw⟩ : ∃ bw, bw = r3.whole := ⟨_, rfl⟩
      obtain ⟨bs, hbs⟩ : ∃ bs, bs = r3.status := ⟨_, rfl⟩
      rw [← hbw, ← hbs] at HFD2
      have HBW := Lib.hid hbw
      have HBT := Lib.hid hbs
      clear hbw hbs
      clear hbs hcl hr3 HC HBS
      obtain ⟨A3, hA3⟩ : ∃ A3, A3 = (if c = a then A else Option.map (fun x => x.add a) A) := ⟨_, rfl⟩
      rw [← hA3] at HFD2
      have HA3 := Lib.hid hA3
      have hca : a + K ≤ c ∨ l.length = 0 := by rcases hcap with h | h; exact .inl (by omega); exact .inr h
      by_cases hlt : i < xs.length
      · obtain ⟨b, o, x, rfl, hcell, hmin⟩ := HK1.out hlt
        clear hA3
        go_upto_region 15 with (go_at_call 8; (try rw [← HA3.out]); refine HFD2.out.mono ?_; rintro z w5 ⟨rfl, hk⟩; have HQ2 := Lib.hid hk.out; clear hk)
        obtain ⟨F6, a6, hg6⟩ := HQ2.out
        have HG6 := Lib.hid (HG4.out.trans hg6)
        have HXA := Lib.hid (HX1.out.mods hg6.mods (fun k hk hk2 => (HF4.out k hk2).2 hk))
        have HXB := Lib.hid a6
        have MXA := Lib.hid (show Mods [] w w5 from MX.out.trans hg6.mods (fun k hk => .inr (HF4.out k hk).1))
        clear a6 hg6
        go_cut [85] (fun cv wx => Hid (cv = .bool false ∧ w5 = wx))
        case first =>
          by_cases hmk : m < K
          · have hd := HDN.out hmk
            have g3 : (m : Int) < (K : Int) := by omega
            have g4 : decide ((m : Int) < 0) = false := by simp
            have g5 : ¬ K < m := by omega
            unfold doneC at hd
            rw [← HBW.out, ← HBT.out] at hd
            cases bw with
            | true =>
              clear hd
              go_wp2
              go_meet
              case rel => exact Lib.hid ⟨by first | rfl | (simp; omega), rfl⟩
            | false =>
              have hbs : (bs == 0) = false := by rw [beq_eq_false_iff_ne]; simpa using hd
              clear hd
              go_wp2
              go_meet
              case rel => exact Lib.hid ⟨by first | rfl | (simp; omega), rfl⟩
          · have g3 : ¬ (m : Int) < (K : Int) := by omega
            have g4 : ¬ (K : Int) < (m : Int) := by omega
            go_wp2
            go_meet
            case rel => exact Lib.hid ⟨rfl, rfl⟩
        case rest =>
          obtain ⟨rfl, rfl⟩ := hcut.out
          go_upto_region 18 with fail
          go_cut [93] (fun cv wx => Hid (cv = .bool (doneC r3) ∧ w5 = wx))
          case first =>
            cases bw with
            | true =>
              have HDD := Lib.hid (show doneC r3 = true by unfold doneC; rw [← HBW.out]; rfl)
              go_wp2
              go_meet
              case rel => exact Lib.hid ⟨by rw [HDD.out], rfl⟩
            | false =>
              by_cases h0 : bs = 0
              · have hbs : (bs != 0) = false := by rw [h0]; rfl
                have HDD := Lib.hid (show doneC r3 = false by unfold doneC; rw [← HBW.out, ← HBT.out, h0]; rfl)
                clear h0
                go_wp2
                go_meet
                case rel => exact Lib.hid ⟨by rw [HDD.out], rfl⟩
              · have hbs : (bs != 0) = true := by simpa using h0
                have HDD := Lib.hid (show doneC r3 = true by unfold doneC; rw [← HBW.out, ← HBT.out]; exact decide_eq_true h0)
                clear h0
                go_wp2
                go_meet
                case rel => exact Lib.hid ⟨by rw [HDD.out], rfl⟩
          case rest =>
            obtain ⟨rfl, rfl⟩ := hcut.out
            cases hdn : doneC r3 with
            | true =>
              obtain ⟨a3, ha3⟩ : ∃ a3, a3 = a + m := ⟨_, rfl⟩
              have hcast : (a : Int) + (m : Int) = (a3 : Int) := by omega
              have HST := Lib.hid (show feedP newC l = (r3, a3) from by rw [ha3]; exact Fed.stop HST1.out (.inl hdn))
              (try simp only [hcast])
              clear hdn ha3 HX1 HX2 MX
              obtain rfl := HBW.out
              obtain rfl := HBT.out
              have HX1 := HXA
              have HX2 := HXB
              have MX := MXA
              obtain ⟨rfl, rfl⟩ : r1 = r3 ∧ n1 = a3 := by have := HR.out.symm.trans HST.out; injection this with h1 h2; exact ⟨h1, h2⟩
              have HOK := Lib.hid (show ∀ p ∈ r1.trail, okF p = true by have := feed_trail l newC (fun p hp => nomatch hp); rw [HR.out] at this; exact this)
              have HB1 := Lib.hid (body_c HX1.out)
              unfold ptr at HB1
              have h8 := HX1.out.ok.len
              have H8 := Lib.hid h8
              clear h8
              go_wp2_with (first
                | (go_at_call 10; have hx := HB2; clear hx; refine HB2.out.mono ?_; rintro z w6 ⟨u6, rfl, hk⟩; have HG6 := Lib.hid hk.out; have HX16 := Lib.hid (HX15.out.low hk.out.mods); have HX26 := Lib.hid (HX25.out.low hk.out.mods); obtain ⟨qa, qc, rfl⟩ := hk.out.form; clear hk)
                | (go_at_call 10; refine HB1.out.mono ?_; rintro z w5 ⟨u5, rfl, hk⟩; have HG5 := Lib.hid hk.out; have HX15 := Lib.hid (HX1.out.low hk.out.mods); have HX25 := Lib.hid (HX2.out.low hk.out.mods); have hb2 := body_c (HX2.out.low hk.out.mods); unfold ptr at hb2; have HB2 := Lib.hid hb2; obtain ⟨pa, pc, rfl⟩ := hk.out.form; clear hk hb2)
                | (go_at_call 9; refine (same_l14 r1.body r1.body _ _ _ (HG5.out.at.low HG6.out.mods) HG6.out.at (r := true) (decide_eq_true rfl)).mono ?_; rintro z w7 ⟨rfl, hd⟩; have M7 := Lib.hid (((MX.out.trans HG5.out.mods (fun _ h => nomatch h)).trans HG6.out.mods (fun _ h => nomatch h)).trans hd.mods (fun _ h => nomatch h)); have HX17 := Lib.hid (HX16.out.low hd.mods); have HX27 := Lib.hid (HX26.out.low hd.mods); have ht1 := trailers_c HX17.out HOK.out; unfold ptr at ht1; have HT1 := Lib.hid ht1; clear hd ht1)
                | (go_at_call 12; have hx := HT2; clear hx; refine HT2.out.mono ?_; rintro z w9 ⟨B9, rfl, hk⟩; have HG9 := Lib.hid hk.out; clear hk)
                | (go_at_call 12; refine HT1.out.mono ?_; rintro z w8 ⟨B8, rfl, hk⟩; have HG8 := Lib.hid hk.out; have ht2 := trailers_c (HX27.out.low hk.out.low) HOK.out; unfold ptr at ht2; have HT2 := Lib.hid ht2; clear hk ht2)
                | (go_at_call 11; refine (fields_l14 r1.trail r1.trail _ _ _ ((FsAt.of_row HG8.out.row).low HG9.out.low) (FsAt.of_row HG9.out.row) (by have := H8.out; omega) (by have := H8.out; omega)).mono ?_; rw [decide_eq_true (rfl : r1.trail = r1.trail)]; rintro z w10 ⟨rfl, hd⟩; have M10 := Lib.hid (((M7.out.trans HG8.out.low (fun _ h => nomatch h)).trans HG9.out.low (fun _ h => nomatch h)).trans hd.mods (fun _ h => nomatch h)); clear hd)
                | (go_at_call 13; refine (known_14 _ (HT.out.low M10.out)).mono ?_; rintro z w11 ⟨rfl, hm⟩; have M11 := Lib.hid (M10.out.trans hm (fun _ h => nomatch h)); clear hm))
              go_ret
              exact ⟨rfl, M11.out.below⟩
            | false =>
              have hmK : m = K := by
                rcases (by omega : m < K ∨ m = K) with h | h
                · have := HDN.out h; rw [hdn] at this; cases this
                · exact h
              have HS3 := Lib.hid (show Fed newC l (a + m) r3 ∧ doneC r3 = false ∧ (i + 1 = xs.length + 1 → a + m = l.length) from ⟨HST1.out, hdn, fun h => by have := HK2.out (by omega); omega⟩)
              clear hdn
              go_wp2
              go_roundw
              case rel => exact ⟨i + 1, a + m, r3, by go_num, by go_num, by rw [HBW.out], by rw [HBT.out], by omega, by omega, HS3, Lib.hid ⟨F6, HXB.out, HG6.out⟩⟩
              case measure => simp [intOf]; omega
      · have hkk : (l.length : Int) - (a : Int) = (K : Int) := by have := HK2.out hlt; omega
        have HXS2 := Lib.hid hlt
        clear hA3
        go_upto_region 15 with (go_at_call 8; (try rw [← HA3.out]); refine HFD2.out.mono ?_; rintro z w5 ⟨rfl, hk⟩; have HQ2 := Lib.hid hk.out; clear hk)
        obtain ⟨F6, a6, hg6⟩ := HQ2.out
        have HG6 := Lib.hid (HG4.out.trans hg6)
        have HXA := Lib.hid (HX1.out.mods hg6.mods (fun k hk hk2 => (HF4.out k hk2).2 hk))
        have HXB := Lib.hid a6
        have MXA := Lib.hid (show Mods [] w w5 from MX.out.trans hg6.mods (fun k hk => .inr (HF4.out k hk).1))
        clear a6 hg6
        go_cut [85] (fun cv wx => Hid (cv = .bool false ∧ w5 = wx))
        case first =>
          by_cases hmk : m < K
          · have hd := HDN.out hmk
            have g3 : (m : Int) < (K : Int) := by omega
            have g4 : decide ((m : Int) < 0) = false := by simp
            have g5 : ¬ K < m := by omega
            unfold doneC at hd
            rw [← HBW.out, ← HBT.out] at hd
            cases bw with
            | true =>
              clear hd
              go_wp2
              go_meet
              case rel => exact Lib.hid ⟨by first | rfl | (simp; omega), rfl⟩
            | false =>
              have hbs : (bs == 0) = false := by rw [beq_eq_false_iff_ne]; simpa using hd
              clear hd
              go_wp2
              go_meet
              case rel => exact Lib.hid ⟨by first | rfl | (simp; omega), rfl⟩
          · have g3 : ¬ (m : Int) < (K : Int) := by omega
            have g4 : ¬ (K : Int) < (m : Int) := by omega
            go_wp2
            go_meet
            case rel => exact Lib.hid ⟨rfl, rfl⟩
        case rest =>
          obtain ⟨rfl, rfl⟩ := hcut.out
          go_upto_region 18 with fail
          go_cut [93] (fun cv wx => Hid (cv = .bool (doneC r3) ∧ w5 = wx))
          case first =>
            cases bw with
            | true =>
              have HDD := Lib.hid (show doneC r3 = true by unfold doneC; rw [← HBW.out]; rfl)
              go_wp2
              go_meet
              case rel => exact Lib.hid ⟨by rw [HDD.out], rfl⟩
            | false =>
              by_cases h0 : bs = 0
              · have hbs : (bs != 0) = false := by rw [h0]; rfl
                have HDD := Lib.hid (show doneC r3 = false by unfold doneC; rw [← HBW.out, ← HBT.out, h0]; rfl)
                clear h0
                go_wp2
                go_meet
                case rel => exact Lib.hid ⟨by rw [HDD.out], rfl⟩
              · have hbs : (bs != 0) = true := by simpa using h0
                have HDD := Lib.hid (show doneC r3 = true by unfold doneC; rw [← HBW.out, ← HBT.out]; exact decide_eq_true h0)
                clear h0
                go_wp2
                go_meet
                case rel => exact Lib.hid ⟨by rw [HDD.out], rfl⟩
          case rest =>
            obtain ⟨rfl, rfl⟩ := hcut.out
            cases hdn : doneC r3 with
            | true =>
              obtain ⟨a3, ha3⟩ : ∃ a3, a3 = a + m := ⟨_, rfl⟩
              have hcast : (a : Int) + (m : Int) = (a3 : Int) := by omega
              have HST := Lib.hid (show feedP newC l = (r3, a3) from by rw [ha3]; exact Fed.stop HST1.out (.inl hdn))
              (try simp only [hcast])
              clear hdn ha3 HX1 HX2 MX
              obtain rfl := HBW.out
              obtain rfl := HBT.out
              have HX1 := HXA
              have HX2 := HXB
              have MX := MXA
              obtain ⟨rfl, rfl⟩ : r1 = r3 ∧ n1 = a3 := by have := HR.out.symm.trans HST.out; injection this with h1 h2; exact ⟨h1, h2⟩
              have HOK := Lib.hid (show ∀ p ∈ r1.trail, okF p = true by have := feed_trail l newC (fun p hp => nomatch hp); rw [HR.out] at this; exact this)
              have HB1 := Lib.hid (body_c HX1.out)
              unfold ptr at HB1
              have h8 := HX1.out.ok.len
              have H8 := Lib.hid h8
              clear h8
              go_wp2_with (first
                | (go_at_call 10; have hx := HB2; clear hx; refine HB2.out.mono ?_; rintro z w6 ⟨u6, rfl, hk⟩; have HG6 := Lib.hid hk.out; have HX16 := Lib.hid (HX15.out.low hk.out.mods); have HX26 := Lib.hid (HX25.out.low hk.out.mods); obtain ⟨qa, qc, rfl⟩ := hk.out.form; clear hk)
                | (go_at_call 10; refine HB1.out.mono ?_; rintro z w5 ⟨u5, rfl, hk⟩; have HG5 := Lib.hid hk.out; have HX15 := Lib.hid (HX1.out.low hk.out.mods); have HX25 := Lib.hid (HX2.out.low hk.out.mods); have hb2 := body_c (HX2.out.low hk.out.mods); unfold ptr at hb2; have HB2 := Lib.hid hb2; obtain ⟨pa, pc, rfl⟩ := hk.out.form; clear hk hb2)
                | (go_at_call 9; refine (same_l14 r1.body r1.body _ _ _ (HG5.out.at.low HG6.out.mods) HG6.out.at (r := true) (decide_eq_true rfl)).mono ?_; rintro z w7 ⟨rfl, hd⟩; have M7 := Lib.hid (((MX.out.trans HG5.out.mods (fun _ h => nomatch h)).trans HG6.out.mods (fun _ h => nomatch h)).trans hd.mods (fun _ h => nomatch h)); have HX17 := Lib.hid (HX16.out.low hd.mods); have HX27 := Lib.hid (HX26.out.low hd.mods); have ht1 := trailers_c HX17.out HOK.out; unfold ptr at ht1; have HT1 := Lib.hid ht1; clear hd ht1)
                | (go_at_call 12; have hx := HT2; clear hx; refine HT2.out.mono ?_; rintro z w9 ⟨B9, rfl, hk⟩; have HG9 := Lib.hid hk.out; clear hk)
                | (go_at_call 12; refine HT1.out.mono ?_; rintro z w8 ⟨B8, rfl, hk⟩; have HG8 := Lib.hid hk.out; have ht2 := trailers_c (HX27.out.low hk.out.low) HOK.out; unfold ptr at ht2; have HT2 := Lib.hid ht2; clear hk ht2)
                | (go_at_call 11; refine (fields_l14 r1.trail r1.trail _ _ _ ((FsAt.of_row HG8.out.row).low HG9.out.low) (FsAt.of_row HG9.out.row) (by have := H8.out; omega) (by have := H8.out; omega)).mono ?_; rw [decide_eq_true (rfl : r1.trail = r1.trail)]; rintro z w10 ⟨rfl, hd⟩; have M10 := Lib.hid (((M7.out.trans HG8.out.low (fun _ h => nomatch h)).trans HG9.out.low (fun _ h => nomatch h)).trans hd.mods (fun _ h => nomatch h)); clear hd)
                | (go_at_call 13; refine (known_14 _ (HT.out.low M10.out)).mono ?_; rintro z w11 ⟨rfl, hm⟩; have M11 := Lib.hid (M10.out.trans hm (fun _ h => nomatch h)); clear hm))
              go_ret
              exact ⟨rfl, M11.out.below⟩
            | false =>
              have hmK : m = K := by
                rcases (by omega : m < K ∨ m = K) with h | h
                · have := HDN.out h; rw [hdn] at this; cases this
                · exact h
              have HS3 := Lib.hid (show Fed newC l (a + m) r3 ∧ doneC r3 = false ∧ (i + 1 = xs.length + 1 → a + m = l.length) from ⟨HST1.out, hdn, fun h => by have := HK2.out (by omega); omega⟩)
              clear hdn
              go_wp2
              go_roundw
              case rel => exact ⟨i + 1, a + m, r3, by go_num, by go_num, by rw [HBW.out], by rw [HBT.out], by omega, by omega, HS3, Lib.hid ⟨F6, HXB.out, HG6.out⟩⟩
              case measure => simp [intOf]; omega

theorem own : ownKnob Tryd.prog.godebug = none := by kernel_rfl
theorem laidOut : laidOutB Tryd.prog = true := by kernel_rfl
set_option maxRecDepth 100000 in
theorem lifted (os : Os) (started : os.Started) (H : Type) (enc : TypeId × Value → H) :
    ReturnsInHanded {} Tryd.checked os 3 .any (fun w args => (Rows.chunkCutsSpec.pre enc Tryd.prog Tryd.f3 [] false w args ∧ laidMetH Tryd.prog Rows.chunkCutsRow.laid w) ∧ sizedMet enc Tryd.prog Tryd.f3 (OpenSpec.ofChange Rows.chunkCutsSpec) false w args)
      (Rows.chunkCutsSpec.post enc Tryd.prog Tryd.f3 false true false false) := by
  refine returnsInHanded_of_change_and (C := Tryd.checked) (X := fun w _ => laidMetH Tryd.prog Rows.chunkCutsRow.laid w) (fun _ _ _ hh h => h.of_heap hh) own started (by kernel_rfl) Tryd.func3
    (ChangeSpec.witness_shaped (enc := enc) (C := Tryd.checked) (os := os) (X := fun w _ => laidMetH Tryd.prog Rows.chunkCutsRow.laid w) false (World.laidAll Tryd.prog os Rows.chunkCutsRow.laid) #[.slice none 0 0, .slice none 0 0] 8 (World.laidAll_os _ _ _)
      (World.shaped_of_ZipB (by kernel_rfl) (by kernel_rfl)) (by kernel_rfl) (by kernel_rfl) (by kernel_rfl)
      (by rw [MakeChecks.laidMetH_plain _ _ _ (by kernel_rfl)]; exact laidMet_laidAll _ (by kernel_rfl) (by kernel_rfl))) ?_
  intro W base args ds gs before hval0 hW hcnd hsz0 hL _
  have hsz : (DataW.weightsEach Tryd.prog (Tryd.f3.params.toList ++ Rows.chunkCutsSpec.plain.varTypes Tryd.prog) (ds ++ gs)).all (· ≤ reachBytes) = true := hsz0
  have hval : ∀ (j : Nat) t v, Tryd.f3.params[j]? = some t → args[j]? = some v → Value.okWide Tryd.prog W .any base t v := hval0
  have hW' := hW
  obtain ⟨p, q, hA0, hV, rfl, hfz, hnd⟩ := hW
  have hA : DataW.TrodAll enc Tryd.prog W 0 (fun _ => true) true Tryd.f3.params.toList args.toList ds p := hA0
  rw [Tryd.params3] at hA hval hsz
  obtain ⟨v0, vs0, d0, ds0, p0, q0, hargs, rfl, rfl, h0, r0⟩ := trodAll_cons hA
  obtain ⟨v1, vs1, d1, ds1, p1, q1, rfl, rfl, rfl, h1, r1⟩ := trodAll_cons r0
  obtain ⟨rfl, rfl, rfl⟩ := trodAll_nil r1
  obtain rfl : args = #[v0, v1] := by cases args; simp_all
  obtain ⟨rfl, rfl⟩ := trodVars_none hV
  have k0 := h0
  have lt0 : ∀ x ∈ p0, x.block < W.heap.size := by obtain ⟨m, hm⟩ := k0; exact DataW.trod_lt m _ _ _ hm
  obtain ⟨bl0, o0⟩ := open_bs14 (hval 0 22 v0 rfl rfl) k0 (fun n hn => by simpa using List.all_eq_true.1 hsz n (DataW.weights_mem_each (j := 0) (t := 22) rfl rfl n hn))
  have k1 := h1
  have lt1 : ∀ x ∈ p1, x.block < W.heap.size := by obtain ⟨m, hm⟩ := k1; exact DataW.trod_lt m _ _ _ hm
  obtain o1 := open_nums (hval 1 23 v1 rfl rfl) k1
  clear hA0 hval0 hsz0 hsz
  refine (walk W hL v0 bl0 o0 v1 o1).mono fun e W' ⟨he, bel⟩ => ?_
  subst he
  exact ⟨_, rfl, _, _, _, [], _, [], hW', trodAll_mk1 (shut_bool Tryd.underlying4 _), (trodAll_cons_mk (Below.trod laidOut (by kernel_rfl) (of_decide_eq_true (by kernel_rfl)) k0 bel lt0) (trodAll_cons_mk (Below.trod laidOut (by kernel_rfl) (of_decide_eq_true (by kernel_rfl)) k1 bel lt1) trodAll_mk0)), rfl, bel.frame _, fun h => by cases h⟩

theorem over : Rows.chunkCutsRow.holds Tryd.pinned (OpenSpec.ofChange Rows.chunkCutsSpec) :=
  OpenClaim.holds_of_wide 3 Tryd.f3 rfl rfl rfl rfl rfl rfl rfl ⟨rfl, rfl, rfl, rfl, rfl⟩ rfl rfl rfl rfl rfl (by kernel_rfl) Tryd.func3 (by kernel_rfl)
    (of_decide_eq_true (by kernel_rfl)) (by unfold Func.isWrapper; first | (rw [if_pos (by decide +kernel)]; kernel_rfl) | (rw [if_neg (by decide +kernel)]; exact ⟨rfl, rfl⟩))
    (fun os started H enc _ => lifted os started H enc)

theorem said : Rows.ChunkCutsSaid := over
theorem plain (f : FuncId) (fn : Func) (hf : Tryd.pinned.checked.prog.funcNamed "usher/usherlaw14.ChunkCuts" = some f) (hfn : Tryd.pinned.checked.prog.funcs[f]? = some fn) :
    false = Tryd.pinned.checked.prog.looks [] ∧ ∀ (j : Nat) t, fn.params[j]? = some t → Tryd.pinned.checked.prog.wantsStandIn t = false := by
  obtain rfl : f = 3 := Option.some.inj ((show Tryd.prog.funcNamed "usher/usherlaw14.ChunkCuts" = some 3 by kernel_rfl).symm.trans hf) |>.symm
  obtain rfl : fn = Tryd.f3 := (Option.some.inj (Tryd.func3.symm.trans hfn)).symm
  refine ⟨by kernel_rfl, fun j t ht => ?_⟩
  rw [Tryd.params3] at ht
  have hm : t ∈ [22, 23] := by simpa using Array.mem_of_getElem? ht
  simp only [List.mem_cons, List.mem_nil_iff, or_false] at hm
  rcases hm with rfl | rfl
  · exact (show Tryd.prog.wantsStandIn 22 = false by kernel_rfl)
  · exact (show Tryd.prog.wantsStandIn 23 = false by kernel_rfl)
theorem proved : Rows.ChunkCutsCardSaid :=
  Claim7.holds_tied_plain_at .later [] _ _ _ _ said (fun _ h => by cases h) (by kernel_rfl) (fun _ h => by cases h) chunkCuts_row_tie rfl ⟨rfl, rfl⟩ (by kernel_rfl) rfl plain (by kernel_rfl)
end Go.Proofs.YtdalomhcglbhjaaDoor.chunkCuts
