/- For every row of bytes and every list of cuts, where the parser is in the end and what comes is the same: the law returns true. -/
import Derived.Test.YtgkhelbpccehcaaGreatDoorCards
import Derived.Test.YtgkhelbpccehcaaGreatDoorTie
import Derived.Lay
import Derived.LaidOnce
import Derived.MakeChecks
import Derived.SevenTiedAt
import Derived.WalkKit
import Derived.ProofKit
import Derived.OpenShut
import Derived.ShutString
import Derived.ChangeOld
import Derived.Below
import Derived.SizedLaws
import Derived.Test.YtgkhelbpccehcaaGreatDoorMQI
import Derived.Test.YtgkhelbpccehcaaGreatDoorMQF
import Derived.Test.YtgkhelbpccehcaaGreatDoorOpenN
import Derived.Carry
import Derived.Deep.CutBlock
import Derived.Deep.RegionHeld3
namespace Go.Proofs.YtgkhelbpccehcaaGreatDoor.parseCuts
open Go.ChangeShapes Go.WideShapes Go.ChangeAt Go.RowKit
open Go.ChangeMaps (open_string shut_string)
set_option linter.unusedVariables false
theorem and31 (a : Int) : ∃ k : Nat, bits BinOp.and IntKind.i64 a 31 = (k : Int) ∧ k ≤ 31 := by
  have e : bits BinOp.and IntKind.i64 a 31 = IntKind.i64.wrap ((BitVec.ofInt 64 a &&& BitVec.ofInt 64 31).toNat : Int) := rfl
  have h : (BitVec.ofInt 64 a &&& BitVec.ofInt 64 31).toNat ≤ 31 := by
    rw [BitVec.toNat_and]
    refine Nat.le_trans Nat.and_le_right ?_
    rw [BitVec.toNat_ofInt]
    omega
  refine ⟨(BitVec.ofInt 64 a &&& BitVec.ofInt 64 31).toNat, ?_, h⟩
  rw [e, IntKind.wrap_i64]
  omega
/-- Numbers that came in, by list. -/
theorem ints15 {W : World} {v : Value} (h : IsInts W v) : ∃ (A : Option Addr) (C : Nat) (xs : List Int), v = .slice A xs.length C ∧ ∀ j (h : j < xs.length), ∃ b o, A = some ⟨b, o, none⟩ ∧ b < W.heap.size ∧ W.cell? ⟨b, o + j, none⟩ = some (.int .i64 xs[j]) := by
  rcases h with ⟨a, cap, rfl⟩ | ⟨b, off, len, cap, f, rfl, h0, h1, h2, hb, hc⟩
  · exact ⟨a, cap, [], rfl, fun j hj => nomatch hj⟩
  · refine ⟨some ⟨b, off, none⟩, cap, (List.range len).map f, by rw [List.length_map, List.length_range], fun j hj => ⟨b, off, rfl, hb, ?_⟩⟩
    rw [List.length_map, List.length_range] at hj
    rw [(hc j hj).1]; simp
/-- A piece of bytes that came in, as one row in the call. -/
theorem piece {w wr : World} {A : Option Addr} {l : List UInt8} {c a K : Nat} {F : List Nat} (hB : BsAt w (.slice A l.length c) l) (hm : Mods [] w wr) (hal : a ≤ l.length) (hK : K ≤ l.length - a) (hF : ∀ k ∈ F, w.heap.size ≤ k) (hlt : ∀ k ∈ F, k < wr.heap.size) {A3 : Option Addr} (hA3 : A3 = (if c = a then A else Option.map (fun x => x.add a) A)) {b : Nat} (hb : b = wr.heap.size) :
    PsAp (wr.alloc (.cells #[.slice A3 K (c - a)] 22)) (.slice (some ⟨b, 0, none⟩) 1 1) [(l.drop a).take K] F := by
  subst hb
  have hcl : ((l.drop a).take K).length = K := by rw [List.length_take, List.length_drop]; omega
  have hbs := ((hB.low hm).from' a hal hA3 (l.length - a) (c - a) rfl rfl).to K hK
  have hr := Row.new wr 22 #[.slice A3 K (c - a)]
  have m := (Mods.refl [] wr).alloc (.cells #[.slice A3 K (c - a)] 22)
  refine .inr ⟨wr.heap.size, 0, 1, rfl, by simp, hr.lt, fun e => by have := hlt _ e; omega, fun j hj => ?_⟩
  obtain rfl : j = 0 := by simp only [List.length_cons, List.length_nil] at hj; omega
  refine ⟨_, hr.cell 0, hbs.low m, fun h0 k hk hk2 => ?_⟩
  have h1 := hF k hk2
  change 0 < ((l.drop a).take K).length at h0
  rw [hcl] at h0
  have hkk : k ∈ (Value.slice A l.length c).ownBlock.toList := by
    rw [hA3] at hk
    cases A with
    | none => split at hk <;> simp [Value.ownBlock] at hk
    | some aa =>
      obtain ⟨ab, ao, asp⟩ := aa
      split at hk
      · exact hk
      · have e9 : ((⟨ab, ao, asp⟩ : Addr).add a).block = ab := by unfold Addr.add; split <;> rfl
        simpa [Value.ownBlock, e9] using hk
  have h2 := hB.lt (by omega) k hkk
  omega
theorem takeR_len {P : PrP} (o : PrOk P) : (takeR P).2.1.fields.length ≤ 24 := by
  unfold takeR
  split
  · exact o.head.len
  · exact Nat.zero_le _
theorem one_flat (l : List UInt8) : [l].flatten = l := by simp
set_option maxRecDepth 100000 in
set_option maxHeartbeats 8000000 in
theorem walk (w : World) (hL : laidMetH Tryz.prog Rows.parseCutsRow.laid w) (v : Value) (l : List UInt8) (hb : BsAt w v l) (v2 : Value) (hi : IsInts w v2) :
    Calls Tryz.prog 4 #[v, v2] w fun e w' => e = .returned (.bool true) ∧ Below w.heap.size w w' := by
  have HB := Lib.hid hb
  obtain ⟨A, c, rfl⟩ := hb.len
  obtain ⟨A2, c2, xs, rfl, hxs⟩ := ints15 hi
  have HXS := Lib.hid hxs
  clear hL hb hi hxs
  by_cases hl : 6000 < l.length
  · have g1 : (6000 : Int) < (l.length : Int) := by omega
    clear hl
    go_enter Tryz.func4, Tryz.ntmps4
    go_wp2
    go_ret
    exact ⟨rfl, Below.refl _ _⟩
  by_cases hl2 : 200 < xs.length
  · have g1 : ¬ (6000 : Int) < (l.length : Int) := by omega
    have g2 : (200 : Int) < (xs.length : Int) := by omega
    clear hl hl2
    go_enter Tryz.func4, Tryz.ntmps4
    go_wp2
    go_ret
    exact ⟨rfl, Below.refl _ _⟩
  have g1 : ¬ (6000 : Int) < (l.length : Int) := by omega
  have g2 : ¬ (200 : Int) < (xs.length : Int) := by omega
  have hlb : l.length ≤ 6000 := by omega
  have hxb : xs.length ≤ 200 := by omega
  obtain ⟨r1, n1, hr1⟩ : ∃ r1 n1, feedR newR l = (r1, n1) := ⟨_, _, rfl⟩
  have HR := Lib.hid hr1
  have HN := Lib.hid (fun w => new_p w)
  unfold ptr at HN
  have hcap : l.length ≤ c ∨ l.length = 0 := by
    rcases HB.out with ⟨e, _⟩ | ⟨_, _, _, hv, _, _, h1, _⟩
    · rw [e]; exact .inr rfl
    · injection hv with _ _ e; exact .inl (by omega)
  clear hl hl2 hr1
  go_enter Tryz.func4, Tryz.ntmps4
  go_upto_region 4 with (first
    | (go_at_call 9; have hx := HA1; clear hx; refine (HN.out _).mono ?_; rintro z w2 ⟨g2', F2, rfl, hk⟩; have HA2 := Lib.hid hk.out; clear hk)
    | (go_at_call 9; refine (HN.out _).mono ?_; rintro z w1 ⟨g1', F1, rfl, hk⟩; have HA1 := Lib.hid hk.out; clear hk))
  clear g1 g2 HN
  have HD0 := Lib.hid (show ∀ k ∈ F1, k ∉ F2 from fun k hk hk2 => by have h1 := HA1.out.1.lt k hk; have h2 := HA2.out.2.2 k hk2; omega)
  have M2 := Lib.hid (HA1.out.2.1.trans HA2.out.2.1 (fun _ h => nomatch h))
  have a12 := HA1.out.1.low HA2.out.2.1
  have mA := (Mods.refl [] w2).alloc (.cells #[.slice A l.length c] 22)
  have hfd := feedr_p _ [l] (psap_one (HB.out.low M2.out) a12.lt (fun h0 k hk hk2 => by
    have h1 := HA1.out.2.2 k hk2; have h2 := HB.out.lt h0 k hk; omega)) (a12.low mA) (by rw [one_flat]; omega) (by simp)
  rw [one_flat, HR.out] at hfd
  simp only at hfd
  unfold ptr at hfd
  have HFD := Lib.hid hfd
  clear hfd a12
  go_upto_region 5 with (go_at_call 11; refine HFD.out.mono ?_; rintro z w3 ⟨rfl, hk⟩; have HQ := Lib.hid hk.out; clear hk)
  obtain ⟨F3, a3, hg3⟩ := HQ.out
  have M3 := Lib.hid (show Mods [] w w3 from (M2.out.trans mA (fun _ h => nomatch h)).trans hg3.mods (fun k hk => .inr (HA1.out.2.2 k hk)))
  have HX10 := Lib.hid a3
  have HX20 := Lib.hid ((HA2.out.1.low mA).mods hg3.mods (fun k hk hk2 => HD0.out k hk2 hk))
  have HF3 := Lib.hid (show ∀ k ∈ F3, k ∉ F2 ∧ w.heap.size ≤ k from fun k hk => by
    rcases hg3.news k hk with h | h
    · exact ⟨HD0.out k h, HA1.out.2.2 k h⟩
    · have h5 := mA.size
      exact ⟨fun h2 => by have := HA2.out.1.lt k h2; omega, by have := M2.out.size; omega⟩)
  have HF2 := Lib.hid (show ∀ k ∈ F2, w.heap.size ≤ k from fun k hk => Nat.le_trans HA1.out.2.1.size (HA2.out.2.2 k hk))
  clear a3 hg3 mA HQ HFD
  go_wp2
  go_loopw [8, 9, 10, 11] (fun va vi _ _ wr => ∃ (i a : Nat) (Q : PrP), vi = .int .i64 i ∧ va = .int .i64 a ∧ i ≤ xs.length + 1 ∧ a ≤ l.length ∧ Hid (FedK newR l a Q ∧ (i = xs.length + 1 → feedR newR l = (Q, a))) ∧ Hid (FedP F2 w3 g2' Q wr)) (fun _ vi _ _ _ => xs.length + 1 - (intOf vi).toNat)
  case atStart => exact ⟨0, 0, newR, rfl, rfl, by omega, by omega, Lib.hid ⟨by unfold FedK; rw [List.take_zero, feedR_nil], fun h => by omega⟩, Lib.hid ⟨F2, HX20.out, Grew.refl _ _⟩⟩
  case round =>
    obtain ⟨i, a, Q, rfl, rfl, hix, hal, HS, HC⟩ := hrel
    obtain ⟨F4, a4, hg4⟩ := HC.out
    have HF4 := Lib.hid (show ∀ k ∈ F4, w.heap.size ≤ k ∧ k ∉ F3 from fun k hk => by
      rcases hg4.news k hk with h | h
      · exact ⟨HF2.out k h, fun h3 => (HF3.out k h3).1 h⟩
      · exact ⟨by have := M3.out.size; omega, fun h3 => by have := HX10.out.lt k h3; omega⟩)
    have HX1 := Lib.hid (HX10.out.mods hg4.mods (fun k hk hk2 => (HF3.out k hk).1 hk2))
    have HX2 := Lib.hid a4
    have MX := Lib.hid (show Mods [] w wr from M3.out.trans hg4.mods (fun k hk => .inr (HF2.out k hk)))
    have HG4 := Lib.hid hg4
    clear a4 hg4
    by_cases hend : i = xs.length + 1
    · have HST := Lib.hid (HS.out.2 hend)
      subst hend
      obtain ⟨rfl, rfl⟩ : r1 = Q ∧ n1 = a := by have := HR.out.symm.trans HST.out; injection this with h1 h2; exact ⟨h1, h2⟩
      obtain ⟨PT, rq, er, hT⟩ : ∃ PT rq er, takeR r1 = (PT, rq, er) := ⟨_, _, _, rfl⟩
      have hlen : rq.fields.length ≤ 1000000 := by have := takeR_len HX1.out.ok; rw [hT] at this; simp only at this; omega
      have HT := Lib.hid hT
      have HLEN := Lib.hid hlen
      have HP1 := Lib.hid (phase_p HX1.out)
      have HP2 := Lib.hid (phase_p HX2.out)
      have HS1 := Lib.hid (status_p HX1.out)
      have HS2 := Lib.hid (status_p HX2.out)
      have HW1 := Lib.hid (waits_p HX1.out)
      unfold ptr at HP1 HP2 HS1 HS2 HW1
      obtain ⟨ph, hph⟩ : ∃ ph : Int, ph = (r1.phase : Nat) := ⟨_, rfl⟩
      obtain ⟨st, hst⟩ : ∃ st, st = r1.status := ⟨_, rfl⟩
      obtain ⟨wt, hwt⟩ : ∃ wt, wt = waitsR r1 := ⟨_, rfl⟩
      rw [← hph] at HP1 HP2
      rw [← hst] at HS1 HS2
      rw [← hwt] at HW1
      have HWT := Lib.hid hwt
      have e1 : ((n1 : Int) != (n1 : Int)) = false := by simp
      have e2 : (ph != ph) = false := by simp
      have e3 : (st != st) = false := by simp
      have e4 : (wt != wt) = false := by simp
      have e5 : (er == er) = true := by simp
      clear hT hlen hph hst hwt HC hcap
      go_upto_region 18 with (first
        | (go_at_call 19; refine HP1.out.mono ?_; rintro z q1 ⟨rfl, rfl⟩)
        | (go_at_call 19; refine HP2.out.mono ?_; rintro z q2 ⟨rfl, rfl⟩)
        | (go_at_call 20; refine HS1.out.mono ?_; rintro z q3 ⟨rfl, rfl⟩)
        | (go_at_call 20; refine HS2.out.mono ?_; rintro z q4 ⟨rfl, rfl⟩)
        | (go_at_call 21; have hx := HW2; clear hx; refine HW2.out.mono ?_; rintro z w7 ⟨rfl, hm⟩; have M7 := Lib.hid (M6.out.trans hm (fun _ h => nomatch h)); clear hm)
        | (go_at_call 21; refine HW1.out.mono ?_; rintro z w6 ⟨rfl, hm⟩; have M6 := Lib.hid hm; have hw2 := waits_p (HX2.out.low hm); unfold ptr at hw2; rw [← HWT.out] at hw2; have HW2 := Lib.hid hw2; clear hm hw2))
      clear HP1 HP2 HS1 HS2 HW1 HW2 e1 e2 e3 e4
      have ht1 := takerq_p (HX1.out.low M7.out)
      rw [HT.out] at ht1
      simp only at ht1
      unfold ptr reqV reqCells at ht1
      have HTK1 := Lib.hid ht1
      clear ht1
      go_upto_region 19 with (go_at_call 14; refine HTK1.out.mono ?_; rintro z w8 ⟨vf, vb, rfl, hk⟩; have hk2 := hk.out; unfold TookR at hk2; rw [HT.out] at hk2; simp only at hk2; have TR1 := Lib.hid hk2; obtain ⟨fa, fc, rfl⟩ := hk2.1.len; obtain ⟨ba, bc, rfl⟩ := hk2.2.1.len; clear hk hk2)
      clear HTK1
      obtain ⟨tf1, tb1, F9, a9, hg9, hn9⟩ := TR1.out
      have TF1 := Lib.hid tf1
      have TB1 := Lib.hid tb1
      have HN1 := Lib.hid hn9
      have HX28 := Lib.hid (((HX2.out.low M7.out).mods hg9.mods (fun k hk hk2 => (HF4.out k hk).2 hk2)))
      have M8 := Lib.hid (show Mods [] w w8 from (MX.out.trans M7.out (fun _ h => nomatch h)).trans hg9.mods (fun k hk => .inr (HF3.out k hk).2))
      have S8 := Lib.hid (Nat.le_trans M7.out.size hg9.mods.size)
      clear tf1 tb1 a9 hg9 hn9 TR1
      obtain ⟨md, tg, mi, fs, bd, cl, xp⟩ := rq
      obtain ⟨tf, th, tp, tq⟩ := tg
      simp only at HLEN TF1 TB1
      obtain ⟨nf, hnf⟩ : ∃ n, n = fs.length := ⟨_, rfl⟩
      obtain ⟨nb, hnb⟩ : ∃ n, n = bd.length := ⟨_, rfl⟩
      simp only
      rw [← hnf, ← hnb]
      have R8 := Lib.hid (Row.new w8 40 #[.string md, .int .i64 tf, .string th, .string tp, .string tq, .int .i64 mi, .slice fa nf fc, .slice ba nb bc, .bool cl, .bool xp])
      have m8 := (Mods.refl [] w8).alloc (.cells #[.string md, .int .i64 tf, .string th, .string tp, .string tq, .int .i64 mi, .slice fa nf fc, .slice ba nb bc, .bool cl, .bool xp] 40)
      have b8l : w8.heap.size < (w8.alloc (.cells #[.string md, .int .i64 tf, .string th, .string tp, .string tq, .int .i64 mi, .slice fa nf fc, .slice ba nb bc, .bool cl, .bool xp] 40)).heap.size := R8.out.lt
      obtain ⟨p8, hp8⟩ : ∃ p, p = w8.heap.size := ⟨_, rfl⟩
      obtain ⟨W8, hW8⟩ : ∃ W8, W8 = w8.alloc (.cells #[.string md, .int .i64 tf, .string th, .string tp, .string tq, .int .i64 mi, .slice fa nf fc, .slice ba nb bc, .bool cl, .bool xp] 40) := ⟨_, rfl⟩
      rw [← hp8, ← hW8] at R8
      rw [← hW8] at m8 b8l ⊢
      rw [← hp8] at b8l ⊢
      have HP8 := Lib.hid hp8
      have MM8 := Lib.hid m8
      have ht2 := takerq_p (HX28.out.low m8)
      rw [HT.out] at ht2
      simp only at ht2
      unfold ptr reqV reqCells at ht2
      have HTK2 := Lib.hid ht2
      clear ht2 hW8 m8 hp8
      go_upto_region 20 with (go_at_call 14; refine HTK2.out.mono ?_; rintro z w9 ⟨vf, vb, rfl, hk⟩; have hk2 := hk.out; unfold TookR at hk2; rw [HT.out] at hk2; simp only at hk2; have TR2 := Lib.hid hk2; obtain ⟨ga, gc, rfl⟩ := hk2.1.len; obtain ⟨ha, hc, rfl⟩ := hk2.2.1.len; clear hk hk2)
      clear HTK2
      rw [← hnf, ← hnb] at TR2 ⊢
      obtain ⟨tf2, tb2, F10, a10, hg10, hn10⟩ := TR2.out
      have mz := (Mods.refl [] w9).alloc (.cells #[.string md, .int .i64 tf, .string th, .string tp, .string tq, .int .i64 mi, .slice ga nf gc, .slice ha nb hc, .bool cl, .bool xp] 40)
      have r9 := Row.new w9 40 #[.string md, .int .i64 tf, .string th, .string tp, .string tq, .int .i64 mi, .slice ga nf gc, .slice ha nb hc, .bool cl, .bool xp]
      have r89 := (R8.out.mods hg10.mods (fun h => by have h1 := HX2.out.lt _ h; have h2 := HP8.out; have h3 := S8.out; omega)).mods mz (by simp)
      have hfar : ∀ k, k ∈ (Value.slice fa nf fc).ownBlock.toList ∨ k ∈ (Value.slice ba nb bc).ownBlock.toList → k ∉ F4 := fun k hk h4 => by
        obtain ⟨h1, -, -⟩ := HN1.out k (by rw [hnf, hnb] at hk; exact hk)
        rcases h1 with h1 | h1
        · exact (HF4.out k h4).2 h1
        · have h5 := HX2.out.lt k h4; have h6 := M7.out.size; omega
      have HRQ := Lib.hid (request_l ⟨md, ⟨tf, th, tp, tq⟩, mi, fs, bd, cl, xp⟩ (.slice fa nf fc) (.slice ba nb bc) (.slice ga nf gc) (.slice ha nb hc) _ ((((show FsAt w8 (.slice fa nf fc) fs by rw [hnf]; exact TF1.out).low MM8.out).mods hg10.mods (fun k hk => hfar k (.inl hk))).low mz) (tf2.low mz) ((((show BsAt w8 (.slice ba nb bc) bd by rw [hnb]; exact TB1.out).low MM8.out).mods hg10.mods (fun k hk => hfar k (.inr hk))).low mz) (tb2.low mz) HLEN.out)
      have M10 := Lib.hid (show Mods [] w (w9.alloc (.cells #[.string md, .int .i64 tf, .string th, .string tp, .string tq, .int .i64 mi, .slice ga nf gc, .slice ha nb hc, .bool cl, .bool xp] 40)) from (((M8.out.trans MM8.out (fun _ h => nomatch h)).trans hg10.mods (fun k hk => .inr (HF4.out k hk).1)).trans mz (fun _ h => nomatch h)))
      unfold reqV reqCells at HRQ
      simp only at HRQ
      obtain ⟨p9, hp9⟩ : ∃ p, p = w9.heap.size := ⟨_, rfl⟩
      obtain ⟨W9, hW9⟩ : ∃ W9, W9 = w9.alloc (.cells #[.string md, .int .i64 tf, .string th, .string tp, .string tq, .int .i64 mi, .slice ga nf gc, .slice ha nb hc, .bool cl, .bool xp] 40) := ⟨_, rfl⟩
      rw [← hp9, ← hW9] at r9
      rw [← hW9] at r89 HRQ M10 ⊢
      rw [← hp9]
      clear hp9 hW9 mz tf2 tb2 a10 hg10 hn10 hfar hnf hnb
      obtain ⟨s0, s1, s2, s3, s4, s5, s6, s7, s8, s9⟩ := r89.ten
      obtain ⟨t0, t1, t2, t3, t4, t5, t6, t7, t8, t9⟩ := r9.ten
      go_wp2_with (first
        | (go_at_call 16; refine HRQ.out.mono ?_; rintro z w11 ⟨rfl, hm⟩; have M11 := Lib.hid (M10.out.trans hm (fun _ h => nomatch h)); clear hm)
        | (go_at_call 18; refine (known_15 _).mono ?_; rintro z w12 ⟨rfl, hm⟩; have M12 := Lib.hid (M11.out.trans hm (fun _ h => nomatch h)); clear hm))
      go_ret
      exact ⟨rfl, M12.out.below⟩
    · have hile : i ≤ xs.length := by omega
      have hK : ∃ K : Nat, K ≤ l.length - a ∧ (i < xs.length → ∃ (b o : Nat) (x : Int), A2 = some ⟨b, o, none⟩ ∧ wr.cell? ⟨b, o + i, none⟩ = some (.int .i64 x) ∧ min ((l.length : Int) - (a : Int)) (bits BinOp.and IntKind.i64 x 31) = (K : Int)) ∧ (¬ i < xs.length → K = l.length - a) := by
        by_cases hlt : i < xs.length
        · obtain ⟨b, o, e1, e2, e3⟩ := HXS.out i hlt
          obtain ⟨q, hq, hq2⟩ := and31 xs[i]
          refine ⟨min (l.length - a) q, by omega, fun _ => ⟨b, o, xs[i], e1, cell_mods e3 MX.out (by simp), by rw [hq]; omega⟩, fun h => absurd hlt h⟩
        · exact ⟨l.length - a, Nat.le_refl _, fun h => absurd h hlt, fun _ => rfl⟩
      obtain ⟨K, hKl, hK1, hK2⟩ := hK
      have HK2 := Lib.hid hK2
      have HK1 := Lib.hid hK1
      clear hK1 hK2
      obtain ⟨R, m, hr3⟩ : ∃ R m, feedR Q ((l.drop a).take K) = (R, m) := ⟨_, _, rfl⟩
      have hcl : ((l.drop a).take K).length = K := by rw [List.length_take, List.length_drop]; omega
      have hmle : m ≤ K := by have := feedR_le ((l.drop a).take K) Q; rw [hr3, hcl] at this; exact this
      have HDN := Lib.hid (show m < K → 3 ≤ R.phase from fun h => cut_stop hr3 (by rw [hcl]; exact h))
      have HST1 := Lib.hid (show FedK newR l (a + m) R ∧ (i + 1 = xs.length + 1 → feedR newR l = (R, a + m)) from ⟨by
        have := cut_next (l := l) (k := K) HS.out.1 hal hr3
        exact this, fun h => by
        have hk := HK2.out (by omega)
        refine cut_last (l := l) HS.out.1 ?_
        rw [← hr3, List.take_of_length_le (by rw [List.length_drop]; omega)]⟩)
      obtain ⟨A3, hA3⟩ : ∃ A3, A3 = (if c = a then A else Option.map (fun x => x.add a) A) := ⟨_, rfl⟩
      have hfd := fun b (hb : b = wr.heap.size) => feedr_p _ [(l.drop a).take K] (piece HB.out MX.out hal hKl (fun k hk => (HF4.out k hk).1) HX2.out.lt hA3 hb) (HX2.out.low ((Mods.refl [] wr).alloc _)) (by rw [one_flat, hcl]; omega) (by simp)
      rw [one_flat, hr3] at hfd
      simp only at hfd
      unfold ptr at hfd
      have HFD2 := Lib.hid hfd
      have HA3 := Lib.hid hA3
      have hca : a + K ≤ c ∨ l.length = 0 := by rcases hcap with h | h; exact .inl (by omega); exact .inr h
      have HX2L := Lib.hid (fun W' => HX2.out.low (w' := W'))
      clear hfd hcl hr3 HC hA3
      by_cases hlt : i < xs.length
      · obtain ⟨b, o, x, rfl, hcell, hmin⟩ := HK1.out hlt
        go_upto_region 13 with (go_at_call 11; (try rw [← HA3.out]); refine (HFD2.out _ rfl).mono ?_; rintro z w5 ⟨rfl, hk⟩; have HQ2 := Lib.hid hk.out; clear hk)
        obtain ⟨F6, a6, hg6⟩ := HQ2.out
        have HG6 := Lib.hid ((HG4.out.low ((Mods.refl [] wr).alloc _)).trans hg6)
        have hph := phase_p a6
        unfold ptr at hph
        have HPH := Lib.hid hph
        have A6 := Lib.hid a6
        clear a6 hg6 hph HQ2
        have g5 : ¬ (K : Int) < (m : Int) := by omega
        have g6 : ¬ K < m := by omega
        by_cases hmk : m < K
        · have g3 : (m : Int) < (K : Int) := by omega
          have g7 : decide (((R.phase : Nat) : Int) < 3) = false := by have := HDN.out hmk; simp; omega
          generalize R.phase = ph at HPH g7
          go_wp2_with (go_at_call 19; refine HPH.out.mono ?_; rintro z w6 ⟨rfl, rfl⟩)
          go_roundw
          case rel => exact ⟨i + 1, a + m, R, by go_num, by go_num, by omega, by omega, HST1, Lib.hid ⟨F6, A6.out, HG6.out⟩⟩
          case measure => simp [intOf]; omega
        · have g3 : ¬ (m : Int) < (K : Int) := by omega
          go_wp2
          go_roundw
          case rel => exact ⟨i + 1, a + m, R, by go_num, by go_num, by omega, by omega, HST1, Lib.hid ⟨F6, A6.out, HG6.out⟩⟩
          case measure => simp [intOf]; omega
      · have hkk : (l.length : Int) - (a : Int) = (K : Int) := by have := HK2.out hlt; omega
        go_upto_region 13 with (go_at_call 11; (try rw [← HA3.out]); refine (HFD2.out _ rfl).mono ?_; rintro z w5 ⟨rfl, hk⟩; have HQ2 := Lib.hid hk.out; clear hk)
        obtain ⟨F6, a6, hg6⟩ := HQ2.out
        have HG6 := Lib.hid ((HG4.out.low ((Mods.refl [] wr).alloc _)).trans hg6)
        have hph := phase_p a6
        unfold ptr at hph
        have HPH := Lib.hid hph
        have A6 := Lib.hid a6
        clear a6 hg6 hph HQ2
        have g5 : ¬ (K : Int) < (m : Int) := by omega
        have g6 : ¬ K < m := by omega
        by_cases hmk : m < K
        · have g3 : (m : Int) < (K : Int) := by omega
          have g7 : decide (((R.phase : Nat) : Int) < 3) = false := by have := HDN.out hmk; simp; omega
          generalize R.phase = ph at HPH g7
          go_wp2_with (go_at_call 19; refine HPH.out.mono ?_; rintro z w6 ⟨rfl, rfl⟩)
          go_roundw
          case rel => exact ⟨i + 1, a + m, R, by go_num, by go_num, by omega, by omega, HST1, Lib.hid ⟨F6, A6.out, HG6.out⟩⟩
          case measure => simp [intOf]; omega
        · have g3 : ¬ (m : Int) < (K : Int) := by omega
          go_wp2
          go_roundw
          case rel => exact ⟨i + 1, a + m, R, by go_num, by go_num, by omega, by omega, HST1, Lib.hid ⟨F6, A6.out, HG6.out⟩⟩
          case measure => simp [intOf]; omega

theorem own : ownKnob Tryz.prog.godebug = none := by kernel_rfl
theorem laidOut : laidOutB Tryz.prog = true := by kernel_rfl
set_option maxRecDepth 100000 in
theorem lifted (os : Os) (started : os.Started) (H : Type) (enc : TypeId × Value → H) :
    ReturnsInHanded {} Tryz.checked os 4 .any (fun w args => (Rows.parseCutsSpec.pre enc Tryz.prog Tryz.f4 [] false w args ∧ laidMetH Tryz.prog Rows.parseCutsRow.laid w) ∧ sizedMet enc Tryz.prog Tryz.f4 (OpenSpec.ofChange Rows.parseCutsSpec) false w args)
      (Rows.parseCutsSpec.post enc Tryz.prog Tryz.f4 false true false false) := by
  refine returnsInHanded_of_change_and (C := Tryz.checked) (X := fun w _ => laidMetH Tryz.prog Rows.parseCutsRow.laid w) (fun _ _ _ hh h => h.of_heap hh) own started (by kernel_rfl) Tryz.func4
    (ChangeSpec.witness_shaped (enc := enc) (C := Tryz.checked) (os := os) (X := fun w _ => laidMetH Tryz.prog Rows.parseCutsRow.laid w) false (World.laidAll Tryz.prog os Rows.parseCutsRow.laid) #[.slice none 0 0, .slice none 0 0] 8 (World.laidAll_os _ _ _)
      (World.shaped_of_ZipB (by kernel_rfl) (by kernel_rfl)) (by kernel_rfl) (by kernel_rfl) (by kernel_rfl)
      (by rw [MakeChecks.laidMetH_plain _ _ _ (by kernel_rfl)]; exact laidMet_laidAll _ (by kernel_rfl) (by kernel_rfl))) ?_
  intro W base args ds gs before hval0 hW hcnd hsz0 hL _
  have hsz : (DataW.weightsEach Tryz.prog (Tryz.f4.params.toList ++ Rows.parseCutsSpec.plain.varTypes Tryz.prog) (ds ++ gs)).all (· ≤ reachBytes) = true := hsz0
  have hval : ∀ (j : Nat) t v, Tryz.f4.params[j]? = some t → args[j]? = some v → Value.okWide Tryz.prog W .any base t v := hval0
  have hW' := hW
  obtain ⟨p, q, hA0, hV, rfl, hfz, hnd⟩ := hW
  have hA : DataW.TrodAll enc Tryz.prog W 0 (fun _ => true) true Tryz.f4.params.toList args.toList ds p := hA0
  rw [Tryz.params4] at hA hval hsz
  obtain ⟨v0, vs0, d0, ds0, p0, q0, hargs, rfl, rfl, h0, r0⟩ := trodAll_cons hA
  obtain ⟨v1, vs1, d1, ds1, p1, q1, rfl, rfl, rfl, h1, r1⟩ := trodAll_cons r0
  obtain ⟨rfl, rfl, rfl⟩ := trodAll_nil r1
  obtain rfl : args = #[v0, v1] := by cases args; simp_all
  obtain ⟨rfl, rfl⟩ := trodVars_none hV
  have k0 := h0
  have lt0 : ∀ x ∈ p0, x.block < W.heap.size := by obtain ⟨m, hm⟩ := k0; exact DataW.trod_lt m _ _ _ hm
  obtain ⟨bl0, o0⟩ := open_bs14 (hval 0 22 v0 rfl rfl) k0 (fun n hn => by simpa using List.all_eq_true.1 hsz n (DataW.weights_mem_each (j := 0) (t := 22) rfl rfl n hn))
  have k1 := h1
  have lt1 : ∀ x ∈ p1, x.block < W.heap.size := by obtain ⟨m, hm⟩ := k1; exact DataW.trod_lt m _ _ _ hm
  obtain o1 := open_nums (hval 1 23 v1 rfl rfl) k1
  clear hA0 hval0 hsz0 hsz
  refine (walk W hL v0 bl0 o0 v1 o1).mono fun e W' ⟨he, bel⟩ => ?_
  subst he
  exact ⟨_, rfl, _, _, _, [], _, [], hW', trodAll_mk1 (shut_bool Tryz.underlying4 _), (trodAll_cons_mk (Below.trod laidOut (by kernel_rfl) (of_decide_eq_true (by kernel_rfl)) k0 bel lt0) (trodAll_cons_mk (Below.trod laidOut (by kernel_rfl) (of_decide_eq_true (by kernel_rfl)) k1 bel lt1) trodAll_mk0)), rfl, bel.frame _, fun h => by cases h⟩

theorem over : Rows.parseCutsRow.holds Tryz.pinned (OpenSpec.ofChange Rows.parseCutsSpec) :=
  OpenClaim.holds_of_wide 4 Tryz.f4 rfl rfl rfl rfl rfl rfl rfl ⟨rfl, rfl, rfl, rfl, rfl⟩ rfl rfl rfl rfl rfl (by kernel_rfl) Tryz.func4 (by kernel_rfl)
    (of_decide_eq_true (by kernel_rfl)) (by unfold Func.isWrapper; first | (rw [if_pos (by decide +kernel)]; kernel_rfl) | (rw [if_neg (by decide +kernel)]; exact ⟨rfl, rfl⟩))
    (fun os started H enc _ => lifted os started H enc)

theorem said : Rows.ParseCutsSaid := over
theorem plain (f : FuncId) (fn : Func) (hf : Tryz.pinned.checked.prog.funcNamed "usher/usherlaw15.ParseCuts" = some f) (hfn : Tryz.pinned.checked.prog.funcs[f]? = some fn) :
    false = Tryz.pinned.checked.prog.looks [] ∧ ∀ (j : Nat) t, fn.params[j]? = some t → Tryz.pinned.checked.prog.wantsStandIn t = false := by
  obtain rfl : f = 4 := Option.some.inj ((show Tryz.prog.funcNamed "usher/usherlaw15.ParseCuts" = some 4 by kernel_rfl).symm.trans hf) |>.symm
  obtain rfl : fn = Tryz.f4 := (Option.some.inj (Tryz.func4.symm.trans hfn)).symm
  refine ⟨by kernel_rfl, fun j t ht => ?_⟩
  rw [Tryz.params4] at ht
  have hm : t ∈ [22, 23] := by simpa using Array.mem_of_getElem? ht
  simp only [List.mem_cons, List.mem_nil_iff, or_false] at hm
  rcases hm with rfl | rfl
  · exact (show Tryz.prog.wantsStandIn 22 = false by kernel_rfl)
  · exact (show Tryz.prog.wantsStandIn 23 = false by kernel_rfl)
theorem proved : Rows.ParseCutsCardSaid :=
  Claim7.holds_tied_plain_at .later [] _ _ _ _ said (fun _ h => by cases h) (by kernel_rfl) (fun _ h => by cases h) parseCuts_row_tie rfl ⟨rfl, rfl⟩ (by kernel_rfl) rfl plain (by kernel_rfl)
end Go.Proofs.YtgkhelbpccehcaaGreatDoor.parseCuts
