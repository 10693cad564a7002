/- For every row of bytes, in two portions, the code's reader takes, tells and has what the document says: the law returns true. Condition: the library's tables are laid as its initialisers lay them. -/
import Derived.Test.YtdalomhcglbhjaaGreatDoorCards
import Derived.Test.YtdalomhcglbhjaaGreatDoorTie
import Derived.Lay
import Derived.LaidOnce
import Derived.MakeChecks
import Derived.SevenTiedAt
import Derived.WalkKit
import Derived.ProofKit
import Derived.OpenShut
import Derived.ShutString
import Derived.ChangeOld
import Derived.Below
import Derived.SizedLaws
import Derived.Test.YtdalomhcglbhjaaGreatDoorMQD
import Derived.Test.YtdalomhcglbhjaaGreatDoorMQC
import Derived.Carry
import Derived.Deep.CutBlock
import Derived.Deep.RegionHeld3
namespace Go.Proofs.YtdalomhcglbhjaaGreatDoor.chunkFeeds
open Go.ChangeShapes Go.WideShapes Go.ChangeAt Go.RowKit
open Go.ChangeMaps (open_string shut_string)
set_option linter.unusedVariables false
theorem and65535 (a : Int) : ∃ k : Nat, bits BinOp.and IntKind.i64 a 65535 = (k : Int) ∧ k ≤ 65535 := by
  have e : bits BinOp.and IntKind.i64 a 65535 = IntKind.i64.wrap ((BitVec.ofInt 64 a &&& BitVec.ofInt 64 65535).toNat : Int) := rfl
  have h : (BitVec.ofInt 64 a &&& BitVec.ofInt 64 65535).toNat ≤ 65535 := by
    rw [BitVec.toNat_and]
    refine Nat.le_trans Nat.and_le_right ?_
    rw [BitVec.toNat_ofInt]
    omega
  refine ⟨(BitVec.ofInt 64 a &&& BitVec.ofInt 64 65535).toNat, ?_, h⟩
  rw [e, IntKind.wrap_i64]
  omega
theorem newX (w : World) : CkR [w.heap.size] (w.alloc (.cells (rfCells 0 0 0 false 0 (.slice none 0 0) (.slice none 0 0) (.slice none 0 0)) 28)) w.heap.size newC :=
  ⟨⟨.slice none 0 0, .slice none 0 0, .slice none 0 0, [], 0, 0, 0, ⟨Row.new _ _ _, BRow.nil _, BRow.nil _, World.ownsRow_nil _ _ _ _, fun k hk => by simp [Value.ownBlock] at hk⟩, rfl, fun _ => ⟨rfl, rfl, fun _ => rfl, rfl⟩⟩, newC_ok⟩
theorem from_block {A : Option Addr} {c k n n' c' : Nat} {q : Nat} (h : q ∈ (Value.slice (if c = k then A else Option.map (fun x => x.add k) A) n' c').ownBlock.toList) : q ∈ (Value.slice A n c).ownBlock.toList := by
  cases A with
  | none => split at h <;> simp [Value.ownBlock] at h
  | some aa =>
    obtain ⟨ab, ao, asp⟩ := aa
    split at h
    · exact h
    · have e9 : ((⟨ab, ao, asp⟩ : Addr).add k).block = ab := by unfold Addr.add; split <;> rfl
      simpa [Value.ownBlock, e9] using h
theorem to_block {A : Option Addr} {c n n' c' : Nat} {q : Nat} (h : q ∈ (Value.slice A n' c').ownBlock.toList) : q ∈ (Value.slice A n c).ownBlock.toList := by
  rw [cut0_block A n c n' c']; exact h
/-- Both readers side by side, and the row with its mark: rc, rx what they are in plain terms. -/
structure St14 (w W : World) (F G : List Nat) (g xg : Nat) (wv : Value) (L : List UInt8) (rc rx : ChP) : Prop where
  c : CkA F W g rc
  x : CkR G W xg rx
  dis : ∀ k ∈ F, k ∉ G
  fn : ∀ k ∈ F, w.heap.size ≤ k
  gn : ∀ k ∈ G, w.heap.size ≤ k
  low : Mods [] w W
  wb : BsAt W wv L
  wd : ∀ k ∈ wv.ownBlock.toList, k ∉ F ∧ k ∉ G
  wl : ∀ k ∈ wv.ownBlock.toList, k < W.heap.size
theorem St14.quiet {w W W' : World} {F G : List Nat} {g xg : Nat} {wv : Value} {L : List UInt8} {rc rx : ChP} (s : St14 w W F G g xg wv L rc rx) (hm : Mods [] W W') : St14 w W' F G g xg wv L rc rx :=
  ⟨s.c.low hm, s.x.low hm, s.dis, s.fn, s.gn, s.low.trans hm (fun _ h => nomatch h), s.wb.low hm, s.wd, fun k hk => Nat.lt_of_lt_of_le (s.wl k hk) hm.size⟩
theorem St14.fedC {w W W' : World} {F G : List Nat} {g xg : Nat} {wv : Value} {L : List UInt8} {rc rx rc' : ChP} (s : St14 w W F G g xg wv L rc rx) (h : FedC F W g rc' W') : ∃ F', St14 w W' F' G g xg wv L rc' rx := by
  obtain ⟨F', a, hg⟩ := h
  exact ⟨F', a, s.x.mods hg.mods (fun k hk hk2 => s.dis k hk2 hk), fun k hk => by
    rcases hg.news k hk with h | h
    · exact s.dis k h
    · exact fun h2 => by have := s.x.lt k h2; omega, fun k hk => by
    rcases hg.news k hk with h | h
    · exact s.fn k h
    · have := s.low.size; omega, s.gn, s.low.trans hg.mods (fun k hk => .inr (s.fn k hk)), s.wb.mods hg.mods (fun k hk => (s.wd k hk).1), fun k hk => ⟨fun h2 => by
    rcases hg.news k h2 with h | h
    · exact (s.wd k hk).1 h
    · have := s.wl k hk; omega, (s.wd k hk).2⟩, fun k hk => Nat.lt_of_lt_of_le (s.wl k hk) hg.mods.size⟩
theorem St14.fedX {w W W' : World} {F G : List Nat} {g xg : Nat} {wv : Value} {L : List UInt8} {rc rx rx' : ChP} (s : St14 w W F G g xg wv L rc rx) (h : FedX G W xg rx' W') : ∃ G', St14 w W' F G' g xg wv L rc rx' := by
  obtain ⟨G', a, hg⟩ := h
  exact ⟨G', s.c.mods hg.mods (fun k hk hk2 => s.dis k hk hk2), a, fun k hk hk2 => by
    rcases hg.news k hk2 with h | h
    · exact s.dis k hk h
    · have := s.c.lt k hk; omega, s.fn, fun k hk => by
    rcases hg.news k hk with h | h
    · exact s.gn k h
    · have := s.low.size; omega, s.low.trans hg.mods (fun k hk => .inr (s.gn k hk)), s.wb.mods hg.mods (fun k hk => (s.wd k hk).2), fun k hk => ⟨(s.wd k hk).1, fun h2 => by
    rcases hg.news k h2 with h | h
    · exact (s.wd k hk).2 h
    · have := s.wl k hk; omega⟩, fun k hk => Nat.lt_of_lt_of_le (s.wl k hk) hg.mods.size⟩
set_option maxRecDepth 100000 in
set_option maxHeartbeats 16000000 in
theorem walk (w : World) (hL : laidMetH Tryz.prog Rows.chunkFeedsRow.laid w) (v : Value) (l : List UInt8) (hb : BsAt w v l) (z : Int) (hz : (Lit.int .i64 z).wf = true) :
    Calls Tryz.prog 3 #[v, .int .i64 z] w fun e w' => e = .returned (.bool true) ∧ Below w.heap.size w w' := by
  rw [MakeChecks.laidMetH_plain _ _ _ (by kernel_rfl)] at hL
  have HT := Lib.hid (tz_of14 hL rfl)
  have HB := Lib.hid hb
  obtain ⟨A, c, rfl⟩ := hb.len
  clear hL hb hz
  by_cases hl : 4000 < l.length
  · have g1 : (4000 : Int) < (l.length : Int) := by omega
    clear hl
    go_enter Tryz.func3, Tryz.ntmps3
    go_wp2
    go_ret
    exact ⟨rfl, Below.refl _ _⟩
  have g1 : ¬ (4000 : Int) < (l.length : Int) := by omega
  have hlb : l.length ≤ 4000 := by omega
  have hcap : l.length ≤ c ∨ l.length = 0 := by
    rcases HB.out with ⟨e, _⟩ | ⟨_, _, _, hv, _, _, h1, _⟩
    · rw [e]; exact .inr rfl
    · injection hv with _ _ e; exact .inl (by omega)
  obtain ⟨K0, hK0, hK1⟩ := and65535 z
  obtain ⟨K, hK⟩ : ∃ K, K = K0 % (l.length + 1) := ⟨_, rfl⟩
  have hKl : K ≤ l.length := by rw [hK]; have := Nat.mod_lt K0 (show 0 < l.length + 1 by omega); omega
  have HN := Lib.hid (fun w => new_c w)
  unfold ptr at HN
  clear hl
  have hrem : (K0 : Int) % ((l.length : Int) + 1) = (K : Int) := by rw [hK, Int.natCast_emod]; rfl
  have hkc : (K : Int) ≤ (c : Int) ∨ l.length = 0 := by rcases hcap with h | h; exact .inl (by omega); exact .inr h
  clear hK
  go_enter Tryz.func3, Tryz.ntmps3
  go_upto_region 5 with (go_at_call 5; refine (HN.out _).mono ?_; rintro q w1 ⟨g, F, rfl, hk⟩; have HA := Lib.hid hk.out; clear hk)
  clear hK0 hK1 hrem g1
  have nx := newX w1
  have mx : Mods [] w1 (w1.alloc (.cells (rfCells 0 0 0 false 0 (.slice none 0 0) (.slice none 0 0) (.slice none 0 0)) 28)) := (Mods.refl [] w1).alloc _
  unfold rfCells at nx mx
  obtain ⟨W1, hW1⟩ : ∃ W1, W1 = w1.alloc (.cells #[.slice none 0 0, .slice none 0 0, .bool false, .int .i64 0, .int .i64 ((0 : Nat) : Int), .slice none 0 0, .int .i64 ((0 : Nat) : Int), .int .i64 ((0 : Nat) : Int)] 28) := ⟨_, rfl⟩
  obtain ⟨xg, hxg⟩ : ∃ xg, xg = w1.heap.size := ⟨_, rfl⟩
  rw [← hW1, ← hxg] at nx
  rw [← hW1] at mx
  simp only [Int.natCast_zero] at hW1
  rw [← hW1, ← hxg]
  have HNX := Lib.hid nx
  have MX1 := Lib.hid mx
  have HXG := Lib.hid hxg
  clear nx mx hW1 hxg
  have M1 := Lib.hid (HA.out.2.1.trans MX1.out (fun _ h => nomatch h))
  have HRM := Lib.hid (roomy_l l _ W1 (HB.out.low M1.out) (by omega))
  go_upto_region 6 with (go_at_call 6; refine HRM.out.mono ?_; rintro q w2 ⟨wa, wc, rfl, hk⟩; have HR := Lib.hid hk.out; clear hk)
  have S0 := Lib.hid (show St14 w w2 F [xg] g xg (.slice wa (l.length + 1) wc) (l ++ [171]) newC newC from
    ⟨(HA.out.1.low MX1.out).low HR.out.2.1, HNX.out.low HR.out.2.1, fun k hk hk2 => by have h1 := HA.out.1.lt k hk; rw [List.mem_singleton] at hk2; have := HXG.out; omega, HA.out.2.2, fun k hk => by rw [List.mem_singleton] at hk; have h1 := HXG.out; have h2 := HA.out.2.1.size; omega, M1.out.trans HR.out.2.1 (fun _ h => nomatch h), HR.out.1,
      fun k hk => by
        have h1 := HR.out.2.2 k hk
        have h2 := MX1.out.size
        exact ⟨fun hF => by have := HA.out.1.lt k hF; omega, fun hG => by rw [List.mem_singleton] at hG; have h3 := HNX.out.lt xg (by simp); omega⟩,
      HR.out.1.lt (by simp)⟩)
  have hwc : l.length + 1 ≤ wc := by
    rcases HR.out.1 with ⟨e, _⟩ | ⟨_, _, _, hv, _, _, h1, _⟩
    · simp at e
    · injection hv with _ _ e; rw [List.length_append] at h1; simp at h1; omega
  have HOK0 := Lib.hid (show ∀ p ∈ newC.trail, okF p = true from fun p hp => nomatch hp)
  clear HRM HNX HA
  go_upto_region 7 with fail
  refine wp_loop_rounds 3 ?_
  rw [rounds_succ]
  obtain ⟨r1, n1, hr1⟩ : ∃ r1 n1, feedP newC (l.take K) = (r1, n1) := ⟨_, _, rfl⟩
  have HOK1 := Lib.hid (show ∀ p ∈ r1.trail, okF p = true by have := feed_trail (l.take K) newC HOK0.out; rw [hr1] at this; exact this)
  have hfc1 := feed_c (.slice wa K wc) (l.take K) (by have := S0.out.wb.to K (by omega); rw [List.take_append_of_le_length hKl] at this; exact this) (fun _ k hk => (S0.out.wd k (to_block hk)).1) S0.out.c (by rw [List.length_take]; omega)
  rw [hr1] at hfc1
  simp only at hfc1
  unfold ptr at hfc1
  have HFC1 := Lib.hid hfc1
  have HRR1 := Lib.hid hr1
  clear hfc1 hr1
  go_upto_region 15 with (first
    | (go_at_call 7; refine HFC1.out.mono ?_; rintro q w51 ⟨rfl, hk⟩; obtain ⟨F51, s5⟩ := S0.out.fedC hk.out; have S51 := Lib.hid s5; have hfx := feed_x (.slice A K c) (l.take K) ((HB.out.low S51.out.low).to K hKl) (fun h0 k hk hk2 => by have h1 := S51.out.gn k hk2; have h2 := HB.out.lt (by rw [List.length_take] at h0; omega) k (to_block hk); omega) S51.out.x (by rw [List.length_take]; omega); rw [HRR1.out] at hfx; simp only at hfx; unfold ptr at hfx; have HFX1 := Lib.hid hfx; clear hk s5 hfx)
    | (go_at_call 8; refine HFX1.out.mono ?_; rintro q w61 ⟨rfl, hk⟩; obtain ⟨G61, s6⟩ := S51.out.fedX hk.out; have S61 := Lib.hid s6; clear hk s6))
  clear HFC1
  obtain ⟨vl1, vb1, vt1, L1, st1, lf1, e1, cx1, -, -⟩ := S61.out.x.ex
  have x0 : w61.cell? ⟨xg, 0, none⟩ = some vb1 := (CkX.facts cx1).1
  have x1 : w61.cell? ⟨xg, 1, none⟩ = some vt1 := (CkX.facts cx1).2.1
  have HBA1 := Lib.hid cx1.body.at
  have HTA1 := Lib.hid (FsAt.of_row cx1.trail)
  obtain ⟨ba1, bc1, rfl⟩ := HBA1.out.len
  obtain ⟨ta1, tc1, rfl⟩ := HTA1.out.len
  have h81 := S61.out.c.ok.len
  have H81 := Lib.hid h81
  clear cx1 h81
  have HBD := Lib.hid (fun W' (hm : Mods [] w61 W') => body_c (S61.out.c.low hm))
  have HSB := Lib.hid (fun va W' (h1 : BsAt W' va r1.body) (hm : Mods [] w61 W') => same_l14 r1.body r1.body va _ W' h1 (HBA1.out.low hm) (r := true) (decide_eq_true rfl))
  have HTR := Lib.hid (fun W' (hm : Mods [] w61 W') => trailers_c (S61.out.c.low hm) HOK1.out)
  have HFL := Lib.hid (fun va W' (h1 : FsAt W' va r1.trail) (hm : Mods [] w61 W') => fields_l14 r1.trail r1.trail va _ W' h1 (HTA1.out.low hm) (by have := H81.out; omega) (by have := H81.out; omega))
  rw [decide_eq_true (rfl : r1.trail = r1.trail)] at HFL
  unfold ptr at HBD HTR
  obtain ⟨nb1, hnb⟩ : ∃ n, n = r1.body.length := ⟨_, rfl⟩
  obtain ⟨nt1, hnt⟩ : ∃ n, n = r1.trail.length := ⟨_, rfl⟩
  rw [← hnb] at x0 HSB
  rw [← hnt] at x1 HTR HFL
  have HNB1 := Lib.hid hnb
  have HNT1 := Lib.hid hnt
  obtain ⟨bw1, hbw⟩ : ∃ b, b = r1.whole := ⟨_, rfl⟩
  obtain ⟨bt1, hbt⟩ : ∃ b, b = r1.status := ⟨_, rfl⟩
  rw [← hbw, ← hbt]
  clear hnb hnt hbw hbt
  go_region_held3 (fun w' => w'.cell? ⟨xg, 0, none⟩ = some (.slice ba1 nb1 bc1) ∧ w'.cell? ⟨xg, 1, none⟩ = some (.slice ta1 nt1 tc1)) (go_keep) (first
    | (go_at_call 10; refine (HBD.out _ (by first | exact (Mods.refl [] w61).drew | exact Mods.refl [] w61)).mono ?_; rintro e w71 ⟨u, rfl, hk⟩; have M71 := Lib.hid (show Mods [] w61 w71 from by first | exact (Mods.refl [] w61).drew.trans hk.out.mods (fun _ h => nomatch h) | exact hk.out.mods); have HU1 := Lib.hid hk.out.at; obtain ⟨ua, uc, rfl⟩ := hk.out.form; have x0b := cell_mods x0 M71.out (by simp); have x1b := cell_mods x1 M71.out (by simp); clear hk)
    | (go_at_call 9; refine (HSB.out _ _ (by first | exact HU1.out | exact HU1.out.low (Mods.refl [] _).drew) (by first | exact M71.out | exact M71.out.drew)).mono ?_; rintro e w81 ⟨rfl, hd⟩; have M81 := Lib.hid (show Mods [] w61 w81 from by first | exact M71.out.trans hd.mods (fun _ h => nomatch h) | exact M71.out.drew.trans hd.mods (fun _ h => nomatch h)); have x0c := cell_mods x0 M81.out (by simp); have x1c := cell_mods x1 M81.out (by simp); clear hd)
    | (go_at_call 12; refine (HTR.out _ (by first | exact M81.out | exact M81.out.drew)).mono ?_; rintro e w91 ⟨B9, rfl, hk⟩; have M91 := Lib.hid (show Mods [] w61 w91 from by first | exact M81.out.trans hk.out.low (fun _ h => nomatch h) | exact M81.out.drew.trans hk.out.low (fun _ h => nomatch h)); have HF91 := Lib.hid (show FsAt w91 (.slice (some ⟨B9, 0, none⟩) nt1 nt1) r1.trail from FsAt.of_row (by rw [← HNT1.out]; exact hk.out.row)); have x0d := cell_mods x0 M91.out (by simp); have x1d := cell_mods x1 M91.out (by simp); clear hk)
    | (go_at_call 11; refine (HFL.out _ _ (by first | exact HF91.out | exact HF91.out.low (Mods.refl [] _).drew) (by first | exact M91.out | exact M91.out.drew)).mono ?_; rintro e wA1 ⟨rfl, hd⟩; have MA1 := Lib.hid (show Mods [] w61 wA1 from by first | exact M91.out.trans hd.mods (fun _ h => nomatch h) | exact M91.out.drew.trans hd.mods (fun _ h => nomatch h)); have x0e := cell_mods x0 MA1.out (by simp); have x1e := cell_mods x1 MA1.out (by simp); clear hd))
  have S1 := Lib.hid (S61.out.quiet MA1.out)
  clear x0 x1 x0b x1b x0c x1c x0d x1d x0e x1e HBD HSB HTR HFL
  go_wp2
  rw [rounds_succ]
  go_upto_region 12 with fail
  have q1 : (0 : Int) ≤ (K : Int) := by omega
  have q2 : (K : Int) ≤ (l.length : Int) := by omega
  have q3 : (l.length : Int) ≤ (wc : Int) := by omega
  have q4 : (0 : Int) ≤ (l.length : Int) := by omega
  have q5 : ¬ wc = K := by omega
  go_quiet (fail)
  clear q1 q2 q3 q4
  obtain ⟨A9, hA9⟩ : ∃ x, x = (if c = K then A else Option.map (fun x => x.add K) A) := ⟨_, rfl⟩
  rw [← hA9]
  have HA9 := Lib.hid hA9
  clear hA9
  have SQ := Lib.hid (S1.out.quiet ((Mods.refl [] wA1).drewN nq))
  obtain ⟨r2, n2, hr2⟩ : ∃ r2 n2, feedP r1 (l.drop K) = (r2, n2) := ⟨_, _, rfl⟩
  have HOK2 := Lib.hid (show ∀ p ∈ r2.trail, okF p = true by have := feed_trail (l.drop K) r1 HOK1.out; rw [hr2] at this; exact this)
  have hfc2 := feed_c (.slice (Option.map (fun x => x.add K) wa) (l.length - K) (wc - K)) (l.drop K) (by have := (SQ.out.wb.from' K (by omega) rfl (l.length + 1 - K) (wc - K) rfl rfl).to (l.length - K) (by omega); rw [List.drop_append_of_le_length hKl, List.take_left' (by rw [List.length_drop]), if_neg q5] at this; exact this) (fun _ k hk => (SQ.out.wd k (from_block (c := wc) (k := K) (by rw [if_neg q5]; exact hk))).1) SQ.out.c (by rw [List.length_drop]; omega)
  rw [hr2] at hfc2
  simp only at hfc2
  unfold ptr at hfc2
  have HFC2 := Lib.hid hfc2
  have HRR2 := Lib.hid hr2
  clear hfc2 hr2
  go_upto_region 15 with (first
    | (go_at_call 7; refine HFC2.out.mono ?_; rintro q w52 ⟨rfl, hk⟩; obtain ⟨F52, s5⟩ := SQ.out.fedC hk.out; have S52 := Lib.hid s5; have hfx := feed_x (.slice A9 (l.length - K) (c - K)) (l.drop K) ((HB.out.low S52.out.low).from' K hKl HA9.out (l.length - K) (c - K) rfl rfl) (fun h0 k hk hk2 => by have h1 := S52.out.gn k hk2; have h2 := HB.out.lt (by rw [List.length_drop] at h0; omega) k (from_block (c := c) (k := K) (by rw [← HA9.out]; exact hk)); omega) S52.out.x (by rw [List.length_drop]; omega); rw [HRR2.out] at hfx; simp only at hfx; unfold ptr at hfx; have HFX2 := Lib.hid hfx; clear hk s5 hfx)
    | (go_at_call 8; refine HFX2.out.mono ?_; rintro q w62 ⟨rfl, hk⟩; obtain ⟨G62, s6⟩ := S52.out.fedX hk.out; have S62 := Lib.hid s6; clear hk s6))
  clear HFC2
  obtain ⟨vl2, vb2, vt2, L2, st2, lf2, e2, cx2, -, -⟩ := S62.out.x.ex
  have x0 : w62.cell? ⟨xg, 0, none⟩ = some vb2 := (CkX.facts cx2).1
  have x1 : w62.cell? ⟨xg, 1, none⟩ = some vt2 := (CkX.facts cx2).2.1
  have HBA2 := Lib.hid cx2.body.at
  have HTA2 := Lib.hid (FsAt.of_row cx2.trail)
  obtain ⟨ba2, bc2, rfl⟩ := HBA2.out.len
  obtain ⟨ta2, tc2, rfl⟩ := HTA2.out.len
  have h82 := S62.out.c.ok.len
  have H82 := Lib.hid h82
  clear cx2 h82
  have HBD := Lib.hid (fun W' (hm : Mods [] w62 W') => body_c (S62.out.c.low hm))
  have HSB := Lib.hid (fun va W' (h1 : BsAt W' va r2.body) (hm : Mods [] w62 W') => same_l14 r2.body r2.body va _ W' h1 (HBA2.out.low hm) (r := true) (decide_eq_true rfl))
  have HTR := Lib.hid (fun W' (hm : Mods [] w62 W') => trailers_c (S62.out.c.low hm) HOK2.out)
  have HFL := Lib.hid (fun va W' (h1 : FsAt W' va r2.trail) (hm : Mods [] w62 W') => fields_l14 r2.trail r2.trail va _ W' h1 (HTA2.out.low hm) (by have := H82.out; omega) (by have := H82.out; omega))
  rw [decide_eq_true (rfl : r2.trail = r2.trail)] at HFL
  unfold ptr at HBD HTR
  obtain ⟨nb2, hnb⟩ : ∃ n, n = r2.body.length := ⟨_, rfl⟩
  obtain ⟨nt2, hnt⟩ : ∃ n, n = r2.trail.length := ⟨_, rfl⟩
  rw [← hnb] at x0 HSB
  rw [← hnt] at x1 HTR HFL
  have HNB2 := Lib.hid hnb
  have HNT2 := Lib.hid hnt
  obtain ⟨bw2, hbw⟩ : ∃ b, b = r2.whole := ⟨_, rfl⟩
  obtain ⟨bt2, hbt⟩ : ∃ b, b = r2.status := ⟨_, rfl⟩
  rw [← hbw, ← hbt]
  clear hnb hnt hbw hbt
  go_region_held3 (fun w' => w'.cell? ⟨xg, 0, none⟩ = some (.slice ba2 nb2 bc2) ∧ w'.cell? ⟨xg, 1, none⟩ = some (.slice ta2 nt2 tc2)) (go_keep) (first
    | (go_at_call 10; refine (HBD.out _ (by first | exact (Mods.refl [] w62).drew | exact Mods.refl [] w62)).mono ?_; rintro e w72 ⟨u, rfl, hk⟩; have M72 := Lib.hid (show Mods [] w62 w72 from by first | exact (Mods.refl [] w62).drew.trans hk.out.mods (fun _ h => nomatch h) | exact hk.out.mods); have HU2 := Lib.hid hk.out.at; obtain ⟨ua, uc, rfl⟩ := hk.out.form; have x0b := cell_mods x0 M72.out (by simp); have x1b := cell_mods x1 M72.out (by simp); clear hk)
    | (go_at_call 9; refine (HSB.out _ _ (by first | exact HU2.out | exact HU2.out.low (Mods.refl [] _).drew) (by first | exact M72.out | exact M72.out.drew)).mono ?_; rintro e w82 ⟨rfl, hd⟩; have M82 := Lib.hid (show Mods [] w62 w82 from by first | exact M72.out.trans hd.mods (fun _ h => nomatch h) | exact M72.out.drew.trans hd.mods (fun _ h => nomatch h)); have x0c := cell_mods x0 M82.out (by simp); have x1c := cell_mods x1 M82.out (by simp); clear hd)
    | (go_at_call 12; refine (HTR.out _ (by first | exact M82.out | exact M82.out.drew)).mono ?_; rintro e w92 ⟨B9, rfl, hk⟩; have M92 := Lib.hid (show Mods [] w62 w92 from by first | exact M82.out.trans hk.out.low (fun _ h => nomatch h) | exact M82.out.drew.trans hk.out.low (fun _ h => nomatch h)); have HF92 := Lib.hid (show FsAt w92 (.slice (some ⟨B9, 0, none⟩) nt2 nt2) r2.trail from FsAt.of_row (by rw [← HNT2.out]; exact hk.out.row)); have x0d := cell_mods x0 M92.out (by simp); have x1d := cell_mods x1 M92.out (by simp); clear hk)
    | (go_at_call 11; refine (HFL.out _ _ (by first | exact HF92.out | exact HF92.out.low (Mods.refl [] _).drew) (by first | exact M92.out | exact M92.out.drew)).mono ?_; rintro e wA2 ⟨rfl, hd⟩; have MA2 := Lib.hid (show Mods [] w62 wA2 from by first | exact M92.out.trans hd.mods (fun _ h => nomatch h) | exact M92.out.drew.trans hd.mods (fun _ h => nomatch h)); have x0e := cell_mods x0 MA2.out (by simp); have x1e := cell_mods x1 MA2.out (by simp); clear hd))
  have S2 := Lib.hid (S62.out.quiet MA2.out)
  clear x0 x1 x0b x1b x0c x1c x0d x1d x0e x1e HBD HSB HTR HFL
  go_wp2
  rw [rounds_succ]
  obtain ⟨r3, n3, hr3⟩ : ∃ r3 n3, feedP r2 [65] = (r3, n3) := ⟨_, _, rfl⟩
  have hfc3 := feed_c (.slice (some ⟨wA2.heap.size, 0, none⟩) 1 1) [65] (BsAt.new wA2 [65] (by decide) (by decide)) (fun _ k hk hk2 => by have := S2.out.c.lt k hk2; simp [Value.ownBlock] at hk; omega) (S2.out.c.low ((Mods.refl [] wA2).alloc _)) (by simp)
  rw [hr3] at hfc3
  simp only at hfc3
  unfold ptr at hfc3
  have SA := Lib.hid (S2.out.quiet ((Mods.refl [] wA2).alloc (.cells #[.int .u8 65] 5)))
  have HFC3 := Lib.hid hfc3
  have HRR3 := Lib.hid hr3
  clear hfc3 hr3
  go_upto_region 19 with (first
    | (go_at_call 7; refine HFC3.out.mono ?_; rintro q w53 ⟨rfl, hk⟩; obtain ⟨F53, s5⟩ := SA.out.fedC hk.out; have S53 := Lib.hid s5; have SB := Lib.hid (s5.quiet ((Mods.refl [] w53).alloc (.cells #[.int .u8 65] 5))); have hfx := feed_x (.slice (some ⟨w53.heap.size, 0, none⟩) 1 1) [65] (BsAt.new w53 [65] (by decide) (by decide)) (fun _ k hk hk2 => by have := S53.out.x.lt k hk2; simp [Value.ownBlock] at hk; omega) (S53.out.x.low ((Mods.refl [] w53).alloc _)) (by simp); rw [HRR3.out] at hfx; simp only at hfx; unfold ptr at hfx; have HFX3 := Lib.hid hfx; clear hk s5 hfx)
    | (go_at_call 8; refine HFX3.out.mono ?_; rintro q w63 ⟨rfl, hk⟩; obtain ⟨G63, s6⟩ := SB.out.fedX hk.out; have S63 := Lib.hid s6; clear hk s6))
  clear HFC3
  have HST := Lib.hid (fun W' (hm : Mods [] w63 W') => stands_l l wa wc (.slice A l.length c) W' (S63.out.wb.low hm) (HB.out.low (S63.out.low.trans hm (fun _ h => nomatch h))) (by omega))
  go_wp2_with (first
    | (go_at_call 13; refine (HST.out _ (by first | exact Mods.refl [] w63 | exact (Mods.refl [] w63).drew)).mono ?_; rintro q w7 ⟨rfl, hd⟩; have M7 := Lib.hid (show Mods [] w63 w7 from by first | exact hd.mods | exact (Mods.refl [] w63).drew.trans hd.mods (fun _ h => nomatch h)); clear hd)
    | (go_at_call 14; refine (known_14 _ (HT.out.low (S63.out.low.trans M7.out (fun _ h => nomatch h)))).mono ?_; rintro q w8 ⟨rfl, hm⟩; have M8 := Lib.hid (M7.out.trans hm (fun _ h => nomatch h)); clear hm))
  go_ret
  exact ⟨rfl, (S63.out.low.trans M8.out (fun _ h => nomatch h)).below⟩


theorem own : ownKnob Tryz.prog.godebug = none := by kernel_rfl
theorem laidOut : laidOutB Tryz.prog = true := by kernel_rfl
set_option maxRecDepth 100000 in
theorem lifted (os : Os) (started : os.Started) (H : Type) (enc : TypeId × Value → H) :
    ReturnsInHanded {} Tryz.checked os 3 .any (fun w args => (Rows.chunkFeedsSpec.pre enc Tryz.prog Tryz.f3 [] false w args ∧ laidMetH Tryz.prog Rows.chunkFeedsRow.laid w) ∧ sizedMet enc Tryz.prog Tryz.f3 (OpenSpec.ofChange Rows.chunkFeedsSpec) false w args)
      (Rows.chunkFeedsSpec.post enc Tryz.prog Tryz.f3 false true false false) := by
  refine returnsInHanded_of_change_and (C := Tryz.checked) (X := fun w _ => laidMetH Tryz.prog Rows.chunkFeedsRow.laid w) (fun _ _ _ hh h => h.of_heap hh) own started (by kernel_rfl) Tryz.func3
    (ChangeSpec.witness_shaped (enc := enc) (C := Tryz.checked) (os := os) (X := fun w _ => laidMetH Tryz.prog Rows.chunkFeedsRow.laid w) false (World.laidAll Tryz.prog os Rows.chunkFeedsRow.laid) #[.slice none 0 0, .int .i64 0] 8 (World.laidAll_os _ _ _)
      (World.shaped_of_ZipB (by kernel_rfl) (by kernel_rfl)) (by kernel_rfl) (by kernel_rfl) (by kernel_rfl)
      (by rw [MakeChecks.laidMetH_plain _ _ _ (by kernel_rfl)]; exact laidMet_laidAll _ (by kernel_rfl) (by kernel_rfl))) ?_
  intro W base args ds gs before hval0 hW hcnd hsz0 hL _
  have hsz : (DataW.weightsEach Tryz.prog (Tryz.f3.params.toList ++ Rows.chunkFeedsSpec.plain.varTypes Tryz.prog) (ds ++ gs)).all (· ≤ reachBytes) = true := hsz0
  have hval : ∀ (j : Nat) t v, Tryz.f3.params[j]? = some t → args[j]? = some v → Value.okWide Tryz.prog W .any base t v := hval0
  have hW' := hW
  obtain ⟨p, q, hA0, hV, rfl, hfz, hnd⟩ := hW
  have hA : DataW.TrodAll enc Tryz.prog W 0 (fun _ => true) true Tryz.f3.params.toList args.toList ds p := hA0
  rw [Tryz.params3] at hA hval hsz
  obtain ⟨v0, vs0, d0, ds0, p0, q0, hargs, rfl, rfl, h0, r0⟩ := trodAll_cons hA
  obtain ⟨v1, vs1, d1, ds1, p1, q1, rfl, rfl, rfl, h1, r1⟩ := trodAll_cons r0
  obtain ⟨rfl, rfl, rfl⟩ := trodAll_nil r1
  obtain rfl : args = #[v0, v1] := by cases args; simp_all
  obtain ⟨rfl, rfl⟩ := trodVars_none hV
  have k0 := h0
  have lt0 : ∀ x ∈ p0, x.block < W.heap.size := by obtain ⟨m, hm⟩ := k0; exact DataW.trod_lt m _ _ _ hm
  obtain ⟨bl0, o0⟩ := open_bs14 (hval 0 22 v0 rfl rfl) k0 (fun n hn => by simpa using List.all_eq_true.1 hsz n (DataW.weights_mem_each (j := 0) (t := 22) rfl rfl n hn))
  obtain ⟨a1, rfl, rfl, rfl, w1⟩ := open_int Tryz.underlying3 (hval 1 3 v1 rfl rfl) h1
  clear hA0 hval0 hsz0 hsz
  refine (walk W hL v0 bl0 o0 a1 w1).mono fun e W' ⟨he, bel⟩ => ?_
  subst he
  exact ⟨_, rfl, _, _, _, [], _, [], hW', trodAll_mk1 (shut_bool Tryz.underlying4 _), (trodAll_cons_mk (Below.trod laidOut (by kernel_rfl) (of_decide_eq_true (by kernel_rfl)) k0 bel lt0) (trodAll_cons_mk (shut_int Tryz.underlying3 w1) trodAll_mk0)), rfl, bel.frame _, fun h => by cases h⟩

theorem over : Rows.chunkFeedsRow.holds Tryz.pinned (OpenSpec.ofChange Rows.chunkFeedsSpec) :=
  OpenClaim.holds_of_wide 3 Tryz.f3 rfl rfl rfl rfl rfl rfl rfl ⟨rfl, rfl, rfl, rfl, rfl⟩ rfl rfl rfl rfl rfl (by kernel_rfl) Tryz.func3 (by kernel_rfl)
    (of_decide_eq_true (by kernel_rfl)) (by unfold Func.isWrapper; first | (rw [if_pos (by decide +kernel)]; kernel_rfl) | (rw [if_neg (by decide +kernel)]; exact ⟨rfl, rfl⟩))
    (fun os started H enc _ => lifted os started H enc)

theorem said : Rows.ChunkFeedsSaid := over
theorem plain (f : FuncId) (fn : Func) (hf : Tryz.pinned.checked.prog.funcNamed "usher/usherlaw14.ChunkFeeds" = some f) (hfn : Tryz.pinned.checked.prog.funcs[f]? = some fn) :
    false = Tryz.pinned.checked.prog.looks [] ∧ ∀ (j : Nat) t, fn.params[j]? = some t → Tryz.pinned.checked.prog.wantsStandIn t = false := by
  obtain rfl : f = 3 := Option.some.inj ((show Tryz.prog.funcNamed "usher/usherlaw14.ChunkFeeds" = some 3 by kernel_rfl).symm.trans hf) |>.symm
  obtain rfl : fn = Tryz.f3 := (Option.some.inj (Tryz.func3.symm.trans hfn)).symm
  refine ⟨by kernel_rfl, fun j t ht => ?_⟩
  rw [Tryz.params3] at ht
  have hm : t ∈ [22, 3] := by simpa using Array.mem_of_getElem? ht
  simp only [List.mem_cons, List.mem_nil_iff, or_false] at hm
  rcases hm with rfl | rfl
  · exact (show Tryz.prog.wantsStandIn 22 = false by kernel_rfl)
  · exact (show Tryz.prog.wantsStandIn 3 = false by kernel_rfl)
theorem proved : Rows.ChunkFeedsCardSaid :=
  Claim7.holds_tied_plain_at .later [] _ _ _ _ said (fun _ h => by cases h) (by kernel_rfl) (fun _ h => by cases h) chunkFeeds_row_tie rfl ⟨rfl, rfl⟩ (by kernel_rfl) rfl plain (by kernel_rfl)
end Go.Proofs.YtdalomhcglbhjaaGreatDoor.chunkFeeds
