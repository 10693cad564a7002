/- For every row of bytes, fed in portions with requests taken as they come, the code's parser takes, tells and gives what the document says: the law returns true. -/
import Derived.Test.YtgkhelbpccehcaaGreatDoorCards
import Derived.Test.YtgkhelbpccehcaaGreatDoorTie
import Derived.Lay
import Derived.LaidOnce
import Derived.MakeChecks
import Derived.SevenTiedAt
import Derived.WalkKit
import Derived.ProofKit
import Derived.OpenShut
import Derived.ShutString
import Derived.ChangeOld
import Derived.Below
import Derived.SizedLaws
import Derived.Test.YtgkhelbpccehcaaGreatDoorMQL
import Derived.Test.YtgkhelbpccehcaaGreatDoorMQH
import Derived.Test.YtgkhelbpccehcaaGreatDoorOpenN
import Derived.Test.YtgkhelbpccehcaaGreatDoorMQI
import Derived.Carry
import Derived.Deep.CutBlock
import Derived.Deep.RegionHeld3
namespace Go.Proofs.YtgkhelbpccehcaaGreatDoor.parseFeeds
open Go.ChangeShapes Go.WideShapes Go.ChangeAt Go.RowKit
open Go.ChangeMaps (open_string shut_string)
set_option linter.unusedVariables false
theorem and63 (a : Int) : ∃ k : Nat, bits BinOp.and IntKind.i64 a 63 = (k : Int) ∧ k ≤ 63 := by
  have e : bits BinOp.and IntKind.i64 a 63 = IntKind.i64.wrap ((BitVec.ofInt 64 a &&& BitVec.ofInt 64 63).toNat : Int) := rfl
  have h : (BitVec.ofInt 64 a &&& BitVec.ofInt 64 63).toNat ≤ 63 := by
    rw [BitVec.toNat_and]
    refine Nat.le_trans Nat.and_le_right ?_
    rw [BitVec.toNat_ofInt]
    omega
  refine ⟨(BitVec.ofInt 64 a &&& BitVec.ofInt 64 63).toNat, ?_, h⟩
  rw [e, IntKind.wrap_i64]
  omega
/-- Numbers that came in, by list. -/
theorem ints15 {W : World} {v : Value} (h : IsInts W v) : ∃ (A : Option Addr) (C : Nat) (xs : List Int), v = .slice A xs.length C ∧ ∀ j (h : j < xs.length), ∃ b o, A = some ⟨b, o, none⟩ ∧ b < W.heap.size ∧ W.cell? ⟨b, o + j, none⟩ = some (.int .i64 xs[j]) := by
  rcases h with ⟨a, cap, rfl⟩ | ⟨b, off, len, cap, f, rfl, h0, h1, h2, hb, hc⟩
  · exact ⟨a, cap, [], rfl, fun j hj => nomatch hj⟩
  · refine ⟨some ⟨b, off, none⟩, cap, (List.range len).map f, by rw [List.length_map, List.length_range], fun j hj => ⟨b, off, rfl, hb, ?_⟩⟩
    rw [List.length_map, List.length_range] at hj
    rw [(hc j hj).1]; simp
theorem from_block {A : Option Addr} {c k n n' c' : Nat} {q : Nat} (h : q ∈ (Value.slice (if c = k then A else Option.map (fun x => x.add k) A) n' c').ownBlock.toList) : q ∈ (Value.slice A n c).ownBlock.toList := by
  cases A with
  | none => split at h <;> simp [Value.ownBlock] at h
  | some aa =>
    obtain ⟨ab, ao, asp⟩ := aa
    split at h
    · exact h
    · have e9 : ((⟨ab, ao, asp⟩ : Addr).add k).block = ab := by unfold Addr.add; split <;> rfl
      simpa [Value.ownBlock, e9] using h
/-- Two pieces of bytes, one behind the other, as rows in a call. -/
theorem pieces {W : World} {A : Option Addr} {l : List UInt8} {c a e1 e2 n : Nat} {F : List Nat} (hB : BsAt W (.slice A n c) l) (h1 : a ≤ e1) (h2 : e1 ≤ e2) (h3 : e2 ≤ l.length) (hF : 0 < l.length → ∀ k ∈ (Value.slice A n c).ownBlock.toList, k ∉ F) (hlt : ∀ k ∈ F, k < W.heap.size)
    {A3 A4 : Option Addr} (hA3 : A3 = (if c = a then A else Option.map (fun x => x.add a) A)) (hA4 : A4 = (if c = e1 then A else Option.map (fun x => x.add e1) A)) {b : Nat} (hb : b = W.heap.size) :
    PsAp (W.alloc (.cells #[.slice A3 (e1 - a) (c - a), .slice A4 (e2 - e1) (c - e1)] 22)) (.slice (some ⟨b, 0, none⟩) 2 2) [(l.drop a).take (e1 - a), (l.drop e1).take (e2 - e1)] F := by
  subst hb
  obtain rfl : n = l.length := by obtain ⟨x, y, e⟩ := hB.len; injection e
  have q1 : ((l.drop a).take (e1 - a)).length = e1 - a := by rw [List.length_take, List.length_drop]; omega
  have q2 : ((l.drop e1).take (e2 - e1)).length = e2 - e1 := by rw [List.length_take, List.length_drop]; omega
  have p1 := (hB.from' a (by omega) hA3 (l.length - a) (c - a) rfl rfl).to (e1 - a) (by omega)
  have p2 := (hB.from' e1 (by omega) hA4 (l.length - e1) (c - e1) rfl rfl).to (e2 - e1) (by omega)
  have q := psap_two (W := W) (a1 := A3) (a2 := A4) (c1 := c - a) (c2 := c - e1) (A := (l.drop a).take (e1 - a)) (B := (l.drop e1).take (e2 - e1)) (F := F) (by rw [q1]; exact p1) (by rw [q2]; exact p2) hlt
    (fun h0 k hk => hF (by omega) k (by rw [hA3] at hk; exact from_block hk)) (fun h0 k hk => hF (by omega) k (by rw [hA4] at hk; exact from_block hk))
  rw [q1, q2] at q
  exact q
theorem two_flat (l : List UInt8) {a e1 e2 : Nat} (h1 : a ≤ e1) (h2 : e1 ≤ e2) : [(l.drop a).take (e1 - a), (l.drop e1).take (e2 - e1)].flatten = (l.drop a).take (e2 - a) := by
  simp only [List.flatten_cons, List.flatten_nil, List.append_nil]
  have e : l.drop e1 = (l.drop a).drop (e1 - a) := by rw [List.drop_drop]; congr 1; omega
  rw [e, ← List.take_add]
  congr 1; omega
theorem marked {l : List UInt8} {a K : Nat} (h : a + K ≤ l.length) : ((l ++ [171]).drop a).take K = (l.drop a).take K := by
  rw [List.drop_append_of_le_length (by omega), List.take_append_of_le_length (by rw [List.length_drop]; omega)]
theorem takeR_len {P : PrP} (o : PrOk P) : (takeR P).2.1.fields.length ≤ 24 := by
  unfold takeR
  split
  · exact o.head.len
  · exact Nat.zero_le _
/-- Both parsers side by side, and the row with its mark: rc, rx what they are in plain terms. -/
structure St15 (w W : World) (F G : List Nat) (g xg : Nat) (wv : Value) (L : List UInt8) (rc rx : PrP) : Prop where
  c : PaA F W g rc
  x : PaR G W xg rx
  dis : ∀ k ∈ F, k ∉ G
  fn : ∀ k ∈ F, w.heap.size ≤ k
  gn : ∀ k ∈ G, w.heap.size ≤ k
  low : Mods [] w W
  wb : BsAt W wv L
  wd : ∀ k ∈ wv.ownBlock.toList, k ∉ F ∧ k ∉ G
  wl : ∀ k ∈ wv.ownBlock.toList, k < W.heap.size
theorem St15.quiet {w W W' : World} {F G : List Nat} {g xg : Nat} {wv : Value} {L : List UInt8} {rc rx : PrP} (s : St15 w W F G g xg wv L rc rx) (hm : Mods [] W W') : St15 w W' F G g xg wv L rc rx :=
  ⟨s.c.low hm, s.x.low hm, s.dis, s.fn, s.gn, s.low.trans hm (fun _ h => nomatch h), s.wb.low hm, s.wd, fun k hk => Nat.lt_of_lt_of_le (s.wl k hk) hm.size⟩
theorem St15.onC {w W W' : World} {F F' G : List Nat} {g xg : Nat} {wv : Value} {L : List UInt8} {rc rx rc' : PrP} (s : St15 w W F G g xg wv L rc rx) (a : PaA F' W' g rc') (hg : Grew F F' W W') : St15 w W' F' G g xg wv L rc' rx :=
  ⟨a, s.x.mods hg.mods (fun k hk hk2 => s.dis k hk2 hk), fun k hk => by
    rcases hg.news k hk with h | h
    · exact s.dis k h
    · exact fun h2 => by have := s.x.lt k h2; omega, fun k hk => by
    rcases hg.news k hk with h | h
    · exact s.fn k h
    · have := s.low.size; omega, s.gn, s.low.trans hg.mods (fun k hk => .inr (s.fn k hk)), s.wb.mods hg.mods (fun k hk => (s.wd k hk).1), fun k hk => ⟨fun h2 => by
    rcases hg.news k h2 with h | h
    · exact (s.wd k hk).1 h
    · have := s.wl k hk; omega, (s.wd k hk).2⟩, fun k hk => Nat.lt_of_lt_of_le (s.wl k hk) hg.mods.size⟩
theorem St15.onX {w W W' : World} {F G G' : List Nat} {g xg : Nat} {wv : Value} {L : List UInt8} {rc rx rx' : PrP} (s : St15 w W F G g xg wv L rc rx) (a : PaR G' W' xg rx') (hg : Grew G G' W W') : St15 w W' F G' g xg wv L rc rx' :=
  ⟨s.c.mods hg.mods (fun k hk hk2 => s.dis k hk hk2), a, fun k hk hk2 => by
    rcases hg.news k hk2 with h | h
    · exact s.dis k hk h
    · have := s.c.lt k hk; omega, s.fn, fun k hk => by
    rcases hg.news k hk with h | h
    · exact s.gn k h
    · have := s.low.size; omega, s.low.trans hg.mods (fun k hk => .inr (s.gn k hk)), s.wb.mods hg.mods (fun k hk => (s.wd k hk).2), fun k hk => ⟨(s.wd k hk).1, fun h2 => by
    rcases hg.news k h2 with h | h
    · exact (s.wd k hk).2 h
    · have := s.wl k hk; omega⟩, fun k hk => Nat.lt_of_lt_of_le (s.wl k hk) hg.mods.size⟩
theorem St15.fedC {w W W' : World} {F G : List Nat} {g xg : Nat} {wv : Value} {L : List UInt8} {rc rx rc' : PrP} (s : St15 w W F G g xg wv L rc rx) (h : FedP F W g rc' W') : ∃ F', St15 w W' F' G g xg wv L rc' rx := by
  obtain ⟨F', a, hg⟩ := h
  exact ⟨F', s.onC a hg⟩
theorem St15.fedX {w W W' : World} {F G : List Nat} {g xg : Nat} {wv : Value} {L : List UInt8} {rc rx rx' : PrP} (s : St15 w W F G g xg wv L rc rx) (h : FedQ G W xg rx' W') : ∃ G', St15 w W' F G' g xg wv L rc rx' := by
  obtain ⟨G', a, hg⟩ := h
  exact ⟨G', s.onX a hg⟩
set_option maxRecDepth 100000 in
set_option maxHeartbeats 16000000 in
theorem walk (w : World) (hL : laidMetH Tryz.prog Rows.parseFeedsRow.laid w) (v : Value) (l : List UInt8) (hb : BsAt w v l) (v2 : Value) (hi : IsInts w v2) :
    Calls Tryz.prog 3 #[v, v2] w fun e w' => e = .returned (.bool true) ∧ Below w.heap.size w w' := by
  have HB := Lib.hid hb
  obtain ⟨A, c, rfl⟩ := hb.len
  obtain ⟨A2, c2, xs, rfl, hxs⟩ := ints15 hi
  have HXS := Lib.hid hxs
  clear hL hb hi hxs
  by_cases hl : 6000 < l.length
  · have g1 : (6000 : Int) < (l.length : Int) := by omega
    clear hl
    go_enter Tryz.func3, Tryz.ntmps3
    go_wp2
    go_ret
    exact ⟨rfl, Below.refl _ _⟩
  by_cases hl2 : 200 < xs.length
  · have g1 : ¬ (6000 : Int) < (l.length : Int) := by omega
    have g2 : (200 : Int) < (xs.length : Int) := by omega
    clear hl hl2
    go_enter Tryz.func3, Tryz.ntmps3
    go_wp2
    go_ret
    exact ⟨rfl, Below.refl _ _⟩
  have g1 : ¬ (6000 : Int) < (l.length : Int) := by omega
  have g2 : ¬ (200 : Int) < (xs.length : Int) := by omega
  have hlb : l.length ≤ 6000 := by omega
  have hxb : xs.length ≤ 200 := by omega
  have HN := Lib.hid (fun w => new_p w)
  unfold ptr at HN
  have hcap : l.length ≤ c ∨ l.length = 0 := by
    rcases HB.out with ⟨e, _⟩ | ⟨_, _, _, hv, _, _, h1, _⟩
    · rw [e]; exact .inr rfl
    · injection hv with _ _ e; exact .inl (by omega)
  clear hl hl2
  go_enter Tryz.func3, Tryz.ntmps3
  go_upto_region 4 with (go_at_call 9; refine (HN.out _).mono ?_; rintro q w1 ⟨g, F, rfl, hk⟩; have HA := Lib.hid hk.out; clear hk)
  clear g1 g2 HN
  have nx := px_new w1
  have mx : Mods [] w1 (w1.alloc (.cells (pxCells 0 0 (.pointer none) noH (.slice none 0 0) (.pointer none) false (.slice none 0 0)) 32)) := (Mods.refl [] w1).alloc _
  change Code.wp _ _ _ _ (w1.alloc (.cells (pxCells 0 0 (.pointer none) noH (.slice none 0 0) (.pointer none) false (.slice none 0 0)) 32))
  obtain ⟨xg, hxg⟩ : ∃ xg, xg = w1.heap.size := ⟨_, rfl⟩
  obtain ⟨W1, hW1⟩ : ∃ W1, W1 = w1.alloc (.cells (pxCells 0 0 (.pointer none) noH (.slice none 0 0) (.pointer none) false (.slice none 0 0)) 32) := ⟨_, rfl⟩
  rw [← hxg, ← hW1] at nx
  rw [← hW1] at mx
  rw [← hW1, ← hxg]
  have HNX := Lib.hid nx
  have MX1 := Lib.hid mx
  have HXG := Lib.hid hxg
  clear nx mx hW1 hxg
  have M1 := Lib.hid (HA.out.2.1.trans MX1.out (fun _ h => nomatch h))
  have HRM := Lib.hid (roomy_l15 l _ W1 (HB.out.low M1.out) (by omega))
  go_upto_region 6 with (go_at_call 10; refine HRM.out.mono ?_; rintro q w2 ⟨wa, cw, rfl, hk⟩; have HR := Lib.hid hk.out; clear hk)
  have hxF : ∀ k ∈ pab xg (Value.slice none 0 0) (Value.slice none 0 0) [] [], k = xg := fun k hk => by simpa [Value.ownBlock] using hk
  have S0 := Lib.hid (show St15 w w2 F (pab xg (.slice none 0 0) (.slice none 0 0) [] []) g xg (.slice wa (l.length + 1) cw) (l ++ [171]) newR newR from
    ⟨(HA.out.1.low MX1.out).low HR.out.2.1, HNX.out.low HR.out.2.1, fun k hk hk2 => by have h1 := HA.out.1.lt k hk; have h2 := hxF k hk2; have := HXG.out; omega, HA.out.2.2, fun k hk => by have h0 := hxF k hk; have h1 := HXG.out; have h2 := HA.out.2.1.size; omega, M1.out.trans HR.out.2.1 (fun _ h => nomatch h), HR.out.1,
      fun k hk => by
        have h1 := HR.out.2.2 k hk
        have h2 := MX1.out.size
        exact ⟨fun hF => by have := HA.out.1.lt k hF; omega, fun hG => by have h0 := hxF k hG; have h3 := HNX.out.lt xg (by simp); omega⟩,
      HR.out.1.lt (by simp)⟩)
  have hwc : l.length + 1 ≤ cw := by
    rcases HR.out.1 with ⟨e, _⟩ | ⟨_, _, _, hv, _, _, h1, _⟩
    · simp at e
    · injection hv with _ _ e; rw [List.length_append] at h1; simp at h1; omega
  clear HRM HNX HA hxF
  go_wp2
  go_loopw [7, 9] (fun va vi wr => ∃ (i a : Nat) (F G : List Nat) (P : PrP), vi = .int .i64 i ∧ va = .int .i64 a ∧ i ≤ xs.length + 1 ∧ a ≤ l.length ∧ Hid (St15 w wr F G g xg (.slice wa (l.length + 1) cw) (l ++ [171]) P P)) (fun _ vi _ => xs.length + 1 - (intOf vi).toNat)
  case atStart => exact ⟨0, 0, _, _, _, rfl, rfl, by omega, by omega, S0⟩
  case round =>
    clear S0
    obtain ⟨i, a, F3, G3, P, rfl, rfl, hix, hal, HS⟩ := hrel
    obtain ⟨wo, rfl⟩ : ∃ wo : World, wo = wr := ⟨_, rfl⟩
    by_cases hend : i = xs.length + 1
    · subst hend
      have HST := Lib.hid (stands_l15 l wa cw (.slice A l.length c) wo HS.out.wb (HB.out.low HS.out.low) (by omega))
      clear hcap
      go_wp2_with (first
        | (go_at_call 17; refine HST.out.mono ?_; rintro q w7 ⟨rfl, hd⟩; have M7 := Lib.hid hd.mods15; clear hd)
        | (go_at_call 18; refine (known_15 _).mono ?_; rintro q w8 ⟨rfl, hm⟩; have M8 := Lib.hid (M7.out.trans hm (fun _ h => nomatch h)); clear hm))
      go_ret
      exact ⟨rfl, (HS.out.low.trans M8.out (fun _ h => nomatch h)).below⟩
    · have hile : i ≤ xs.length := by omega
      have hK : ∃ K : Nat, K ≤ l.length - a ∧ (i < xs.length → ∃ (b o : Nat) (x : Int), A2 = some ⟨b, o, none⟩ ∧ wo.cell? ⟨b, o + i, none⟩ = some (.int .i64 x) ∧ min ((l.length : Int) - (a : Int)) (bits BinOp.and IntKind.i64 x 63) = (K : Int)) ∧ (¬ i < xs.length → K = l.length - a) := by
        by_cases hlt : i < xs.length
        · obtain ⟨b, o, e1, e2, e3⟩ := HXS.out i hlt
          obtain ⟨q, hq, hq2⟩ := and63 xs[i]
          refine ⟨min (l.length - a) q, by omega, fun _ => ⟨b, o, xs[i], e1, cell_mods e3 HS.out.low (by simp), by rw [hq]; omega⟩, fun h => absurd hlt h⟩
        · exact ⟨l.length - a, Nat.le_refl _, fun h => absurd h hlt, fun _ => rfl⟩
      obtain ⟨K, hKl, hK1, hK2⟩ := hK
      have HK2 := Lib.hid hK2
      have HK1 := Lib.hid hK1
      clear hK1 hK2
      obtain ⟨e1, he1⟩ : ∃ e1, e1 = a + K / 2 := ⟨_, rfl⟩
      obtain ⟨e2, he2⟩ : ∃ e2, e2 = a + K := ⟨_, rfl⟩
      have b1 : a ≤ e1 := by omega
      have b2 : e1 ≤ e2 := by omega
      have b3 : e2 ≤ l.length := by omega
      have hs1 : (a : Int) + ((K : Int) / 2) = (e1 : Int) := by omega
      have hs1t : (a : Int) + Int.tdiv (K : Int) 2 = (e1 : Int) := by rw [Int.tdiv_eq_ediv_of_nonneg (by omega)]; omega
      have hs2 : (a : Int) + (K : Int) = (e2 : Int) := by omega
      have hcut : (l.drop a).take (e2 - a) = (l.drop a).take K := by congr 1; omega
      obtain ⟨R, m, hr3⟩ : ∃ R m, feedR P ((l.drop a).take K) = (R, m) := ⟨_, _, rfl⟩
      have hcl : ((l.drop a).take K).length = K := by rw [List.length_take, List.length_drop]; omega
      have hmle : m ≤ K := by have := feedR_le ((l.drop a).take K) P; rw [hr3, hcl] at this; exact this
      have hfc := fun b (hb : b = wo.heap.size) W' (hm : Mods [] _ W') => feedr_p _ _ ((pieces (W := wo) (F := F3) (e1 := e1) (e2 := e2) HS.out.wb b1 b2 (by simp; omega) (fun _ k hk => (HS.out.wd k hk).1) HS.out.c.lt rfl rfl hb).next (Grew.of_low hm)) (HS.out.c.low (((Mods.refl [] wo).alloc _).trans hm (fun _ h => nomatch h))) (by rw [two_flat _ b1 b2, marked (by omega)]; rw [hcut, hcl]; omega) (by simp)
      rw [two_flat _ b1 b2, marked (by omega), hcut, hr3, if_neg (show ¬ cw = a by omega), if_neg (show ¬ cw = e1 by omega)] at hfc
      simp only at hfc
      unfold ptr at hfc
      have HFC := Lib.hid hfc
      have HR3 := Lib.hid hr3
      have HCUT := Lib.hid hcut
      have HCL := Lib.hid hcl
      clear hfc hr3 hcut hcl
      have hw1 : IntKind.i64.wrap (e1 : Int) = (e1 : Int) := by rw [IntKind.wrap_i64]; omega
      have hw2 : IntKind.i64.wrap (e2 : Int) = (e2 : Int) := by rw [IntKind.wrap_i64]; omega
      have hw3 : IntKind.i64.wrap ((a : Int) + (K : Int) / 2) = (e1 : Int) := by rw [hs1, hw1]
      have hw4 : IntKind.i64.wrap ((a : Int) + (K : Int)) = (e2 : Int) := by rw [hs2, hw2]
      have hw5 : IntKind.i64.wrap ((K : Int) / 2) = (K : Int) / 2 := by rw [IntKind.wrap_i64]; omega
      have z1 : (0 : Int) ≤ (a : Int) := by omega
      have z2 : (0 : Int) ≤ (e1 : Int) := by omega
      have q1 : (e1 : Int) ≤ (cw : Int) := by omega
      have q2 : (e2 : Int) ≤ (cw : Int) := by omega
      have q3 : (a : Int) ≤ (e1 : Int) := by omega
      have q4 : (e1 : Int) ≤ (e2 : Int) := by omega
      have r1 : (e1 : Int) ≤ (c : Int) := by omega
      have r2 : (e2 : Int) ≤ (c : Int) := by omega
      have hc3 : (c = a ∧ c = e1) ∨ (¬ c = a ∧ c = e1) ∨ (¬ c = a ∧ ¬ c = e1) := by omega
      have HC3 := Lib.hid hc3
      clear hc3
      have q5 : ¬ cw = a := by omega
      have q6 : ¬ cw = e1 := by omega
      have he3 : e2 - a = K := by omega
      have HE3 := Lib.hid he3
      clear he1 he2 hs1t he3
      go_upto_if 49 with fail
      go_cut [10] (fun kv wx => kv = .int .i64 (K : Int) ∧ wx = wo)
      case first =>
        by_cases hlt : i < xs.length
        · obtain ⟨b, o, x, rfl, hcell, hmin⟩ := HK1.out hlt
          go_wp2
          go_meet
          case rel => exact ⟨rfl, rfl⟩
        · have hkk : (l.length : Int) - (a : Int) = (K : Int) := by have := HK2.out hlt; omega
          go_wp2
          go_meet
          case rel => exact ⟨by rw [← hkk], rfl⟩
      case rest =>
        obtain ⟨rfl, rfl⟩ := hcut
        go_upto_region 12 with fail
        go_region_held3 (fun w' => True) (trivial) ((go_at_call 11; refine (HFC.out _ rfl _ (by first | exact (Mods.refl [] _).drew | exact Mods.refl [] _)).mono ?_; rintro z w5 ⟨rfl, hk⟩; have HQ5 := Lib.hid hk.out; clear hk))
        obtain ⟨F5, s5⟩ := (HS.out.quiet (by first | exact ((Mods.refl [] wc).alloc _).drew | exact ((Mods.refl [] wc).drew).alloc _)).fedC HQ5.out
        have S5 := Lib.hid s5
        have hfx := fun b (hb : b = w5.heap.size) W' (hm : Mods [] _ W') => feedr_x _ _ ((pieces (W := w5) (F := G3) (e1 := e1) (e2 := e2) (HB.out.low s5.low) b1 b2 b3 (fun h0 k hk h => by have h1 := s5.gn k h; have h2 := HB.out.lt h0 k hk; omega) s5.x.lt rfl rfl hb).next (Grew.of_low hm)) (s5.x.low (((Mods.refl [] w5).alloc _).trans hm (fun _ h => nomatch h))) (by rw [two_flat _ b1 b2, HCUT.out, HCL.out]; omega) (by simp)
        rw [two_flat _ b1 b2, HCUT.out, HR3.out] at hfx
        simp only at hfx
        unfold ptr at hfx
        clear s5 HQ5 HFC
        go_upto_region 13 with fail
        go_cut [12] (fun mv wx => mv = .int .i64 (m : Int) ∧ ∃ G6, Hid (St15 w wx F5 G6 g xg (.slice wa (l.length + 1) cw) (l ++ [171]) R R))
        case first =>
          rcases HC3.out with ⟨x5, x6⟩ | ⟨x5, x6⟩ | ⟨x5, x6⟩
          · subst x5
            subst x6
            simp only [↓reduceIte, Nat.sub_self] at hfx
            have HFX := Lib.hid hfx
            clear hfx
            go_region_held3 (fun w' => True) (trivial) ((go_at_call 12; refine (HFX.out _ rfl _ (by first | exact (Mods.refl [] _).drew | exact Mods.refl [] _)).mono ?_; rintro z w6 ⟨rfl, hk⟩; have HQ6 := Lib.hid hk.out; clear hk))
            obtain ⟨G6, s6⟩ := (S5.out.quiet (by first | exact ((Mods.refl [] w5).alloc _).drew | exact ((Mods.refl [] w5).drew).alloc _)).fedX HQ6.out
            have S6 := Lib.hid s6
            clear s6
            go_wp2
            go_meet
            case rel => exact ⟨rfl, G6, S6⟩
          · subst x6
            rw [if_neg x5] at hfx
            simp only [↓reduceIte, Nat.sub_self] at hfx
            have HFX := Lib.hid hfx
            clear hfx
            go_region_held3 (fun w' => True) (trivial) ((go_at_call 12; refine (HFX.out _ rfl _ (by first | exact (Mods.refl [] _).drew | exact Mods.refl [] _)).mono ?_; rintro z w6 ⟨rfl, hk⟩; have HQ6 := Lib.hid hk.out; clear hk))
            obtain ⟨G6, s6⟩ := (S5.out.quiet (by first | exact ((Mods.refl [] w5).alloc _).drew | exact ((Mods.refl [] w5).drew).alloc _)).fedX HQ6.out
            have S6 := Lib.hid s6
            clear s6
            go_wp2
            go_meet
            case rel => exact ⟨rfl, G6, S6⟩
          · rw [if_neg x5, if_neg x6] at hfx
            have HFX := Lib.hid hfx
            clear hfx
            go_region_held3 (fun w' => True) (trivial) ((go_at_call 12; refine (HFX.out _ rfl _ (by first | exact (Mods.refl [] _).drew | exact Mods.refl [] _)).mono ?_; rintro z w6 ⟨rfl, hk⟩; have HQ6 := Lib.hid hk.out; clear hk))
            obtain ⟨G6, s6⟩ := (S5.out.quiet (by first | exact ((Mods.refl [] w5).alloc _).drew | exact ((Mods.refl [] w5).drew).alloc _)).fedX HQ6.out
            have S6 := Lib.hid s6
            clear s6
            go_wp2
            go_meet
            case rel => exact ⟨rfl, G6, S6⟩
        case rest =>
         obtain ⟨rfl, G6, s6⟩ := hcut
         clear hfx
         have S6 := Lib.hid s6.out
         have hsd := stood_l S6.out.c S6.out.x
         unfold ptr at hsd
         have HSD := Lib.hid hsd
         clear s6 hsd hs1 hs2 hw1 hw2 hw3 hw4 hw5 q1 q2 q3 q4 q5 q6 r1 r2 z1 z2
         have hs3 : IntKind.i64.wrap ((a : Int) + (m : Int)) = (((a + m : Nat)) : Int) := by rw [IntKind.wrap_i64]; omega
         go_upto_region 17 with (go_at_call 13; refine HSD.out.mono ?_; rintro z w7 ⟨rfl, hm⟩; have M7 := Lib.hid hm; clear hm)
         have S7 := Lib.hid (S6.out.quiet M7.out)
         clear HSD
         obtain ⟨PT, rq, er, hT⟩ : ∃ PT rq er, takeR R = (PT, rq, er) := ⟨_, _, _, rfl⟩
         have hlen : rq.fields.length ≤ 1000000 := by have := takeR_len S7.out.c.ok; rw [hT] at this; simp only at this; omega
         have HT := Lib.hid hT
         have HLEN := Lib.hid hlen
         have e5 : (er != er) = false := by simp
         have ht1 := takerq_p S7.out.c
         rw [hT] at ht1
         simp only at ht1
         unfold ptr reqV reqCells at ht1
         have HTK1 := Lib.hid ht1
         clear ht1 hT hlen hs3
         go_upto_region 18 with (go_at_call 14; refine HTK1.out.mono ?_; rintro z w8 ⟨vf, vb, rfl, hk⟩; have hk2 := hk.out; unfold TookR at hk2; rw [HT.out] at hk2; simp only at hk2; have TR1 := Lib.hid hk2; obtain ⟨fa, fc, rfl⟩ := hk2.1.len; obtain ⟨ba, bc, rfl⟩ := hk2.2.1.len; clear hk hk2)
         clear HTK1
         obtain ⟨tf1, tb1, F9, a9, hg9, hn9⟩ := TR1.out
         have TF1 := Lib.hid tf1
         have TB1 := Lib.hid tb1
         have HN1 := Lib.hid hn9
         have S8 := Lib.hid (S7.out.onC a9 hg9)
         clear tf1 tb1 a9 hg9 hn9 TR1
         obtain ⟨md, tg, mi, fs, bd, cl, xp⟩ := rq
         obtain ⟨tf, th, tp, tq⟩ := tg
         simp only at HLEN TF1 TB1 HN1
         obtain ⟨nf, hnf⟩ : ∃ n, n = fs.length := ⟨_, rfl⟩
         obtain ⟨nb, hnb⟩ : ∃ n, n = bd.length := ⟨_, rfl⟩
         simp only
         rw [← hnf, ← hnb]
         have R8 := Lib.hid (Row.new w8 40 #[.string md, .int .i64 tf, .string th, .string tp, .string tq, .int .i64 mi, .slice fa nf fc, .slice ba nb bc, .bool cl, .bool xp])
         have m8 := (Mods.refl [] w8).alloc (.cells #[.string md, .int .i64 tf, .string th, .string tp, .string tq, .int .i64 mi, .slice fa nf fc, .slice ba nb bc, .bool cl, .bool xp] 40)
         have b8l : w8.heap.size < (w8.alloc (.cells #[.string md, .int .i64 tf, .string th, .string tp, .string tq, .int .i64 mi, .slice fa nf fc, .slice ba nb bc, .bool cl, .bool xp] 40)).heap.size := R8.out.lt
         obtain ⟨p8, hp8⟩ : ∃ p, p = w8.heap.size := ⟨_, rfl⟩
         obtain ⟨W8, hW8⟩ : ∃ W8, W8 = w8.alloc (.cells #[.string md, .int .i64 tf, .string th, .string tp, .string tq, .int .i64 mi, .slice fa nf fc, .slice ba nb bc, .bool cl, .bool xp] 40) := ⟨_, rfl⟩
         rw [← hp8, ← hW8] at R8
         rw [← hW8] at m8 b8l ⊢
         rw [← hp8] at b8l ⊢
         have HP8 := Lib.hid hp8
         have MM8 := Lib.hid m8
         have SA8 := Lib.hid (S8.out.quiet m8)
         have ht2 := takerq_x SA8.out.x
         rw [HT.out] at ht2
         simp only at ht2
         unfold ptr reqV reqCells at ht2
         have HTK2 := Lib.hid ht2
         clear ht2 hW8 m8 hp8
         go_upto_region 19 with (go_at_call 15; refine HTK2.out.mono ?_; rintro z w9 ⟨vf, vb, rfl, hk⟩; have hk2 := hk.out; unfold TookQ at hk2; rw [HT.out] at hk2; simp only at hk2; have TR2 := Lib.hid hk2; obtain ⟨ga, gc, rfl⟩ := hk2.1.len; obtain ⟨ha, hc, rfl⟩ := hk2.2.1.len; clear hk hk2)
         clear HTK2
         rw [← hnf, ← hnb] at TR2 ⊢
         obtain ⟨tf2, tb2, G10, a10, hg10, hn10⟩ := TR2.out
         have S9 := Lib.hid (SA8.out.onX a10 hg10)
         have mz := (Mods.refl [] w9).alloc (.cells #[.string md, .int .i64 tf, .string th, .string tp, .string tq, .int .i64 mi, .slice ga nf gc, .slice ha nb hc, .bool cl, .bool xp] 40)
         have r9 := Row.new w9 40 #[.string md, .int .i64 tf, .string th, .string tp, .string tq, .int .i64 mi, .slice ga nf gc, .slice ha nb hc, .bool cl, .bool xp]
         have r89 := (R8.out.mods hg10.mods (fun h => by have h1 := S8.out.x.lt _ h; have h2 := HP8.out; omega)).mods mz (by simp)
         have hfar : ∀ k, k ∈ (Value.slice fa nf fc).ownBlock.toList ∨ k ∈ (Value.slice ba nb bc).ownBlock.toList → k ∉ G6 := fun k hk h4 => by
           obtain ⟨h1, -, -⟩ := HN1.out k (by rw [hnf, hnb] at hk; exact hk)
           rcases h1 with h1 | h1
           · exact S7.out.dis k h1 h4
           · have h5 := S7.out.x.lt k h4; omega
         have HRQ := Lib.hid (request_l ⟨md, ⟨tf, th, tp, tq⟩, mi, fs, bd, cl, xp⟩ (.slice fa nf fc) (.slice ba nb bc) (.slice ga nf gc) (.slice ha nb hc) _ ((((show FsAt w8 (.slice fa nf fc) fs by rw [hnf]; exact TF1.out).low MM8.out).mods hg10.mods (fun k hk => hfar k (.inl hk))).low mz) (tf2.low mz) ((((show BsAt w8 (.slice ba nb bc) bd by rw [hnb]; exact TB1.out).low MM8.out).mods hg10.mods (fun k hk => hfar k (.inr hk))).low mz) (tb2.low mz) HLEN.out)
         unfold reqV reqCells at HRQ
         simp only at HRQ
         have S10 := Lib.hid (S9.out.quiet mz)
         obtain ⟨p9, hp9⟩ : ∃ p, p = w9.heap.size := ⟨_, rfl⟩
         obtain ⟨W9, hW9⟩ : ∃ W9, W9 = w9.alloc (.cells #[.string md, .int .i64 tf, .string th, .string tp, .string tq, .int .i64 mi, .slice ga nf gc, .slice ha nb hc, .bool cl, .bool xp] 40) := ⟨_, rfl⟩
         rw [← hp9, ← hW9] at r9
         rw [← hW9] at r89 HRQ S10 ⊢
         rw [← hp9]
         clear hp9 hW9 mz tf2 tb2 a10 hg10 hn10 hfar hnf hnb
         obtain ⟨s0, s1, s2, s3, s4, s5, s6, s7, s8, s9⟩ := r89.ten
         obtain ⟨t0, t1, t2, t3, t4, t5, t6, t7, t8, t9⟩ := r9.ten
         have HSD := Lib.hid (fun W' (hm : Mods [] W9 W') => stood_l (S10.out.quiet hm).c (S10.out.quiet hm).x)
         unfold ptr at HSD
         go_wp2_with (first
           | (go_at_call 16; refine HRQ.out.mono ?_; rintro z w11 ⟨rfl, hm⟩; have M11 := Lib.hid hm; clear hm)
           | (go_at_call 13; refine (HSD.out _ M11.out).mono ?_; rintro z w12 ⟨rfl, hm⟩; have M12 := Lib.hid (M11.out.trans hm (fun _ h => nomatch h)); clear hm))
         go_roundw
         case rel => exact ⟨i + 1, a + m, F9, G10, PT, by go_num, by go_num, by omega, by omega, Lib.hid (S10.out.quiet M12.out)⟩
         case measure => simp [intOf]; omega

theorem own : ownKnob Tryz.prog.godebug = none := by kernel_rfl
theorem laidOut : laidOutB Tryz.prog = true := by kernel_rfl
set_option maxRecDepth 100000 in
theorem lifted (os : Os) (started : os.Started) (H : Type) (enc : TypeId × Value → H) :
    ReturnsInHanded {} Tryz.checked os 3 .any (fun w args => (Rows.parseFeedsSpec.pre enc Tryz.prog Tryz.f3 [] false w args ∧ laidMetH Tryz.prog Rows.parseFeedsRow.laid w) ∧ sizedMet enc Tryz.prog Tryz.f3 (OpenSpec.ofChange Rows.parseFeedsSpec) false w args)
      (Rows.parseFeedsSpec.post enc Tryz.prog Tryz.f3 false true false false) := by
  refine returnsInHanded_of_change_and (C := Tryz.checked) (X := fun w _ => laidMetH Tryz.prog Rows.parseFeedsRow.laid w) (fun _ _ _ hh h => h.of_heap hh) own started (by kernel_rfl) Tryz.func3
    (ChangeSpec.witness_shaped (enc := enc) (C := Tryz.checked) (os := os) (X := fun w _ => laidMetH Tryz.prog Rows.parseFeedsRow.laid w) false (World.laidAll Tryz.prog os Rows.parseFeedsRow.laid) #[.slice none 0 0, .slice none 0 0] 8 (World.laidAll_os _ _ _)
      (World.shaped_of_ZipB (by kernel_rfl) (by kernel_rfl)) (by kernel_rfl) (by kernel_rfl) (by kernel_rfl)
      (by rw [MakeChecks.laidMetH_plain _ _ _ (by kernel_rfl)]; exact laidMet_laidAll _ (by kernel_rfl) (by kernel_rfl))) ?_
  intro W base args ds gs before hval0 hW hcnd hsz0 hL _
  have hsz : (DataW.weightsEach Tryz.prog (Tryz.f3.params.toList ++ Rows.parseFeedsSpec.plain.varTypes Tryz.prog) (ds ++ gs)).all (· ≤ reachBytes) = true := hsz0
  have hval : ∀ (j : Nat) t v, Tryz.f3.params[j]? = some t → args[j]? = some v → Value.okWide Tryz.prog W .any base t v := hval0
  have hW' := hW
  obtain ⟨p, q, hA0, hV, rfl, hfz, hnd⟩ := hW
  have hA : DataW.TrodAll enc Tryz.prog W 0 (fun _ => true) true Tryz.f3.params.toList args.toList ds p := hA0
  rw [Tryz.params3] at hA hval hsz
  obtain ⟨v0, vs0, d0, ds0, p0, q0, hargs, rfl, rfl, h0, r0⟩ := trodAll_cons hA
  obtain ⟨v1, vs1, d1, ds1, p1, q1, rfl, rfl, rfl, h1, r1⟩ := trodAll_cons r0
  obtain ⟨rfl, rfl, rfl⟩ := trodAll_nil r1
  obtain rfl : args = #[v0, v1] := by cases args; simp_all
  obtain ⟨rfl, rfl⟩ := trodVars_none hV
  have k0 := h0
  have lt0 : ∀ x ∈ p0, x.block < W.heap.size := by obtain ⟨m, hm⟩ := k0; exact DataW.trod_lt m _ _ _ hm
  obtain ⟨bl0, o0⟩ := open_bs14 (hval 0 22 v0 rfl rfl) k0 (fun n hn => by simpa using List.all_eq_true.1 hsz n (DataW.weights_mem_each (j := 0) (t := 22) rfl rfl n hn))
  have k1 := h1
  have lt1 : ∀ x ∈ p1, x.block < W.heap.size := by obtain ⟨m, hm⟩ := k1; exact DataW.trod_lt m _ _ _ hm
  obtain o1 := open_nums (hval 1 23 v1 rfl rfl) k1
  clear hA0 hval0 hsz0 hsz
  refine (walk W hL v0 bl0 o0 v1 o1).mono fun e W' ⟨he, bel⟩ => ?_
  subst he
  exact ⟨_, rfl, _, _, _, [], _, [], hW', trodAll_mk1 (shut_bool Tryz.underlying4 _), (trodAll_cons_mk (Below.trod laidOut (by kernel_rfl) (of_decide_eq_true (by kernel_rfl)) k0 bel lt0) (trodAll_cons_mk (Below.trod laidOut (by kernel_rfl) (of_decide_eq_true (by kernel_rfl)) k1 bel lt1) trodAll_mk0)), rfl, bel.frame _, fun h => by cases h⟩

theorem over : Rows.parseFeedsRow.holds Tryz.pinned (OpenSpec.ofChange Rows.parseFeedsSpec) :=
  OpenClaim.holds_of_wide 3 Tryz.f3 rfl rfl rfl rfl rfl rfl rfl ⟨rfl, rfl, rfl, rfl, rfl⟩ rfl rfl rfl rfl rfl (by kernel_rfl) Tryz.func3 (by kernel_rfl)
    (of_decide_eq_true (by kernel_rfl)) (by unfold Func.isWrapper; first | (rw [if_pos (by decide +kernel)]; kernel_rfl) | (rw [if_neg (by decide +kernel)]; exact ⟨rfl, rfl⟩))
    (fun os started H enc _ => lifted os started H enc)

theorem said : Rows.ParseFeedsSaid := over
theorem plain (f : FuncId) (fn : Func) (hf : Tryz.pinned.checked.prog.funcNamed "usher/usherlaw15.ParseFeeds" = some f) (hfn : Tryz.pinned.checked.prog.funcs[f]? = some fn) :
    false = Tryz.pinned.checked.prog.looks [] ∧ ∀ (j : Nat) t, fn.params[j]? = some t → Tryz.pinned.checked.prog.wantsStandIn t = false := by
  obtain rfl : f = 3 := Option.some.inj ((show Tryz.prog.funcNamed "usher/usherlaw15.ParseFeeds" = some 3 by kernel_rfl).symm.trans hf) |>.symm
  obtain rfl : fn = Tryz.f3 := (Option.some.inj (Tryz.func3.symm.trans hfn)).symm
  refine ⟨by kernel_rfl, fun j t ht => ?_⟩
  rw [Tryz.params3] at ht
  have hm : t ∈ [22, 23] := by simpa using Array.mem_of_getElem? ht
  simp only [List.mem_cons, List.mem_nil_iff, or_false] at hm
  rcases hm with rfl | rfl
  · exact (show Tryz.prog.wantsStandIn 22 = false by kernel_rfl)
  · exact (show Tryz.prog.wantsStandIn 23 = false by kernel_rfl)
theorem proved : Rows.ParseFeedsCardSaid :=
  Claim7.holds_tied_plain_at .later [] _ _ _ _ said (fun _ h => by cases h) (by kernel_rfl) (fun _ h => by cases h) parseFeeds_row_tie rfl ⟨rfl, rfl⟩ (by kernel_rfl) rfl plain (by kernel_rfl)
end Go.Proofs.YtgkhelbpccehcaaGreatDoor.parseFeeds
