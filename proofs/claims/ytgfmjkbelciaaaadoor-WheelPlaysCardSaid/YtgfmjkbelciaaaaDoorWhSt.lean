/- The program's wheel and the reference's side by side: what each call does to both. -/
import Derived.Test.YtgfmjkbelciaaaaDoorRwG
import Derived.Test.YtgfmjkbelciaaaaDoorWhJ
namespace Go.Proofs.YtgfmjkbelciaaaaDoor
open Go.RowKit
set_option maxRecDepth 10000
set_option linter.unusedVariables false
set_option linter.unusedSimpArgs false
set_option linter.unnecessarySimpa false

/-- A time, so much later. -/
def aft (now : Nat) (n : Int) : Int := if 1099511627776 < n then n else (now : Int) + n
theorem after_any (now : Nat) (n : Int) (w : World) (h : now ≤ 1099511627776) (h1 : -9223372036854775808 ≤ n) : Calls Tryd.prog 13 #[.int .i64 (now : Int), .int .i64 n] w fun e w' => e = .returned (.int .i64 (aft now n)) ∧ w' = w := by
  unfold aft
  by_cases c : 1099511627776 < n
  · rw [if_pos c]
    go_enter Tryd.func13, Tryd.ntmps13
    go_wp2
    go_ret
    exact ⟨rfl, rfl⟩
  · rw [if_neg c]
    have q1 : IntKind.i64.wrap ((now : Int) + n) = (now : Int) + n := by rw [IntKind.wrap_i64]; omega
    go_enter Tryd.func13, Tryd.ntmps13
    go_wp2
    go_ret
    exact ⟨rfl, rfl⟩
/-- Both wheels, and the handles that were given. -/
structure Two (w wr : World) (g x i : Nat) (gv : Value) (S : Slb) (F1 F2 : List Nat) (K now q : Nat) (P : List Tm) (L : List Rt) (G : List (Int × Int)) : Prop where
  a : Bare w wr g F1 S K now P
  b : RefZ wr x F2 S K now L q
  ag : Agree S P L
  own : OwnPairs wr 32 gv G
  i64 : ∀ p ∈ G, InI64 p
  pos : 1 ≤ G.length
  glen : G.length ≤ i + 1
  fb : ∀ k ∈ F2, w.heap.size ≤ k
  ab : ∀ k ∈ F1, k ∉ F2
  fg : ∀ k ∈ gv.ownBlock.toList, w.heap.size ≤ k
  bK : K ≤ i
  bq : q ≤ i
  bL : L.length ≤ i
section
variable {w wr w' : World} {g x i K now q : Nat} {gv : Value} {S : Slb} {F1 F2 : List Nat} {P : List Tm} {L : List Rt} {G : List (Int × Int)}
theorem RefZ.far_pairs (h : RefZ wr x F2 S K now L q) {v : Value} {l : List (Int × Int)} (r : OwnPairs wr 32 v l) : ∀ k ∈ v.ownBlock.toList, k ∉ F2 := by
  rcases r.2 with ⟨rfl, _⟩ | ⟨b, cap, cur, rfl, _, hh, _⟩
  · intro k hk; simp [Value.ownBlock] at hk
  · intro k hk
    have : k = b := by simpa [Value.ownBlock, eq_comm] using hk
    subst this
    exact h.far_hand (show Row wr k 32 cur from hh)
theorem RefZ.rng (h : RefZ wr x F2 S K now L q) : ∀ y ∈ L, y.q ≤ q := by
  obtain ⟨sg, lv, hF, rfl, h⟩ := h
  exact fun y hy => (h.rng y hy).1
theorem RefZ.cells (h : RefZ wr x F2 S K now L q) : ∃ A c, wr.cell? ⟨x, 1, none⟩ = some (.slice A L.length c) ∧ wr.cell? ⟨x, 2, none⟩ = some (.int .i64 (now : Int)) ∧ x ∈ F2 := by
  obtain ⟨sg, lv, hF, rfl, h⟩ := h
  obtain ⟨A, c, rfl, -, -⟩ := own_slice h.own
  exact ⟨A, c, h.cells.2.1, h.cells.2.2.1, by simp [foot6]⟩
theorem Two.quiet (h : Two w wr g x i gv S F1 F2 K now q P L G) (hm : Mods [] wr w') : Two w w' g x i gv S F1 F2 K now q P L G :=
  ⟨h.a.step hm, h.b.quiet hm, h.ag, own_mods h.own hm (by simp), h.i64, h.pos, h.glen, h.fb, h.ab, h.fg, h.bK, h.bq, h.bL⟩
theorem Two.more {j : Nat} (h : Two w wr g x i gv S F1 F2 K now q P L G) (hj : i ≤ j) : Two w wr g x j gv S F1 F2 K now q P L G :=
  ⟨h.a, h.b, h.ag, h.own, h.i64, h.pos, by have := h.glen; omega, h.fb, h.ab, h.fg, by have := h.bK; omega, by have := h.bq; omega, by have := h.bL; omega⟩
theorem Two.cnt (h : Two w wr g x i gv S F1 F2 K now q P L G) : S.cnt ≤ i ∧ now ≤ 1099511627776 ∧ S.lim = 4096 := by
  have h1 := h.a.ok
  have h2 := h.ag.len
  have h3 := h.bL
  have h4 := h1.cnt
  exact ⟨by omega, h1.time, h1.lim⟩
end
/-- What was done to one wheel and then to the other. -/
theorem Two.both {w wr w1 w2 : World} {g x i j K now q K' now' q' : Nat} {gv : Value} {S S' : Slb} {F1 F2 G1 G2 : List Nat} {P P' : List Tm} {L L' : List Rt} {G : List (Int × Int)} (h : Two w wr g x i gv S F1 F2 K now q P L G)
    (ha : Bare w w1 g G1 S' K' now' P') (ma : Mods F1 wr w1) (na : ∀ k ∈ G1, k ∈ F1 ∨ wr.heap.size ≤ k) {E : World} (hE : Mods [] w1 E) (hb : RefZ w2 x G2 S' K' now' L' q') (mb : Mods F2 E w2) (nb : ∀ k ∈ G2, k ∈ F2 ∨ E.heap.size ≤ k)
    (hag : Agree S' P' L') (hij : i ≤ j) (bK : K' ≤ j) (bq : q' ≤ j) (bL : L'.length ≤ j) : Two w w2 g x j gv S' G1 G2 K' now' q' P' L' G ∧ Mods (F1 ++ F2) wr w2 := by
  have s1 := ma.size
  have s2 := hE.size
  have d1 : ∀ k ∈ G1, k ∉ F2 := fun k hk hk2 => by
    rcases na k hk with h1 | h1
    · exact h.ab k h1 hk2
    · have := h.b.lt k hk2; omega
  have hm : Mods (F1 ++ F2) wr w2 := ((ma.more (fun k hk => .inl (List.mem_append_left _ hk))).trans hE (by simp)).trans mb (fun k hk => .inl (List.mem_append_right _ hk))
  refine ⟨⟨(ha.step hE).aside mb d1 h.fb, hb, hag, own_mods h.own hm (fun k hk hk2 => ?_), h.i64, h.pos, by have := h.glen; omega, fun k hk => ?_, fun k hk hk2 => ?_, h.fg, bK, bq, bL⟩, hm⟩
  · rcases List.mem_append.1 hk2 with h1 | h1
    · exact h.a.far_pairs h.own k hk h1
    · exact h.b.far_pairs h.own k hk h1
  · rcases nb k hk with h1 | h1
    · exact h.fb k h1
    · have := h.a.mods.size; omega
  · rcases nb k hk2 with h1 | h1
    · exact d1 k hk h1
    · have := ha.lt k hk; omega
def okT (n : Int) : Prop := 0 ≤ n ∧ n ≤ 1099511627776
instance (n : Int) : Decidable (okT n) := inferInstanceAs (Decidable (_ ∧ _))
section
variable {w wr w' : World} {g x i K now q : Nat} {gv : Value} {S : Slb} {F1 F2 : List Nat} {P : List Tm} {L : List Rt} {G : List (Int × Int)}
/-- Add on both sides. -/
theorem Two.add (h : Two w wr g x i gv S F1 F2 K now q P L G) (hT : TzTab w) (hi : i ≤ 120) (n v : Int) : ∃ (hs hg er : Int) (S' : Slb) (K' q' : Nat) (P' : List Tm) (L' : List Rt), InI64 (hs, hg) ∧ K' ≤ i + 1 ∧ q' ≤ i + 1 ∧ L'.length ≤ i + 1 ∧ Agree S' P' L' ∧
    (Calls Tryd.prog 14 #[ptr g, .int .i64 n, .int .i64 v] wr fun e w' => e = .returned (.tuple #[.agg #[.int .i64 hs, .int .i64 hg], .int .i64 er]) ∧ Hid (∃ G1, Bare w w' g G1 S' K' now P' ∧ Mods F1 wr w' ∧ ∀ k ∈ G1, k ∈ F1 ∨ wr.heap.size ≤ k)) ∧
    (∀ W, RefZ W x F2 S K now L q → Calls Tryd.prog 15 #[ptr x, .int .i64 n, .int .i64 v] W fun e w' => e = .returned (.tuple #[.agg #[.int .i64 hs, .int .i64 hg], .int .i64 er]) ∧ Hid (∃ G2, RefZ w' x G2 S' K' now L' q' ∧ Mods F2 W w' ∧ ∀ k ∈ G2, k ∈ F2 ∨ W.heap.size ≤ k)) := by
  obtain ⟨c1, c2, c3⟩ := h.cnt
  have bK := h.bK
  have bq := h.bq
  have bL := h.bL
  by_cases hn : okT n
  · obtain ⟨a, rfl⟩ := Int.eq_ofNat_of_zero_le hn.1
    have ha : a ≤ 1099511627776 := by have := hn.2; omega
    have hS := h.a.slabOk
    have hle := Slb.least_lt hS (by rw [c3]; omega)
    have hge : S.gen ≤ K + 1 := by have := hS.gk S.least; unfold Slb.gen; omega
    refine ⟨S.least, S.gen, 0, S.put v, K + 1, q + 1, _, _, ⟨⟨by show (_ : Int) ≤ (S.least : Int); omega, by show (S.least : Int) ≤ _; omega⟩, by show (_ : Int) ≤ (S.gen : Int); omega, by show (S.gen : Int) ≤ _; omega⟩, by omega, by omega, ?_, h.ag.add h.a.ok hS h.b.rng a v, ?_, fun W hW => ?_⟩
    · simp; omega
    · exact b_add wr g a v F1 S K now P _ _ h.a hT ha (by omega) (by omega) rfl rfl
    · exact rwadd_any W x a v F2 S K now q L hW ha (by omega) c3 (by omega) (by omega) (by omega)
  · have hn' : n < 0 ∨ 1099511627776 < n := by unfold okT at hn; omega
    refine ⟨0, 0, 1, S, K, q, P, L, ⟨⟨by decide, by decide⟩, by decide, by decide⟩, by omega, by omega, by omega, h.ag, ?_, fun W hW => ?_⟩
    · exact (add_no g n v wr hn').mono fun e w' ⟨he, hm⟩ => ⟨he, Lib.hid ⟨F1, h.a.step hm, hm.more (by simp), fun k hk => .inl hk⟩⟩
    · exact (rwadd_no n v x W hn').mono fun e w' ⟨he, hm⟩ => ⟨he, Lib.hid ⟨F2, hW.quiet hm, hm.more (by simp), fun k hk => .inl hk⟩⟩
/-- Reset on both sides. -/
theorem Two.reset (h : Two w wr g x i gv S F1 F2 K now q P L G) (hi : i ≤ 120) (a b n : Int) (hp : InI64 (a, b)) : ∃ (er : Int) (q' : Nat) (P' : List Tm) (L' : List Rt), q' ≤ i + 1 ∧ L'.length ≤ i + 1 ∧ Agree S P' L' ∧
    (∀ W, Bare w W g F1 S K now P → Calls Tryd.prog 16 #[ptr g, .agg #[.int .i64 a, .int .i64 b], .int .i64 n] W fun e w' => e = .returned (.int .i64 er) ∧ Hid (∃ G1, Bare w w' g G1 S K now P' ∧ Mods F1 W w' ∧ ∀ k ∈ G1, k ∈ F1 ∨ W.heap.size ≤ k)) ∧
    (∀ W, RefZ W x F2 S K now L q → Calls Tryd.prog 17 #[ptr x, .agg #[.int .i64 a, .int .i64 b], .int .i64 n] W fun e w' => e = .returned (.int .i64 er) ∧ Hid (∃ G2, RefZ w' x G2 S K now L' q' ∧ Mods F2 W w' ∧ ∀ k ∈ G2, k ∈ F2 ∨ W.heap.size ≤ k)) := by
  have bK := h.bK
  have bq := h.bq
  have bL := h.bL
  by_cases hn : okT n
  · obtain ⟨t, rfl⟩ := Int.eq_ofNat_of_zero_le hn.1
    have ht : t ≤ 1099511627776 := by have := hn.2; omega
    cases hs : S.is a b
    · refine ⟨10, q, P, L, by omega, by omega, h.ag, fun W hW => ?_, fun W hW => ?_⟩
      · exact (b_stale W g t F1 S K now P a b hW ht hp.1.1 hp.1.2 hs).mono fun e w' ⟨he, hm⟩ => ⟨he, Lib.hid ⟨F1, hW.step hm, hm.more (by simp), fun k hk => .inl hk⟩⟩
      · exact (rwreset_no W x t F2 S K now q L a b hW ht (h.ag.not_is h.a.ok hs)).mono fun e w' ⟨he, hm⟩ => ⟨he, Lib.hid ⟨F2, hW.quiet hm, hm.more (by simp), fun k hk => .inl hk⟩⟩
    · obtain ⟨j, y, hy, e1, e2⟩ := h.ag.of_is h.a.ok hs
      refine ⟨0, q + 1, _, _, by omega, ?_, h.ag.reset h.a.ok h.b.rng hy t, fun W hW => ?_, fun W hW => ?_⟩
      · rw [List.length_set]; omega
      · exact (b_reset W g t F1 S K now P y.s y.g hW ht ⟨y.tm, h.ag.mem.2 ⟨y, List.mem_of_getElem? hy, rfl⟩, rfl, rfl⟩ a b e1 e2).mono fun e w' ⟨he, hf⟩ => ⟨he, Lib.hid (by
          obtain ⟨G1, h1, h2, h3⟩ := hf.out
          exact ⟨G1, h1, h2, fun k hk => .inl ((h3 k).1 hk)⟩)⟩
      · exact (rwreset_yes W x t F2 S K now q L j y hW ht (by omega) (h.ag.slots h.a.ok) hy a b e1 e2).mono fun e w' ⟨he, hf⟩ => ⟨he, Lib.hid ⟨F2, hf.out.1, hf.out.2, fun k hk => .inl hk⟩⟩
  · have hn' : n < 0 ∨ 1099511627776 < n := by unfold okT at hn; omega
    refine ⟨1, q, P, L, by omega, by omega, h.ag, fun W hW => ?_, fun W hW => ?_⟩
    · exact (reset_no g a b n W hn').mono fun e w' ⟨he, hm⟩ => ⟨he, Lib.hid ⟨F1, hW.step hm, hm.more (by simp), fun k hk => .inl hk⟩⟩
    · exact (rwreset_out n x a b W hn').mono fun e w' ⟨he, hm⟩ => ⟨he, Lib.hid ⟨F2, hW.quiet hm, hm.more (by simp), fun k hk => .inl hk⟩⟩
/-- Cancel on both sides. -/
theorem Two.cancel (h : Two w wr g x i gv S F1 F2 K now q P L G) (hi : i ≤ 120) (l : List (Int × Int)) (hl : l.length ≤ 10) : ∃ (n : Int) (S' : Slb) (P' : List Tm) (L' : List Rt), L'.length ≤ i + 1 ∧ Agree S' P' L' ∧
    (∀ W hb c m, Bare w W g F1 S K now P → Pairs W hb l → hb ∉ F1 → l.length = m → Calls Tryd.prog 18 #[ptr g, .slice (some ⟨hb, 0, none⟩) m c] W fun e w' => e = .returned (.int .i64 n) ∧ Hid (∃ G1, Bare w w' g G1 S' K now P' ∧ Mods F1 W w' ∧ ∀ k ∈ G1, k ∈ F1 ∨ W.heap.size ≤ k)) ∧
    (∀ W hb c m, RefZ W x F2 S K now L q → Pairs W hb l → hb ∉ F2 → l.length = m → Calls Tryd.prog 19 #[ptr x, .slice (some ⟨hb, 0, none⟩) m c] W fun e w' => e = .returned (.int .i64 n) ∧ Hid (∃ G2, RefZ w' x G2 S' K now L' q ∧ Mods F2 W w' ∧ ∀ k ∈ G2, k ∈ F2 ∨ W.heap.size ≤ k)) := by
  have bK := h.bK
  have bL := h.bL
  refine ⟨(S.taken l : Nat), S.takes l, _, _, ?_, h.ag.cancel h.a.ok l, fun W hb c m hW hp hF hm => ?_, fun W hb c m hW hp hF hm => ?_⟩
  · have := List.length_filter_le (fun y : Rt => (S.takes l).is (y.s : Int) (y.g : Int)) L
    show (usedR (S.takes l) L).length ≤ _
    unfold usedR; omega
  · exact (b_cancel W g hb c m l F1 S K now P hW (by omega) (by omega) hp hF hm _ rfl).mono fun e w' ⟨he, hf⟩ => ⟨he, Lib.hid (by
      obtain ⟨G1, h1, h2, h3⟩ := hf.out
      exact ⟨G1, h1, h2, fun k hk => .inl (h3 k hk)⟩)⟩
  · subst hm
    exact rwcancel_any W x hb c l F2 S K now q L hW (fun y hy => (h.ag.use h.a.ok hy).1) (by omega) hp hF
/-- Advance on both sides. -/
theorem Two.advance (h : Two w wr g x i gv S F1 F2 K now q P L G) (hi : i ≤ 120) (n : Int) : ∃ (m t : Nat) (S' : Slb) (P' : List Tm) (l : List Int), l.length = m ∧ m ≤ 1000000 ∧
    (Calls Tryd.prog 21 #[ptr g, .int .i64 n] wr fun e w' => ∃ A c, e = .returned (.slice A m c) ∧ Hid (Own w' 3 (.slice A m c) (iv l) ∧ (∀ b ∈ (Value.slice A m c).ownBlock.toList, wr.heap.size ≤ b) ∧ ∃ G1, Bare w w' g G1 S' K t P' ∧ Mods F1 wr w' ∧ ∀ k ∈ G1, k ∈ F1 ∨ wr.heap.size ≤ k)) ∧
    (∀ W, RefZ W x F2 S K now L q → Calls Tryd.prog 22 #[ptr x, .int .i64 n] W fun e w' => ∃ A c, e = .returned (.slice A m c) ∧ Hid (Own w' 3 (.slice A m c) (iv l) ∧ ∃ G2 L', RefZ w' x G2 S' K t L' q ∧ Mods F2 W w' ∧ (∀ k ∈ G2, k ∈ F2 ∨ W.heap.size ≤ k) ∧ Agree S' P' L' ∧ L'.length ≤ i + 1)) := by
  have bK := h.bK
  have bL := h.bL
  obtain ⟨c1, c2, c3⟩ := h.cnt
  obtain ⟨t, ht⟩ : ∃ t : Nat, min (max n (now : Int)) 1099511627776 = (t : Int) := ⟨(min (max n (now : Int)) 1099511627776).toNat, by omega⟩
  have hlen := h.ag.len
  have hwl : (whatT S (fireT t P)).length ≤ P.length := by rw [fire_less]; exact (by rw [what_len]; have := @less_len (t + 1) P; omega)
  refine ⟨(whatT S (fireT t P)).length, t, takeL S (fireT t P), leftT t P, whatT S (fireT t P), rfl, by omega, ?_, fun W hW => ?_⟩
  · refine (b_adv wr g F1 S K now t n P h.a (by omega) ht).mono ?_
    rintro e w' ⟨v, rfl, hf⟩
    obtain ⟨G1, h1, h2, h3, h4, h5⟩ := hf.out
    obtain ⟨A, c, e, -, -⟩ := own_nums h2 rfl
    subst e
    exact ⟨A, c, rfl, Lib.hid ⟨h2, h4, G1, h1, h3, fun k hk => .inl (h5 k hk)⟩⟩
  · refine (rwadv_any W x F2 S K now t q n L hW (by omega) (by omega)).mono ?_
    rintro e w' ⟨v, rfl, hf⟩
    obtain ⟨G2, R, L', h1, h2, h3, h4, h5, h6, h7⟩ := hf.out
    obtain ⟨e1, e2, e3⟩ := h.ag.advance h.a.ok h2 h3
    rw [e1] at h4
    rw [e2] at h1
    obtain ⟨A, c, e, -, -⟩ := own_nums h4 rfl
    subst e
    have hl' := h2.len
    exact ⟨A, c, rfl, Lib.hid ⟨h4, G2, L', h1, h6, h7, e3, by omega⟩⟩
/-- Where on both sides. -/
theorem Two.where_ (h : Two w wr g x i gv S F1 F2 K now q P L G) (a b : Int) (hp : InI64 (a, b)) : ∃ (u v er : Int),
    (∀ W, Bare w W g F1 S K now P → Calls Tryd.prog 27 #[ptr g, .agg #[.int .i64 a, .int .i64 b]] W fun e w' => e = .returned (.tuple #[.int .i64 u, .int .i64 v, .int .i64 er]) ∧ Mods [] W w') ∧
    (∀ W, RefZ W x F2 S K now L q → Calls Tryd.prog 28 #[ptr x, .agg #[.int .i64 a, .int .i64 b]] W fun e w' => e = .returned (.tuple #[.int .i64 u, .int .i64 v, .int .i64 er]) ∧ Mods [] W w') := by
  cases hs : S.is a b
  · refine ⟨0, 0, 10, fun W hW => ?_, fun W hW => ?_⟩
    · exact b_lost W g F1 S K now P a b hW hp.1.1 hp.1.2 hs
    · exact rwwhere_no W x F2 S K now q L a b hW (h.ag.not_is h.a.ok hs)
  · obtain ⟨j, y, hy, rfl, rfl⟩ := h.ag.of_is h.a.ok hs
    refine ⟨((plc now y.a / 64 : Nat) : Int), ((plc now y.a % 64 : Nat) : Int), 0, fun W hW => ?_, fun W hW => ?_⟩
    · exact b_where W g F1 S K now P y.tm _ _ _ _ hW (h.ag.mem.2 ⟨y, List.mem_of_getElem? hy, rfl⟩) rfl rfl rfl rfl
    · exact rwwhere_yes W x F2 S K now q L j y hW (h.ag.slots h.a.ok) hy
/-- Next on both sides. -/
theorem Two.next (h : Two w wr g x i gv S F1 F2 K now q P L G) : ∃ (u : Int) (v : Bool),
    (∀ W, Bare w W g F1 S K now P → Calls Tryd.prog 23 #[ptr g] W fun e w' => e = .returned (.tuple #[.int .i64 u, .bool v]) ∧ W = w') ∧
    (∀ W, RefZ W x F2 S K now L q → Calls Tryd.prog 24 #[ptr x] W fun e w' => e = .returned (.tuple #[.int .i64 u, .bool v]) ∧ Mods [] W w') := by
  obtain ⟨e1, e2⟩ := h.ag.next
  refine ⟨((minT P : Nat) : Int), decide (P ≠ []), fun W hW => ?_, fun W hW => ?_⟩
  · exact b_next W g F1 S K now P _ _ hW rfl rfl
  · have := rwnext_any W x F2 S K now q L hW
    rw [e1, e2] at this
    exact this
end
end Go.Proofs.YtgfmjkbelciaaaaDoor
