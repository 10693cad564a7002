/- The wheel as a law holds it, blocks of its timers aside. -/
import Derived.Test.YtgfmjkbelciaaaaDoorWhPl
namespace Go.Proofs.YtgfmjkbelciaaaaDoor
open Go.RowKit
set_option maxRecDepth 10000
set_option linter.unusedVariables false
set_option linter.unusedSimpArgs false
set_option linter.unnecessarySimpa false

/-- The wheel behind g, its timers P without their blocks. -/
def Bare (w0 w : World) (g : Nat) (F : List Nat) (S : Slb) (K now : Nat) (P : List Tm) : Prop := ∃ M, Held w0 w g F S K now M ∧ bareL M = P
/-- Slots and timers agree, blocks aside. -/
structure POk (S : Slb) (now : Nat) (P : List Tm) : Prop where
  slots : (P.map (·.s)).Nodup
  use : ∀ m ∈ P, m.s < S.us.length ∧ S.us.getD m.s false = true ∧ S.gs.getD m.s 0 = m.g
  all : ∀ i, S.us.getD i false = true → ∃ m ∈ P, m.s = i
  cnt : P.length = S.cnt
  time : now ≤ 1099511627776
  times : ∀ m ∈ P, m.a ≤ 1099511627776
  lim : S.lim = 4096
theorem bareL_mem {M : List Tm} {p : Tm} (h : p ∈ bareL M) : ∃ m ∈ M, bare m = p := List.mem_map.1 h
theorem WOk.bare {S : Slb} {now : Nat} {M : List Tm} (h : WOk S now M) : POk S now (bareL M) :=
  ⟨by have := h.slots; unfold bareL; rw [List.map_map]; exact this, fun p hp => by obtain ⟨m, hm, rfl⟩ := bareL_mem hp; exact h.use m hm, fun i hi => by
    obtain ⟨m, hm, e⟩ := h.all i hi
    exact ⟨Go.Proofs.YtgfmjkbelciaaaaDoor.bare m, bare_mem hm, e⟩, by rw [bare_len]; exact h.cnt, h.time, fun p hp => by obtain ⟨m, hm, rfl⟩ := bareL_mem hp; exact h.times m hm, h.lim⟩
section
variable {w0 w w' : World} {g : Nat} {F F' : List Nat} {S S' : Slb} {K K' now now' : Nat} {P P' : List Tm}
theorem Bare.ok (h : Bare w0 w g F S K now P) : POk S now P := by
  obtain ⟨M, h1, rfl⟩ := h
  exact h1.wh.ok.bare
theorem Bare.slabOk (h : Bare w0 w g F S K now P) : S.Ok K := by
  obtain ⟨M, h1, rfl⟩ := h
  exact h1.wh.slabOk
theorem Bare.step (h : Bare w0 w g F S K now P) (hm : Mods [] w w') : Bare w0 w' g F S K now P := by
  obtain ⟨M, h1, h2⟩ := h
  exact ⟨M, h1.step hm, h2⟩
theorem Bare.lt (h : Bare w0 w g F S K now P) : ∀ k ∈ F, k < w.heap.size := by
  obtain ⟨M, h1, h2⟩ := h
  exact h1.wh.lt
theorem Bare.new (h : Bare w0 w g F S K now P) : ∀ k ∈ F, w0.heap.size ≤ k := by
  obtain ⟨M, h1, h2⟩ := h
  exact h1.new
theorem Bare.mods (h : Bare w0 w g F S K now P) : Mods [] w0 w := by
  obtain ⟨M, h1, h2⟩ := h
  exact h1.mods
/-- Something else, all of it new to w0, has turned. -/
theorem Bare.aside {G : List Nat} (h : Bare w0 w g F S K now P) (hm : Mods G w w') (hd : ∀ k ∈ F, k ∉ G) (hG : ∀ k ∈ G, w0.heap.size ≤ k) : Bare w0 w' g F S K now P := by
  obtain ⟨M, h1, h2⟩ := h
  exact ⟨M, ⟨h1.wh.mods hm hd, h1.new, h1.mods.trans hm (fun k hk => .inr (hG k hk))⟩, h2⟩
theorem Bare.far (h : Bare w0 w g F S K now P) {k : Nat} {t : TypeId} {cs : Array Value} (r : Row w k t cs) (h1 : t ≠ 74) (h2 : t ≠ 94) (h3 : t ≠ 99) (h4 : t ≠ 69) (h5 : t ≠ 79) : k ∉ F := by
  obtain ⟨M, q1, q2⟩ := h
  exact q1.wh.far r h1 h2 h3 h4 h5
theorem Bare.far_hand {k : Nat} {cs : Array Value} (h : Bare w0 w g F S K now P) (r : Row w k 32 cs) : k ∉ F := h.far r (by decide) (by decide) (by decide) (by decide) (by decide)
theorem Bare.far_ints {v : Value} {l : List Value} (h : Bare w0 w g F S K now P) (r : Own w 3 v l) : ∀ k ∈ v.ownBlock.toList, k ∉ F := by
  obtain ⟨M, q1, q2⟩ := h
  exact q1.wh.far_ints r
theorem Bare.far_pairs {v : Value} {l : List (Int × Int)} (h : Bare w0 w g F S K now P) (r : OwnPairs w 32 v l) : ∀ k ∈ v.ownBlock.toList, k ∉ F := by
  rcases r.2 with ⟨rfl, _⟩ | ⟨b, cap, cur, rfl, _, hh, _⟩
  · intro k hk; simp [Value.ownBlock] at hk
  · intro k hk
    have : k = b := by simpa [Value.ownBlock, eq_comm] using hk
    subst this
    exact h.far_hand (show Row w k 32 cur from hh)
end
theorem fire_bare (t : Nat) (M : List Tm) : bareL (fireT t M) = fireT t (bareL M) := by rw [fire_less, fire_less, less_bare]
theorem left_bare (t : Nat) (M : List Tm) : bareL (leftT t M) = leftT t (bareL M) := by rw [left_rest, left_rest, rest_bare]
theorem min_bare (M : List Tm) : minT (bareL M) = minT M := by
  induction M with
  | nil => rfl
  | cons m M ih =>
    show (if bareL M = [] then m.a else min m.a (minT (bareL M))) = if M = [] then m.a else min m.a (minT M)
    by_cases h : M = []
    · subst h; rfl
    · rw [if_neg h, if_neg (fun e => h (bare_nil e)), ih]
/-- Which timer has a slot no more. -/
def noT (P : List Tm) (s : Nat) : List Tm := P.filter fun m => m.s != s
theorem wo_bare {M : List Tm} (hb : (M.map (·.b)).Nodup) (hs : (M.map (·.s)).Nodup) {m : Tm} (hm : m ∈ M) : bareL (woT M m.b) = noT (bareL M) m.s := by
  have e : woT M m.b = M.filter fun x => x.s != m.s := List.filter_congr fun x hx => by
    rw [Bool.eq_iff_iff, bne_iff_ne, bne_iff_ne]
    refine not_congr ⟨fun e => by rw [eq_of_b hb hx hm e], fun e => ?_⟩
    have : x = m := by
      have hx' := bySlot_of hs hx
      have hm' := bySlot_of hs hm
      rw [e, hm'] at hx'
      exact (eq_of_b hb hx hm (Option.some.inj hx').symm)
    rw [this]
  rw [e]
  unfold bareL noT
  rw [List.filter_map]; rfl
/-- Set anew. -/
def anewT (P : List Tm) (s g a : Nat) : List Tm := noT P s ++ [⟨0, s, g, a⟩]
section
variable {w0 : World}
theorem b_new (w : World) (now : Nat) (hm : Mods [] w0 w) (h : now ≤ 1099511627776) : Calls Tryd.prog 10 #[.int .i64 (now : Int)] w fun e w' =>
    ∃ g, e = .returned (.tuple #[.pointer (some ⟨g, 0, none⟩), .int .i64 0]) ∧ Hid (∃ F, Bare w0 w' g F (Slb.new 4096) 0 now [] ∧ Mods [] w w' ∧ ∀ k ∈ F, w.heap.size ≤ k) :=
  (new_as w now hm h).mono fun e w' ⟨g, he, hf⟩ => ⟨g, he, Lib.hid (by
    obtain ⟨F, h1, h2, h3⟩ := hf.out
    exact ⟨F, ⟨[], h1, rfl⟩, h2, h3⟩)⟩
theorem b_add (w : World) (g a : Nat) (v : Int) (F : List Nat) (S : Slb) (K now : Nat) (P : List Tm) (ls ge : Int) (h : Bare w0 w g F S K now P) (hT : TzTab w0) (ha : a ≤ 1099511627776) (hc : S.cnt < 4096) (hK : K ≤ 4000000000000) (h1 : (S.least : Int) = ls) (h2 : (S.gen : Int) = ge) :
    Calls Tryd.prog 14 #[ptr g, .int .i64 (a : Int), .int .i64 v] w fun e w' => e = .returned (.tuple #[.agg #[.int .i64 ls, .int .i64 ge], .int .i64 0]) ∧ Hid (∃ F', Bare w0 w' g F' (S.put v) (K + 1) now (P ++ [⟨0, S.least, S.gen, a⟩]) ∧ Mods F w w' ∧ ∀ k ∈ F', k ∈ F ∨ w.heap.size ≤ k) := by
  subst h1 h2
  obtain ⟨M, h, rfl⟩ := h
  exact (wadd_any w g a v F S K now M h.wh (h.tz hT) ha (by rw [h.wh.ok.lim]; exact hc) hK).mono fun e w' ⟨he, hf⟩ => ⟨he, Lib.hid (by
    obtain ⟨F', b, q1, q2, q3⟩ := hf.out
    exact ⟨F', ⟨_, h.turn q1 q3 q2, by simp [bareL, bare]⟩, q2, q3⟩)⟩
theorem b_adv (w : World) (g : Nat) (F : List Nat) (S : Slb) (K now t : Nat) (n : Int) (P : List Tm) (h : Bare w0 w g F S K now P) (hK : K ≤ 4000000000000) (ht : min (max n (now : Int)) 1099511627776 = (t : Int)) :
    Calls Tryd.prog 21 #[ptr g, .int .i64 n] w fun e w' => ∃ v, e = .returned v ∧ Hid (∃ F', Bare w0 w' g F' (takeL S (fireT t P)) K t (leftT t P) ∧ Own w' 3 v (iv (whatT S (fireT t P))) ∧ Mods F w w' ∧ (∀ b ∈ v.ownBlock.toList, w.heap.size ≤ b) ∧ ∀ k ∈ F', k ∈ F) := by
  obtain ⟨M, h, rfl⟩ := h
  exact (adv_any w g F S K now t n M h.wh hK ht).mono fun e w' ⟨v, he, hf⟩ => ⟨v, he, Lib.hid (by
    obtain ⟨h1, h2, h3, F', h4, h5⟩ := hf.out
    rw [← fire_bare, take_bare, what_bare]
    exact ⟨F', ⟨_, h.turn h5 (fun k hk => .inl (h4 k hk)) h3, left_bare _ _⟩, h1, h3, h2, h4⟩)⟩
theorem b_reset (w : World) (g a : Nat) (F : List Nat) (S : Slb) (K now : Nat) (P : List Tm) (s gn : Nat) (h : Bare w0 w g F S K now P) (ha : a ≤ 1099511627776) (hm : ∃ m ∈ P, m.s = s ∧ m.g = gn) (x y : Int) (hx : (s : Int) = x) (hy : (gn : Int) = y) :
    Calls Tryd.prog 16 #[ptr g, .agg #[.int .i64 x, .int .i64 y], .int .i64 (a : Int)] w fun e w' => e = .returned (.int .i64 0) ∧ Hid (∃ F', Bare w0 w' g F' S K now (anewT P s gn a) ∧ Mods F w w' ∧ ∀ k, k ∈ F' ↔ k ∈ F) := by
  subst hx hy
  obtain ⟨M, h, rfl⟩ := h
  obtain ⟨p, hp, e1, e2⟩ := hm
  obtain ⟨m, hm, rfl⟩ := bareL_mem hp
  obtain rfl : m.s = s := e1
  obtain rfl : m.g = gn := e2
  exact (reset_yes w g a F S K now M m h.wh ha hm).mono fun e w' ⟨he, hf⟩ => ⟨he, Lib.hid (by
    obtain ⟨F', h1, h2, h3⟩ := hf.out
    refine ⟨F', ⟨_, h.turn h1 (fun k hk => .inl ((h3 k).1 hk)) h2, ?_⟩, h2, h3⟩
    unfold resT anewT
    rw [← wo_bare h.wh.ok.bnd h.wh.ok.slots hm]
    simp [bareL, bare])⟩
theorem b_stale (w : World) (g a : Nat) (F : List Nat) (S : Slb) (K now : Nat) (P : List Tm) (x y : Int) (h : Bare w0 w g F S K now P) (ha : a ≤ 1099511627776) (h1 : -9223372036854775808 ≤ x) (h2 : x ≤ 9223372036854775807) (hs : S.is x y = false) :
    Calls Tryd.prog 16 #[ptr g, .agg #[.int .i64 x, .int .i64 y], .int .i64 (a : Int)] w fun e w' => e = .returned (.int .i64 10) ∧ Mods [] w w' := by
  obtain ⟨M, h, rfl⟩ := h
  exact reset_stale w g a F S K now M x y h.wh ha h1 h2 hs
theorem live_bare (S : Slb) (M : List Tm) : bareL (liveT S M) = liveT S (bareL M) := by
  unfold bareL liveT
  rw [List.filter_map]; rfl
theorem b_cancel (w : World) (g hb c n : Nat) (l : List (Int × Int)) (F : List Nat) (S : Slb) (K now : Nat) (P : List Tm) (h : Bare w0 w g F S K now P) (hK : K ≤ 4000000000000) (hl : l.length ≤ 100000) (hp : Pairs w hb l) (hbF : hb ∉ F) (hn : l.length = n) (r : Int) (hr : (S.taken l : Int) = r) :
    Calls Tryd.prog 18 #[ptr g, .slice (some ⟨hb, 0, none⟩) n c] w fun e w' => e = .returned (.int .i64 r) ∧ Hid (∃ F', Bare w0 w' g F' (S.takes l) K now (liveT (S.takes l) P) ∧ Mods F w w' ∧ ∀ k ∈ F', k ∈ F) := by
  subst hn hr
  obtain ⟨M, h, rfl⟩ := h
  exact (cancel_any w g hb c l F S K now M h.wh hK hl hp hbF).mono fun e w' ⟨he, hf⟩ => ⟨he, Lib.hid (by
    obtain ⟨F', h1, h2, h3⟩ := hf.out
    exact ⟨F', ⟨_, h.turn h2 (fun k hk => .inl (h1 k hk)) h3, live_bare _ _⟩, h3, h1⟩)⟩
theorem b_where (w : World) (g : Nat) (F : List Nat) (S : Slb) (K now : Nat) (P : List Tm) (m : Tm) (s gn x y : Int) (h : Bare w0 w g F S K now P) (hm : m ∈ P) (h1 : (m.s : Int) = s) (h2 : (m.g : Int) = gn) (h3 : ((plc now m.a / 64 : Nat) : Int) = x) (h4 : ((plc now m.a % 64 : Nat) : Int) = y) :
    Calls Tryd.prog 27 #[ptr g, .agg #[.int .i64 s, .int .i64 gn]] w fun e w' => e = .returned (.tuple #[.int .i64 x, .int .i64 y, .int .i64 0]) ∧ Mods [] w w' := by
  obtain ⟨M, h, rfl⟩ := h
  obtain ⟨m, hm', rfl⟩ := bareL_mem hm
  clear hm
  exact where_as w g F S K now M m s gn x y h hm' h1 h2 h3 h4
theorem b_lost (w : World) (g : Nat) (F : List Nat) (S : Slb) (K now : Nat) (P : List Tm) (x y : Int) (h : Bare w0 w g F S K now P) (h1 : -9223372036854775808 ≤ x) (h2 : x ≤ 9223372036854775807) (hs : S.is x y = false) :
    Calls Tryd.prog 27 #[ptr g, .agg #[.int .i64 x, .int .i64 y]] w fun e w' => e = .returned (.tuple #[.int .i64 0, .int .i64 0, .int .i64 10]) ∧ Mods [] w w' := by
  obtain ⟨M, h, rfl⟩ := h
  exact where_no w g F S K now M x y h.wh h1 h2 hs
theorem b_next (w : World) (g : Nat) (F : List Nat) (S : Slb) (K now : Nat) (P : List Tm) (x : Int) (y : Bool) (h : Bare w0 w g F S K now P) (hx : ((minT P : Nat) : Int) = x) (hy : decide (P ≠ []) = y) :
    Calls Tryd.prog 23 #[ptr g] w fun e w' => e = .returned (.tuple #[.int .i64 x, .bool y]) ∧ w = w' := by
  subst hx hy
  obtain ⟨M, h, rfl⟩ := h
  have e1 : decide (bareL M ≠ []) = decide (M ≠ []) := by
    rw [Bool.eq_iff_iff, decide_eq_true_eq, decide_eq_true_eq]
    exact not_congr ⟨bare_nil, fun e => by rw [e]; rfl⟩
  rw [e1, min_bare]
  exact wnext_any w g F S K now M h.wh
theorem b_len (w : World) (g : Nat) (F : List Nat) (S : Slb) (K now : Nat) (P : List Tm) (x : Int) (h : Bare w0 w g F S K now P) (hx : ((P.length : Nat) : Int) = x) :
    Calls Tryd.prog 25 #[ptr g] w fun e w' => e = .returned (.int .i64 x) ∧ w = w' := by
  subst hx
  obtain ⟨M, h, rfl⟩ := h
  rw [bare_len]
  exact wlen_any w g F S K now M h.wh
theorem b_now (w : World) (g : Nat) (F : List Nat) (S : Slb) (K now : Nat) (P : List Tm) (h : Bare w0 w g F S K now P) :
    Calls Tryd.prog 26 #[ptr g] w fun e w' => e = .returned (.int .i64 (now : Int)) ∧ w = w' := by
  obtain ⟨M, h, rfl⟩ := h
  exact wnow_any w g F S K now M h.wh
end
/-- A number with a mask of ones. -/
theorem and_mask (a : Int) (k : Nat) (hk : k < 63) : ∃ n : Nat, bits BinOp.and IntKind.i64 a (((2 ^ k - 1 : Nat)) : Int) = (n : Int) ∧ n < 2 ^ k := by
  have e : bits BinOp.and IntKind.i64 a ((2 ^ k - 1 : Nat) : Int) = IntKind.i64.wrap ((BitVec.ofInt 64 a &&& BitVec.ofInt 64 ((2 ^ k - 1 : Nat) : Int)).toNat : Int) := rfl
  have hp : 2 ^ k < 2 ^ 63 := Nat.pow_lt_pow_right (by omega) hk
  have hp0 := Nat.two_pow_pos k
  have h2 : (BitVec.ofInt 64 ((2 ^ k - 1 : Nat) : Int)).toNat = 2 ^ k - 1 := by
    rw [BitVec.toNat_ofInt]
    omega
  have h : (BitVec.ofInt 64 a &&& BitVec.ofInt 64 ((2 ^ k - 1 : Nat) : Int)).toNat ≤ 2 ^ k - 1 := by
    rw [BitVec.toNat_and, h2]
    exact Nat.and_le_right
  refine ⟨(BitVec.ofInt 64 a &&& BitVec.ofInt 64 ((2 ^ k - 1 : Nat) : Int)).toNat, ?_, by omega⟩
  rw [e, IntKind.wrap_i64]
  omega
theorem and_30 (a : Int) : ∃ n : Nat, bits BinOp.and IntKind.i64 a 1073741823 = (n : Int) ∧ n < 1073741824 := and_mask a 30 (by omega)
theorem and_26 (a : Int) : ∃ n : Nat, bits BinOp.and IntKind.i64 a 67108863 = (n : Int) ∧ n < 67108864 := and_mask a 26 (by omega)
theorem int_infoN : (Tryd.prog.info? 3).map (fun i => (i.zero, i.size, i.bytes)) = some (some (.int .i64 0), 1, 8) := by kernel_rfl
theorem iv_one (l : List Int) : ∀ u ∈ iv l, u.oneCell' = true := fun u hu => by
  obtain ⟨x, _, rfl⟩ := List.mem_map.1 hu; rfl
theorem iv_app (l m : List Int) : iv (l ++ m) = iv l ++ iv m := by simp [iv]
end Go.Proofs.YtgfmjkbelciaaaaDoor
