/- The reference's wheel in memory; New and place of it. -/
import Derived.Test.YtgfmjkbelciaaaaDoorWhGv
import Derived.Test.YtgfmjkbelciaaaaDoorRefH
import Derived.Test.YtgfmjkbelciaaaaDoorSlab
import Derived.Maps.AppendAt
import Derived.BigRegion
namespace Go.Proofs.YtgfmjkbelciaaaaDoor
open Go.RowKit
set_option maxRecDepth 10000
set_option linter.unusedVariables false
set_option linter.unusedSimpArgs false
set_option linter.unnecessarySimpa false

/-- A timer of the reference's: time, what for, number, Handle. -/
structure Rt where
  a : Nat
  v : Int
  q : Nat
  s : Nat
  g : Nat
def Rt.cs (x : Rt) : List Value := [.int .i64 (x.a : Int), .int .i64 x.v, .int .i64 (x.q : Int), .int .i64 (x.s : Int), .int .i64 (x.g : Int)]
def rts : List Rt → List Value
  | [] => []
  | x :: L => x.cs ++ rts L
theorem rts_append (L M : List Rt) : rts (L ++ M) = rts L ++ rts M := by
  induction L with
  | nil => rfl
  | cons x L ih => simp [rts, ih]
theorem rts_length (L : List Rt) : (rts L).length = L.length * 5 := by
  induction L with
  | nil => rfl
  | cons x L ih => simp [rts, Rt.cs, ih]; omega
theorem rts_at (L : List Rt) : ∀ (i : Nat) (x : Rt), L[i]? = some x → (rts L)[i * 5]? = some (.int .i64 (x.a : Int)) ∧ (rts L)[i * 5 + 1]? = some (.int .i64 x.v) ∧ (rts L)[i * 5 + 2]? = some (.int .i64 (x.q : Int)) ∧ (rts L)[i * 5 + 3]? = some (.int .i64 (x.s : Int)) ∧ (rts L)[i * 5 + 4]? = some (.int .i64 (x.g : Int)) := by
  induction L with
  | nil => intro i x h; simp at h
  | cons y L ih =>
    intro i x h
    cases i with
    | zero =>
      obtain rfl : y = x := by simpa using h
      exact ⟨rfl, rfl, rfl, rfl, rfl⟩
    | succ i =>
      have := ih i x (by simpa using h)
      rw [show (i + 1) * 5 = i * 5 + 5 by omega, show i * 5 + 5 + 1 = i * 5 + 1 + 5 by omega, show i * 5 + 5 + 2 = i * 5 + 2 + 5 by omega, show i * 5 + 5 + 3 = i * 5 + 3 + 5 by omega, show i * 5 + 5 + 4 = i * 5 + 4 + 5 by omega]
      exact this
theorem rts_one (L : List Rt) : ∀ u ∈ rts L, u.oneCell' = true := by
  induction L with
  | nil => intro u hu; cases hu
  | cons x L ih =>
    intro u hu
    rcases List.mem_append.1 (show u ∈ x.cs ++ rts L from hu) with h | h
    · simp only [Rt.cs, List.mem_cons, List.mem_nil_iff, or_false] at h
      rcases h with rfl | rfl | rfl | rfl | rfl <;> rfl
    · exact ih u h
theorem rts_take (L : List Rt) (k : Nat) : rts (L.take k) = (rts L).take (k * 5) := by
  rcases Nat.le_total k L.length with h | h
  · have e : rts L = rts (L.take k) ++ rts (L.drop k) := by rw [← rts_append, List.take_append_drop]
    rw [e, List.take_left' (by rw [rts_length, List.length_take]; omega)]
  · rw [List.take_of_length_le h, List.take_of_length_le (by rw [rts_length]; omega)]
theorem rts_drop (L : List Rt) (k : Nat) : rts (L.drop k) = (rts L).drop (k * 5) := by
  rcases Nat.le_total k L.length with h | h
  · have e : rts L = rts (L.take k) ++ rts (L.drop k) := by rw [← rts_append, List.take_append_drop]
    rw [e, List.drop_left' (by rw [rts_length, List.length_take]; omega)]
  · rw [List.drop_of_length_le h, List.drop_of_length_le (by rw [rts_length]; omega)]; rfl
/-- The reference's wheel behind pointer x. -/
structure RefW (w : World) (x sg : Nat) (lv : Value) (hF : List Nat) (S : Slb) (K now : Nat) (L : List Rt) (q : Nat) : Prop where
  row : Row w x 40 #[.pointer (some ⟨sg, 0, none⟩), lv, .int .i64 (now : Int), .int .i64 (q : Int)]
  slab : SlabB w sg hF S K
  own : w.ownsRow 0 83 5 lv L.length (rts L)
  len : L.length ≤ 4096
  rng : ∀ y ∈ L, y.q ≤ q ∧ y.a ≤ 1099511627776 ∧ y.s < 4096 ∧ y.g ≤ K
  time : now ≤ 1099511627776
def foot6 (x : Nat) (hF : List Nat) (lv : Value) : List Nat := x :: (hF ++ lv.ownBlock.toList)
def RefZ (w : World) (x : Nat) (F : List Nat) (S : Slb) (K now : Nat) (L : List Rt) (q : Nat) : Prop := ∃ sg lv hF, F = foot6 x hF lv ∧ RefW w x sg lv hF S K now L q
section
variable {w w' : World} {x sg K now q : Nat} {lv : Value} {hF F G : List Nat} {S : Slb} {L : List Rt}
theorem RefW.keep (h : RefW w x sg lv hF S K now L q) (e : ∀ k ∈ foot6 x hF lv, w'.heap[k]? = w.heap[k]?) : RefW w' x sg lv hF S K now L q :=
  ⟨h.row.keep (e _ (by simp [foot6])), slabB_keep h.slab (fun k hk => e k (by simp only [foot6, List.mem_cons, List.mem_append]; exact .inr (.inl hk))),
    own_keep h.own (fun k hk => e k (by simp only [foot6, List.mem_cons, List.mem_append]; exact .inr (.inr hk))), h.len, h.rng, h.time⟩
theorem RefW.lt (h : RefW w x sg lv hF S K now L q) : ∀ k ∈ foot6 x hF lv, k < w.heap.size := by
  intro k hk
  simp only [foot6, List.mem_cons, List.mem_append] at hk
  rcases hk with rfl | hk | hk
  · exact h.row.lt
  · exact slabB_lt h.slab k hk
  · exact own_lt h.own k hk
theorem RefW.mods (h : RefW w x sg lv hF S K now L q) (hm : Mods G w w') (hd : ∀ k ∈ foot6 x hF lv, k ∉ G) : RefW w' x sg lv hF S K now L q := h.keep fun k hk => hm.block k (h.lt k hk) (hd k hk)
theorem RefW.quiet (h : RefW w x sg lv hF S K now L q) (hm : Mods [] w w') : RefW w' x sg lv hF S K now L q := h.mods hm (by simp)
theorem RefZ.lt (h : RefZ w x F S K now L q) : ∀ k ∈ F, k < w.heap.size := by
  obtain ⟨sg, lv, hF, rfl, h⟩ := h
  exact h.lt
theorem RefZ.mods (h : RefZ w x F S K now L q) (hm : Mods G w w') (hd : ∀ k ∈ F, k ∉ G) : RefZ w' x F S K now L q := by
  obtain ⟨sg, lv, hF, rfl, h⟩ := h
  exact ⟨sg, lv, hF, rfl, h.mods hm hd⟩
theorem RefZ.quiet (h : RefZ w x F S K now L q) (hm : Mods [] w w') : RefZ w' x F S K now L q := h.mods hm (by simp)
theorem slabB_kinds {w : World} {x : Nat} {F : List Nat} {S : Slb} {K : Nat} (h : SlabB w x F S K) : ∀ k ∈ F, ∃ t cs, Row w k t cs ∧ (t = 97 ∨ t = 4 ∨ t = 3) := by
  obtain ⟨uv, gv, vv, rfl, ⟨h1, h2, h3, h4, h5⟩, _⟩ := h
  have go : ∀ {e : TypeId} {v : Value} {n : Nat} {xs : List Value}, w.ownsRow 0 e 1 v n xs → ∀ k ∈ v.ownBlock.toList, ∃ cs, Row w k e cs := fun h k hk => by
    rcases h.2 with ⟨rfl, _⟩ | ⟨g', cap, cur, rfl, _, hh, _⟩
    · simp [Value.ownBlock] at hk
    · have : k = g' := by simpa [Value.ownBlock, eq_comm] using hk
      subst this
      exact ⟨cur, hh⟩
  intro k hk
  simp only [List.mem_cons, List.mem_append] at hk
  rcases hk with rfl | hk | hk | hk
  · exact ⟨_, _, h1, .inl rfl⟩
  · obtain ⟨cs, r⟩ := go h2 k hk
    exact ⟨_, _, r, .inr (.inl rfl)⟩
  · obtain ⟨cs, r⟩ := go h3 k hk
    exact ⟨_, _, r, .inr (.inr rfl)⟩
  · obtain ⟨cs, r⟩ := go h4 k hk
    exact ⟨_, _, r, .inr (.inr rfl)⟩
theorem RefW.apart (h : RefW w x sg lv hF S K now L q) : x ∉ hF ∧ x ∉ lv.ownBlock.toList ∧ ∀ k ∈ lv.ownBlock.toList, k ∉ hF := by
  refine ⟨fun hk => ?_, fun hk => ?_, fun k hk hk2 => ?_⟩
  · obtain ⟨t, cs, r, ht⟩ := slabB_kinds h.slab x hk
    exact Row.type_ne h.row r (by rcases ht with rfl | rfl | rfl <;> decide) rfl
  · exact own_ne_row h.own h.row (by decide) x hk rfl
  · obtain ⟨t, cs, r, ht⟩ := slabB_kinds h.slab k hk2
    exact own_ne_row h.own r (by rcases ht with rfl | rfl | rfl <;> decide) k hk rfl
theorem RefZ.far (h : RefZ w x F S K now L q) {k : Nat} {t : TypeId} {cs : Array Value} (r : Row w k t cs) (h1 : t ≠ 40) (h2 : t ≠ 97) (h3 : t ≠ 4) (h4 : t ≠ 3) (h5 : t ≠ 83) : k ∉ F := by
  obtain ⟨sg, lv, hF, rfl, h⟩ := h
  intro hk
  simp only [foot6, List.mem_cons, List.mem_append] at hk
  rcases hk with rfl | hk | hk
  · exact Row.type_ne r h.row h1 rfl
  · obtain ⟨t', c, r2, ht⟩ := slabB_kinds h.slab k hk
    exact Row.type_ne r r2 (by rcases ht with rfl | rfl | rfl <;> assumption) rfl
  · exact own_ne_row h.own r (Ne.symm h5) k hk rfl
theorem RefZ.far_hand {k : Nat} {cs : Array Value} (h : RefZ w x F S K now L q) (r : Row w k 32 cs) : k ∉ F := h.far r (by decide) (by decide) (by decide) (by decide) (by decide)
theorem RefW.cells (h : RefW w x sg lv hF S K now L q) : w.cell? ⟨x, 0, none⟩ = some (.pointer (some ⟨sg, 0, none⟩)) ∧ w.cell? ⟨x, 1, none⟩ = some lv ∧ w.cell? ⟨x, 2, none⟩ = some (.int .i64 (now : Int)) ∧ w.cell? ⟨x, 3, none⟩ = some (.int .i64 (q : Int)) ∧ ∀ j, w.frozen? ⟨x, j, none⟩ = false :=
  ⟨h.row.cell 0, h.row.cell 1, h.row.cell 2, h.row.cell 3, h.row.free⟩
/-- The cells of one of its timers. -/
theorem RefW.at (h : RefW w x sg lv hF S K now L q) {i : Nat} {y : Rt} (hy : L[i]? = some y) : ∃ lb lc, lv = .slice (some ⟨lb, 0, none⟩) L.length lc ∧ L.length ≤ lc ∧ lc ≤ maxLen ∧ i < L.length ∧
    w.cell? ⟨lb, i * 5, none⟩ = some (.int .i64 (y.a : Int)) ∧ w.cell? ⟨lb, i * 5 + 1, none⟩ = some (.int .i64 y.v) ∧ w.cell? ⟨lb, i * 5 + 2, none⟩ = some (.int .i64 (y.q : Int)) ∧ w.cell? ⟨lb, i * 5 + 3, none⟩ = some (.int .i64 (y.s : Int)) ∧ w.cell? ⟨lb, i * 5 + 4, none⟩ = some (.int .i64 (y.g : Int)) ∧ ∀ j, w.frozen? ⟨lb, j, none⟩ = false := by
  have hi : i < L.length := (List.getElem?_eq_some_iff.1 hy).1
  have ho := h.own
  obtain ⟨lb, lc, rfl, -, h1, h2⟩ := own_some ho (by omega)
  obtain ⟨a0, a1, a2, a3, a4⟩ := rts_at L i y hy
  exact ⟨lb, lc, rfl, h1, h2, hi, by rw [ho.cellAt _ (by omega), a0], by rw [ho.cellAt _ (by omega), a1], by rw [ho.cellAt _ (by omega), a2], by rw [ho.cellAt _ (by omega), a3], by rw [ho.cellAt _ (by omega), a4], ho.frozenAt⟩
end
theorem rwnew_no (n : Int) (w : World) (h : n < 0 ∨ 1099511627776 < n) : Calls Tryd.prog 11 #[.int .i64 n] w fun e w' => e = .returned (.tuple #[.pointer none, .int .i64 1]) ∧ w = w' := by
  by_cases h1 : n < 0
  · clear h
    go_enter Tryd.func11, Tryd.ntmps11
    go_wp2
    go_ret2
    exact ⟨rfl, rfl⟩
  · have h2 : 1099511627776 < n := by omega
    clear h
    go_enter Tryd.func11, Tryd.ntmps11
    go_wp2
    go_ret2
    exact ⟨rfl, rfl⟩
theorem rwnew_any (now : Nat) (w : World) (h : now ≤ 1099511627776) : Calls Tryd.prog 11 #[.int .i64 (now : Int)] w fun e w' =>
    ∃ x, e = .returned (.tuple #[.pointer (some ⟨x, 0, none⟩), .int .i64 0]) ∧ Hid (∃ F, RefZ w' x F (Slb.new 4096) 0 now [] 0 ∧ Mods [] w w' ∧ ∀ k ∈ F, w.heap.size ≤ k) := by
  have h1 : ¬ (now : Int) < 0 := by omega
  have h2 : ¬ 1099511627776 < (now : Int) := by omega
  go_enter Tryd.func11, Tryd.ntmps11
  go_wp2_with fail
  refine (rnew_any 4096 w (by omega) (by omega)).mono ?_
  rintro e w1 ⟨rfl, hs, hm⟩
  have HS := Lib.hid hs
  have HM := Lib.hid hm
  clear hs hm
  go_wp2
  go_ret2
  refine ⟨_, rfl, Lib.hid ⟨_, ⟨w.heap.size, .slice none 0 0, [w.heap.size], rfl, ⟨Row.new w1 _ _, slabB_mods HS.out ((Mods.refl [] w1).alloc _) (by simp), ⟨rfl, .inl ⟨rfl, rfl⟩⟩, by simp, by simp, h⟩⟩, HM.out.alloc _, fun k hk => ?_⟩⟩
  have := HM.out.size
  simp only [foot6, Value.ownBlock, Option.toList, List.mem_cons, List.mem_append, List.mem_nil_iff, or_false] at hk
  omega
end Go.Proofs.YtgfmjkbelciaaaaDoor

/- What place, Where, Next of the reference's wheel answer. -/
namespace Go.Proofs.YtgfmjkbelciaaaaDoor
open Go.RowKit
set_option maxRecDepth 10000
set_option linter.unusedVariables false
set_option linter.unusedSimpArgs false
set_option linter.unnecessarySimpa false

theorem and63 (n : Nat) (h : n ≤ 1099511627776) : bits BinOp.and IntKind.i64 (n : Int) 63 = ((n % 64 : Nat) : Int) := by
  have e : bits BinOp.and IntKind.i64 (n : Int) 63 = IntKind.i64.wrap ((BitVec.ofInt 64 (n : Int) &&& BitVec.ofInt 64 63).toNat : Int) := rfl
  have e2 : (BitVec.ofInt 64 (n : Int) &&& BitVec.ofInt 64 63).toNat = n % 64 := by
    have h1 : (BitVec.ofInt 64 (n : Int)).toNat = n := by
      rw [BitVec.toNat_ofInt]; omega
    rw [BitVec.toNat_and, h1]
    exact Nat.and_two_pow_sub_one_eq_mod n 6
  rw [e, e2, IntKind.wrap_i64]
  omega
theorem ret2i {a b c d : Int} (h1 : a = c) (h2 : b = d) : Ending.returned (.tuple #[.int .i64 a, .int .i64 b]) = .returned (.tuple #[.int .i64 c, .int .i64 d]) := by rw [h1, h2]
set_option maxHeartbeats 1000000 in
theorem rwplace_any (w : World) (x a : Nat) (F : List Nat) (S : Slb) (K now q : Nat) (L : List Rt) (h : RefZ w x F S K now L q) (ha : a ≤ 1099511627776) :
    Calls Tryd.prog 45 #[.pointer (some ⟨x, 0, none⟩), .int .i64 (a : Int)] w fun e w' => e = .returned (.tuple #[.int .i64 ((plc now a / 64 : Nat) : Int), .int .i64 ((plc now a % 64 : Nat) : Int)]) ∧ Mods [] w w' := by
  obtain ⟨sg, lv, hF, rfl, h⟩ := h
  obtain ⟨c0, c1, c2, c3, c4⟩ := h.cells
  have hn := h.time
  clear h
  by_cases h1 : (a : Int) ≤ (now : Int)
  · go_enter Tryd.func45, Tryd.ntmps45
    go_wp2
    go_quiet (fail)
    go_wp2
    go_ret2
    refine ⟨ret2i ?_ ?_, (Mods.refl _ _).drewN _⟩
    · rw [show plc now a = now % 64 from if_pos (by omega)]; omega
    · rw [show plc now a = now % 64 from if_pos (by omega)]
      exact (and63 now hn).trans (by omega)
  · have a0 := and63 a ha
    have a1 : bits BinOp.and IntKind.i64 ((a : Int) / 64) 63 = ((a / 64 % 64 : Nat) : Int) := and63 (a / 64) (by omega)
    have a2 : bits BinOp.and IntKind.i64 ((a : Int) / 4096) 63 = ((a / 4096 % 64 : Nat) : Int) := and63 (a / 4096) (by omega)
    have a3 : bits BinOp.and IntKind.i64 ((a : Int) / 262144) 63 = ((a / 262144 % 64 : Nat) : Int) := and63 (a / 262144) (by omega)
    have hle : ¬ a ≤ now := by omega
    go_enter Tryd.func45, Tryd.ntmps45
    go_wp2
    go_loopw [6] (fun j wr => ∃ i : Nat, j = .int .i64 (i : Int) ∧ i ≤ 4 ∧ Hid (Mods [] w wr ∧ ∀ k, k < i → a / 64 ^ (k + 1) ≠ now / 64 ^ (k + 1))) (fun j _ => 4 - (intOf j).toNat)
    case atStart => exact ⟨0, rfl, by omega, Lib.hid ⟨Mods.refl [] w, fun k hk => absurd hk (by omega)⟩⟩
    case round =>
      obtain ⟨i, rfl, hi, hr⟩ := hrel
      have d2 := cell_mods c2 hr.out.1 (by simp)
      have HM := Lib.hid hr.out.1
      have HA := Lib.hid hr.out.2
      clear hr c0 c1 c2 c3 c4
      have hc : i = 0 ∨ i = 1 ∨ i = 2 ∨ i = 3 ∨ i = 4 := by omega
      rcases hc with rfl | rfl | rfl | rfl | rfl
      · by_cases hq : a / 64 = now / 64
        · have q1 : (((a : Int) / 64) == ((now : Int) / 64)) = true := by simp; omega
          go_wp2
          go_ret2
          exact ⟨ret2i (by unfold plc; rw [if_neg hle, if_pos hq]; omega) (by unfold plc; rw [if_neg hle, if_pos hq]; omega), HM.out⟩
        · have q1 : (((a : Int) / 64) == ((now : Int) / 64)) = false := by simp; omega
          go_wp2
          go_roundw
          case rel =>
            refine ⟨1, rfl, by omega, Lib.hid ⟨HM.out, fun k hk => ?_⟩⟩
            rcases Nat.lt_or_ge k 0 with h | h
            · exact HA.out k h
            · obtain rfl : k = 0 := by omega
              exact hq
          case measure => simp [intOf]
      · by_cases hq : a / 4096 = now / 4096
        · have q1 : (((a : Int) / 4096) == ((now : Int) / 4096)) = true := by simp; omega
          go_wp2
          go_ret2
          have h0 := HA.out 0 (by omega)
          simp only [Nat.reduceAdd, Nat.reducePow] at h0
          exact ⟨ret2i (by unfold plc; rw [if_neg hle, if_neg h0, if_pos hq]; omega) (by unfold plc; rw [if_neg hle, if_neg h0, if_pos hq]; omega), HM.out⟩
        · have q1 : (((a : Int) / 4096) == ((now : Int) / 4096)) = false := by simp; omega
          go_wp2
          go_roundw
          case rel =>
            refine ⟨2, rfl, by omega, Lib.hid ⟨HM.out, fun k hk => ?_⟩⟩
            rcases Nat.lt_or_ge k 1 with h | h
            · exact HA.out k h
            · obtain rfl : k = 1 := by omega
              exact hq
          case measure => simp [intOf]
      · by_cases hq : a / 262144 = now / 262144
        · have q1 : (((a : Int) / 262144) == ((now : Int) / 262144)) = true := by simp; omega
          go_wp2
          go_ret2
          have h0 := HA.out 0 (by omega)
          have h1 := HA.out 1 (by omega)
          simp only [Nat.reduceAdd, Nat.reducePow] at h0 h1
          exact ⟨ret2i (by unfold plc; rw [if_neg hle, if_neg h0, if_neg h1, if_pos hq]; omega) (by unfold plc; rw [if_neg hle, if_neg h0, if_neg h1, if_pos hq]; omega), HM.out⟩
        · have q1 : (((a : Int) / 262144) == ((now : Int) / 262144)) = false := by simp; omega
          go_wp2
          go_roundw
          case rel =>
            refine ⟨3, rfl, by omega, Lib.hid ⟨HM.out, fun k hk => ?_⟩⟩
            rcases Nat.lt_or_ge k 2 with h | h
            · exact HA.out k h
            · obtain rfl : k = 2 := by omega
              exact hq
          case measure => simp [intOf]
      · by_cases hq : a / 16777216 = now / 16777216
        · have q1 : (((a : Int) / 16777216) == ((now : Int) / 16777216)) = true := by simp; omega
          go_wp2
          go_ret2
          have h0 := HA.out 0 (by omega)
          have h1 := HA.out 1 (by omega)
          have h2 := HA.out 2 (by omega)
          simp only [Nat.reduceAdd, Nat.reducePow] at h0 h1 h2
          exact ⟨ret2i (by unfold plc; rw [if_neg hle, if_neg h0, if_neg h1, if_neg h2, if_pos hq]; omega) (by unfold plc; rw [if_neg hle, if_neg h0, if_neg h1, if_neg h2, if_pos hq]; omega), HM.out⟩
        · have q1 : (((a : Int) / 16777216) == ((now : Int) / 16777216)) = false := by simp; omega
          go_wp2
          go_roundw
          case rel =>
            refine ⟨4, rfl, by omega, Lib.hid ⟨HM.out, fun k hk => ?_⟩⟩
            rcases Nat.lt_or_ge k 3 with h | h
            · exact HA.out k h
            · obtain rfl : k = 3 := by omega
              exact hq
          case measure => simp [intOf]
      · go_wp2
        go_ret2
        have h0 := HA.out 0 (by omega)
        have h1 := HA.out 1 (by omega)
        have h2 := HA.out 2 (by omega)
        have h3 := HA.out 3 (by omega)
        simp only [Nat.reduceAdd, Nat.reducePow] at h0 h1 h2 h3
        have e : plc now a = 256 := by unfold plc; rw [if_neg hle, if_neg h0, if_neg h1, if_neg h2, if_neg h3]
        exact ⟨ret2i (by rw [e]; rfl) (by rw [e]; rfl), HM.out⟩
theorem eql_hand (a b c d : Int) (w : World) : (binOp .eql 32 (.agg #[.int .i64 a, .int .i64 b]) (.agg #[.int .i64 c, .int .i64 d])).run Tryd.prog w = .ok (.bool (a == c && b == d)) w := by
  have u3 := Tryd.underlying3
  have a3 := Tryd.isAgg3
  have z3 := Tryd.sizeOf3
  have hS : Tryd.prog.underlying 32 = some (.struct (Tryd.prog.fieldsOf 32)) := by kernel_rfl
  have hp : Tryd.prog.stoodInHeld 32 = false := by kernel_rfl
  rw [run_eql_struct, show (10000 : Nat) = 9999 + 1 from rfl, run_equalIn_agg w 9999 32 _ _ hS hp]
  simp only [Program.fieldsOf, Tryd.underlying32]
  go_simp
  by_cases h1 : a = c <;> by_cases h2 : b = d <;> simp [h1, h2]
theorem eqg_hand : Tryd.prog.eqGuardType Tryd.prog.depth 32 = false := by kernel_rfl
set_option maxHeartbeats 1000000 in
theorem rwwhere_yes (w : World) (x : Nat) (F : List Nat) (S : Slb) (K now q : Nat) (L : List Rt) (i : Nat) (y : Rt) (h : RefZ w x F S K now L q) (hN : (L.map (·.s)).Nodup) (hy : L[i]? = some y) :
    Calls Tryd.prog 28 #[.pointer (some ⟨x, 0, none⟩), .agg #[.int .i64 (y.s : Int), .int .i64 (y.g : Int)]] w fun e w' => e = .returned (.tuple #[.int .i64 ((plc now y.a / 64 : Nat) : Int), .int .i64 ((plc now y.a % 64 : Nat) : Int), .int .i64 0]) ∧ Mods [] w w' := by
  have HZ := Lib.hid h
  obtain ⟨sg, lv, hF, rfl, h⟩ := h
  have HH := Lib.hid h
  have HY := Lib.hid hy
  have hil := (List.getElem?_eq_some_iff.1 hy).1
  obtain ⟨s, hs⟩ : ∃ s, y.s = s := ⟨_, rfl⟩
  obtain ⟨g, hg⟩ : ∃ g, y.g = g := ⟨_, rfl⟩
  obtain ⟨a, ha⟩ : ∃ a, y.a = a := ⟨_, rfl⟩
  have HSG := Lib.hid (And.intro hs (And.intro hg ha))
  obtain ⟨lb, lc, rfl, l1, l2, -, -⟩ := h.at hy
  obtain ⟨c0, c1, c2, c3, c4⟩ := h.cells
  have b1 := cell_alloc c1 (.cells #[.int .i64 (s : Int), .int .i64 (g : Int)] 32)
  rw [hs, hg, ha]
  have hll := h.len
  clear h hy hs hg ha
  have hq := eql_hand
  have hg := eqg_hand
  go_enter Tryd.func28, Tryd.ntmps28
  go_wp2
  go_loopw [7, 8, 9] (fun j _ _ wr => ∃ k : Nat, j = .int .i64 (k : Int) ∧ k ≤ i ∧ Hid (Mods [] (w.alloc (.cells #[.int .i64 (s : Int), .int .i64 (g : Int)] 32)) wr)) (fun j _ _ _ => i - (intOf j).toNat)
  case atStart => exact ⟨0, rfl, by omega, Lib.hid (Mods.refl _ _)⟩
  case round =>
    obtain ⟨k, rfl, hk, hr⟩ := hrel
    have d1 := cell_mods b1 hr.out (by simp)
    have e0 := cell_new hr.out (by simp) 0
    have e1 := cell_new hr.out (by simp) 1
    have HM := Lib.hid hr.out
    have q0 : (k : Int) < (L.length : Int) := by omega
    obtain ⟨z, hz⟩ : ∃ z, L[k]? = some z := ⟨_, List.getElem?_eq_getElem (by omega)⟩
    obtain ⟨lb', lc', el, -, -, -, z0, z1, z2, z3, z4, z5⟩ := HH.out.at hz
    injection el with el
    injection el with el
    injection el with el
    subst el
    have z0 := cell_mods (cell_alloc z0 (.cells #[.int .i64 (s : Int), .int .i64 (g : Int)] 32)) HM.out (by simp)
    have z3 := cell_mods (cell_alloc z3 (.cells #[.int .i64 (s : Int), .int .i64 (g : Int)] 32)) HM.out (by simp)
    have z4 := cell_mods (cell_alloc z4 (.cells #[.int .i64 (s : Int), .int .i64 (g : Int)] 32)) HM.out (by simp)
    clear z1 z2 z5 c0 c1 c2 c3 c4 b1 hr
    by_cases hki : k = i
    · subst hki
      obtain rfl : y = z := Option.some.inj (HY.out.symm.trans hz)
      rw [HSG.out.1] at z3
      rw [HSG.out.2.1] at z4
      rw [HSG.out.2.2] at z0
      have HP := Lib.hid (fun W (hW : Mods [] w W) => rwplace_any W x a _ S K now q L (HZ.out.quiet hW) (by rw [← HSG.out.2.2]; exact (HH.out.rng y (List.mem_of_getElem? HY.out)).2.1))
      have q1 : ((s : Int) == (s : Int)) = true := by simp
      have q2 : ((g : Int) == (g : Int)) = true := by simp
      clear HZ HH HY HSG hz hN
      go_wp2
      go_region
      all_goals
        go_wp2_with fail
        refine (HP.out _ ((((Mods.refl [] w).alloc _).trans HM.out (by simp)).drewN _)).mono ?_
        rintro e w2 ⟨rfl, hm⟩
        have HM2 := Lib.hid (((((Mods.refl [] w).alloc _).trans HM.out (by simp)).drewN 1).trans hm (by simp))
        clear hm
        go_wp2
        go_ret3
        exact ⟨rfl, HM2.out⟩
    · have q1 : ((z.s : Int) == (s : Int)) = false := by
        have hne : z.s ≠ s := fun e => hki (by
          have h1 : (L.map (·.s))[k]? = some s := by rw [List.getElem?_map, hz]; simp [e]
          have h2 : (L.map (·.s))[i]? = some s := by rw [List.getElem?_map, HY.out]; simp [HSG.out.1]
          exact (List.getElem?_inj (by simp; omega) hN).1 (h1.trans h2.symm))
        simp; omega
      generalize z.s = zs at *
      generalize z.g = zg at *
      clear HZ HH HY HSG hz hN
      go_wp2
      go_region
      all_goals go_wp2
      all_goals go_roundw
      case rel => exact ⟨k + 1, by go_num, by omega, Lib.hid (HM.out.drewN _)⟩
      case measure => simp [intOf]; omega
set_option maxHeartbeats 1000000 in
theorem rwwhere_no (w : World) (x : Nat) (F : List Nat) (S : Slb) (K now q : Nat) (L : List Rt) (s g : Int) (h : RefZ w x F S K now L q) (hN : ∀ y ∈ L, ¬ ((y.s : Int) = s ∧ (y.g : Int) = g)) :
    Calls Tryd.prog 28 #[.pointer (some ⟨x, 0, none⟩), .agg #[.int .i64 s, .int .i64 g]] w fun e w' => e = .returned (.tuple #[.int .i64 0, .int .i64 0, .int .i64 10]) ∧ Mods [] w w' := by
  obtain ⟨sg, lv, hF, rfl, h⟩ := h
  have HH := Lib.hid h
  obtain ⟨A, lc, rfl, l1, l2⟩ := own_slice h.own
  obtain ⟨c0, c1, c2, c3, c4⟩ := h.cells
  have b1 := cell_alloc c1 (.cells #[.int .i64 s, .int .i64 g] 32)
  have hll := h.len
  clear h
  have hq := eql_hand
  have hg := eqg_hand
  go_enter Tryd.func28, Tryd.ntmps28
  go_wp2
  go_loopw [7, 8, 9] (fun j _ _ wr => ∃ k : Nat, j = .int .i64 (k : Int) ∧ k ≤ L.length ∧ Hid (Mods [] (w.alloc (.cells #[.int .i64 s, .int .i64 g] 32)) wr)) (fun j _ _ _ => L.length - (intOf j).toNat)
  case atStart => exact ⟨0, rfl, by omega, Lib.hid (Mods.refl _ _)⟩
  case round =>
    obtain ⟨k, rfl, hk, hr⟩ := hrel
    have d1 := cell_mods b1 hr.out (by simp)
    have HM := Lib.hid hr.out
    by_cases hkl : k < L.length
    · have e0 := cell_new hr.out (by simp) 0
      have e1 := cell_new hr.out (by simp) 1
      have q0 : (k : Int) < (L.length : Int) := by omega
      obtain ⟨z, hz⟩ : ∃ z, L[k]? = some z := ⟨_, List.getElem?_eq_getElem (by omega)⟩
      have hne := hN z (List.mem_of_getElem? hz)
      obtain ⟨lb, lc', el, -, -, -, z0, z1, z2, z3, z4, z5⟩ := HH.out.at hz
      injection el with el
      subst el
      have z3 := cell_mods (cell_alloc z3 (.cells #[.int .i64 s, .int .i64 g] 32)) HM.out (by simp)
      have z4 := cell_mods (cell_alloc z4 (.cells #[.int .i64 s, .int .i64 g] 32)) HM.out (by simp)
      clear z0 z1 z2 z5 c0 c1 c2 c3 c4 b1 hr hN hz
      generalize z.s = zs at *
      generalize z.g = zg at *
      clear HH
      by_cases hs : (zs : Int) = s
      · have q1 : ((zs : Int) == s) = true := by simp [hs]
        have q2 : ((zg : Int) == g) = false := by
          have : ¬ (zg : Int) = g := fun e => hne ⟨hs, e⟩
          simpa using this
        clear hs hne
        go_wp2
        go_region
        all_goals go_wp2
        all_goals go_roundw
        case rel => exact ⟨k + 1, by go_num, by omega, Lib.hid (HM.out.drewN _)⟩
        case measure => simp [intOf]; omega
      · have q1 : ((zs : Int) == s) = false := by simpa using hs
        clear hs hne
        go_wp2
        go_region
        all_goals go_wp2
        all_goals go_roundw
        case rel => exact ⟨k + 1, by go_num, by omega, Lib.hid (HM.out.drewN _)⟩
        case measure => simp [intOf]; omega
    · have q0 : ¬ (k : Int) < (L.length : Int) := by omega
      clear c0 c1 c2 c3 c4 b1 hr hN HH
      go_wp2
      go_ret3
      exact ⟨rfl, ((Mods.refl [] w).alloc _).trans HM.out (by simp)⟩
/-- A timer of the reference's as the program's, its block aside. -/
def Rt.tm (y : Rt) : Tm := ⟨0, y.s, y.g, y.a⟩
theorem minT_snoc (P : List Tm) (m : Tm) : minT (P ++ [m]) = if P = [] then m.a else if m.a < minT P then m.a else minT P := by
  split
  · rename_i h; subst h; rfl
  · rename_i h
    symm
    obtain ⟨y, hy, e⟩ := minT_mem h
    have hle := minT_le (M := P)
    refine minT_uniq (fun x hx => ?_) ?_
    · rcases List.mem_append.1 hx with hx | hx
      · have := hle x hx; split <;> omega
      · rw [List.mem_singleton.1 hx]; split <;> omega
    · split
      · exact ⟨m, by simp, rfl⟩
      · exact ⟨y, by simp [hy], e⟩
theorem ret_ib {a c : Int} {b d : Bool} (h1 : a = c) (h2 : b = d) : Ending.returned (.tuple #[.int .i64 a, .bool b]) = .returned (.tuple #[.int .i64 c, .bool d]) := by rw [h1, h2]
set_option maxHeartbeats 1000000 in
theorem rwnext_any (w : World) (x : Nat) (F : List Nat) (S : Slb) (K now q : Nat) (L : List Rt) (h : RefZ w x F S K now L q) :
    Calls Tryd.prog 24 #[.pointer (some ⟨x, 0, none⟩)] w fun e w' => e = .returned (.tuple #[.int .i64 ((minT (L.map Rt.tm) : Nat) : Int), .bool (decide (L ≠ []))]) ∧ Mods [] w w' := by
  obtain ⟨sg, lv, hF, rfl, h⟩ := h
  have HH := Lib.hid h
  obtain ⟨A, lc, rfl, l1, l2⟩ := own_slice h.own
  obtain ⟨c0, c1, c2, c3, c4⟩ := h.cells
  have hll := h.len
  clear h
  go_enter Tryd.func24, Tryd.ntmps24
  go_wp2
  go_loopw [4, 5] (fun n j wr => ∃ k m : Nat, j = .int .i64 (k : Int) ∧ n = .int .i64 (m : Int) ∧ k ≤ L.length ∧ wr = w ∧ Hid (m = minT ((L.take k).map Rt.tm))) (fun _ j _ => L.length - (intOf j).toNat)
  case atStart => exact ⟨0, 0, rfl, rfl, by omega, rfl, Lib.hid rfl⟩
  case round =>
    obtain ⟨k, m, rfl, rfl, hk, rfl, hr⟩ := hrel
    by_cases hkl : k < L.length
    · have q0 : (k : Int) < (L.length : Int) := by omega
      obtain ⟨z, hz⟩ : ∃ z, L[k]? = some z := ⟨_, List.getElem?_eq_getElem (by omega)⟩
      obtain ⟨lb, lc', el, -, -, -, z0, z1, z2, z3, z4, z5⟩ := HH.out.at hz
      injection el with el
      subst el
      have HE := Lib.hid (show minT ((L.take (k + 1)).map Rt.tm) = if k = 0 then z.a else if z.a < m then z.a else m by
        have e1 : L.take (k + 1) = L.take k ++ [z] := by
          rw [List.take_add_one, hz]; rfl
        rw [e1, List.map_append, List.map_singleton, minT_snoc, hr.out]
        by_cases h0 : k = 0
        · subst h0; rfl
        · rw [if_neg h0, if_neg]
          · rfl
          · intro e
            have := congrArg List.length e
            rw [List.length_map, List.length_take] at this
            simp only [List.length_nil] at this
            omega)
      clear z1 z2 z3 z4 z5 hz c0 c2 c3 c4
      generalize z.a = za at *
      by_cases h0 : k = 0
      · have q1 : ((k : Int) == 0) = true := by simp [h0]
        rw [if_pos h0] at HE
        clear h0
        go_wp2
        go_roundw
        case rel => exact ⟨k + 1, za, by go_num, rfl, by omega, by first | rfl | trivial, Lib.hid HE.out.symm⟩
        case measure => simp [intOf]; omega
      · have q1 : ((k : Int) == 0) = false := by simp [h0]
        rw [if_neg h0] at HE
        clear h0
        by_cases hlt : za < m
        · rw [if_pos hlt] at HE
          have q2 : (za : Int) < (m : Int) := by omega
          go_wp2
          go_roundw
          case rel => exact ⟨k + 1, za, by go_num, rfl, by omega, by first | rfl | trivial, Lib.hid HE.out.symm⟩
          case measure => simp [intOf]; omega
        · rw [if_neg hlt] at HE
          have q2 : ¬ (za : Int) < (m : Int) := by omega
          go_wp2
          go_roundw
          case rel => exact ⟨k + 1, m, by go_num, rfl, by omega, by first | rfl | trivial, Lib.hid HE.out.symm⟩
          case measure => simp [intOf]; omega
    · have q0 : ¬ (k : Int) < (L.length : Int) := by omega
      have hkk : k = L.length := by omega
      have HE := Lib.hid (show m = minT (L.map Rt.tm) by rw [hr.out, hkk, List.take_length])
      have HB := Lib.hid (show decide (0 < L.length) = decide (L ≠ []) by
        cases L <;> simp)
      clear c0 c2 c3 c4 hr hkk
      go_wp2
      go_region
      all_goals
        go_wp2
        go_ret2
        first
          | exact ⟨ret_ib (by rw [HE.out]) HB.out, (Mods.refl _ _).drewN _⟩
          | trace_state
end Go.Proofs.YtgfmjkbelciaaaaDoor

/- What Add of the reference's wheel does. -/
namespace Go.Proofs.YtgfmjkbelciaaaaDoor
open Go.RowKit
set_option maxRecDepth 10000
set_option linter.unusedVariables false
set_option linter.unusedSimpArgs false
set_option linter.unnecessarySimpa false

/-- Any number of elements is put behind a row of the call's own: a step of a region that draws its order. -/
theorem step_append_n {P : Program} {ops : Array Oper} {o : Oper} {a : Act} {w : World} {K : Act → World → Prop} {Q : Exit → Act → World → Prop} {E : Prop} (hgd : o.guard = none) (s x : Operand) (t : TypeId)
    (ho : o.op = .call { callee := .builtin .append, args := #[s, x], argTypes := #[t, t] })
    (e : TypeId) (i : TypeInfo) (z : Value) (size bytes : Nat) (ht : P.underlying t = some (.slice e)) (hi : P.info? e = some i) (hz : i.zero = some z) (hsize : i.size = size) (hby : i.bytes = bytes) (hzs : z.cells.size = size) (hsz : 0 < size)
    (v : Value) (n : Nat) (xs : List Value) (hsv : a.eval s = v) (h : w.ownsRow 0 e size v n xs) (ad : Addr) (m c : Nat) (news : List Value) (hx : a.eval x = .slice (some ad) m c) (hl : news.length = m * size) (hnews : ∀ j u, news[j]? = some u → w.cell? (ad.add j) = some u) (h1 : ∀ u ∈ news, u.oneCell' = true)
    (h63 : n + m ≤ maxLen) (hbytes : (n + m) * bytes ≤ 140737488355328)
    (hk : ∀ v' w', Hid (w'.ownsRow 0 e size v' (n + m) (xs ++ news)) → Hid (Mods v.ownBlock.toList w w' ∧ (v'.ownBlock = v.ownBlock ∨ v'.ownBlock = some w.heap.size)) → K (a.put o.dst v') w') :
    if Region.wanted o (yielded ops a.tmps) = true then Oper.wp P o a w K Q else E := by
  have hw : Region.wanted o (yielded ops a.tmps) = true := by simp [Region.wanted, hgd]
  rw [if_pos hw]
  obtain ⟨v', w', hr, h2, h3, _, h5⟩ := run_append_own_at (P := P) w 0 t o.type e i z size bytes ht hi hz hsize hby hzs hsz v n xs h ad m c news hl hnews h1 h63 hbytes (Nat.zero_le _)
  unfold Oper.wp execOp
  simp only [ho, resolve, invoke, builtin, Sem.run_bind, Sem.run_pure, Result.andThen_ok, List.map_toArray, List.map_cons, List.map_nil, hsv, hx, hr]
  exact hk v' w' (Lib.hid h2) (Lib.hid ⟨(Mods.refl _ _).grown h3 (fun k hk => .inl (by rw [hk]; simp)), h5⟩)
/-- The same, as the walk of a plain region meets it. -/
theorem wpList_append_n {P : Program} {w : World} {ops : Array Oper} {rest : List Oper} {o : Oper} {a : Act} {Q : Exit → Act → World → Prop} (hgd : o.guard = none) (s x : Operand) (t : TypeId)
    (ho : o.op = .call { callee := .builtin .append, args := #[s, x], argTypes := #[t, t] })
    (e : TypeId) (i : TypeInfo) (z : Value) (size bytes : Nat) (ht : P.underlying t = some (.slice e)) (hi : P.info? e = some i) (hz : i.zero = some z) (hsize : i.size = size) (hby : i.bytes = bytes) (hzs : z.cells.size = size) (hsz : 0 < size)
    (v : Value) (n : Nat) (xs : List Value) (hsv : a.eval s = v) (h : w.ownsRow 0 e size v n xs) (ad : Addr) (m c : Nat) (news : List Value) (hx : a.eval x = .slice (some ad) m c) (hl : news.length = m * size) (hnews : ∀ j u, news[j]? = some u → w.cell? (ad.add j) = some u) (h1 : ∀ u ∈ news, u.oneCell' = true)
    (h63 : n + m ≤ maxLen) (hbytes : (n + m) * bytes ≤ 140737488355328)
    (hk : ∀ v' w', Hid (w'.ownsRow 0 e size v' (n + m) (xs ++ news)) → Hid (Mods v.ownBlock.toList w w' ∧ (v'.ownBlock = v.ownBlock ∨ v'.ownBlock = some w.heap.size)) → wpList P ops Q rest (a.put o.dst v') w') : wpList P ops Q (o :: rest) a w := by
  refine wpList_plain hgd fun K hK => ?_
  obtain ⟨v', w', hr, h2, h3, _, h5⟩ := run_append_own_at (P := P) w 0 t o.type e i z size bytes ht hi hz hsize hby hzs hsz v n xs h ad m c news hl hnews h1 h63 hbytes (Nat.zero_le _)
  unfold Oper.wp execOp
  simp only [ho, resolve, invoke, builtin, Sem.run_bind, Sem.run_pure, Result.andThen_ok, List.map_toArray, List.map_cons, List.map_nil, hsv, hx, hr]
  exact hK _ _ (hk v' w' (Lib.hid h2) (Lib.hid ⟨(Mods.refl _ _).grown h3 (fun k hk => .inl (by rw [hk]; simp)), h5⟩))
theorem rt_info : (Tryd.prog.info? 83).map (fun i => (i.zero, i.size, i.bytes)) = some (some (.agg #[.int .i64 0, .int .i64 0, .int .i64 0, .int .i64 0, .int .i64 0]), 5, 40) := by kernel_rfl
section
variable {w w1 w' : World} {x sg K K' now q : Nat} {lv lv' : Value} {hF hF' : List Nat} {S S' : Slb} {L L' : List Rt}
/-- The slab alone has turned. -/
theorem RefW.slabbed (h : RefW w x sg lv hF S K now L q) (hm : Mods hF w w1) (hs : SlabB w1 sg hF' S' K') (hK : K ≤ K') : RefW w1 x sg lv hF' S' K' now L q :=
  ⟨h.row.mods hm h.apart.1, hs, own_mods h.own hm h.apart.2.2, h.len, fun y hy => by
    obtain ⟨a, b, c, d⟩ := h.rng y hy
    exact ⟨a, b, c, by omega⟩, h.time⟩
/-- One number more was given. -/
theorem RefW.counted (h : RefW w x sg lv hF S K now L q) {z : Int} (hz : z = (q : Int) + 1) : RefW (w.setCell ⟨x, 3, none⟩ (.int .i64 z)) x sg lv hF S K now L (q + 1) := by
  subst hz
  obtain ⟨a1, a2, a3⟩ := h.apart
  have hm : Mods [x] w (w.setCell ⟨x, 3, none⟩ (.int .i64 ((q : Int) + 1))) := (Mods.refl _ _).setCell (by simp) _
  exact ⟨h.row.set 3 _, slabB_mods h.slab hm (fun k hk hx => a1 (by rw [← List.mem_singleton.1 hx]; exact hk)), own_mods h.own hm (fun k hk hx => a2 (by rw [← List.mem_singleton.1 hx]; exact hk)), h.len, fun y hy => by
    obtain ⟨a, b, c, d⟩ := h.rng y hy
    exact ⟨by omega, b, c, d⟩, h.time⟩
/-- Another row of timers is stored. -/
theorem RefW.relist (h : RefW w x sg lv hF S K now L q) (hm : Mods lv.ownBlock.toList w w') (ho : w'.ownsRow 0 83 5 lv' L'.length (rts L')) (hb : ∀ b ∈ lv'.ownBlock.toList, b ∈ lv.ownBlock.toList ∨ w.heap.size ≤ b)
    (hl : L'.length ≤ 4096) (hr : ∀ y ∈ L', y.q ≤ q ∧ y.a ≤ 1099511627776 ∧ y.s < 4096 ∧ y.g ≤ K) : RefW (w'.setCell ⟨x, 1, none⟩ lv') x sg lv' hF S K now L' q ∧ Row w' x 40 #[.pointer (some ⟨sg, 0, none⟩), lv, .int .i64 (now : Int), .int .i64 (q : Int)] := by
  obtain ⟨a1, a2, a3⟩ := h.apart
  have hrow := h.row.mods hm a2
  have hm2 : Mods [x] w' (w'.setCell ⟨x, 1, none⟩ lv') := (Mods.refl _ _).setCell (by simp) _
  refine ⟨⟨hrow.set 1 _, slabB_mods (slabB_mods h.slab hm (fun k hk hk2 => a3 k hk2 hk)) hm2 (fun k hk hx => a1 (by rw [← List.mem_singleton.1 hx]; exact hk)), own_mods ho hm2 (fun k hk hx => ?_), hl, hr, h.time⟩, hrow⟩
  have := List.mem_singleton.1 hx
  subst this
  rcases hb k hk with h1 | h1
  · exact a2 h1
  · have := h.row.lt; omega
end
theorem rwadd_no (n v : Int) (g : Nat) (w : World) (h : n < 0 ∨ 1099511627776 < n) : Calls Tryd.prog 15 #[.pointer (some ⟨g, 0, none⟩), .int .i64 n, .int .i64 v] w fun e w' => e = .returned (.tuple #[.agg #[.int .i64 0, .int .i64 0], .int .i64 1]) ∧ Mods [] w w' := by
  by_cases h1 : n < 0
  · clear h
    go_enter Tryd.func15, Tryd.ntmps15
    go_wp2
    exact ret_hand67 Tryd.results15 (Row.new w _ _) rfl rfl rfl ⟨rfl, (Mods.refl [] w).alloc _⟩
  · have h2 : 1099511627776 < n := by omega
    clear h
    go_enter Tryd.func15, Tryd.ntmps15
    go_wp2
    exact ret_hand67 Tryd.results15 (Row.new w _ _) rfl rfl rfl ⟨rfl, (Mods.refl [] w).alloc _⟩
theorem rwadd_full (w : World) (x a : Nat) (v : Int) (F : List Nat) (S : Slb) (K now q : Nat) (L : List Rt) (h : RefZ w x F S K now L q) (ha : a ≤ 1099511627776) (hc : S.lim ≤ S.cnt) :
    Calls Tryd.prog 15 #[.pointer (some ⟨x, 0, none⟩), .int .i64 (a : Int), .int .i64 v] w fun e w' => e = .returned (.tuple #[.agg #[.int .i64 0, .int .i64 0], .int .i64 3]) ∧ Mods [] w w' := by
  obtain ⟨sg, lv, hF, rfl, h⟩ := h
  obtain ⟨c0, c1, c2, c3, c4⟩ := h.cells
  have d0 := cell_alloc c0 (.cells #[.int .i64 0, .int .i64 0] 32)
  have HP := Lib.hid (rput_full (w.alloc (.cells #[.int .i64 0, .int .i64 0] 32)) sg v hF S K (slabB_mods h.slab ((Mods.refl [] w).alloc _) (by simp)) hc)
  have h1 : ¬ (a : Int) < 0 := by omega
  have h2 : ¬ 1099511627776 < (a : Int) := by omega
  clear c0 c1 c2 c3 c4 h hc
  go_enter Tryd.func15, Tryd.ntmps15
  go_wp2_with fail
  refine HP.out.mono ?_
  rintro e w1 ⟨rfl, hm⟩
  have e0 := cell_new hm (by simp) 0
  have e1 := cell_new hm (by simp) 1
  have r1 := Lib.hid ((Row.new w 32 #[.int .i64 0, .int .i64 0]).mods hm (by simp))
  have HM := Lib.hid (((Mods.refl [] w).alloc _).trans hm (by simp))
  have f0 := fun i => (r1.out.alloc (.cells #[.int .i64 0, .int .i64 0] 32)).free i
  have f1 := fun i => (r1.out.alloc (.cells #[.int .i64 0, .int .i64 0] 32)).cell i
  clear hm d0 HP
  go_wp2
  exact ret_hand67 Tryd.results15 (((r1.out.alloc _).set 0 _).set 1 _) rfl rfl rfl ⟨rfl, ((HM.out.alloc _).setCell (.inr (Nat.le_refl _)) _).setCell (.inr (Nat.le_refl _)) _⟩
/-- What stands behind the append of Add. -/
structure AddEnd (w8 : World) (x sg r h8 : Nat) (lv v8 : Value) (hF : List Nat) (S : Slb) (K now q : Nat) (ls ge : Nat) (L' : List Rt) (B : List Nat) : Prop where
  free : ∀ j, w8.frozen? ⟨x, j, none⟩ = false
  old : w8.cell? ⟨x, 1, none⟩ = some lv
  k0 : w8.cell? ⟨h8, 0, none⟩ = some (.int .i64 (ls : Int))
  k1 : w8.cell? ⟨h8, 1, none⟩ = some (.int .i64 (ge : Int))
  rr : Row w8 r 32 #[.int .i64 0, .int .i64 0]
  nx : h8 ≠ x
  rx : r ≠ x
  nr : h8 ≠ r
  ref : RefW (w8.setCell ⟨x, 1, none⟩ v8) x sg v8 hF S K now L' q
  rF : r ∉ foot6 x hF v8
  blk : ∀ b ∈ v8.ownBlock.toList, b ∈ lv.ownBlock.toList ∨ b ∈ B
theorem add_end {W3 E w8 : World} {x sg r h8 : Nat} {lv v8 : Value} {hF : List Nat} {S : Slb} {K now q ls ge : Nat} {L : List Rt} (y : Rt) (h : RefW W3 x sg lv hF S K now L q) (r1 : Row W3 r 32 #[.int .i64 0, .int .i64 0]) (r2 : Row W3 h8 32 #[.int .i64 (ls : Int), .int .i64 (ge : Int)]) (hne : h8 ≠ r)
    (ho : w8.ownsRow 0 83 5 v8 (L.length + 1) (rts L ++ y.cs)) (hm : Mods lv.ownBlock.toList E w8 ∧ (v8.ownBlock = lv.ownBlock ∨ v8.ownBlock = some E.heap.size)) (hE : Mods [] W3 E) (hl : L.length < 4096)
    (hy : y.q ≤ q ∧ y.a ≤ 1099511627776 ∧ y.s < 4096 ∧ y.g ≤ K) : AddEnd w8 x sg r h8 lv v8 hF S K now q ls ge (L ++ [y]) [E.heap.size] ∧ Mods lv.ownBlock.toList W3 w8 := by
  have hm3 : Mods lv.ownBlock.toList W3 w8 := (hE.more (by simp)).trans hm.1 (fun k hk => .inl hk)
  have hb : ∀ b ∈ v8.ownBlock.toList, b ∈ lv.ownBlock.toList ∨ b = E.heap.size := fun b hb => by
    rcases hm.2 with e | e
    · exact .inl (by rw [← e]; exact hb)
    · exact .inr (by rw [e] at hb; simpa [eq_comm] using hb)
  obtain ⟨hR, hrow⟩ := h.relist (L' := L ++ [y]) hm3 (by rw [List.length_append, rts_append]; simpa [rts] using ho) (fun b hb' => by
    rcases hb b hb' with e | e
    · exact .inl e
    · exact .inr (by rw [e]; exact hE.size)) (by simp; omega) (fun z hz => by
    rcases List.mem_append.1 hz with hz | hz
    · exact h.rng z hz
    · rw [List.mem_singleton.1 hz]; exact hy)
  have f1 := own_ne_row h.own r1 (by decide)
  have f2 := own_ne_row h.own r2 (by decide)
  have s1 := r1.mods hm3 (fun hk => f1 r hk rfl)
  have s2 := r2.mods hm3 (fun hk => f2 h8 hk rfl)
  have rx : r ≠ x := Row.type_ne r1 h.row (by decide)
  refine ⟨⟨hrow.free, hrow.cell 1, s2.cell 0, s2.cell 1, s1, Row.type_ne r2 h.row (by decide), rx, hne, hR, fun hk => ?_, fun b hb' => ?_⟩, hm3⟩
  · simp only [foot6, List.mem_cons, List.mem_append] at hk
    rcases hk with hk | hk | hk
    · exact rx hk
    · obtain ⟨t, cs, q, ht⟩ := slabB_kinds h.slab r hk
      exact Row.type_ne r1 q (by rcases ht with rfl | rfl | rfl <;> decide) rfl
    · rcases hb r hk with e | e
      · exact f1 r e rfl
      · have := r1.lt; have := hE.size; omega
  · rcases hb b hb' with e | e
    · exact .inl e
    · exact .inr (by rw [e]; simp)
/-- What Add hands back, and the wheel behind it. -/
def AddedR (w w' : World) (x : Nat) (F : List Nat) (S : Slb) (K now q a : Nat) (v : Int) (L : List Rt) : Prop :=
  ∃ F', RefZ w' x F' (S.put v) (K + 1) now (L ++ [⟨a, v, q + 1, S.least, S.gen⟩]) (q + 1) ∧ Mods F w w' ∧ ∀ k ∈ F', k ∈ F ∨ w.heap.size ≤ k
theorem rwadd_done {w w1 w8 : World} {x sg r h8 a : Nat} {v : Int} {lv v8 : Value} {hF hF' : List Nat} {S : Slb} {K now q ls ge : Nat} {L : List Rt} {B : List Nat} {o : Obj} {u1 u2 u3 : Value} (hr : r = w.heap.size) (hxl : x < w.heap.size)
    (hA : AddEnd w8 x sg r h8 lv v8 hF' (S.put v) (K + 1) now (q + 1) ls ge (L ++ [⟨a, v, q + 1, ls, ge⟩]) B) (hm8 : Mods lv.ownBlock.toList ((w1.alloc o).setCell ⟨x, 3, none⟩ u1) w8) (hm1 : Mods hF w w1) (hn : ∀ k ∈ hF', k ∈ hF ∨ w.heap.size ≤ k) (hB : ∀ b ∈ B, w.heap.size ≤ b) (hls : S.least = ls) (hge : S.gen = ge) :
    AddedR w (((w8.setCell ⟨x, 1, none⟩ v8).setCell ⟨r, 0, none⟩ u2).setCell ⟨r, 1, none⟩ u3) x (foot6 x hF lv) S K now q a v L := by
  subst hls hge
  have m2 : Mods [r] (w8.setCell ⟨x, 1, none⟩ v8) (((w8.setCell ⟨x, 1, none⟩ v8).setCell ⟨r, 0, none⟩ u2).setCell ⟨r, 1, none⟩ u3) := ((Mods.refl _ _).setCell (by simp) _).setCell (by simp) _
  have hx : x ∈ foot6 x hF lv := by simp [foot6]
  have hs1 := hm1.size
  refine ⟨foot6 x hF' v8, ⟨sg, v8, hF', rfl, hA.ref.mods m2 (fun k hk hk2 => hA.rF (by rw [← List.mem_singleton.1 hk2]; exact hk))⟩, ?_, fun k hk => ?_⟩
  · have s1 : Mods (foot6 x hF lv) w w1 := hm1.more (fun k hk => .inl (by simp only [foot6, List.mem_cons, List.mem_append]; exact .inr (.inl hk)))
    have s2 : Mods (foot6 x hF lv) w ((w1.alloc o).setCell ⟨x, 3, none⟩ u1) := (s1.alloc o).setCell (.inl hx) _
    have s3 := s2.trans hm8 (fun k hk => .inl (by simp only [foot6, List.mem_cons, List.mem_append]; exact .inr (.inr hk)))
    have s4 := s3.setCell (p := ⟨x, 1, none⟩) (.inl hx) v8
    exact s4.trans m2 (fun k hk => .inr (by rw [List.mem_singleton.1 hk, hr]; exact Nat.le_refl _))
  · simp only [foot6, List.mem_cons, List.mem_append] at hk ⊢
    rcases hk with hk | hk | hk
    · exact .inl (.inl hk)
    · rcases hn k hk with h | h
      · exact .inl (.inr (.inl h))
      · exact .inr h
    · rcases hA.blk k hk with h | h
      · exact .inl (.inr (.inr h))
      · exact .inr (hB k h)
set_option maxHeartbeats 1000000 in
theorem rwadd_any (w : World) (x a : Nat) (v : Int) (F : List Nat) (S : Slb) (K now q : Nat) (L : List Rt) (h : RefZ w x F S K now L q) (ha : a ≤ 1099511627776) (hc : S.cnt < 4096) (hlim : S.lim = 4096) (hK : K ≤ 4000000000000) (hq : q ≤ 4000000000000) (hl : L.length < 4096) :
    Calls Tryd.prog 15 #[.pointer (some ⟨x, 0, none⟩), .int .i64 (a : Int), .int .i64 v] w fun e w' => e = .returned (.tuple #[.agg #[.int .i64 (S.least : Int), .int .i64 (S.gen : Int)], .int .i64 0]) ∧ Hid (AddedR w w' x F S K now q a v L) := by
  obtain ⟨i0, hi0, hz0, hz1, hz2⟩ := info_parts rt_info
  have HI := Lib.hid (And.intro hi0 (And.intro hz0 (And.intro hz1 hz2)))
  obtain ⟨sg, lv, hF, rfl, h⟩ := h
  have hle : S.least < 4096 := by
    obtain ⟨_, _, _, _, _, hok⟩ := h.slab
    have := Slb.least_lt hok (by rw [hlim]; exact hc)
    omega
  have hge : S.gen ≤ K + 1 := by
    obtain ⟨_, _, _, _, _, hok⟩ := h.slab
    have := hok.gk S.least
    unfold Slb.gen; omega
  have HB := Lib.hid (And.intro hle hge)
  obtain ⟨ls, hls⟩ : ∃ ls, S.least = ls := ⟨_, rfl⟩
  obtain ⟨ge, hge'⟩ : ∃ ge, S.gen = ge := ⟨_, rfl⟩
  have HLG := Lib.hid (And.intro hls hge')
  have HP := Lib.hid (rput_any (w.alloc (.cells #[.int .i64 0, .int .i64 0] 32)) sg v hF S K (slabB_mods h.slab ((Mods.refl [] w).alloc _) (by simp)) (by rw [hlim]; exact hc) hK)
  rw [hls, hge'] at HP HB
  rw [hls, hge']
  obtain ⟨c0, c1, c2, c3, c4⟩ := h.cells
  have d0 := cell_alloc c0 (.cells #[.int .i64 0, .int .i64 0] 32)
  have h1 : ¬ (a : Int) < 0 := by omega
  have h2 : ¬ 1099511627776 < (a : Int) := by omega
  have HH := Lib.hid h
  have HX := Lib.hid h.row.lt
  clear c0 c1 c2 c3 c4 h hc hlim hi0 hz0 hz1 hz2 hle hge hls hge'
  go_enter Tryd.func15, Tryd.ntmps15
  go_wp2_with fail
  refine HP.out.mono ?_
  rintro e w1 ⟨rfl, hf⟩
  obtain ⟨hF', hs, hm, hn⟩ := hf.out
  have hW := (HH.out.quiet ((Mods.refl [] w).alloc (.cells #[.int .i64 0, .int .i64 0] 32))).slabbed hm hs (Nat.le_succ K)
  have H1 := Lib.hid hW
  have hfar : w.heap.size ∉ hF := fun hk => by have := slabB_lt HH.out.slab _ hk; omega
  have r1 := Lib.hid ((Row.new w 32 #[.int .i64 0, .int .i64 0]).mods hm hfar)
  have HM := Lib.hid (((Mods.refl hF w).alloc (.cells #[.int .i64 0, .int .i64 0] 32)).trans hm (fun k hk => .inl hk))
  have HN := Lib.hid hn
  obtain ⟨A, lc, hlv, l1, l2⟩ := own_slice hW.own
  subst hlv
  obtain ⟨c0, c1, c2, c3, c4⟩ := hW.cells
  have b0 := fun o => cell_alloc c0 o
  have b1 := fun o => cell_alloc c1 o
  have b3 := fun o => cell_alloc c3 o
  have f3 := fun o j => (hW.row.alloc o).free j
  have n1 : w.heap.size ≠ x := by have := HX.out; omega
  have n2 : w1.heap.size ≠ x := by have := hW.row.lt; omega
  have n3 : w1.heap.size ≠ w.heap.size := by have := hm.size; simp at this; omega
  have q1 : IntKind.i64.wrap ((q : Int) + 1) = (q : Int) + 1 := by rw [IntKind.wrap_i64]; omega
  clear hm hs hn hf hW hfar d0 HP
  have H3 := Lib.hid ((H1.out.quiet ((Mods.refl [] w1).alloc (.cells #[.int .i64 (ls : Int), .int .i64 (ge : Int)] 32))).counted (z := (q : Int) + 1) rfl)
  have R1 := Lib.hid ((r1.out.alloc (.cells #[.int .i64 (ls : Int), .int .i64 (ge : Int)] 32)).far (p := ⟨x, 3, none⟩) (by exact n1) (.int .i64 ((q : Int) + 1)))
  have R2 := Lib.hid ((Row.new w1 32 #[.int .i64 (ls : Int), .int .i64 (ge : Int)]).far (p := ⟨x, 3, none⟩) (by exact n2) (.int .i64 ((q : Int) + 1)))
  have e1 := fun o => cell_alloc H3.out.cells.2.1 o
  have e3 := fun o => cell_alloc H3.out.cells.2.2.2.1 o
  have e4 := fun o => (R2.out.alloc o).cell 0
  have e5 := fun o => (R2.out.alloc o).cell 1
  obtain ⟨lv, hlv⟩ : ∃ lv, lv = Value.slice A L.length lc := ⟨_, rfl⟩
  have HV := Lib.hid hlv
  rw [← hlv] at H3 H1 c1 b1 e1
  clear hlv
  go_wp2_with fail
  go_region_law (refine step_append_n rfl (.tmp 41) (.tmp 50) 38 rfl 83 i0 _ 5 40 Tryd.underlying38 HI.out.1 HI.out.2.1 HI.out.2.2.1 HI.out.2.2.2 rfl (by omega) lv L.length (rts L) rfl (own_keep (own_mods H3.out.own ((Mods.refl [] _).alloc (.cells #[.int .i64 (a : Int), .int .i64 v, .int .i64 ((q : Int) + 1), .int .i64 (ls : Int), .int .i64 (ge : Int)] 83)) (by simp)) fun _ _ => rfl) ⟨w1.heap.size + 1, 0, none⟩ 1 1 (Rt.cs ⟨a, v, q + 1, ls, ge⟩) rfl rfl (World.news_of_block (new_at (by simp [World.setCell]))) (by simp [Rt.cs, Value.oneCell']) (by unfold maxLen; omega) (by omega) ?_; intro v8 w8 HO8 HM8; obtain ⟨A8, c8, rfl, -, -⟩ := own_slice HO8.out; have HA := Lib.hid (add_end ⟨a, v, q + 1, ls, ge⟩ H3.out R1.out R2.out n3 HO8.out HM8.out (((Mods.refl [] _).alloc (.cells #[.int .i64 (a : Int), .int .i64 v, .int .i64 ((q : Int) + 1), .int .i64 (ls : Int), .int .i64 (ge : Int)] 83)).same rfl rfl rfl rfl) (by omega) ⟨Nat.le_refl _, ha, HB.out.1, HB.out.2⟩); have f8 := HA.out.1.free; have k8 := HA.out.1.old; have k0 := HA.out.1.k0; have k1 := HA.out.1.k1; have j0 := HA.out.1.rr.cell 0; have j1 := HA.out.1.rr.cell 1; have j2 := HA.out.1.rr.free; have m1 := HA.out.1.nx; have m2 := HA.out.1.rx; have m3 := HA.out.1.nr)
  all_goals go_wp2
  all_goals exact ret_hand67 Tryd.results15 (((HA.out.1.rr.far (p := ⟨x, 1, none⟩) (by exact HA.out.1.rx) _).set 0 _).set 1 _) rfl rfl rfl ⟨rfl, Lib.hid (by
    rw [← HV.out]
    exact rwadd_done rfl HX.out HA.out.1 HA.out.2 HM.out (fun k hk => by
      rcases HN.out k hk with h | h
      · exact .inl h
      · exact .inr (by simp at h; omega)) (fun b hb => by
      have := HM.out.size
      simp [World.setCell] at hb
      omega) HLG.out.1 HLG.out.2)⟩
end Go.Proofs.YtgfmjkbelciaaaaDoor

/- What Reset of the reference's wheel does. -/
namespace Go.Proofs.YtgfmjkbelciaaaaDoor
open Go.RowKit
set_option maxRecDepth 10000
set_option linter.unusedVariables false
set_option linter.unusedSimpArgs false
set_option linter.unnecessarySimpa false

theorem rts_set (a q : Nat) (L : List Rt) : ∀ (i : Nat) (y : Rt), L[i]? = some y → rts (L.set i ⟨a, y.v, q, y.s, y.g⟩) = ((rts L).set (i * 5) (.int .i64 (a : Int))).set (i * 5 + 2) (.int .i64 (q : Int)) := by
  induction L with
  | nil => intro i y h; simp at h
  | cons z L ih =>
    intro i y h
    cases i with
    | zero =>
      obtain rfl : z = y := by simpa using h
      simp [rts, Rt.cs]
    | succ i =>
      have := ih i y (by simpa using h)
      rw [show (i + 1) * 5 = i * 5 + 5 by omega, show i * 5 + 5 + 2 = i * 5 + 2 + 5 by omega]
      rw [List.set_cons_succ]
      show z.cs ++ rts (L.set i _) = ((z.cs ++ rts L).set (i * 5 + 5) _).set (i * 5 + 2 + 5) _
      rw [this]
      simp [Rt.cs]
section
variable {w : World} {x sg K now q lb lc : Nat} {hF : List Nat} {S : Slb} {L : List Rt}
theorem RefW.anew (h : RefW w x sg (.slice (some ⟨lb, 0, none⟩) L.length lc) hF S K now L q) {i a : Nat} {y : Rt} (hy : L[i]? = some y) (ha : a ≤ 1099511627776) {z : Int} (hz : z = (q : Int)) :
    RefW ((w.setCell ⟨lb, i * 5, none⟩ (.int .i64 (a : Int))).setCell ⟨lb, i * 5 + 2, none⟩ (.int .i64 z)) x sg (.slice (some ⟨lb, 0, none⟩) L.length lc) hF S K now (L.set i ⟨a, y.v, q, y.s, y.g⟩) q := by
  subst hz
  obtain ⟨a1, a2, a3⟩ := h.apart
  have hb : lb ∈ (Value.slice (some ⟨lb, 0, none⟩) L.length lc).ownBlock.toList := by simp [Value.ownBlock]
  have hm : Mods [lb] w ((w.setCell ⟨lb, i * 5, none⟩ (.int .i64 (a : Int))).setCell ⟨lb, i * 5 + 2, none⟩ (.int .i64 (q : Int))) := ((Mods.refl _ _).setCell (by simp) _).setCell (by simp) _
  refine ⟨h.row.mods hm (fun hk => a2 (by rw [List.mem_singleton.1 hk]; exact hb)), slabB_mods h.slab hm (fun k hk hk2 => a3 lb hb (by rw [← List.mem_singleton.1 hk2]; exact hk)), ?_, by rw [List.length_set]; exact h.len, fun u hu => ?_, h.time⟩
  · rw [List.length_set, rts_set a q L i y hy]
    exact ((h.own.stored (i * 5) (.int .i64 (a : Int))).1.stored (i * 5 + 2) (.int .i64 (q : Int))).1
  · rcases List.mem_or_eq_of_mem_set hu with hu | rfl
    · exact h.rng u hu
    · obtain ⟨b1, b2, b3, b4⟩ := h.rng y (List.mem_of_getElem? hy)
      exact ⟨Nat.le_refl _, ha, b3, b4⟩
end
theorem rwreset_out (n : Int) (g : Nat) (s t : Int) (w : World) (h : n < 0 ∨ 1099511627776 < n) : Calls Tryd.prog 17 #[.pointer (some ⟨g, 0, none⟩), .agg #[.int .i64 s, .int .i64 t], .int .i64 n] w fun e w' => e = .returned (.int .i64 1) ∧ Mods [] w w' := by
  by_cases h1 : n < 0
  · clear h
    go_enter Tryd.func17, Tryd.ntmps17
    go_wp2
    go_ret
    exact ⟨rfl, (Mods.refl [] w).alloc _⟩
  · have h2 : 1099511627776 < n := by omega
    clear h
    go_enter Tryd.func17, Tryd.ntmps17
    go_wp2
    go_ret
    exact ⟨rfl, (Mods.refl [] w).alloc _⟩
set_option maxHeartbeats 1000000 in
theorem rwreset_no (w : World) (x n : Nat) (F : List Nat) (S : Slb) (K now q : Nat) (L : List Rt) (s g : Int) (h : RefZ w x F S K now L q) (hn : n ≤ 1099511627776) (hN : ∀ y ∈ L, ¬ ((y.s : Int) = s ∧ (y.g : Int) = g)) :
    Calls Tryd.prog 17 #[.pointer (some ⟨x, 0, none⟩), .agg #[.int .i64 s, .int .i64 g], .int .i64 (n : Int)] w fun e w' => e = .returned (.int .i64 10) ∧ Mods [] w w' := by
  obtain ⟨sg, lv, hF, rfl, h⟩ := h
  have HH := Lib.hid h
  obtain ⟨A, lc, rfl, l1, l2⟩ := own_slice h.own
  obtain ⟨c0, c1, c2, c3, c4⟩ := h.cells
  have b1 := cell_alloc c1 (.cells #[.int .i64 s, .int .i64 g] 32)
  have hll := h.len
  have h1 : ¬ (n : Int) < 0 := by omega
  have h2 : ¬ 1099511627776 < (n : Int) := by omega
  clear h
  have hq := eql_hand
  have hg := eqg_hand
  go_enter Tryd.func17, Tryd.ntmps17
  go_wp2
  go_loopw [7] (fun j wr => ∃ k : Nat, j = .int .i64 (k : Int) ∧ k ≤ L.length ∧ Hid (Mods [] (w.alloc (.cells #[.int .i64 s, .int .i64 g] 32)) wr)) (fun j _ => L.length - (intOf j).toNat)
  case atStart => exact ⟨0, rfl, by omega, Lib.hid (Mods.refl _ _)⟩
  case round =>
    obtain ⟨k, rfl, hk, hr⟩ := hrel
    have d1 := cell_mods b1 hr.out (by simp)
    have HM := Lib.hid hr.out
    by_cases hkl : k < L.length
    · have e0 := cell_new hr.out (by simp) 0
      have e1 := cell_new hr.out (by simp) 1
      have q0 : (k : Int) < (L.length : Int) := by omega
      obtain ⟨z, hz⟩ : ∃ z, L[k]? = some z := ⟨_, List.getElem?_eq_getElem (by omega)⟩
      have hne := hN z (List.mem_of_getElem? hz)
      obtain ⟨lb, lc', el, -, -, -, z0, z1, z2, z3, z4, z5⟩ := HH.out.at hz
      injection el with el
      subst el
      have z3 := cell_mods (cell_alloc z3 (.cells #[.int .i64 s, .int .i64 g] 32)) HM.out (by simp)
      have z4 := cell_mods (cell_alloc z4 (.cells #[.int .i64 s, .int .i64 g] 32)) HM.out (by simp)
      clear z0 z1 z2 z5 c0 c1 c2 c3 c4 b1 hr hN hz
      generalize z.s = zs at *
      generalize z.g = zg at *
      clear HH
      by_cases hs : (zs : Int) = s
      · have q1 : ((zs : Int) == s) = true := by simp [hs]
        have q2 : ((zg : Int) == g) = false := by
          have : ¬ (zg : Int) = g := fun e => hne ⟨hs, e⟩
          simpa using this
        clear hs hne
        go_wp2
        go_region
        all_goals go_wp2
        all_goals go_roundw
        case rel => exact ⟨k + 1, by go_num, by omega, Lib.hid (HM.out.drewN _)⟩
        case measure => simp [intOf]; omega
      · have q1 : ((zs : Int) == s) = false := by simpa using hs
        clear hs hne
        go_wp2
        go_region
        all_goals go_wp2
        all_goals go_roundw
        case rel => exact ⟨k + 1, by go_num, by omega, Lib.hid (HM.out.drewN _)⟩
        case measure => simp [intOf]; omega
    · have q0 : ¬ (k : Int) < (L.length : Int) := by omega
      clear c0 c1 c2 c3 c4 b1 hr hN HH
      go_wp2
      go_ret
      exact ⟨rfl, ((Mods.refl [] w).alloc _).trans HM.out (by simp)⟩
set_option maxHeartbeats 1000000 in
theorem rwreset_yes (w : World) (x n : Nat) (F : List Nat) (S : Slb) (K now q : Nat) (L : List Rt) (i : Nat) (y : Rt) (h : RefZ w x F S K now L q) (hn : n ≤ 1099511627776) (hq0 : q ≤ 4000000000000) (hN : (L.map (·.s)).Nodup) (hy : L[i]? = some y) (sv gv : Int) (hsv : (y.s : Int) = sv) (hgv : (y.g : Int) = gv) :
    Calls Tryd.prog 17 #[.pointer (some ⟨x, 0, none⟩), .agg #[.int .i64 sv, .int .i64 gv], .int .i64 (n : Int)] w fun e w' => e = .returned (.int .i64 0) ∧ Hid (RefZ w' x F S K now (L.set i ⟨n, y.v, q + 1, y.s, y.g⟩) (q + 1) ∧ Mods F w w') := by
  obtain ⟨sg, lv, hF, rfl, h⟩ := h
  have HH := Lib.hid h
  have HY := Lib.hid hy
  have hil := (List.getElem?_eq_some_iff.1 hy).1
  have HSG := Lib.hid (And.intro hsv hgv)
  obtain ⟨lb, lc, rfl, l1, l2, -, -⟩ := h.at hy
  obtain ⟨c0, c1, c2, c3, c4⟩ := h.cells
  have b1 := cell_alloc c1 (.cells #[.int .i64 sv, .int .i64 gv] 32)
  have hll := h.len
  have h1 : ¬ (n : Int) < 0 := by omega
  have h2 : ¬ 1099511627776 < (n : Int) := by omega
  have hq := eql_hand
  have hg := eqg_hand
  clear h hy hsv hgv
  go_enter Tryd.func17, Tryd.ntmps17
  go_wp2
  go_loopw [7] (fun j wr => ∃ k : Nat, j = .int .i64 (k : Int) ∧ k ≤ i ∧ Hid (Mods [] (w.alloc (.cells #[.int .i64 sv, .int .i64 gv] 32)) wr)) (fun j _ => i - (intOf j).toNat)
  case atStart => exact ⟨0, rfl, by omega, Lib.hid (Mods.refl _ _)⟩
  case round =>
    obtain ⟨k, rfl, hk, hr⟩ := hrel
    have d1 := cell_mods b1 hr.out (by simp)
    have e0 := cell_new hr.out (by simp) 0
    have e1 := cell_new hr.out (by simp) 1
    have HM := Lib.hid hr.out
    have q0 : (k : Int) < (L.length : Int) := by omega
    obtain ⟨z, hz⟩ : ∃ z, L[k]? = some z := ⟨_, List.getElem?_eq_getElem (by omega)⟩
    obtain ⟨lb', lc', el, -, -, -, z0, z1, z2, z3, z4, z5⟩ := HH.out.at hz
    injection el with el
    injection el with el
    injection el with el
    subst el
    have z3 := cell_mods (cell_alloc z3 (.cells #[.int .i64 sv, .int .i64 gv] 32)) HM.out (by simp)
    have z4 := cell_mods (cell_alloc z4 (.cells #[.int .i64 sv, .int .i64 gv] 32)) HM.out (by simp)
    clear z1 z2 z5 c0 c1 c2 c3 c4 b1 hr
    by_cases hki : k = i
    · subst hki
      obtain rfl : y = z := Option.some.inj (HY.out.symm.trans hz)
      rw [HSG.out.1] at z3
      rw [HSG.out.2] at z4
      have q1 : (sv == sv) = true := by simp
      have q2 : (gv == gv) = true := by simp
      have HR := Lib.hid (HH.out.quiet (((Mods.refl [] w).alloc _).trans HM.out (by simp)))
      have HR1 := Lib.hid (HR.out.counted (z := (q : Int) + 1) rfl)
      obtain ⟨c0, c1, c2, c3, c4⟩ := HR.out.cells
      obtain ⟨_, _, el, -, -, -, y0, y1, y2, y3, y4, y5⟩ := HR.out.at HY.out
      injection el with el
      injection el with el
      injection el with el
      subst el
      have nx : lb ≠ x := fun e => HR.out.apart.2.1 (by simp [Value.ownBlock, e])
      have q3 : IntKind.i64.wrap ((q : Int) + 1) = (q : Int) + 1 := by rw [IntKind.wrap_i64]; omega
      clear hz hN y1 y3 y4 z0
      generalize y.a = ya at y0
      generalize y.q = yq at y2
      go_wp2
      go_region
      all_goals go_wp2
      all_goals
        go_region
        all_goals go_wp2
        all_goals go_ret
        all_goals exact ⟨rfl, Lib.hid ⟨⟨sg, _, hF, rfl, (HR1.out.anew HY.out hn (by simp)).quiet ((Mods.refl [] _).same rfl rfl rfl rfl)⟩,
          ((((((Mods.refl _ w).alloc _).trans HM.out (by simp)).setCell (p := ⟨x, 3, none⟩) (.inl (by simp [foot6])) _).setCell (p := ⟨lb, k * 5, none⟩) (.inl (by simp [foot6, Value.ownBlock])) _).setCell (p := ⟨lb, k * 5 + 2, none⟩) (.inl (by simp [foot6, Value.ownBlock])) _).same rfl rfl rfl rfl⟩⟩
    · have q1 : ((z.s : Int) == sv) = false := by
        have hne : ¬ (z.s : Int) = sv := fun e => hki (by
          have hs : z.s = y.s := by have := HSG.out.1; omega
          have h1 : (L.map (·.s))[k]? = some y.s := by rw [List.getElem?_map, hz]; simp [hs]
          have h2 : (L.map (·.s))[i]? = some y.s := by rw [List.getElem?_map, HY.out]; simp
          exact (List.getElem?_inj (by simp; omega) hN).1 (h1.trans h2.symm))
        simpa using hne
      generalize z.s = zs at *
      generalize z.g = zg at *
      clear HH HY HSG hz hN
      go_wp2
      go_region
      all_goals go_wp2
      all_goals go_roundw
      case rel => exact ⟨k + 1, by go_num, by omega, Lib.hid (HM.out.drewN _)⟩
      case measure => simp [intOf]; omega
end Go.Proofs.YtgfmjkbelciaaaaDoor

/- What gone and Cancel of the reference's wheel do. -/
namespace Go.Proofs.YtgfmjkbelciaaaaDoor
open Go.RowKit
set_option maxRecDepth 10000
set_option linter.unusedVariables false
set_option linter.unusedSimpArgs false
set_option linter.unnecessarySimpa false

/-- Those that are in use. -/
def usedR (S : Slb) (L : List Rt) : List Rt := L.filter fun y => S.is (y.s : Int) (y.g : Int)
theorem usedR_snoc {S : Slb} {L : List Rt} {k : Nat} {z : Rt} (hz : L[k]? = some z) : usedR S (L.take (k + 1)) = if S.is (z.s : Int) (z.g : Int) = true then usedR S (L.take k) ++ [z] else usedR S (L.take k) := by
  unfold usedR
  rw [List.take_add_one, hz, List.filter_append]
  show _ ++ List.filter _ [z] = _
  rw [List.filter_cons]
  split <;> simp
theorem usedR_len (S : Slb) (L : List Rt) (k : Nat) : (usedR S (L.take k)).length ≤ L.length := by
  unfold usedR
  refine Nat.le_trans (List.length_filter_le _ _) ?_
  rw [List.length_take]; omega
theorem usedR_mem {S : Slb} {L : List Rt} {y : Rt} (h : y ∈ usedR S L) : y ∈ L := (List.mem_filter.1 h).1
/-- Where gone stands. -/
structure Gn (w wr : World) (S : Slb) (L : List Rt) (k : Nat) (l : Value) : Prop where
  own : wr.ownsRow 0 83 5 l (usedR S (L.take k)).length (rts (usedR S (L.take k)))
  new : ∀ b ∈ l.ownBlock.toList, w.heap.size ≤ b
  mods : Mods [] w wr
theorem gn_put {w wr w2 w3 : World} {S : Slb} {L : List Rt} {k : Nat} {l l3 : Value} {z : Rt} {o : Obj} (h : Gn w wr S L k l) (hz : L[k]? = some z) (hu : S.is (z.s : Int) (z.g : Int) = true) (hm2 : Mods [] wr w2)
    (ho : w3.ownsRow 0 83 5 l3 ((usedR S (L.take k)).length + 1) (rts (usedR S (L.take k)) ++ z.cs)) (hm3 : Mods l.ownBlock.toList (w2.alloc o) w3 ∧ (l3.ownBlock = l.ownBlock ∨ l3.ownBlock = some (w2.alloc o).heap.size)) : Gn w w3 S L (k + 1) l3 := by
  have e := usedR_snoc (S := S) hz
  rw [if_pos hu] at e
  refine ⟨?_, fun b hb => ?_, (h.mods.trans (hm2.alloc o) (by simp)).trans hm3.1 (fun b hb => .inr (h.new b hb))⟩
  · rw [e, List.length_append, rts_append]
    simpa [rts] using ho
  · rcases hm3.2 with e | e
    · exact h.new b (by rw [← e]; exact hb)
    · have : b = (w2.alloc o).heap.size := by rw [e] at hb; simpa [eq_comm] using hb
      have h1 := h.mods.size
      have h2 := hm2.size
      simp at this
      omega
set_option maxHeartbeats 1000000 in
theorem rwgone_any (w : World) (x : Nat) (F : List Nat) (S : Slb) (K now q : Nat) (L : List Rt) (h : RefZ w x F S K now L q) :
    Calls Tryd.prog 39 #[.pointer (some ⟨x, 0, none⟩)] w fun e w' => e = .returned (.tuple #[]) ∧ Hid (∃ F', RefZ w' x F' S K now (usedR S L) q ∧ Mods F w w' ∧ ∀ k ∈ F', k ∈ F ∨ w.heap.size ≤ k) := by
  obtain ⟨i0, hi0, hz0, hz1, hz2⟩ := info_parts rt_info
  have HI := Lib.hid (And.intro hi0 (And.intro hz0 (And.intro hz1 hz2)))
  obtain ⟨sg, lv, hF, rfl, h⟩ := h
  have HH := Lib.hid h
  obtain ⟨A, lc, rfl, l1, l2⟩ := own_slice h.own
  obtain ⟨c0, c1, c2, c3, c4⟩ := h.cells
  have hll := h.len
  clear h hi0 hz0 hz1 hz2
  go_enter Tryd.func39, Tryd.ntmps39
  go_wp2
  go_loopw [2, 3] (fun l j wr => ∃ k : Nat, j = .int .i64 (k : Int) ∧ k ≤ L.length ∧ Hid (Gn w wr S L k l)) (fun _ j _ => L.length - (intOf j).toNat)
  case atStart => exact ⟨0, rfl, by omega, Lib.hid ⟨⟨rfl, .inl ⟨rfl, rfl⟩⟩, by simp [Value.ownBlock], Mods.refl _ _⟩⟩
  case round =>
    obtain ⟨k, rfl, hk, hr⟩ := hrel
    have HG := hr
    clear hr
    have d0 := cell_mods c0 HG.out.mods (by simp)
    have d1 := cell_mods c1 HG.out.mods (by simp)
    by_cases hkl : k < L.length
    · have q0 : (k : Int) < (L.length : Int) := by omega
      obtain ⟨z, hz⟩ : ∃ z, L[k]? = some z := ⟨_, List.getElem?_eq_getElem (by omega)⟩
      obtain ⟨lb, lc', el, -, -, -, z0, z1, z2, z3, z4, z5⟩ := HH.out.at hz
      injection el with el
      subst el
      have z0 := cell_mods z0 HG.out.mods (by simp)
      have z1 := cell_mods z1 HG.out.mods (by simp)
      have z2 := cell_mods z2 HG.out.mods (by simp)
      have z3 := cell_mods z3 HG.out.mods (by simp)
      have z4 := cell_mods z4 HG.out.mods (by simp)
      have HIS := Lib.hid (is_any wr.drew sg (z.s : Int) (z.g : Int) hF S K (by omega) (by have := (HH.out.rng z (List.mem_of_getElem? hz)).2.2.1; omega) (slabB_keep (slabB_mods HH.out.slab HG.out.mods (by simp)) fun k hk => rfl))
      have HZ := Lib.hid hz
      have HUL := Lib.hid (usedR_len S L k)
      have HSN := Lib.hid (usedR_snoc (S := S) hz)
      cases hs : S.is (z.s : Int) (z.g : Int)
      · rw [hs] at HIS HSN
        clear z5 c0 c1 c2 c3 c4 hs
        generalize z.s = zs at *
        generalize z.g = zg at *
        generalize z.a = za at *
        generalize z.v = zv at *
        generalize z.q = zq at *
        go_wp2
        go_region_held3 (fun w' => w'.cell? ⟨x, 0, none⟩ = some (.pointer (some ⟨sg, 0, none⟩)) ∧ w'.cell? ⟨x, 1, none⟩ = some (.slice (some ⟨lb, 0, none⟩) L.length lc') ∧ w'.cell? ⟨lb, k * 5 + 3, none⟩ = some (.int .i64 (zs : Int)) ∧ w'.cell? ⟨lb, k * 5 + 4, none⟩ = some (.int .i64 (zg : Int))) (go_keep)
          ((go_at_call 52; refine Calls.mono HIS.out ?_; rintro e w2 ⟨rfl, hd⟩; have d0b := cell_mods d0 (of_drew hd) (by simp); have d1b := cell_mods d1 (of_drew hd) (by simp); have z3b := cell_mods z3 (of_drew hd) (by simp); have z4b := cell_mods z4 (of_drew hd) (by simp); have H1 := Lib.hid (of_drew hd); clear hd))
        all_goals go_wp2
        all_goals go_roundw
        case rel => exact ⟨k + 1, by go_num, by omega, Lib.hid ⟨by rw [HSN.out]; exact own_mods HG.out.own H1.out (by simp), HG.out.new, HG.out.mods.trans H1.out (by simp)⟩⟩
        case measure => simp [intOf]; omega
      · have HS := Lib.hid hs
        rw [hs] at HIS
        clear z5 c0 c1 c2 c3 c4 hs
        obtain ⟨⟨za, zv, zq, zs, zg⟩, rfl⟩ : ∃ y : Rt, y = z := ⟨_, rfl⟩
        obtain ⟨n, hn⟩ : ∃ n, (usedR S (L.take k)).length = n := ⟨_, rfl⟩
        have HN := Lib.hid hn
        have hul := HUL.out
        rw [hn] at hul
        obtain ⟨A2, n2, c2, hu2, hn2⟩ : ∃ A2 n2 c2, u2 = .slice A2 n2 c2 ∧ n2 = n := by
          obtain ⟨A2, c2, e, -, -⟩ := own_slice HG.out.own
          exact ⟨A2, _, c2, e, hn⟩
        have HO := Lib.hid (show wr.ownsRow 0 83 5 (.slice A2 n2 c2) n (rts (usedR S (L.take k))) from by rw [← hu2, ← hn]; exact HG.out.own)
        subst hu2
        clear hn hn2
        go_wp2
        go_region_held3 (fun w' => w'.cell? ⟨x, 0, none⟩ = some (.pointer (some ⟨sg, 0, none⟩)) ∧ w'.cell? ⟨x, 1, none⟩ = some (.slice (some ⟨lb, 0, none⟩) L.length lc') ∧ w'.cell? ⟨lb, k * 5 + 3, none⟩ = some (.int .i64 (zs : Int)) ∧ w'.cell? ⟨lb, k * 5 + 4, none⟩ = some (.int .i64 (zg : Int))) (go_keep)
          ((go_at_call 52; refine Calls.mono HIS.out ?_; rintro e w2 ⟨rfl, hd⟩; have d0b := cell_mods d0 (of_drew hd) (by simp); have d1b := cell_mods d1 (of_drew hd) (by simp); have z0b := cell_mods z0 (of_drew hd) (by simp); have z1b := cell_mods z1 (of_drew hd) (by simp); have z2b := cell_mods z2 (of_drew hd) (by simp); have z3b := cell_mods z3 (of_drew hd) (by simp); have z4b := cell_mods z4 (of_drew hd) (by simp); have H1 := Lib.hid (of_drew hd); clear hd))
        all_goals
          go_wp2_with (at_builtin; refine wpList_append_n rfl (.tmp 26) (.tmp 34) 38 rfl 83 i0 _ 5 40 Tryd.underlying38 HI.out.1 HI.out.2.1 HI.out.2.2.1 HI.out.2.2.2 rfl (by omega) (.slice A2 n2 c2) n (rts (usedR S (L.take k))) rfl (own_mods HO.out (H1.out.alloc _) (by simp)) ⟨w2.heap.size, 0, none⟩ 1 1 (Rt.cs ⟨za, zv, zq, zs, zg⟩) rfl rfl (World.news_of_block (new_at rfl)) (by simp [Rt.cs, Value.oneCell']) (by unfold maxLen; omega) (by omega) ?_; intro v3 w3 HO3 HM3; obtain ⟨A3, c3, rfl, -, -⟩ := own_slice HO3.out)
        all_goals go_roundw
        case rel => exact ⟨k + 1, by go_num, by omega, Lib.hid (gn_put HG.out HZ.out HS.out H1.out (by rw [HN.out]; exact HO3.out) HM3.out)⟩
        case measure => simp [intOf]; omega
    · have q0 : ¬ (k : Int) < (L.length : Int) := by omega
      have hkk : k = L.length := by omega
      subst hkk
      have ho := HG.out.own
      rw [List.take_length] at ho
      obtain ⟨A2, c2', rfl, -, -⟩ := own_slice ho
      have hle := usedR_len S L L.length
      rw [List.take_length] at hle
      have HL := Lib.hid (HH.out.relist (w' := wr) (L' := usedR S L) (HG.out.mods.more (by simp)) ho (fun b hb => .inr (HG.out.new b hb)) (by omega) (fun y hy => HH.out.rng y (usedR_mem hy)))
      have f4 := HL.out.2.free
      clear c0 c1 c2 c3 c4 ho hle
      go_wp2
      go_end0
      refine ⟨rfl, Lib.hid ⟨_, ⟨sg, _, hF, rfl, HL.out.1⟩, (HG.out.mods.more (by simp)).setCell (p := ⟨x, 1, none⟩) (.inl (by simp [foot6])) _, fun k hk => ?_⟩⟩
      simp only [foot6, List.mem_cons, List.mem_append] at hk ⊢
      rcases hk with hk | hk | hk
      · exact .inl (.inl hk)
      · exact .inl (.inr (.inl hk))
      · exact .inr (HG.out.new k hk)
theorem is_take {S : Slb} {i : Nat} {a g : Int} (h : (S.take i).is a g = true) : S.is a g = true := by
  obtain ⟨h0, h1, h2, h3⟩ := Slb.is_lt h
  unfold Slb.is
  have e : (S.take i).us.getD a.toNat false = if i = a.toNat ∧ i < S.us.length then false else S.us.getD a.toNat false := getD_set_bool _ _ _ _
  rw [e] at h2
  split at h2
  · cases h2
  · rw [decide_eq_true h0, h2]
    have h3 : (S.gs.getD a.toNat 0 : Int) = g := h3
    rw [h3]; simp
theorem is_take1 {S : Slb} {p : Int × Int} {a g : Int} (h : (S.take1 p).is a g = true) : S.is a g = true := by
  unfold Slb.take1 at h
  split at h
  · exact is_take h
  · exact h
theorem used_take1 (S : Slb) (p : Int × Int) (L : List Rt) : usedR (S.take1 p) (usedR S L) = usedR (S.take1 p) L := by
  unfold usedR
  rw [List.filter_filter]
  refine List.filter_congr fun y _ => ?_
  cases h : (S.take1 p).is (y.s : Int) (y.g : Int)
  · rfl
  · rw [is_take1 h]; rfl
theorem takes_one (S : Slb) (p : Int × Int) : S.takes [p] = S.take1 p := rfl
theorem taken_one (S : Slb) (p : Int × Int) : S.taken [p] = (S.is p.1 p.2).toNat := by simp [Slb.taken]
/-- Where Cancel stands. -/
def Cn (w wr : World) (x : Nat) (F : List Nat) (S : Slb) (K now q : Nat) (L : List Rt) : Prop := ∃ F', RefZ wr x F' S K now (usedR S L) q ∧ Mods F w wr ∧ ∀ k ∈ F', k ∈ F ∨ w.heap.size ≤ k
set_option maxHeartbeats 1000000 in
theorem rwcancel_any (w : World) (x hb c : Nat) (l : List (Int × Int)) (F : List Nat) (S : Slb) (K now q : Nat) (L : List Rt) (h : RefZ w x F S K now L q) (hu : ∀ y ∈ L, S.is (y.s : Int) (y.g : Int) = true) (hl : l.length ≤ 100000) (hp : Pairs w hb l) (hbF : hb ∉ F) :
    Calls Tryd.prog 19 #[.pointer (some ⟨x, 0, none⟩), .slice (some ⟨hb, 0, none⟩) l.length c] w fun e w' => e = .returned (.int .i64 (S.taken l)) ∧ Hid (Cn w w' x F (S.takes l) K now q L) := by
  have H0 := Lib.hid (show Cn w w x F S K now q L from ⟨F, by rw [show usedR S L = L from List.filter_eq_self.2 hu]; exact h, Mods.refl _ _, fun k hk => .inl hk⟩)
  have HP := Lib.hid hp
  have HT := Lib.hid (fun k => S.taken_le (l.take k))
  have HB := Lib.hid hbF
  clear h hp hbF hu
  go_enter Tryd.func19, Tryd.ntmps19
  go_wp2
  go_loopw [5, 6] (fun n i wr => ∃ k : Nat, k ≤ l.length ∧ i = .int .i64 k ∧ n = .int .i64 (S.taken (l.take k)) ∧ Hid (Cn w wr x F (S.takes (l.take k)) K now q L)) (fun _ i _ => l.length - (intOf i).toNat)
  case atStart => exact ⟨0, by omega, rfl, by simp [Slb.taken], H0⟩
  case round =>
    clear H0
    obtain ⟨k, hk, rfl, rfl, hr⟩ := hrel
    by_cases hlt : k < l.length
    · obtain ⟨F', hz, hm, hn⟩ := hr.out
      have HZ := Lib.hid hz
      have HM := Lib.hid hm
      have HN := Lib.hid hn
      have htl : (l.take k).length ≤ 100000 := by simp; omega
      have ht := HT.out k
      have hq := List.getElem?_eq_getElem hlt
      have hnx := take_next l k hlt
      generalize l[k] = p at hq hnx
      obtain ⟨a, b⟩ := p
      have HPr := Lib.hid (HP.out.mods hm HB.out)
      obtain ⟨p1, p2, hpa, hpb⟩ := HPr.out k (a, b) hq
      have HPI := Lib.hid (And.intro hpa hpb)
      have hbF' : hb ∉ F' := fun hk => by
        rcases hn hb hk with h | h
        · exact HB.out h
        · have := World.block_lt_of_cell? w _ (HP.out k (a, b) hq).1
          simp at this; omega
      have HT1 := Lib.hid (show S.taken (l.take (k + 1)) = S.taken (l.take k) + (S.takes (l.take k)).taken [(a, b)] by rw [hnx, Slb.taken_snoc, taken_one])
      have HS1 := Lib.hid (show S.takes (l.take (k + 1)) = (S.takes (l.take k)).take1 (a, b) by rw [hnx, Slb.takes_snoc])
      generalize S.takes (l.take k) = S2 at *
      generalize S.taken (l.take k) = m at *
      obtain ⟨sg, lv, hF, rfl, hz⟩ := hz
      have HW := Lib.hid hz
      obtain ⟨c0, c1, c2, c3, c4⟩ := hz.cells
      have hbH : hb ∉ hF := fun hk => hbF' (by simp only [foot6, List.mem_cons, List.mem_append]; exact .inr (.inl hk))
      have HNB := Lib.hid hbH
      have HTK := Lib.hid (rtake_any (wr.alloc (.cells #[.int .i64 a, .int .i64 b] 32)).drew sg wr.heap.size 1 [(a, b)] hF S2 K (slabB_keep (slabB_mods hz.slab ((Mods.refl [] wr).alloc _) (by simp)) fun _ _ => rfl) (by simp) (pairs_row (t := 32) (cs := #[.int .i64 a, .int .i64 b]) (Row.new wr _ _) rfl (by simpa using HPI.out)) (fun hk => by have := slabB_lt hz.slab _ hk; omega))
      have htk := S2.taken_le [(a, b)]
      obtain ⟨d, hd⟩ : ∃ d, S2.taken [(a, b)] = d := ⟨_, rfl⟩
      rw [hd] at HTK HT1 htk
      have hd1 : d ≤ 1 := by simpa using htk
      have q1 : IntKind.i64.wrap ((m : Int) + (d : Int)) = ((m + d : Nat) : Int) := by rw [IntKind.wrap_i64]; omega
      have q2 : (k : Int) < (l.length : Int) := by omega
      have nX : x ∉ hF := hz.apart.1
      have HNX := Lib.hid nX
      have p1a := fun o => cell_alloc p1 o
      have p2a := fun o => cell_alloc p2 o
      have c0a := fun o => cell_alloc c0 o
      clear hr hz hm hn hpa hpb hq hnx hbF' hbH htk hd c1 c2 c3 nX
      go_wp2
      go_region_held3 (fun w' => w'.cell? ⟨x, 0, none⟩ = some (.pointer (some ⟨sg, 0, none⟩)) ∧ w'.cell? ⟨hb, k * 2, none⟩ = some (.int .i64 a) ∧ w'.cell? ⟨hb, k * 2 + 1, none⟩ = some (.int .i64 b)) (go_keep)
        ((go_at_call 38; refine Calls.mono HTK.out ?_; rintro e w2 ⟨rfl, hs2, hd2⟩; have c0b := cell_mods (c0a (.cells #[.int .i64 a, .int .i64 b] 32)) (of_drew hd2) HNX.out; have p1b := cell_mods (p1a (.cells #[.int .i64 a, .int .i64 b] 32)) (of_drew hd2) HNB.out; have p2b := cell_mods (p2a (.cells #[.int .i64 a, .int .i64 b] 32)) (of_drew hd2) HNB.out; have H1 := Lib.hid (And.intro hs2 (of_drew hd2)); clear hd2 hs2))
      all_goals
        have HW2 := Lib.hid (show RefZ w2 x (foot6 x hF lv) (S2.take1 (a, b)) K now (usedR S2 L) q from ⟨sg, lv, hF, rfl, (HW.out.quiet ((Mods.refl [] wr).alloc _)).slabbed H1.out.2 H1.out.1 (Nat.le_refl _)⟩)
        go_wp2_with fail
        refine (rwgone_any w2 x _ _ K now q _ HW2.out).mono ?_
        rintro e w3 ⟨rfl, hf⟩
        have HE := Lib.hid (show Cn w w3 x F (S2.take1 (a, b)) K now q L from by
          obtain ⟨F3, g1, g2, g3⟩ := hf.out
          rw [used_take1] at g1
          have hin : ∀ k ∈ hF, k ∈ F ∨ w.heap.size ≤ k := fun k hk => HN.out k (by simp only [foot6, List.mem_cons, List.mem_append]; exact .inr (.inl hk))
          have m2 : Mods F w w2 := (HM.out.alloc (.cells #[.int .i64 a, .int .i64 b] 32)).trans H1.out.2 hin
          refine ⟨F3, g1, m2.trans g2 HN.out, fun k hk => ?_⟩
          rcases g3 k hk with h | h
          · exact HN.out k h
          · have := m2.size; exact .inr (by omega))
        clear hf HW2 H1 HTK
        go_wp2
        go_roundw
      case rel => exact ⟨k + 1, by omega, by go_num, by rw [HT1.out]; go_num, Lib.hid (by rw [HS1.out]; exact HE.out)⟩
      case measure => simp [intOf]; omega
    · have q2 : ¬ (k : Int) < (l.length : Int) := by omega
      have hkk : l.take k = l := List.take_of_length_le (by omega)
      rw [hkk] at hr
      have HE := hr
      have HKK := Lib.hid (show S.taken (l.take k) = S.taken l by rw [hkk])
      clear hr hkk
      go_wp2
      go_ret
      exact ⟨by first | rfl | (rw [HKK.out]; rfl), HE⟩
end Go.Proofs.YtgfmjkbelciaaaaDoor
