/- Plain mathematics of a timer wheel's places: no text of the program. -/
import Derived.Lib.BitFns
import Derived.Lib.ItoaNum
import Derived.Test.YtgfmjkbelciaaaaDoorSrtMath
namespace Go.Proofs.YtgfmjkbelciaaaaDoor

/-- The place of a time: level by level and slot by slot; 256 is far. -/
def plc (now a : Nat) : Nat :=
  if a ≤ now then now % 64
  else if a / 64 = now / 64 then a % 64
  else if a / 4096 = now / 4096 then 64 + a / 64 % 64
  else if a / 262144 = now / 262144 then 128 + a / 4096 % 64
  else if a / 16777216 = now / 16777216 then 192 + a / 262144 % 64
  else 256
/-- A number's digits of six bits. -/
structure Digs (a u1 u2 u3 u4 r0 r1 r2 r3 : Nat) : Prop where
  e1 : a / 64 = u1
  e2 : a / 4096 = u2
  e3 : a / 262144 = u3
  e4 : a / 16777216 = u4
  m0 : a % 64 = r0
  m1 : u1 % 64 = r1
  m2 : u2 % 64 = r2
  m3 : u3 % 64 = r3
  q0 : a = 64 * u1 + r0
  q1 : u1 = 64 * u2 + r1
  q2 : u2 = 64 * u3 + r2
  q3 : u3 = 64 * u4 + r3
  l0 : r0 < 64
  l1 : r1 < 64
  l2 : r2 < 64
  l3 : r3 < 64
theorem digs (a : Nat) : ∃ u1 u2 u3 u4 r0 r1 r2 r3, Digs a u1 u2 u3 u4 r0 r1 r2 r3 :=
  ⟨_, _, _, _, _, _, _, _, ⟨rfl, rfl, rfl, rfl, rfl, rfl, rfl, rfl, by omega, by omega, by omega, by omega, by omega, by omega, by omega, by omega⟩⟩
theorem plc_digs {now a : Nat} {u1 u2 u3 u4 r0 r1 r2 r3 v1 v2 v3 v4 s0 s1 s2 s3 : Nat} (d : Digs a u1 u2 u3 u4 r0 r1 r2 r3) (e : Digs now v1 v2 v3 v4 s0 s1 s2 s3) :
    (a ≤ now ∧ plc now a = s0) ∨ (now < a ∧ u1 = v1 ∧ plc now a = r0) ∨ (now < a ∧ u1 ≠ v1 ∧ u2 = v2 ∧ plc now a = 64 + r1) ∨ (now < a ∧ u2 ≠ v2 ∧ u3 = v3 ∧ plc now a = 128 + r2) ∨ (now < a ∧ u3 ≠ v3 ∧ u4 = v4 ∧ plc now a = 192 + r3) ∨ (now < a ∧ u4 ≠ v4 ∧ plc now a = 256) := by
  have d1 := d.e1; have d2 := d.e2; have d3 := d.e3; have d4 := d.e4; have d5 := d.m0; have d6 := d.m1; have d7 := d.m2; have d8 := d.m3
  have f1 := e.e1; have f2 := e.e2; have f3 := e.e3; have f4 := e.e4; have f5 := e.m0
  unfold plc
  rw [d1, d2, d3, d4, f1, f2, f3, f4, d5, d6, d7, d8, f5]
  split
  · exact .inl ⟨by assumption, rfl⟩
  · split
    · exact .inr (.inl ⟨by omega, by assumption, rfl⟩)
    · split
      · exact .inr (.inr (.inl ⟨by omega, by assumption, by assumption, rfl⟩))
      · split
        · exact .inr (.inr (.inr (.inl ⟨by omega, by assumption, by assumption, rfl⟩)))
        · split
          · exact .inr (.inr (.inr (.inr (.inl ⟨by omega, by assumption, by assumption, rfl⟩))))
          · exact .inr (.inr (.inr (.inr (.inr ⟨by omega, by assumption, rfl⟩))))
theorem plc_lt (now a : Nat) : plc now a < 257 := by unfold plc; split; omega; split; omega; split; omega; split; omega; split <;> omega
theorem plc_up {now a b : Nat} (h : plc now a < plc now b) : a < b := by
  obtain ⟨u1, u2, u3, u4, r0, r1, r2, r3, d⟩ := digs a
  obtain ⟨v1, v2, v3, v4, s0, s1, s2, s3, e⟩ := digs now
  obtain ⟨w1, w2, w3, w4, t0, t1, t2, t3, f⟩ := digs b
  have h1 := plc_digs d e
  have h2 := plc_digs f e
  obtain ⟨-, -, -, -, -, -, -, -, dq0, dq1, dq2, dq3, dl0, dl1, dl2, dl3⟩ := d
  obtain ⟨-, -, -, -, -, -, -, -, eq0, eq1, eq2, eq3, el0, el1, el2, el3⟩ := e
  obtain ⟨-, -, -, -, -, -, -, -, fq0, fq1, fq2, fq3, fl0, fl1, fl2, fl3⟩ := f
  rcases h1 with ⟨h3, h4⟩ | ⟨h3, h4, h5⟩ | ⟨h3, h4, h5, h6⟩ | ⟨h3, h4, h5, h6⟩ | ⟨h3, h4, h5, h6⟩ | ⟨h3, h4, h5⟩ <;> rcases h2 with ⟨g3, g4⟩ | ⟨g3, g4, g5⟩ | ⟨g3, g4, g5, g6⟩ | ⟨g3, g4, g5, g6⟩ | ⟨g3, g4, g5, g6⟩ | ⟨g3, g4, g5⟩ <;> omega
set_option maxHeartbeats 2000000 in
theorem plc_stay {now now' a : Nat} (h : now ≤ now') (hp : plc now now' < plc now a) : plc now' a = plc now a ∧ now' < a := by
  refine ⟨?_, plc_up hp⟩
  have hlt := plc_up hp
  obtain ⟨u1, u2, u3, u4, r0, r1, r2, r3, d⟩ := digs a
  obtain ⟨v1, v2, v3, v4, s0, s1, s2, s3, e⟩ := digs now
  obtain ⟨w1, w2, w3, w4, t0, t1, t2, t3, f⟩ := digs now'
  have h1 := plc_digs d e
  have h2 := plc_digs f e
  have k0 := plc_digs d f
  obtain ⟨-, -, -, -, -, -, -, -, dq0, dq1, dq2, dq3, dl0, dl1, dl2, dl3⟩ := d
  obtain ⟨-, -, -, -, -, -, -, -, eq0, eq1, eq2, eq3, el0, el1, el2, el3⟩ := e
  obtain ⟨-, -, -, -, -, -, -, -, fq0, fq1, fq2, fq3, fl0, fl1, fl2, fl3⟩ := f
  rcases h1 with ⟨h3, h4⟩ | ⟨h3, h4, h5⟩ | ⟨h3, h4, h5, h6⟩ | ⟨h3, h4, h5, h6⟩ | ⟨h3, h4, h5, h6⟩ | ⟨h3, h4, h5⟩ <;> rcases h2 with ⟨g3, g4⟩ | ⟨g3, g4, g5⟩ | ⟨g3, g4, g5, g6⟩ | ⟨g3, g4, g5, g6⟩ | ⟨g3, g4, g5, g6⟩ | ⟨g3, g4, g5⟩ <;>
    first | (exfalso; omega) | (rcases k0 with ⟨k3, k4⟩ | ⟨k3, k4, k5⟩ | ⟨k3, k4, k5, k6⟩ | ⟨k3, k4, k5, k6⟩ | ⟨k3, k4, k5, k6⟩ | ⟨k3, k4, k5⟩ <;> omega)
set_option maxHeartbeats 2000000 in
theorem plc_down {now now' a : Nat} (h : now ≤ now') (hp : plc now a = plc now now') (ha : now' < a) : plc now' a ≤ plc now now' := by
  obtain ⟨u1, u2, u3, u4, r0, r1, r2, r3, d⟩ := digs a
  obtain ⟨v1, v2, v3, v4, s0, s1, s2, s3, e⟩ := digs now
  obtain ⟨w1, w2, w3, w4, t0, t1, t2, t3, f⟩ := digs now'
  have h1 := plc_digs d e
  have h2 := plc_digs f e
  have k0 := plc_digs d f
  obtain ⟨-, -, -, -, -, -, -, -, dq0, dq1, dq2, dq3, dl0, dl1, dl2, dl3⟩ := d
  obtain ⟨-, -, -, -, -, -, -, -, eq0, eq1, eq2, eq3, el0, el1, el2, el3⟩ := e
  obtain ⟨-, -, -, -, -, -, -, -, fq0, fq1, fq2, fq3, fl0, fl1, fl2, fl3⟩ := f
  rcases h1 with ⟨h3, h4⟩ | ⟨h3, h4, h5⟩ | ⟨h3, h4, h5, h6⟩ | ⟨h3, h4, h5, h6⟩ | ⟨h3, h4, h5, h6⟩ | ⟨h3, h4, h5⟩ <;> rcases h2 with ⟨g3, g4⟩ | ⟨g3, g4, g5⟩ | ⟨g3, g4, g5, g6⟩ | ⟨g3, g4, g5, g6⟩ | ⟨g3, g4, g5, g6⟩ | ⟨g3, g4, g5⟩ <;>
    first | (exfalso; omega) | (rcases k0 with ⟨k3, k4⟩ | ⟨k3, k4, k5⟩ | ⟨k3, k4, k5, k6⟩ | ⟨k3, k4, k5, k6⟩ | ⟨k3, k4, k5, k6⟩ | ⟨k3, k4, k5⟩ <;> omega)
theorem xor_zero (a b : Nat) : a ^^^ b = 0 ↔ a = b :=
  ⟨fun h => by have e : (a ^^^ b) ^^^ b = b := by rw [h, Nat.zero_xor]
               rwa [Nat.xor_assoc, Nat.xor_self, Nat.xor_zero] at e, fun h => by rw [h, Nat.xor_self]⟩
theorem xor_part (a b k : Nat) : (a ^^^ b) / 2 ^ k = 0 ↔ a / 2 ^ k = b / 2 ^ k := by
  rw [← Nat.shiftRight_eq_div_pow, ← Nat.shiftRight_eq_div_pow, ← Nat.shiftRight_eq_div_pow, Nat.shiftRight_xor_distrib]
  exact xor_zero _ _
theorem lvl_cases {now a : Nat} (h : now < a) (ha : a < 2 ^ 63) : ∃ L, (Lib.bitLen (a ^^^ now) - 1) / 6 = L ∧ 1 ≤ Lib.bitLen (a ^^^ now) ∧ Lib.bitLen (a ^^^ now) ≤ 64 ∧ a ^^^ now < 2 ^ 63 ∧
    ((L = 0 ∧ plc now a = a % 64) ∨ (L = 1 ∧ plc now a = 64 + a / 64 % 64) ∨ (L = 2 ∧ plc now a = 128 + a / 4096 % 64) ∨ (L = 3 ∧ plc now a = 192 + a / 262144 % 64) ∨ (4 ≤ L ∧ plc now a = 256)) := by
  have hx : a ^^^ now < 2 ^ 63 := Nat.xor_lt_two_pow ha (by omega)
  have h0 : a ^^^ now ≠ 0 := fun e => by have := (xor_zero _ _).1 e; omega
  obtain ⟨b1, b2, b3⟩ := Lib.bitLenAux_bounds 64 (a ^^^ now) (by omega) h0
  have b4 := Lib.bitLen_le (a ^^^ now) 64 (by omega) (by omega)
  have up : ∀ k, Lib.bitLen (a ^^^ now) ≤ k → a / 2 ^ k = now / 2 ^ k := fun k hk => (xor_part a now k).1 (Nat.div_eq_of_lt (Nat.lt_of_lt_of_le b3 (Nat.pow_le_pow_right (by omega) hk)))
  have dn : ∀ k, k < Lib.bitLen (a ^^^ now) → a / 2 ^ k ≠ now / 2 ^ k := fun k hk e => by
    have e2 := (xor_part a now k).2 e
    have h3 : 2 ^ k ≤ a ^^^ now := Nat.le_trans (Nat.pow_le_pow_right (by omega) (by omega : k ≤ Lib.bitLen (a ^^^ now) - 1)) b2
    have := Nat.div_pos h3 (Nat.two_pow_pos k)
    omega
  refine ⟨_, rfl, b1, b4, hx, ?_⟩
  have hn : ¬ a ≤ now := by omega
  generalize Lib.bitLen (a ^^^ now) = n at *
  have hd : n ≤ 6 ∨ (6 < n ∧ n ≤ 12) ∨ (12 < n ∧ n ≤ 18) ∨ (18 < n ∧ n ≤ 24) ∨ 24 < n := by omega
  unfold plc
  rw [if_neg hn]
  rcases hd with d | ⟨d1, d2⟩ | ⟨d1, d2⟩ | ⟨d1, d2⟩ | d
  · rw [if_pos (up 6 d)]; exact .inl ⟨by omega, rfl⟩
  · rw [if_neg (dn 6 d1), if_pos (up 12 d2)]; exact .inr (.inl ⟨by omega, rfl⟩)
  · rw [if_neg (dn 6 (by omega)), if_neg (dn 12 d1), if_pos (up 18 d2)]; exact .inr (.inr (.inl ⟨by omega, rfl⟩))
  · rw [if_neg (dn 6 (by omega)), if_neg (dn 12 (by omega)), if_neg (dn 18 d1), if_pos (up 24 d2)]; exact .inr (.inr (.inr (.inl ⟨by omega, rfl⟩)))
  · rw [if_neg (dn 6 (by omega)), if_neg (dn 12 (by omega)), if_neg (dn 18 (by omega)), if_neg (dn 24 d)]; exact .inr (.inr (.inr (.inr ⟨by omega, rfl⟩)))
end Go.Proofs.YtgfmjkbelciaaaaDoor
