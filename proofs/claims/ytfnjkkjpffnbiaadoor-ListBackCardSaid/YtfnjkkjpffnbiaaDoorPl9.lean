/- The law's comparison of two rows of parameters, and its known lists. Conditions: as each says. -/
import Derived.Test.YtfnjkkjpffnbiaaDoorPr9
import Derived.Deep.QuietTactic
import Derived.BigQuiet
namespace Go.Proofs.YtfnjkkjpffnbiaaDoor
open Go.RowKit
set_option linter.unusedVariables false

/-- A row of parameters as a walk sees it. -/
def ParAt (W : World) (v : Value) (ps : List PV) : Prop :=
  (ps = [] ∧ ∃ a cap, v = .slice a 0 cap) ∨
  ∃ (b cap : Nat), v = .slice (some ⟨b, 0, none⟩) ps.length cap ∧ 0 < ps.length ∧ b < W.heap.size ∧
    ∀ j (h : j < ps.length), W.cell? ⟨b, j * 2, none⟩ = some (.string (ba ps[j].1)) ∧ W.cell? ⟨b, j * 2 + 1, none⟩ = some (.string (ba ps[j].2))
theorem ParAt.below {W W' : World} {v : Value} {ps : List PV} (h : ParAt W v ps) (hb : Below W.heap.size W W') : ParAt W' v ps := by
  rcases h with h | ⟨b, cap, hv, h0, hlt, hc⟩
  · exact .inl h
  · exact .inr ⟨b, cap, hv, h0, Nat.lt_of_lt_of_le hlt hb.size, fun j hj => ⟨(hb.cell (p := ⟨b, j * 2, none⟩) hlt).trans (hc j hj).1, (hb.cell (p := ⟨b, j * 2 + 1, none⟩) hlt).trans (hc j hj).2⟩⟩
theorem ParAt.len {W : World} {v : Value} {ps : List PV} (h : ParAt W v ps) : ∃ a cap, v = .slice a ps.length cap := by
  rcases h with ⟨rfl, a, cap, rfl⟩ | ⟨b, cap, rfl, _⟩
  · exact ⟨a, cap, rfl⟩
  · exact ⟨_, cap, rfl⟩
theorem encPs_at : ∀ (ps : List PV) (j : Nat) (h : j < ps.length), (encPs ps)[j * 2]? = some (strV ps[j].1) ∧ (encPs ps)[j * 2 + 1]? = some (strV ps[j].2)
  | p :: r, 0, _ => by simp [encPs]
  | p :: r, j + 1, h => by
    have ih := encPs_at r j (by simp at h; omega)
    have e : encPs (p :: r) = strV p.1 :: strV p.2 :: encPs r := by simp [encPs]
    rw [e, show (j + 1) * 2 = j * 2 + 1 + 1 by omega]
    simp only [List.getElem?_cons_succ, List.getElem_cons_succ]
    exact ih
theorem encPs_len (ps : List PV) : (encPs ps).length = ps.length * 2 := by
  induction ps with
  | nil => rfl
  | cons p r ih => have e : encPs (p :: r) = strV p.1 :: strV p.2 :: encPs r := by simp [encPs]
                   rw [e]; simp only [List.length_cons, ih]; omega
theorem row_pars {W : World} {base : Nat} {t : TypeId} {v : Value} {ps : List PV} (h : W.ownsRow base t 2 v ps.length (encPs ps)) : ParAt W v ps := by
  by_cases h0 : ps.length = 0
  · have : ps = [] := List.eq_nil_of_length_eq_zero h0
    subst this
    rcases h.2 with ⟨rfl, _⟩ | ⟨g, cap, cur, rfl, _⟩ <;> exact Or.inl ⟨rfl, _, _, rfl⟩
  · rcases h.2 with ⟨rfl, h1⟩ | ⟨g, cap, cur, rfl, hb, hg, hn, hm, hc, ht⟩
    · exact absurd h1 h0
    · right
      refine ⟨g, cap, rfl, by omega, (Array.getElem?_eq_some_iff.1 hg).1, fun j hj => ?_⟩
      have cell : ∀ i (x : List UInt8), i < ps.length * 2 → (encPs ps)[i]? = some (strV x) → W.cell? ⟨g, i, none⟩ = some (.string (ba x)) := by
        intro i x hi hx
        have h1 : (cur.toList.take (ps.length * 2))[i]? = (encPs ps)[i]? := by rw [ht]
        rw [List.getElem?_take, if_pos hi, hx] at h1
        have e2 : cur[i]? = some (strV x) := by rw [← Array.getElem?_toList]; exact h1
        simp only [World.cell?, hg]
        simp [e2, strV, ba]
      have := encPs_at ps j hj
      exact ⟨cell _ _ (by omega) this.1, cell _ _ (by omega) this.2⟩
theorem ParAt.drawn {W W' : World} {v : Value} {ps : List PV} (h : ParAt W v ps) (hd : Drawn W W') : ParAt W' v ps := h.below hd.below

set_option maxRecDepth 10000 in
set_option maxHeartbeats 1000000 in
theorem params_l (A B : List PV) (va vb : Value) (w : World) (ha : ParAt w va A) (hb : ParAt w vb B) (hA : A.length ≤ 1000000) (hB : B.length ≤ 1000000) :
    Calls Tryd.prog 20 #[va, vb] w fun e w' => e = .returned (.bool (decide (A = B))) ∧ Drawn w w' := by
  by_cases hl : A.length = B.length
  · have h1 : ((A.length : Int) != (B.length : Int)) = false := by simp [hl]
    by_cases h0 : A.length = 0
    · obtain rfl : A = [] := List.eq_nil_of_length_eq_zero h0
      obtain rfl : B = [] := List.eq_nil_of_length_eq_zero (by rw [← hl]; rfl)
      obtain ⟨a, ca, rfl⟩ := ha.len
      obtain ⟨b, cb, rfl⟩ := hb.len
      clear ha hb
      go_enter Tryd.func20, Tryd.ntmps20
      go_wp2
      refine wp_loop_rounds 1 ?_
      rw [rounds_succ]
      go_wp2
      go_ret
      exact ⟨rfl, Drawn.refl _⟩
    · rcases ha with ⟨rfl, _⟩ | ⟨b1, c1, rfl, -, hb1, hc1⟩
      · exact absurd rfl h0
      rcases hb with ⟨rfl, _⟩ | ⟨b2, c2, rfl, -, hb2, hc2⟩
      · exact absurd hl h0
      have HL := Lib.hid hl
      have hl2 : A.length ≤ B.length := by omega
      clear hl h0
      have HC1 := Lib.hid hc1
      have HC2 := Lib.hid hc2
      clear hc1 hc2
      go_enter Tryd.func20, Tryd.ntmps20
      go_wp2
      go_loopw [5] (fun i wr => ∃ (k : Nat), k ≤ A.length ∧ i = .int .i64 k ∧ Drawn w wr ∧ ∀ j (h : j < A.length) (h2 : j < B.length), j < k → A[j] = B[j]) (fun i _ => A.length - (intOf i).toNat)
      case atStart => exact ⟨0, Nat.zero_le _, rfl, Drawn.refl _, fun j _ _ h => absurd h (by omega)⟩
      case round =>
        obtain ⟨k, hk, rfl, hd, hall⟩ := hrel
        have HA := Lib.hid hall
        clear hall
        by_cases hlt : k < A.length
        · have hlt2 : k < B.length := by omega
          have e1 : wr.cell? ⟨b1, k * 2, none⟩ = some (.string (ba A[k].1)) := by obtain ⟨m, rfl⟩ := hd; exact (HC1.out k hlt).1
          have e2 : wr.cell? ⟨b2, k * 2, none⟩ = some (.string (ba B[k].1)) := by obtain ⟨m, rfl⟩ := hd; exact (HC2.out k hlt2).1
          have e3 : wr.cell? ⟨b1, k * 2 + 1, none⟩ = some (.string (ba A[k].2)) := by obtain ⟨m, rfl⟩ := hd; exact (HC1.out k hlt).2
          have e4 : wr.cell? ⟨b2, k * 2 + 1, none⟩ = some (.string (ba B[k].2)) := by obtain ⟨m, rfl⟩ := hd; exact (HC2.out k hlt2).2
          by_cases he : A[k].1 = B[k].1
          · have hne := (bytes_eq (show ba A[k].1 = ba B[k].1 by rw [he])).1
            by_cases he2 : A[k].2 = B[k].2
            · have hne2 := (bytes_eq (show ba A[k].2 = ba B[k].2 by rw [he2])).1
              have HE := Lib.hid (show A[k] = B[k] from Prod.ext he he2)
              clear he he2
              go_wp2
              go_quiet (fail)
              go_wp2
              go_roundw
              case rel =>
                refine ⟨k + 1, by omega, by go_num, hd.more _, fun j h h2 hj => ?_⟩
                by_cases e : j = k
                · subst e; exact HE.out
                · exact HA.out j h h2 (by omega)
              case measure => simp [intOf]; omega
            · have hne2 := (bytes_ne (show ba A[k].2 ≠ ba B[k].2 from fun e => he2 (ba_inj e))).1
              have HE := Lib.hid (decide_eq_false (show ¬ A = B from fun e => he2 (by subst e; rfl)))
              clear he he2
              go_wp2
              go_quiet (fail)
              go_wp2
              go_ret
              exact ⟨by rw [HE.out]; rfl, hd.more _⟩
          · have hne := (bytes_ne (show ba A[k].1 ≠ ba B[k].1 from fun e => he (ba_inj e))).1
            have HE := Lib.hid (decide_eq_false (show ¬ A = B from fun e => he (by subst e; rfl)))
            clear he
            go_wp2
            go_quiet (fail)
            go_wp2
            go_ret
            exact ⟨by rw [HE.out]; rfl, hd.more _⟩
        · have HE := Lib.hid (decide_eq_true (show A = B from List.ext_getElem HL.out fun j h h2 => HA.out j h h2 (by omega)))
          go_wp2
          go_ret
          exact ⟨by rw [HE.out]; rfl, hd⟩
  · have h1 : ((A.length : Int) != (B.length : Int)) = true := by simp; omega
    have HE := Lib.hid (decide_eq_false (show ¬ A = B from fun e => hl (by rw [e])))
    obtain ⟨a, ca, rfl⟩ := ha.len
    obtain ⟨b, cb, rfl⟩ := hb.len
    clear ha hb hl
    go_enter Tryd.func20, Tryd.ntmps20
    go_wp2
    go_ret
    exact ⟨by rw [HE.out]; rfl, Drawn.refl _⟩
end Go.Proofs.YtfnjkkjpffnbiaaDoor
