/- The law's heavy: acts that are not heavy are light. Conditions: acts that came in. -/
import Derived.Test.YtakimadhbgpedaaDoorFo10
import Derived.Test.YtakimadhbgpedaaDoorFl10
namespace Go.Proofs.YtakimadhbgpedaaDoor
open Go.RowKit
set_option linter.unusedVariables false
set_option linter.unusedSimpArgs false

def LightF (l : List FV) : Prop := l.length ≤ 5000 ∧ ∀ p ∈ l, p.1.size ≤ 5000 ∧ p.2.size ≤ 5000
def LightAct (a : Act10) : Prop := a.name.size ≤ 5000 ∧ a.other.size ≤ 5000 ∧ LightF a.row.l
def LightA (l : List Act10) : Prop := ∀ j (h : j < l.length), j < 80 → LightAct l[j]
theorem LightF.small {l : List FV} (h : LightF l) : Small l := fun p hp => by have := h.2 p hp; omega
/-- What heavy answers. -/
def HvAns (l : List Act10) (w : World) (e : Ending) (w' : World) : Prop := ∃ b, e = .returned (.bool b) ∧ (b = false → LightA l) ∧ Mods [] w w'
theorem ActsAt.mods {W W' : World} {v : Value} {l : List Act10} (h : ActsAt W v l) {F : List Nat} (hm : Mods F W W') (hF : ∀ k ∈ F, W.heap.size ≤ k) : ActsAt W' v l := by
  obtain ⟨A, C, hv, hl, hc⟩ := h
  refine ⟨A, C, hv, hl, fun j hj => ?_⟩
  obtain ⟨b, off, hA, hb, h1, h2, h3, h4, h5, h6, h7, h8, h9⟩ := hc j hj
  have hbF : b ∉ F := fun h => by have := hF b h; omega
  refine ⟨b, off, hA, Nat.lt_of_lt_of_le hb hm.size, cell_mods h1 hm hbF, cell_mods h2 hm hbF, cell_mods h3 hm hbF, cell_mods h4 hm hbF, h5, h6, h7, h8, ?_, h9.big, h9.len, h9.cap, h9.capm⟩
  rcases h9.fs with h | ⟨b2, off2, cap2, hv2, h0, hlt, hcc⟩
  · exact .inl h
  · exact .inr ⟨b2, off2, cap2, hv2, h0, Nat.lt_of_lt_of_le hlt hm.size, fun j hj => ⟨cell_mods (hcc j hj).1 hm (fun h => by have := hF b2 h; omega), cell_mods (hcc j hj).2 hm (fun h => by have := hF b2 h; omega)⟩⟩

set_option maxRecDepth 10000 in
set_option maxHeartbeats 4000000 in
theorem heavy_l (v : Value) (l : List Act10) (w : World) (h : ActsAt w v l) :
    Calls Tryd.prog 12 #[v] w (HvAns l w) := by
  obtain ⟨A, C, rfl, hl, hc⟩ := h
  have HC := Lib.hid hc
  clear hc
  go_enter Tryd.func12, Tryd.ntmps12
  go_wp2
  go_loopw [3, 4] (fun n i wr => ∃ (k m : Nat), k ≤ l.length ∧ k ≤ 80 ∧ i = .int .i64 k ∧ n = .int .i64 m ∧ m ≤ 5000 ∧ Mods [] w wr ∧ ∀ j (h : j < l.length), j < k → LightAct l[j]) (fun _ i _ => l.length - (intOf i).toNat)
  case atStart => exact ⟨0, 0, Nat.zero_le _, Nat.zero_le _, rfl, rfl, Nat.zero_le _, Mods.refl _ _, fun j _ h => absurd h (Nat.not_lt_zero _)⟩
  case round =>
    obtain ⟨k, m, hk, hk80, rfl, rfl, hm, hM, hall⟩ := hrel
    have HM := Lib.hid hM
    have HL := Lib.hid hall
    clear hM hall
    by_cases hlt : k < l.length
    · by_cases h80 : k < 80
      · obtain ⟨b, off, rfl, hb, h1, h2, h3, h4, h5, h6, h7, h8, h9⟩ := HC.out k hlt
        have c1 := cell_mods h2 HM.out (by simp)
        have c2 := cell_mods h3 HM.out (by simp)
        have c3 := cell_mods h4 HM.out (by simp)
        have HR := Lib.hid h9
        obtain ⟨nm, hnm⟩ : ∃ x, x = l[k].name := ⟨_, rfl⟩
        obtain ⟨ot, hot⟩ : ∃ x, x = l[k].other := ⟨_, rfl⟩
        obtain ⟨rw_, hrw⟩ : ∃ x, x = l[k].row := ⟨_, rfl⟩
        have HLA := Lib.hid (show (nm.size ≤ 5000 → ot.size ≤ 5000 → LightF rw_.l → LightAct l[k]) by rw [hnm, hot, hrw]; exact fun a b c => ⟨a, b, c⟩)
        rw [← hnm] at c1 h7
        rw [← hot] at c2 h8
        rw [← hrw] at c3 HR
        obtain ⟨rA, rC, rl⟩ := rw_
        have hrl := HR.out.len
        simp only [FRow.v] at c3
        simp only at hrl
        clear hnm hot hrw h1 h2 h3 h4 h5 h6 h9
        obtain ⟨wo, rfl⟩ : ∃ wo : World, wo = wr := ⟨_, rfl⟩
        go_wp2
        go_quiet (fail)
        go_wp2
        obtain ⟨m0, hm0⟩ : ∃ m0 : Nat, m0 = m + 5 + nm.size + ot.size := ⟨_, rfl⟩
        have HM0 := Lib.hid hm0
        have hm0b : m0 ≤ 281474976710656 * 2 := by omega
        clear hm0
        obtain ⟨rA2, rC2, hrv, hcell⟩ := HR.out.fs.gen
        injection hrv with hr1 hr2 hr3
        subst hr1 hr3
        clear hr2
        have HCL := Lib.hid hcell
        have HBG := Lib.hid HR.out.big
        clear hcell
        go_loopw [3, 5] (fun n i wr => ∃ (q m2 : Nat), q ≤ rl.length ∧ i = .int .i64 q ∧ n = .int .i64 m2 ∧ m0 + q * 5 ≤ m2 ∧ (q = 0 → m2 = m0) ∧ (0 < q → m2 ≤ 5000) ∧ Mods [] wo wr ∧ ∀ j (h : j < rl.length), j < q → rl[j].1.size ≤ 5000 ∧ rl[j].2.size ≤ 5000) (fun _ i _ => rl.length - (intOf i).toNat)
        case atStart => exact ⟨0, m0, Nat.zero_le _, rfl, congrArg (Value.int .i64) (by have := HM0.out; omega), by omega, fun _ => rfl, fun h => absurd h (Nat.lt_irrefl _), ((Mods.refl [] _).drewN _), fun j _ h => absurd h (Nat.not_lt_zero _)⟩
        case round =>
          obtain ⟨q, m2, hq, rfl, rfl, hm2, hq0, hqp, hM2, hal⟩ := hrel
          have HM2 := Lib.hid hM2
          have HAL := Lib.hid hal
          have d1 := cell_mods c1 hM2 (by simp)
          have d2 := cell_mods c2 hM2 (by simp)
          have d3 := cell_mods c3 hM2 (by simp)
          have hm2b : m2 ≤ 281474976710656 * 2 := by
            rcases Nat.eq_zero_or_pos q with h | h
            · have := hq0 h; omega
            · have := hqp h; omega
          have HQ0 := Lib.hid hq0
          have HQP := Lib.hid hqp
          have HMQ := Lib.hid hm2
          clear hM2 hal hq0 hqp hm2
          by_cases hql : q < rl.length
          · obtain ⟨fb, fo, rfl, hf1, hf2⟩ := HCL.out q hql
            have e1 := cell_mods (cell_mods hf1 HM.out (by simp)) HM2.out (by simp)
            have e2 := cell_mods (cell_mods hf2 HM.out (by simp)) HM2.out (by simp)
            have hbg := HBG.out _ (List.getElem_mem hql)
            obtain ⟨p, hp⟩ : ∃ p, p = rl[q] := ⟨_, rfl⟩
            have HPE := Lib.hid hp
            rw [← hp] at e1 e2 hbg
            clear hp hf1 hf2
            obtain ⟨x, y⟩ := p
            simp only at e1 e2 hbg
            obtain ⟨hb1, hb2⟩ := hbg
            by_cases hbig : 5000 < m2 + 5 + x.size + y.size
            · go_wp2
              go_quiet (fail)
              go_wp2
              go_ret
              exact ⟨true, rfl, (fun h => nomatch h), (HM.out.trans HM2.out (fun _ h => nomatch h)).drewN _⟩
            · go_wp2
              go_quiet (fail)
              go_wp2
              go_roundw
              case rel =>
                refine ⟨q + 1, m2 + 5 + x.size + y.size, by omega, by go_num, congrArg (Value.int .i64) (by omega), by have := HMQ.out; omega, fun h => absurd h (Nat.succ_ne_zero _), fun _ => by omega, HM2.out.drewN _, fun j hj hjq => ?_⟩
                by_cases e : j = q
                · subst e; rw [← HPE.out]; constructor <;> (simp only; omega)
                · exact HAL.out j hj (by omega)
              case measure => simp [intOf]; omega
          · obtain rfl : q = rl.length := by omega
            by_cases hbig : 5000 < m2
            · go_wp2
              go_ret
              exact ⟨true, rfl, (fun h => nomatch h), HM.out.trans HM2.out (fun _ h => nomatch h)⟩
            · have HNL := Lib.hid (HLA.out (by have := HMQ.out; have := HM0.out; omega) (by have := HMQ.out; have := HM0.out; omega) ⟨by have := HMQ.out; omega, fun p hp => by
                obtain ⟨j, hj, rfl⟩ := List.mem_iff_getElem.1 hp
                exact HAL.out j hj hj⟩)
              go_wp2
              go_roundw
              case rel =>
                refine ⟨k + 1, m2, by omega, by omega, by go_num, rfl, by omega, HM.out.trans HM2.out (fun _ h => nomatch h), fun j hj hjk => ?_⟩
                by_cases e : j = k
                · subst e; exact HNL.out
                · exact HL.out j hj (by omega)
              case measure => simp [intOf]; omega
      · obtain rfl : k = 80 := by omega
        go_wp2
        go_ret
        exact ⟨false, rfl, fun _ j hj hj80 => HL.out j hj hj80, HM.out⟩
    · obtain rfl : k = l.length := by omega
      go_wp2
      go_ret
      exact ⟨false, rfl, fun _ j hj _ => HL.out j hj hj, HM.out⟩
end Go.Proofs.YtakimadhbgpedaaDoor
