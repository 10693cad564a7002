/- What Take of the reference's slab answers. -/
import Derived.Test.YtgfmjkbelciaaaaDoorRefA
namespace Go.Proofs.YtgfmjkbelciaaaaDoor
open Go.RowKit
set_option maxRecDepth 10000
set_option linter.unusedVariables false
set_option linter.unusedSimpArgs false

theorem slabB_used {w : World} {x i : Nat} {F : List Nat} {S : Slb} {K : Nat} (h : SlabB w x F S K) (hi : i < S.us.length) :
    ∃ ub cap, ub ∈ F ∧ ub ≠ x ∧ w.cell? ⟨x, 1, none⟩ = some (.slice (some ⟨ub, 0, none⟩) S.us.length cap) ∧ S.us.length ≤ cap ∧ cap ≤ maxLen ∧ w.cell? ⟨ub, i, none⟩ = some (.bool (S.us.getD i false)) ∧ (∀ j, w.frozen? ⟨ub, j, none⟩ = false) ∧
      w.cell? ⟨x, 4, none⟩ = some (.int .i64 S.cnt) ∧ (∀ j, w.frozen? ⟨x, j, none⟩ = false) := by
  obtain ⟨uv, gv, vv, rfl, ⟨h1, h2, h3, h4, h5⟩, hok⟩ := h
  obtain ⟨ub, cap, rfl, hc, hf⟩ := own_cell h2 (i := i) hi (bs_at _ _ hi)
  obtain ⟨_, _, e, e1, e2⟩ := own_slice h2
  injection e with _ _ e
  subst e
  exact ⟨ub, cap, by simp [Value.ownBlock], own_ne_row h2 h1 (by decide) ub (by simp [Value.ownBlock]), h1.cell 1, e1, e2, hc, hf, h1.cell 4, h1.free⟩
theorem own_type_ne {w : World} {e e' : TypeId} {v v' : Value} {n n' s s' : Nat} {xs xs' : List Value} (h : w.ownsRow 0 e s v n xs) (h' : w.ownsRow 0 e' s' v' n' xs') (hne : e ≠ e') : ∀ k ∈ v.ownBlock.toList, k ∉ v'.ownBlock.toList := by
  intro k hk hk'
  rcases h'.2 with ⟨rfl, _⟩ | ⟨g', cap', cur, rfl, _, hh, _⟩
  · simp [Value.ownBlock] at hk'
  · have : k = g' := by simpa [Value.ownBlock, eq_comm] using hk'
    subst this
    exact own_ne_row h hh hne _ hk rfl
theorem slabB_take {w : World} {x : Nat} {F : List Nat} {S : Slb} {K i : Nat} (h : SlabB w x F S K) (hi : i < S.us.length) (hu : S.us.getD i false = true) {ub cap : Nat} {m : Int}
    (c1 : w.cell? ⟨x, 1, none⟩ = some (.slice (some ⟨ub, 0, none⟩) S.us.length cap)) (hm : m = (S.cnt : Int) - 1) :
    SlabB ((w.setCell ⟨ub, i, none⟩ (.bool false)).setCell ⟨x, 4, none⟩ (.int .i64 m)) x F (S.take i) K ∧ Mods F w ((w.setCell ⟨ub, i, none⟩ (.bool false)).setCell ⟨x, 4, none⟩ (.int .i64 m)) := by
  obtain ⟨uv, gv, vv, rfl, ⟨h1, h2, h3, h4, h5⟩, hok⟩ := h
  rw [show w.cell? ⟨x, 1, none⟩ = some uv from h1.cell 1] at c1
  obtain rfl := Option.some.inj c1
  have hux : ub ≠ x := own_ne_row h2 h1 (by decide) ub (by simp [Value.ownBlock])
  have hgx := own_ne_row h3 h1 (by decide)
  have hvx := own_ne_row h4 h1 (by decide)
  have hgu : ∀ k ∈ gv.ownBlock.toList, k ≠ ub := fun k hk e => own_type_ne h3 h2 (by decide) k hk (by simp [Value.ownBlock, e])
  have hvu : ∀ k ∈ vv.ownBlock.toList, k ≠ ub := fun k hk e => own_type_ne h4 h2 (by decide) k hk (by simp [Value.ownBlock, e])
  have hs := (h2.stored i (.bool false)).1
  have hcnt := Slb.take_cnt hi hu
  have hmc : m = ((S.take i).cnt : Int) := by omega
  refine ⟨⟨_, gv, vv, rfl, ⟨?_, ?_, own_keep h3 fun k hk => ?_, own_keep h4 fun k hk => ?_, h5⟩, Slb.take_ok hok i⟩, ((Mods.refl _ _).setCell (by simp [Value.ownBlock]) _).setCell (by simp) _⟩
  · have := (h1.far (p := ⟨ub, i, none⟩) (by exact hux.symm) (.bool false)).set 4 (.int .i64 m)
    rw [hmc] at this ⊢
    exact this
  · have e : bs (S.take i).us = (bs S.us).set i (.bool false) := by simp [bs, Slb.take]
    have e2 : (S.take i).us.length = S.us.length := by simp [Slb.take]
    rw [e, e2]
    refine own_keep hs fun k hk => heap_setCell_other _ _ _ _ ?_
    have : k = ub := by simpa [Value.ownBlock, eq_comm] using hk
    subst this
    exact hux
  · rw [heap_setCell_other _ _ _ _ (by exact hgx k hk), heap_setCell_other _ _ _ _ (by exact hgu k hk)]
  · rw [heap_setCell_other _ _ _ _ (by exact hvx k hk), heap_setCell_other _ _ _ _ (by exact hvu k hk)]

set_option maxHeartbeats 1000000 in
theorem rtake_any (w : World) (g hb c : Nat) (l : List (Int × Int)) (F : List Nat) (S : Slb) (K : Nat) (h : SlabB w g F S K) (hl : l.length ≤ 100000) (hp : Pairs w hb l) (hbF : hb ∉ F) :
    Calls Tryd.prog 38 #[.pointer (some ⟨g, 0, none⟩), .slice (some ⟨hb, 0, none⟩) l.length c] w fun e w' => e = .returned (.int .i64 (S.taken l)) ∧ SlabB w' g F (S.takes l) K ∧ Mods F w w' := by
  have HA := Lib.hid h
  have HP := Lib.hid hp
  have HT := Lib.hid (fun k => S.taken_le (l.take k))
  clear h hp
  go_enter Tryd.func38, Tryd.ntmps38
  go_wp2
  go_loopw [5, 6] (fun n i wr => ∃ k : Nat, k ≤ l.length ∧ i = .int .i64 k ∧ n = .int .i64 (S.taken (l.take k)) ∧ Hid (SlabB wr g F (S.takes (l.take k)) K ∧ Mods F w wr)) (fun _ i _ => l.length - (intOf i).toNat)
  case atStart => exact ⟨0, by omega, rfl, by simp [Slb.taken], Lib.hid ⟨HA.out, Mods.refl _ _⟩⟩
  case round =>
    obtain ⟨k, hk, rfl, rfl, hr⟩ := hrel
    by_cases hlt : k < l.length
    · have ht := HT.out k
      have htl : (l.take k).length ≤ 100000 := by simp; omega
      have hq := List.getElem?_eq_getElem hlt
      have hnx := take_next l k hlt
      generalize l[k] = q at hq hnx
      obtain ⟨a, b⟩ := q
      have HPr := Lib.hid (HP.out.mods hr.out.2 hbF)
      obtain ⟨p1, p2, ⟨p3, p4⟩, p5, p6⟩ := HPr.out k (a, b) hq
      have P1 := Lib.hid p1
      have hT1 : S.taken (l.take (k + 1)) = S.taken (l.take k) + ((S.takes (l.take k)).is a b).toNat := by rw [hnx, Slb.taken_snoc]
      have hS1 : S.takes (l.take (k + 1)) = (S.takes (l.take k)).take1 (a, b) := by rw [hnx, Slb.takes_snoc]
      generalize hS2 : S.takes (l.take k) = S2 at *
      generalize S.taken (l.take k) = m at *
      cases hs : S2.is a b
      · have HS := Lib.hid hs
        have H1 := Lib.hid (show S.taken (l.take (k + 1)) = m by rw [hT1, hs]; rfl)
        have H2 := Lib.hid (show S.takes (l.take (k + 1)) = S2 by rw [hS1]; unfold Slb.take1; simp only [hs]; rfl)
        clear hs hT1 hS1 hS2 hnx hq
        go_wp2_with fail
        refine (is_any _ g a b F S2 K p3 p4 hr.out.1).mono ?_
        rw [HS.out]
        rintro e w1 ⟨rfl, hd⟩
        have H3 := Lib.hid hd
        clear hd
        go_wp2
        go_roundw
        case rel => exact ⟨k + 1, by omega, by go_num, by rw [H1.out], Lib.hid ⟨by rw [H2.out]; exact slabB_mods hr.out.1 H3.out (by simp), hr.out.2.trans H3.out (by simp)⟩⟩
        case measure => simp [intOf]; omega
      · obtain ⟨h0, hi, hu, _⟩ := Slb.is_lt hs
        obtain ⟨i, rfl⟩ := Int.eq_ofNat_of_zero_le h0
        rw [Int.toNat_natCast] at hi hu
        have HS := Lib.hid hs
        have H1 := Lib.hid (show S.taken (l.take (k + 1)) = m + 1 by rw [hT1, hs]; rfl)
        have H2 := Lib.hid (show S.takes (l.take (k + 1)) = S2.take i by rw [hS1]; unfold Slb.take1; simp only [hs]; rfl)
        have HU := Lib.hid hu
        have hi2 : (i : Int) < S2.us.length := by omega
        have hcl := S2.cnt_le
        have hok : S2.Ok K := by obtain ⟨_, _, _, _, _, hok⟩ := hr.out.1; exact hok
        have hl2 := hok.len
        have hl3 := hok.hi
        clear hs hT1 hS1 hS2 hnx hq hu hok
        go_wp2_with fail
        refine (is_any _ g i b F S2 K p3 p4 hr.out.1).mono ?_
        rw [HS.out]
        rintro e w1 ⟨rfl, hd⟩
        have H3 := Lib.hid hd
        have HB := Lib.hid (slabB_mods hr.out.1 hd (by simp))
        have c4 := cell_mods P1.out hd (by simp)
        clear hd p1 p2
        obtain ⟨ub, cap, hF, hne, d1, d2, d3, d4, d5, d6, d7⟩ := slabB_used HB.out hi
        have HT2 := Lib.hid (slabB_take HB.out hi HU.out d1 (m := (S2.cnt : Int) - 1) rfl)
        clear hF hi
        go_wp2
        go_region
        all_goals go_wp2
        all_goals go_roundw
        case rel => exact ⟨k + 1, by omega, by go_num, by rw [H1.out]; go_num, Lib.hid ⟨by rw [H2.out]; exact slabB_keep HT2.out.1 (fun _ _ => rfl), (hr.out.2.trans H3.out (by simp)).trans (HT2.out.2.drew) (fun k hk => .inl hk)⟩⟩
        case measure => simp [intOf]; omega
    · have e : k = l.length := by omega
      subst e
      have HZ := Lib.hid hr.out
      rw [List.take_length] at HZ
      have e2 := Lib.hid (show S.taken (l.take l.length) = S.taken l by rw [List.take_length])
      go_wp2
      go_ret
      exact ⟨by rw [← e2.out]; rfl, HZ.out⟩
end Go.Proofs.YtgfmjkbelciaaaaDoor
