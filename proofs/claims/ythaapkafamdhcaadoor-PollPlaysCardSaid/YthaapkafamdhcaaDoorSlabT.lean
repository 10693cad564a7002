/- What Take of the program's slab answers. -/
import Derived.Test.YthaapkafamdhcaaDoorSlabD
import Derived.BigRegion
namespace Go.Proofs.YthaapkafamdhcaaDoor
open Go.RowKit
set_option maxRecDepth 10000
set_option linter.unusedVariables false

theorem stake_any (w : World) (g hb c : Nat) (l : List (Int × Int)) (F : List Nat) (S : Slb) (K : Nat) (h : SlabA w g F S K) (hl : l.length ≤ 100000) (hp : Pairs w hb l) (hbF : hb ∉ F) :
    Calls Tryd.prog 66 #[.pointer (some ⟨g, 0, none⟩), .slice (some ⟨hb, 0, none⟩) l.length c] w fun e w' => e = .returned (.int .i64 (S.taken l)) ∧ SlabA w' g F (S.takes l) K ∧ Mods F w w' := by
  have HA := Lib.hid h
  have HP := Lib.hid hp
  have HT := Lib.hid (fun k => S.taken_le (l.take k))
  clear h hp
  go_enter Tryd.func66, Tryd.ntmps66
  go_wp2
  go_loopw [5, 7, 10] (fun n p i wr => ∃ k : Nat, k ≤ l.length ∧ i = .int .i64 k ∧ n = .int .i64 (S.taken (l.take k)) ∧ Hid (SlabA wr g F (S.takes (l.take k)) K ∧ Mods F w wr)) (fun _ _ i _ => l.length - (intOf i).toNat)
  case atStart => exact ⟨0, by omega, rfl, by simp [Slb.taken], Lib.hid ⟨HA.out, Mods.refl _ _⟩⟩
  case round =>
    obtain ⟨k, hk, rfl, rfl, hr⟩ := hrel
    by_cases hlt : k < l.length
    · have ht := HT.out k
      have htl : (l.take k).length ≤ 100000 := by simp; omega
      have hq := List.getElem?_eq_getElem hlt
      have hnx := take_next l k hlt
      generalize l[k] = q at hq hnx
      obtain ⟨a, b⟩ := q
      obtain ⟨p1, p2, ⟨p3, p4⟩, p5, p6⟩ := (HP.out.mods hr.out.2 hbF) k (a, b) hq
      have hT1 : S.taken (l.take (k + 1)) = S.taken (l.take k) + ((S.takes (l.take k)).is a b).toNat := by rw [hnx, Slb.taken_snoc]
      have hS1 : S.takes (l.take (k + 1)) = (S.takes (l.take k)).take1 (a, b) := by rw [hnx, Slb.takes_snoc]
      generalize hS2 : S.takes (l.take k) = S2 at *
      generalize S.taken (l.take k) = m at *
      cases hs : S2.is a b
      · have HS := Lib.hid hs
        have H1 := Lib.hid (show S.taken (l.take (k + 1)) = m by rw [hT1, hs]; rfl)
        have H2 := Lib.hid (show S.takes (l.take (k + 1)) = S2 by rw [hS1]; unfold Slb.take1; simp only [hs]; rfl)
        clear hs hT1 hS1 hS2 hnx hq
        go_wp2_with fail
        refine (inUse_any _ g a b F S2 K p3 p4 (slabA_keep hr.out.1 fun k hk => Below.heap_alloc wr _ k (slabA_lt hr.out.1 k hk))).mono ?_
        rw [HS.out]
        rintro e w1 ⟨rfl, hd⟩
        have H3 := Lib.hid (((Mods.refl [] wr).alloc _).trans hd (by simp))
        clear hd
        go_wp2
        go_roundw
        case rel => exact ⟨k + 1, by omega, by go_num, by rw [H1.out], Lib.hid ⟨by rw [H2.out]; exact slabA_mods hr.out.1 H3.out (by simp), hr.out.2.trans H3.out (by simp)⟩⟩
        case measure => simp [intOf]; omega
      · obtain ⟨h0, hi, hu, _⟩ := Slb.is_lt hs
        obtain ⟨i, rfl⟩ := Int.eq_ofNat_of_zero_le h0
        rw [Int.toNat_natCast] at hi hu
        have HS := Lib.hid hs
        have H1 := Lib.hid (show S.taken (l.take (k + 1)) = m + 1 by rw [hT1, hs]; rfl)
        have H2 := Lib.hid (show S.takes (l.take (k + 1)) = S2.take i by rw [hS1]; unfold Slb.take1; simp only [hs]; rfl)
        have HI := Lib.hid hi
        have HU := Lib.hid hu
        clear hs hT1 hS1 hS2 hnx hq hi hu
        go_wp2_with fail
        refine (inUse_any _ g i b F S2 K p3 p4 (slabA_keep hr.out.1 fun k hk => Below.heap_alloc wr _ k (slabA_lt hr.out.1 k hk))).mono ?_
        rw [HS.out]
        rintro e w1 ⟨rfl, hd⟩
        have c4 := cell_new hd (by simp) 0
        have H3 := Lib.hid (((Mods.refl [] wr).alloc _).trans hd (by simp))
        clear hd
        go_wp2_with fail
        refine (free_any _ g i F S2 K (slabA_mods hr.out.1 H3.out (by simp)) HI.out HU.out).mono ?_
        rintro e w2 ⟨rfl, hd⟩
        have H4 := Lib.hid hd
        clear hd c4
        go_wp2
        go_roundw
        case rel => exact ⟨k + 1, by omega, by go_num, by rw [H1.out]; go_num, Lib.hid ⟨by rw [H2.out]; exact H4.out.1, (hr.out.2.trans H3.out (by simp)).trans H4.out.2 (fun k hk => .inl hk)⟩⟩
        case measure => simp [intOf]; omega
    · have e : k = l.length := by omega
      subst e
      have HZ := Lib.hid hr.out
      rw [List.take_length] at HZ
      have e2 := Lib.hid (show S.taken (l.take l.length) = S.taken l by rw [List.take_length])
      go_wp2
      go_ret
      exact ⟨by rw [← e2.out]; rfl, HZ.out⟩
theorem take_nil (w : World) (hb c : Nat) (l : List (Int × Int)) (hl : l.length ≤ 100000) (hp : Pairs w hb l) :
    Calls Tryd.prog 66 #[.pointer none, .slice (some ⟨hb, 0, none⟩) l.length c] w fun e w' => e = .returned (.int .i64 0) ∧ Mods [] w w' := by
  have HP := Lib.hid hp
  clear hp
  go_enter Tryd.func66, Tryd.ntmps66
  go_wp2
  go_loopw [5, 7, 10] (fun n p i wr => ∃ k : Nat, k ≤ l.length ∧ i = .int .i64 k ∧ n = .int .i64 0 ∧ Hid (Mods [] w wr)) (fun _ _ i _ => l.length - (intOf i).toNat)
  case atStart => exact ⟨0, by omega, rfl, rfl, Lib.hid (Mods.refl _ _)⟩
  case round =>
    obtain ⟨k, hk, rfl, rfl, hr⟩ := hrel
    by_cases hlt : k < l.length
    · have hq := List.getElem?_eq_getElem hlt
      generalize l[k] = q at hq
      obtain ⟨a, b⟩ := q
      obtain ⟨p1, p2, ⟨p3, p4⟩, p5, p6⟩ := (HP.out.mods hr.out (by simp)) k (a, b) hq
      clear hq
      go_wp2_with fail
      refine (inUse_nil _ _ _).mono ?_
      rintro e w1 ⟨rfl, hd⟩
      have H3 := Lib.hid (((Mods.refl [] wr).alloc _).trans hd (by simp))
      clear hd
      go_wp2
      go_roundw
      case rel => exact ⟨k + 1, by omega, by go_num, rfl, Lib.hid (hr.out.trans H3.out (by simp))⟩
      case measure => simp [intOf]; omega
    · go_wp2
      go_ret
      exact ⟨rfl, hr.out⟩
end Go.Proofs.YthaapkafamdhcaaDoor
