/- What All of the program's slab answers. -/
import Derived.Test.YthaapkafamdhcaaDoorSlabE
import Derived.Test.YthaapkafamdhcaaDoorSlabO
import Derived.Deep.AppendLies
import Derived.OwnWalk
namespace Go.Proofs.YthaapkafamdhcaaDoor
open Go.RowKit
set_option maxRecDepth 10000
set_option linter.unusedVariables false

theorem all_nil (w : World) : Calls Tryd.prog 50 #[.pointer none] w fun e w' => e = .returned (.slice none 0 0) ∧ w = w' := by
  go_enter Tryd.func50, Tryd.ntmps50
  go_wp2
  go_ret
  exact ⟨rfl, rfl⟩
theorem all_any (w : World) (g : Nat) (F : List Nat) (S : Slb) (K : Nat) (h : SlabA w g F S K) :
    Calls Tryd.prog 50 #[.pointer (some ⟨g, 0, none⟩)] w fun e w' =>
      ∃ v, e = .returned v ∧ Hid (OwnPairs w' 47 v S.all ∧ (∀ b ∈ v.ownBlock.toList, w.heap.size ≤ b) ∧ Mods [] w w') := by
  obtain ⟨i0, hi0, hz0, hz1, hz2⟩ := info_parts hand_info
  have HA := Lib.hid h
  have hok : S.Ok K := by obtain ⟨sv, cs, xs, U, hF, hrow, hsz, h0, h1, h2, hU, hown, hx, hbit, hok⟩ := h; exact hok
  have hl := hok.len
  have hh := hok.hi
  have hcnt := S.cnt_le
  obtain ⟨A, cap, c1, c2, hcap, hmx, hx⟩ := slabA_open h
  have HX := Lib.hid hx
  clear h hok hx
  go_enter Tryd.func50, Tryd.ntmps50
  go_wp2_with (at_make; refine wpList_make_own _ rfl _ _ 48 rfl 0 47 i0 _ 2 Tryd.underlying48 hi0 hz0 hz1 .i64 .i64 _ S.cnt rfl rfl rfl (by rw [hz2]; omega) (by unfold maxLen; omega) (Nat.zero_le _) ?_; intro w0 hown0 hg0; have hm0 := Lib.hid ((Mods.refl [] w).grown hg0 (by simp)); have d2 := cell_mods c2 hm0.out (by simp))
  have HO := Lib.hid hown0
  have HS := Lib.hid (fun k => S.allTo_len k)
  clear hown0 hg0 d2
  go_loopw [3, 4, 5, 18] (fun v a b i wr => ∃ k : Nat, k ≤ S.us.length ∧ i = .int .i64 k ∧ Hid (OwnPairs wr 47 v (S.allTo k) ∧ (∀ b ∈ v.ownBlock.toList, w.heap.size ≤ b) ∧ Mods [] w wr)) (fun _ _ _ i _ => S.us.length - (intOf i).toNat)
  case atStart => exact ⟨0, by omega, rfl, Lib.hid ⟨HO.out, by simp [Value.ownBlock], hm0.out⟩⟩
  case round =>
    obtain ⟨k, hk, rfl, hr⟩ := hrel
    by_cases hlt : k < S.us.length
    · obtain ⟨sb, v, rfl, e1, e2⟩ := HX.out k hlt
      have e1 := cell_mods e1 hr.out.2.2 (by simp)
      have e2 := cell_mods e2 hr.out.2.2 (by simp)
      have hN := HS.out k
      have HA1 := Lib.hid (slabA_mods HA.out hr.out.2.2 (by simp))
      cases hu : S.us.getD k false
      · have HU := Lib.hid hu
        have H1 := Lib.hid (show S.allTo (k + 1) = S.allTo k by simp [Slb.allTo]; simpa using hu)
        clear hu
        go_wp2_with fail
        refine (isUsed_any _ g k F S K (by omega) (slabA_keep HA1.out fun k hk => Below.heap_alloc _ _ k (slabA_lt HA1.out k hk))).mono ?_
        rw [HU.out]
        rintro e w' ⟨rfl, n, rfl⟩
        go_wp2
        go_roundw
        case rel => exact ⟨k + 1, by omega, by go_num, Lib.hid ⟨by rw [H1.out]; exact own_mods hr.out.1 (((Mods.refl [] wr).alloc _).drewN n) (by simp), hr.out.2.1, (hr.out.2.2.alloc _).drewN n⟩⟩
        case measure => simp [intOf]; omega
      · have HU := Lib.hid hu
        have H1 := Lib.hid (show S.allTo (k + 1) = S.allTo k ++ [((k : Int), (S.gs.getD k 0 : Int))] by simp only [Slb.allTo]; rw [if_pos hu])
        clear hu
        go_wp2_with fail
        refine (isUsed_any _ g k F S K (by omega) (slabA_keep HA1.out fun k hk => Below.heap_alloc _ _ k (slabA_lt HA1.out k hk))).mono ?_
        rw [HU.out]
        rintro e w' ⟨rfl, n, rfl⟩
        go_wp2_with (at_builtin; refine wpList_append_lies _ rfl (.tmp 26) (.tmp 31) _ rfl 0 47 i0 _ 2 16 Tryd.underlying48 hi0 hz0 hz1 hz2 rfl (by omega) u3 (S.allTo k).length (flat (S.allTo k)) rfl (own_mods hr.out.1 ((((Mods.refl [] wr).alloc _).drewN n).alloc _) (by simp)) ⟨wr.heap.size + 1, 0, none⟩ 1 1 [.int .i64 k, .int .i64 (S.gs.getD k 0)] rfl rfl (World.news_of_block (new_at (by simp))) (by simp [Value.oneCell']) (by omega) (by unfold maxLen; omega) (by omega) (Nat.zero_le _) (wr.heap.size + 2) (by simp) ?_; intro g1 cap1 w1 hown1 hg1 hat1 hlt1; have HO1 := Lib.hid hown1; have HG1 := Lib.hid hg1; have HT1 := Lib.hid hat1; clear hown1 hg1 hat1)
        go_roundw
        case rel => exact ⟨k + 1, by omega, by go_num, Lib.hid (by
          rw [H1.out]
          refine ⟨?_, ?_, ?_⟩
          · unfold OwnPairs
            rw [flat_append, List.length_append]
            exact HO1.out
          · intro b hb
            have e : b = g1 := by simpa [Value.ownBlock, eq_comm] using hb
            subst e
            rcases HT1.out with h | h
            · exact hr.out.2.1 b (by rw [h]; simp)
            · have := hr.out.2.2.size; omega
          · refine (((hr.out.2.2.alloc _).drewN n).alloc _).grown HG1.out (fun b hb => .inr (hr.out.2.1 b (by rw [hb]; simp))))⟩
        case measure => simp [intOf]; omega
    · have e : k = S.us.length := by omega
      subst e
      go_wp2
      go_ret
      exact ⟨_, rfl, hr⟩
end Go.Proofs.YthaapkafamdhcaaDoor
