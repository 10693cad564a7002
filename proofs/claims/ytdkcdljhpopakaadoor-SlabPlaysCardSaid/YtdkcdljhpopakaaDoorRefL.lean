/- What All of the reference's slab answers. -/
import Derived.Test.YtdkcdljhpopakaaDoorRefB
namespace Go.Proofs.YtdkcdljhpopakaaDoor
open Go.RowKit
set_option maxRecDepth 10000
set_option linter.unusedVariables false
set_option linter.unusedSimpArgs false

theorem rnew_at {w : World} {o : Obj} {n : Nat} (h : w.heap.size = n) : (w.alloc o).heap[n]? = some o := by subst h; exact heap_alloc_new w o
theorem rhand_info : (Tryd.prog.info? 32).map (fun i => (i.zero, i.size, i.bytes)) = some (some (.agg #[.int .i64 0, .int .i64 0]), 2, 16) := by kernel_rfl
theorem slabB_row {w : World} {x : Nat} {F : List Nat} {S : Slb} {K : Nat} (h : SlabB w x F S K) :
    ∃ U G cu cg, w.cell? ⟨x, 1, none⟩ = some (.slice U S.us.length cu) ∧ w.cell? ⟨x, 2, none⟩ = some (.slice G S.gs.length cg) ∧ S.us.length ≤ cu ∧ cu ≤ maxLen ∧ S.gs.length ≤ cg ∧ cg ≤ maxLen ∧
      (∀ i, i < S.us.length → ∃ ub gb, U = some ⟨ub, 0, none⟩ ∧ G = some ⟨gb, 0, none⟩ ∧ w.cell? ⟨ub, i, none⟩ = some (.bool (S.us.getD i false)) ∧ w.cell? ⟨gb, i, none⟩ = some (.int .i64 (S.gs.getD i 0))) ∧ S.Ok K := by
  obtain ⟨uv, gv, vv, rfl, ⟨h1, h2, h3, h4, h5⟩, hok⟩ := h
  obtain ⟨U, cu, rfl, u1, u2⟩ := own_slice h2
  obtain ⟨G, cg, rfl, g1, g2⟩ := own_slice h3
  refine ⟨U, G, cu, cg, h1.cell 1, h1.cell 2, u1, u2, g1, g2, fun i hi => ?_, hok⟩
  have hgl := hok.gl
  obtain ⟨ub, _, e1, d1, _⟩ := own_cell h2 hi (bs_at _ _ hi)
  obtain ⟨gb, _, e2, d2, _⟩ := own_cell h3 (i := i) (by omega) (ints_at _ _ (by omega))
  injection e1 with e1 _ _
  injection e2 with e2 _ _
  exact ⟨ub, gb, e1, e2, d1, d2⟩
set_option maxHeartbeats 1000000 in
theorem rall_any (w : World) (g : Nat) (F : List Nat) (S : Slb) (K : Nat) (h : SlabB w g F S K) :
    Calls Tryd.prog 21 #[.pointer (some ⟨g, 0, none⟩)] w fun e w' =>
      ∃ v, e = .returned v ∧ Hid (OwnPairs w' 32 v S.all ∧ (∀ b ∈ v.ownBlock.toList, w.heap.size ≤ b) ∧ Mods [] w w') := by
  obtain ⟨i0, hi0, hz0, hz1, hz2⟩ := info_parts rhand_info
  have HA := Lib.hid h
  obtain ⟨U, G, cu, cg, c1, c2, l1, l2, l3, l4, hx, hok⟩ := slabB_row h
  have hl := hok.len
  have hh := hok.hi
  have hgl := hok.gl
  have HX := Lib.hid hx
  have HS := Lib.hid (fun k => S.allTo_len k)
  have C1 := Lib.hid c1
  have C2 := Lib.hid c2
  clear h hok hx
  go_enter Tryd.func21, Tryd.ntmps21
  go_wp2
  clear c1 c2
  go_loopw [3, 4] (fun v i wr => ∃ k : Nat, k ≤ S.us.length ∧ i = .int .i64 k ∧ Hid (OwnPairs wr 32 v (S.allTo k) ∧ (∀ b ∈ v.ownBlock.toList, w.heap.size ≤ b) ∧ Mods [] w wr)) (fun _ i _ => S.us.length - (intOf i).toNat)
  case atStart => exact ⟨0, by omega, rfl, Lib.hid ⟨⟨rfl, .inl ⟨rfl, rfl⟩⟩, by simp [Value.ownBlock], Mods.refl _ _⟩⟩
  case round =>
    obtain ⟨k, hk, rfl, hr⟩ := hrel
    have c1 := cell_mods C1.out hr.out.2.2 (by simp)
    have c2 := cell_mods C2.out hr.out.2.2 (by simp)
    by_cases hlt : k < S.us.length
    · obtain ⟨ub, gb, rfl, rfl, e1, e2⟩ := HX.out k hlt
      have e1 := cell_mods e1 hr.out.2.2 (by simp)
      have e2 := cell_mods e2 hr.out.2.2 (by simp)
      have hN := HS.out k
      have hg2 : k < S.gs.length := by omega
      cases hu : S.us.getD k false
      · have HU := Lib.hid hu
        rw [hu] at e1
        have H1 := Lib.hid (show S.allTo (k + 1) = S.allTo k by simp [Slb.allTo]; simpa using hu)
        clear hu
        go_wp2
        go_roundw
        case rel => exact ⟨k + 1, by omega, by go_num, Lib.hid (by rw [H1.out]; exact hr.out)⟩
        case measure => simp [intOf]; omega
      · have HU := Lib.hid hu
        rw [hu] at e1
        have H1 := Lib.hid (show S.allTo (k + 1) = S.allTo k ++ [((k : Int), (S.gs.getD k 0 : Int))] by simp only [Slb.allTo]; rw [if_pos hu])
        clear hu
        generalize S.gs.getD k 0 = gk at *
        go_wp2_with (at_builtin; refine wpList_append_lies _ rfl (.tmp 21) (.tmp 31) _ rfl 0 32 i0 _ 2 16 Tryd.underlying33 hi0 hz0 hz1 hz2 rfl (by omega) u3 (S.allTo k).length (flat (S.allTo k)) rfl (own_mods hr.out.1 ((Mods.refl [] wr).alloc _) (by simp)) ⟨wr.heap.size, 0, none⟩ 1 1 [.int .i64 k, .int .i64 gk] rfl rfl (World.news_of_block (rnew_at (by simp))) (by simp [Value.oneCell']) (by omega) (by unfold maxLen; omega) (by omega) (Nat.zero_le _) (wr.heap.size + 1) (by simp) ?_; intro g1 cap1 w1 hown1 hg1 hat1 hlt1; have HO1 := Lib.hid hown1; have HG1 := Lib.hid hg1; have HT1 := Lib.hid hat1; clear hown1 hg1 hat1)
        go_roundw
        case rel => exact ⟨k + 1, by omega, by go_num, Lib.hid (by
          rw [H1.out]
          refine ⟨?_, ?_, ?_⟩
          · unfold OwnPairs
            rw [flat_append, List.length_append]
            exact HO1.out
          · intro b hb
            have e : b = g1 := by simpa [Value.ownBlock, eq_comm] using hb
            subst e
            rcases HT1.out with h | h
            · exact hr.out.2.1 b (by rw [h]; simp)
            · have := hr.out.2.2.size; omega
          · refine (hr.out.2.2.alloc _).grown HG1.out (fun b hb => .inr (hr.out.2.1 b (by rw [hb]; simp))))⟩
        case measure => simp [intOf]; omega
    · have e : k = S.us.length := by omega
      subst e
      go_wp2
      go_ret
      exact ⟨_, rfl, hr⟩
end Go.Proofs.YtdkcdljhpopakaaDoor
