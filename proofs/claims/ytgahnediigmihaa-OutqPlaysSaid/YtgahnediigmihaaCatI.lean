/- What slices.Grow and slices.Concat answer, of one row of numbers. -/
import Derived.Test.YtgahnediigmihaaRw
import Derived.Test.YtgahnediigmihaaNums
import Derived.Test.YtgahnediigmihaaOwn
import Derived.OwnWalk
import Derived.Lib.AppendZeros
namespace Go.Proofs.Ytgahnediigmihaa
open Go.RowKit
set_option maxRecDepth 10000
set_option linter.unusedVariables false
set_option linter.unusedSimpArgs false

theorem int_info3 : (Try.prog.info? 3).map (fun i => (i.zero, i.size, i.bytes)) = some (some (.int .i64 0), 1, 8) := by kernel_rfl
theorem iv_length (l : List Int) : (iv l).length = l.length := by simp [iv]
theorem iv_append (l m : List Int) : iv (l ++ m) = iv l ++ iv m := by simp [iv]
theorem iv_at (l : List Int) (i : Nat) (u : Value) : (iv l)[i]? = some u ↔ ∃ x, l[i]? = some x ∧ u = .int .i64 x := by
  simp only [iv, List.getElem?_map]
  cases l[i]? with
  | none => simp
  | some x => simp [eq_comm]
theorem iv_one (l : List Int) : ∀ v ∈ iv l, v.oneCell' = true := by
  intro v hv
  obtain ⟨x, _, rfl⟩ := List.mem_map.1 hv
  rfl
/-- v is a new slice of the numbers l. -/
def FreshI (w w' : World) (v : Value) (l : List Int) : Prop :=
  Own w' 3 v (iv l) ∧ Mods [] w w' ∧ ∀ k ∈ v.ownBlock.toList, w.heap.size ≤ k
theorem growI_any (n : Nat) (w : World) (h : n ≤ 1000000000) :
    Calls Try.prog 37 #[.slice none 0 0, .int .i64 n] w fun e w' => ∃ v, e = .returned v ∧ Hid (FreshI w w' v []) := by
  obtain ⟨i, hi, hz, hs, hb⟩ := info_parts int_info3
  by_cases h0 : n = 0
  · subst h0
    go_enter Try.func37, Try.ntmps37
    go_wp2
    go_ret
    exact ⟨_, rfl, Lib.hid ⟨Own.nil _ _, Mods.refl _ _, by simp [Value.ownBlock]⟩⟩
  · have hp : 0 < n := by omega
    have hr := fun ty => Lib.run_append_nil_zeros (P := Try.prog) w 29 3 ty 3 i (.int .i64 0) .i64 .i64 Try.underlying29 Try.underlying3 hi hz n hp (by omega) (by omega) (by rw [hb]; omega)
    have hg := grownCap_ge w n 0 3
    have hg2 := grownCap_le_maxLen w n 0 3 (by unfold maxLen; omega)
    obtain ⟨G, hG⟩ : ∃ G, G = grownCap w n 0 3 := ⟨_, rfl⟩
    rw [← hG] at hr hg hg2
    obtain ⟨cs, hcs⟩ : ∃ cs, cs = Builtin.zeroCells (Value.int .i64 0).cells n ++ Builtin.zeroCells (Value.int .i64 0).cells (G - n) := ⟨_, rfl⟩
    have HC := Lib.hid (show cs.size = G * 1 by rw [hcs, Array.size_append, size_zeroCells, size_zeroCells]; simp [Value.cells]; omega)
    rw [← hcs] at hr
    have HM := Lib.hid hg2
    unfold maxLen at hg2
    clear hG hcs h0
    go_enter Try.func37, Try.ntmps37
    go_wp2_with (at_builtin; refine Lib.wpList_append_run _ rfl _ _ _ _ rfl _ _ rfl rfl _ _ (hr _) ?_)
    go_ret
    exact ⟨_, rfl, Lib.hid ⟨Own.of_row (World.ownsRow_made w.drew cs G (Nat.zero_le _) HM.out HC.out), ((Mods.refl _ _).drew).alloc _, by simp [Value.ownBlock]⟩⟩
theorem FreshI.more {w w1 w2 : World} {v v' : Value} {l l' : List Int} (h : FreshI w w1 v l) (hw : Own w2 3 v' (iv l')) (hm : Mods v.ownBlock.toList w1 w2) (ht : v'.ownBlock = v.ownBlock ∨ v'.ownBlock = some w1.heap.size) : FreshI w w2 v' l' := by
  refine ⟨hw, h.2.1.trans hm (fun k hk => .inr (h.2.2 k hk)), fun k hk => ?_⟩
  rcases ht with e | e
  · rw [e] at hk; exact h.2.2 k hk
  · rw [e] at hk
    have := h.2.1.size
    simp at hk
    omega
theorem concatI_any (w : World) (b : Nat) (A : Option Addr) (n c : Nat) (l : List Int) (hc : w.cell? ⟨b, 0, none⟩ = some (.slice A n c)) (hn : n = l.length) (hs : Src w A (iv l)) (ht : l.length ≤ 1000000000) :
    Calls Try.prog 35 #[.slice (some ⟨b, 0, none⟩) 1 1] w fun e w' => ∃ v, e = .returned v ∧ Hid (FreshI w w' v l) := by
  subst hn
  obtain ⟨i, hi, hz, hsz, hb⟩ := info_parts int_info3
  have HI := Lib.hid (And.intro hi (And.intro hz (And.intro hsz (show i.bytes ≤ 8 by omega))))
  have HS := Lib.hid hs
  have HC := Lib.hid hc
  clear hi hz hsz hb hs
  go_enter Try.func35, Try.ntmps35
  go_wp2
  go_loop [3, 5, 11] (fun n u i => (i = .int .i64 0 ∧ n = .int .i64 0) ∨ (i = .int .i64 1 ∧ n = .int .i64 l.length)) (fun _ _ i => 1 - (intOf i).toNat)
  case atStart => exact .inl ⟨rfl, rfl⟩
  case round =>
    rcases hrel with ⟨rfl, rfl⟩ | ⟨rfl, rfl⟩
    · go_wp2
      go_round
      case rel => exact .inr ⟨by go_num, by go_num⟩
      case measure => simp [intOf]
    · clear hc
      go_wp2_with fail
      refine (growI_any l.length w ht).mono ?_
      rintro e w1 ⟨v, rfl, hf⟩
      have HF := Lib.hid hf.out
      have hc := cell_mods HC.out hf.out.2.1 (by simp)
      clear hf
      go_wp2_with fail
      go_loopw [6, 8, 27] (fun v u i wr => (i = .int .i64 0 ∧ Hid (FreshI w wr v [])) ∨ (i = .int .i64 1 ∧ Hid (FreshI w wr v l))) (fun _ _ i _ => 1 - (intOf i).toNat)
      case atStart => exact .inl ⟨rfl, HF⟩
      case round =>
        rcases hrel with ⟨rfl, hd⟩ | ⟨rfl, hd⟩
        · have hc := cell_mods HC.out hd.out.2.1 (by simp)
          have HAT := Lib.hid (show Src wr A (iv l) from fun j u hu => by
            obtain ⟨b', o', e', h'⟩ := HS.out j u hu
            exact ⟨b', o', e', cell_mods h' hd.out.2.1 (by simp)⟩)
          go_wp2_with (at_builtin; refine wpList_append_own2 _ rfl (.tmp 31) (.tmp 32) 29 rfl 3 i (.int .i64 0) Try.underlying29 HI.out.1 HI.out.2.1 HI.out.2.2.1 HI.out.2.2.2 rfl u6 (iv []) rfl hd.out.1 A l.length c (iv l) rfl (iv_length l).symm HAT.out (iv_one l) (by simpa [iv] using ht) ?_; intro v2 w2 HO2 HM2)
          go_roundw
          case rel => exact .inr ⟨by go_num, Lib.hid (hd.out.more (by simpa [iv] using HO2.out) HM2.out.1 HM2.out.2)⟩
          case measure => simp [intOf]
        · go_wp2
          go_ret
          exact ⟨_, rfl, hd⟩
#print axioms concatI_any
end Go.Proofs.Ytgahnediigmihaa
