/- What spoil of stage 7's law does to a slice that may begin inside its row; both nets behind the program's Read. -/
import Derived.Test.YtogcfeplfclobaaDo1
namespace Go.Proofs.Ytogcfeplfclobaa
open Go.RowKit
set_option maxRecDepth 10000
set_option linter.unusedVariables false
set_option linter.unusedSimpArgs false

theorem spoil_own (w : World) (v : Value) (xs : List Int) (ho : Own w 5 v (bv xs)) (hl : xs.length ≤ 100000000) :
    Calls Try.prog 39 #[v] w fun e w' => e = .returned (.tuple #[]) ∧ Mods v.ownBlock.toList w w' := by
  obtain ⟨i, hi, hz, hs, hb⟩ := info_parts u8_info3
  obtain ⟨A, n, c, rfl, hn, hc1, hc2⟩ := ho.slice'
  rw [bv_length] at hn
  subst hn
  have HI := Lib.hid (And.intro hi (And.intro hz (And.intro hs (show i.bytes ≤ 8 by omega))))
  have HO := Lib.hid ho
  clear hi hz hs hb ho
  go_enter Try.func39, Try.ntmps39
  go_wp2_with (at_builtin; refine wpList_append_own2 _ rfl (.tmp 4) (.tmp 5) 33 rfl 5 i (.int .u8 0) Try.underlying33 HI.out.1 HI.out.2.1 HI.out.2.2.1 HI.out.2.2.2 rfl (.slice A xs.length c) (bv xs) rfl (HO.out.alloc _) (some ⟨w.heap.size, 0, none⟩) 1 1 [.int .u8 99] rfl rfl (Src.one w _ _) (by simp [Value.oneCell']) (by rw [bv_length]; omega) ?_; intro v1 w1 HO1 HM1; obtain ⟨A1, n1, c1, rfl, hn1, hcc1, hm1⟩ := HO1.out.slice'; have hn2 : n1 = xs.length + 1 := (by rw [hn1, List.length_append, bv_length]; rfl); clear hn1; subst hn2; obtain ⟨b1, o1, rfl, -⟩ := HO1.out.src xs.length (.int .u8 99) (by rw [List.getElem?_append_right (by rw [bv_length]; exact Nat.le_refl _), bv_length, Nat.sub_self]; rfl))
  unfold maxLen at hm1
  go_loopw [3] (fun i wr => ∃ k : Nat, k ≤ xs.length + 1 ∧ i = .int .i64 k ∧ Hid (∃ ys : List Value, ys.length = xs.length + 1 ∧ Own wr 5 (.slice (some ⟨b1, o1, none⟩) (xs.length + 1) c1) ys) ∧ Hid (Mods (Value.slice A xs.length c).ownBlock.toList w wr)) (fun i _ => xs.length + 1 - (intOf i).toNat)
  case atStart => exact ⟨0, Nat.zero_le _, rfl, Lib.hid ⟨_, by rw [List.length_append, bv_length]; rfl, HO1.out⟩, Lib.hid (((Mods.refl _ _).alloc _).trans HM1.out.1 (fun k hk => .inl hk))⟩
  case round =>
    obtain ⟨k, hk, rfl, hd, hmm⟩ := hrel
    obtain ⟨ys, hyl, hy⟩ := hd.out
    by_cases hlt : k < xs.length + 1
    · have hfr := hy.free b1 o1 rfl (o1 + k)
      obtain ⟨u, hce⟩ : ∃ u, wr.cell? ⟨b1, o1 + k, none⟩ = some u := by
        obtain ⟨b', o', e, hc⟩ := hy.src k (ys[k]'(by omega)) (List.getElem?_eq_getElem _)
        cases e
        exact ⟨_, hc⟩
      have HY := Lib.hid hy
      have HYL := Lib.hid hyl
      clear hy hyl
      go_wp2
      go_roundw
      case rel =>
        refine ⟨k + 1, by omega, by go_num, Lib.hid ⟨_, by rw [List.length_set]; exact HYL.out, HY.out.set _ (by rw [HYL.out]; omega)⟩, Lib.hid (hmm.out.setCell ?_ _)⟩
        rcases HM1.out.2 with e | e
        · left
          have : b1 ∈ (Value.slice (some ⟨b1, o1, none⟩) (xs.length + 1) c1).ownBlock.toList := by simp [Value.ownBlock]
          rw [e] at this; exact this
        · right
          have : b1 = (w.alloc (.cells #[.int .u8 99] 5)).heap.size := by simpa [Value.ownBlock] using e
          simp at this
          show w.heap.size ≤ b1
          omega
      case measure => simp [intOf]; omega
    · go_wp2
      go_end0
      exact ⟨rfl, hmm.out⟩
/-- The program's net has read: the answer lies in blocks of its own. -/
theorem Both.netGet {W w w' : World} {g x m n m' : Nat} {F G K : List Nat} {S S' T : Nt} {v : Value} {l : List Int} (h : Both W w g x F G S T m n K) (hn : NetGet w w' g F S' m' v l) :
    Two W w' g x S' T m' n (K ++ v.ownBlock.toList) ∧ KeepK K w w' ∧ Own w' 5 v (bv l) ∧ (∀ b ∈ v.ownBlock.toList, w.heap.size ≤ b) ∧ ∀ y ∈ l, 0 ≤ y ∧ y ≤ 255 := by
  obtain ⟨F', h1, h2, h3, h4, h5, h6⟩ := hn
  refine ⟨⟨F', G, h1, h.ref.mods h2 fun k hk h7 => (h.f k h7).2.2 hk, h.mods.trans h2 fun k hk => .inr (h.f k hk).1, fun k hk => ?_, fun k hk => ⟨(h.g k hk).1, fun h7 => ?_⟩, fun k hk => ?_⟩, fun k hk => h2.block k (h.k k hk) fun h7 => (h.f k h7).2.1 hk, h4, fun b hb => (h5 b hb).1, h6⟩
  · have hh : W.heap.size ≤ k ∧ k ∉ K ∧ k ∉ G := by
      rcases h3 k hk with h7 | h7
      · exact h.f k h7
      · exact ⟨Nat.le_trans h.mods.size h7, fun h8 => by have := h.k k h8; omega, fun h8 => by have := h.ref.lt k h8; omega⟩
    refine ⟨hh.1, fun h8 => ?_, hh.2.2⟩
    rcases List.mem_append.1 h8 with h9 | h9
    · exact hh.2.1 h9
    · exact (h5 k h9).2 hk
  · rcases List.mem_append.1 h7 with h9 | h9
    · exact (h.g k hk).2 h9
    · have := h.ref.lt k hk; have := (h5 k h9).1; omega
  · rcases List.mem_append.1 hk with h9 | h9
    · exact Nat.lt_of_lt_of_le (h.k k h9) h2.size
    · exact h4.lt k h9
end Go.Proofs.Ytogcfeplfclobaa
