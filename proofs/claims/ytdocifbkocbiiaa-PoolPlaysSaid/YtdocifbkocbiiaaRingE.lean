/- What slices.Grow, slices.Concat and the ring's Peek answer. -/
import Derived.Test.YtdocifbkocbiiaaRingD
import Derived.Test.YtdocifbkocbiiaaApp
import Derived.Lib.AppendZeros
namespace Go.Proofs.Ytdocifbkocbiiaa
open Go.RowKit
set_option maxRecDepth 10000
set_option linter.unusedVariables false
set_option linter.unusedSimpArgs false

/-- v is a new slice of the bytes l. -/
def Fresh (w w' : World) (v : Value) (l : List Int) : Prop :=
  w'.ownsRow 0 5 1 v l.length (bv l) ∧ Mods [] w w' ∧ ∀ k ∈ v.ownBlock.toList, w.heap.size ≤ k
theorem grow_any (n : Nat) (w : World) (h : n ≤ 65536) :
    Calls Try.prog 29 #[.slice none 0 0, .int .i64 n] w fun e w' => ∃ v, e = .returned v ∧ Hid (Fresh w w' v []) := by
  obtain ⟨i, hi, hz, hs, hb⟩ := info_parts u8_info3
  by_cases h0 : n = 0
  · subst h0
    go_enter Try.func29, Try.ntmps29
    go_wp2
    go_ret
    exact ⟨_, rfl, Lib.hid ⟨World.ownsRow_nil _ _ _ _, Mods.refl _ _, by simp [Value.ownBlock]⟩⟩
  · have hp : 0 < n := by omega
    have hr := fun ty => Lib.run_append_nil_zeros (P := Try.prog) w 39 3 ty 5 i (.int .u8 0) .i64 .i64 Try.underlying39 Try.underlying3 hi hz n hp (by omega) (by omega) (by rw [hb]; omega)
    have hg := grownCap_ge w n 0 5
    have hg2 := grownCap_le_maxLen w n 0 5 (by unfold maxLen; omega)
    obtain ⟨G, hG⟩ : ∃ G, G = grownCap w n 0 5 := ⟨_, rfl⟩
    rw [← hG] at hr hg hg2
    obtain ⟨cs, hcs⟩ : ∃ cs, cs = Builtin.zeroCells (Value.int .u8 0).cells n ++ Builtin.zeroCells (Value.int .u8 0).cells (G - n) := ⟨_, rfl⟩
    have HC := Lib.hid (show cs.size = G * 1 by rw [hcs, Array.size_append, size_zeroCells, size_zeroCells]; simp [Value.cells]; omega)
    rw [← hcs] at hr
    have HM := Lib.hid hg2
    unfold maxLen at hg2
    clear hG hcs h0
    go_enter Try.func29, Try.ntmps29
    go_wp2_with (at_builtin; refine Lib.wpList_append_run _ rfl _ _ _ _ rfl _ _ rfl rfl _ _ (hr _) ?_)
    go_ret
    exact ⟨_, rfl, Lib.hid ⟨World.ownsRow_made w.drew cs G (Nat.zero_le _) HM.out HC.out, ((Mods.refl _ _).drew).alloc _, by simp [Value.ownBlock]⟩⟩
theorem Fresh.more {w w1 w2 : World} {v v' : Value} {l l' : List Int} (h : Fresh w w1 v l) (hw : w2.ownsRow 0 5 1 v' l'.length (bv l')) (hm : Mods v.ownBlock.toList w1 w2) (ht : v'.ownBlock = v.ownBlock ∨ v'.ownBlock = some w1.heap.size) : Fresh w w2 v' l' := by
  refine ⟨hw, h.2.1.trans hm (fun k hk => .inr (h.2.2 k hk)), fun k hk => ?_⟩
  rcases ht with e | e
  · rw [e] at hk; exact h.2.2 k hk
  · rw [e] at hk
    have := h.2.1.size
    simp at hk
    omega
theorem concat_any (w : World) (b : Nat) (rs : List Rw) (hr : RowsAt w [] b rs) (hl : rs.length ≤ 4) (ht : (flatR rs).length ≤ 65536) :
    Calls Try.prog 26 #[.slice (some ⟨b, 0, none⟩) rs.length rs.length] w fun e w' => ∃ v, e = .returned v ∧ Hid (Fresh w w' v (flatR rs)) := by
  obtain ⟨i, hi, hz, hs, hb⟩ := info_parts u8_info3
  have HI := Lib.hid (And.intro hi (And.intro hz (And.intro hs hb)))
  have HR := Lib.hid hr
  have HL : ∀ k, k ≤ rs.length → (flatR (rs.take k)).length ≤ (flatR rs).length := fun k hk => by
    have : flatR rs = flatR (rs.take k) ++ flatR (rs.drop k) := by unfold flatR; rw [← List.flatMap_append, List.take_append_drop]
    rw [this, List.length_append]; omega
  have HT := Lib.hid HL
  clear hi hz hs hb hr HL
  go_enter Try.func26, Try.ntmps26
  go_wp2
  go_loop [3, 5, 11] (fun n u i => ∃ k : Nat, k ≤ rs.length ∧ i = .int .i64 k ∧ n = .int .i64 (flatR (rs.take k)).length) (fun _ _ i => rs.length - (intOf i).toNat)
  case atStart => exact ⟨0, by omega, rfl, by simp [flatR]⟩
  case round =>
    obtain ⟨k, hk, rfl, rfl⟩ := hrel
    have hb1 := HT.out k hk
    by_cases hlt : k < rs.length
    · have c0 := HR.out.cell k rs[k] (List.getElem?_eq_getElem hlt)
      have HSN := Lib.hid (show (flatR (rs.take (k + 1))).length = (flatR (rs.take k)).length + rs[k].l.length by rw [flatR_snoc rs k hlt, List.length_append])
      have hb2 := HT.out (k + 1) (by omega)
      rw [HSN.out] at hb2
      go_wp2
      go_round
      case rel => exact ⟨k + 1, by omega, by go_num, by rw [HSN.out]; go_num⟩
      case measure => simp [intOf]; omega
    · have HK := Lib.hid (show rs.take k = rs from List.take_of_length_le (by omega))
      rw [HK.out]
      go_wp2_with fail
      refine (grow_any (flatR rs).length w ht).mono ?_
      rintro e w1 ⟨v, rfl, hf⟩
      go_wp2_with fail
      go_loopw [6, 8, 27] (fun v u i wr => ∃ k : Nat, k ≤ rs.length ∧ i = .int .i64 k ∧ Hid (Fresh w wr v (flatR (rs.take k)))) (fun _ _ i _ => rs.length - (intOf i).toNat)
      case atStart => exact ⟨0, by omega, rfl, by simpa [flatR] using hf⟩
      case round =>
        obtain ⟨k, hk, rfl, hd⟩ := hrel
        by_cases hlt : k < rs.length
        · have hrk := HR.out.mods hd.out.2.1
          have c0 := hrk.cell k rs[k] (List.getElem?_eq_getElem hlt)
          have HAT := Lib.hid (hrk.at_ rs[k] (List.getElem_mem hlt)).1
          have hb2 := HT.out (k + 1) (by omega)
          have HSN := Lib.hid (flatR_snoc rs k hlt)
          have HB2 := Lib.hid (show (flatR (rs.take k)).length + rs[k].l.length ≤ 1000000000 by rw [HSN.out, List.length_append] at hb2; omega)
          clear hb2 hb1
          go_wp2_with (at_builtin; refine wpList_append_bytes _ rfl (.tmp 31) (.tmp 32) 39 rfl 5 i (.int .u8 0) Try.underlying39 HI.out.1 HI.out.2.1 HI.out.2.2.1 HI.out.2.2.2 rfl u6 (flatR (rs.take k)).length (flatR (rs.take k)) rfl hd.out.1 [] rs[k].A rs[k].l.length rs[k].c rs[k].l rfl rfl HAT.out HB2.out ?_; intro v2 w2 HO2 HM2)
          go_roundw
          case rel => exact ⟨k + 1, by omega, by go_num, Lib.hid (by rw [HSN.out]; exact hd.out.more (by rw [List.length_append]; exact HO2.out) HM2.out.1 HM2.out.2)⟩
          case measure => simp [intOf]; omega
        · have HK := Lib.hid (show rs.take k = rs from List.take_of_length_le (by omega))
          rw [HK.out] at hd
          go_wp2
          go_ret
          exact ⟨_, rfl, hd⟩
theorem peek_any (w : World) (g m N : Nat) (n : Int) (L : List Int) (h : RingA w g m N L) :
    Calls Try.prog 18 #[.pointer (some ⟨g, 0, none⟩), .int .i64 n] w fun e w' => ∃ v, e = .returned v ∧ Hid (Fresh w w' v (L.take (clamp n L.length))) := by
  obtain ⟨f, cs, h⟩ := h
  have hn := eql_nil
  have HM := Lib.hid (atMost_any w g m N f n L cs h)
  have hle := clamp_le n L.length
  obtain ⟨q, hq⟩ : ∃ q, q = clamp n L.length := ⟨_, rfl⟩
  rw [← hq] at HM hle ⊢
  have hcn := h.count
  have HS := Lib.hid (span_any w g m N f 0 q L cs h (Nat.zero_le _) (by omega))
  rw [pl_zero h.first] at HS
  obtain ⟨k, hk⟩ : ∃ k, k = min q (N - f) := ⟨_, rfl⟩
  have HP := Lib.hid (ring_parts h hle hk)
  rw [← hk] at HS
  have HN := Lib.hid (show N ≤ 65536 from h.hi)
  have k1 : k ≤ q := by omega
  have k2 : k ≤ N - f := by omega
  have HQ := Lib.hid (And.intro hcn hle)
  clear h hk hq hcn
  go_enter Try.func18, Try.ntmps18
  go_wp2_with fail
  refine HM.out.mono ?_
  rintro e w' ⟨rfl, rfl⟩
  go_wp2_with fail
  refine HS.out.mono ?_
  rintro e w' ⟨rfl, p, rfl⟩
  go_wp2_with fail
  have HAt := Lib.hid (show RowsAt ((w.drewN p).alloc (.cells #[.slice (some ⟨m, f, none⟩) k (N - f), .slice (some ⟨m, 0, none⟩) (q - k) N] 39)) [] w.heap.size [⟨some ⟨m, f, none⟩, L.take k, N - f⟩, ⟨some ⟨m, 0, none⟩, (L.take q).drop k, N⟩] from by
    have hm : Mods [] w ((w.drewN p).alloc (.cells #[.slice (some ⟨m, f, none⟩) k (N - f), .slice (some ⟨m, 0, none⟩) (q - k) N] 39)) := ((Mods.refl _ _).drewN p).alloc _
    have hq := HQ.out
    have hN := HN.out
    have l1 : (L.take k).length = k := by rw [List.length_take]; omega
    have l2 : ((L.take q).drop k).length = q - k := by rw [List.length_drop, List.length_take]; omega
    refine ⟨by simp, by simp, fun i r hr => ?_, fun r hr => ?_⟩
    · have hrow := Row.new (w.drewN p) 39 #[.slice (some ⟨m, f, none⟩) k (N - f), .slice (some ⟨m, 0, none⟩) (q - k) N]
      match i, hr with
      | 0, hr => injection hr with hr; subst hr; rw [l1]; exact hrow.cell 0
      | 1, hr => injection hr with hr; subst hr; rw [l2]; exact hrow.cell 1
    · simp only [List.mem_cons, List.mem_nil_iff, or_false] at hr
      unfold maxLen
      rcases hr with rfl | rfl
      · exact ⟨HP.out.1.mods hm, by show (L.take k).length ≤ N - f; omega, by show N - f ≤ _; omega⟩
      · exact ⟨HP.out.2.mods hm, by show ((L.take q).drop k).length ≤ N; omega, by show N ≤ _; omega⟩)
  have HFl := Lib.hid (show flatR [⟨some ⟨m, f, none⟩, L.take k, N - f⟩, ⟨some ⟨m, 0, none⟩, (L.take q).drop k, N⟩] = L.take q by
    simp only [flatR, List.flatMap_cons, List.flatMap_nil, List.append_nil]
    rw [show L.take k = (L.take q).take k by rw [List.take_take, Nat.min_eq_left k1], List.take_append_drop])
  refine (concat_any _ w.heap.size _ HAt.out (by simp) (by rw [HFl.out, List.length_take]; have := HQ.out; have := HN.out; omega)).mono ?_
  rw [HFl.out]
  rintro e w' ⟨v, rfl, hd⟩
  go_wp2
  go_ret
  exact ⟨_, rfl, Lib.hid ⟨hd.out.1, (((Mods.refl _ _).drewN p).alloc _).trans hd.out.2.1 (by simp), fun k hk => by have := hd.out.2.2 k hk; simp at this; omega⟩⟩
theorem peek_nil (w : World) (n : Int) : Calls Try.prog 18 #[.pointer none, .int .i64 n] w fun e w' => e = .returned (.slice none 0 0) ∧ w = w' := by
  have hn := eql_nil
  go_enter Try.func18, Try.ntmps18
  go_wp2
  go_ret
  exact ⟨rfl, rfl⟩
end Go.Proofs.Ytdocifbkocbiiaa
