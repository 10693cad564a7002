/- What the laws' ints, known answer. -/
import Derived.Test.YtgahnediigmihaaOutE
import Derived.Test.YtgahnediigmihaaHlp
namespace Go.Proofs.Ytgahnediigmihaa
open Go.RowKit
set_option maxRecDepth 10000
set_option linter.unusedVariables false
set_option linter.unusedSimpArgs false

theorem ints_any (w : World) (A B : Option Addr) (la lb : List Int) (n m ca cb : Nat) (hn : n = la.length) (hm : m = lb.length) (ha : Src w A (iv la)) (hb : Src w B (iv lb)) (hl : la.length ≤ 1000000000) :
    Calls Try.prog 16 #[.slice A n ca, .slice B m cb] w fun e w' => e = .returned (.bool (decide (la = lb))) ∧ ∃ q, w' = w.drewN q := by
  subst hn hm
  by_cases hlen : la.length = lb.length
  · have hB : ((la.length : Int) != (lb.length : Int)) = false := by simp [hlen]
    have hz : la.length ≤ lb.length := by omega
    have HZ := Lib.hid hlen
    have HA := Lib.hid ha
    have HB := Lib.hid hb
    clear hlen ha hb
    go_enter Try.func16, Try.ntmps16
    go_wp2
    go_loopw [5] (fun i wr => ∃ k : Nat, k ≤ la.length ∧ i = .int .i64 k ∧ Hid (∃ q, wr = w.drewN q) ∧ Hid (∀ j, j < k → la[j]? = lb[j]?)) (fun i _ => la.length - (intOf i).toNat)
    case atStart => exact ⟨0, Nat.zero_le _, rfl, Lib.hid ⟨0, rfl⟩, Lib.hid fun j hj => by omega⟩
    case round =>
      obtain ⟨k, hk, rfl, hq, hall⟩ := hrel
      obtain ⟨q, rfl⟩ := hq.out
      by_cases hlt : k < la.length
      · have hltb : k < lb.length := by omega
        obtain ⟨b, o, rfl, c1⟩ := HA.out k (.int .i64 la[k]) ((iv_at _ _ _).2 ⟨_, List.getElem?_eq_getElem hlt, rfl⟩)
        obtain ⟨b', o', rfl, c2⟩ := HB.out k (.int .i64 lb[k]) ((iv_at _ _ _).2 ⟨_, List.getElem?_eq_getElem hltb, rfl⟩)
        by_cases he : la[k] = lb[k]
        · have HE := Lib.hid he
          have h1 : ((la[k] : Int) != lb[k]) = false := by simp [he]
          obtain ⟨x, hx⟩ : ∃ x, x = la[k] := ⟨_, rfl⟩
          obtain ⟨y, hy⟩ : ∃ y, y = lb[k] := ⟨_, rfl⟩
          rw [← hx] at c1 h1
          rw [← hy] at c2 h1
          clear he hx hy hq
          go_wp2
          go_quiet (fail)
          go_wp2
          go_roundw
          case rel =>
            refine ⟨k + 1, by omega, by go_num, Lib.hid ⟨_, rfl⟩, Lib.hid fun j hj => ?_⟩
            by_cases e : j = k
            · subst e; rw [List.getElem?_eq_getElem hlt, List.getElem?_eq_getElem hltb, HE.out]
            · exact hall.out j (by omega)
          case measure => simp [intOf]; omega
        · have HE := Lib.hid (show decide (la = lb) = false by rw [decide_eq_false_iff_not]; rintro rfl; exact he rfl)
          have h1 : ((la[k] : Int) != lb[k]) = true := by simp [he]
          obtain ⟨x, hx⟩ : ∃ x, x = la[k] := ⟨_, rfl⟩
          obtain ⟨y, hy⟩ : ∃ y, y = lb[k] := ⟨_, rfl⟩
          rw [← hx] at c1 h1
          rw [← hy] at c2 h1
          clear he hx hy hq
          go_wp2
          go_quiet (fail)
          go_wp2
          go_ret
          exact ⟨ret_bool HE.out.symm, by first | exact ⟨_, rfl⟩ | exact ⟨_, World.drewN_drewN ..⟩⟩
      · have HE := Lib.hid (show decide (la = lb) = true by
          rw [decide_eq_true_iff]
          apply List.ext_getElem?
          intro j
          by_cases hj : j < k
          · exact hall.out j hj
          · rw [List.getElem?_eq_none (by omega), List.getElem?_eq_none (by have := HZ.out; omega)])
        go_wp2
        go_ret
        exact ⟨ret_bool HE.out.symm, _, rfl⟩
  · have hB : ((la.length : Int) != (lb.length : Int)) = true := by simp; omega
    have HE := Lib.hid (show decide (la = lb) = false by rw [decide_eq_false_iff_not]; rintro rfl; exact hlen rfl)
    clear hlen
    go_enter Try.func16, Try.ntmps16
    go_wp2
    go_ret
    exact ⟨ret_bool HE.out.symm, 0, rfl⟩
theorem ints_yes (w : World) (A B : Option Addr) (l : List Int) (n m ca cb : Nat) (hn : n = l.length) (hm : m = l.length) (ha : Src w A (iv l)) (hb : Src w B (iv l)) (hl : l.length ≤ 1000000000) :
    Calls Try.prog 16 #[.slice A n ca, .slice B m cb] w fun e w' => e = .returned (.bool true) ∧ Mods [] w w' :=
  (ints_any w A B l l n m ca cb hn hm ha hb hl).mono fun e w' ⟨he, q, hq⟩ => ⟨he.trans (ret_bool (by simp)), by rw [hq]; exact (Mods.refl _ _).drewN q⟩
theorem Src.nums (w : World) (t : TypeId) (l : List Int) : Src (w.alloc (.cells (iv l).toArray t)) (some ⟨w.heap.size, 0, none⟩) (iv l) := fun j u hu =>
  ⟨w.heap.size, 0, rfl, by rw [Nat.zero_add, (Row.new w t _).cell j, List.getElem?_toArray]; exact hu⟩
theorem known_any (w : World) : Calls Try.prog 9 #[] w fun e w' => e = .returned (.bool true) ∧ Mods [] w w' := by
  have hn := eql_qnil
  go_enter Try.func9, Try.ntmps9
  go_wp2_with fail
  refine (qnew_any w).mono ?_
  rintro e w1 ⟨rfl, hq, hm⟩
  have Q1 := Lib.hid hq
  have M1 := Lib.hid hm
  have L1 := Lib.hid (show w.heap.size < w1.heap.size from hq.lt _ (by simp))
  clear hq hm
  have k1 := conv_u8 w1 #[.int .u8 97, .int .u8 98] 2 2 _ rfl
  have k2 := conv_u8 (w1.alloc (.cells #[.int .u8 97, .int .u8 98] 5 (2, 3))) #[.int .u8 99] 1 1 (w1.heap.size + 1) (by simp)
  have HW := Lib.hid (show Rw.Ok ((w1.alloc (.cells #[.int .u8 97, .int .u8 98] 5 (2, 3))).alloc (.cells #[.int .u8 99] 5 (1, 2))) [w.heap.size] ⟨some ⟨w1.heap.size, 0, none⟩, [97, 98], 2⟩ ∧
      Rw.Ok ((w1.alloc (.cells #[.int .u8 97, .int .u8 98] 5 (2, 3))).alloc (.cells #[.int .u8 99] 5 (1, 2))) [w.heap.size] ⟨some ⟨w1.heap.size + 1, 0, none⟩, [99], 1⟩ from by
    have h1 := L1.out
    refine ⟨(rw_litm w1 _ [97, 98] w1.heap.size 2 (2, 3) rfl rfl ?_ (by simp) (by decide)).mods ((Mods.refl _ _).alloc _), rw_litm _ _ [99] (w1.heap.size + 1) 1 (1, 2) (by simp) rfl ?_ (by simp) (by decide)⟩
    · simp; omega
    · simp; omega)
  go_wp2_with fail
  refine (add_as _ w.heap.size [w.heap.size] [] [] [97, 98, 99] [3] 0 0 _ 2 2 [⟨some ⟨w1.heap.size, 0, none⟩, [97, 98], 2⟩, ⟨some ⟨w1.heap.size + 1, 0, none⟩, [99], 1⟩] 1 (Q1.out.quiet ((((Mods.refl [] _).alloc _).alloc _).alloc _)) (Parts.of_rows (rows_two (b := w1.heap.size + 1 + 1) _ _ (by simp) HW.out.1 HW.out.2 (by have := L1.out; simp; omega))) rfl (by unfold maxLen; omega) rfl rfl rfl (by decide) (by decide)).mono ?_
  rintro e w2 ⟨rfl, hd⟩
  obtain ⟨F2, q2, m2, n2⟩ := hd.out
  have Q2 := Lib.hid q2
  have M2 := Lib.hid (show Mods [] w w2 from ((((M1.out).alloc _).alloc _).alloc _).trans m2 (by simp))
  have G2 := Lib.hid (show ∀ k ∈ F2, w.heap.size ≤ k ∧ k < w2.heap.size from fun k hk => ⟨by
    rcases n2 k hk with h | h
    · simp at h; omega
    · have := M1.out.size; simp at h; omega, q2.lt k hk⟩)
  clear hd q2 m2 n2 k1 k2 HW
  go_wp2_with fail
  refine (add_as w2 w.heap.size F2 [97, 98, 99] [3] [97, 98, 99] [3, 3] 0 0 none 0 0 [] 2 Q2.out (Parts.nil _ _ _) rfl (by unfold maxLen; omega) rfl rfl rfl (by decide) (by decide)).mono ?_
  rintro e w3 ⟨rfl, hd⟩
  obtain ⟨F3, q3, m3, n3⟩ := hd.out
  have Q3 := Lib.hid q3
  have M3 := Lib.hid (show Mods [] w w3 from M2.out.trans m3 (fun k hk => .inr (G2.out k hk).1))
  have G3 := Lib.hid (show ∀ k ∈ F3, w.heap.size ≤ k ∧ k < w3.heap.size from fun k hk => ⟨by
    rcases n3 k hk with h | h
    · exact (G2.out k h).1
    · have := M2.out.size; omega, q3.lt k hk⟩)
  clear hd q3 m3 n3
  have k3 := conv_u8 w3 #[.int .u8 100] 1 1 _ rfl
  have HW := Lib.hid (show Rw.Ok (w3.alloc (.cells #[.int .u8 100] 5 (1, 2))) F3 ⟨some ⟨w3.heap.size, 0, none⟩, [100], 1⟩ from
    rw_litm w3 _ [100] w3.heap.size 1 (1, 2) rfl rfl (fun h => by have := (G3.out _ h).2; omega) (by simp) (by decide))
  go_wp2_with fail
  refine (add_as _ w.heap.size F3 [97, 98, 99] [3, 3] [97, 98, 99, 100] [3, 3, 4] 0 0 _ 1 1 [⟨some ⟨w3.heap.size, 0, none⟩, [100], 1⟩] 3 (Q3.out.quiet (((Mods.refl [] _).alloc _).alloc _)) (Parts.of_rows (rows_one (b := w3.heap.size + 1) _ (by simp) HW.out (fun h => by have := (G3.out _ h).2; omega))) rfl (by unfold maxLen; omega) rfl rfl rfl (by decide) (by decide)).mono ?_
  rintro e w4 ⟨rfl, hd⟩
  obtain ⟨F4, q4, m4, n4⟩ := hd.out
  have Q4 := Lib.hid q4
  have M4 := Lib.hid (show Mods [] w w4 from ((M3.out.alloc _).alloc _).trans m4 (fun k hk => .inr (G3.out k hk).1))
  have G4 := Lib.hid (show ∀ k ∈ F4, w.heap.size ≤ k from fun k hk => by
    rcases n4 k hk with h | h
    · exact (G3.out k h).1
    · have := M3.out.size; simp at h; omega)
  clear hd q4 m4 n4 k3 HW
  go_wp2_with fail
  refine (done_as w4 w.heap.size 3 2 3 F4 [97, 98, 99, 100] [3, 3, 4] [100] [4] [1, 2] 0 0 3 2 Q4.out rfl rfl rfl rfl rfl rfl rfl).mono ?_
  rintro e w5 ⟨A5, c5, rfl, hd⟩
  obtain ⟨⟨F5, q5, m5, n5, o5, b5⟩, -, h51, h52⟩ := hd.out
  have Q5 := Lib.hid q5
  have M5 := Lib.hid (show Mods [] w w5 from M4.out.trans m5 (fun k hk => .inr (G4.out k hk)))
  have O5 := Lib.hid o5
  clear hd q5 m5 n5 o5 b5
  go_wp2_with fail
  refine (ints_yes _ A5 (some ⟨w5.heap.size, 0, none⟩) [1, 2] 2 2 c5 2 rfl rfl ((O5.out.alloc _).src) (Src.nums w5 _ [1, 2]) (by decide)).mono ?_
  rintro e w6 ⟨rfl, hm⟩
  have M6 := Lib.hid (show Mods [] w5 w6 from ((Mods.refl _ _).alloc _).trans hm (by simp))
  clear hm
  go_wp2_with fail
  refine (left_as w6 w.heap.size 1 F5 [100] [4] [3] 3 2 (Q5.out.quiet M6.out) rfl rfl).mono ?_
  rintro e w7 ⟨A7, c7, rfl, hd⟩
  have M7 := Lib.hid (show Mods [] w5 w7 from M6.out.trans hd.out.mods (by simp))
  have N7 := Lib.hid hd.out
  clear hd
  go_wp2_with fail
  refine (ints_yes _ A7 (some ⟨w7.heap.size, 0, none⟩) [3] 1 1 c7 1 rfl rfl (N7.out.src ((Mods.refl _ _).alloc _)) (Src.nums w7 _ [3]) (by decide)).mono ?_
  rintro e w8 ⟨rfl, hm⟩
  have M8 := Lib.hid (show Mods [] w5 w8 from (M7.out.alloc _).trans hm (by simp))
  clear hm
  go_wp2_with fail
  refine (next_as w8 w.heap.size 1 5 F5 [100] [4] [100] 3 2 (Q5.out.quiet M8.out) rfl rfl).mono ?_
  rintro e w9 ⟨A9, c9, rfl, hd⟩
  have N9 := Lib.hid hd.out
  have M9 := Lib.hid (show Mods [] w5 w9 from M8.out.trans hd.out.mods (by simp))
  clear hd
  have k9 := conv_u8 w9 #[.int .u8 100] 1 1 _ rfl
  go_wp2_with fail
  refine (same_yes _ A9 (some ⟨w9.heap.size, 0, none⟩) [100] 1 1 c9 1 rfl rfl (N9.out.at0 ((Mods.refl _ _).alloc _)) (rw_litm w9 [] [100] w9.heap.size 1 (1, 2) rfl rfl (by simp) (by simp) (by decide)).1 (by decide)).mono ?_
  rintro e w10 ⟨rfl, hm⟩
  have M10 := Lib.hid (show Mods [] w w10 from ((M5.out.trans M9.out (by simp)).alloc _).trans hm (by simp))
  clear hm k9
  go_wp2
  go_ret
  exact ⟨rfl, M10.out⟩
#print axioms known_any
end Go.Proofs.Ytgahnediigmihaa
