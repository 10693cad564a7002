/- What stood of stage 7's law answers. -/
import Derived.Test.YtogcfeplfclobaaTw
import Derived.Test.YtogcfeplfclobaaHe7
import Derived.Test.YtogcfeplfclobaaRg
import Derived.Test.YtogcfeplfclobaaRf
import Derived.Test.YtogcfeplfclobaaRe
namespace Go.Proofs.Ytogcfeplfclobaa
open Go.RowKit
set_option maxRecDepth 10000
set_option linter.unusedVariables false
set_option linter.unusedSimpArgs false

theorem Fresh.see {w w' : World} {v : Value} {l : List Int} (h : Fresh w w' v l) (hr : ∀ y ∈ l, 0 ≤ y ∧ y ≤ 255) : ∃ A n cp, v = .slice A n cp ∧ n = l.length ∧ At w' [] A l := by
  obtain ⟨A, n, cp, rfl, hn, hc1, hc2⟩ := (Own.of_row h.1).slice'
  rw [bv_length] at hn
  exact ⟨A, n, cp, rfl, hn, At.of_own2 (Own.of_row h.1) (by simp) hr⟩
theorem Nt.Ok.tak_len {S : Nt} {m : Nat} (h : S.Ok m) (c : Int) : (S.get c).tak.length ≤ 1000000000 ∧ (S.get c).out.length ≤ 1000000000 := by
  have hm := h.mm
  cases hs : S.at? c with
  | none => rw [Nt.get_none hs]; simp [none_, Cn.new]
  | some s =>
    rw [Nt.get_some hs]
    obtain ⟨j, rfl, h1, h2⟩ := Nt.at_some hs
    have := h.at_ h1
    omega
set_option maxHeartbeats 2000000 in
theorem stood_any (w : World) (g x m n : Nat) (F G : List Nat) (S : Nt) (c : Int) (h : NetA w g F S m) (h2 : RefA w x G S n) :
    Calls Try.prog 14 #[.pointer (some ⟨g, 0, none⟩), .pointer (some ⟨x, 0, none⟩), .int .i64 c] w fun e w' => e = .returned (.bool true) ∧ Hid (Mods [] w w') := by
  obtain ⟨a1, ha1⟩ : ∃ a, S.readyR c = a := ⟨_, rfl⟩
  obtain ⟨a2, ha2⟩ : ∃ a, S.readyW c = a := ⟨_, rfl⟩
  obtain ⟨r1, hr1⟩ : ∃ a, S.markR c = a := ⟨_, rfl⟩
  obtain ⟨r2, hr2⟩ : ∃ a, S.markW c = a := ⟨_, rfl⟩
  obtain ⟨B1, hB1⟩ : ∃ a, S.gotB c = a := ⟨_, rfl⟩
  obtain ⟨b1, hb1⟩ : ∃ a, S.gotE c = a := ⟨_, rfl⟩
  obtain ⟨B2, hB2⟩ : ∃ a, S.taken c = a := ⟨_, rfl⟩
  obtain ⟨s1, hs1⟩ : ∃ a, S.stW c = a := ⟨_, rfl⟩
  obtain ⟨s2, hs2⟩ : ∃ a, (S.get c).opn = a := ⟨_, rfl⟩
  obtain ⟨s3, hs3⟩ : ∃ a, (S.get c).brk = a := ⟨_, rfl⟩
  obtain ⟨s4, hs4⟩ : ∃ a, (S.get c).peer = a := ⟨_, rfl⟩
  have HL1 := Lib.hid (show B1.length ≤ 1000000000 by rw [← hB1]; exact (h.ok.tak_len c).2)
  have HL2 := Lib.hid (show B2.length ≤ 1000000000 by rw [← hB2]; exact (h.ok.tak_len c).1)
  have C1 := Lib.hid (show ∀ w1, Mods [] w w1 → Calls Try.prog 28 #[.pointer (some ⟨g, 0, none⟩), .int .i64 c] w1 fun e w' => e = .returned (.tuple #[.bool a1, .bool a2]) ∧ Hid (Mods [] w w') from fun w1 hm => (ready_any w1 g m F S c (h.quiet hm)).mono fun e w' ⟨he, q, hq⟩ => ⟨by rw [he, ha1, ha2], Lib.hid (by rw [hq]; exact hm.drewN q)⟩)
  have C2 := Lib.hid (show ∀ w1, Mods [] w w1 → Calls Try.prog 49 #[.pointer (some ⟨x, 0, none⟩), .int .i64 c] w1 fun e w' => e = .returned (.tuple #[.bool a1, .bool a2]) ∧ Hid (Mods [] w w') from fun w1 hm => (rready_any w1 x n G S c (h2.quiet hm)).mono fun e w' ⟨he, q, hq⟩ => ⟨by rw [he, ha1, ha2], Lib.hid (by rw [hq]; exact hm.drewN q)⟩)
  have C3 := Lib.hid (show ∀ w1, Mods [] w w1 → Calls Try.prog 29 #[.pointer (some ⟨g, 0, none⟩), .int .i64 c] w1 fun e w' => e = .returned (.tuple #[.int .i64 r1, .int .i64 r2]) ∧ Hid (Mods [] w w') from fun w1 hm => (marks_any w1 g m F S c (h.quiet hm)).mono fun e w' ⟨he, q, hq⟩ => ⟨by rw [he, hr1, hr2], Lib.hid (by rw [hq]; exact hm.drewN q)⟩)
  have C4 := Lib.hid (show ∀ w1, Mods [] w w1 → Calls Try.prog 50 #[.pointer (some ⟨x, 0, none⟩), .int .i64 c] w1 fun e w' => e = .returned (.tuple #[.int .i64 r1, .int .i64 r2]) ∧ Hid (Mods [] w w') from fun w1 hm => (rmarks_any w1 x n G S c (h2.quiet hm)).mono fun e w' ⟨he, q, hq⟩ => ⟨by rw [he, hr1, hr2], Lib.hid (by rw [hq]; exact hm.drewN q)⟩)
  have C5 := Lib.hid (show ∀ w1, Mods [] w w1 → Calls Try.prog 23 #[.pointer (some ⟨g, 0, none⟩), .int .i64 c] w1 fun e w' => ∃ A k cp, e = .returned (.tuple #[.slice A k cp, .bool b1]) ∧ Hid (Mods [] w w' ∧ k = B1.length ∧ At w' [] A B1) from fun w1 hm => (got_any w1 g m F S c (h.quiet hm)).mono fun e w' ⟨v, he, hd⟩ => by
    obtain ⟨A, k, cp, rfl, hk, hA⟩ := hd.out.see (h.rngO c 2)
    exact ⟨A, k, cp, by rw [he, hb1], Lib.hid ⟨hm.trans hd.out.2.1 (by simp), by rw [hk, hB1], by rw [← hB1]; exact hA⟩⟩)
  have C6 := Lib.hid (show ∀ w1, Mods [] w w1 → Calls Try.prog 51 #[.pointer (some ⟨x, 0, none⟩), .int .i64 c] w1 fun e w' => ∃ A k cp, e = .returned (.tuple #[.slice A k cp, .bool b1]) ∧ Hid (Mods [] w w' ∧ Mods [] w1 w' ∧ k = B1.length ∧ At w' [] A B1) from fun w1 hm => (rgot_any w1 x n G S c (h2.quiet hm)).mono fun e w' ⟨v, he, hd⟩ => by
    obtain ⟨⟨q, hq⟩, A, k, cp, rfl, hk, hA⟩ := hd.out
    refine ⟨A, k, cp, by rw [he, hb1], Lib.hid ⟨?_, ?_, by rw [hk, hB1], ?_⟩⟩
    · rw [hq]; exact hm.drewN q
    · rw [hq]; exact (Mods.refl [] w1).drewN q
    · rw [hq, ← hB1]; exact hA.mods ((Mods.refl [] w1).drewN q))
  have C7 := Lib.hid (show ∀ w1, Mods [] w w1 → Calls Try.prog 25 #[.pointer (some ⟨g, 0, none⟩), .int .i64 c] w1 fun e w' => ∃ A k cp, e = .returned (.slice A k cp) ∧ Hid (Mods [] w w' ∧ Mods [] w1 w' ∧ k = B2.length ∧ At w' [] A B2) from fun w1 hm => (taken_any w1 g m F S c (h.quiet hm)).mono fun e w' ⟨v, he, hd⟩ => by
    obtain ⟨A, k, cp, rfl, hk, hA⟩ := hd.out.see (h.rngO c 1)
    exact ⟨A, k, cp, he, Lib.hid ⟨hm.trans hd.out.2.1 (by simp), hd.out.2.1, by rw [hk, hB2], by rw [← hB2]; exact hA⟩⟩)
  have C8 := Lib.hid (show ∀ w1, Mods [] w w1 → Calls Try.prog 53 #[.pointer (some ⟨x, 0, none⟩), .int .i64 c] w1 fun e w' => ∃ A k cp, e = .returned (.slice A k cp) ∧ Hid (Mods [] w w' ∧ Mods [] w1 w' ∧ k = B2.length ∧ At w' [] A B2) from fun w1 hm => (bytes_any w1 x n G S c (h2.quiet hm)).mono fun e w' ⟨v, he, hd⟩ => by
    obtain ⟨⟨q, hq⟩, A, k, cp, rfl, hk, hA⟩ := hd.out
    refine ⟨A, k, cp, he, Lib.hid ⟨?_, ?_, by rw [hk, hB2], ?_⟩⟩
    · rw [hq]; exact hm.drewN q
    · rw [hq]; exact (Mods.refl [] w1).drewN q
    · rw [hq, ← hB2]; exact hA.mods ((Mods.refl [] w1).drewN q))
  have C9 := Lib.hid (show ∀ w1, Mods [] w w1 → Calls Try.prog 34 #[.pointer (some ⟨g, 0, none⟩), .int .i64 c] w1 fun e w' => e = .returned (.agg #[.bool s1, .bool s2, .bool s3, .int .i64 s4]) ∧ Hid (Mods [] w w' ∧ Mods [] w1 w') from fun w1 hm => (state_any w1 g m F S c (h.quiet hm)).mono fun e w' ⟨he, hq⟩ => ⟨by rw [he, hs1, hs2, hs3, hs4], Lib.hid ⟨hm.trans hq (by simp), hq⟩⟩)
  have C10 := Lib.hid (show ∀ w1, Mods [] w w1 → Calls Try.prog 52 #[.pointer (some ⟨x, 0, none⟩), .int .i64 c] w1 fun e w' => e = .returned (.agg #[.bool s1, .bool s2, .bool s3, .int .i64 s4]) ∧ Hid (Mods [] w w' ∧ Mods [] w1 w') from fun w1 hm => (rstate_any w1 x n G S c (h2.quiet hm)).mono fun e w' ⟨he, hq⟩ => ⟨by rw [he, hs1, hs2, hs3, hs4], Lib.hid ⟨hm.trans hq (by simp), hq⟩⟩)
  clear h h2 ha1 ha2 hr1 hr2 hB1 hb1 hB2 hs1 hs2 hs3 hs4
  go_enter Try.func14, Try.ntmps14
  go_wp2_with fail
  refine (C1.out _ (Mods.refl _ _)).mono ?_
  rintro e w1 ⟨rfl, M1⟩
  go_wp2_with fail
  refine (C2.out _ M1.out).mono ?_
  rintro e w2 ⟨rfl, M2⟩
  go_wp2_with fail
  refine (C3.out _ M2.out).mono ?_
  rintro e w3 ⟨rfl, M3⟩
  go_wp2_with fail
  refine (C4.out _ M3.out).mono ?_
  rintro e w4 ⟨rfl, M4⟩
  go_wp2_with fail
  refine (C5.out _ M4.out).mono ?_
  rintro e w5 ⟨A5, k5, p5, rfl, M5⟩
  go_wp2_with fail
  refine (C6.out _ M5.out.1).mono ?_
  rintro e w6 ⟨A6, k6, p6, rfl, M6⟩
  have Z5 := Lib.hid (M5.out.2.2.mods M6.out.2.1)
  go_wp2_with fail
  refine (C9.out _ M6.out.1).mono ?_
  rintro e w7 ⟨rfl, M7⟩
  go_wp2_with fail
  refine (C10.out _ M7.out.1).mono ?_
  rintro e w8 ⟨rfl, M8⟩
  go_wp2_with fail
  obtain ⟨w9, hw9, M9, R1, R2⟩ : ∃ w9, w9 = (w8.alloc (.cells #[.bool s1, .bool s2, .bool s3, .int .i64 s4] 66)).alloc (.cells #[.bool s1, .bool s2, .bool s3, .int .i64 s4] 85) ∧ Hid (Mods [] w8 w9) ∧ Hid (Row w9 w8.heap.size 66 #[.bool s1, .bool s2, .bool s3, .int .i64 s4]) ∧ Hid (Row w9 (w8.heap.size + 1) 85 #[.bool s1, .bool s2, .bool s3, .int .i64 s4]) := by
    refine ⟨_, rfl, Lib.hid (((Mods.refl _ _).alloc _).alloc _), Lib.hid ?_, Lib.hid ?_⟩
    · exact (Row.new w8 66 _).mods ((Mods.refl [] _).alloc _) (by simp)
    · have := Row.new (w8.alloc (.cells #[.bool s1, .bool s2, .bool s3, .int .i64 s4] 66)) 85 #[.bool s1, .bool s2, .bool s3, .int .i64 s4]
      simpa using this
  rw [← hw9]
  obtain ⟨u, hu⟩ : ∃ u, u = w8.heap.size := ⟨_, rfl⟩
  rw [← hu] at R1 R2 ⊢
  clear hw9 hu
  have N9 := Lib.hid ((M7.out.2.trans M8.out.2 (by simp)).trans M9.out (by simp))
  refine (same_yes w9 A5 A6 B1 k5 k6 p5 p6 M5.out.2.1 M6.out.2.2.1 (Z5.out.mods N9.out) (M6.out.2.2.2.mods N9.out) HL1.out).mono ?_
  rintro e wa ⟨rfl, ha⟩
  have Ma := Lib.hid ha
  clear ha
  go_wp2_with fail
  refine (C7.out _ ((M8.out.1.trans M9.out (by simp)).trans Ma.out (by simp))).mono ?_
  rintro e wb ⟨Ab, kb, pb, rfl, Mb⟩
  go_wp2_with fail
  refine (C8.out _ Mb.out.1).mono ?_
  rintro e wc ⟨Ac, kc, pc, rfl, Mc⟩
  go_wp2_with fail
  refine (same_yes wc Ab Ac B2 kb kc pb pc Mb.out.2.2.1 Mc.out.2.2.1 (Mb.out.2.2.2.mods Mc.out.2.1) Mc.out.2.2.2 HL2.out).mono ?_
  rintro e wd ⟨rfl, hd⟩
  have Md := Lib.hid hd
  clear hd
  have NN := Lib.hid (((Ma.out.trans Mb.out.2.1 (by simp)).trans Mc.out.2.1 (by simp)).trans Md.out (by simp))
  have R3 := R1.out.mods NN.out (by simp)
  have R4 := R2.out.mods NN.out (by simp)
  have c10 := R3.cell 0
  have c11 := R3.cell 1
  have c12 := R3.cell 2
  have c13 := R3.cell 3
  have c20 := R4.cell 0
  have c21 := R4.cell 1
  have c22 := R4.cell 2
  have c23 := R4.cell 3
  have HM := Lib.hid (Mc.out.1.trans Md.out (by simp))
  clear R3 R4
  go_wp2
  go_ret
  exact ⟨by simp, HM⟩
end Go.Proofs.Ytogcfeplfclobaa
