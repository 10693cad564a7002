/- What the laws' known answers. -/
import Derived.Test.YtfgllfgcgihkoaaRingS
import Derived.Lib.SmallJoins
namespace Go.Proofs.Ytfgllfgcgihkoaa
open Go.RowKit
set_option maxRecDepth 10000
set_option linter.unusedVariables false
set_option linter.unusedSimpArgs false

def Rw.Ok (w : World) (F : List Nat) (r : Rw) : Prop := At w F r.A r.l ∧ r.l.length ≤ r.c ∧ r.c ≤ maxLen
theorem Rw.Ok.mods {w w' : World} {F : List Nat} {r : Rw} (h : r.Ok w F) (hm : Mods F w w') : r.Ok w' F := ⟨h.1.mods hm, h.2⟩
theorem rows_two {w : World} {F : List Nat} {b : Nat} (r1 r2 : Rw) (hb : b = w.heap.size) (h1 : r1.Ok w F) (h2 : r2.Ok w F) (hF : b ∉ F) :
    RowsAt (w.alloc (.cells #[.slice r1.A r1.l.length r1.c, .slice r2.A r2.l.length r2.c] 32)) F b [r1, r2] := by
  subst hb
  have hrow := Row.new w 32 #[.slice r1.A r1.l.length r1.c, .slice r2.A r2.l.length r2.c]
  refine ⟨by simp, hF, fun i r hr => ?_, fun r hr => ?_⟩
  · match i, hr with
    | 0, hr => injection hr with hr; subst hr; exact hrow.cell 0
    | 1, hr => injection hr with hr; subst hr; exact hrow.cell 1
  · simp only [List.mem_cons, List.mem_nil_iff, or_false] at hr
    rcases hr with rfl | rfl
    · exact h1.mods ((Mods.refl _ _).alloc _)
    · exact h2.mods ((Mods.refl _ _).alloc _)
theorem rows_one {w : World} {F : List Nat} {b : Nat} (r1 : Rw) (hb : b = w.heap.size) (h1 : r1.Ok w F) (hF : b ∉ F) :
    RowsAt (w.alloc (.cells #[.slice r1.A r1.l.length r1.c] 32)) F b [r1] := by
  subst hb
  have hrow := Row.new w 32 #[.slice r1.A r1.l.length r1.c]
  refine ⟨by simp, hF, fun i r hr => ?_, fun r hr => ?_⟩
  · match i, hr with
    | 0, hr => injection hr with hr; subst hr; exact hrow.cell 0
  · simp only [List.mem_cons, List.mem_nil_iff, or_false] at hr
    subst hr
    exact h1.mods ((Mods.refl _ _).alloc _)
theorem rw_lit (w : World) (F : List Nat) (l : List Int) (b n : Nat) (hb : b = w.heap.size) (hn : n = l.length) (hF : b ∉ F) (hr : ∀ x ∈ l, 0 ≤ x ∧ x ≤ 255) (hl : n ≤ 1000) : Rw.Ok (w.alloc (.cells (bv l).toArray 5)) F ⟨some ⟨b, 0, none⟩, l, n⟩ := by
  subst hb hn
  exact ⟨At.lit w F _ l hF hr, Nat.le_refl _, by unfold maxLen; show l.length ≤ _; omega⟩
theorem rw_litm (w : World) (F : List Nat) (l : List Int) (b n : Nat) (fr : Nat × Nat) (hb : b = w.heap.size) (hn : n = l.length) (hF : b ∉ F) (hr : ∀ x ∈ l, 0 ≤ x ∧ x ≤ 255) (hl : n ≤ 1000) : Rw.Ok (w.alloc (.cells (bv l).toArray 5 fr)) F ⟨some ⟨b, 0, none⟩, l, n⟩ := by
  subst hb hn
  refine ⟨fun i x hx => ⟨w.heap.size, 0, rfl, by simp, hF, ?_, hr x (List.mem_of_getElem? hx)⟩, Nat.le_refl _, by unfold maxLen; show l.length ≤ _; omega⟩
  rw [World.cell?_alloc_mark, Nat.zero_add, List.getElem?_toArray]
  exact (bv_at l i _).2 ⟨x, hx, rfl⟩
theorem conv_u8 (w : World) (C : Array Value) (n c g : Nat) (hg : g = w.heap.size) : (convert 32 32 (.slice (some ⟨g, 0, none⟩) n c)).run Try.prog (w.alloc (.cells C 5)) = .ok (.slice (some ⟨g, 0, none⟩) n c) (w.alloc (.cells C 5 (C.size, C.size + 1))) :=
  Joins.run_convert_bytes_const_at w 32 5 C n c g hg Try.underlying32 Try.underlying5
theorem known_any (w : World) : Calls Try.prog 9 #[] w fun e w' => e = .returned (.bool true) ∧ Mods [] w w' := by
  have hn := eql_nil
  go_enter Try.func9, Try.ntmps9
  go_wp2_with fail
  refine (new_any 4 w (by decide) (by decide)).mono ?_
  rintro e w1 ⟨rfl, hs, hm⟩
  have R1 := Lib.hid hs
  have M1 := Lib.hid hm
  clear hs hm
  have k1 := conv_u8 w1 #[.int .u8 97, .int .u8 98, .int .u8 99] 3 3 _ rfl
  have k2 := conv_u8 (w1.alloc (.cells #[.int .u8 97, .int .u8 98, .int .u8 99] 5 (3, 4))) #[.int .u8 100, .int .u8 101, .int .u8 102] 3 3 (w1.heap.size + 1) (by simp)
  have HW := Lib.hid (show Rw.Ok ((w1.alloc (.cells #[.int .u8 97, .int .u8 98, .int .u8 99] 5 (3, 4))).alloc (.cells #[.int .u8 100, .int .u8 101, .int .u8 102] 5 (3, 4))) [w.heap.size + 1, w.heap.size] ⟨some ⟨w1.heap.size, 0, none⟩, [97, 98, 99], 3⟩ ∧
      Rw.Ok ((w1.alloc (.cells #[.int .u8 97, .int .u8 98, .int .u8 99] 5 (3, 4))).alloc (.cells #[.int .u8 100, .int .u8 101, .int .u8 102] 5 (3, 4))) [w.heap.size + 1, w.heap.size] ⟨some ⟨w1.heap.size + 1, 0, none⟩, [100, 101, 102], 3⟩ from by
    have hl := R1.out.lt
    have h1 := hl (w.heap.size + 1) (by simp)
    refine ⟨(rw_litm w1 _ [97, 98, 99] w1.heap.size 3 (3, 4) rfl rfl ?_ (by simp) (by decide)).mods ((Mods.refl _ _).alloc _), rw_litm _ _ [100, 101, 102] (w1.heap.size + 1) 3 (3, 4) (by simp) rfl ?_ (by simp) (by decide)⟩
    · simp; omega
    · simp; omega)
  have HLT := Lib.hid (R1.out.lt (w.heap.size + 1) (by simp))
  go_wp2_with fail
  refine (write_any _ (w.heap.size + 1) w.heap.size 4 (w1.heap.size + 1 + 1) [] [⟨some ⟨w1.heap.size, 0, none⟩, [97, 98, 99], 3⟩, ⟨some ⟨w1.heap.size + 1, 0, none⟩, [100, 101, 102], 3⟩] (R1.out.mods ((((Mods.refl [] _).alloc _).alloc _).alloc _) (by simp)) (rows_two _ _ (by simp) HW.out.1 HW.out.2 (by have := HLT.out; simp; omega)) (by simp)).mono ?_
  rintro e w2 ⟨n, rfl, hd⟩
  obtain rfl : n = 4 := hd.out.1
  have R2 := Lib.hid (show RingA w2 (w.heap.size + 1) w.heap.size 4 [97, 98, 99, 100] from hd.out.2.1)
  have M2 := Lib.hid (show Mods [] w w2 from ((((M1.out).alloc _).alloc _).alloc _).trans hd.out.2.2 (by simp))
  clear hd k1 k2
  go_wp2_with fail
  refine (skip_any w2 _ _ 4 2 [97, 98, 99, 100] R2.out).mono ?_
  rintro e w3 ⟨he, hr, hm⟩
  obtain rfl : e = .returned (.int .i64 2) := he
  have R3 := Lib.hid (show RingA w3 (w.heap.size + 1) w.heap.size 4 [99, 100] from hr)
  have M3 := Lib.hid (show Mods [] w w3 from M2.out.trans hm (by simp))
  clear hr hm
  go_wp2_with fail
  refine (peek_any w3 _ _ 4 9 [99, 100] R3.out).mono ?_
  rintro e w4 ⟨v, rfl, hd⟩
  have hf : Fresh w3 w4 v [99, 100] := hd.out
  obtain ⟨A, cp, rfl, hcp1, hcp2⟩ := own_slice hf.1
  have HF := Lib.hid hf
  clear hf hd
  have k3 := conv_u8 w4 #[.int .u8 99, .int .u8 100] 2 2 _ rfl
  go_wp2_with fail
  refine (same_any _ A (some ⟨w4.heap.size, 0, none⟩) [99, 100] [99, 100] 2 2 cp 2 rfl rfl ((At.of_own (F := []) HF.out.1 (by simp) (by simp)).mods ((Mods.refl _ _).alloc _)) (rw_litm w4 [] [99, 100] w4.heap.size 2 (2, 3) rfl rfl (by simp) (by simp) (by decide)).1 (by decide)).mono ?_
  rintro e w5 ⟨he, q, rfl⟩
  obtain rfl : e = .returned (.bool true) := he
  clear k3
  have R4 := Lib.hid (show RingA (w4.alloc (.cells #[.int .u8 99, .int .u8 100] 5 (2, 3))) (w.heap.size + 1) w.heap.size 4 [99, 100] from R3.out.mods (HF.out.2.1.alloc _) (by simp))
  have M4 := Lib.hid (show Mods [] w (w4.alloc (.cells #[.int .u8 99, .int .u8 100] 5 (2, 3))) from (M3.out.trans HF.out.2.1 (by simp)).alloc _)
  go_wp2_with fail
  refine Calls.mono (find_any _ _ _ 4 [99, 100] 100 (R4.out.keep fun _ _ => rfl) (by decide) (by decide)) ?_
  rintro e w5 ⟨he, q2, rfl⟩
  obtain rfl : e = .returned (.int .i64 1) := he
  go_wp2_with fail
  refine Calls.mono (room_any _ _ _ 4 [99, 100] (R4.out.keep fun _ _ => rfl)) ?_
  rintro e w5 ⟨he, q3, rfl⟩
  obtain rfl : e = .returned (.int .i64 2) := he
  go_wp2
  go_ret
  exact ⟨rfl, by first | exact M4.out.drewN _ | exact (M4.out.drewN _).drewN _⟩
#print axioms known_any
end Go.Proofs.Ytfgllfgcgihkoaa
