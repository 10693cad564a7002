/- The pool's contracts in the words that the laws' walks take; what the laws' known answers. -/
import Derived.Test.YtdocifbkocbiiaaPoolB
import Derived.Test.YtdocifbkocbiiaaRingP
namespace Go.Proofs.Ytdocifbkocbiiaa
open Go.RowKit
set_option maxRecDepth 10000
set_option linter.unusedVariables false
set_option linter.unusedSimpArgs false

theorem get_as (w : World) (g m z t t' : Nat) (x : Int) (O O' : List Bool) (h : PoolA w g m z O t) (hx : (lo O : Int) = x) (hl : lo O < O.length) (hO : O.set (lo O) true = O') (ht : max t (cnt O + 1) = t') :
    Calls Try.prog 10 #[.pointer (some ⟨g, 0, none⟩)] w fun e w' => e = .returned (.tuple #[.int .i64 x, .pointer (some ⟨w.heap.size + 1, 0, none⟩), .int .i64 0]) ∧
      Hid (PoolA w' g m z O' t' ∧ RingA w' (w.heap.size + 1) w.heap.size z [] ∧ Mods [g, m] w w') := by
  subst hx hO ht
  exact get_any w g m z t O h hl
theorem put_as (w : World) (g m z t k : Nat) (x : Int) (O O' : List Bool) (l : List Int) (ty : TypeId) (h : PoolA w g m z O t) (hk : l.length = k) (hk2 : k ≤ 1000000) (hO : puts O l = O') (hx : (cnt O : Int) - (cnt O' : Int) = x) :
    Calls Try.prog 15 #[.pointer (some ⟨g, 0, none⟩), .slice (some ⟨w.heap.size, 0, none⟩) k k] (w.alloc (.cells (iv l).toArray ty)) fun e w' =>
      e = .returned (.int .i64 x) ∧ Hid (PoolA w' g m z O' t ∧ Mods [g, m] w w') := by
  subst hk hO hx
  have hlt := h.lt
  refine (put_any _ g m z t l.length l.length O _ l (h.mods ((Mods.refl [] w).alloc _) (by simp)) (NumsAt.new w [g, m] ty l (fun hm => by have := hlt _ hm; omega)) rfl hk2).mono ?_
  rintro e w' ⟨he, hd⟩
  exact ⟨he, Lib.hid ⟨hd.out.1, ((Mods.refl _ w).alloc _).trans hd.out.2 (fun k hk => .inl hk)⟩⟩
theorem putn_as (w : World) (k : Nat) (l : List Int) (ty : TypeId) (hk : l.length = k) (hk2 : k ≤ 1000000) :
    Calls Try.prog 15 #[.pointer none, .slice (some ⟨w.heap.size, 0, none⟩) k k] (w.alloc (.cells (iv l).toArray ty)) fun e w' => e = .returned (.int .i64 0) ∧ Mods [] w w' := by
  subst hk
  refine (put_nil _ l.length l.length _ l (NumsAt.new w [] ty l (by simp)) rfl hk2).mono ?_
  rintro e w' ⟨he, rfl⟩
  exact ⟨he, (Mods.refl _ w).alloc _⟩
theorem lent_as (w : World) (g m z t : Nat) (x : Int) (O : List Bool) (h : PoolA w g m z O t) (hx : (cnt O : Int) = x) :
    Calls Try.prog 17 #[.pointer (some ⟨g, 0, none⟩)] w fun e w' => e = .returned (.tuple #[.int .i64 x, .int .i64 t]) ∧ Mods [] w w' := by
  subst hx
  exact (lent_any w g m z t O h).mono fun e w' ⟨he, q, hq⟩ => ⟨he, by rw [hq]; exact (Mods.refl _ _).drewN q⟩
theorem neq_rnil (p : Option Addr) (w : World) : (binOp .neq 31 (.pointer p) (.pointer none)).run Try.prog w = .ok (.bool !p.isNone) w :=
  run_neq_pointer_nil _ _ _ (by kernel_rfl)
theorem known4_any (w : World) : Calls Try.prog 9 #[] w fun e w' => e = .returned (.bool true) ∧ Mods [] w w' := by
  have hn := eql_nil
  have hn2 := eql_pnil
  have hn3 := neq_rnil
  go_enter Try.func9, Try.ntmps9
  go_wp2_with fail
  refine (pnew_any 2 8 w (by decide) (by decide) (by decide)).mono ?_
  rintro e w1 ⟨rfl, hs, hm⟩
  have P1 := Lib.hid (show PoolA w1 (w.heap.size + 1) w.heap.size 8 [false, false] 0 from hs)
  have M1 := Lib.hid hm
  have l1 := hs.lt (w.heap.size + 1) (by simp)
  clear hs hm
  go_wp2_with fail
  refine (get_as w1 _ _ 8 0 1 0 _ [true, false] P1.out rfl (by decide) rfl rfl).mono ?_
  rintro e w2 ⟨rfl, hd⟩
  have P2 := Lib.hid hd.out.1
  have R2 := Lib.hid hd.out.2.1
  have M2 := Lib.hid hd.out.2.2
  have l2 := hd.out.2.2.size
  clear hd
  go_wp2_with fail
  refine (get_as w2 _ _ 8 1 2 1 _ [true, true] P2.out rfl (by decide) rfl rfl).mono ?_
  rintro e w3 ⟨rfl, hd⟩
  have P3 := Lib.hid hd.out.1
  have M3 := Lib.hid hd.out.2.2
  have l3 := hd.out.2.2.size
  clear hd
  go_wp2_with fail
  refine (get_full w3 _ _ 8 2 _ P3.out (by decide)).mono ?_
  rintro e w' ⟨rfl, rfl⟩
  go_wp2_with fail
  refine (put_as w3 _ _ 8 2 3 1 _ [false, true] [0, 0, 7] _ P3.out rfl (by decide) (by decide) (by decide)).mono ?_
  rintro e w4 ⟨rfl, hd⟩
  have P4 := Lib.hid hd.out.1
  have M4 := Lib.hid hd.out.2
  have l4 := hd.out.2.size
  clear hd
  go_wp2_with fail
  refine (get_as w4 _ _ 8 2 2 0 _ [true, true] P4.out rfl (by decide) rfl rfl).mono ?_
  rintro e w5 ⟨rfl, hd⟩
  have M5 := Lib.hid (show Mods [w.heap.size + 1, w.heap.size] w2 w5 from ((M3.out.trans M4.out (fun k hk => .inl hk)).trans hd.out.2.2 (fun k hk => .inl hk)))
  have R5 := Lib.hid (show RingA w5 (w1.heap.size + 1) w1.heap.size 8 [] from R2.out.mods M5.out (by intro k hk hk2; simp at hk hk2; omega))
  have M6 := Lib.hid (show Mods [] w w5 from (M1.out.trans (M2.out.trans M5.out (fun k hk => .inl hk)) (by intro k hk; right; simp at hk; omega)))
  clear hd
  go_wp2_with fail
  refine (room_as w5 _ _ 8 8 [] R5.out rfl).mono ?_
  rintro e w6 ⟨rfl, hm⟩
  go_wp2
  go_ret
  exact ⟨rfl, M6.out.trans hm (by simp)⟩
#print axioms known4_any
end Go.Proofs.Ytdocifbkocbiiaa
