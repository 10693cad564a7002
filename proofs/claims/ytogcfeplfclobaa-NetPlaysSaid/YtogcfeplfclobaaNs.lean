/- What the laws' known answers. -/
import Derived.Test.YtogcfeplfclobaaNr
namespace Go.Proofs.Ytogcfeplfclobaa
open Go.RowKit
set_option maxRecDepth 10000
set_option linter.unusedVariables false
set_option linter.unusedSimpArgs false

set_option maxHeartbeats 1000000 in
theorem known_any (w : World) : Calls Try.prog 10 #[] w fun e w' => e = .returned (.bool true) ∧ Mods [] w w' := by
  have hn := eql_nnil
  go_enter Try.func10, Try.ntmps10
  go_wp2_with fail
  refine (newL 2 w w (Mods.refl _ _) [] (by simp) (by decide) (by decide)).mono ?_
  rintro e w1 ⟨rfl, hd⟩
  have L1 := Lib.hid hd.out
  clear hd
  go_wp2_with fail
  refine (connL w w1 _ _ _ 3 _ L1.out 0 0 ⟨2, false, 0, [Cn.new 3], 0⟩ rfl rfl rfl).mono ?_
  rintro e w2 ⟨rfl, hd⟩
  have L2 := Lib.hid hd.out.1
  clear hd L1
  have k1 := conv_u8 w2 #[.int .u8 97] 1 1 _ rfl
  have k2 := conv_u8 (w2.alloc (.cells #[.int .u8 97] 5 (1, 2))) #[.int .u8 98] 1 1 (w2.heap.size + 1) (by simp)
  have HR := Lib.hid (fun (G : List Nat) (hG : ∀ k ∈ G, k < w2.heap.size) => show RowsAt (((w2.alloc (.cells #[.int .u8 97] 5 (1, 2))).alloc (.cells #[.int .u8 98] 5 (1, 2))).alloc (.cells #[.slice (some ⟨w2.heap.size, 0, none⟩) 1 1, .slice (some ⟨w2.heap.size + 1, 0, none⟩) 1 1] 33)) G (w2.heap.size + 1 + 1) [⟨some ⟨w2.heap.size, 0, none⟩, [97], 1⟩, ⟨some ⟨w2.heap.size + 1, 0, none⟩, [98], 1⟩] from
    rows_two ⟨some ⟨w2.heap.size, 0, none⟩, [97], 1⟩ ⟨some ⟨w2.heap.size + 1, 0, none⟩, [98], 1⟩ (by simp) ((rw_litm w2 G [97] w2.heap.size 1 (1, 2) rfl rfl (fun h => by have := hG _ h; omega) (by simp) (by decide)).mods ((Mods.refl _ _).alloc _)) (rw_litm _ G [98] (w2.heap.size + 1) 1 (1, 2) (by simp) rfl (fun h => by have := hG _ h; omega) (by simp) (by decide)) (fun h => by have := hG _ h; omega))
  go_wp2_with fail
  refine (sendL w w2 _ _ _ _ 0 (some ⟨w2.heap.size + 1 + 1, 0, none⟩) 2 2 _ _ L2.out ((((Mods.refl [] _).alloc _).alloc _).alloc _) (by decide) (fun F hF => Parts.of_rows (HR.out F (fun k hk => (hF k hk).2))) rfl (by decide) [97, 98] 2 0 ⟨2, false, 0, [{ Cn.new 3 with inn := [97, 98], mr := 1 }], 0⟩ rfl rfl rfl rfl).mono ?_
  rintro e w3 ⟨rfl, hd⟩
  have L3 := Lib.hid hd.out.1
  clear hd L2 k1 k2 HR
  go_wp2_with fail
  refine (accL w w3 _ _ _ _ L3.out 0 3 0 ⟨2, false, 0, [{ Cn.new 3 with opn := true, inn := [97, 98], mr := 1 }], 1⟩ rfl rfl rfl rfl).mono ?_
  rintro e w4 ⟨rfl, hd⟩
  have L4 := Lib.hid hd.out.1
  clear hd L3
  go_wp2_with fail
  refine (readL w w4 _ _ _ 0 9 _ L4.out (by decide) [97, 98] 0 ⟨2, false, 0, [{ Cn.new 3 with opn := true, tak := [97, 98], mr := 1 }], 1⟩ rfl rfl rfl).mono ?_
  rintro e w5 ⟨A5, n5, c5, rfl, hn5, hd⟩
  have L5 := Lib.hid hd.out.1
  have B5 := Lib.hid hd.out.2.2.1
  obtain rfl : n5 = 2 := hn5.out.1
  have hc5 : 2 ≤ c5 := hn5.out.2.1
  clear hd L4 hn5
  go_wp2_with fail
  refine (readL w w5 _ _ _ 0 9 _ L5.out (by decide) [] 4 ⟨2, false, 0, [{ Cn.new 3 with opn := true, tak := [97, 98], mr := 1 }], 1⟩ rfl rfl rfl).mono ?_
  rintro e w6 ⟨A6, n6, c6, rfl, hn6, hd⟩
  have B6 := Lib.hid (B5.out.keep hd.out.2.1 (by simp))
  have L6 := Lib.hid (hd.out.1.less (K' := (Value.slice A5 2 c5).ownBlock.toList) (by intro k hk; simp only [List.nil_append, List.mem_append]; exact .inl hk))
  clear hd hn6 L5 B5
  go_wp2_with fail
  refine (halfL w w6 _ _ _ 0 _ L6.out (by decide) 0 ⟨2, false, 0, [{ Cn.new 3 with opn := true, hlv := true, tak := [97, 98], mr := 2 }], 1⟩ rfl rfl).mono ?_
  rintro e w7 ⟨rfl, hd⟩
  have B7 := Lib.hid (B6.out.keep hd.out.2 (fun _ h => h))
  have L7 := Lib.hid hd.out.1
  clear hd L6 B6
  go_wp2_with fail
  refine (readL w w7 _ _ _ 0 9 _ L7.out (by decide) [] 0 ⟨2, false, 0, [{ Cn.new 3 with opn := true, hlv := true, tak := [97, 98], mr := 2 }], 1⟩ rfl rfl rfl).mono ?_
  rintro e w8 ⟨A8, n8, c8, rfl, hn8, hd⟩
  have B8 := Lib.hid (B7.out.keep hd.out.2.1 (fun _ h => h))
  have M8 := Lib.hid hd.out.1.mods
  clear hd hn8 L7 B7
  have k3 := conv_u8 w8 #[.int .u8 97, .int .u8 98] 2 2 _ rfl
  go_wp2_with fail
  refine (same_any _ A5 (some ⟨w8.heap.size, 0, none⟩) [97, 98] [97, 98] 2 2 c5 2 rfl rfl (B8.out.at0.mods ((Mods.refl _ _).alloc _)) (rw_litm w8 [] [97, 98] w8.heap.size 2 (2, 3) rfl rfl (by simp) (by simp) (by decide)).1 (by decide)).mono ?_
  rintro e w9 ⟨he, q, rfl⟩
  obtain rfl : e = .returned (.bool true) := he
  clear k3
  go_wp2
  go_ret
  exact ⟨rfl, (M8.out.alloc _).drewN _⟩
#print axioms known_any
end Go.Proofs.Ytogcfeplfclobaa
