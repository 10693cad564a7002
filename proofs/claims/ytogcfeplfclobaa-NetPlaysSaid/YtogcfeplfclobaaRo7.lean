/- Rows that roomy made, beside both nets; Write and Send over both. -/
import Derived.Test.YtogcfeplfclobaaDo1
import Derived.Test.YtogcfeplfclobaaRi
import Derived.Test.YtogcfeplfclobaaRh
namespace Go.Proofs.Ytogcfeplfclobaa
open Go.RowKit
set_option maxRecDepth 10000
set_option linter.unusedVariables false
set_option linter.unusedSimpArgs false

/-- The row that roomy made: the bytes l and two marks, at the head of block g. -/
def Ry (w : World) (g c : Nat) (l : List Int) : Prop := w.ownsRow 0 5 1 (.slice (some ⟨g, 0, none⟩) (l.length + 2) c) (l.length + 2) (bv (l ++ [171, 171]))
section
variable {w w' : World} {g c : Nat} {l : List Int} {K F : List Nat}
theorem Ry.keepK (h : Ry w g c l) (hk : KeepK K w w') (hg : g ∈ K) : Ry w' g c l := own_keep h fun b hb => by
  simp [Value.ownBlock] at hb; subst hb; exact hk _ hg
theorem Ry.mods (h : Ry w g c l) (hm : Mods F w w') (hg : g ∉ F) : Ry w' g c l := own_mods h hm fun b hb h2 => by
  simp [Value.ownBlock] at hb; subst hb; exact hg h2
theorem Ry.at_ (h : Ry w g c l) (hg : g ∉ F) (hr : ∀ x ∈ l, 0 ≤ x ∧ x ≤ 255) : At w F (some ⟨g, 0, none⟩) (l ++ [171, 171]) :=
  At.of_own h (fun k hk hk2 => by simp [Value.ownBlock] at hk; subst hk; exact hg hk2) (fun x hx => by
    rcases List.mem_append.1 hx with hx | hx
    · exact hr x hx
    · simp at hx; subst hx; decide)
theorem Ry.cut (h : Ry w g c l) (hg : g ∉ F) (hr : ∀ x ∈ l, 0 ≤ x ∧ x ≤ 255) : At w F (some ⟨g, 0, none⟩) l := by
  have := (h.at_ hg hr).take l.length
  rwa [List.take_left] at this
theorem Ry.cap (h : Ry w g c l) : l.length + 2 ≤ c ∧ c ≤ maxLen := by
  obtain ⟨A, c', e, h1, h2⟩ := own_slice h
  injection e with _ _ e3
  subst e3
  exact ⟨h1, h2⟩
theorem Ry.less (h : Ry w g c l) : w.ownsRow 0 5 1 (.slice (some ⟨g, 0, none⟩) (l.length + 1) c) (l.length + 1) (bv (l ++ [171])) := by
  have := own_less h (show l.length + 1 ≤ l.length + 2 by omega) (by omega)
  rw [show (bv (l ++ [171, 171])).take (l.length + 1) = bv (l ++ [171]) by
    rw [show bv (l ++ [171, 171]) = bv (l ++ [171]) ++ [.int .u8 171] by simp [bv]]
    exact List.take_left' (by simp [bv])] at this
  exact this
theorem Ry.lt (h : Ry w g c l) : g < w.heap.size := own_lt h g (by simp [Value.ownBlock])
theorem Ry.ok (h : Ry w g c l) (hg : g ∉ F) (hr : ∀ x ∈ l, 0 ≤ x ∧ x ≤ 255) : Rw.Ok w F ⟨some ⟨g, 0, none⟩, l, c⟩ := ⟨h.cut hg hr, by have := h.cap.1; show l.length ≤ c; omega, h.cap.2⟩
end
theorem roomyT (W w w1 : World) (g x m n : Nat) (S T : Nt) (K : List Nat) (r : Rw) (h : Two W w g x S T m n K) (hq : Mods [] w w1) (hr : Came W r) (hl : r.l.length ≤ 1000000) :
    Calls Try.prog 36 #[.slice r.A r.l.length r.c] w1 fun e w' => ∃ ga ca, e = .returned (.slice (some ⟨ga, 0, none⟩) (r.l.length + 1) ca) ∧ Hid (Two W w' g x S T m n (K ++ [ga]) ∧ Mods [] w w' ∧ Ry w' ga ca r.l ∧ w.heap.size ≤ ga) := by
  obtain ⟨F, G, h⟩ := h
  refine (roomy_any w1 r.A r.l.length r.c r.l rfl (hr.1.mods (h.mods.trans hq (by simp))) hl).mono fun e w' ⟨ga, ca, he, hc, hd⟩ => ?_
  obtain ⟨h1, h2, h3⟩ := hd.out
  have hm := hq.trans h2 (by simp)
  have hg : w.heap.size ≤ ga := Nat.le_trans hq.size h3
  refine ⟨ga, ca, he, Lib.hid ⟨⟨F, G, h.new hm (l := [ga]) fun k hk => ?_⟩, hm, h1, hg⟩⟩
  simp at hk
  subst hk
  exact ⟨hg, own_lt h1 _ (by simp [Value.ownBlock])⟩
theorem standsT (W w w1 : World) (g x m n ga ca : Nat) (S T : Nt) (K : List Nat) (r : Rw) (h : Two W w g x S T m n K) (hq : Mods [] w w1) (hy : Ry w ga ca r.l) (hr : Came W r) (hl : r.l.length ≤ 1000000) :
    Calls Try.prog 38 #[.slice (some ⟨ga, 0, none⟩) (r.l.length + 1) ca, .slice r.A r.l.length r.c] w1 fun e w' => e = .returned (.bool true) ∧ Hid (Two W w' g x S T m n K ∧ Mods [] w w') := by
  obtain ⟨F, G, h⟩ := h
  exact (stands_as w1 _ r.A r.l.length (r.l.length + 1) ca r.c r.l rfl rfl (by have := hy.cap; omega) ((hy.mods hq (by simp)).at_ (by simp) hr.1.range) (hr.1.mods (h.mods.trans hq (by simp))) hl).mono fun e w' ⟨he, hm⟩ => ⟨he, Lib.hid ⟨⟨F, G, h.quiet (hq.trans hm (by simp))⟩, hq.trans hm (by simp)⟩⟩
theorem spoilT (W w w1 : World) (g x m n ga ca : Nat) (S T : Nt) (K : List Nat) (l : List Int) (h : Two W w g x S T m n K) (hq : Mods [] w w1) (hy : Ry w ga ca l) (hg : ga ∈ K) (hW : W.heap.size ≤ ga) (hl : l.length ≤ 1000000) :
    Calls Try.prog 39 #[.slice (some ⟨ga, 0, none⟩) (l.length + 1) ca] w1 fun e w' => e = .returned (.tuple #[]) ∧ Hid (Two W w' g x S T m n K) := by
  obtain ⟨F, G, h⟩ := h
  refine (spoil_any w1 _ (l.length + 1) (l ++ [171]) (by simp) (by have := (hy.mods hq (by simp)).less; exact this) (by simp; omega)).mono fun e w' ⟨he, hm⟩ => ⟨he, Lib.hid ⟨F, G, (h.quiet hq).spoilt (fun k hk => ?_) hm⟩⟩
  simp [Value.ownBlock] at hk
  subst hk
  exact ⟨hg, hW⟩
theorem writeT (W w0 w : World) (g x m n : Nat) (S T : Nt) (K : List Nat) (c : Int) (A : Option Addr) (k cp : Nat) (l : List Int) (h : Two W w0 g x S T m n K) (hq : Mods [] w0 w) (hm : m + l.length ≤ 900000000) (hl : ∀ F : List Nat, (∀ k ∈ F, W.heap.size ≤ k ∧ k ∉ K) → At w F A l) (hk : k = l.length) (hc1 : k ≤ cp) (hc2 : cp ≤ maxLen)
    (N : Nat) (E : Int) (S' : Nt) (hN : S.writeK c l = N) (hE : S.writeE c l = E) (hS : S.write c l = S') :
    Calls Try.prog 21 #[.pointer (some ⟨g, 0, none⟩), .int .i64 c, .slice A k cp] w fun e w' => e = .returned (.tuple #[.int .i64 N, .int .i64 E]) ∧ Hid (Two W w' g x S' T (m + l.length) n K ∧ KeepK K w0 w') := by
  subst hN hE hS
  obtain ⟨F, G, h⟩ := h
  have h2 := h.quiet hq
  exact (write_any w g m F S c A k cp l h2.net hm (hl F fun k hk => ⟨(h.f k hk).1, (h.f k hk).2.1⟩) hk hc1 hc2).mono fun e w' ⟨h1, hd⟩ => ⟨h1, Lib.hid ⟨(h2.netTo hd.out).1, fun j hj => ((h2.netTo hd.out).2 j hj).trans (hq.block j (h.k j hj) (by simp))⟩⟩
theorem rwriteT (W w0 w : World) (g x m n : Nat) (S T : Nt) (K : List Nat) (c : Int) (A : Option Addr) (k cp : Nat) (l : List Int) (h : Two W w0 g x S T m n K) (hq : Mods [] w0 w) (hm : n + l.length ≤ 900000000) (hl : ∀ F : List Nat, (∀ k ∈ F, W.heap.size ≤ k ∧ k ∉ K) → At w F A l) (hk : k = l.length) (hc1 : k ≤ cp) (hc2 : cp ≤ maxLen)
    (N : Nat) (E : Int) (T' : Nt) (hN : T.writeK c l = N) (hE : T.writeE c l = E) (hS : T.write c l = T') :
    Calls Try.prog 45 #[.pointer (some ⟨x, 0, none⟩), .int .i64 c, .slice A k cp] w fun e w' => e = .returned (.tuple #[.int .i64 N, .int .i64 E]) ∧ Hid (Two W w' g x S T' m (n + l.length) K ∧ KeepK K w0 w') := by
  subst hN hE hS
  obtain ⟨F, G, h⟩ := h
  have h2 := h.quiet hq
  exact (rwrite_any w x n G T c A k cp l h2.ref hm (hl G fun k hk => ⟨(h.g k hk).1, (h.g k hk).2⟩) hk hc1 hc2).mono fun e w' ⟨h1, hd⟩ => ⟨h1, Lib.hid ⟨(h2.refTo hd.out).1, fun j hj => ((h2.refTo hd.out).2 j hj).trans (hq.block j (h.k j hj) (by simp))⟩⟩
theorem sendT (W w0 w : World) (g x m n : Nat) (S T : Nt) (K : List Nat) (c : Int) (A : Option Addr) (k cp : Nat) (rs : List Rw) (h : Two W w0 g x S T m n K) (hq : Mods [] w0 w) (hm : m + 1 ≤ 900000000) (hl : ∀ F : List Nat, (∀ k ∈ F, W.heap.size ≤ k ∧ k ∉ K ∧ k < w0.heap.size) → Parts w F A rs) (hk : k = rs.length) (hk2 : k ≤ maxLen)
    (l : List Int) (N : Int) (E : Int) (S' : Nt) (hfl : flatR rs = l) (hN : S.sendK c l = N) (hE : S.sendE c = E) (hS : S.send c l = S') :
    Calls Try.prog 19 #[.pointer (some ⟨g, 0, none⟩), .int .i64 c, .slice A k cp] w fun e w' => e = .returned (.tuple #[.int .i64 N, .int .i64 E]) ∧ Hid (Two W w' g x S' T (m + 1) n K ∧ KeepK K w0 w') := by
  subst hfl hN hE hS
  obtain ⟨F, G, h⟩ := h
  have h2 := h.quiet hq
  exact (send_any w g m F S c A k cp rs h2.net hm (hl F fun k hk => ⟨(h.f k hk).1, (h.f k hk).2.1, h.net.lt k hk⟩) hk hk2).mono fun e w' ⟨h1, hd⟩ => ⟨h1, Lib.hid ⟨(h2.netTo hd.out).1, fun j hj => ((h2.netTo hd.out).2 j hj).trans (hq.block j (h.k j hj) (by simp))⟩⟩
theorem rsendT (W w0 w : World) (g x m n : Nat) (S T : Nt) (K : List Nat) (c : Int) (A : Option Addr) (k cp : Nat) (rs : List Rw) (h : Two W w0 g x S T m n K) (hq : Mods [] w0 w) (hm : n + 1 ≤ 900000000) (hl : ∀ F : List Nat, (∀ k ∈ F, W.heap.size ≤ k ∧ k ∉ K ∧ k < w0.heap.size) → Parts w F A rs) (hk : k = rs.length) (hk2 : k ≤ maxLen)
    (l : List Int) (N : Int) (E : Int) (T' : Nt) (hfl : flatR rs = l) (hN : T.sendK c l = N) (hE : T.sendE c = E) (hS : T.send c l = T') :
    Calls Try.prog 37 #[.pointer (some ⟨x, 0, none⟩), .int .i64 c, .slice A k cp] w fun e w' => e = .returned (.tuple #[.int .i64 N, .int .i64 E]) ∧ Hid (Two W w' g x S T' m (n + 1) K ∧ KeepK K w0 w') := by
  subst hfl hN hE hS
  obtain ⟨F, G, h⟩ := h
  have h2 := h.quiet hq
  exact (rsend_any w x n G T c A k cp rs h2.ref hm (hl G fun k hk => ⟨(h.g k hk).1, (h.g k hk).2, h.ref.lt k hk⟩) hk hk2).mono fun e w' ⟨h1, hd⟩ => ⟨h1, Lib.hid ⟨(h2.refTo hd.out).1, fun j hj => ((h2.refTo hd.out).2 j hj).trans (hq.block j (h.k j hj) (by simp))⟩⟩
/-- Bytes that came in, where both nets have gone on. -/
theorem Two.came {W w w1 : World} {g x m n : Nat} {S T : Nt} {K : List Nat} {r : Rw} (h : Two W w g x S T m n K) (hq : Mods [] w w1) (hr : Came W r) {F : List Nat} (hF : ∀ k ∈ F, W.heap.size ≤ k) : Rw.Ok w1 F r := by
  obtain ⟨F2, G, h⟩ := h
  exact (hr.ok hF).mods ((h.mods.trans hq (by simp)).more (by simp))
end Go.Proofs.Ytogcfeplfclobaa
