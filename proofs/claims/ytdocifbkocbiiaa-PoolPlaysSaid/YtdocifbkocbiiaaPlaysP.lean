/- Both pools side by side, as the law's script moves them. -/
import Derived.Test.YtdocifbkocbiiaaRefPut
import Derived.Test.YtdocifbkocbiiaaPoolL
import Derived.Test.YtdocifbkocbiiaaOpenN
namespace Go.Proofs.Ytdocifbkocbiiaa
open Go.RowKit
set_option maxRecDepth 10000
set_option linter.unusedVariables false
set_option linter.unusedSimpArgs false

/-- A Put whose numbers stand in a block that is known whole. -/
theorem nums_row {w : World} {b : Nat} {ty : TypeId} {l : List Int} (F : List Nat) (hr : Row w b ty (iv l).toArray) (hb : b ∉ F) : NumsAt w F (some ⟨b, 0, none⟩) l := fun i x hx => by
  refine ⟨b, 0, rfl, hr.lt, hb, ?_⟩
  rw [Nat.zero_add, hr.cell i, List.getElem?_toArray]
  simp [iv, hx]
theorem put_row (w : World) (g m z t k b : Nat) (d : Int) (O O' : List Bool) (l : List Int) (ty : TypeId) (h : PoolA w g m z O t) (hr : Row w b ty (iv l).toArray) (hb : b ∉ [g, m]) (hk : l.length = k) (hk2 : k ≤ 1000000) (hO : puts O l = O') (hd : (cnt O : Int) - (cnt O' : Int) = d) :
    Calls Try.prog 15 #[.pointer (some ⟨g, 0, none⟩), .slice (some ⟨b, 0, none⟩) k k] w fun e w' =>
      e = .returned (.int .i64 d) ∧ PoolA w' g m z O' t ∧ Mods [g, m] w w' := by
  subst hk hO hd
  exact (put_any w g m z t l.length l.length O _ l h (nums_row _ hr hb) rfl hk2).mono fun e w' ⟨he, hd⟩ => ⟨he, hd.out⟩
theorem rput_row (w : World) (g m z t k b : Nat) (d : Int) (O O' : List Bool) (l : List Int) (ty : TypeId) (h : PoolR w g m z O t) (hr : Row w b ty (iv l).toArray) (hb : b ∉ [g, m]) (hk : l.length = k) (hk2 : k ≤ 1000000) (hO : puts O l = O') (hd : (cnt O : Int) - (cnt O' : Int) = d) :
    Calls Try.prog 16 #[.pointer (some ⟨g, 0, none⟩), .slice (some ⟨b, 0, none⟩) k k] w fun e w' =>
      e = .returned (.int .i64 d) ∧ PoolR w' g m z O' t ∧ Mods [g, m] w w' := by
  subst hk hO hd
  exact (rput_any w g m z t l.length l.length O _ l h (nums_row _ hr hb) rfl hk2).mono fun e w' ⟨he, hd⟩ => ⟨he, hd.out⟩
/-- Both pools, the same lent in both. -/
structure St (W wr : World) (H z : Nat) (O : List Bool) (t : Nat) : Prop where
  a : PoolA wr (W.heap.size + 1) W.heap.size z O t
  b : PoolR wr (H + 1) H z O t
  mods : Mods [] W wr
  high : W.heap.size + 1 < H
section
variable {W wr w' w2 w3 : World} {H z t t' : Nat} {O O' : List Bool}
theorem St.next (h : St W wr H z O t) (ha : PoolA w' (W.heap.size + 1) W.heap.size z O' t') (hb : PoolR w' (H + 1) H z O' t') (hm : Mods [W.heap.size + 1, W.heap.size, H + 1, H] wr w') : St W w' H z O' t' :=
  ⟨ha, hb, h.mods.trans hm (by intro j hj; right; have := h.high; simp at hj; omega), h.high⟩
theorem St.lt (h : St W wr H z O t) : H + 1 < wr.heap.size := h.b.lt (H + 1) (by simp)
theorem St.quiet (h : St W wr H z O t) (hm : Mods [] wr w') : St W w' H z O t :=
  h.next (h.a.mods hm (by simp)) (h.b.mods hm (by simp)) (hm.more (by simp))
/-- The program's pool has moved, then the reference's. -/
theorem St.ab (h : St W wr H z O t) (ha : PoolA w2 (W.heap.size + 1) W.heap.size z O' t') (m1 : Mods [W.heap.size + 1, W.heap.size] wr w2) (hb : PoolR w3 (H + 1) H z O' t') (m2 : Mods [H + 1, H] w2 w3) : St W w3 H z O' t' :=
  h.next (ha.mods m2 (by intro j hj hj2; have := h.high; simp at hj hj2; omega)) hb ((m1.more (by intro j hj; left; simp at hj ⊢; omega)).trans m2 (by intro j hj; left; simp at hj ⊢; omega))
theorem St.ba (h : St W wr H z O t) (hb : PoolR w2 (H + 1) H z O' t') (m1 : Mods [H + 1, H] wr w2) (ha : PoolA w3 (W.heap.size + 1) W.heap.size z O' t') (m2 : Mods [W.heap.size + 1, W.heap.size] w2 w3) : St W w3 H z O' t' :=
  h.next ha (hb.mods m2 (by intro j hj hj2; have := h.high; simp at hj hj2; omega)) ((m1.more (by intro j hj; left; simp at hj ⊢; omega)).trans m2 (by intro j hj; left; simp at hj ⊢; omega))
theorem St.bAfter (h : St W wr H z O t) (m1 : Mods [W.heap.size + 1, W.heap.size] wr w2) : PoolR w2 (H + 1) H z O t := h.b.mods m1 (by intro j hj hj2; have := h.high; simp at hj hj2; omega)
theorem St.aAfter (h : St W wr H z O t) (m1 : Mods [H + 1, H] wr w2) : PoolA w2 (W.heap.size + 1) W.heap.size z O t := h.a.mods m1 (by intro j hj hj2; have := h.high; simp at hj hj2; omega)
theorem St.far (h : St W wr H z O t) (h5 : St W w2 H z O' t') (hm : Mods [wr.heap.size + 1, wr.heap.size] w2 w3) : St W w3 H z O' t' := by
  have l1 := h.lt
  have l2 := h.high
  exact ⟨h5.a.mods hm (by intro j hj hj2; simp at hj hj2; omega), h5.b.mods hm (by intro j hj hj2; simp at hj hj2; omega), h5.mods.trans hm (by intro j hj; right; simp at hj; omega), h5.high⟩
/-- A new ring is no pool's. -/
theorem St.ringFar (h : St W wr H z O t) {L : List Int} (hr : RingA w2 (wr.heap.size + 1) wr.heap.size z L) (m2 : Mods [H + 1, H] w2 w3) : RingA w3 (wr.heap.size + 1) wr.heap.size z L :=
  hr.mods m2 (by intro j hj hj2; have := h.lt; simp at hj hj2; omega)
end
theorem head1 {F : List Nat} {a w : World} {o : Obj} (h : Mods F (a.alloc o).drew w) : Mods F a w := ((Mods.refl F a).alloc o).trans (of_drew h) (fun b hb => .inl hb)
theorem head2 {F : List Nat} {a w : World} {o o' : Obj} (h : Mods F ((a.alloc o).alloc o').drew w) : Mods F a w := (((Mods.refl F a).alloc o).alloc o').trans (of_drew h) (fun b hb => .inl hb)
theorem head3 {F : List Nat} {a w : World} {o : Obj} (h : Mods F (a.alloc o) w) : Mods F a w := ((Mods.refl F a).alloc o).trans h (fun b hb => .inl hb)
theorem row_at {w : World} {t : TypeId} {cs : Array Value} {n : Nat} (h : w.heap.size = n) : Row (w.alloc (.cells cs t)) n t cs := by subst h; exact Row.new w t cs
#print axioms St.ab
end Go.Proofs.Ytdocifbkocbiiaa
