/- What does of stage 7's law answers, whatever the act; what both New answer. -/
import Derived.Test.YtogcfeplfclobaaDo2
import Derived.Test.YtogcfeplfclobaaDo8
import Derived.Test.YtogcfeplfclobaaDo9
import Derived.Test.YtogcfeplfclobaaDoC
import Derived.Test.YtogcfeplfclobaaNs
namespace Go.Proofs.Ytogcfeplfclobaa
open Go.RowKit
set_option maxRecDepth 10000
set_option linter.unusedVariables false
set_option linter.unusedSimpArgs false

theorem does_any (W w : World) (g x m : Nat) (S : Nt) (k c n : Int) (rB rA : Rw) (h : Two W w g x S S m m []) (hm : m + 9024 ≤ 900000000) (hn : n ≤ 9223372036854775807) (hB : Came W rB) (hA : Came W rA) (hl : rB.l.length ≤ 8000 ∧ rA.l.length ≤ 8000) :
    Calls Try.prog 13 #[.pointer (some ⟨g, 0, none⟩), .pointer (some ⟨x, 0, none⟩), .agg #[.int .i64 k, .int .i64 c, .int .i64 n, .slice rB.A rB.l.length rB.c, .slice rA.A rA.l.length rA.c]] w fun e w' => e = .returned (.bool true) ∧ Hid (Done W w' g x m) := by
  by_cases hk : k < 1 ∨ 12 < k
  · exact does_rest W w g x m S k c n _ _ h hm hk
  · have hk2 : k = 1 ∨ k = 2 ∨ k = 3 ∨ k = 4 ∨ k = 5 ∨ k = 6 ∨ k = 7 ∨ k = 8 ∨ k = 9 ∨ k = 10 ∨ k = 11 ∨ k = 12 := by omega
    rcases hk2 with rfl | rfl | rfl | rfl | rfl | rfl | rfl | rfl | rfl | rfl | rfl | rfl
    · exact does_1 W w g x m S c n _ _ h hm
    · exact does_2 W w g x m S c n rB rA h hm hB hA hl
    · exact does_3 W w g x m S c n _ _ h hm
    · exact does_4 W w g x m S c n _ _ h hm
    · exact does_5 W w g x m S c n _ _ h hm
    · exact does_6 W w g x m S c n _ _ h hm hn
    · exact does_7 W w g x m S c n _ _ h hm
    · exact does_8 W w g x m S c n _ _ h hm
    · exact does_9 W w g x m S c n rB _ h hm hB hl.1
    · exact does_10 W w g x m S c n _ _ h hm
    · exact does_11 W w g x m S c n _ _ h hm
    · exact does_12 W w g x m S c n _ _ h hm
theorem nnew_bad (b : Int) (w : World) (h : b < 1 ∨ 64 < b) : Calls Try.prog 11 #[.int .i64 b] w fun e w' => e = .returned (.tuple #[.pointer none, .int .i64 1]) ∧ w = w' := by
  by_cases h1 : b < 1
  · go_enter Try.func11, Try.ntmps11
    go_wp2
    go_ret2
    exact ⟨rfl, rfl⟩
  · have h2 : 64 < b := by omega
    clear h
    go_enter Try.func11, Try.ntmps11
    go_wp2
    go_ret2
    exact ⟨rfl, rfl⟩
theorem rnew_bad (b : Int) (w : World) (h : b < 1 ∨ 64 < b) : Calls Try.prog 12 #[.int .i64 b] w fun e w' => e = .returned (.tuple #[.pointer none, .int .i64 1]) ∧ w = w' := by
  by_cases h1 : b < 1
  · go_enter Try.func12, Try.ntmps12
    go_wp2
    go_ret2
    exact ⟨rfl, rfl⟩
  · have h2 : 64 < b := by omega
    clear h
    go_enter Try.func12, Try.ntmps12
    go_wp2
    go_ret2
    exact ⟨rfl, rfl⟩
/-- Both nets, made one behind the other. -/
theorem Two.born {W w1 w2 : World} {m n : Nat} {S T : Nt} (hn : NetA w1 W.heap.size [W.heap.size] S m) (hm : Mods [] W w1) (hr : RefA w2 w1.heap.size [w1.heap.size] T n) (hm2 : Mods [] w1 w2) : Two W w2 W.heap.size w1.heap.size S T m n [] := by
  have hg := hn.lt W.heap.size (by simp)
  refine ⟨[W.heap.size], [w1.heap.size], hn.quiet hm2, hr, hm.trans hm2 (by simp), fun k hk => ?_, fun k hk => ?_, by simp⟩
  · simp at hk; subst hk; exact ⟨Nat.le_refl _, by simp, by simp; omega⟩
  · simp at hk; subst hk; exact ⟨hm.size, by simp⟩
theorem stoodT (W w : World) (g x m n : Nat) (S : Nt) (c : Int) (h : Two W w g x S S m n []) :
    Calls Try.prog 14 #[.pointer (some ⟨g, 0, none⟩), .pointer (some ⟨x, 0, none⟩), .int .i64 c] w fun e w' => e = .returned (.bool true) ∧ Hid (Two W w' g x S S m n [] ∧ Mods [] w w') := by
  obtain ⟨F, G, h⟩ := h
  exact (stood_any w g x m n F G S c h.net h.ref).mono fun e w' ⟨he, hm⟩ => ⟨he, Lib.hid ⟨⟨F, G, h.quiet hm.out⟩, hm.out⟩⟩
theorem lenT (W w : World) (g x m n : Nat) (S T : Nt) (h : Two W w g x S T m n []) :
    Calls Try.prog 15 #[.pointer (some ⟨g, 0, none⟩)] w fun e w' => e = .returned (.tuple #[.int .i64 S.wait, .int .i64 (opens S.L : Nat)]) ∧ Hid (Two W w' g x S T m n []) := by
  have h0 := h
  obtain ⟨F, G, h⟩ := h
  exact (len_any w g m F S h.net).mono fun e w' ⟨he, q, hq⟩ => ⟨he, Lib.hid (by rw [hq]; exact h0.quiet ((Mods.refl _ _).drewN q))⟩
theorem rlenT (W w : World) (g x m n : Nat) (S T : Nt) (h : Two W w g x S T m n []) :
    Calls Try.prog 16 #[.pointer (some ⟨x, 0, none⟩)] w fun e w' => e = .returned (.tuple #[.int .i64 T.wait, .int .i64 (opens T.L : Nat)]) ∧ Hid (Two W w' g x S T m n []) := by
  have h0 := h
  obtain ⟨F, G, h⟩ := h
  exact (rlen_any w x n G T h.ref).mono fun e w' ⟨he, hq⟩ => ⟨he, Lib.hid (by rw [← hq]; exact h0)⟩
theorem Two.mods {W w : World} {g x m n : Nat} {S T : Nt} {K : List Nat} (h : Two W w g x S T m n K) : Mods [] W w := by obtain ⟨F, G, h⟩ := h; exact h.mods
/-- The reference's list: its cell, and its length. -/
theorem Two.list {W w : World} {g x m n : Nat} {S T : Nt} {K : List Nat} (h : Two W w g x S T m n K) : ∃ A cp, w.cell? ⟨x, 1, none⟩ = some (.slice A T.L.length cp) ∧ T.L.length ≤ 65536 := by
  obtain ⟨F, G, h⟩ := h
  obtain ⟨vl, vn, X, R, rfl, hA⟩ := h.ref
  obtain ⟨A, cp, rfl, -, -⟩ := hA.slice
  exact ⟨A, cp, hA.row.cell 1, by have := hA.ok.n2; omega⟩
end Go.Proofs.Ytogcfeplfclobaa
