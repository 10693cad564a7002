/- What does of stage 7's law answers: the kinds whose calls stand in rows of their own (Connect, Accept, Stop, none). -/
import Derived.Test.YtogcfeplfclobaaSt7
namespace Go.Proofs.Ytogcfeplfclobaa
open Go.RowKit
set_option maxRecDepth 10000
set_option linter.unusedVariables false
set_option linter.unusedSimpArgs false

theorem Two.more {W w : World} {g x m n m' n' : Nat} {S T : Nt} {K : List Nat} (h : Two W w g x S T m n K) (h1 : m ≤ m') (h2 : n ≤ n') (h3 : m' ≤ 900000000) (h4 : n' ≤ 900000000) : Two W w g x S T m' n' K := by
  obtain ⟨F, G, h⟩ := h
  exact ⟨F, G, h.net.more h1 h3, h.ref.more h2 h4, h.mods, h.f, h.g, h.k⟩
/-- Both have gone on alike. -/
def Done (W w : World) (g x m : Nat) : Prop := ∃ S, Two W w g x S S (m + 9024) (m + 9024) []
/-- The act as `does` holds it. -/
def actRow (k c n : Int) (vB vA : Value) : Array Value := #[.int .i64 k, .int .i64 c, .int .i64 n, vB, vA]
theorem Two.boxed {W w : World} {g x m n : Nat} {S T : Nt} (h : Two W w g x S T m n []) (cs : Array Value) (t : TypeId) : Two W (w.alloc (.cells cs t)) g x S T m n [w.heap.size] := by
  obtain ⟨F, G, h⟩ := h
  exact ⟨F, G, by simpa using h.new (l := [w.heap.size]) ((Mods.refl [] w).alloc (.cells cs t)) (fun k hk => by simp at hk; subst hk; simp)⟩
theorem Two.done {W w w' : World} {g x m m1 m2 : Nat} {S : Nt} {K : List Nat} (h : Two W w g x S S m1 m2 K) (hm : Mods [] w w') (h1 : m1 ≤ m + 9024) (h2 : m2 ≤ m + 9024) (h3 : m + 9024 ≤ 900000000) : Done W w' g x m :=
  ⟨S, ((h.quiet hm).less (by simp)).more h1 h2 h3 h3⟩
set_option maxHeartbeats 2000000 in
theorem does_1 (W w : World) (g x m : Nat) (S : Nt) (c n : Int) (vB vA : Value) (h : Two W w g x S S m m []) (hm : m + 9024 ≤ 900000000) :
    Calls Try.prog 13 #[.pointer (some ⟨g, 0, none⟩), .pointer (some ⟨x, 0, none⟩), .agg #[.int .i64 1, .int .i64 c, .int .i64 n, vB, vA]] w fun e w' => e = .returned (.bool true) ∧ Hid (Done W w' g x m) := by
  have H1 := Lib.hid (h.boxed #[.int .i64 1, .int .i64 c, .int .i64 n, vB, vA] 35)
  have R1 := Lib.hid (Row.new w 35 #[.int .i64 1, .int .i64 c, .int .i64 n, vB, vA])
  clear h
  go_enter Try.func13, Try.ntmps13
  go_wp2_with fail
  refine (connT W _ g x m m S S [w.heap.size] n H1.out).mono ?_
  rintro e w2 ⟨rfl, hd⟩
  have H2 := Lib.hid hd.out.1
  have R2 := Lib.hid (R1.out.keep (hd.out.2 _ (by simp)))
  have c2 := R2.out.cell 2
  clear hd
  go_wp2_with fail
  refine (rconnT W _ g x m m (S.conn n) S [w.heap.size] n H2.out).mono ?_
  rintro e w3 ⟨rfl, hd⟩
  have H3 := Lib.hid hd.out.1
  clear hd
  go_wp2
  go_ret
  exact ⟨by simp, Lib.hid (H3.out.done (Mods.refl _ _) (by omega) (by omega) hm)⟩
set_option maxHeartbeats 2000000 in
theorem does_7 (W w : World) (g x m : Nat) (S : Nt) (c n : Int) (vB vA : Value) (h : Two W w g x S S m m []) (hm : m + 9024 ≤ 900000000) :
    Calls Try.prog 13 #[.pointer (some ⟨g, 0, none⟩), .pointer (some ⟨x, 0, none⟩), .agg #[.int .i64 7, .int .i64 c, .int .i64 n, vB, vA]] w fun e w' => e = .returned (.bool true) ∧ Hid (Done W w' g x m) := by
  have H1 := Lib.hid (h.boxed #[.int .i64 7, .int .i64 c, .int .i64 n, vB, vA] 35)
  clear h
  go_enter Try.func13, Try.ntmps13
  go_wp2_with fail
  refine (accT W _ g x m m S S [w.heap.size] H1.out).mono ?_
  rintro e w2 ⟨rfl, hd⟩
  have H2 := Lib.hid hd.out.1
  clear hd
  go_wp2_with fail
  refine (raccT W _ g x m m S.acc S [w.heap.size] H2.out).mono ?_
  rintro e w3 ⟨rfl, hd⟩
  have H3 := Lib.hid hd.out.1
  clear hd
  go_wp2
  go_ret
  exact ⟨by simp, Lib.hid (H3.out.done (Mods.refl _ _) (by omega) (by omega) hm)⟩
set_option maxHeartbeats 2000000 in
theorem does_12 (W w : World) (g x m : Nat) (S : Nt) (c n : Int) (vB vA : Value) (h : Two W w g x S S m m []) (hm : m + 9024 ≤ 900000000) :
    Calls Try.prog 13 #[.pointer (some ⟨g, 0, none⟩), .pointer (some ⟨x, 0, none⟩), .agg #[.int .i64 12, .int .i64 c, .int .i64 n, vB, vA]] w fun e w' => e = .returned (.bool true) ∧ Hid (Done W w' g x m) := by
  have H1 := Lib.hid (h.boxed #[.int .i64 12, .int .i64 c, .int .i64 n, vB, vA] 35)
  clear h
  go_enter Try.func13, Try.ntmps13
  go_wp2_with fail
  refine (stopT W _ g x m m S S [w.heap.size] H1.out).mono ?_
  rintro e w2 ⟨rfl, hd⟩
  have H2 := Lib.hid hd.out.1
  clear hd
  go_wp2_with fail
  refine (rstopT W _ g x m m S.stopped S [w.heap.size] H2.out).mono ?_
  rintro e w3 ⟨rfl, hd⟩
  have H3 := Lib.hid hd.out.1
  clear hd
  go_wp2
  go_ret
  exact ⟨rfl, Lib.hid (H3.out.done (Mods.refl _ _) (by omega) (by omega) hm)⟩
set_option maxHeartbeats 2000000 in
theorem does_rest (W w : World) (g x m : Nat) (S : Nt) (k c n : Int) (vB vA : Value) (h : Two W w g x S S m m []) (hm : m + 9024 ≤ 900000000) (hk : k < 1 ∨ 12 < k) :
    Calls Try.prog 13 #[.pointer (some ⟨g, 0, none⟩), .pointer (some ⟨x, 0, none⟩), .agg #[.int .i64 k, .int .i64 c, .int .i64 n, vB, vA]] w fun e w' => e = .returned (.bool true) ∧ Hid (Done W w' g x m) := by
  have H1 := Lib.hid (h.boxed #[.int .i64 k, .int .i64 c, .int .i64 n, vB, vA] 35)
  have e1 : (k == 1) = false := by simp; omega
  have e2 : (k == 2) = false := by simp; omega
  have e3 : (k == 3) = false := by simp; omega
  have e4 : (k == 4) = false := by simp; omega
  have e5 : (k == 5) = false := by simp; omega
  have e6 : (k == 6) = false := by simp; omega
  have e7 : (k == 7) = false := by simp; omega
  have e8 : (k == 8) = false := by simp; omega
  have e9 : (k == 9) = false := by simp; omega
  have e10 : (k == 10) = false := by simp; omega
  have e11 : (k == 11) = false := by simp; omega
  have e12 : (k == 12) = false := by simp; omega
  clear h hk
  go_enter Try.func13, Try.ntmps13
  go_wp2
  go_ret
  exact ⟨rfl, Lib.hid (H1.out.done (Mods.refl _ _) (by omega) (by omega) hm)⟩
end Go.Proofs.Ytogcfeplfclobaa
