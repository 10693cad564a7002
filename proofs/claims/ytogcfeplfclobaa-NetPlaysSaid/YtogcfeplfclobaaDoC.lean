/- What does of stage 7's law answers: Close, of both nets in one comparison; Inject. -/
import Derived.Test.YtogcfeplfclobaaDo1
import Derived.Deep.RegionHeld3
import Derived.Deep.CutBlock
import Derived.BigRegion
namespace Go.Proofs.Ytogcfeplfclobaa
open Go.RowKit
set_option maxRecDepth 10000
set_option linter.unusedVariables false
set_option linter.unusedSimpArgs false

theorem Row.nums {w : World} {b : Nat} {t : TypeId} {l : List Int} (h : Row w b t (iv l).toArray) {F : List Nat} (hF : b ∉ F) : NumsAt w F (some ⟨b, 0, none⟩) l := fun i x hx => by
  refine ⟨b, 0, rfl, h.lt, hF, ?_⟩
  rw [Nat.zero_add, h.cell i, List.getElem?_toArray]
  simp [iv, hx]
theorem closeK (W w : World) (g x m n b cp k : Nat) (t : TypeId) (S T : Nt) (K : List Nat) (l : List Int) (h : Two W w g x S T m n K) (hb : b ∈ K) (hr : Row w b t (iv l).toArray) (hk : k = l.length) (hl : l.length ≤ 1000000) (N : Nat) (S' : Nt) (hN : S.closeN l = N) (hS : S.close l = S') :
    Calls Try.prog 30 #[.pointer (some ⟨g, 0, none⟩), .slice (some ⟨b, 0, none⟩) k cp] w fun e w' => e = .returned (.int .i64 N) ∧ Hid (Two W w' g x S' T m n K ∧ KeepK K w w') := by
  subst hN hS
  obtain ⟨F, G, h⟩ := h
  exact (close_any w g m k cp F S _ l h.net (hr.nums (fun h2 => (h.f b h2).2.1 hb)) hk hl).mono fun e w' ⟨h1, hd⟩ => ⟨h1, Lib.hid (h.netTo hd.out)⟩
theorem rcloseK (W w : World) (g x m n b cp k : Nat) (t : TypeId) (S T : Nt) (K : List Nat) (l : List Int) (h : Two W w g x S T m n K) (hb : b ∈ K) (hr : Row w b t (iv l).toArray) (hk : k = l.length) (hl : l.length ≤ 1000000) (N : Nat) (T' : Nt) (hN : T.closeN l = N) (hS : T.close l = T') :
    Calls Try.prog 47 #[.pointer (some ⟨x, 0, none⟩), .slice (some ⟨b, 0, none⟩) k cp] w fun e w' => e = .returned (.int .i64 N) ∧ Hid (Two W w' g x S T' m n K ∧ KeepK K w w') := by
  subst hN hS
  obtain ⟨F, G, h⟩ := h
  exact (rclose_any w x n k cp G T _ l h.ref (hr.nums (fun h2 => (h.g b h2).2 hb)) hk hl).mono fun e w' ⟨h1, hd⟩ => ⟨h1, Lib.hid (h.refTo hd.out)⟩
theorem Two.onto {W w : World} {g x m n : Nat} {S T : Nt} {K : List Nat} (h : Two W w g x S T m n K) (o : Obj) : Two W (w.alloc o) g x S T m n (K ++ [w.heap.size]) := by
  obtain ⟨F, G, h⟩ := h
  exact ⟨F, G, h.new ((Mods.refl [] w).alloc o) (l := [w.heap.size]) fun k hk => by simp at hk; subst hk; simp⟩
theorem Row.same {w w2 : World} {b : Nat} {t : TypeId} {cs : Array Value} (h : Row w b t cs) (e : w2.heap = w.heap) : Row w2 b t cs := h.keep (by rw [e])
theorem Two.same {W w w2 : World} {g x m n : Nat} {S T : Nt} {K : List Nat} (h : Two W w g x S T m n K) (h1 : w2.heap = w.heap) (h2 : w2.os = w.os) (h3 : w2.tape = w.tape) (h4 : w2.output = w.output) : Two W w2 g x S T m n K :=
  h.quiet ((Mods.refl [] w).same h1 h2 h3 h4)
set_option maxHeartbeats 4000000 in
theorem does_11 (W w : World) (g x m : Nat) (S : Nt) (c n : Int) (vB vA : Value) (h : Two W w g x S S m m []) (hm : m + 9024 ≤ 900000000) :
    Calls Try.prog 13 #[.pointer (some ⟨g, 0, none⟩), .pointer (some ⟨x, 0, none⟩), .agg #[.int .i64 11, .int .i64 c, .int .i64 n, vB, vA]] w fun e w' => e = .returned (.bool true) ∧ Hid (Done W w' g x m) := by
  have h1 := h.boxed #[.int .i64 11, .int .i64 c, .int .i64 n, vB, vA] 35
  have r1 := Row.new w 35 #[.int .i64 11, .int .i64 c, .int .i64 n, vB, vA]
  obtain ⟨w0, hw0⟩ : ∃ w0, w0 = w.alloc (.cells #[.int .i64 11, .int .i64 c, .int .i64 n, vB, vA] 35) := ⟨_, rfl⟩
  obtain ⟨bx, hbx⟩ : ∃ bx, bx = w.heap.size := ⟨_, rfl⟩
  rw [← hw0, ← hbx] at h1 r1
  obtain ⟨N, hN⟩ : ∃ N, S.closeN [c, n, c] = N := ⟨_, rfl⟩
  obtain ⟨S', hS⟩ : ∃ S', S.close [c, n, c] = S' := ⟨_, rfl⟩
  have C1 := Lib.hid (fun (w1 : World) (K : List Nat) (b : Nat) (h2 : Two W w1 g x S S m m K) (hb : b ∈ K) (hr : Row w1 b 3 #[.int .i64 c, .int .i64 n, .int .i64 c]) => closeK W w1 g x m m b 3 3 3 S S K [c, n, c] h2 hb hr rfl (by simp) N S' hN hS)
  have C2 := Lib.hid (fun (w1 : World) (K : List Nat) (b : Nat) (h2 : Two W w1 g x S' S m m K) (hb : b ∈ K) (hr : Row w1 b 3 #[.int .i64 c, .int .i64 n, .int .i64 c]) => rcloseK W w1 g x m m b 3 3 3 S' S K [c, n, c] h2 hb hr rfl (by simp) N S' hN hS)
  have H1 := Lib.hid h1
  have R1 := Lib.hid r1
  have q1 : w0.cell? ⟨bx, 1, none⟩ = some (.int .i64 c) := r1.cell 1
  have q2 : w0.cell? ⟨bx, 2, none⟩ = some (.int .i64 n) := r1.cell 2
  obtain ⟨u, hu⟩ : ∃ u, u = w0.heap.size := ⟨_, rfl⟩
  have HA := Lib.hid (show Two W (w0.alloc (.cells #[.int .i64 c, .int .i64 n, .int .i64 c] 3)) g x S S m m [bx, u] ∧ Row (w0.alloc (.cells #[.int .i64 c, .int .i64 n, .int .i64 c] 3)) u 3 #[.int .i64 c, .int .i64 n, .int .i64 c] ∧ Row (w0.alloc (.cells #[.int .i64 c, .int .i64 n, .int .i64 c] 3)) bx 35 #[.int .i64 11, .int .i64 c, .int .i64 n, vB, vA] by
    rw [hu]; exact ⟨h1.onto _, Row.new _ _ _, r1.alloc _⟩)
  have HB := Lib.hid (show Two W ((w0.alloc (.cells #[.int .i64 c, .int .i64 n, .int .i64 c] 3)).alloc (.cells #[.int .i64 c, .int .i64 n, .int .i64 c] 3)) g x S S m m [bx, u, u + 1] ∧ Row ((w0.alloc (.cells #[.int .i64 c, .int .i64 n, .int .i64 c] 3)).alloc (.cells #[.int .i64 c, .int .i64 n, .int .i64 c] 3)) u 3 #[.int .i64 c, .int .i64 n, .int .i64 c] ∧ Row ((w0.alloc (.cells #[.int .i64 c, .int .i64 n, .int .i64 c] 3)).alloc (.cells #[.int .i64 c, .int .i64 n, .int .i64 c] 3)) (u + 1) 3 #[.int .i64 c, .int .i64 n, .int .i64 c] ∧ Row ((w0.alloc (.cells #[.int .i64 c, .int .i64 n, .int .i64 c] 3)).alloc (.cells #[.int .i64 c, .int .i64 n, .int .i64 c] 3)) bx 35 #[.int .i64 11, .int .i64 c, .int .i64 n, vB, vA] by
    rw [hu]
    refine ⟨by simpa using (h1.onto (.cells #[.int .i64 c, .int .i64 n, .int .i64 c] 3)).onto (.cells #[.int .i64 c, .int .i64 n, .int .i64 c] 3), (Row.new _ _ _).alloc _, ?_, (r1.alloc _).alloc _⟩
    have := Row.new (w0.alloc (.cells #[.int .i64 c, .int .i64 n, .int .i64 c] 3)) 3 #[.int .i64 c, .int .i64 n, .int .i64 c]
    simpa using this)
  have HU := Lib.hid hu
  clear h h1 r1 hN hS hu
  go_enter Try.func13, Try.ntmps13
  go_upto_region 43 with fail
  rw [← hw0, ← hbx]
  clear hw0 hbx
  go_region_held3 (fun w' => w'.cell? ⟨bx, 1, none⟩ = some (.int .i64 c) ∧ w'.cell? ⟨bx, 2, none⟩ = some (.int .i64 n)) (go_keep)
    (first
      | (go_at_call 30; (with_reducible show Calls _ _ #[_, .slice (some ⟨w0.heap.size, 0, none⟩) 3 3] (World.drew (World.alloc w0 _)) _); refine Calls.mono (C1.out _ [bx, u] w0.heap.size ?_ (by rw [HU.out]; simp) ?_) ?_; exact HA.out.1.same rfl rfl rfl rfl; exact (Row.new w0 _ _).same rfl; rintro e w2 ⟨rfl, hd⟩; have H2 := Lib.hid hd.out.1; have R2 := Lib.hid (HA.out.2.2.keep (hd.out.2 _ (by simp))); have z1 : w2.cell? ⟨bx, 1, none⟩ = some (.int .i64 c) := R2.out.cell 1; have z2 : w2.cell? ⟨bx, 2, none⟩ = some (.int .i64 n) := R2.out.cell 2; clear hd)
      | (go_at_call 30; (with_reducible show Calls _ _ #[_, .slice (some ⟨w0.heap.size, 0, none⟩) 3 3] (World.drew (World.alloc (World.alloc w0 _) _)) _); refine Calls.mono (C1.out _ [bx, u, u + 1] (w0.heap.size) ?_ (by rw [HU.out]; simp) ?_) ?_; exact HB.out.1.same rfl rfl rfl rfl; rw [← HU.out]; exact HB.out.2.1.same rfl; rintro e w2 ⟨rfl, hd⟩; have H2 := Lib.hid hd.out.1; have R2 := Lib.hid (HB.out.2.2.2.keep (hd.out.2 _ (by simp))); have RU := Lib.hid (And.intro (HB.out.2.1.keep (hd.out.2 _ (by simp))) (HB.out.2.2.1.keep (hd.out.2 _ (by simp)))); have z1 : w2.cell? ⟨bx, 1, none⟩ = some (.int .i64 c) := R2.out.cell 1; have z2 : w2.cell? ⟨bx, 2, none⟩ = some (.int .i64 n) := R2.out.cell 2; clear hd)
      | (go_at_call 30; (with_reducible show Calls _ _ #[_, .slice (some ⟨w0.heap.size + 1, 0, none⟩) 3 3] (World.drew (World.alloc (World.alloc w0 _) _)) _); refine Calls.mono (C1.out _ [bx, u, u + 1] (w0.heap.size + 1) ?_ (by rw [HU.out]; simp) ?_) ?_; exact HB.out.1.same rfl rfl rfl rfl; rw [← HU.out]; exact HB.out.2.2.1.same rfl; rintro e w2 ⟨rfl, hd⟩; have H2 := Lib.hid hd.out.1; have R2 := Lib.hid (HB.out.2.2.2.keep (hd.out.2 _ (by simp))); have RU := Lib.hid (And.intro (HB.out.2.1.keep (hd.out.2 _ (by simp))) (HB.out.2.2.1.keep (hd.out.2 _ (by simp)))); have z1 : w2.cell? ⟨bx, 1, none⟩ = some (.int .i64 c) := R2.out.cell 1; have z2 : w2.cell? ⟨bx, 2, none⟩ = some (.int .i64 n) := R2.out.cell 2; clear hd)
      | (go_at_call 47; have hx := RU; clear hx; (with_reducible show Calls _ _ #[_, .slice (some ⟨w0.heap.size + 1, 0, none⟩) 3 3] _ _); refine Calls.mono (C2.out _ [bx, u, u + 1] (w0.heap.size + 1) ?_ (by rw [HU.out]; simp) ?_) ?_; exact H2.out.same rfl rfl rfl rfl; rw [← HU.out]; exact RU.out.2.same rfl; rintro e w3 ⟨rfl, hd⟩; have H3 := Lib.hid (hd.out.1.less (K' := []) (by simp)); have R3 := Lib.hid (R2.out.keep (hd.out.2 bx (by simp))); have y1 : w3.cell? ⟨bx, 1, none⟩ = some (.int .i64 c) := R3.out.cell 1; have y2 : w3.cell? ⟨bx, 2, none⟩ = some (.int .i64 n) := R3.out.cell 2; clear hd)
      | (go_at_call 47; have hx := RU; clear hx; (with_reducible show Calls _ _ #[_, .slice (some ⟨w0.heap.size, 0, none⟩) 3 3] _ _); refine Calls.mono (C2.out _ [bx, u, u + 1] (w0.heap.size) ?_ (by rw [HU.out]; simp) ?_) ?_; exact H2.out.same rfl rfl rfl rfl; rw [← HU.out]; exact RU.out.1.same rfl; rintro e w3 ⟨rfl, hd⟩; have H3 := Lib.hid (hd.out.1.less (K' := []) (by simp)); have R3 := Lib.hid (R2.out.keep (hd.out.2 bx (by simp))); have y1 : w3.cell? ⟨bx, 1, none⟩ = some (.int .i64 c) := R3.out.cell 1; have y2 : w3.cell? ⟨bx, 2, none⟩ = some (.int .i64 n) := R3.out.cell 2; clear hd)
      | (go_at_call 47; refine Calls.mono (C2.out _ ([bx, u] ++ [w2.heap.size]) w2.heap.size ?_ (by simp) ?_) ?_; exact (H2.out.onto _).same rfl rfl rfl rfl; exact (Row.new w2 _ _).same rfl; rintro e w3 ⟨rfl, hd⟩; have H3 := Lib.hid (hd.out.1.less (K' := []) (by simp)); have R3 := Lib.hid ((R2.out.alloc _).keep (hd.out.2 bx (by simp))); have y1 : w3.cell? ⟨bx, 1, none⟩ = some (.int .i64 c) := R3.out.cell 1; have y2 : w3.cell? ⟨bx, 2, none⟩ = some (.int .i64 n) := R3.out.cell 2; clear hd))
  all_goals
    go_wp2
    go_ret
    exact ⟨by simp, Lib.hid (H3.out.done ((Mods.refl [] w3).same rfl rfl rfl rfl) (by omega) (by omega) hm)⟩
theorem injectT (W w : World) (g x m n : Nat) (S T : Nt) (K : List Nat) (k : Int) (h : Two W w g x S T m n K) (hk : k ≤ 9223372036854775807) :
    Calls Try.prog 26 #[.pointer (some ⟨g, 0, none⟩), .int .i64 k] w fun e w' => e = .returned (.tuple #[]) ∧ Hid (Two W w' g x (S.inject k) T m n K ∧ KeepK K w w') := by
  obtain ⟨F, G, h⟩ := h
  exact (inject_any w g m F S k h.net hk).mono fun e w' ⟨h1, hd⟩ => ⟨h1, Lib.hid (h.netTo ⟨F, hd.out.1, hd.out.2, fun k hk => .inl hk⟩)⟩
/-- The reference's own field is set. -/
theorem rinject_at {W w : World} {g x m n : Nat} {S T : Nt} {K : List Nat} {k v : Int} (h : Two W w g x S T m n K) (hk : k ≤ 9223372036854775807) (hv : v = max k 0) :
    (∀ i, w.frozen? ⟨x, i, none⟩ = false) ∧ (∃ u, w.cell? ⟨x, 3, none⟩ = some u) ∧ Two W (w.setCell ⟨x, 3, none⟩ (.int .i64 v)) g x S (T.inject k) m n K := by
  subst hv
  obtain ⟨F, G, h⟩ := h
  obtain ⟨vl, vn, X, R, rfl, hA⟩ := h.ref
  refine ⟨hA.row.free, ⟨_, hA.row.cell 3⟩, (h.refTo (T' := T.inject k) (n' := n) ⟨_, ⟨vl, vn, X, R, rfl, ?_⟩, Mods.setCell (F := rfoot x vl vn X) (Mods.refl _ w) (p := ⟨x, 3, none⟩) (.inl (mem_rfoot.2 (.inl rfl))) _, fun k hk => .inl hk⟩).1⟩
  refine ⟨?_, hA.ptr.keep fun j hj => heap_setCell_other w ⟨x, 3, none⟩ j _ (hA.ptr.ne_row hA.row (by decide) j hj), hA.num.keep fun j hj => heap_setCell_other w ⟨x, 3, none⟩ j _ (hA.num.ne_row hA.row (by decide) j hj), hA.cs.keep fun j hj => heap_setCell_other w ⟨x, 3, none⟩ j _ (fun e => hA.g_fts (by have : j = x := e; rw [← this]; exact hj)), hA.ag, hA.st, ⟨hA.ok.b1, hA.ok.b2, by simp only [Nt.inject]; omega, by simp only [Nt.inject]; omega, hA.ok.n1, hA.ok.n2, hA.ok.cn, hA.ok.op, hA.ok.mm⟩⟩
  have h9 : Row (w.setCell ⟨x, 3, none⟩ (.int .i64 (max k 0))) x 42 #[.int .i64 T.back, vl, vn, .int .i64 (max k 0), .bool T.stop, .int .i64 (T.L.length : Nat)] := by
    have := hA.row.set 3 (.int .i64 (max k 0))
    simpa using this
  exact h9
set_option maxHeartbeats 2000000 in
theorem does_6 (W w : World) (g x m : Nat) (S : Nt) (c n : Int) (vB vA : Value) (h : Two W w g x S S m m []) (hm : m + 9024 ≤ 900000000) (hn : n ≤ 9223372036854775807) :
    Calls Try.prog 13 #[.pointer (some ⟨g, 0, none⟩), .pointer (some ⟨x, 0, none⟩), .agg #[.int .i64 6, .int .i64 c, .int .i64 n, vB, vA]] w fun e w' => e = .returned (.bool true) ∧ Hid (Done W w' g x m) := by
  have H1 := Lib.hid (h.boxed #[.int .i64 6, .int .i64 c, .int .i64 n, vB, vA] 35)
  have R1 := Lib.hid (Row.new w 35 #[.int .i64 6, .int .i64 c, .int .i64 n, vB, vA])
  clear h
  go_enter Try.func13, Try.ntmps13
  go_wp2_with fail
  refine (injectT W _ g x m m S S [w.heap.size] n H1.out hn).mono ?_
  rintro e w2 ⟨rfl, hd⟩
  have H2 := Lib.hid hd.out.1
  have R2 := Lib.hid (R1.out.keep (hd.out.2 _ (by simp)))
  have c2 := R2.out.cell 2
  clear hd
  by_cases h0 : 0 < n
  · obtain ⟨fx, ⟨u, cu⟩, h3⟩ := rinject_at (v := n) H2.out hn (by omega)
    have H3 := Lib.hid h3
    clear h3
    go_wp2
    go_ret
    exact ⟨rfl, Lib.hid (H3.out.done (Mods.refl _ _) (by omega) (by omega) hm)⟩
  · obtain ⟨fx, ⟨u, cu⟩, h3⟩ := rinject_at (v := 0) H2.out hn (by omega)
    have H3 := Lib.hid h3
    clear h3
    go_wp2
    all_goals go_ret
    all_goals exact ⟨rfl, Lib.hid (H3.out.done (Mods.refl _ _) (by omega) (by omega) hm)⟩
end Go.Proofs.Ytogcfeplfclobaa
