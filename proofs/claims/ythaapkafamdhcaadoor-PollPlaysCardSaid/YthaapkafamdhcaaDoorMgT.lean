/- Two pollers side by side, the program's and the document's, over plain states of their own. -/
import Derived.Test.YthaapkafamdhcaaDoorMgG
import Derived.Test.YthaapkafamdhcaaDoorMgQ
import Derived.Test.YthaapkafamdhcaaDoorMgS
import Derived.Test.YthaapkafamdhcaaDoorMgN
import Derived.Test.YthaapkafamdhcaaDoorMgR
namespace Go.Proofs.YthaapkafamdhcaaDoor
open Go.RowKit
set_option maxRecDepth 10000
set_option linter.unusedVariables false
set_option linter.unusedSimpArgs false

/-- The program's poller (p, over the net g) and the document's (q, over the net y) in a law whose own world is W: apart, newer than W, nothing of them in the blocks Kb. -/
structure PBoth (W w : World) (p g q y : Nat) (F G : List Nat) (P Q : Plr) (m K n L : Nat) (Kb : List Nat) : Prop where
  pol : PolA w p g F P m K
  rol : RolA w q y G Q n L
  mods : Mods [] W w
  f : ∀ k ∈ F, W.heap.size ≤ k ∧ k ∉ Kb ∧ k ∉ G
  g : ∀ k ∈ G, W.heap.size ≤ k ∧ k ∉ Kb
  kb : ∀ k ∈ Kb, k < w.heap.size
def PTwo (W w : World) (p g q y : Nat) (P Q : Plr) (m K n L : Nat) (Kb : List Nat) : Prop := ∃ F G, PBoth W w p g q y F G P Q m K n L Kb
section
variable {W w w' w0 : World} {p g q y m n K L m' n' K' L' : Nat} {F G Kb Kc : List Nat} {P P' Q Q' : Plr}
theorem PBoth.quiet (h : PBoth W w p g q y F G P Q m K n L Kb) (hm : Mods [] w w') : PBoth W w' p g q y F G P Q m K n L Kb :=
  ⟨h.pol.quiet hm, h.rol.quiet hm, h.mods.trans hm (by simp), h.f, h.g, fun k hk => Nat.lt_of_lt_of_le (h.kb k hk) hm.size⟩
theorem PTwo.quiet (h : PTwo W w p g q y P Q m K n L Kb) (hm : Mods [] w w') : PTwo W w' p g q y P Q m K n L Kb := by
  obtain ⟨F, G, h⟩ := h
  exact ⟨F, G, h.quiet hm⟩
theorem PTwo.mods (h : PTwo W w p g q y P Q m K n L Kb) : Mods [] W w := by obtain ⟨F, G, h⟩ := h; exact h.mods
theorem PTwo.kb (h : PTwo W w p g q y P Q m K n L Kb) : ∀ k ∈ Kb, k < w.heap.size := by obtain ⟨F, G, h⟩ := h; exact h.kb
theorem PTwo.pc (h : PTwo W w p g q y P Q m K n L Kb) : w.cell? ⟨p, 0, none⟩ = some (.pointer (some ⟨g, 0, none⟩)) := by obtain ⟨F, G, h⟩ := h; exact h.pol.cell
theorem PTwo.qc (h : PTwo W w p g q y P Q m K n L Kb) : w.cell? ⟨q, 0, none⟩ = some (.pointer (some ⟨y, 0, none⟩)) := by obtain ⟨F, G, h⟩ := h; exact h.rol.cell
theorem PTwo.okP (h : PTwo W w p g q y P Q m K n L Kb) : P.Ok K := by obtain ⟨F, G, h⟩ := h; exact h.pol.ok
theorem PTwo.okQ (h : PTwo W w p g q y P Q m K n L Kb) : Q.Ok L := by obtain ⟨F, G, h⟩ := h; exact h.rol.ok
theorem PTwo.less (h : PTwo W w p g q y P Q m K n L Kb) (hs : ∀ k ∈ Kc, k ∈ Kb) : PTwo W w p g q y P Q m K n L Kc := by
  obtain ⟨F, G, h⟩ := h
  exact ⟨F, G, h.pol, h.rol, h.mods, fun k hk => ⟨(h.f k hk).1, fun h2 => (h.f k hk).2.1 (hs k h2), (h.f k hk).2.2⟩, fun k hk => ⟨(h.g k hk).1, fun h2 => (h.g k hk).2 (hs k h2)⟩, fun k hk => h.kb k (hs k hk)⟩
theorem PTwo.more (h : PTwo W w p g q y P Q m K n L Kb) (h1 : m ≤ m') (h1' : m' ≤ 900000000) (h2 : n ≤ n') (h2' : n' ≤ 900000000) : PTwo W w p g q y P Q m' K n' L Kb := by
  obtain ⟨F, G, h⟩ := h
  exact ⟨F, G, h.pol.more h1 h1', h.rol.more h2 h2', h.mods, h.f, h.g, h.kb⟩
/-- Blocks that are new join those that are kept. -/
theorem PTwo.add (h : PTwo W w p g q y P Q m K n L Kb) (hm : Mods [] w w') {l : List Nat} (hl : ∀ k ∈ l, w.heap.size ≤ k ∧ k < w'.heap.size) : PTwo W w' p g q y P Q m K n L (Kb ++ l) := by
  obtain ⟨F, G, h⟩ := h
  have h' := h.quiet hm
  refine ⟨F, G, h'.pol, h'.rol, h'.mods, fun k hk => ⟨(h.f k hk).1, fun h2 => ?_, (h.f k hk).2.2⟩, fun k hk => ⟨(h.g k hk).1, fun h2 => ?_⟩, fun k hk => ?_⟩
  · rcases List.mem_append.1 h2 with h3 | h3
    · exact (h.f k hk).2.1 h3
    · have := h.pol.lt k hk; have := (hl k h3).1; omega
  · rcases List.mem_append.1 h2 with h3 | h3
    · exact (h.g k hk).2 h3
    · have := h.rol.lt k hk; have := (hl k h3).1; omega
  · rcases List.mem_append.1 hk with h3 | h3
    · exact h'.kb k h3
    · exact (hl k h3).2
theorem PTwo.onto (h : PTwo W w p g q y P Q m K n L Kb) (o : Obj) : PTwo W (w.alloc o) p g q y P Q m K n L (Kb ++ [w.heap.size]) :=
  h.add ((Mods.refl [] w).alloc o) (fun k hk => by simp at hk; subst hk; simp)
/-- Blocks of Kb turn: the pollers stand. -/
theorem PTwo.spoilt (h : PTwo W w p g q y P Q m K n L Kb) {l : List Nat} (hl : ∀ k ∈ l, k ∈ Kb ∧ W.heap.size ≤ k) (hm : Mods l w w') : PTwo W w' p g q y P Q m K n L Kb := by
  obtain ⟨F, G, h⟩ := h
  exact ⟨F, G, h.pol.mods hm fun k hk h2 => (h.f k hk).2.1 (hl k h2).1, h.rol.mods hm fun k hk h2 => (h.g k hk).2 (hl k h2).1, h.mods.trans hm fun k hk => .inr (hl k hk).2, h.f, h.g, fun k hk => Nat.lt_of_lt_of_le (h.kb k hk) hm.size⟩
/-- The program's poller has gone on. -/
theorem PBoth.polTo (h : PBoth W w p g q y F G P Q m K n L Kb) (hn : PolTo w w' p g F P' m' K') : PTwo W w' p g q y P' Q m' K' n L Kb ∧ KeepP Kb w w' := by
  obtain ⟨F', h1, h2, h3⟩ := hn
  refine ⟨⟨F', G, h1, h.rol.mods h2 fun k hk h4 => (h.f k h4).2.2 hk, h.mods.trans h2 fun k hk => .inr (h.f k hk).1, fun k hk => ?_, h.g, fun k hk => Nat.lt_of_lt_of_le (h.kb k hk) h2.size⟩, fun k hk => h2.block k (h.kb k hk) fun h4 => (h.f k h4).2.1 hk⟩
  rcases h3 k hk with h4 | h4
  · exact h.f k h4
  · exact ⟨Nat.le_trans h.mods.size h4, fun h5 => by have := h.kb k h5; omega, fun h5 => by have := h.rol.lt k h5; omega⟩
/-- The document's poller has gone on. -/
theorem PBoth.rolTo (h : PBoth W w p g q y F G P Q m K n L Kb) (hn : RolTo w w' q y G Q' n' L') : PTwo W w' p g q y P Q' m K n' L' Kb ∧ KeepP Kb w w' := by
  obtain ⟨G', h1, h2, h3⟩ := hn
  refine ⟨⟨F, G', h.pol.mods h2 fun k hk h4 => (h.f k hk).2.2 h4, h1, h.mods.trans h2 fun k hk => .inr (h.g k hk).1, fun k hk => ⟨(h.f k hk).1, (h.f k hk).2.1, fun h5 => ?_⟩, fun k hk => ?_, fun k hk => Nat.lt_of_lt_of_le (h.kb k hk) h2.size⟩, fun k hk => h2.block k (h.kb k hk) fun h4 => (h.g k h4).2 hk⟩
  · rcases h3 k h5 with h4 | h4
    · exact (h.f k hk).2.2 h4
    · have := h.pol.lt k hk; omega
  · rcases h3 k hk with h4 | h4
    · exact h.g k h4
    · exact ⟨Nat.le_trans h.mods.size h4, fun h5 => by have := h.kb k h5; omega⟩
theorem PBoth.same (h : PBoth W w p g q y F G P Q m K n L Kb) (hm : Mods [] w w') : PTwo W w' p g q y P Q m K n L Kb ∧ KeepP Kb w w' := ⟨⟨F, G, h.quiet hm⟩, KeepP.quiet hm h.kb⟩
/-- Both pollers, made one behind the other. -/
theorem PTwo.born {S T : Nt} {w1 w2 w3 w4 : World} {gn yn : List Nat} (hw1 : W.heap.size ≤ w1.heap.size) (hm1 : Mods [] W w2) (hgn : ∀ k ∈ gn, W.heap.size ≤ k ∧ k < w1.heap.size) (hyn : ∀ k ∈ yn, w1.heap.size ≤ k ∧ k < w2.heap.size)
    (hp : ∃ F, PolA w3 p g F (Plr.new S) m 0 ∧ Mods [] w2 w3 ∧ ∀ k ∈ F, k ∈ gn ∨ w2.heap.size ≤ k) (hq : ∃ G, RolA w4 q y G (Plr.new T) n 0 ∧ Mods [] w3 w4 ∧ ∀ k ∈ G, k ∈ yn ∨ w3.heap.size ≤ k) :
    PTwo W w4 p g q y (Plr.new S) (Plr.new T) m 0 n 0 [] := by
  obtain ⟨F, a1, a2, a3⟩ := hp
  obtain ⟨G, b1, b2, b3⟩ := hq
  have s1 := hm1.size
  have s2 := a2.size
  refine ⟨F, G, a1.quiet b2, b1, (hm1.trans a2 (by simp)).trans b2 (by simp), fun k hk => ?_, fun k hk => ?_, by simp⟩
  · have hlt := a1.lt k hk
    rcases a3 k hk with h | h
    · have := hgn k h
      refine ⟨this.1, by simp, fun h5 => ?_⟩
      rcases b3 k h5 with h6 | h6
      · have := hyn k h6; omega
      · omega
    · refine ⟨by omega, by simp, fun h5 => ?_⟩
      rcases b3 k h5 with h6 | h6
      · have := hyn k h6; omega
      · omega
  · refine ⟨?_, by simp⟩
    rcases b3 k hk with h6 | h6
    · have := hyn k h6; omega
    · omega
end

theorem NumsAt.row1 {w : World} {F : List Nat} {b : Nat} {c : Int} {t : TypeId} (h : Row w b t #[.int .i64 c]) (hb : b ∉ F) : NumsAt w F (some ⟨b, 0, none⟩) [c] := fun i x hx => by
  match i, hx with
  | 0, hx => injection hx with hx; subst hx; exact ⟨b, 0, rfl, h.lt, hb, h.cell 0⟩
theorem At.row1 {w : World} {F : List Nat} {b : Nat} {z : Int} {t : TypeId} (h : Row w b t #[.int .u8 z]) (hb : b ∉ F) (hz : 0 ≤ z ∧ z ≤ 255) : At w F (some ⟨b, 0, none⟩) [z] := fun i x hx => by
  match i, hx with
  | 0, hx => injection hx with hx; subst hx; exact ⟨b, 0, rfl, h.lt, hb, h.cell 0, hz⟩
theorem Parts.row1 {w : World} {F : List Nat} {b d : Nat} {z : Int} {t : TypeId} (h : Row w d t #[.slice (some ⟨b, 0, none⟩) 1 1]) (ha : At w F (some ⟨b, 0, none⟩) [z]) (hd : d ∉ F) : Parts w F (some ⟨d, 0, none⟩) [⟨some ⟨b, 0, none⟩, [z], 1⟩] := fun i r hr => by
  match i, hr with
  | 0, hr => injection hr with hr; subst hr; exact ⟨⟨d, 0, rfl, h.lt, hd, h.cell 0⟩, ha, Nat.le_refl _, by show 1 ≤ maxLen; unfold maxLen; omega⟩
/-! What the pollers are asked. -/
theorem watchE_cases (P : Plr) (c : Int) : (P.watchE c = 2 ∧ c ≠ -1 ∧ P.net.isO c = false) ∨ (P.watchE c = 11 ∧ (c = -1 ∨ P.net.isO c = true) ∧ P.sl.hasV c = true) ∨ (P.watchE c = 0 ∧ (c = -1 ∨ P.net.isO c = true) ∧ P.sl.hasV c = false) := by
  unfold Plr.watchE
  by_cases h : c ≠ -1 ∧ P.net.isO c = false
  · rw [if_pos h]; exact .inl ⟨rfl, h⟩
  · right
    rw [if_neg h]
    have h2 : c = -1 ∨ P.net.isO c = true := by
      by_cases hc : c = -1
      · exact .inl hc
      · right
        cases hb : P.net.isO c with
        | true => rfl
        | false => exact absurd ⟨hc, hb⟩ h
    cases hv : P.sl.hasV c with
    | true => exact .inl ⟨by simp, h2, rfl⟩
    | false => exact .inr ⟨by simp, h2, rfl⟩
theorem watch_ne {P : Plr} {c : Int} {r s e : Bool} (h : P.watchE c ≠ 0) : P.watch c r s e = P ∧ P.watchS c = 0 ∧ P.watchG c = 0 := by
  unfold Plr.watch Plr.watchS Plr.watchG
  rw [if_neg h, if_neg h, if_neg h]
  exact ⟨rfl, rfl, rfl⟩
theorem watchP (W w : World) (p g q y m K n L : Nat) (P Q : Plr) (Kb : List Nat) (h : PTwo W w p g q y P Q m K n L Kb) (c : Int) (r s e : Bool) (hT : TzTab w) (hcnt : P.sl.cnt < 4096) (hK : K ≤ 4000000000000) :
    Calls Tryd.prog 21 #[.pointer (some ⟨p, 0, none⟩), .int .i64 c, .bool r, .bool s, .bool e] w fun e' w' => e' = .returned (.tuple #[.agg #[.int .i64 (P.watchS c), .int .i64 (P.watchG c)], .int .i64 (P.watchE c)]) ∧ Hid (∃ K', K' ≤ K + 1 ∧ PTwo W w' p g q y (P.watch c r s e) Q m K' n L Kb ∧ KeepP Kb w w') := by
  obtain ⟨F, G, h⟩ := h
  rcases watchE_cases P c with ⟨hE, h1, h2⟩ | ⟨hE, h1, h2⟩ | ⟨hE, h1, h2⟩
  · obtain ⟨e1, e2, e3⟩ := watch_ne (P := P) (c := c) (r := r) (s := s) (e := e) (by rw [hE]; decide)
    rw [e1, e2, e3, hE]
    exact (watch_no w p g m K F P h.pol c r s e h1 h2).mono fun e w' ⟨h3, hd⟩ => ⟨h3, Lib.hid ⟨K, by omega, h.same hd⟩⟩
  · obtain ⟨e1, e2, e3⟩ := watch_ne (P := P) (c := c) (r := r) (s := s) (e := e) (by rw [hE]; decide)
    rw [e1, e2, e3, hE]
    exact (watch_dup w p g m K F P h.pol c r s e h1 h2).mono fun e w' ⟨h3, hd⟩ => ⟨h3, Lib.hid ⟨K, by omega, h.same hd⟩⟩
  · rw [hE, show P.watchS c = P.sl.least by unfold Plr.watchS; rw [if_pos hE], show P.watchG c = P.sl.gen by unfold Plr.watchG; rw [if_pos hE]]
    exact (watch_yes w p g m K F P h.pol c r s e h1 h2 hT hcnt hK).mono fun e w' ⟨h3, hd⟩ => ⟨h3, Lib.hid ⟨K + 1, by omega, h.polTo hd.out⟩⟩
theorem rwatchP (W w : World) (p g q y m K n L : Nat) (P Q : Plr) (Kb : List Nat) (h : PTwo W w p g q y P Q m K n L Kb) (c : Int) (r s e : Bool) (hcnt : Q.sl.cnt < 4096) (hK : L ≤ 4000000000000) :
    Calls Tryd.prog 29 #[.pointer (some ⟨q, 0, none⟩), .int .i64 c, .bool r, .bool s, .bool e] w fun e' w' => e' = .returned (.tuple #[.agg #[.int .i64 (Q.watchS c), .int .i64 (Q.watchG c)], .int .i64 (Q.watchE c)]) ∧ Hid (∃ L', L' ≤ L + 1 ∧ PTwo W w' p g q y P (Q.watch c r s e) m K n L' Kb ∧ KeepP Kb w w') := by
  obtain ⟨F, G, h⟩ := h
  rcases watchE_cases Q c with ⟨hE, h1, h2⟩ | ⟨hE, h1, h2⟩ | ⟨hE, h1, h2⟩
  · obtain ⟨e1, e2, e3⟩ := watch_ne (P := Q) (c := c) (r := r) (s := s) (e := e) (by rw [hE]; decide)
    rw [e1, e2, e3, hE]
    exact (rlwatch_none w q y n L G Q h.rol c r s e h1 h2).mono fun e w' ⟨h3, hd⟩ => ⟨h3, Lib.hid ⟨L, by omega, h.same hd⟩⟩
  · obtain ⟨e1, e2, e3⟩ := watch_ne (P := Q) (c := c) (r := r) (s := s) (e := e) (by rw [hE]; decide)
    rw [e1, e2, e3, hE]
    exact (rlwatch_dup w q y n L G Q h.rol c r s e h1 h2).mono fun e w' ⟨h3, hd⟩ => ⟨h3, Lib.hid ⟨L, by omega, h.same hd⟩⟩
  · rw [hE, show Q.watchS c = Q.sl.least by unfold Plr.watchS; rw [if_pos hE], show Q.watchG c = Q.sl.gen by unfold Plr.watchG; rw [if_pos hE]]
    exact (rlwatch_yes w q y n L G Q h.rol c r s e h1 h2 hcnt hK).mono fun e w' ⟨h3, hd⟩ => ⟨h3, Lib.hid ⟨L + 1, by omega, h.rolTo hd.out⟩⟩
theorem is_nat {S : Slb} {a b : Int} (h : S.is a b = true) : ∃ i : Nat, a = (i : Int) := ⟨a.toNat, by have := (Slb.is_lt h).1; omega⟩
theorem change_ne {P : Plr} {a b : Int} {r s : Bool} (h : P.sl.is a b = false) : P.change a b r s = P ∧ P.changeE a b = 10 := by
  unfold Plr.change Plr.changeE
  rw [h]
  exact ⟨rfl, rfl⟩
theorem changeP (W w : World) (p g q y m K n L : Nat) (P Q : Plr) (Kb : List Nat) (h : PTwo W w p g q y P Q m K n L Kb) (a b : Int) (r s : Bool) (ha : -9223372036854775808 ≤ a ∧ a ≤ 9223372036854775807) :
    Calls Tryd.prog 24 #[.pointer (some ⟨p, 0, none⟩), .agg #[.int .i64 a, .int .i64 b], .bool r, .bool s] w fun e w' => e = .returned (.int .i64 (P.changeE a b)) ∧ Hid (PTwo W w' p g q y (P.change a b r s) Q m K n L Kb ∧ KeepP Kb w w') := by
  obtain ⟨F, G, h⟩ := h
  cases hi : P.sl.is a b with
  | false =>
    obtain ⟨e1, e2⟩ := change_ne (r := r) (s := s) hi
    rw [e1, e2]
    exact (change_no w p g m K F P h.pol a b r s ha hi).mono fun e w' ⟨h3, hd⟩ => ⟨h3, Lib.hid (h.same hd)⟩
  | true =>
    obtain ⟨i, rfl⟩ := is_nat hi
    rw [show P.changeE i b = 0 by unfold Plr.changeE; rw [if_pos hi]]
    exact (change_yes w p g m K i F P h.pol b r s hi).mono fun e w' ⟨h3, hd⟩ => ⟨h3, Lib.hid (h.polTo hd.out)⟩
theorem rchangeP (W w : World) (p g q y m K n L : Nat) (P Q : Plr) (Kb : List Nat) (h : PTwo W w p g q y P Q m K n L Kb) (a b : Int) (r s : Bool) (ha : -9223372036854775808 ≤ a ∧ a ≤ 9223372036854775807) :
    Calls Tryd.prog 30 #[.pointer (some ⟨q, 0, none⟩), .agg #[.int .i64 a, .int .i64 b], .bool r, .bool s] w fun e w' => e = .returned (.int .i64 (Q.changeE a b)) ∧ Hid (PTwo W w' p g q y P (Q.change a b r s) m K n L Kb ∧ KeepP Kb w w') := by
  obtain ⟨F, G, h⟩ := h
  cases hi : Q.sl.is a b with
  | false =>
    obtain ⟨e1, e2⟩ := change_ne (r := r) (s := s) hi
    rw [e1, e2]
    exact (rlchange_no w q y n L G Q h.rol a b r s ha hi).mono fun e w' ⟨h3, hd⟩ => ⟨h3, Lib.hid (h.same hd)⟩
  | true =>
    obtain ⟨i, rfl⟩ := is_nat hi
    rw [show Q.changeE i b = 0 by unfold Plr.changeE; rw [if_pos hi]]
    exact (rlchange_yes w q y n L i G Q h.rol b r s hi).mono fun e w' ⟨h3, hd⟩ => ⟨h3, Lib.hid (h.rolTo hd.out)⟩
theorem dropP (W w : World) (p g q y m K n L : Nat) (P Q : Plr) (Kb : List Nat) (h : PTwo W w p g q y P Q m K n L Kb) (l : List (Int × Int)) (d cc ll : Nat) (hl : l.length ≤ 1000) (hll : ll = l.length) (hp : Pairs w d l) (hd : d ∈ Kb) :
    Calls Tryd.prog 25 #[.pointer (some ⟨p, 0, none⟩), .slice (some ⟨d, 0, none⟩) ll cc] w fun e w' => e = .returned (.int .i64 (P.sl.taken l : Nat)) ∧ Hid (PTwo W w' p g q y (P.drop l) Q m K n L Kb ∧ KeepP Kb w w') := by
  subst hll
  obtain ⟨F, G, h⟩ := h
  exact (drop_any w p g m K d cc F P l h.pol hl hp (fun hk => (h.f d hk).2.1 hd) (h.kb d hd)).mono fun e w' ⟨h3, hd⟩ => ⟨h3, Lib.hid (h.polTo hd.out)⟩
theorem rdropP (W w : World) (p g q y m K n L : Nat) (P Q : Plr) (Kb : List Nat) (h : PTwo W w p g q y P Q m K n L Kb) (l : List (Int × Int)) (d cc ll : Nat) (hl : l.length ≤ 1000) (hll : ll = l.length) (hp : Pairs w d l) (hd : d ∈ Kb) :
    Calls Tryd.prog 31 #[.pointer (some ⟨q, 0, none⟩), .slice (some ⟨d, 0, none⟩) ll cc] w fun e w' => e = .returned (.int .i64 (Q.sl.taken l : Nat)) ∧ Hid (PTwo W w' p g q y P (Q.drop l) m K n L Kb ∧ KeepP Kb w w') := by
  subst hll
  obtain ⟨F, G, h⟩ := h
  exact (rldrop_any w q y n L d cc G Q l h.rol hl hp (fun hk => (h.g d hk).2 hd)).mono fun e w' ⟨h3, hd⟩ => ⟨h3, Lib.hid (h.rolTo hd.out)⟩
theorem watchedP (W w : World) (p g q y m K n L : Nat) (P Q : Plr) (Kb : List Nat) (h : PTwo W w p g q y P Q m K n L Kb) : Calls Tryd.prog 15 #[.pointer (some ⟨p, 0, none⟩)] w fun e w' => e = .returned (.int .i64 (P.sl.cnt : Nat)) ∧ w = w' := by
  obtain ⟨F, G, h⟩ := h
  exact watched_any w p g m K F P h.pol
theorem waitP (W w : World) (p g q y m K n L : Nat) (P Q : Plr) (Kb : List Nat) (h : PTwo W w p g q y P Q m K n L Kb) (A : Option Addr) (pn pc : Nat) (ps : List Int) (hp : ∀ F : List Nat, (∀ k ∈ F, W.heap.size ≤ k ∧ k ∉ Kb) → NumsAt w F A ps) (hpn : pn = ps.length) (hpl : ps.length ≤ 1000000) (l : List Ev) (hl : ord P.told ps = l) :
    Calls Tryd.prog 17 #[.pointer (some ⟨p, 0, none⟩), .slice A pn pc] w fun e w' => ∃ B k c, e = .returned (.slice B k c) ∧ Hid (PTwo W w' p g q y P.waited Q m K n L (Kb ++ (Value.slice B k c).ownBlock.toList) ∧ KeepP Kb w w' ∧ EvS w' (.slice B k c) l ∧ ∀ b ∈ (Value.slice B k c).ownBlock.toList, w.heap.size ≤ b) := by
  subst hl
  obtain ⟨F, G, h⟩ := h
  refine (wait_any w p g m K F P h.pol A pn pc ps (hp F fun k hk => ⟨(h.f k hk).1, (h.f k hk).2.1⟩) hpn hpl).mono fun e w' ⟨v, h3, hd⟩ => ?_
  obtain ⟨d1, d2, d3, d4⟩ := hd.out
  obtain ⟨B, k, c, rfl, hn, hc1, hc2⟩ := d1.slice
  refine ⟨B, k, c, h3, Lib.hid ⟨⟨F, G, d3, h.rol.mods d4 fun k hk h4 => (h.f k h4).2.2 hk, h.mods.trans d4 fun k hk => .inr (h.f k hk).1, fun k hk => ⟨(h.f k hk).1, fun h4 => ?_, (h.f k hk).2.2⟩, fun k hk => ⟨(h.g k hk).1, fun h4 => ?_⟩, fun k hk => ?_⟩, fun k hk => d4.block k (h.kb k hk) fun h4 => (h.f k h4).2.1 hk, d1, d2⟩⟩
  · rcases List.mem_append.1 h4 with h5 | h5
    · exact (h.f k hk).2.1 h5
    · have := d2 k h5; have := h.pol.lt k hk; omega
  · rcases List.mem_append.1 h4 with h5 | h5
    · exact (h.g k hk).2 h5
    · have := d2 k h5; have := h.rol.lt k hk; omega
  · rcases List.mem_append.1 hk with h5 | h5
    · exact Nat.lt_of_lt_of_le (h.kb k h5) d4.size
    · exact own_lt d1 k h5
theorem rwaitP (W w : World) (p g q y m K n L : Nat) (P Q : Plr) (Kb : List Nat) (h : PTwo W w p g q y P Q m K n L Kb) (A : Option Addr) (pn pc : Nat) (ps : List Int) (hp : ∀ F : List Nat, (∀ k ∈ F, W.heap.size ≤ k ∧ k ∉ Kb) → NumsAt w F A ps) (hpn : pn = ps.length) (hpl : ps.length ≤ 1000000) (l : List Ev) (hl : ord Q.told ps = l) :
    Calls Tryd.prog 18 #[.pointer (some ⟨q, 0, none⟩), .slice A pn pc] w fun e w' => ∃ B k c, e = .returned (.slice B k c) ∧ Hid (PTwo W w' p g q y P Q.waited m K n L (Kb ++ (Value.slice B k c).ownBlock.toList) ∧ KeepP Kb w w' ∧ EvS w' (.slice B k c) l ∧ ∀ b ∈ (Value.slice B k c).ownBlock.toList, w.heap.size ≤ b) := by
  subst hl
  obtain ⟨F, G, h⟩ := h
  refine (rlwait_any w q y n L G Q h.rol A pn pc ps (hp G fun k hk => h.g k hk) hpn hpl).mono fun e w' ⟨v, h3, hd⟩ => ?_
  obtain ⟨d1, d2, d3, d4⟩ := hd.out
  obtain ⟨B, k, c, rfl, hn, hc1, hc2⟩ := d1.slice
  refine ⟨B, k, c, h3, Lib.hid ⟨⟨F, G, h.pol.mods d4 fun k hk h4 => (h.f k hk).2.2 h4, d3, h.mods.trans d4 fun k hk => .inr (h.g k hk).1, fun k hk => ⟨(h.f k hk).1, fun h4 => ?_, (h.f k hk).2.2⟩, fun k hk => ⟨(h.g k hk).1, fun h4 => ?_⟩, fun k hk => ?_⟩, fun k hk => d4.block k (h.kb k hk) fun h4 => (h.g k h4).2 hk, d1, d2⟩⟩
  · rcases List.mem_append.1 h4 with h5 | h5
    · exact (h.f k hk).2.1 h5
    · have := d2 k h5; have := h.pol.lt k hk; omega
  · rcases List.mem_append.1 h4 with h5 | h5
    · exact (h.g k hk).2 h5
    · have := d2 k h5; have := h.rol.lt k hk; omega
  · rcases List.mem_append.1 hk with h5 | h5
    · exact Nat.lt_of_lt_of_le (h.kb k h5) d4.size
    · exact own_lt d1 k h5
/-! The nets that are embedded. -/
theorem connP (W w : World) (p g q y m K n L : Nat) (P Q : Plr) (Kb : List Nat) (h : PTwo W w p g q y P Q m K n L Kb) (c : Int) :
    Calls Tryd.prog 19 #[.pointer (some ⟨g, 0, none⟩), .int .i64 c] w fun e w' => e = .returned (.tuple #[.int .i64 (P.net.connN c), .int .i64 (P.net.connE c)]) ∧ Hid (PTwo W w' p g q y { P with net := P.net.conn c } Q m K n L Kb ∧ KeepP Kb w w') := by
  obtain ⟨F, G, h⟩ := h
  obtain ⟨N, n1, n2, n3⟩ := h.pol.open_
  exact (conn_any w g m N P.net c n1).mono fun e w' ⟨h1, hd⟩ => ⟨h1, Lib.hid (h.polTo (n3 _ _ _ hd.out))⟩
theorem rconnP (W w : World) (p g q y m K n L : Nat) (P Q : Plr) (Kb : List Nat) (h : PTwo W w p g q y P Q m K n L Kb) (c : Int) :
    Calls Tryd.prog 32 #[.pointer (some ⟨y, 0, none⟩), .int .i64 c] w fun e w' => e = .returned (.tuple #[.int .i64 (Q.net.connN c), .int .i64 (Q.net.connE c)]) ∧ Hid (PTwo W w' p g q y P { Q with net := Q.net.conn c } m K n L Kb ∧ KeepP Kb w w') := by
  obtain ⟨F, G, h⟩ := h
  obtain ⟨N, n1, n2, n3⟩ := h.rol.open_
  exact (rconn_any w y n N Q.net c n1).mono fun e w' ⟨h1, hd⟩ => ⟨h1, Lib.hid (h.rolTo (n3 _ _ _ (h.rol.mks.conn c) hd.out))⟩
theorem accP (W w : World) (p g q y m K n L : Nat) (P Q : Plr) (Kb : List Nat) (h : PTwo W w p g q y P Q m K n L Kb) :
    Calls Tryd.prog 20 #[.pointer (some ⟨g, 0, none⟩)] w fun e w' => e = .returned (.tuple #[.int .i64 P.net.accC, .int .i64 P.net.accP, .int .i64 P.net.accE]) ∧ Hid (PTwo W w' p g q y { P with net := P.net.acc } Q m K n L Kb ∧ KeepP Kb w w') := by
  obtain ⟨F, G, h⟩ := h
  obtain ⟨N, n1, n2, n3⟩ := h.pol.open_
  exact (acc_any w g m N P.net n1).mono fun e w' ⟨h1, hd⟩ => ⟨h1, Lib.hid (h.polTo (n3 _ _ _ hd.out))⟩
theorem raccP (W w : World) (p g q y m K n L : Nat) (P Q : Plr) (Kb : List Nat) (h : PTwo W w p g q y P Q m K n L Kb) :
    Calls Tryd.prog 33 #[.pointer (some ⟨y, 0, none⟩)] w fun e w' => e = .returned (.tuple #[.int .i64 Q.net.accC, .int .i64 Q.net.accP, .int .i64 Q.net.accE]) ∧ Hid (PTwo W w' p g q y P { Q with net := Q.net.acc } m K n L Kb ∧ KeepP Kb w w') := by
  obtain ⟨F, G, h⟩ := h
  obtain ⟨N, n1, n2, n3⟩ := h.rol.open_
  exact (racc_any w y n N Q.net n1).mono fun e w' ⟨h1, hd⟩ => ⟨h1, Lib.hid (h.rolTo (n3 _ _ _ (h.rol.mks.acc n1.ok) hd.out))⟩
theorem stopP (W w : World) (p g q y m K n L : Nat) (P Q : Plr) (Kb : List Nat) (h : PTwo W w p g q y P Q m K n L Kb) :
    Calls Tryd.prog 47 #[.pointer (some ⟨g, 0, none⟩)] w fun e w' => e = .returned (.tuple #[]) ∧ Hid (PTwo W w' p g q y { P with net := P.net.stopped } Q m K n L Kb ∧ KeepP Kb w w') := by
  obtain ⟨F, G, h⟩ := h
  obtain ⟨N, n1, n2, n3⟩ := h.pol.open_
  exact (stop_any w g m N P.net n1).mono fun e w' ⟨h1, hd⟩ => ⟨h1, Lib.hid (h.polTo (n3 _ _ _ hd.out))⟩
theorem rstopP (W w : World) (p g q y m K n L : Nat) (P Q : Plr) (Kb : List Nat) (h : PTwo W w p g q y P Q m K n L Kb) :
    Calls Tryd.prog 48 #[.pointer (some ⟨y, 0, none⟩)] w fun e w' => e = .returned (.tuple #[]) ∧ Hid (PTwo W w' p g q y P { Q with net := Q.net.stopped } m K n L Kb ∧ KeepP Kb w w') := by
  obtain ⟨F, G, h⟩ := h
  obtain ⟨N, n1, n2, n3⟩ := h.rol.open_
  exact (rstop_any w y n N Q.net n1).mono fun e w' ⟨h1, hd⟩ => ⟨h1, Lib.hid (h.rolTo (n3 _ _ _ (h.rol.mks.stopped n1.ok) hd.out))⟩
theorem halfP (W w : World) (p g q y m K n L : Nat) (P Q : Plr) (Kb : List Nat) (h : PTwo W w p g q y P Q m K n L Kb) (c : Int) (hm : m + 1 ≤ 900000000) :
    Calls Tryd.prog 38 #[.pointer (some ⟨g, 0, none⟩), .int .i64 c] w fun e w' => e = .returned (.int .i64 (P.net.e1 c)) ∧ Hid (PTwo W w' p g q y { P with net := P.net.half c } Q (m + 1) K n L Kb ∧ KeepP Kb w w') := by
  obtain ⟨F, G, h⟩ := h
  obtain ⟨N, n1, n2, n3⟩ := h.pol.open_
  exact (half_any w g m N P.net c n1 hm).mono fun e w' ⟨h1, hd⟩ => ⟨h1, Lib.hid (h.polTo (n3 _ _ _ hd.out))⟩
theorem rhalfP (W w : World) (p g q y m K n L : Nat) (P Q : Plr) (Kb : List Nat) (h : PTwo W w p g q y P Q m K n L Kb) (c : Int) (hm : n + 1 ≤ 900000000) :
    Calls Tryd.prog 39 #[.pointer (some ⟨y, 0, none⟩), .int .i64 c] w fun e w' => e = .returned (.int .i64 (Q.net.e1 c)) ∧ Hid (PTwo W w' p g q y P { Q with net := Q.net.half c } m K (n + 1) L Kb ∧ KeepP Kb w w') := by
  obtain ⟨F, G, h⟩ := h
  obtain ⟨N, n1, n2, n3⟩ := h.rol.open_
  exact (rhalf_any w y n N Q.net c n1 hm).mono fun e w' ⟨h1, hd⟩ => ⟨h1, Lib.hid (h.rolTo (n3 _ _ _ (h.rol.mks.half c) hd.out))⟩
theorem resetP (W w : World) (p g q y m K n L : Nat) (P Q : Plr) (Kb : List Nat) (h : PTwo W w p g q y P Q m K n L Kb) (c : Int) (hm : m + 1 ≤ 900000000) :
    Calls Tryd.prog 36 #[.pointer (some ⟨g, 0, none⟩), .int .i64 c] w fun e w' => e = .returned (.int .i64 (P.net.e1 c)) ∧ Hid (PTwo W w' p g q y { P with net := P.net.reset c } Q (m + 1) K n L Kb ∧ KeepP Kb w w') := by
  obtain ⟨F, G, h⟩ := h
  obtain ⟨N, n1, n2, n3⟩ := h.pol.open_
  exact (reset_any w g m N P.net c n1 hm).mono fun e w' ⟨h1, hd⟩ => ⟨h1, Lib.hid (h.polTo (n3 _ _ _ hd.out))⟩
theorem rresetP (W w : World) (p g q y m K n L : Nat) (P Q : Plr) (Kb : List Nat) (h : PTwo W w p g q y P Q m K n L Kb) (c : Int) (hm : n + 1 ≤ 900000000) :
    Calls Tryd.prog 37 #[.pointer (some ⟨y, 0, none⟩), .int .i64 c] w fun e w' => e = .returned (.int .i64 (Q.net.e1 c)) ∧ Hid (PTwo W w' p g q y P { Q with net := Q.net.reset c } m K (n + 1) L Kb ∧ KeepP Kb w w') := by
  obtain ⟨F, G, h⟩ := h
  obtain ⟨N, n1, n2, n3⟩ := h.rol.open_
  exact (rreset_any w y n N Q.net c n1 hm).mono fun e w' ⟨h1, hd⟩ => ⟨h1, Lib.hid (h.rolTo (n3 _ _ _ (h.rol.mks.reset c) hd.out))⟩
theorem openP (W w : World) (p g q y m K n L : Nat) (P Q : Plr) (Kb : List Nat) (h : PTwo W w p g q y P Q m K n L Kb) (c k : Int) (hm : m + 1 ≤ 900000000) :
    Calls Tryd.prog 26 #[.pointer (some ⟨g, 0, none⟩), .int .i64 c, .int .i64 k] w fun e w' => e = .returned (.int .i64 (P.net.openE c k)) ∧ Hid (PTwo W w' p g q y { P with net := P.net.open_ c k } Q (m + 1) K n L Kb ∧ KeepP Kb w w') := by
  obtain ⟨F, G, h⟩ := h
  obtain ⟨N, n1, n2, n3⟩ := h.pol.open_
  exact (open_any w g m N P.net c k n1 hm).mono fun e w' ⟨h1, hd⟩ => ⟨h1, Lib.hid (h.polTo (n3 _ _ _ hd.out))⟩
theorem ropenP (W w : World) (p g q y m K n L : Nat) (P Q : Plr) (Kb : List Nat) (h : PTwo W w p g q y P Q m K n L Kb) (c k : Int) (hm : n + 1 ≤ 900000000) :
    Calls Tryd.prog 35 #[.pointer (some ⟨y, 0, none⟩), .int .i64 c, .int .i64 k] w fun e w' => e = .returned (.int .i64 (Q.net.openE c k)) ∧ Hid (PTwo W w' p g q y P { Q with net := Q.net.open_ c k } m K (n + 1) L Kb ∧ KeepP Kb w w') := by
  obtain ⟨F, G, h⟩ := h
  obtain ⟨N, n1, n2, n3⟩ := h.rol.open_
  exact (ropen_any w y n N Q.net c k n1 hm).mono fun e w' ⟨h1, hd⟩ => ⟨h1, Lib.hid (h.rolTo (n3 _ _ _ (h.rol.mks.open_ c k) hd.out))⟩
theorem shutP (W w : World) (p g q y m K n L : Nat) (P Q : Plr) (Kb : List Nat) (h : PTwo W w p g q y P Q m K n L Kb) (c : Int) :
    Calls Tryd.prog 45 #[.pointer (some ⟨g, 0, none⟩), .int .i64 c] w fun e w' => e = .returned (.int .i64 (P.net.e2 c)) ∧ Hid (PTwo W w' p g q y { P with net := P.net.shut c } Q m K n L Kb ∧ KeepP Kb w w') := by
  obtain ⟨F, G, h⟩ := h
  obtain ⟨N, n1, n2, n3⟩ := h.pol.open_
  exact (shut_any w g m N P.net c n1).mono fun e w' ⟨h1, hd⟩ => ⟨h1, Lib.hid (h.polTo (n3 _ _ _ hd.out))⟩
theorem rshutP (W w : World) (p g q y m K n L : Nat) (P Q : Plr) (Kb : List Nat) (h : PTwo W w p g q y P Q m K n L Kb) (c : Int) :
    Calls Tryd.prog 46 #[.pointer (some ⟨y, 0, none⟩), .int .i64 c] w fun e w' => e = .returned (.int .i64 (Q.net.e2 c)) ∧ Hid (PTwo W w' p g q y P { Q with net := Q.net.shut c } m K n L Kb ∧ KeepP Kb w w') := by
  obtain ⟨F, G, h⟩ := h
  obtain ⟨N, n1, n2, n3⟩ := h.rol.open_
  exact (rshut_any w y n N Q.net c n1).mono fun e w' ⟨h1, hd⟩ => ⟨h1, Lib.hid (h.rolTo (n3 _ _ _ (h.rol.mks.shut c) hd.out))⟩
theorem readP (W w : World) (p g q y m K n L : Nat) (P Q : Plr) (Kb : List Nat) (h : PTwo W w p g q y P Q m K n L Kb) (c k : Int) (hm : m + 1024 ≤ 900000000) :
    Calls Tryd.prog 23 #[.pointer (some ⟨g, 0, none⟩), .int .i64 c, .int .i64 k] w fun e w' => ∃ v, e = .returned (.tuple #[v, .int .i64 (P.net.readE c k)]) ∧ Hid (PTwo W w' p g q y { P with net := P.net.read c k } Q (m + 1024) K n L Kb ∧ KeepP Kb w w') := by
  obtain ⟨F, G, h⟩ := h
  obtain ⟨N, n1, n2, n3⟩ := h.pol.open_
  exact (read_any w g m N P.net c k n1 hm).mono fun e w' ⟨v, h1, hd⟩ => ⟨v, h1, Lib.hid (h.polTo (n3 _ _ _ (by obtain ⟨F', g1, g2, g3, g4⟩ := hd.out; exact ⟨F', g1, g2, g3⟩)))⟩
theorem rreadP (W w : World) (p g q y m K n L : Nat) (P Q : Plr) (Kb : List Nat) (h : PTwo W w p g q y P Q m K n L Kb) (c k : Int) (hm : n + 1024 ≤ 900000000) :
    Calls Tryd.prog 42 #[.pointer (some ⟨y, 0, none⟩), .int .i64 c, .int .i64 k] w fun e w' => ∃ v, e = .returned (.tuple #[v, .int .i64 (Q.net.readE c k)]) ∧ Hid (PTwo W w' p g q y P { Q with net := Q.net.read c k } m K (n + 1024) L Kb ∧ KeepP Kb w w') := by
  obtain ⟨F, G, h⟩ := h
  obtain ⟨N, n1, n2, n3⟩ := h.rol.open_
  exact (rread_any w y n N Q.net c k n1 hm).mono fun e w' ⟨v, h1, hd⟩ => ⟨v, h1, Lib.hid (h.rolTo (n3 _ _ _ (h.rol.mks.read c k) hd.out.1))⟩
theorem closeP (W w : World) (p g q y m K n L : Nat) (P Q : Plr) (Kb : List Nat) (h : PTwo W w p g q y P Q m K n L Kb) (c : Int) (b : Nat) (hb : b ∈ Kb) (hr : Row w b 3 #[.int .i64 c]) :
    Calls Tryd.prog 40 #[.pointer (some ⟨g, 0, none⟩), .slice (some ⟨b, 0, none⟩) 1 1] w fun e w' => e = .returned (.int .i64 (P.net.closeN [c] : Nat)) ∧ Hid (PTwo W w' p g q y { P with net := P.net.close [c] } Q m K n L Kb ∧ KeepP Kb w w') := by
  obtain ⟨F, G, h⟩ := h
  obtain ⟨N, n1, n2, n3⟩ := h.pol.open_
  exact (close_any w g m 1 1 N P.net (some ⟨b, 0, none⟩) [c] n1 (NumsAt.row1 hr fun hk => (h.f b (n2 b hk)).2.1 hb) rfl (by simp)).mono fun e w' ⟨h1, hd⟩ => ⟨h1, Lib.hid (h.polTo (n3 _ _ _ hd.out))⟩
theorem rcloseP (W w : World) (p g q y m K n L : Nat) (P Q : Plr) (Kb : List Nat) (h : PTwo W w p g q y P Q m K n L Kb) (c : Int) (b : Nat) (hb : b ∈ Kb) (hr : Row w b 3 #[.int .i64 c]) :
    Calls Tryd.prog 41 #[.pointer (some ⟨y, 0, none⟩), .slice (some ⟨b, 0, none⟩) 1 1] w fun e w' => e = .returned (.int .i64 (Q.net.closeN [c] : Nat)) ∧ Hid (PTwo W w' p g q y P { Q with net := Q.net.close [c] } m K n L Kb ∧ KeepP Kb w w') := by
  obtain ⟨F, G, h⟩ := h
  obtain ⟨N, n1, n2, n3⟩ := h.rol.open_
  exact (rclose_any w y n 1 1 N Q.net (some ⟨b, 0, none⟩) [c] n1 (NumsAt.row1 hr fun hk => (h.g b (n2 b hk)).2 hb) rfl (by simp)).mono fun e w' ⟨h1, hd⟩ => ⟨h1, Lib.hid (h.rolTo (n3 _ _ _ (h.rol.mks.close [c]) hd.out))⟩
theorem writeP (W w : World) (p g q y m K n L : Nat) (P Q : Plr) (Kb : List Nat) (h : PTwo W w p g q y P Q m K n L Kb) (c z : Int) (b : Nat) (hb : b ∈ Kb) (hr : Row w b 5 #[.int .u8 z]) (hz : 0 ≤ z ∧ z ≤ 255) (hm : m + 1 ≤ 900000000) :
    Calls Tryd.prog 43 #[.pointer (some ⟨g, 0, none⟩), .int .i64 c, .slice (some ⟨b, 0, none⟩) 1 1] w fun e w' => e = .returned (.tuple #[.int .i64 (P.net.writeK c [z] : Nat), .int .i64 (P.net.writeE c [z])]) ∧ Hid (PTwo W w' p g q y { P with net := P.net.write c [z] } Q (m + 1) K n L Kb ∧ KeepP Kb w w') := by
  obtain ⟨F, G, h⟩ := h
  obtain ⟨N, n1, n2, n3⟩ := h.pol.open_
  exact (write_any w g m N P.net c (some ⟨b, 0, none⟩) 1 1 [z] n1 (by simpa using hm) (At.row1 hr (fun hk => (h.f b (n2 b hk)).2.1 hb) hz) rfl (Nat.le_refl _) (by unfold maxLen; omega)).mono fun e w' ⟨h1, hd⟩ => ⟨h1, Lib.hid (h.polTo (n3 _ _ _ hd.out))⟩
theorem rwriteP (W w : World) (p g q y m K n L : Nat) (P Q : Plr) (Kb : List Nat) (h : PTwo W w p g q y P Q m K n L Kb) (c z : Int) (b : Nat) (hb : b ∈ Kb) (hr : Row w b 5 #[.int .u8 z]) (hz : 0 ≤ z ∧ z ≤ 255) (hm : n + 1 ≤ 900000000) :
    Calls Tryd.prog 44 #[.pointer (some ⟨y, 0, none⟩), .int .i64 c, .slice (some ⟨b, 0, none⟩) 1 1] w fun e w' => e = .returned (.tuple #[.int .i64 (Q.net.writeK c [z] : Nat), .int .i64 (Q.net.writeE c [z])]) ∧ Hid (PTwo W w' p g q y P { Q with net := Q.net.write c [z] } m K (n + 1) L Kb ∧ KeepP Kb w w') := by
  obtain ⟨F, G, h⟩ := h
  obtain ⟨N, n1, n2, n3⟩ := h.rol.open_
  exact (rwrite_any w y n N Q.net c (some ⟨b, 0, none⟩) 1 1 [z] n1 (by simpa using hm) (At.row1 hr (fun hk => (h.g b (n2 b hk)).2 hb) hz) rfl (Nat.le_refl _) (by unfold maxLen; omega)).mono fun e w' ⟨h1, hd⟩ => ⟨h1, Lib.hid (h.rolTo (n3 _ _ _ (h.rol.mks.write (m := n) c [z]) hd.out))⟩
theorem sendP (W w : World) (p g q y m K n L : Nat) (P Q : Plr) (Kb : List Nat) (h : PTwo W w p g q y P Q m K n L Kb) (c z : Int) (b d : Nat) (hb : b ∈ Kb) (hr : Row w b 5 #[.int .u8 z]) (hd : d ∈ Kb) (hs : Row w d 72 #[.slice (some ⟨b, 0, none⟩) 1 1]) (hz : 0 ≤ z ∧ z ≤ 255) (hm : m + 1 ≤ 900000000) :
    Calls Tryd.prog 22 #[.pointer (some ⟨g, 0, none⟩), .int .i64 c, .slice (some ⟨d, 0, none⟩) 1 1] w fun e w' => e = .returned (.tuple #[.int .i64 (P.net.sendK c [z]), .int .i64 (P.net.sendE c)]) ∧ Hid (PTwo W w' p g q y { P with net := P.net.send c [z] } Q (m + 1) K n L Kb ∧ KeepP Kb w w') := by
  obtain ⟨F, G, h⟩ := h
  obtain ⟨N, n1, n2, n3⟩ := h.pol.open_
  exact (send_any w g m N P.net c (some ⟨d, 0, none⟩) 1 1 [⟨some ⟨b, 0, none⟩, [z], 1⟩] n1 hm (Parts.row1 hs (At.row1 hr (fun hk => (h.f b (n2 b hk)).2.1 hb) hz) (fun hk => (h.f d (n2 d hk)).2.1 hd)) rfl (by unfold maxLen; omega)).mono fun e w' ⟨h1, hd⟩ => ⟨h1, Lib.hid (h.polTo (n3 _ _ _ hd.out))⟩
theorem rsendP (W w : World) (p g q y m K n L : Nat) (P Q : Plr) (Kb : List Nat) (h : PTwo W w p g q y P Q m K n L Kb) (c z : Int) (b d : Nat) (hb : b ∈ Kb) (hr : Row w b 5 #[.int .u8 z]) (hd : d ∈ Kb) (hs : Row w d 72 #[.slice (some ⟨b, 0, none⟩) 1 1]) (hz : 0 ≤ z ∧ z ≤ 255) (hm : n + 1 ≤ 900000000) :
    Calls Tryd.prog 34 #[.pointer (some ⟨y, 0, none⟩), .int .i64 c, .slice (some ⟨d, 0, none⟩) 1 1] w fun e w' => e = .returned (.tuple #[.int .i64 (Q.net.sendK c [z]), .int .i64 (Q.net.sendE c)]) ∧ Hid (PTwo W w' p g q y P { Q with net := Q.net.send c [z] } m K (n + 1) L Kb ∧ KeepP Kb w w') := by
  obtain ⟨F, G, h⟩ := h
  obtain ⟨N, n1, n2, n3⟩ := h.rol.open_
  exact (rsend_any w y n N Q.net c (some ⟨d, 0, none⟩) 1 1 [⟨some ⟨b, 0, none⟩, [z], 1⟩] n1 hm (Parts.row1 hs (At.row1 hr (fun hk => (h.g b (n2 b hk)).2 hb) hz) (fun hk => (h.g d (n2 d hk)).2 hd)) rfl (by unfold maxLen; omega)).mono fun e w' ⟨h1, hd⟩ => ⟨h1, Lib.hid (h.rolTo (n3 _ _ _ (h.rol.mks.send c [z]) hd.out))⟩
end Go.Proofs.YthaapkafamdhcaaDoor

/- What wire of stage 8's law does to both pollers, a kind of act each. -/
namespace Go.Proofs.YthaapkafamdhcaaDoor
open Go.RowKit
set_option maxRecDepth 10000
set_option linter.unusedVariables false
set_option linter.unusedSimpArgs false

theorem PTwo.same {W w w2 : World} {p g q y m n K L : Nat} {P Q : Plr} {Kb : List Nat} (h : PTwo W w p g q y P Q m K n L Kb) (h1 : w2.heap = w.heap) (h2 : w2.os = w.os) (h3 : w2.tape = w.tape) (h4 : w2.output = w.output) : PTwo W w2 p g q y P Q m K n L Kb :=
  h.quiet ((Mods.refl [] w).same h1 h2 h3 h4)
theorem Row.same {w w2 : World} {b : Nat} {t : TypeId} {cs : Array Value} (h : Row w b t cs) (e : w2.heap = w.heap) : Row w2 b t cs := h.keep (by rw [e])
/-- Both nets have gone on alike. -/
def Wired (W w w' : World) (p g q y : Nat) (P : Plr) (m K L : Nat) (Kb : List Nat) : Prop := ∃ S, PTwo W w' p g q y { P with net := S } { P with net := S } (m + 1024) K (m + 1024) L Kb ∧ KeepP Kb w w'
section
variable {W w w0 w1 w2 w3 w4 : World} {p g q y m n K L a c : Nat} {P Q : Plr} {Kb l : List Nat}
theorem KeepP.sub {Kc : List Nat} (h : KeepP Kc w w1) (hs : ∀ k ∈ Kb, k ∈ Kc) : KeepP Kb w w1 := fun k hk => h k (hs k hk)
theorem Wired.of {S : Nt} (h : PTwo W w4 p g q y { P with net := S } { P with net := S } a K c L (Kb ++ l)) (k1 : KeepP Kb w w0) (k2 : KeepP (Kb ++ l) w0 w2) (k3 : KeepP (Kb ++ l) w2 w4) (ha : a ≤ m + 1024) (hc : c ≤ m + 1024) (hm : m + 1024 ≤ 900000000) : Wired W w w4 p g q y P m K L Kb :=
  ⟨S, (h.less (fun k hk => List.mem_append_left _ hk)).more ha hm hc hm, (k1.trans (k2.sub fun k hk => List.mem_append_left _ hk)).trans (k3.sub fun k hk => List.mem_append_left _ hk)⟩
theorem KeepP.same (h : KeepP Kb w w1) (e : w2.heap = w1.heap) : KeepP Kb w w2 := fun k hk => by rw [e]; exact h k hk
theorem KeepP.onto {Kc : List Nat} {o : Obj} (h : KeepP (Kc ++ [w.heap.size]) (w.alloc o).drew w2) (hk : ∀ k ∈ Kc, k < w.heap.size) : KeepP Kc w w2 := fun k hk2 => (h k (List.mem_append_left _ hk2)).trans (Below.heap_alloc w o k (hk k hk2))
theorem KeepP.of_same (h : KeepP Kb w w1) (e : w.heap = w2.heap) : KeepP Kb w2 w1 := fun k hk => by rw [← e]; exact h k hk
end
set_option maxHeartbeats 4000000 in
theorem wire_5 (W w : World) (p g q y b m K L : Nat) (gv pv : Value) (P : Plr) (Kb : List Nat) (c k : Int) (r s e : Bool) (h : PTwo W w p g q y P P m K m L Kb) (hb : b ∈ Kb) (hr : Row w b 50 #[.pointer (some ⟨p, 0, none⟩), .pointer (some ⟨q, 0, none⟩), gv]) (hm : m + 1024 ≤ 900000000) :
    Calls Tryd.prog 14 #[.pointer (some ⟨b, 0, none⟩), .agg #[.int .i64 5, .int .i64 c, .int .i64 k, .bool r, .bool s, .bool e, pv]] w fun e w' => e = .returned (.tuple #[]) ∧ Hid (Wired W w w' p g q y P m K L Kb) := by
  have h1 := (h.onto (.cells #[.int .i64 5, .int .i64 c, .int .i64 k, .bool r, .bool s, .bool e, pv] 25)).onto (.cells #[.int .u8 7] 5)
  have ra := (Row.new w 25 #[.int .i64 5, .int .i64 c, .int .i64 k, .bool r, .bool s, .bool e, pv]).alloc (.cells #[.int .u8 7] 5)
  have rb := Row.new (w.alloc (.cells #[.int .i64 5, .int .i64 c, .int .i64 k, .bool r, .bool s, .bool e, pv] 25)) 5 #[.int .u8 7]
  have rp := (hr.alloc (.cells #[.int .i64 5, .int .i64 c, .int .i64 k, .bool r, .bool s, .bool e, pv] 25)).alloc (.cells #[.int .u8 7] 5)
  have k0 : KeepP Kb w ((w.alloc (.cells #[.int .i64 5, .int .i64 c, .int .i64 k, .bool r, .bool s, .bool e, pv] 25)).alloc (.cells #[.int .u8 7] 5)) := KeepP.quiet (((Mods.refl [] w).alloc _).alloc _) h.kb
  rw [show (w.alloc (.cells #[.int .i64 5, .int .i64 c, .int .i64 k, .bool r, .bool s, .bool e, pv] 25)).heap.size = w.heap.size + 1 by simp] at h1 rb
  obtain ⟨w0, hw0⟩ : ∃ w0, w0 = (w.alloc (.cells #[.int .i64 5, .int .i64 c, .int .i64 k, .bool r, .bool s, .bool e, pv] 25)).alloc (.cells #[.int .u8 7] 5) := ⟨_, rfl⟩
  obtain ⟨bb, hbb⟩ : ∃ bb, bb = w.heap.size + 1 := ⟨_, rfl⟩
  obtain ⟨bx, hbx⟩ : ∃ bx, bx = w.heap.size := ⟨_, rfl⟩
  rw [← hw0, ← hbb, ← hbx, List.append_assoc, List.singleton_append] at h1
  rw [← hw0, ← hbx] at ra
  rw [← hw0, ← hbb] at rb
  rw [← hw0] at rp k0
  have H1 := Lib.hid h1
  have RA := Lib.hid ra
  have RB := Lib.hid rb
  have RP := Lib.hid rp
  have K0 := Lib.hid k0
  have HB := Lib.hid (show b ∈ Kb ++ [bx, bb] from List.mem_append_left _ hb)
  have a0 : w0.cell? ⟨b, 0, none⟩ = some (.pointer (some ⟨p, 0, none⟩)) := rp.cell 0
  have a1 : w0.cell? ⟨b, 1, none⟩ = some (.pointer (some ⟨q, 0, none⟩)) := rp.cell 1
  have p0 : w0.cell? ⟨p, 0, none⟩ = some (.pointer (some ⟨g, 0, none⟩)) := h1.pc
  have q0 : w0.cell? ⟨q, 0, none⟩ = some (.pointer (some ⟨y, 0, none⟩)) := h1.qc
  have s1 : w0.cell? ⟨bx, 1, none⟩ = some (.int .i64 c) := ra.cell 1
  have s2 : w0.cell? ⟨bx, 2, none⟩ = some (.int .i64 k) := ra.cell 2
  clear h h1 ra rb rp k0 hr hb
  go_enter Tryd.func14, Tryd.ntmps14
  go_upto_region 4 with fail
  rw [← hw0, ← hbb, ← hbx]
  clear hw0 hbb hbx
  go_region_held3 (fun w' => w'.cell? ⟨b, 0, none⟩ = some (.pointer (some ⟨p, 0, none⟩)) ∧ w'.cell? ⟨p, 0, none⟩ = some (.pointer (some ⟨g, 0, none⟩)) ∧ w'.cell? ⟨bx, 2, none⟩ = some (.int .i64 k)) (go_keep)
    ((go_at_call 19; refine Calls.mono (connP W _ p g q y m K m L P P (Kb ++ [bx, bb]) ?_ (bits BinOp.and IntKind.i64 k 3) ) ?_; exact H1.out.same rfl rfl rfl rfl; rintro e w2 ⟨rfl, hd⟩; have H2 := Lib.hid hd.out.1; have K2 := Lib.hid (show KeepP (Kb ++ [bx, bb]) w0 w2 from hd.out.2); have RA2 := Lib.hid (RA.out.keepP K2.out (by simp)); have RB2 := Lib.hid (RB.out.keepP K2.out (by simp)); have RP2 := Lib.hid (RP.out.keepP K2.out HB.out); have b0 : w2.cell? ⟨b, 0, none⟩ = some (.pointer (some ⟨p, 0, none⟩)) := RP2.out.cell 0; have b1 : w2.cell? ⟨b, 1, none⟩ = some (.pointer (some ⟨q, 0, none⟩)) := RP2.out.cell 1; have b2 : w2.cell? ⟨p, 0, none⟩ = some (.pointer (some ⟨g, 0, none⟩)) := H2.out.pc; have b3 : w2.cell? ⟨q, 0, none⟩ = some (.pointer (some ⟨y, 0, none⟩)) := H2.out.qc; have b4 : w2.cell? ⟨bx, 1, none⟩ = some (.int .i64 c) := RA2.out.cell 1; have b5 : w2.cell? ⟨bx, 2, none⟩ = some (.int .i64 k) := RA2.out.cell 2; clear hd))
  all_goals clear a0 a1 p0 q0 s1 s2
  all_goals go_upto_region 5 with fail
  all_goals
    go_region_held3 (fun w' => w'.cell? ⟨b, 1, none⟩ = some (.pointer (some ⟨q, 0, none⟩)) ∧ w'.cell? ⟨q, 0, none⟩ = some (.pointer (some ⟨y, 0, none⟩)) ∧ w'.cell? ⟨bx, 2, none⟩ = some (.int .i64 k)) (go_keep)
      ((go_at_call 32; refine Calls.mono (rconnP W _ p g q y m K m L { P with net := P.net.conn (bits BinOp.and IntKind.i64 k 3) } P (Kb ++ [bx, bb]) ?_ (bits BinOp.and IntKind.i64 k 3) ) ?_; exact H2.out.same rfl rfl rfl rfl; rintro e w3 ⟨rfl, hd⟩; have H3 := Lib.hid hd.out.1; have K3 := Lib.hid (show KeepP (Kb ++ [bx, bb]) w2 w3 from hd.out.2); have RA3 := Lib.hid (RA2.out.keepP K3.out (by simp)); have RP3 := Lib.hid (RP2.out.keepP K3.out HB.out); have d1 : w3.cell? ⟨b, 1, none⟩ = some (.pointer (some ⟨q, 0, none⟩)) := RP3.out.cell 1; have d3 : w3.cell? ⟨q, 0, none⟩ = some (.pointer (some ⟨y, 0, none⟩)) := H3.out.qc; have d4 : w3.cell? ⟨bx, 1, none⟩ = some (.int .i64 c) := RA3.out.cell 1; have d5 : w3.cell? ⟨bx, 2, none⟩ = some (.int .i64 k) := RA3.out.cell 2; clear hd))
  all_goals
    go_wp2
    first
      | go_end0
      | refine bodyPost_ret (results_none rfl _ _ _) rfl ?_
      | skip
    exact ⟨rfl, Lib.hid (Wired.of (l := [bx, bb]) (H3.out.same rfl rfl rfl rfl) K0.out K2.out (K3.out.same rfl) (by omega) (by omega) hm)⟩
set_option maxHeartbeats 4000000 in
theorem wire_6 (W w : World) (p g q y b m K L : Nat) (gv pv : Value) (P : Plr) (Kb : List Nat) (c k : Int) (r s e : Bool) (h : PTwo W w p g q y P P m K m L Kb) (hb : b ∈ Kb) (hr : Row w b 50 #[.pointer (some ⟨p, 0, none⟩), .pointer (some ⟨q, 0, none⟩), gv]) (hm : m + 1024 ≤ 900000000) :
    Calls Tryd.prog 14 #[.pointer (some ⟨b, 0, none⟩), .agg #[.int .i64 6, .int .i64 c, .int .i64 k, .bool r, .bool s, .bool e, pv]] w fun e w' => e = .returned (.tuple #[]) ∧ Hid (Wired W w w' p g q y P m K L Kb) := by
  have h1 := (h.onto (.cells #[.int .i64 6, .int .i64 c, .int .i64 k, .bool r, .bool s, .bool e, pv] 25)).onto (.cells #[.int .u8 7] 5)
  have ra := (Row.new w 25 #[.int .i64 6, .int .i64 c, .int .i64 k, .bool r, .bool s, .bool e, pv]).alloc (.cells #[.int .u8 7] 5)
  have rb := Row.new (w.alloc (.cells #[.int .i64 6, .int .i64 c, .int .i64 k, .bool r, .bool s, .bool e, pv] 25)) 5 #[.int .u8 7]
  have rp := (hr.alloc (.cells #[.int .i64 6, .int .i64 c, .int .i64 k, .bool r, .bool s, .bool e, pv] 25)).alloc (.cells #[.int .u8 7] 5)
  have k0 : KeepP Kb w ((w.alloc (.cells #[.int .i64 6, .int .i64 c, .int .i64 k, .bool r, .bool s, .bool e, pv] 25)).alloc (.cells #[.int .u8 7] 5)) := KeepP.quiet (((Mods.refl [] w).alloc _).alloc _) h.kb
  rw [show (w.alloc (.cells #[.int .i64 6, .int .i64 c, .int .i64 k, .bool r, .bool s, .bool e, pv] 25)).heap.size = w.heap.size + 1 by simp] at h1 rb
  obtain ⟨w0, hw0⟩ : ∃ w0, w0 = (w.alloc (.cells #[.int .i64 6, .int .i64 c, .int .i64 k, .bool r, .bool s, .bool e, pv] 25)).alloc (.cells #[.int .u8 7] 5) := ⟨_, rfl⟩
  obtain ⟨bb, hbb⟩ : ∃ bb, bb = w.heap.size + 1 := ⟨_, rfl⟩
  obtain ⟨bx, hbx⟩ : ∃ bx, bx = w.heap.size := ⟨_, rfl⟩
  rw [← hw0, ← hbb, ← hbx, List.append_assoc, List.singleton_append] at h1
  rw [← hw0, ← hbx] at ra
  rw [← hw0, ← hbb] at rb
  rw [← hw0] at rp k0
  have H1 := Lib.hid h1
  have RA := Lib.hid ra
  have RB := Lib.hid rb
  have RP := Lib.hid rp
  have K0 := Lib.hid k0
  have HB := Lib.hid (show b ∈ Kb ++ [bx, bb] from List.mem_append_left _ hb)
  have a0 : w0.cell? ⟨b, 0, none⟩ = some (.pointer (some ⟨p, 0, none⟩)) := rp.cell 0
  have a1 : w0.cell? ⟨b, 1, none⟩ = some (.pointer (some ⟨q, 0, none⟩)) := rp.cell 1
  have p0 : w0.cell? ⟨p, 0, none⟩ = some (.pointer (some ⟨g, 0, none⟩)) := h1.pc
  have q0 : w0.cell? ⟨q, 0, none⟩ = some (.pointer (some ⟨y, 0, none⟩)) := h1.qc
  have s1 : w0.cell? ⟨bx, 1, none⟩ = some (.int .i64 c) := ra.cell 1
  have s2 : w0.cell? ⟨bx, 2, none⟩ = some (.int .i64 k) := ra.cell 2
  clear h h1 ra rb rp k0 hr hb
  go_enter Tryd.func14, Tryd.ntmps14
  go_upto_region 7 with fail
  rw [← hw0, ← hbb, ← hbx]
  clear hw0 hbb hbx
  go_wp2_with fail
  refine Calls.mono (accP W _ p g q y m K m L P P (Kb ++ [bx, bb]) H1.out) ?_
  rintro e w2 ⟨rfl, hd⟩; have H2 := Lib.hid hd.out.1; have K2 := Lib.hid (show KeepP (Kb ++ [bx, bb]) w0 w2 from hd.out.2); have RA2 := Lib.hid (RA.out.keepP K2.out (by simp)); have RB2 := Lib.hid (RB.out.keepP K2.out (by simp)); have RP2 := Lib.hid (RP.out.keepP K2.out HB.out); have b0 : w2.cell? ⟨b, 0, none⟩ = some (.pointer (some ⟨p, 0, none⟩)) := RP2.out.cell 0; have b1 : w2.cell? ⟨b, 1, none⟩ = some (.pointer (some ⟨q, 0, none⟩)) := RP2.out.cell 1; have b2 : w2.cell? ⟨p, 0, none⟩ = some (.pointer (some ⟨g, 0, none⟩)) := H2.out.pc; have b3 : w2.cell? ⟨q, 0, none⟩ = some (.pointer (some ⟨y, 0, none⟩)) := H2.out.qc; have b4 : w2.cell? ⟨bx, 1, none⟩ = some (.int .i64 c) := RA2.out.cell 1; have b5 : w2.cell? ⟨bx, 2, none⟩ = some (.int .i64 k) := RA2.out.cell 2; clear hd
  clear a0 a1 p0 q0 s1 s2
  go_wp2_with fail
  refine Calls.mono (raccP W _ p g q y m K m L { P with net := P.net.acc } P (Kb ++ [bx, bb]) H2.out) ?_
  rintro e w3 ⟨rfl, hd⟩; have H3 := Lib.hid hd.out.1; have K3 := Lib.hid (show KeepP (Kb ++ [bx, bb]) w2 w3 from hd.out.2); have RA3 := Lib.hid (RA2.out.keepP K3.out (by simp)); have RP3 := Lib.hid (RP2.out.keepP K3.out HB.out); have d1 : w3.cell? ⟨b, 1, none⟩ = some (.pointer (some ⟨q, 0, none⟩)) := RP3.out.cell 1; have d3 : w3.cell? ⟨q, 0, none⟩ = some (.pointer (some ⟨y, 0, none⟩)) := H3.out.qc; have d4 : w3.cell? ⟨bx, 1, none⟩ = some (.int .i64 c) := RA3.out.cell 1; have d5 : w3.cell? ⟨bx, 2, none⟩ = some (.int .i64 k) := RA3.out.cell 2; clear hd
  all_goals
    go_wp2
    first
      | go_end0
      | refine bodyPost_ret (results_none rfl _ _ _) rfl ?_
      | skip
    exact ⟨rfl, Lib.hid (Wired.of (l := [bx, bb]) (H3.out.same rfl rfl rfl rfl) K0.out K2.out (K3.out.same rfl) (by omega) (by omega) hm)⟩
set_option maxHeartbeats 4000000 in
theorem wire_7 (W w : World) (p g q y b m K L : Nat) (gv pv : Value) (P : Plr) (Kb : List Nat) (c k : Int) (r s e : Bool) (h : PTwo W w p g q y P P m K m L Kb) (hb : b ∈ Kb) (hr : Row w b 50 #[.pointer (some ⟨p, 0, none⟩), .pointer (some ⟨q, 0, none⟩), gv]) (hm : m + 1024 ≤ 900000000) :
    Calls Tryd.prog 14 #[.pointer (some ⟨b, 0, none⟩), .agg #[.int .i64 7, .int .i64 c, .int .i64 k, .bool r, .bool s, .bool e, pv]] w fun e w' => e = .returned (.tuple #[]) ∧ Hid (Wired W w w' p g q y P m K L Kb) := by
  have h1 := (h.onto (.cells #[.int .i64 7, .int .i64 c, .int .i64 k, .bool r, .bool s, .bool e, pv] 25)).onto (.cells #[.int .u8 7] 5)
  have ra := (Row.new w 25 #[.int .i64 7, .int .i64 c, .int .i64 k, .bool r, .bool s, .bool e, pv]).alloc (.cells #[.int .u8 7] 5)
  have rb := Row.new (w.alloc (.cells #[.int .i64 7, .int .i64 c, .int .i64 k, .bool r, .bool s, .bool e, pv] 25)) 5 #[.int .u8 7]
  have rp := (hr.alloc (.cells #[.int .i64 7, .int .i64 c, .int .i64 k, .bool r, .bool s, .bool e, pv] 25)).alloc (.cells #[.int .u8 7] 5)
  have k0 : KeepP Kb w ((w.alloc (.cells #[.int .i64 7, .int .i64 c, .int .i64 k, .bool r, .bool s, .bool e, pv] 25)).alloc (.cells #[.int .u8 7] 5)) := KeepP.quiet (((Mods.refl [] w).alloc _).alloc _) h.kb
  rw [show (w.alloc (.cells #[.int .i64 7, .int .i64 c, .int .i64 k, .bool r, .bool s, .bool e, pv] 25)).heap.size = w.heap.size + 1 by simp] at h1 rb
  obtain ⟨w0, hw0⟩ : ∃ w0, w0 = (w.alloc (.cells #[.int .i64 7, .int .i64 c, .int .i64 k, .bool r, .bool s, .bool e, pv] 25)).alloc (.cells #[.int .u8 7] 5) := ⟨_, rfl⟩
  obtain ⟨bb, hbb⟩ : ∃ bb, bb = w.heap.size + 1 := ⟨_, rfl⟩
  obtain ⟨bx, hbx⟩ : ∃ bx, bx = w.heap.size := ⟨_, rfl⟩
  rw [← hw0, ← hbb, ← hbx, List.append_assoc, List.singleton_append] at h1
  rw [← hw0, ← hbx] at ra
  rw [← hw0, ← hbb] at rb
  rw [← hw0] at rp k0
  have H1 := Lib.hid h1
  have RA := Lib.hid ra
  have RB := Lib.hid rb
  have RP := Lib.hid rp
  have K0 := Lib.hid k0
  have HB := Lib.hid (show b ∈ Kb ++ [bx, bb] from List.mem_append_left _ hb)
  have a0 : w0.cell? ⟨b, 0, none⟩ = some (.pointer (some ⟨p, 0, none⟩)) := rp.cell 0
  have a1 : w0.cell? ⟨b, 1, none⟩ = some (.pointer (some ⟨q, 0, none⟩)) := rp.cell 1
  have p0 : w0.cell? ⟨p, 0, none⟩ = some (.pointer (some ⟨g, 0, none⟩)) := h1.pc
  have q0 : w0.cell? ⟨q, 0, none⟩ = some (.pointer (some ⟨y, 0, none⟩)) := h1.qc
  have s1 : w0.cell? ⟨bx, 1, none⟩ = some (.int .i64 c) := ra.cell 1
  have s2 : w0.cell? ⟨bx, 2, none⟩ = some (.int .i64 k) := ra.cell 2
  clear h h1 ra rb rp k0 hr hb
  go_enter Tryd.func14, Tryd.ntmps14
  go_upto_region 10 with fail
  rw [← hw0, ← hbb, ← hbx]
  clear hw0 hbb hbx
  go_region_held3 (fun w' => w'.cell? ⟨b, 0, none⟩ = some (.pointer (some ⟨p, 0, none⟩)) ∧ w'.cell? ⟨p, 0, none⟩ = some (.pointer (some ⟨g, 0, none⟩)) ∧ w'.cell? ⟨bx, 1, none⟩ = some (.int .i64 c)) (go_keep)
    ((go_at_call 22; refine Calls.mono (sendP W _ p g q y m K m L P P (Kb ++ [bx, bb] ++ [w0.heap.size]) ?_ c 7 bb w0.heap.size (by simp) ((RB.out.alloc _).same rfl) (by simp) ((Row.new w0 _ _).same rfl) (by decide) (by omega)) ?_; exact (H1.out.onto _).same rfl rfl rfl rfl; rintro e w2 ⟨rfl, hd⟩; have H2 := Lib.hid (hd.out.1.less fun k hk => List.mem_append_left _ hk); have K2 := Lib.hid (show KeepP (Kb ++ [bx, bb]) w0 w2 from KeepP.onto hd.out.2 H1.out.kb); have RA2 := Lib.hid (RA.out.keepP K2.out (by simp)); have RB2 := Lib.hid (RB.out.keepP K2.out (by simp)); have RP2 := Lib.hid (RP.out.keepP K2.out HB.out); have b0 : w2.cell? ⟨b, 0, none⟩ = some (.pointer (some ⟨p, 0, none⟩)) := RP2.out.cell 0; have b1 : w2.cell? ⟨b, 1, none⟩ = some (.pointer (some ⟨q, 0, none⟩)) := RP2.out.cell 1; have b2 : w2.cell? ⟨p, 0, none⟩ = some (.pointer (some ⟨g, 0, none⟩)) := H2.out.pc; have b3 : w2.cell? ⟨q, 0, none⟩ = some (.pointer (some ⟨y, 0, none⟩)) := H2.out.qc; have b4 : w2.cell? ⟨bx, 1, none⟩ = some (.int .i64 c) := RA2.out.cell 1; have b5 : w2.cell? ⟨bx, 2, none⟩ = some (.int .i64 k) := RA2.out.cell 2; clear hd))
  all_goals clear a0 a1 p0 q0 s1 s2
  all_goals go_upto_region 11 with fail
  all_goals
    go_region_held3 (fun w' => w'.cell? ⟨b, 1, none⟩ = some (.pointer (some ⟨q, 0, none⟩)) ∧ w'.cell? ⟨q, 0, none⟩ = some (.pointer (some ⟨y, 0, none⟩)) ∧ w'.cell? ⟨bx, 1, none⟩ = some (.int .i64 c)) (go_keep)
      ((go_at_call 34; refine Calls.mono (rsendP W _ p g q y (m + 1) K m L { P with net := P.net.send c [7] } P (Kb ++ [bx, bb] ++ [w2.heap.size]) ?_ c 7 bb w2.heap.size (by simp) ((RB2.out.alloc _).same rfl) (by simp) ((Row.new w2 _ _).same rfl) (by decide) (by omega)) ?_; exact (H2.out.onto _).same rfl rfl rfl rfl; rintro e w3 ⟨rfl, hd⟩; have H3 := Lib.hid (hd.out.1.less fun k hk => List.mem_append_left _ hk); have K3 := Lib.hid (show KeepP (Kb ++ [bx, bb]) w2 w3 from KeepP.onto hd.out.2 H2.out.kb); have RA3 := Lib.hid (RA2.out.keepP K3.out (by simp)); have RP3 := Lib.hid (RP2.out.keepP K3.out HB.out); have d1 : w3.cell? ⟨b, 1, none⟩ = some (.pointer (some ⟨q, 0, none⟩)) := RP3.out.cell 1; have d3 : w3.cell? ⟨q, 0, none⟩ = some (.pointer (some ⟨y, 0, none⟩)) := H3.out.qc; have d4 : w3.cell? ⟨bx, 1, none⟩ = some (.int .i64 c) := RA3.out.cell 1; have d5 : w3.cell? ⟨bx, 2, none⟩ = some (.int .i64 k) := RA3.out.cell 2; clear hd))
  all_goals
    go_wp2
    first
      | go_end0
      | refine bodyPost_ret (results_none rfl _ _ _) rfl ?_
      | skip
    exact ⟨rfl, Lib.hid (Wired.of (l := [bx, bb]) (H3.out.same rfl rfl rfl rfl) K0.out K2.out (K3.out.same rfl) (by omega) (by omega) hm)⟩
set_option maxHeartbeats 4000000 in
theorem wire_8 (W w : World) (p g q y b m K L : Nat) (gv pv : Value) (P : Plr) (Kb : List Nat) (c k : Int) (r s e : Bool) (h : PTwo W w p g q y P P m K m L Kb) (hb : b ∈ Kb) (hr : Row w b 50 #[.pointer (some ⟨p, 0, none⟩), .pointer (some ⟨q, 0, none⟩), gv]) (hm : m + 1024 ≤ 900000000) :
    Calls Tryd.prog 14 #[.pointer (some ⟨b, 0, none⟩), .agg #[.int .i64 8, .int .i64 c, .int .i64 k, .bool r, .bool s, .bool e, pv]] w fun e w' => e = .returned (.tuple #[]) ∧ Hid (Wired W w w' p g q y P m K L Kb) := by
  have h1 := (h.onto (.cells #[.int .i64 8, .int .i64 c, .int .i64 k, .bool r, .bool s, .bool e, pv] 25)).onto (.cells #[.int .u8 7] 5)
  have ra := (Row.new w 25 #[.int .i64 8, .int .i64 c, .int .i64 k, .bool r, .bool s, .bool e, pv]).alloc (.cells #[.int .u8 7] 5)
  have rb := Row.new (w.alloc (.cells #[.int .i64 8, .int .i64 c, .int .i64 k, .bool r, .bool s, .bool e, pv] 25)) 5 #[.int .u8 7]
  have rp := (hr.alloc (.cells #[.int .i64 8, .int .i64 c, .int .i64 k, .bool r, .bool s, .bool e, pv] 25)).alloc (.cells #[.int .u8 7] 5)
  have k0 : KeepP Kb w ((w.alloc (.cells #[.int .i64 8, .int .i64 c, .int .i64 k, .bool r, .bool s, .bool e, pv] 25)).alloc (.cells #[.int .u8 7] 5)) := KeepP.quiet (((Mods.refl [] w).alloc _).alloc _) h.kb
  rw [show (w.alloc (.cells #[.int .i64 8, .int .i64 c, .int .i64 k, .bool r, .bool s, .bool e, pv] 25)).heap.size = w.heap.size + 1 by simp] at h1 rb
  obtain ⟨w0, hw0⟩ : ∃ w0, w0 = (w.alloc (.cells #[.int .i64 8, .int .i64 c, .int .i64 k, .bool r, .bool s, .bool e, pv] 25)).alloc (.cells #[.int .u8 7] 5) := ⟨_, rfl⟩
  obtain ⟨bb, hbb⟩ : ∃ bb, bb = w.heap.size + 1 := ⟨_, rfl⟩
  obtain ⟨bx, hbx⟩ : ∃ bx, bx = w.heap.size := ⟨_, rfl⟩
  rw [← hw0, ← hbb, ← hbx, List.append_assoc, List.singleton_append] at h1
  rw [← hw0, ← hbx] at ra
  rw [← hw0, ← hbb] at rb
  rw [← hw0] at rp k0
  have H1 := Lib.hid h1
  have RA := Lib.hid ra
  have RB := Lib.hid rb
  have RP := Lib.hid rp
  have K0 := Lib.hid k0
  have HB := Lib.hid (show b ∈ Kb ++ [bx, bb] from List.mem_append_left _ hb)
  have a0 : w0.cell? ⟨b, 0, none⟩ = some (.pointer (some ⟨p, 0, none⟩)) := rp.cell 0
  have a1 : w0.cell? ⟨b, 1, none⟩ = some (.pointer (some ⟨q, 0, none⟩)) := rp.cell 1
  have p0 : w0.cell? ⟨p, 0, none⟩ = some (.pointer (some ⟨g, 0, none⟩)) := h1.pc
  have q0 : w0.cell? ⟨q, 0, none⟩ = some (.pointer (some ⟨y, 0, none⟩)) := h1.qc
  have s1 : w0.cell? ⟨bx, 1, none⟩ = some (.int .i64 c) := ra.cell 1
  have s2 : w0.cell? ⟨bx, 2, none⟩ = some (.int .i64 k) := ra.cell 2
  clear h h1 ra rb rp k0 hr hb
  go_enter Tryd.func14, Tryd.ntmps14
  go_upto_region 13 with fail
  rw [← hw0, ← hbb, ← hbx]
  clear hw0 hbb hbx
  go_region_held3 (fun w' => w'.cell? ⟨b, 0, none⟩ = some (.pointer (some ⟨p, 0, none⟩)) ∧ w'.cell? ⟨p, 0, none⟩ = some (.pointer (some ⟨g, 0, none⟩)) ∧ w'.cell? ⟨bx, 1, none⟩ = some (.int .i64 c) ∧ w'.cell? ⟨bx, 2, none⟩ = some (.int .i64 k)) (go_keep)
    ((go_at_call 26; refine Calls.mono (openP W _ p g q y m K m L P P (Kb ++ [bx, bb]) ?_ c k (by omega)) ?_; exact H1.out.same rfl rfl rfl rfl; rintro e w2 ⟨rfl, hd⟩; have H2 := Lib.hid hd.out.1; have K2 := Lib.hid (show KeepP (Kb ++ [bx, bb]) w0 w2 from hd.out.2); have RA2 := Lib.hid (RA.out.keepP K2.out (by simp)); have RB2 := Lib.hid (RB.out.keepP K2.out (by simp)); have RP2 := Lib.hid (RP.out.keepP K2.out HB.out); have b0 : w2.cell? ⟨b, 0, none⟩ = some (.pointer (some ⟨p, 0, none⟩)) := RP2.out.cell 0; have b1 : w2.cell? ⟨b, 1, none⟩ = some (.pointer (some ⟨q, 0, none⟩)) := RP2.out.cell 1; have b2 : w2.cell? ⟨p, 0, none⟩ = some (.pointer (some ⟨g, 0, none⟩)) := H2.out.pc; have b3 : w2.cell? ⟨q, 0, none⟩ = some (.pointer (some ⟨y, 0, none⟩)) := H2.out.qc; have b4 : w2.cell? ⟨bx, 1, none⟩ = some (.int .i64 c) := RA2.out.cell 1; have b5 : w2.cell? ⟨bx, 2, none⟩ = some (.int .i64 k) := RA2.out.cell 2; clear hd))
  all_goals clear a0 a1 p0 q0 s1 s2
  all_goals go_upto_region 14 with fail
  all_goals
    go_region_held3 (fun w' => w'.cell? ⟨b, 1, none⟩ = some (.pointer (some ⟨q, 0, none⟩)) ∧ w'.cell? ⟨q, 0, none⟩ = some (.pointer (some ⟨y, 0, none⟩)) ∧ w'.cell? ⟨bx, 1, none⟩ = some (.int .i64 c) ∧ w'.cell? ⟨bx, 2, none⟩ = some (.int .i64 k)) (go_keep)
      ((go_at_call 35; refine Calls.mono (ropenP W _ p g q y (m + 1) K m L { P with net := P.net.open_ c k } P (Kb ++ [bx, bb]) ?_ c k (by omega)) ?_; exact H2.out.same rfl rfl rfl rfl; rintro e w3 ⟨rfl, hd⟩; have H3 := Lib.hid hd.out.1; have K3 := Lib.hid (show KeepP (Kb ++ [bx, bb]) w2 w3 from hd.out.2); have RA3 := Lib.hid (RA2.out.keepP K3.out (by simp)); have RP3 := Lib.hid (RP2.out.keepP K3.out HB.out); have d1 : w3.cell? ⟨b, 1, none⟩ = some (.pointer (some ⟨q, 0, none⟩)) := RP3.out.cell 1; have d3 : w3.cell? ⟨q, 0, none⟩ = some (.pointer (some ⟨y, 0, none⟩)) := H3.out.qc; have d4 : w3.cell? ⟨bx, 1, none⟩ = some (.int .i64 c) := RA3.out.cell 1; have d5 : w3.cell? ⟨bx, 2, none⟩ = some (.int .i64 k) := RA3.out.cell 2; clear hd))
  all_goals
    go_wp2
    first
      | go_end0
      | refine bodyPost_ret (results_none rfl _ _ _) rfl ?_
      | skip
    exact ⟨rfl, Lib.hid (Wired.of (l := [bx, bb]) (H3.out.same rfl rfl rfl rfl) K0.out K2.out (K3.out.same rfl) (by omega) (by omega) hm)⟩
set_option maxHeartbeats 4000000 in
theorem wire_9 (W w : World) (p g q y b m K L : Nat) (gv pv : Value) (P : Plr) (Kb : List Nat) (c k : Int) (r s e : Bool) (h : PTwo W w p g q y P P m K m L Kb) (hb : b ∈ Kb) (hr : Row w b 50 #[.pointer (some ⟨p, 0, none⟩), .pointer (some ⟨q, 0, none⟩), gv]) (hm : m + 1024 ≤ 900000000) :
    Calls Tryd.prog 14 #[.pointer (some ⟨b, 0, none⟩), .agg #[.int .i64 9, .int .i64 c, .int .i64 k, .bool r, .bool s, .bool e, pv]] w fun e w' => e = .returned (.tuple #[]) ∧ Hid (Wired W w w' p g q y P m K L Kb) := by
  have h1 := (h.onto (.cells #[.int .i64 9, .int .i64 c, .int .i64 k, .bool r, .bool s, .bool e, pv] 25)).onto (.cells #[.int .u8 7] 5)
  have ra := (Row.new w 25 #[.int .i64 9, .int .i64 c, .int .i64 k, .bool r, .bool s, .bool e, pv]).alloc (.cells #[.int .u8 7] 5)
  have rb := Row.new (w.alloc (.cells #[.int .i64 9, .int .i64 c, .int .i64 k, .bool r, .bool s, .bool e, pv] 25)) 5 #[.int .u8 7]
  have rp := (hr.alloc (.cells #[.int .i64 9, .int .i64 c, .int .i64 k, .bool r, .bool s, .bool e, pv] 25)).alloc (.cells #[.int .u8 7] 5)
  have k0 : KeepP Kb w ((w.alloc (.cells #[.int .i64 9, .int .i64 c, .int .i64 k, .bool r, .bool s, .bool e, pv] 25)).alloc (.cells #[.int .u8 7] 5)) := KeepP.quiet (((Mods.refl [] w).alloc _).alloc _) h.kb
  rw [show (w.alloc (.cells #[.int .i64 9, .int .i64 c, .int .i64 k, .bool r, .bool s, .bool e, pv] 25)).heap.size = w.heap.size + 1 by simp] at h1 rb
  obtain ⟨w0, hw0⟩ : ∃ w0, w0 = (w.alloc (.cells #[.int .i64 9, .int .i64 c, .int .i64 k, .bool r, .bool s, .bool e, pv] 25)).alloc (.cells #[.int .u8 7] 5) := ⟨_, rfl⟩
  obtain ⟨bb, hbb⟩ : ∃ bb, bb = w.heap.size + 1 := ⟨_, rfl⟩
  obtain ⟨bx, hbx⟩ : ∃ bx, bx = w.heap.size := ⟨_, rfl⟩
  rw [← hw0, ← hbb, ← hbx, List.append_assoc, List.singleton_append] at h1
  rw [← hw0, ← hbx] at ra
  rw [← hw0, ← hbb] at rb
  rw [← hw0] at rp k0
  have H1 := Lib.hid h1
  have RA := Lib.hid ra
  have RB := Lib.hid rb
  have RP := Lib.hid rp
  have K0 := Lib.hid k0
  have HB := Lib.hid (show b ∈ Kb ++ [bx, bb] from List.mem_append_left _ hb)
  have a0 : w0.cell? ⟨b, 0, none⟩ = some (.pointer (some ⟨p, 0, none⟩)) := rp.cell 0
  have a1 : w0.cell? ⟨b, 1, none⟩ = some (.pointer (some ⟨q, 0, none⟩)) := rp.cell 1
  have p0 : w0.cell? ⟨p, 0, none⟩ = some (.pointer (some ⟨g, 0, none⟩)) := h1.pc
  have q0 : w0.cell? ⟨q, 0, none⟩ = some (.pointer (some ⟨y, 0, none⟩)) := h1.qc
  have s1 : w0.cell? ⟨bx, 1, none⟩ = some (.int .i64 c) := ra.cell 1
  have s2 : w0.cell? ⟨bx, 2, none⟩ = some (.int .i64 k) := ra.cell 2
  clear h h1 ra rb rp k0 hr hb
  go_enter Tryd.func14, Tryd.ntmps14
  go_upto_region 16 with fail
  rw [← hw0, ← hbb, ← hbx]
  clear hw0 hbb hbx
  go_region_held3 (fun w' => w'.cell? ⟨b, 0, none⟩ = some (.pointer (some ⟨p, 0, none⟩)) ∧ w'.cell? ⟨p, 0, none⟩ = some (.pointer (some ⟨g, 0, none⟩)) ∧ w'.cell? ⟨bx, 1, none⟩ = some (.int .i64 c)) (go_keep)
    ((go_at_call 36; refine Calls.mono (resetP W _ p g q y m K m L P P (Kb ++ [bx, bb]) ?_ c (by omega)) ?_; exact H1.out.same rfl rfl rfl rfl; rintro e w2 ⟨rfl, hd⟩; have H2 := Lib.hid hd.out.1; have K2 := Lib.hid (show KeepP (Kb ++ [bx, bb]) w0 w2 from hd.out.2); have RA2 := Lib.hid (RA.out.keepP K2.out (by simp)); have RB2 := Lib.hid (RB.out.keepP K2.out (by simp)); have RP2 := Lib.hid (RP.out.keepP K2.out HB.out); have b0 : w2.cell? ⟨b, 0, none⟩ = some (.pointer (some ⟨p, 0, none⟩)) := RP2.out.cell 0; have b1 : w2.cell? ⟨b, 1, none⟩ = some (.pointer (some ⟨q, 0, none⟩)) := RP2.out.cell 1; have b2 : w2.cell? ⟨p, 0, none⟩ = some (.pointer (some ⟨g, 0, none⟩)) := H2.out.pc; have b3 : w2.cell? ⟨q, 0, none⟩ = some (.pointer (some ⟨y, 0, none⟩)) := H2.out.qc; have b4 : w2.cell? ⟨bx, 1, none⟩ = some (.int .i64 c) := RA2.out.cell 1; have b5 : w2.cell? ⟨bx, 2, none⟩ = some (.int .i64 k) := RA2.out.cell 2; clear hd))
  all_goals clear a0 a1 p0 q0 s1 s2
  all_goals go_upto_region 17 with fail
  all_goals
    go_region_held3 (fun w' => w'.cell? ⟨b, 1, none⟩ = some (.pointer (some ⟨q, 0, none⟩)) ∧ w'.cell? ⟨q, 0, none⟩ = some (.pointer (some ⟨y, 0, none⟩)) ∧ w'.cell? ⟨bx, 1, none⟩ = some (.int .i64 c)) (go_keep)
      ((go_at_call 37; refine Calls.mono (rresetP W _ p g q y (m + 1) K m L { P with net := P.net.reset c } P (Kb ++ [bx, bb]) ?_ c (by omega)) ?_; exact H2.out.same rfl rfl rfl rfl; rintro e w3 ⟨rfl, hd⟩; have H3 := Lib.hid hd.out.1; have K3 := Lib.hid (show KeepP (Kb ++ [bx, bb]) w2 w3 from hd.out.2); have RA3 := Lib.hid (RA2.out.keepP K3.out (by simp)); have RP3 := Lib.hid (RP2.out.keepP K3.out HB.out); have d1 : w3.cell? ⟨b, 1, none⟩ = some (.pointer (some ⟨q, 0, none⟩)) := RP3.out.cell 1; have d3 : w3.cell? ⟨q, 0, none⟩ = some (.pointer (some ⟨y, 0, none⟩)) := H3.out.qc; have d4 : w3.cell? ⟨bx, 1, none⟩ = some (.int .i64 c) := RA3.out.cell 1; have d5 : w3.cell? ⟨bx, 2, none⟩ = some (.int .i64 k) := RA3.out.cell 2; clear hd))
  all_goals
    go_wp2
    first
      | go_end0
      | refine bodyPost_ret (results_none rfl _ _ _) rfl ?_
      | skip
    exact ⟨rfl, Lib.hid (Wired.of (l := [bx, bb]) (H3.out.same rfl rfl rfl rfl) K0.out K2.out (K3.out.same rfl) (by omega) (by omega) hm)⟩
set_option maxHeartbeats 4000000 in
theorem wire_10 (W w : World) (p g q y b m K L : Nat) (gv pv : Value) (P : Plr) (Kb : List Nat) (c k : Int) (r s e : Bool) (h : PTwo W w p g q y P P m K m L Kb) (hb : b ∈ Kb) (hr : Row w b 50 #[.pointer (some ⟨p, 0, none⟩), .pointer (some ⟨q, 0, none⟩), gv]) (hm : m + 1024 ≤ 900000000) :
    Calls Tryd.prog 14 #[.pointer (some ⟨b, 0, none⟩), .agg #[.int .i64 10, .int .i64 c, .int .i64 k, .bool r, .bool s, .bool e, pv]] w fun e w' => e = .returned (.tuple #[]) ∧ Hid (Wired W w w' p g q y P m K L Kb) := by
  have h1 := (h.onto (.cells #[.int .i64 10, .int .i64 c, .int .i64 k, .bool r, .bool s, .bool e, pv] 25)).onto (.cells #[.int .u8 7] 5)
  have ra := (Row.new w 25 #[.int .i64 10, .int .i64 c, .int .i64 k, .bool r, .bool s, .bool e, pv]).alloc (.cells #[.int .u8 7] 5)
  have rb := Row.new (w.alloc (.cells #[.int .i64 10, .int .i64 c, .int .i64 k, .bool r, .bool s, .bool e, pv] 25)) 5 #[.int .u8 7]
  have rp := (hr.alloc (.cells #[.int .i64 10, .int .i64 c, .int .i64 k, .bool r, .bool s, .bool e, pv] 25)).alloc (.cells #[.int .u8 7] 5)
  have k0 : KeepP Kb w ((w.alloc (.cells #[.int .i64 10, .int .i64 c, .int .i64 k, .bool r, .bool s, .bool e, pv] 25)).alloc (.cells #[.int .u8 7] 5)) := KeepP.quiet (((Mods.refl [] w).alloc _).alloc _) h.kb
  rw [show (w.alloc (.cells #[.int .i64 10, .int .i64 c, .int .i64 k, .bool r, .bool s, .bool e, pv] 25)).heap.size = w.heap.size + 1 by simp] at h1 rb
  obtain ⟨w0, hw0⟩ : ∃ w0, w0 = (w.alloc (.cells #[.int .i64 10, .int .i64 c, .int .i64 k, .bool r, .bool s, .bool e, pv] 25)).alloc (.cells #[.int .u8 7] 5) := ⟨_, rfl⟩
  obtain ⟨bb, hbb⟩ : ∃ bb, bb = w.heap.size + 1 := ⟨_, rfl⟩
  obtain ⟨bx, hbx⟩ : ∃ bx, bx = w.heap.size := ⟨_, rfl⟩
  rw [← hw0, ← hbb, ← hbx, List.append_assoc, List.singleton_append] at h1
  rw [← hw0, ← hbx] at ra
  rw [← hw0, ← hbb] at rb
  rw [← hw0] at rp k0
  have H1 := Lib.hid h1
  have RA := Lib.hid ra
  have RB := Lib.hid rb
  have RP := Lib.hid rp
  have K0 := Lib.hid k0
  have HB := Lib.hid (show b ∈ Kb ++ [bx, bb] from List.mem_append_left _ hb)
  have a0 : w0.cell? ⟨b, 0, none⟩ = some (.pointer (some ⟨p, 0, none⟩)) := rp.cell 0
  have a1 : w0.cell? ⟨b, 1, none⟩ = some (.pointer (some ⟨q, 0, none⟩)) := rp.cell 1
  have p0 : w0.cell? ⟨p, 0, none⟩ = some (.pointer (some ⟨g, 0, none⟩)) := h1.pc
  have q0 : w0.cell? ⟨q, 0, none⟩ = some (.pointer (some ⟨y, 0, none⟩)) := h1.qc
  have s1 : w0.cell? ⟨bx, 1, none⟩ = some (.int .i64 c) := ra.cell 1
  have s2 : w0.cell? ⟨bx, 2, none⟩ = some (.int .i64 k) := ra.cell 2
  clear h h1 ra rb rp k0 hr hb
  go_enter Tryd.func14, Tryd.ntmps14
  go_upto_region 19 with fail
  rw [← hw0, ← hbb, ← hbx]
  clear hw0 hbb hbx
  go_region_held3 (fun w' => w'.cell? ⟨b, 0, none⟩ = some (.pointer (some ⟨p, 0, none⟩)) ∧ w'.cell? ⟨p, 0, none⟩ = some (.pointer (some ⟨g, 0, none⟩)) ∧ w'.cell? ⟨bx, 1, none⟩ = some (.int .i64 c)) (go_keep)
    ((go_at_call 38; refine Calls.mono (halfP W _ p g q y m K m L P P (Kb ++ [bx, bb]) ?_ c (by omega)) ?_; exact H1.out.same rfl rfl rfl rfl; rintro e w2 ⟨rfl, hd⟩; have H2 := Lib.hid hd.out.1; have K2 := Lib.hid (show KeepP (Kb ++ [bx, bb]) w0 w2 from hd.out.2); have RA2 := Lib.hid (RA.out.keepP K2.out (by simp)); have RB2 := Lib.hid (RB.out.keepP K2.out (by simp)); have RP2 := Lib.hid (RP.out.keepP K2.out HB.out); have b0 : w2.cell? ⟨b, 0, none⟩ = some (.pointer (some ⟨p, 0, none⟩)) := RP2.out.cell 0; have b1 : w2.cell? ⟨b, 1, none⟩ = some (.pointer (some ⟨q, 0, none⟩)) := RP2.out.cell 1; have b2 : w2.cell? ⟨p, 0, none⟩ = some (.pointer (some ⟨g, 0, none⟩)) := H2.out.pc; have b3 : w2.cell? ⟨q, 0, none⟩ = some (.pointer (some ⟨y, 0, none⟩)) := H2.out.qc; have b4 : w2.cell? ⟨bx, 1, none⟩ = some (.int .i64 c) := RA2.out.cell 1; have b5 : w2.cell? ⟨bx, 2, none⟩ = some (.int .i64 k) := RA2.out.cell 2; clear hd))
  all_goals clear a0 a1 p0 q0 s1 s2
  all_goals go_upto_region 20 with fail
  all_goals
    go_region_held3 (fun w' => w'.cell? ⟨b, 1, none⟩ = some (.pointer (some ⟨q, 0, none⟩)) ∧ w'.cell? ⟨q, 0, none⟩ = some (.pointer (some ⟨y, 0, none⟩)) ∧ w'.cell? ⟨bx, 1, none⟩ = some (.int .i64 c)) (go_keep)
      ((go_at_call 39; refine Calls.mono (rhalfP W _ p g q y (m + 1) K m L { P with net := P.net.half c } P (Kb ++ [bx, bb]) ?_ c (by omega)) ?_; exact H2.out.same rfl rfl rfl rfl; rintro e w3 ⟨rfl, hd⟩; have H3 := Lib.hid hd.out.1; have K3 := Lib.hid (show KeepP (Kb ++ [bx, bb]) w2 w3 from hd.out.2); have RA3 := Lib.hid (RA2.out.keepP K3.out (by simp)); have RP3 := Lib.hid (RP2.out.keepP K3.out HB.out); have d1 : w3.cell? ⟨b, 1, none⟩ = some (.pointer (some ⟨q, 0, none⟩)) := RP3.out.cell 1; have d3 : w3.cell? ⟨q, 0, none⟩ = some (.pointer (some ⟨y, 0, none⟩)) := H3.out.qc; have d4 : w3.cell? ⟨bx, 1, none⟩ = some (.int .i64 c) := RA3.out.cell 1; have d5 : w3.cell? ⟨bx, 2, none⟩ = some (.int .i64 k) := RA3.out.cell 2; clear hd))
  all_goals
    go_wp2
    first
      | go_end0
      | refine bodyPost_ret (results_none rfl _ _ _) rfl ?_
      | skip
    exact ⟨rfl, Lib.hid (Wired.of (l := [bx, bb]) (H3.out.same rfl rfl rfl rfl) K0.out K2.out (K3.out.same rfl) (by omega) (by omega) hm)⟩
set_option maxHeartbeats 4000000 in
theorem wire_11 (W w : World) (p g q y b m K L : Nat) (gv pv : Value) (P : Plr) (Kb : List Nat) (c k : Int) (r s e : Bool) (h : PTwo W w p g q y P P m K m L Kb) (hb : b ∈ Kb) (hr : Row w b 50 #[.pointer (some ⟨p, 0, none⟩), .pointer (some ⟨q, 0, none⟩), gv]) (hm : m + 1024 ≤ 900000000) :
    Calls Tryd.prog 14 #[.pointer (some ⟨b, 0, none⟩), .agg #[.int .i64 11, .int .i64 c, .int .i64 k, .bool r, .bool s, .bool e, pv]] w fun e w' => e = .returned (.tuple #[]) ∧ Hid (Wired W w w' p g q y P m K L Kb) := by
  have h1 := (h.onto (.cells #[.int .i64 11, .int .i64 c, .int .i64 k, .bool r, .bool s, .bool e, pv] 25)).onto (.cells #[.int .u8 7] 5)
  have ra := (Row.new w 25 #[.int .i64 11, .int .i64 c, .int .i64 k, .bool r, .bool s, .bool e, pv]).alloc (.cells #[.int .u8 7] 5)
  have rb := Row.new (w.alloc (.cells #[.int .i64 11, .int .i64 c, .int .i64 k, .bool r, .bool s, .bool e, pv] 25)) 5 #[.int .u8 7]
  have rp := (hr.alloc (.cells #[.int .i64 11, .int .i64 c, .int .i64 k, .bool r, .bool s, .bool e, pv] 25)).alloc (.cells #[.int .u8 7] 5)
  have k0 : KeepP Kb w ((w.alloc (.cells #[.int .i64 11, .int .i64 c, .int .i64 k, .bool r, .bool s, .bool e, pv] 25)).alloc (.cells #[.int .u8 7] 5)) := KeepP.quiet (((Mods.refl [] w).alloc _).alloc _) h.kb
  rw [show (w.alloc (.cells #[.int .i64 11, .int .i64 c, .int .i64 k, .bool r, .bool s, .bool e, pv] 25)).heap.size = w.heap.size + 1 by simp] at h1 rb
  obtain ⟨w0, hw0⟩ : ∃ w0, w0 = (w.alloc (.cells #[.int .i64 11, .int .i64 c, .int .i64 k, .bool r, .bool s, .bool e, pv] 25)).alloc (.cells #[.int .u8 7] 5) := ⟨_, rfl⟩
  obtain ⟨bb, hbb⟩ : ∃ bb, bb = w.heap.size + 1 := ⟨_, rfl⟩
  obtain ⟨bx, hbx⟩ : ∃ bx, bx = w.heap.size := ⟨_, rfl⟩
  rw [← hw0, ← hbb, ← hbx, List.append_assoc, List.singleton_append] at h1
  rw [← hw0, ← hbx] at ra
  rw [← hw0, ← hbb] at rb
  rw [← hw0] at rp k0
  have H1 := Lib.hid h1
  have RA := Lib.hid ra
  have RB := Lib.hid rb
  have RP := Lib.hid rp
  have K0 := Lib.hid k0
  have HB := Lib.hid (show b ∈ Kb ++ [bx, bb] from List.mem_append_left _ hb)
  have a0 : w0.cell? ⟨b, 0, none⟩ = some (.pointer (some ⟨p, 0, none⟩)) := rp.cell 0
  have a1 : w0.cell? ⟨b, 1, none⟩ = some (.pointer (some ⟨q, 0, none⟩)) := rp.cell 1
  have p0 : w0.cell? ⟨p, 0, none⟩ = some (.pointer (some ⟨g, 0, none⟩)) := h1.pc
  have q0 : w0.cell? ⟨q, 0, none⟩ = some (.pointer (some ⟨y, 0, none⟩)) := h1.qc
  have s1 : w0.cell? ⟨bx, 1, none⟩ = some (.int .i64 c) := ra.cell 1
  have s2 : w0.cell? ⟨bx, 2, none⟩ = some (.int .i64 k) := ra.cell 2
  clear h h1 ra rb rp k0 hr hb
  go_enter Tryd.func14, Tryd.ntmps14
  go_upto_region 22 with fail
  rw [← hw0, ← hbb, ← hbx]
  clear hw0 hbb hbx
  go_region_held3 (fun w' => w'.cell? ⟨b, 0, none⟩ = some (.pointer (some ⟨p, 0, none⟩)) ∧ w'.cell? ⟨p, 0, none⟩ = some (.pointer (some ⟨g, 0, none⟩)) ∧ w'.cell? ⟨bx, 1, none⟩ = some (.int .i64 c)) (go_keep)
    ((go_at_call 40; refine Calls.mono (closeP W _ p g q y m K m L P P (Kb ++ [bx, bb] ++ [w0.heap.size]) ?_ c w0.heap.size (by simp) ((Row.new w0 _ _).same rfl)) ?_; exact (H1.out.onto _).same rfl rfl rfl rfl; rintro e w2 ⟨rfl, hd⟩; have H2 := Lib.hid (hd.out.1.less fun k hk => List.mem_append_left _ hk); have K2 := Lib.hid (show KeepP (Kb ++ [bx, bb]) w0 w2 from KeepP.onto hd.out.2 H1.out.kb); have RA2 := Lib.hid (RA.out.keepP K2.out (by simp)); have RB2 := Lib.hid (RB.out.keepP K2.out (by simp)); have RP2 := Lib.hid (RP.out.keepP K2.out HB.out); have b0 : w2.cell? ⟨b, 0, none⟩ = some (.pointer (some ⟨p, 0, none⟩)) := RP2.out.cell 0; have b1 : w2.cell? ⟨b, 1, none⟩ = some (.pointer (some ⟨q, 0, none⟩)) := RP2.out.cell 1; have b2 : w2.cell? ⟨p, 0, none⟩ = some (.pointer (some ⟨g, 0, none⟩)) := H2.out.pc; have b3 : w2.cell? ⟨q, 0, none⟩ = some (.pointer (some ⟨y, 0, none⟩)) := H2.out.qc; have b4 : w2.cell? ⟨bx, 1, none⟩ = some (.int .i64 c) := RA2.out.cell 1; have b5 : w2.cell? ⟨bx, 2, none⟩ = some (.int .i64 k) := RA2.out.cell 2; clear hd))
  all_goals clear a0 a1 p0 q0 s1 s2
  all_goals go_upto_region 23 with fail
  all_goals
    go_region_held3 (fun w' => w'.cell? ⟨b, 1, none⟩ = some (.pointer (some ⟨q, 0, none⟩)) ∧ w'.cell? ⟨q, 0, none⟩ = some (.pointer (some ⟨y, 0, none⟩)) ∧ w'.cell? ⟨bx, 1, none⟩ = some (.int .i64 c)) (go_keep)
      ((go_at_call 41; refine Calls.mono (rcloseP W _ p g q y m K m L { P with net := P.net.close [c] } P (Kb ++ [bx, bb] ++ [w2.heap.size]) ?_ c w2.heap.size (by simp) ((Row.new w2 _ _).same rfl)) ?_; exact (H2.out.onto _).same rfl rfl rfl rfl; rintro e w3 ⟨rfl, hd⟩; have H3 := Lib.hid (hd.out.1.less fun k hk => List.mem_append_left _ hk); have K3 := Lib.hid (show KeepP (Kb ++ [bx, bb]) w2 w3 from KeepP.onto hd.out.2 H2.out.kb); have RA3 := Lib.hid (RA2.out.keepP K3.out (by simp)); have RP3 := Lib.hid (RP2.out.keepP K3.out HB.out); have d1 : w3.cell? ⟨b, 1, none⟩ = some (.pointer (some ⟨q, 0, none⟩)) := RP3.out.cell 1; have d3 : w3.cell? ⟨q, 0, none⟩ = some (.pointer (some ⟨y, 0, none⟩)) := H3.out.qc; have d4 : w3.cell? ⟨bx, 1, none⟩ = some (.int .i64 c) := RA3.out.cell 1; have d5 : w3.cell? ⟨bx, 2, none⟩ = some (.int .i64 k) := RA3.out.cell 2; clear hd))
  all_goals
    go_wp2
    first
      | go_end0
      | refine bodyPost_ret (results_none rfl _ _ _) rfl ?_
      | skip
    exact ⟨rfl, Lib.hid (Wired.of (l := [bx, bb]) (H3.out.same rfl rfl rfl rfl) K0.out K2.out (K3.out.same rfl) (by omega) (by omega) hm)⟩
set_option maxHeartbeats 4000000 in
theorem wire_12 (W w : World) (p g q y b m K L : Nat) (gv pv : Value) (P : Plr) (Kb : List Nat) (c k : Int) (r s e : Bool) (h : PTwo W w p g q y P P m K m L Kb) (hb : b ∈ Kb) (hr : Row w b 50 #[.pointer (some ⟨p, 0, none⟩), .pointer (some ⟨q, 0, none⟩), gv]) (hm : m + 1024 ≤ 900000000) :
    Calls Tryd.prog 14 #[.pointer (some ⟨b, 0, none⟩), .agg #[.int .i64 12, .int .i64 c, .int .i64 k, .bool r, .bool s, .bool e, pv]] w fun e w' => e = .returned (.tuple #[]) ∧ Hid (Wired W w w' p g q y P m K L Kb) := by
  have h1 := (h.onto (.cells #[.int .i64 12, .int .i64 c, .int .i64 k, .bool r, .bool s, .bool e, pv] 25)).onto (.cells #[.int .u8 7] 5)
  have ra := (Row.new w 25 #[.int .i64 12, .int .i64 c, .int .i64 k, .bool r, .bool s, .bool e, pv]).alloc (.cells #[.int .u8 7] 5)
  have rb := Row.new (w.alloc (.cells #[.int .i64 12, .int .i64 c, .int .i64 k, .bool r, .bool s, .bool e, pv] 25)) 5 #[.int .u8 7]
  have rp := (hr.alloc (.cells #[.int .i64 12, .int .i64 c, .int .i64 k, .bool r, .bool s, .bool e, pv] 25)).alloc (.cells #[.int .u8 7] 5)
  have k0 : KeepP Kb w ((w.alloc (.cells #[.int .i64 12, .int .i64 c, .int .i64 k, .bool r, .bool s, .bool e, pv] 25)).alloc (.cells #[.int .u8 7] 5)) := KeepP.quiet (((Mods.refl [] w).alloc _).alloc _) h.kb
  rw [show (w.alloc (.cells #[.int .i64 12, .int .i64 c, .int .i64 k, .bool r, .bool s, .bool e, pv] 25)).heap.size = w.heap.size + 1 by simp] at h1 rb
  obtain ⟨w0, hw0⟩ : ∃ w0, w0 = (w.alloc (.cells #[.int .i64 12, .int .i64 c, .int .i64 k, .bool r, .bool s, .bool e, pv] 25)).alloc (.cells #[.int .u8 7] 5) := ⟨_, rfl⟩
  obtain ⟨bb, hbb⟩ : ∃ bb, bb = w.heap.size + 1 := ⟨_, rfl⟩
  obtain ⟨bx, hbx⟩ : ∃ bx, bx = w.heap.size := ⟨_, rfl⟩
  rw [← hw0, ← hbb, ← hbx, List.append_assoc, List.singleton_append] at h1
  rw [← hw0, ← hbx] at ra
  rw [← hw0, ← hbb] at rb
  rw [← hw0] at rp k0
  have H1 := Lib.hid h1
  have RA := Lib.hid ra
  have RB := Lib.hid rb
  have RP := Lib.hid rp
  have K0 := Lib.hid k0
  have HB := Lib.hid (show b ∈ Kb ++ [bx, bb] from List.mem_append_left _ hb)
  have a0 : w0.cell? ⟨b, 0, none⟩ = some (.pointer (some ⟨p, 0, none⟩)) := rp.cell 0
  have a1 : w0.cell? ⟨b, 1, none⟩ = some (.pointer (some ⟨q, 0, none⟩)) := rp.cell 1
  have p0 : w0.cell? ⟨p, 0, none⟩ = some (.pointer (some ⟨g, 0, none⟩)) := h1.pc
  have q0 : w0.cell? ⟨q, 0, none⟩ = some (.pointer (some ⟨y, 0, none⟩)) := h1.qc
  have s1 : w0.cell? ⟨bx, 1, none⟩ = some (.int .i64 c) := ra.cell 1
  have s2 : w0.cell? ⟨bx, 2, none⟩ = some (.int .i64 k) := ra.cell 2
  clear h h1 ra rb rp k0 hr hb
  go_enter Tryd.func14, Tryd.ntmps14
  go_upto_region 25 with fail
  rw [← hw0, ← hbb, ← hbx]
  clear hw0 hbb hbx
  go_region_held3 (fun w' => w'.cell? ⟨b, 0, none⟩ = some (.pointer (some ⟨p, 0, none⟩)) ∧ w'.cell? ⟨p, 0, none⟩ = some (.pointer (some ⟨g, 0, none⟩)) ∧ w'.cell? ⟨bx, 1, none⟩ = some (.int .i64 c)) (go_keep)
    ((go_at_call 23; refine Calls.mono (readP W _ p g q y m K m L P P (Kb ++ [bx, bb]) ?_ c 1 (by omega)) ?_; exact H1.out.same rfl rfl rfl rfl; rintro e w2 ⟨vv, rfl, hd⟩; have H2 := Lib.hid hd.out.1; have K2 := Lib.hid (show KeepP (Kb ++ [bx, bb]) w0 w2 from hd.out.2); have RA2 := Lib.hid (RA.out.keepP K2.out (by simp)); have RB2 := Lib.hid (RB.out.keepP K2.out (by simp)); have RP2 := Lib.hid (RP.out.keepP K2.out HB.out); have b0 : w2.cell? ⟨b, 0, none⟩ = some (.pointer (some ⟨p, 0, none⟩)) := RP2.out.cell 0; have b1 : w2.cell? ⟨b, 1, none⟩ = some (.pointer (some ⟨q, 0, none⟩)) := RP2.out.cell 1; have b2 : w2.cell? ⟨p, 0, none⟩ = some (.pointer (some ⟨g, 0, none⟩)) := H2.out.pc; have b3 : w2.cell? ⟨q, 0, none⟩ = some (.pointer (some ⟨y, 0, none⟩)) := H2.out.qc; have b4 : w2.cell? ⟨bx, 1, none⟩ = some (.int .i64 c) := RA2.out.cell 1; have b5 : w2.cell? ⟨bx, 2, none⟩ = some (.int .i64 k) := RA2.out.cell 2; clear hd))
  all_goals clear a0 a1 p0 q0 s1 s2
  all_goals go_upto_region 26 with fail
  all_goals
    go_region_held3 (fun w' => w'.cell? ⟨b, 1, none⟩ = some (.pointer (some ⟨q, 0, none⟩)) ∧ w'.cell? ⟨q, 0, none⟩ = some (.pointer (some ⟨y, 0, none⟩)) ∧ w'.cell? ⟨bx, 1, none⟩ = some (.int .i64 c)) (go_keep)
      ((go_at_call 42; refine Calls.mono (rreadP W _ p g q y (m + 1024) K m L { P with net := P.net.read c 1 } P (Kb ++ [bx, bb]) ?_ c 1 (by omega)) ?_; exact H2.out.same rfl rfl rfl rfl; rintro e w3 ⟨vu, rfl, hd⟩; have H3 := Lib.hid hd.out.1; have K3 := Lib.hid (show KeepP (Kb ++ [bx, bb]) w2 w3 from hd.out.2); have RA3 := Lib.hid (RA2.out.keepP K3.out (by simp)); have RP3 := Lib.hid (RP2.out.keepP K3.out HB.out); have d1 : w3.cell? ⟨b, 1, none⟩ = some (.pointer (some ⟨q, 0, none⟩)) := RP3.out.cell 1; have d3 : w3.cell? ⟨q, 0, none⟩ = some (.pointer (some ⟨y, 0, none⟩)) := H3.out.qc; have d4 : w3.cell? ⟨bx, 1, none⟩ = some (.int .i64 c) := RA3.out.cell 1; have d5 : w3.cell? ⟨bx, 2, none⟩ = some (.int .i64 k) := RA3.out.cell 2; clear hd))
  all_goals
    go_wp2
    first
      | go_end0
      | refine bodyPost_ret (results_none rfl _ _ _) rfl ?_
      | skip
    exact ⟨rfl, Lib.hid (Wired.of (l := [bx, bb]) (H3.out.same rfl rfl rfl rfl) K0.out K2.out (K3.out.same rfl) (by omega) (by omega) hm)⟩
set_option maxHeartbeats 4000000 in
theorem wire_13 (W w : World) (p g q y b m K L : Nat) (gv pv : Value) (P : Plr) (Kb : List Nat) (c k : Int) (r s e : Bool) (h : PTwo W w p g q y P P m K m L Kb) (hb : b ∈ Kb) (hr : Row w b 50 #[.pointer (some ⟨p, 0, none⟩), .pointer (some ⟨q, 0, none⟩), gv]) (hm : m + 1024 ≤ 900000000) :
    Calls Tryd.prog 14 #[.pointer (some ⟨b, 0, none⟩), .agg #[.int .i64 13, .int .i64 c, .int .i64 k, .bool r, .bool s, .bool e, pv]] w fun e w' => e = .returned (.tuple #[]) ∧ Hid (Wired W w w' p g q y P m K L Kb) := by
  have h1 := (h.onto (.cells #[.int .i64 13, .int .i64 c, .int .i64 k, .bool r, .bool s, .bool e, pv] 25)).onto (.cells #[.int .u8 7] 5)
  have ra := (Row.new w 25 #[.int .i64 13, .int .i64 c, .int .i64 k, .bool r, .bool s, .bool e, pv]).alloc (.cells #[.int .u8 7] 5)
  have rb := Row.new (w.alloc (.cells #[.int .i64 13, .int .i64 c, .int .i64 k, .bool r, .bool s, .bool e, pv] 25)) 5 #[.int .u8 7]
  have rp := (hr.alloc (.cells #[.int .i64 13, .int .i64 c, .int .i64 k, .bool r, .bool s, .bool e, pv] 25)).alloc (.cells #[.int .u8 7] 5)
  have k0 : KeepP Kb w ((w.alloc (.cells #[.int .i64 13, .int .i64 c, .int .i64 k, .bool r, .bool s, .bool e, pv] 25)).alloc (.cells #[.int .u8 7] 5)) := KeepP.quiet (((Mods.refl [] w).alloc _).alloc _) h.kb
  rw [show (w.alloc (.cells #[.int .i64 13, .int .i64 c, .int .i64 k, .bool r, .bool s, .bool e, pv] 25)).heap.size = w.heap.size + 1 by simp] at h1 rb
  obtain ⟨w0, hw0⟩ : ∃ w0, w0 = (w.alloc (.cells #[.int .i64 13, .int .i64 c, .int .i64 k, .bool r, .bool s, .bool e, pv] 25)).alloc (.cells #[.int .u8 7] 5) := ⟨_, rfl⟩
  obtain ⟨bb, hbb⟩ : ∃ bb, bb = w.heap.size + 1 := ⟨_, rfl⟩
  obtain ⟨bx, hbx⟩ : ∃ bx, bx = w.heap.size := ⟨_, rfl⟩
  rw [← hw0, ← hbb, ← hbx, List.append_assoc, List.singleton_append] at h1
  rw [← hw0, ← hbx] at ra
  rw [← hw0, ← hbb] at rb
  rw [← hw0] at rp k0
  have H1 := Lib.hid h1
  have RA := Lib.hid ra
  have RB := Lib.hid rb
  have RP := Lib.hid rp
  have K0 := Lib.hid k0
  have HB := Lib.hid (show b ∈ Kb ++ [bx, bb] from List.mem_append_left _ hb)
  have a0 : w0.cell? ⟨b, 0, none⟩ = some (.pointer (some ⟨p, 0, none⟩)) := rp.cell 0
  have a1 : w0.cell? ⟨b, 1, none⟩ = some (.pointer (some ⟨q, 0, none⟩)) := rp.cell 1
  have p0 : w0.cell? ⟨p, 0, none⟩ = some (.pointer (some ⟨g, 0, none⟩)) := h1.pc
  have q0 : w0.cell? ⟨q, 0, none⟩ = some (.pointer (some ⟨y, 0, none⟩)) := h1.qc
  have s1 : w0.cell? ⟨bx, 1, none⟩ = some (.int .i64 c) := ra.cell 1
  have s2 : w0.cell? ⟨bx, 2, none⟩ = some (.int .i64 k) := ra.cell 2
  clear h h1 ra rb rp k0 hr hb
  go_enter Tryd.func14, Tryd.ntmps14
  go_upto_region 28 with fail
  rw [← hw0, ← hbb, ← hbx]
  clear hw0 hbb hbx
  go_region_held3 (fun w' => w'.cell? ⟨b, 0, none⟩ = some (.pointer (some ⟨p, 0, none⟩)) ∧ w'.cell? ⟨p, 0, none⟩ = some (.pointer (some ⟨g, 0, none⟩)) ∧ w'.cell? ⟨bx, 1, none⟩ = some (.int .i64 c)) (go_keep)
    ((go_at_call 43; refine Calls.mono (writeP W _ p g q y m K m L P P (Kb ++ [bx, bb]) ?_ c 7 bb (by simp) (RB.out.same rfl) (by decide) (by omega)) ?_; exact H1.out.same rfl rfl rfl rfl; rintro e w2 ⟨rfl, hd⟩; have H2 := Lib.hid hd.out.1; have K2 := Lib.hid (show KeepP (Kb ++ [bx, bb]) w0 w2 from hd.out.2); have RA2 := Lib.hid (RA.out.keepP K2.out (by simp)); have RB2 := Lib.hid (RB.out.keepP K2.out (by simp)); have RP2 := Lib.hid (RP.out.keepP K2.out HB.out); have b0 : w2.cell? ⟨b, 0, none⟩ = some (.pointer (some ⟨p, 0, none⟩)) := RP2.out.cell 0; have b1 : w2.cell? ⟨b, 1, none⟩ = some (.pointer (some ⟨q, 0, none⟩)) := RP2.out.cell 1; have b2 : w2.cell? ⟨p, 0, none⟩ = some (.pointer (some ⟨g, 0, none⟩)) := H2.out.pc; have b3 : w2.cell? ⟨q, 0, none⟩ = some (.pointer (some ⟨y, 0, none⟩)) := H2.out.qc; have b4 : w2.cell? ⟨bx, 1, none⟩ = some (.int .i64 c) := RA2.out.cell 1; have b5 : w2.cell? ⟨bx, 2, none⟩ = some (.int .i64 k) := RA2.out.cell 2; clear hd))
  all_goals clear a0 a1 p0 q0 s1 s2
  all_goals go_upto_region 29 with fail
  all_goals
    go_region_held3 (fun w' => w'.cell? ⟨b, 1, none⟩ = some (.pointer (some ⟨q, 0, none⟩)) ∧ w'.cell? ⟨q, 0, none⟩ = some (.pointer (some ⟨y, 0, none⟩)) ∧ w'.cell? ⟨bx, 1, none⟩ = some (.int .i64 c)) (go_keep)
      ((go_at_call 44; refine Calls.mono (rwriteP W _ p g q y (m + 1) K m L { P with net := P.net.write c [7] } P (Kb ++ [bx, bb]) ?_ c 7 bb (by simp) (RB2.out.same rfl) (by decide) (by omega)) ?_; exact H2.out.same rfl rfl rfl rfl; rintro e w3 ⟨rfl, hd⟩; have H3 := Lib.hid hd.out.1; have K3 := Lib.hid (show KeepP (Kb ++ [bx, bb]) w2 w3 from hd.out.2); have RA3 := Lib.hid (RA2.out.keepP K3.out (by simp)); have RP3 := Lib.hid (RP2.out.keepP K3.out HB.out); have d1 : w3.cell? ⟨b, 1, none⟩ = some (.pointer (some ⟨q, 0, none⟩)) := RP3.out.cell 1; have d3 : w3.cell? ⟨q, 0, none⟩ = some (.pointer (some ⟨y, 0, none⟩)) := H3.out.qc; have d4 : w3.cell? ⟨bx, 1, none⟩ = some (.int .i64 c) := RA3.out.cell 1; have d5 : w3.cell? ⟨bx, 2, none⟩ = some (.int .i64 k) := RA3.out.cell 2; clear hd))
  all_goals
    go_wp2
    first
      | go_end0
      | refine bodyPost_ret (results_none rfl _ _ _) rfl ?_
      | skip
    exact ⟨rfl, Lib.hid (Wired.of (l := [bx, bb]) (H3.out.same rfl rfl rfl rfl) K0.out K2.out (K3.out.same rfl) (by omega) (by omega) hm)⟩
set_option maxHeartbeats 4000000 in
theorem wire_14 (W w : World) (p g q y b m K L : Nat) (gv pv : Value) (P : Plr) (Kb : List Nat) (c k : Int) (r s e : Bool) (h : PTwo W w p g q y P P m K m L Kb) (hb : b ∈ Kb) (hr : Row w b 50 #[.pointer (some ⟨p, 0, none⟩), .pointer (some ⟨q, 0, none⟩), gv]) (hm : m + 1024 ≤ 900000000) :
    Calls Tryd.prog 14 #[.pointer (some ⟨b, 0, none⟩), .agg #[.int .i64 14, .int .i64 c, .int .i64 k, .bool r, .bool s, .bool e, pv]] w fun e w' => e = .returned (.tuple #[]) ∧ Hid (Wired W w w' p g q y P m K L Kb) := by
  have h1 := (h.onto (.cells #[.int .i64 14, .int .i64 c, .int .i64 k, .bool r, .bool s, .bool e, pv] 25)).onto (.cells #[.int .u8 7] 5)
  have ra := (Row.new w 25 #[.int .i64 14, .int .i64 c, .int .i64 k, .bool r, .bool s, .bool e, pv]).alloc (.cells #[.int .u8 7] 5)
  have rb := Row.new (w.alloc (.cells #[.int .i64 14, .int .i64 c, .int .i64 k, .bool r, .bool s, .bool e, pv] 25)) 5 #[.int .u8 7]
  have rp := (hr.alloc (.cells #[.int .i64 14, .int .i64 c, .int .i64 k, .bool r, .bool s, .bool e, pv] 25)).alloc (.cells #[.int .u8 7] 5)
  have k0 : KeepP Kb w ((w.alloc (.cells #[.int .i64 14, .int .i64 c, .int .i64 k, .bool r, .bool s, .bool e, pv] 25)).alloc (.cells #[.int .u8 7] 5)) := KeepP.quiet (((Mods.refl [] w).alloc _).alloc _) h.kb
  rw [show (w.alloc (.cells #[.int .i64 14, .int .i64 c, .int .i64 k, .bool r, .bool s, .bool e, pv] 25)).heap.size = w.heap.size + 1 by simp] at h1 rb
  obtain ⟨w0, hw0⟩ : ∃ w0, w0 = (w.alloc (.cells #[.int .i64 14, .int .i64 c, .int .i64 k, .bool r, .bool s, .bool e, pv] 25)).alloc (.cells #[.int .u8 7] 5) := ⟨_, rfl⟩
  obtain ⟨bb, hbb⟩ : ∃ bb, bb = w.heap.size + 1 := ⟨_, rfl⟩
  obtain ⟨bx, hbx⟩ : ∃ bx, bx = w.heap.size := ⟨_, rfl⟩
  rw [← hw0, ← hbb, ← hbx, List.append_assoc, List.singleton_append] at h1
  rw [← hw0, ← hbx] at ra
  rw [← hw0, ← hbb] at rb
  rw [← hw0] at rp k0
  have H1 := Lib.hid h1
  have RA := Lib.hid ra
  have RB := Lib.hid rb
  have RP := Lib.hid rp
  have K0 := Lib.hid k0
  have HB := Lib.hid (show b ∈ Kb ++ [bx, bb] from List.mem_append_left _ hb)
  have a0 : w0.cell? ⟨b, 0, none⟩ = some (.pointer (some ⟨p, 0, none⟩)) := rp.cell 0
  have a1 : w0.cell? ⟨b, 1, none⟩ = some (.pointer (some ⟨q, 0, none⟩)) := rp.cell 1
  have p0 : w0.cell? ⟨p, 0, none⟩ = some (.pointer (some ⟨g, 0, none⟩)) := h1.pc
  have q0 : w0.cell? ⟨q, 0, none⟩ = some (.pointer (some ⟨y, 0, none⟩)) := h1.qc
  have s1 : w0.cell? ⟨bx, 1, none⟩ = some (.int .i64 c) := ra.cell 1
  have s2 : w0.cell? ⟨bx, 2, none⟩ = some (.int .i64 k) := ra.cell 2
  clear h h1 ra rb rp k0 hr hb
  go_enter Tryd.func14, Tryd.ntmps14
  go_upto_region 31 with fail
  rw [← hw0, ← hbb, ← hbx]
  clear hw0 hbb hbx
  go_region_held3 (fun w' => w'.cell? ⟨b, 0, none⟩ = some (.pointer (some ⟨p, 0, none⟩)) ∧ w'.cell? ⟨p, 0, none⟩ = some (.pointer (some ⟨g, 0, none⟩)) ∧ w'.cell? ⟨bx, 1, none⟩ = some (.int .i64 c)) (go_keep)
    ((go_at_call 45; refine Calls.mono (shutP W _ p g q y m K m L P P (Kb ++ [bx, bb]) ?_ c ) ?_; exact H1.out.same rfl rfl rfl rfl; rintro e w2 ⟨rfl, hd⟩; have H2 := Lib.hid hd.out.1; have K2 := Lib.hid (show KeepP (Kb ++ [bx, bb]) w0 w2 from hd.out.2); have RA2 := Lib.hid (RA.out.keepP K2.out (by simp)); have RB2 := Lib.hid (RB.out.keepP K2.out (by simp)); have RP2 := Lib.hid (RP.out.keepP K2.out HB.out); have b0 : w2.cell? ⟨b, 0, none⟩ = some (.pointer (some ⟨p, 0, none⟩)) := RP2.out.cell 0; have b1 : w2.cell? ⟨b, 1, none⟩ = some (.pointer (some ⟨q, 0, none⟩)) := RP2.out.cell 1; have b2 : w2.cell? ⟨p, 0, none⟩ = some (.pointer (some ⟨g, 0, none⟩)) := H2.out.pc; have b3 : w2.cell? ⟨q, 0, none⟩ = some (.pointer (some ⟨y, 0, none⟩)) := H2.out.qc; have b4 : w2.cell? ⟨bx, 1, none⟩ = some (.int .i64 c) := RA2.out.cell 1; have b5 : w2.cell? ⟨bx, 2, none⟩ = some (.int .i64 k) := RA2.out.cell 2; clear hd))
  all_goals clear a0 a1 p0 q0 s1 s2
  all_goals go_upto_region 32 with fail
  all_goals
    go_region_held3 (fun w' => w'.cell? ⟨b, 1, none⟩ = some (.pointer (some ⟨q, 0, none⟩)) ∧ w'.cell? ⟨q, 0, none⟩ = some (.pointer (some ⟨y, 0, none⟩)) ∧ w'.cell? ⟨bx, 1, none⟩ = some (.int .i64 c)) (go_keep)
      ((go_at_call 46; refine Calls.mono (rshutP W _ p g q y m K m L { P with net := P.net.shut c } P (Kb ++ [bx, bb]) ?_ c ) ?_; exact H2.out.same rfl rfl rfl rfl; rintro e w3 ⟨rfl, hd⟩; have H3 := Lib.hid hd.out.1; have K3 := Lib.hid (show KeepP (Kb ++ [bx, bb]) w2 w3 from hd.out.2); have RA3 := Lib.hid (RA2.out.keepP K3.out (by simp)); have RP3 := Lib.hid (RP2.out.keepP K3.out HB.out); have d1 : w3.cell? ⟨b, 1, none⟩ = some (.pointer (some ⟨q, 0, none⟩)) := RP3.out.cell 1; have d3 : w3.cell? ⟨q, 0, none⟩ = some (.pointer (some ⟨y, 0, none⟩)) := H3.out.qc; have d4 : w3.cell? ⟨bx, 1, none⟩ = some (.int .i64 c) := RA3.out.cell 1; have d5 : w3.cell? ⟨bx, 2, none⟩ = some (.int .i64 k) := RA3.out.cell 2; clear hd))
  all_goals
    go_wp2
    first
      | go_end0
      | refine bodyPost_ret (results_none rfl _ _ _) rfl ?_
      | skip
    exact ⟨rfl, Lib.hid (Wired.of (l := [bx, bb]) (H3.out.same rfl rfl rfl rfl) K0.out K2.out (K3.out.same rfl) (by omega) (by omega) hm)⟩
set_option maxHeartbeats 4000000 in
theorem wire_15 (W w : World) (p g q y b m K L : Nat) (gv pv : Value) (P : Plr) (Kb : List Nat) (c k : Int) (r s e : Bool) (h : PTwo W w p g q y P P m K m L Kb) (hb : b ∈ Kb) (hr : Row w b 50 #[.pointer (some ⟨p, 0, none⟩), .pointer (some ⟨q, 0, none⟩), gv]) (hm : m + 1024 ≤ 900000000) :
    Calls Tryd.prog 14 #[.pointer (some ⟨b, 0, none⟩), .agg #[.int .i64 15, .int .i64 c, .int .i64 k, .bool r, .bool s, .bool e, pv]] w fun e w' => e = .returned (.tuple #[]) ∧ Hid (Wired W w w' p g q y P m K L Kb) := by
  have h1 := (h.onto (.cells #[.int .i64 15, .int .i64 c, .int .i64 k, .bool r, .bool s, .bool e, pv] 25)).onto (.cells #[.int .u8 7] 5)
  have ra := (Row.new w 25 #[.int .i64 15, .int .i64 c, .int .i64 k, .bool r, .bool s, .bool e, pv]).alloc (.cells #[.int .u8 7] 5)
  have rb := Row.new (w.alloc (.cells #[.int .i64 15, .int .i64 c, .int .i64 k, .bool r, .bool s, .bool e, pv] 25)) 5 #[.int .u8 7]
  have rp := (hr.alloc (.cells #[.int .i64 15, .int .i64 c, .int .i64 k, .bool r, .bool s, .bool e, pv] 25)).alloc (.cells #[.int .u8 7] 5)
  have k0 : KeepP Kb w ((w.alloc (.cells #[.int .i64 15, .int .i64 c, .int .i64 k, .bool r, .bool s, .bool e, pv] 25)).alloc (.cells #[.int .u8 7] 5)) := KeepP.quiet (((Mods.refl [] w).alloc _).alloc _) h.kb
  rw [show (w.alloc (.cells #[.int .i64 15, .int .i64 c, .int .i64 k, .bool r, .bool s, .bool e, pv] 25)).heap.size = w.heap.size + 1 by simp] at h1 rb
  obtain ⟨w0, hw0⟩ : ∃ w0, w0 = (w.alloc (.cells #[.int .i64 15, .int .i64 c, .int .i64 k, .bool r, .bool s, .bool e, pv] 25)).alloc (.cells #[.int .u8 7] 5) := ⟨_, rfl⟩
  obtain ⟨bb, hbb⟩ : ∃ bb, bb = w.heap.size + 1 := ⟨_, rfl⟩
  obtain ⟨bx, hbx⟩ : ∃ bx, bx = w.heap.size := ⟨_, rfl⟩
  rw [← hw0, ← hbb, ← hbx, List.append_assoc, List.singleton_append] at h1
  rw [← hw0, ← hbx] at ra
  rw [← hw0, ← hbb] at rb
  rw [← hw0] at rp k0
  have H1 := Lib.hid h1
  have RA := Lib.hid ra
  have RB := Lib.hid rb
  have RP := Lib.hid rp
  have K0 := Lib.hid k0
  have HB := Lib.hid (show b ∈ Kb ++ [bx, bb] from List.mem_append_left _ hb)
  have a0 : w0.cell? ⟨b, 0, none⟩ = some (.pointer (some ⟨p, 0, none⟩)) := rp.cell 0
  have a1 : w0.cell? ⟨b, 1, none⟩ = some (.pointer (some ⟨q, 0, none⟩)) := rp.cell 1
  have p0 : w0.cell? ⟨p, 0, none⟩ = some (.pointer (some ⟨g, 0, none⟩)) := h1.pc
  have q0 : w0.cell? ⟨q, 0, none⟩ = some (.pointer (some ⟨y, 0, none⟩)) := h1.qc
  have s1 : w0.cell? ⟨bx, 1, none⟩ = some (.int .i64 c) := ra.cell 1
  have s2 : w0.cell? ⟨bx, 2, none⟩ = some (.int .i64 k) := ra.cell 2
  clear h h1 ra rb rp k0 hr hb
  go_enter Tryd.func14, Tryd.ntmps14
  go_upto_region 34 with fail
  rw [← hw0, ← hbb, ← hbx]
  clear hw0 hbb hbx
  go_wp2_with fail
  refine Calls.mono (stopP W _ p g q y m K m L P P (Kb ++ [bx, bb]) H1.out) ?_
  rintro e w2 ⟨rfl, hd⟩; have H2 := Lib.hid hd.out.1; have K2 := Lib.hid (show KeepP (Kb ++ [bx, bb]) w0 w2 from hd.out.2); have RA2 := Lib.hid (RA.out.keepP K2.out (by simp)); have RB2 := Lib.hid (RB.out.keepP K2.out (by simp)); have RP2 := Lib.hid (RP.out.keepP K2.out HB.out); have b0 : w2.cell? ⟨b, 0, none⟩ = some (.pointer (some ⟨p, 0, none⟩)) := RP2.out.cell 0; have b1 : w2.cell? ⟨b, 1, none⟩ = some (.pointer (some ⟨q, 0, none⟩)) := RP2.out.cell 1; have b2 : w2.cell? ⟨p, 0, none⟩ = some (.pointer (some ⟨g, 0, none⟩)) := H2.out.pc; have b3 : w2.cell? ⟨q, 0, none⟩ = some (.pointer (some ⟨y, 0, none⟩)) := H2.out.qc; have b4 : w2.cell? ⟨bx, 1, none⟩ = some (.int .i64 c) := RA2.out.cell 1; have b5 : w2.cell? ⟨bx, 2, none⟩ = some (.int .i64 k) := RA2.out.cell 2; clear hd
  clear a0 a1 p0 q0 s1 s2
  go_wp2_with fail
  refine Calls.mono (rstopP W _ p g q y m K m L { P with net := P.net.stopped } P (Kb ++ [bx, bb]) H2.out) ?_
  rintro e w3 ⟨rfl, hd⟩; have H3 := Lib.hid hd.out.1; have K3 := Lib.hid (show KeepP (Kb ++ [bx, bb]) w2 w3 from hd.out.2); have RA3 := Lib.hid (RA2.out.keepP K3.out (by simp)); have RP3 := Lib.hid (RP2.out.keepP K3.out HB.out); have d1 : w3.cell? ⟨b, 1, none⟩ = some (.pointer (some ⟨q, 0, none⟩)) := RP3.out.cell 1; have d3 : w3.cell? ⟨q, 0, none⟩ = some (.pointer (some ⟨y, 0, none⟩)) := H3.out.qc; have d4 : w3.cell? ⟨bx, 1, none⟩ = some (.int .i64 c) := RA3.out.cell 1; have d5 : w3.cell? ⟨bx, 2, none⟩ = some (.int .i64 k) := RA3.out.cell 2; clear hd
  all_goals
    go_wp2
    first
      | go_end0
      | refine bodyPost_ret (results_none rfl _ _ _) rfl ?_
      | skip
    exact ⟨rfl, Lib.hid (Wired.of (l := [bx, bb]) (H3.out.same rfl rfl rfl rfl) K0.out K2.out (K3.out.same rfl) (by omega) (by omega) hm)⟩
theorem wire_rest (W w : World) (p g q y b m K L : Nat) (gv pv : Value) (P : Plr) (Kb : List Nat) (kd c k : Int) (r s e : Bool) (h : PTwo W w p g q y P P m K m L Kb) (hk : kd < 5 ∨ 15 < kd) (hm : m + 1024 ≤ 900000000) :
    Calls Tryd.prog 14 #[.pointer (some ⟨b, 0, none⟩), .agg #[.int .i64 kd, .int .i64 c, .int .i64 k, .bool r, .bool s, .bool e, pv]] w fun e w' => e = .returned (.tuple #[]) ∧ Hid (Wired W w w' p g q y P m K L Kb) := by
  have H := Lib.hid h
  have e5 : (kd == 5) = false := by simp; omega
  have e6 : (kd == 6) = false := by simp; omega
  have e7 : (kd == 7) = false := by simp; omega
  have e8 : (kd == 8) = false := by simp; omega
  have e9 : (kd == 9) = false := by simp; omega
  have e10 : (kd == 10) = false := by simp; omega
  have e11 : (kd == 11) = false := by simp; omega
  have e12 : (kd == 12) = false := by simp; omega
  have e13 : (kd == 13) = false := by simp; omega
  have e14 : (kd == 14) = false := by simp; omega
  have e15 : (kd == 15) = false := by simp; omega
  clear h hk
  go_enter Tryd.func14, Tryd.ntmps14
  go_wp2
  first
    | go_end0
    | refine bodyPost_ret (results_none rfl _ _ _) rfl ?_
    | skip
  have M := ((Mods.refl [] w).alloc (.cells #[.int .i64 kd, .int .i64 c, .int .i64 k, .bool r, .bool s, .bool e, pv] 25)).alloc (.cells #[.int .u8 7] 5)
  exact ⟨rfl, Lib.hid ⟨P.net, (H.out.quiet M).more (by omega) hm (by omega) hm, KeepP.quiet M H.out.kb⟩⟩
theorem wire_any (W w : World) (p g q y b m K L : Nat) (gv pv : Value) (P : Plr) (Kb : List Nat) (kd c k : Int) (r s e : Bool) (h : PTwo W w p g q y P P m K m L Kb) (hb : b ∈ Kb) (hr : Row w b 50 #[.pointer (some ⟨p, 0, none⟩), .pointer (some ⟨q, 0, none⟩), gv]) (hm : m + 1024 ≤ 900000000) :
    Calls Tryd.prog 14 #[.pointer (some ⟨b, 0, none⟩), .agg #[.int .i64 kd, .int .i64 c, .int .i64 k, .bool r, .bool s, .bool e, pv]] w fun e w' => e = .returned (.tuple #[]) ∧ Hid (Wired W w w' p g q y P m K L Kb) := by
  by_cases hk : kd < 5 ∨ 15 < kd
  · exact wire_rest W w p g q y b m K L gv pv P Kb kd c k r s e h hk hm
  · have hk2 : kd = 5 ∨ kd = 6 ∨ kd = 7 ∨ kd = 8 ∨ kd = 9 ∨ kd = 10 ∨ kd = 11 ∨ kd = 12 ∨ kd = 13 ∨ kd = 14 ∨ kd = 15 := by omega
    rcases hk2 with rfl | rfl | rfl | rfl | rfl | rfl | rfl | rfl | rfl | rfl | rfl
    · exact wire_5 W w p g q y b m K L gv pv P Kb c k r s e h hb hr hm
    · exact wire_6 W w p g q y b m K L gv pv P Kb c k r s e h hb hr hm
    · exact wire_7 W w p g q y b m K L gv pv P Kb c k r s e h hb hr hm
    · exact wire_8 W w p g q y b m K L gv pv P Kb c k r s e h hb hr hm
    · exact wire_9 W w p g q y b m K L gv pv P Kb c k r s e h hb hr hm
    · exact wire_10 W w p g q y b m K L gv pv P Kb c k r s e h hb hr hm
    · exact wire_11 W w p g q y b m K L gv pv P Kb c k r s e h hb hr hm
    · exact wire_12 W w p g q y b m K L gv pv P Kb c k r s e h hb hr hm
    · exact wire_13 W w p g q y b m K L gv pv P Kb c k r s e h hb hr hm
    · exact wire_14 W w p g q y b m K L gv pv P Kb c k r s e h hb hr hm
    · exact wire_15 W w p g q y b m K L gv pv P Kb c k r s e h hb hr hm

end Go.Proofs.YthaapkafamdhcaaDoor
