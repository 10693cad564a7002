/- Both nets side by side, over plain states of their own. -/
import Derived.Test.YtogcfeplfclobaaNr
import Derived.Test.YtogcfeplfclobaaRm
namespace Go.Proofs.Ytogcfeplfclobaa
open Go.RowKit
set_option maxRecDepth 10000
set_option linter.unusedVariables false
set_option linter.unusedSimpArgs false

/-- The program's net (g, S) and the reference's (x, T) in a law whose own world is W: apart, newer than W, and nothing of them in the blocks K. -/
structure Both (W w : World) (g x : Nat) (F G : List Nat) (S T : Nt) (m n : Nat) (K : List Nat) : Prop where
  net : NetA w g F S m
  ref : RefA w x G T n
  mods : Mods [] W w
  f : ∀ k ∈ F, W.heap.size ≤ k ∧ k ∉ K ∧ k ∉ G
  g : ∀ k ∈ G, W.heap.size ≤ k ∧ k ∉ K
  k : ∀ k ∈ K, k < w.heap.size
def Two (W w : World) (g x : Nat) (S T : Nt) (m n : Nat) (K : List Nat) : Prop := ∃ F G, Both W w g x F G S T m n K
section
variable {W w w' w0 : World} {g x m n m' n' : Nat} {F G K K' : List Nat} {S S' T T' : Nt}
theorem Both.quiet (h : Both W w g x F G S T m n K) (hm : Mods [] w w') : Both W w' g x F G S T m n K :=
  ⟨h.net.quiet hm, h.ref.quiet hm, h.mods.trans hm (by simp), h.f, h.g, fun k hk => Nat.lt_of_lt_of_le (h.k k hk) hm.size⟩
theorem Two.quiet (h : Two W w g x S T m n K) (hm : Mods [] w w') : Two W w' g x S T m n K := by
  obtain ⟨F, G, h⟩ := h
  exact ⟨F, G, h.quiet hm⟩
theorem Two.less (h : Two W w g x S T m n K) (hs : ∀ k ∈ K', k ∈ K) : Two W w g x S T m n K' := by
  obtain ⟨F, G, h⟩ := h
  exact ⟨F, G, h.net, h.ref, h.mods, fun k hk => ⟨(h.f k hk).1, fun h2 => (h.f k hk).2.1 (hs k h2), (h.f k hk).2.2⟩, fun k hk => ⟨(h.g k hk).1, fun h2 => (h.g k hk).2 (hs k h2)⟩, fun k hk => h.k k (hs k hk)⟩
/-- Blocks that are new, or older than the law, are none of theirs. -/
theorem Both.new (h : Both W w g x F G S T m n K) (hm : Mods [] w w') {l : List Nat} (hl : ∀ k ∈ l, w.heap.size ≤ k ∧ k < w'.heap.size) : Both W w' g x F G S T m n (K ++ l) := by
  have h' := h.quiet hm
  refine ⟨h'.net, h'.ref, h'.mods, fun k hk => ⟨(h.f k hk).1, fun h2 => ?_, (h.f k hk).2.2⟩, fun k hk => ⟨(h.g k hk).1, fun h2 => ?_⟩, fun k hk => ?_⟩
  · rcases List.mem_append.1 h2 with h3 | h3
    · exact (h.f k hk).2.1 h3
    · have := h.net.lt k hk; have := (hl k h3).1; omega
  · rcases List.mem_append.1 h2 with h3 | h3
    · exact (h.g k hk).2 h3
    · have := h.ref.lt k hk; have := (hl k h3).1; omega
  · rcases List.mem_append.1 hk with h3 | h3
    · exact h'.k k h3
    · exact (hl k h3).2
/-- Blocks of K turn: the nets stand. -/
theorem Both.spoilt (h : Both W w g x F G S T m n K) {L : List Nat} (hL : ∀ k ∈ L, k ∈ K ∧ W.heap.size ≤ k) (hm : Mods L w w') : Both W w' g x F G S T m n K :=
  ⟨h.net.mods hm fun k hk h2 => (h.f k hk).2.1 (hL k h2).1, h.ref.mods hm fun k hk h2 => (h.g k hk).2 (hL k h2).1, h.mods.trans hm fun k hk => .inr (hL k hk).2, h.f, h.g, fun k hk => Nat.lt_of_lt_of_le (h.k k hk) hm.size⟩
/-- The program's net has gone on. -/
theorem Both.netTo (h : Both W w g x F G S T m n K) (hn : NetTo w w' g F S' m') : Two W w' g x S' T m' n K ∧ KeepK K w w' := by
  obtain ⟨F', h1, h2, h3⟩ := hn
  refine ⟨⟨F', G, h1, h.ref.mods h2 fun k hk h4 => (h.f k h4).2.2 hk, h.mods.trans h2 fun k hk => .inr (h.f k hk).1, fun k hk => ?_, h.g, fun k hk => Nat.lt_of_lt_of_le (h.k k hk) h2.size⟩, fun k hk => h2.block k (h.k k hk) fun h4 => (h.f k h4).2.1 hk⟩
  rcases h3 k hk with h4 | h4
  · exact h.f k h4
  · exact ⟨Nat.le_trans h.mods.size h4, fun h5 => by have := h.k k h5; omega, fun h5 => by have := h.ref.lt k h5; omega⟩
/-- The reference's net has gone on. -/
theorem Both.refTo (h : Both W w g x F G S T m n K) (hn : RefTo w w' x G T' n') : Two W w' g x S T' m n' K ∧ KeepK K w w' := by
  obtain ⟨G', h1, h2, h3⟩ := hn
  refine ⟨⟨F, G', h.net.mods h2 fun k hk h4 => (h.f k hk).2.2 h4, h1, h.mods.trans h2 fun k hk => .inr (h.g k hk).1, fun k hk => ⟨(h.f k hk).1, (h.f k hk).2.1, fun h5 => ?_⟩, fun k hk => ?_, fun k hk => Nat.lt_of_lt_of_le (h.k k hk) h2.size⟩, fun k hk => h2.block k (h.k k hk) fun h4 => (h.g k h4).2 hk⟩
  · rcases h3 k h5 with h4 | h4
    · exact (h.f k hk).2.2 h4
    · have := h.net.lt k hk; omega
  · rcases h3 k hk with h4 | h4
    · exact h.g k h4
    · exact ⟨Nat.le_trans h.mods.size h4, fun h5 => by have := h.k k h5; omega⟩
end
theorem connT (W w : World) (g x m n : Nat) (S T : Nt) (K : List Nat) (p : Int) (h : Two W w g x S T m n K) :
    Calls Try.prog 17 #[.pointer (some ⟨g, 0, none⟩), .int .i64 p] w fun e w' => e = .returned (.tuple #[.int .i64 (S.connN p), .int .i64 (S.connE p)]) ∧ Hid (Two W w' g x (S.conn p) T m n K ∧ KeepK K w w') := by
  obtain ⟨F, G, h⟩ := h
  exact (conn_any w g m F S p h.net).mono fun e w' ⟨h1, hd⟩ => ⟨h1, Lib.hid (h.netTo hd.out)⟩
theorem rconnT (W w : World) (g x m n : Nat) (S T : Nt) (K : List Nat) (p : Int) (h : Two W w g x S T m n K) :
    Calls Try.prog 35 #[.pointer (some ⟨x, 0, none⟩), .int .i64 p] w fun e w' => e = .returned (.tuple #[.int .i64 (T.connN p), .int .i64 (T.connE p)]) ∧ Hid (Two W w' g x S (T.conn p) m n K ∧ KeepK K w w') := by
  obtain ⟨F, G, h⟩ := h
  exact (rconn_any w x n G T p h.ref).mono fun e w' ⟨h1, hd⟩ => ⟨h1, Lib.hid (h.refTo hd.out)⟩
theorem accT (W w : World) (g x m n : Nat) (S T : Nt) (K : List Nat) (h : Two W w g x S T m n K) :
    Calls Try.prog 18 #[.pointer (some ⟨g, 0, none⟩)] w fun e w' => e = .returned (.tuple #[.int .i64 S.accC, .int .i64 S.accP, .int .i64 S.accE]) ∧ Hid (Two W w' g x S.acc T m n K ∧ KeepK K w w') := by
  obtain ⟨F, G, h⟩ := h
  exact (acc_any w g m F S h.net).mono fun e w' ⟨h1, hd⟩ => ⟨h1, Lib.hid (h.netTo hd.out)⟩
theorem raccT (W w : World) (g x m n : Nat) (S T : Nt) (K : List Nat) (h : Two W w g x S T m n K) :
    Calls Try.prog 43 #[.pointer (some ⟨x, 0, none⟩)] w fun e w' => e = .returned (.tuple #[.int .i64 T.accC, .int .i64 T.accP, .int .i64 T.accE]) ∧ Hid (Two W w' g x S T.acc m n K ∧ KeepK K w w') := by
  obtain ⟨F, G, h⟩ := h
  exact (racc_any w x n G T h.ref).mono fun e w' ⟨h1, hd⟩ => ⟨h1, Lib.hid (h.refTo hd.out)⟩
theorem stopT (W w : World) (g x m n : Nat) (S T : Nt) (K : List Nat) (h : Two W w g x S T m n K) :
    Calls Try.prog 27 #[.pointer (some ⟨g, 0, none⟩)] w fun e w' => e = .returned (.tuple #[]) ∧ Hid (Two W w' g x S.stopped T m n K ∧ KeepK K w w') := by
  obtain ⟨F, G, h⟩ := h
  exact (stop_any w g m F S h.net).mono fun e w' ⟨h1, hd⟩ => ⟨h1, Lib.hid (h.netTo hd.out)⟩
theorem rstopT (W w : World) (g x m n : Nat) (S T : Nt) (K : List Nat) (h : Two W w g x S T m n K) :
    Calls Try.prog 48 #[.pointer (some ⟨x, 0, none⟩)] w fun e w' => e = .returned (.tuple #[]) ∧ Hid (Two W w' g x S T.stopped m n K ∧ KeepK K w w') := by
  obtain ⟨F, G, h⟩ := h
  exact (rstop_any w x n G T h.ref).mono fun e w' ⟨h1, hd⟩ => ⟨h1, Lib.hid (h.refTo hd.out)⟩
theorem halfT (W w : World) (g x m n : Nat) (S T : Nt) (K : List Nat) (c : Int) (h : Two W w g x S T m n K) (hm : m + 1 ≤ 900000000) :
    Calls Try.prog 31 #[.pointer (some ⟨g, 0, none⟩), .int .i64 c] w fun e w' => e = .returned (.int .i64 (S.e1 c)) ∧ Hid (Two W w' g x (S.half c) T (m + 1) n K ∧ KeepK K w w') := by
  obtain ⟨F, G, h⟩ := h
  exact (half_any w g m F S c h.net hm).mono fun e w' ⟨h1, hd⟩ => ⟨h1, Lib.hid (h.netTo hd.out)⟩
theorem rhalfT (W w : World) (g x m n : Nat) (S T : Nt) (K : List Nat) (c : Int) (h : Two W w g x S T m n K) (hm : n + 1 ≤ 900000000) :
    Calls Try.prog 40 #[.pointer (some ⟨x, 0, none⟩), .int .i64 c] w fun e w' => e = .returned (.int .i64 (T.e1 c)) ∧ Hid (Two W w' g x S (T.half c) m (n + 1) K ∧ KeepK K w w') := by
  obtain ⟨F, G, h⟩ := h
  exact (rhalf_any w x n G T c h.ref hm).mono fun e w' ⟨h1, hd⟩ => ⟨h1, Lib.hid (h.refTo hd.out)⟩
theorem resetT (W w : World) (g x m n : Nat) (S T : Nt) (K : List Nat) (c : Int) (h : Two W w g x S T m n K) (hm : m + 1 ≤ 900000000) :
    Calls Try.prog 32 #[.pointer (some ⟨g, 0, none⟩), .int .i64 c] w fun e w' => e = .returned (.int .i64 (S.e1 c)) ∧ Hid (Two W w' g x (S.reset c) T (m + 1) n K ∧ KeepK K w w') := by
  obtain ⟨F, G, h⟩ := h
  exact (reset_any w g m F S c h.net hm).mono fun e w' ⟨h1, hd⟩ => ⟨h1, Lib.hid (h.netTo hd.out)⟩
theorem rresetT (W w : World) (g x m n : Nat) (S T : Nt) (K : List Nat) (c : Int) (h : Two W w g x S T m n K) (hm : n + 1 ≤ 900000000) :
    Calls Try.prog 41 #[.pointer (some ⟨x, 0, none⟩), .int .i64 c] w fun e w' => e = .returned (.int .i64 (T.e1 c)) ∧ Hid (Two W w' g x S (T.reset c) m (n + 1) K ∧ KeepK K w w') := by
  obtain ⟨F, G, h⟩ := h
  exact (rreset_any w x n G T c h.ref hm).mono fun e w' ⟨h1, hd⟩ => ⟨h1, Lib.hid (h.refTo hd.out)⟩
theorem openT (W w : World) (g x m n : Nat) (S T : Nt) (K : List Nat) (c k : Int) (h : Two W w g x S T m n K) (hm : m + 1 ≤ 900000000) :
    Calls Try.prog 20 #[.pointer (some ⟨g, 0, none⟩), .int .i64 c, .int .i64 k] w fun e w' => e = .returned (.int .i64 (S.openE c k)) ∧ Hid (Two W w' g x (S.open_ c k) T (m + 1) n K ∧ KeepK K w w') := by
  obtain ⟨F, G, h⟩ := h
  exact (open_any w g m F S c k h.net hm).mono fun e w' ⟨h1, hd⟩ => ⟨h1, Lib.hid (h.netTo hd.out)⟩
theorem ropenT (W w : World) (g x m n : Nat) (S T : Nt) (K : List Nat) (c k : Int) (h : Two W w g x S T m n K) (hm : n + 1 ≤ 900000000) :
    Calls Try.prog 42 #[.pointer (some ⟨x, 0, none⟩), .int .i64 c, .int .i64 k] w fun e w' => e = .returned (.int .i64 (T.openE c k)) ∧ Hid (Two W w' g x S (T.open_ c k) m (n + 1) K ∧ KeepK K w w') := by
  obtain ⟨F, G, h⟩ := h
  exact (ropen_any w x n G T c k h.ref hm).mono fun e w' ⟨h1, hd⟩ => ⟨h1, Lib.hid (h.refTo hd.out)⟩
end Go.Proofs.Ytogcfeplfclobaa
