/- The net's contracts in the words that the laws' walks take; what the laws' known answers. -/
import Derived.Test.YtogcfeplfclobaaNl
import Derived.Test.YtogcfeplfclobaaNq
import Derived.Test.YtogcfeplfclobaaHl7
namespace Go.Proofs.Ytogcfeplfclobaa
open Go.RowKit
set_option maxRecDepth 10000
set_option linter.unusedVariables false
set_option linter.unusedSimpArgs false

/-- The net of a law: all of it is newer than the law's own world, in which nothing has turned; nothing of it lies in the blocks K. -/
def NetL (W w : World) (g : Nat) (S : Nt) (m : Nat) (K : List Nat) : Prop := ∃ F, NetA w g F S m ∧ Mods [] W w ∧ (∀ k ∈ F, W.heap.size ≤ k ∧ k ∉ K) ∧ ∀ k ∈ K, k < w.heap.size
/-- The blocks K are as they were. -/
def KeepK (K : List Nat) (w w' : World) : Prop := ∀ k ∈ K, w'.heap[k]? = w.heap[k]?
section
variable {W w w' w0 : World} {g m n : Nat} {F K K' : List Nat} {S S' : Nt}
theorem NetL.step (hA : NetA w g F S m) (hM : Mods [] W w) (hF : ∀ k ∈ F, W.heap.size ≤ k ∧ k ∉ K) (hK : ∀ k ∈ K, k < w.heap.size) (h : NetTo w w' g F S' n) : NetL W w' g S' n K ∧ KeepK K w w' := by
  obtain ⟨F', h1, h2, h3⟩ := h
  refine ⟨⟨F', h1, hM.trans h2 fun k hk => .inr (hF k hk).1, fun k hk => ?_, fun k hk => Nat.lt_of_lt_of_le (hK k hk) h2.size⟩, fun k hk => h2.block k (hK k hk) fun hk2 => (hF k hk2).2 hk⟩
  rcases h3 k hk with h | h
  · exact hF k h
  · exact ⟨Nat.le_trans hM.size h, fun hk2 => by have := hK k hk2; omega⟩
theorem NetL.quiet (h : NetL W w g S m K) (hm : Mods [] w w') : NetL W w' g S m K := by
  obtain ⟨F, h1, h2, h3, h4⟩ := h
  exact ⟨F, h1.quiet hm, h2.trans hm (by simp), h3, fun k hk => Nat.lt_of_lt_of_le (h4 k hk) hm.size⟩
theorem NetL.mods (h : NetL W w g S m K) : Mods [] W w := by obtain ⟨F, h1, h2, h3⟩ := h; exact h2
theorem NetL.less (h : NetL W w g S m K) (hs : ∀ k ∈ K', k ∈ K) : NetL W w g S m K' := by
  obtain ⟨F, h1, h2, h3, h4⟩ := h
  exact ⟨F, h1, h2, fun k hk => ⟨(h3 k hk).1, fun hk2 => (h3 k hk).2 (hs k hk2)⟩, fun k hk => h4 k (hs k hk)⟩
theorem NetL.new (hA : NetA w' w.heap.size [w.heap.size] S m) (hm : Mods [] w w') (hw : Mods [] W w) (hK : ∀ k ∈ K, k < w.heap.size) : NetL W w' w.heap.size S m K :=
  ⟨_, hA, hw.trans hm (by simp), fun k hk => by simp at hk; rw [hk]; exact ⟨hw.size, fun h => by have := hK _ h; omega⟩, fun k hk => Nat.lt_of_lt_of_le (hK k hk) hm.size⟩
theorem NetL.ok (h : NetL W w g S m K) : S.Ok m := by obtain ⟨F, h1, h2, h3⟩ := h; exact h1.ok
theorem KeepK.of_mods {G : List Nat} (hm : Mods G w w') (hK : ∀ k ∈ K, k < w.heap.size ∧ k ∉ G) : KeepK K w w' := fun k hk => hm.block k (hK k hk).1 (hK k hk).2
theorem Own.keepK {e : TypeId} {v : Value} {xs : List Value} (h : Own w e v xs) (hk : KeepK K w w') (hs : ∀ b ∈ v.ownBlock.toList, b ∈ K) : Own w' e v xs := h.keep fun b hb => hk b (hs b hb)
end
theorem keep_quiet {W w0 w w' : World} {g m : Nat} {S : Nt} {K : List Nat} (hq : Mods [] w0 w) (h4 : ∀ k ∈ K, k < w0.heap.size) (h : NetL W w' g S m K ∧ KeepK K w w') : NetL W w' g S m K ∧ KeepK K w0 w' :=
  ⟨h.1, fun k hk => (h.2 k hk).trans (hq.block k (h4 k hk) (by simp))⟩
theorem newL (b : Int) (W w : World) (hw : Mods [] W w) (K : List Nat) (hK : ∀ k ∈ K, k < w.heap.size) (h1 : 1 ≤ b) (h2 : b ≤ 64) : Calls Try.prog 11 #[.int .i64 b] w fun e w' =>
    e = .returned (.tuple #[.pointer (some ⟨w.heap.size, 0, none⟩), .int .i64 0]) ∧ Hid (NetL W w' w.heap.size (Nt.new b) 0 K) :=
  (nnew_any b w h1 h2).mono fun e w' ⟨h, h2, h3⟩ => ⟨h, Lib.hid (NetL.new h2 h3 hw hK)⟩
theorem connL (W w : World) (g m : Nat) (S : Nt) (p : Int) (Kb : List Nat) (h : NetL W w g S m Kb) (N E : Int) (S' : Nt) (hN : S.connN p = N) (hE : S.connE p = E) (hS : S.conn p = S') :
    Calls Try.prog 17 #[.pointer (some ⟨g, 0, none⟩), .int .i64 p] w fun e w' => e = .returned (.tuple #[.int .i64 N, .int .i64 E]) ∧ Hid (NetL W w' g S' m Kb ∧ KeepK Kb w w') := by
  subst hN hE hS
  obtain ⟨F, h1, h2, h3, h4⟩ := h
  exact (conn_any w g m F S p h1).mono fun e w' ⟨h, hd⟩ => ⟨h, Lib.hid (NetL.step h1 h2 h3 h4 hd.out)⟩
theorem accL (W w : World) (g m : Nat) (S : Nt) (Kb : List Nat) (h : NetL W w g S m Kb) (C P E : Int) (S' : Nt) (hC : S.accC = C) (hP : S.accP = P) (hE : S.accE = E) (hS : S.acc = S') :
    Calls Try.prog 18 #[.pointer (some ⟨g, 0, none⟩)] w fun e w' => e = .returned (.tuple #[.int .i64 C, .int .i64 P, .int .i64 E]) ∧ Hid (NetL W w' g S' m Kb ∧ KeepK Kb w w') := by
  subst hC hP hE hS
  obtain ⟨F, h1, h2, h3, h4⟩ := h
  exact (acc_any w g m F S h1).mono fun e w' ⟨h, hd⟩ => ⟨h, Lib.hid (NetL.step h1 h2 h3 h4 hd.out)⟩
theorem sendL (W w0 w : World) (g m : Nat) (S : Nt) (c : Int) (A : Option Addr) (n cp : Nat) (rs : List Rw) (Kb : List Nat) (h : NetL W w0 g S m Kb) (hq : Mods [] w0 w) (hm : m + 1 ≤ 900000000) (hp : ∀ F, (∀ k ∈ F, W.heap.size ≤ k ∧ k < w0.heap.size) → Parts w F A rs) (hn : n = rs.length) (hnl : n ≤ 1000)
    (l : List Int) (K E : Int) (S' : Nt) (hl : flatR rs = l) (hK : S.sendK c l = K) (hE : S.sendE c = E) (hS : S.send c l = S') :
    Calls Try.prog 19 #[.pointer (some ⟨g, 0, none⟩), .int .i64 c, .slice A n cp] w fun e w' => e = .returned (.tuple #[.int .i64 K, .int .i64 E]) ∧ Hid (NetL W w' g S' (m + 1) Kb ∧ KeepK Kb w0 w') := by
  subst hl hK hE hS
  obtain ⟨F, h1, h2, h3, h4⟩ := h
  exact (send_any w g m F S c A n cp rs (h1.quiet hq) hm (hp F fun k hk => ⟨(h3 k hk).1, h1.lt k hk⟩) hn (by unfold maxLen; omega)).mono fun e w' ⟨h, hd⟩ => ⟨h, Lib.hid (keep_quiet hq h4 (NetL.step (h1.quiet hq) (h2.trans hq (by simp)) h3 (fun k hk => Nat.lt_of_lt_of_le (h4 k hk) hq.size) hd.out))⟩
theorem halfL (W w : World) (g m : Nat) (S : Nt) (c : Int) (Kb : List Nat) (h : NetL W w g S m Kb) (hm : m + 1 ≤ 900000000) (E : Int) (S' : Nt) (hE : S.e1 c = E) (hS : S.half c = S') :
    Calls Try.prog 31 #[.pointer (some ⟨g, 0, none⟩), .int .i64 c] w fun e w' => e = .returned (.int .i64 E) ∧ Hid (NetL W w' g S' (m + 1) Kb ∧ KeepK Kb w w') := by
  subst hE hS
  obtain ⟨F, h1, h2, h3, h4⟩ := h
  exact (half_any w g m F S c h1 hm).mono fun e w' ⟨h, hd⟩ => ⟨h, Lib.hid (NetL.step h1 h2 h3 h4 hd.out)⟩
theorem resetL (W w : World) (g m : Nat) (S : Nt) (c : Int) (Kb : List Nat) (h : NetL W w g S m Kb) (hm : m + 1 ≤ 900000000) (E : Int) (S' : Nt) (hE : S.e1 c = E) (hS : S.reset c = S') :
    Calls Try.prog 32 #[.pointer (some ⟨g, 0, none⟩), .int .i64 c] w fun e w' => e = .returned (.int .i64 E) ∧ Hid (NetL W w' g S' (m + 1) Kb ∧ KeepK Kb w w') := by
  subst hE hS
  obtain ⟨F, h1, h2, h3, h4⟩ := h
  exact (reset_any w g m F S c h1 hm).mono fun e w' ⟨h, hd⟩ => ⟨h, Lib.hid (NetL.step h1 h2 h3 h4 hd.out)⟩
theorem openL (W w : World) (g m : Nat) (S : Nt) (c n : Int) (Kb : List Nat) (h : NetL W w g S m Kb) (hm : m + 1 ≤ 900000000) (E : Int) (S' : Nt) (hE : S.openE c n = E) (hS : S.open_ c n = S') :
    Calls Try.prog 20 #[.pointer (some ⟨g, 0, none⟩), .int .i64 c, .int .i64 n] w fun e w' => e = .returned (.int .i64 E) ∧ Hid (NetL W w' g S' (m + 1) Kb ∧ KeepK Kb w w') := by
  subst hE hS
  obtain ⟨F, h1, h2, h3, h4⟩ := h
  exact (open_any w g m F S c n h1 hm).mono fun e w' ⟨h, hd⟩ => ⟨h, Lib.hid (NetL.step h1 h2 h3 h4 hd.out)⟩
theorem injectL (W w : World) (g m : Nat) (S : Nt) (k : Int) (Kb : List Nat) (h : NetL W w g S m Kb) (hk : k ≤ 9223372036854775807) (S' : Nt) (hS : S.inject k = S') :
    Calls Try.prog 26 #[.pointer (some ⟨g, 0, none⟩), .int .i64 k] w fun e w' => e = .returned (.tuple #[]) ∧ Hid (NetL W w' g S' m Kb ∧ KeepK Kb w w') := by
  subst hS
  obtain ⟨F, h1, h2, h3, h4⟩ := h
  exact (inject_any w g m F S k h1 hk).mono fun e w' ⟨h, hd⟩ => ⟨h, Lib.hid (NetL.step h1 h2 h3 h4 ⟨F, hd.out.1, hd.out.2, fun k hk => .inl hk⟩)⟩
/-- New bytes, newer than the law's own world. -/
def NewB (W w : World) (v : Value) (l : List Int) : Prop := Own w 5 v (bv l) ∧ (∀ b ∈ v.ownBlock.toList, W.heap.size ≤ b) ∧ ∀ y ∈ l, 0 ≤ y ∧ y ≤ 255
theorem NewB.at0 {W w : World} {n c : Nat} {A : Option Addr} {l : List Int} (h : NewB W w (.slice A n c) l) : At w [] A l := At.of_own2 h.1 (by simp) h.2.2
theorem NewB.keep {W w w' : World} {K : List Nat} {v : Value} {l : List Int} (h : NewB W w v l) (hk : KeepK K w w') (hs : ∀ b ∈ v.ownBlock.toList, b ∈ K) : NewB W w' v l := ⟨h.1.keepK hk hs, h.2⟩
theorem NewB.quiet {W w w' : World} {v : Value} {l : List Int} (h : NewB W w v l) (hm : Mods [] w w') : NewB W w' v l := ⟨h.1.mods hm (by simp), h.2⟩
theorem readL (W w : World) (g m : Nat) (S : Nt) (c k : Int) (Kb : List Nat) (h : NetL W w g S m Kb) (hm : m + 1024 ≤ 900000000) (B : List Int) (E : Int) (S' : Nt) (hB : S.readB c k = B) (hE : S.readE c k = E) (hS : S.read c k = S') :
    Calls Try.prog 22 #[.pointer (some ⟨g, 0, none⟩), .int .i64 c, .int .i64 k] w fun e w' => ∃ A n cp, e = .returned (.tuple #[.slice A n cp, .int .i64 E]) ∧ Hid (n = B.length ∧ n ≤ cp ∧ cp ≤ maxLen) ∧
      Hid (NetL W w' g S' (m + 1024) (Kb ++ (Value.slice A n cp).ownBlock.toList) ∧ KeepK Kb w w' ∧ NewB W w' (.slice A n cp) B ∧ ∀ b ∈ (Value.slice A n cp).ownBlock.toList, b ∉ Kb) := by
  subst hB hE hS
  obtain ⟨F, h1, h2, h3, h4⟩ := h
  refine (read_any w g m F S c k h1 hm).mono fun e w' ⟨v, h, hd⟩ => ?_
  obtain ⟨F', g1, g2, g3, g4, g5, g6⟩ := hd.out
  obtain ⟨A, n, cp, rfl, hn, hc1, hc2⟩ := g4.slice'
  rw [bv_length] at hn
  obtain ⟨⟨F2, q1, q2, q3, q4⟩, qk⟩ := NetL.step h1 h2 h3 h4 ⟨F', g1, g2, g3⟩
  refine ⟨A, n, cp, h, Lib.hid ⟨hn, hc1, hc2⟩, Lib.hid ⟨⟨F', g1, q2, fun k hk => ?_, fun k hk => ?_⟩, qk, ⟨g4, fun b hb => Nat.le_trans h2.size (g5 b hb).1, g6⟩, fun b hb hb2 => ?_⟩⟩
  · have hk0 : W.heap.size ≤ k ∧ k ∉ Kb := by
      rcases g3 k hk with h | h
      · exact h3 k h
      · exact ⟨Nat.le_trans h2.size h, fun hk2 => by have := h4 k hk2; omega⟩
    refine ⟨hk0.1, fun hk2 => ?_⟩
    rcases List.mem_append.1 hk2 with h | h
    · exact hk0.2 h
    · exact (g5 k h).2 hk
  · rcases List.mem_append.1 hk with h | h
    · exact q4 k h
    · exact g4.lt k h
  · have := h4 b hb2
    have := (g5 b hb).1
    omega
theorem writeL (W w0 w : World) (g m : Nat) (S : Nt) (c : Int) (A : Option Addr) (n cp : Nat) (l : List Int) (Kb : List Nat) (h : NetL W w0 g S m Kb) (hq : Mods [] w0 w) (hm : m + l.length ≤ 900000000) (hl : ∀ F, (∀ k ∈ F, W.heap.size ≤ k ∧ k < w0.heap.size) → At w F A l) (hn : n = l.length) (hc1 : n ≤ cp) (hc2 : cp ≤ maxLen)
    (K : Nat) (E : Int) (S' : Nt) (hK : S.writeK c l = K) (hE : S.writeE c l = E) (hS : S.write c l = S') :
    Calls Try.prog 21 #[.pointer (some ⟨g, 0, none⟩), .int .i64 c, .slice A n cp] w fun e w' => e = .returned (.tuple #[.int .i64 K, .int .i64 E]) ∧ Hid (NetL W w' g S' (m + l.length) Kb ∧ KeepK Kb w0 w') := by
  subst hK hE hS
  obtain ⟨F, h1, h2, h3, h4⟩ := h
  exact (write_any w g m F S c A n cp l (h1.quiet hq) hm (hl F fun k hk => ⟨(h3 k hk).1, h1.lt k hk⟩) hn hc1 hc2).mono fun e w' ⟨h, hd⟩ => ⟨h, Lib.hid (keep_quiet hq h4 (NetL.step (h1.quiet hq) (h2.trans hq (by simp)) h3 (fun k hk => Nat.lt_of_lt_of_le (h4 k hk) hq.size) hd.out))⟩
theorem closeL (W w0 w : World) (g m k cp : Nat) (S : Nt) (A : Option Addr) (l : List Int) (Kb : List Nat) (h : NetL W w0 g S m Kb) (hq : Mods [] w0 w) (hl : ∀ F, (∀ k ∈ F, W.heap.size ≤ k ∧ k < w0.heap.size) → NumsAt w F A l) (hk : k = l.length) (hl2 : l.length ≤ 1000000) (K : Nat) (S' : Nt) (hK : S.closeN l = K) (hS : S.close l = S') :
    Calls Try.prog 30 #[.pointer (some ⟨g, 0, none⟩), .slice A k cp] w fun e w' => e = .returned (.int .i64 K) ∧ Hid (NetL W w' g S' m Kb ∧ KeepK Kb w0 w') := by
  subst hK hS
  obtain ⟨F, h1, h2, h3, h4⟩ := h
  exact (close_any w g m k cp F S A l (h1.quiet hq) (hl F fun k hk => ⟨(h3 k hk).1, h1.lt k hk⟩) hk hl2).mono fun e w' ⟨h, hd⟩ => ⟨h, Lib.hid (keep_quiet hq h4 (NetL.step (h1.quiet hq) (h2.trans hq (by simp)) h3 (fun k hk => Nat.lt_of_lt_of_le (h4 k hk) hq.size) hd.out))⟩
theorem lenL (W w : World) (g m : Nat) (S : Nt) (Kb : List Nat) (h : NetL W w g S m Kb) (a b : Int) (ha : S.wait = a) (hb : ((opens S.L : Nat) : Int) = b) :
    Calls Try.prog 15 #[.pointer (some ⟨g, 0, none⟩)] w fun e w' => e = .returned (.tuple #[.int .i64 a, .int .i64 b]) ∧ Hid (NetL W w' g S m Kb ∧ KeepK Kb w w') := by
  subst ha hb
  have h0 := h
  obtain ⟨F, h1, h2, h3, h4⟩ := h
  exact (len_any w g m F S h1).mono fun e w' ⟨h, q, hq⟩ => ⟨h, Lib.hid (by rw [hq]; exact ⟨h0.quiet ((Mods.refl _ _).drewN q), fun _ _ => rfl⟩)⟩
theorem readyL (W w : World) (g m : Nat) (S : Nt) (c : Int) (Kb : List Nat) (h : NetL W w g S m Kb) (a b : Bool) (ha : S.readyR c = a) (hb : S.readyW c = b) :
    Calls Try.prog 28 #[.pointer (some ⟨g, 0, none⟩), .int .i64 c] w fun e w' => e = .returned (.tuple #[.bool a, .bool b]) ∧ Hid (NetL W w' g S m Kb ∧ KeepK Kb w w') := by
  subst ha hb
  have h0 := h
  obtain ⟨F, h1, h2, h3, h4⟩ := h
  exact (ready_any w g m F S c h1).mono fun e w' ⟨h, q, hq⟩ => ⟨h, Lib.hid (by rw [hq]; exact ⟨h0.quiet ((Mods.refl _ _).drewN q), fun _ _ => rfl⟩)⟩
theorem Fresh.newB {W w w' : World} {v : Value} {l : List Int} (h : Fresh w w' v l) (hm : Mods [] W w) (hr : ∀ y ∈ l, 0 ≤ y ∧ y ≤ 255) : NewB W w' v l := ⟨Own.of_row h.1, fun b hb => Nat.le_trans hm.size (h.2.2 b hb), hr⟩
/-- What is new to a quiet world is none of the net's. -/
theorem NetL.fresh {W w w' : World} {g m : Nat} {S : Nt} {Kb : List Nat} {v : Value} {l : List Int} (h : NetL W w g S m Kb) (hf : Fresh w w' v l) : NetL W w' g S m (Kb ++ v.ownBlock.toList) ∧ ∀ b ∈ v.ownBlock.toList, b ∉ Kb := by
  obtain ⟨F, h1, h2, h3, h4⟩ := h
  refine ⟨⟨F, h1.quiet hf.2.1, h2.trans hf.2.1 (by simp), fun k hk => ⟨(h3 k hk).1, fun hk2 => ?_⟩, fun k hk => ?_⟩, fun b hb hb2 => ?_⟩
  · rcases List.mem_append.1 hk2 with h | h
    · exact (h3 k hk).2 h
    · have := h1.lt k hk; have := hf.2.2 k h; omega
  · rcases List.mem_append.1 hk with h | h
    · exact Nat.lt_of_lt_of_le (h4 k h) hf.2.1.size
    · exact own_lt hf.1 k h
  · have := h4 b hb2; have := hf.2.2 b hb; omega
theorem NetA.rngO {w : World} {g m : Nat} {F : List Nat} {S : Nt} (h : NetA w g F S m) (c : Int) (i : Fin 3) : ∀ y ∈ cbs (S.get c) i, 0 ≤ y ∧ y ≤ 255 := by
  obtain ⟨vc, X, rfl, h⟩ := h
  cases hs : S.at? c with
  | none =>
    rw [Nt.get_none hs]
    match i with
    | 0 => intro y hy; simp [cbs, none_, Cn.new] at hy
    | 1 => intro y hy; simp [cbs, none_, Cn.new] at hy
    | 2 => intro y hy; simp [cbs, none_, Cn.new] at hy
  | some s =>
    rw [Nt.get_some hs]
    obtain ⟨j, rfl, h1, h2⟩ := Nt.at_some hs
    obtain ⟨x, hx⟩ := h.cs.at1 h1
    exact (h.cs.at_ j x s hx h1).rng i
theorem gotL (W w : World) (g m : Nat) (S : Nt) (c : Int) (Kb : List Nat) (h : NetL W w g S m Kb) (B : List Int) (b : Bool) (hB : S.gotB c = B) (hb : S.gotE c = b) :
    Calls Try.prog 23 #[.pointer (some ⟨g, 0, none⟩), .int .i64 c] w fun e w' => ∃ A n cp, e = .returned (.tuple #[.slice A n cp, .bool b]) ∧ Hid (n = B.length ∧ n ≤ cp ∧ cp ≤ maxLen) ∧ Hid (NetL W w' g S m (Kb ++ (Value.slice A n cp).ownBlock.toList) ∧ KeepK Kb w w' ∧ NewB W w' (.slice A n cp) B ∧ ∀ b ∈ (Value.slice A n cp).ownBlock.toList, b ∉ Kb) := by
  subst hB hb
  have h0 := h
  obtain ⟨F, h1, h2, h3, h4⟩ := h
  refine (got_any w g m F S c h1).mono fun e w' ⟨v, h, hd⟩ => ?_
  obtain ⟨A, n, cp, rfl, hn, hc1, hc2⟩ := (Own.of_row hd.out.1).slice'
  rw [bv_length] at hn
  exact ⟨A, n, cp, h, Lib.hid ⟨hn, hc1, hc2⟩, Lib.hid ⟨(h0.fresh hd.out).1, fun k hk => hd.out.2.1.block k (h4 k hk) (by simp), Fresh.newB hd.out h2 (h1.rngO c 2), (h0.fresh hd.out).2⟩⟩
theorem takenL (W w : World) (g m : Nat) (S : Nt) (c : Int) (Kb : List Nat) (h : NetL W w g S m Kb) (B : List Int) (hB : S.taken c = B) :
    Calls Try.prog 25 #[.pointer (some ⟨g, 0, none⟩), .int .i64 c] w fun e w' => ∃ A n cp, e = .returned (.slice A n cp) ∧ Hid (n = B.length ∧ n ≤ cp ∧ cp ≤ maxLen) ∧ Hid (NetL W w' g S m (Kb ++ (Value.slice A n cp).ownBlock.toList) ∧ KeepK Kb w w' ∧ NewB W w' (.slice A n cp) B ∧ ∀ b ∈ (Value.slice A n cp).ownBlock.toList, b ∉ Kb) := by
  subst hB
  have h0 := h
  obtain ⟨F, h1, h2, h3, h4⟩ := h
  refine (taken_any w g m F S c h1).mono fun e w' ⟨v, h, hd⟩ => ?_
  obtain ⟨A, n, cp, rfl, hn, hc1, hc2⟩ := (Own.of_row hd.out.1).slice'
  rw [bv_length] at hn
  exact ⟨A, n, cp, h, Lib.hid ⟨hn, hc1, hc2⟩, Lib.hid ⟨(h0.fresh hd.out).1, fun k hk => hd.out.2.1.block k (h4 k hk) (by simp), Fresh.newB hd.out h2 (h1.rngO c 1), (h0.fresh hd.out).2⟩⟩
end Go.Proofs.Ytogcfeplfclobaa
