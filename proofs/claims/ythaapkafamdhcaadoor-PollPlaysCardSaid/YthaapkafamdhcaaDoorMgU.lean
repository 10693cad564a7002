/- What stage 8's law holds while it plays: both pollers, the pair, the Handles that were given. -/
import Derived.Test.YthaapkafamdhcaaDoorMgT
import Derived.Test.YthaapkafamdhcaaDoorMgS
import Derived.Test.YthaapkafamdhcaaDoorMgG
import Derived.Deep.DeepCutAuto
import Derived.Deep.CutBlock
namespace Go.Proofs.YthaapkafamdhcaaDoor
open Go.RowKit
set_option maxRecDepth 10000
set_option linter.unusedVariables false
set_option linter.unusedSimpArgs false

theorem and_mask (a : Int) (m : Nat) (hm : m ≤ 65535) : ∃ k : Nat, bits BinOp.and IntKind.i64 a m = (k : Int) ∧ k ≤ m := by
  have e : bits BinOp.and IntKind.i64 a m = IntKind.i64.wrap ((BitVec.ofInt 64 a &&& BitVec.ofInt 64 m).toNat : Int) := rfl
  have h : (BitVec.ofInt 64 a &&& BitVec.ofInt 64 m).toNat ≤ m := by
    rw [BitVec.toNat_and]
    refine Nat.le_trans Nat.and_le_right ?_
    rw [BitVec.toNat_ofInt]
    omega
  refine ⟨(BitVec.ofInt 64 a &&& BitVec.ofInt 64 m).toNat, ?_, h⟩
  rw [e, IntKind.wrap_i64]
  omega
theorem eql_hand (a b c d : Int) (w : World) : (binOp .eql 47 (.agg #[.int .i64 a, .int .i64 b]) (.agg #[.int .i64 c, .int .i64 d])).run Tryd.prog w = .ok (.bool (a == c && b == d)) w := by
  have u3 := Tryd.underlying3
  have a3 := Tryd.isAgg3
  have z3 := Tryd.sizeOf3
  have hS : Tryd.prog.underlying 47 = some (.struct (Tryd.prog.fieldsOf 47)) := by kernel_rfl
  have hp : Tryd.prog.stoodInHeld 47 = false := by kernel_rfl
  rw [run_eql_struct, show (10000 : Nat) = 9999 + 1 from rfl, run_equalIn_agg w 9999 47 _ _ hS hp]
  simp only [Program.fieldsOf, Tryd.underlying47]
  go_simp
  by_cases h1 : a = c <;> by_cases h2 : b = d <;> simp [h1, h2]
theorem eqg_hand : Tryd.prog.eqGuardType Tryd.prog.depth 47 = false := by kernel_rfl
/-- What the law holds. -/
structure St8 (W w : World) (p g q y b : Nat) (P : Plr) (m K L : Nat) (gv : Value) (gl : List (Int × Int)) (Kb : List Nat) : Prop where
  two : PTwo W w p g q y P P m K m L Kb
  inb : b ∈ Kb ∧ W.heap.size ≤ b
  row : Row w b 50 #[.pointer (some ⟨p, 0, none⟩), .pointer (some ⟨q, 0, none⟩), gv]
  own : OwnPairs w 47 gv gl
  gb : ∀ k ∈ gv.ownBlock.toList, k ∈ Kb ∧ W.heap.size ≤ k
  pos : 0 < gl.length
  i64 : ∀ x ∈ gl, (-9223372036854775808 ≤ x.1 ∧ x.1 ≤ 9223372036854775807) ∧ (-9223372036854775808 ≤ x.2 ∧ x.2 ≤ 9223372036854775807)
section
variable {W w w' w0 w1 w2 : World} {p g q y b m K L m' K' L' : Nat} {P P' : Plr} {gv : Value} {gl : List (Int × Int)} {Kb Kc l : List Nat}
theorem St8.next (h : St8 W w p g q y b P m K L gv gl Kb) (h2 : PTwo W w' p g q y P' P' m' K' m' L' Kc) (hs : ∀ k ∈ Kb, k ∈ Kc) (hk : KeepP Kb w w') : St8 W w' p g q y b P' m' K' L' gv gl Kc :=
  ⟨h2, ⟨hs b h.inb.1, h.inb.2⟩, h.row.keepP hk h.inb.1, own_keep h.own fun k hk2 => hk k (h.gb k hk2).1, fun k hk2 => ⟨hs k (h.gb k hk2).1, (h.gb k hk2).2⟩, h.pos, h.i64⟩
theorem St8.wired (h : St8 W w p g q y b P m K L gv gl Kb) (h2 : Wired W w w' p g q y P m K L Kb) : ∃ S, St8 W w' p g q y b { P with net := S } (m + 1024) K L gv gl Kb := by
  obtain ⟨S, h3, h4⟩ := h2
  exact ⟨S, h.next h3 (fun k hk => hk) h4⟩
/-- One of those that were given. -/
theorem St8.at_ (h : St8 W w p g q y b P m K L gv gl Kb) (i : Nat) (hi : i < gl.length) : ∃ gb c a1 b1, gv = .slice (some ⟨gb, 0, none⟩) gl.length c ∧ gl.length ≤ c ∧ c ≤ maxLen ∧ gb ∈ Kb ∧ gb < w.heap.size ∧ (a1, b1) ∈ gl ∧ w.cell? ⟨gb, i * 2, none⟩ = some (.int .i64 a1) ∧ w.cell? ⟨gb, i * 2 + 1, none⟩ = some (.int .i64 b1) := by
  have ho := h.own
  obtain ⟨gb, c, rfl, h1, h2, h3⟩ := own_some ho h.pos
  obtain ⟨e1, e2⟩ := OwnPairs.cell ho rfl (List.getElem?_eq_getElem hi)
  exact ⟨gb, c, _, _, rfl, h2, h3, (h.gb gb (by simp [Value.ownBlock])).1, h1, List.getElem_mem hi, e1, e2⟩
end
/-- What asks leaves. -/
def Asked (W w' : World) (p g q y b : Nat) (P : Plr) (m K L : Nat) (gl : List (Int × Int)) : Prop :=
  ∃ P' K' L' gv' gl' Kb', St8 W w' p g q y b P' m K' L' gv' gl' Kb' ∧ K' ≤ K + 1 ∧ L' ≤ L + 1 ∧ P'.sl.cnt ≤ P.sl.cnt + 1 ∧ gl'.length ≤ gl.length + 1
theorem Asked.of {W w w' w2 : World} {p g q y b m K L K' L' : Nat} {P P' : Plr} {gv : Value} {gl : List (Int × Int)} {Kb l : List Nat} (h : St8 W w p g q y b P m K L gv gl Kb) (h2 : PTwo W w' p g q y P' P' m K' m L' (Kb ++ l)) (hk : KeepP Kb w w') (h3 : Mods [] w' w2) (a1 : K' ≤ K + 1) (a2 : L' ≤ L + 1) (a3 : P'.sl.cnt ≤ P.sl.cnt + 1) : Asked W w2 p g q y b P m K L gl :=
  ⟨P', K', L', gv, gl, Kb, h.next ((h2.less fun k hk => List.mem_append_left _ hk).quiet h3) (fun k hk => hk) (hk.trans (KeepP.quiet h3 fun k hk2 => h2.kb k (List.mem_append_left _ hk2))), a1, a2, a3, by omega⟩
/-- Behind the first statement of asks. -/
structure Pre8 (W w wx : World) (p g q y b bx bh : Nat) (P : Plr) (m K L : Nat) (gv : Value) (Kb : List Nat) (act : Array Value) (a1 b1 : Int) : Prop where
  two : PTwo W wx p g q y P P m K m L (Kb ++ [bx, bh])
  keep : KeepP Kb w wx
  pair : Row wx b 50 #[.pointer (some ⟨p, 0, none⟩), .pointer (some ⟨q, 0, none⟩), gv]
  act : Row wx bx 25 act
  hnd : Row wx bh 47 #[.int .i64 a1, .int .i64 b1]
theorem Pre8.born {W w w0 wx : World} {p g q y b bx m K L : Nat} {P : Plr} {gv : Value} {gl : List (Int × Int)} {Kb : List Nat} {act : Array Value} {a1 b1 : Int} (h : St8 W w p g q y b P m K L gv gl Kb) (h1 : PTwo W w0 p g q y P P m K m L (Kb ++ [bx])) (k0 : KeepP Kb w w0) (ra : Row w0 bx 25 act)
    (e1 : wx.heap = (w0.alloc (.cells #[.int .i64 a1, .int .i64 b1] 47)).heap) (e2 : wx.os = (w0.alloc (.cells #[.int .i64 a1, .int .i64 b1] 47)).os) (e3 : wx.tape = (w0.alloc (.cells #[.int .i64 a1, .int .i64 b1] 47)).tape) (e4 : wx.output = (w0.alloc (.cells #[.int .i64 a1, .int .i64 b1] 47)).output) :
    Pre8 W w wx p g q y b bx w0.heap.size P m K L gv Kb act a1 b1 := by
  have k2 : KeepP Kb w wx := fun k hk => by rw [e1]; exact (Below.heap_alloc w0 _ k (h1.kb k (List.mem_append_left _ hk))).trans (k0 k hk)
  refine ⟨?_, k2, h.row.keepP k2 h.inb.1, (ra.alloc (.cells #[.int .i64 a1, .int .i64 b1] 47)).same e1, (Row.new w0 _ _).same e1⟩
  have := (h1.onto (.cells #[.int .i64 a1, .int .i64 b1] 47)).same e1 e2 e3 e4
  rwa [List.append_assoc] at this
theorem Pairs.row2 {w : World} {d : Nat} {t : TypeId} {a b : Int} (h : Row w d t #[.int .i64 a, .int .i64 b, .int .i64 a, .int .i64 b]) (ha : -9223372036854775808 ≤ a ∧ a ≤ 9223372036854775807) (hb : -9223372036854775808 ≤ b ∧ b ≤ 9223372036854775807) : Pairs w d [(a, b), (a, b)] := fun j p hp => by
  match j, hp with
  | 0, hp => injection hp with hp; subst hp; exact ⟨h.cell 0, h.cell 1, ha, hb⟩
  | 1, hp => injection hp with hp; subst hp; exact ⟨h.cell 2, h.cell 3, ha, hb⟩
theorem change_cnt (P : Plr) (a b : Int) (r s : Bool) : (P.change a b r s).sl.cnt = P.sl.cnt := by unfold Plr.change; split <;> rfl
theorem takes_cnt (S : Slb) (l : List (Int × Int)) : (S.takes l).cnt ≤ S.cnt := by
  unfold Slb.takes
  induction l generalizing S with
  | nil => exact Nat.le_refl _
  | cons x l ih => exact Nat.le_trans (ih (S.take1 x)) (Slb.take1_cnt S x)
theorem watch_cnt (P : Plr) (c : Int) (r s e : Bool) : (P.watch c r s e).sl.cnt ≤ P.sl.cnt + 1 := by
  unfold Plr.watch
  split
  · show (P.sl.put c).cnt ≤ _
    rw [Slb.put_cnt]; exact Nat.le_refl _
  · omega
theorem waited_cnt (P : Plr) : P.waited.sl.cnt = P.sl.cnt := by unfold Plr.waited; rw [(P.tells_sl _).1]
theorem told_len {P : Plr} {K : Nat} (h : P.Ok K) : P.told.length ≤ 4096 := by
  have h1 := P.evs_len P.sl.all
  have h2 := P.sl.allTo_len P.sl.us.length
  have h3 := h.sl.len
  have h4 := h.sl.hi
  show (P.evs P.sl.all).length ≤ 4096
  have : P.sl.all.length ≤ 4096 := by unfold Slb.all; omega
  omega
theorem PTwo.onto2 {W w : World} {p g q y m n K L : Nat} {P Q : Plr} {Kb : List Nat} (h : PTwo W w p g q y P Q m K n L Kb) (o o' : Obj) : PTwo W ((w.alloc o).alloc o') p g q y P Q m K n L (Kb ++ [w.heap.size] ++ [w.heap.size + 1]) := by
  simpa using (h.onto o).onto o'
theorem KeepP.onto2 {w w2 : World} {Kc l : List Nat} {o o' : Obj} (h : KeepP (Kc ++ l ++ [w.heap.size + 1]) ((w.alloc o).alloc o').drew w2) (hk : ∀ k ∈ Kc, k < w.heap.size) : KeepP Kc w w2 := fun k hk2 =>
  ((h k (List.mem_append_left _ (List.mem_append_left _ hk2))).trans (Below.heap_alloc (w.alloc o) o' k (by simp; have := hk k hk2; omega))).trans (Below.heap_alloc w o k (hk k hk2))
theorem Row.new2 (w : World) (o : Obj) (t : TypeId) (cs : Array Value) : Row ((w.alloc o).alloc (.cells cs t)) (w.heap.size + 1) t cs := by
  have := Row.new (w.alloc o) t cs
  simpa using this
theorem NumsAt.far {w wr : World} {A : Option Addr} {l : List Int} (h : NumsAt w [] A l) (hm : Mods [] w wr) (F : List Nat) (hF : ∀ k ∈ F, w.heap.size ≤ k) : NumsAt wr F A l := fun i x hx => by
  obtain ⟨b, o, e, hb, _, hc⟩ := h i x hx
  exact ⟨b, o, e, Nat.lt_of_lt_of_le hb hm.size, fun hk => by have := hF b hk; omega, cell_mods hc hm (by simp)⟩
/-- The picks, copied. -/
structure Pk8 (W wa wx : World) (p g q y : Nat) (P : Plr) (m K L : Nat) (Kx : List Nat) (A : Option Addr) (pl : List Int) (l : List Nat) : Prop where
  two : PTwo W wx p g q y P P m K m L (Kx ++ l)
  keep : KeepP Kx wa wx
  nums : ∀ F : List Nat, (∀ k ∈ F, k ∉ Kx ++ l) → NumsAt wx F A pl
theorem Pk8.nil {W wa wx : World} {p g q y m K L : Nat} {P : Plr} {Kx : List Nat} {A : Option Addr} (h : PTwo W wa p g q y P P m K m L Kx) (hm : Mods [] wa wx) : Pk8 W wa wx p g q y P m K L Kx A [] [] :=
  ⟨by simpa using h.quiet hm, KeepP.quiet hm h.kb, fun F hF i x hx => by simp at hx⟩
theorem Pk8.of {W wa wx : World} {p g q y m K L n c : Nat} {P : Plr} {Kx : List Nat} {A : Option Addr} {pl : List Int} (h : PTwo W wa p g q y P P m K m L Kx) (hm : Mods [] wa wx) (ho : wx.ownsRow 0 3 1 (.slice A n c) n (iv pl)) (hl : ∀ k ∈ (Value.slice A n c).ownBlock.toList, wa.heap.size ≤ k) (hn : n = pl.length) (hpos : 0 < pl.length) : Pk8 W wa wx p g q y P m K L Kx A pl (Value.slice A n c).ownBlock.toList := by
  refine ⟨h.add hm fun k hk => ⟨hl k hk, own_lt ho k hk⟩, KeepP.quiet hm h.kb, fun F hF i x hx => ?_⟩
  obtain ⟨g', c', e, hlt, _, _⟩ := own_some ho (by omega)
  injection e with e1 e2 e3
  subst e1
  have hi := (List.getElem?_eq_some_iff.1 hx).1
  refine ⟨g', 0, rfl, hlt, fun hk => hF g' hk (List.mem_append_right _ (by simp [Value.ownBlock])), ?_⟩
  rw [Nat.zero_add]
  refine (World.ownsRow.cellAt ho i (by omega)).trans ?_
  simp [iv, hx]
theorem rord9 {w5 w7 : World} {t : TypeId} {v7 : Value} (h : Mods (Value.slice (some ⟨w5.heap.size, 0, none⟩) 0 0).ownBlock.toList (w5.alloc (.cells #[] t)) w7 ∧ (v7.ownBlock = (Value.slice (some ⟨w5.heap.size, 0, none⟩) 0 0).ownBlock ∨ v7.ownBlock = some (w5.alloc (.cells #[] t)).heap.size)) :
    Mods [] w5 w7 ∧ ∀ b ∈ v7.ownBlock.toList, w5.heap.size ≤ b := by
  have hm : Mods [] w5 w7 := ((Mods.refl [] w5).alloc (.cells #[] t)).trans h.1 fun b hb => .inr (by simp [Value.ownBlock] at hb; omega)
  refine ⟨hm, fun b hb => ?_⟩
  rcases h.2 with e | e
  · rw [e] at hb; simp [Value.ownBlock] at hb; omega
  · rw [e] at hb
    have : b = (w5.alloc (.cells #[] t)).heap.size := by simpa [eq_comm] using hb
    simp at this
    omega
/-- A Handle that a call has given lies in a block of its own. -/
theorem given6 {W wa w2 wx : World} {p g q y m n K L : Nat} {P Q : Plr} {Kx : List Nat} {S G : Int} (h : PTwo W w2 p g q y P Q m K n L Kx) (k : KeepP Kx wa w2)
    (e1 : wx.heap = (w2.alloc (.cells #[.int .i64 S, .int .i64 G] 47)).heap) (e2 : wx.os = (w2.alloc (.cells #[.int .i64 S, .int .i64 G] 47)).os) (e3 : wx.tape = (w2.alloc (.cells #[.int .i64 S, .int .i64 G] 47)).tape) (e4 : wx.output = (w2.alloc (.cells #[.int .i64 S, .int .i64 G] 47)).output) :
    PTwo W wx p g q y P Q m K n L (Kx ++ [w2.heap.size]) ∧ KeepP Kx wa wx ∧ Row wx w2.heap.size 47 #[.int .i64 S, .int .i64 G] :=
  ⟨(h.onto _).same e1 e2 e3 e4, fun j hj => by rw [e1]; exact (Below.heap_alloc w2 _ j (h.kb j hj)).trans (k j hj), (Row.new w2 _ _).same e1⟩
theorem PTwo.addm {W w w' : World} {p g q y m n K L : Nat} {P Q : Plr} {Kb l L0 : List Nat} (h : PTwo W w p g q y P Q m K n L Kb) (hm : Mods L0 w w') (hL : ∀ k ∈ L0, k ∈ Kb ∧ W.heap.size ≤ k) (hl : ∀ k ∈ l, k ∈ Kb ∨ w.heap.size ≤ k ∧ k < w'.heap.size) : PTwo W w' p g q y P Q m K n L (Kb ++ l) := by
  obtain ⟨F, G, h⟩ := h
  refine ⟨F, G, h.pol.mods hm fun k hk h2 => (h.f k hk).2.1 (hL k h2).1, h.rol.mods hm fun k hk h2 => (h.g k hk).2 (hL k h2).1, h.mods.trans hm fun k hk => .inr (hL k hk).2, fun k hk => ⟨(h.f k hk).1, fun h2 => ?_, (h.f k hk).2.2⟩, fun k hk => ⟨(h.g k hk).1, fun h2 => ?_⟩, fun k hk => ?_⟩
  · rcases List.mem_append.1 h2 with h3 | h3
    · exact (h.f k hk).2.1 h3
    · rcases hl k h3 with h4 | h4
      · exact (h.f k hk).2.1 h4
      · have := h.pol.lt k hk; omega
  · rcases List.mem_append.1 h2 with h3 | h3
    · exact (h.g k hk).2 h3
    · rcases hl k h3 with h4 | h4
      · exact (h.g k hk).2 h4
      · have := h.rol.lt k hk; omega
  · rcases List.mem_append.1 hk with h3 | h3
    · exact Nat.lt_of_lt_of_le (h.kb k h3) hm.size
    · rcases hl k h3 with h4 | h4
      · exact Nat.lt_of_lt_of_le (h.kb k h4) hm.size
      · exact h4.2
/-- One more has been given. -/
theorem St8.given {W wd wx w9 w' : World} {p g q y b m K L gb n cg c9 : Nat} {P : Plr} {gl : List (Int × Int)} {Kc : List Nat} {A9 : Option Addr} {S G : Int} (h : PTwo W wd p g q y P P m K m L Kc) (hb : b ∈ Kc ∧ W.heap.size ≤ b)
    (hr : Row wd b 50 #[.pointer (some ⟨p, 0, none⟩), .pointer (some ⟨q, 0, none⟩), .slice (some ⟨gb, 0, none⟩) n cg]) (ho : OwnPairs wd 47 (.slice (some ⟨gb, 0, none⟩) n cg) gl) (hg : gb ∈ Kc ∧ W.heap.size ≤ gb) (hx : Mods [] wd wx) (hn : n = gl.length)
    (hm : Mods (Value.slice (some ⟨gb, 0, none⟩) n cg).ownBlock.toList wx w9 ∧ ((Value.slice A9 (n + 1) c9).ownBlock = (Value.slice (some ⟨gb, 0, none⟩) n cg).ownBlock ∨ (Value.slice A9 (n + 1) c9).ownBlock = some wx.heap.size))
    (h9 : w9.ownsRow 0 47 2 (.slice A9 (n + 1) c9) (n + 1) (flat gl ++ [.int .i64 S, .int .i64 G])) (hi : ∀ x ∈ gl, (-9223372036854775808 ≤ x.1 ∧ x.1 ≤ 9223372036854775807) ∧ (-9223372036854775808 ≤ x.2 ∧ x.2 ≤ 9223372036854775807)) (hS : -9223372036854775808 ≤ S ∧ S ≤ 9223372036854775807) (hG : -9223372036854775808 ≤ G ∧ G ≤ 9223372036854775807)
    (hw : w' = w9.setCell ⟨b, 2, none⟩ (.slice A9 (n + 1) c9)) :
    St8 W w' p g q y b P m K L (.slice A9 (n + 1) c9) (gl ++ [(S, G)]) (Kc ++ (Value.slice A9 (n + 1) c9).ownBlock.toList) ∧ Mods [gb, b] wd w' := by
  have hbg : b ≠ gb := fun e => own_ne_row ho hr (by decide) gb (by simp [Value.ownBlock]) e.symm
  have m9 : Mods [gb] wd w9 := (hx.more (by simp)).trans hm.1 fun k hk => .inl (by simpa [Value.ownBlock, eq_comm] using hk)
  have hA : ∀ k ∈ (Value.slice A9 (n + 1) c9).ownBlock.toList, k = gb ∨ wd.heap.size ≤ k ∧ k < w9.heap.size := fun k hk => by
    have hlt := own_lt h9 k hk
    rcases hm.2 with e | e
    · rw [e] at hk; left; simpa [Value.ownBlock, eq_comm] using hk
    · rw [e] at hk
      have := hx.size
      right
      simp at hk
      omega
  have t9 := h.addm m9 (fun k hk => by rw [List.mem_singleton.1 hk]; exact hg) (l := (Value.slice A9 (n + 1) c9).ownBlock.toList) fun k hk => by
    rcases hA k hk with e | e
    · rw [e]; exact .inl hg.1
    · exact .inr e
  have r9 := hr.mods m9 (by simpa using hbg)
  have hbA : b ∉ (Value.slice A9 (n + 1) c9).ownBlock.toList := fun hk => by
    rcases hA b hk with e | e
    · exact hbg e
    · have := h.kb b hb.1; omega
  have ms : Mods [b] w9 w' := by rw [hw]; exact (Mods.refl [b] w9).setCell (.inl (by simp)) _
  have t' := t9.spoilt (l := [b]) (fun k hk => by rw [List.mem_singleton.1 hk]; exact ⟨List.mem_append_left _ hb.1, hb.2⟩) ms
  refine ⟨⟨t', ⟨List.mem_append_left _ hb.1, hb.2⟩, ?_, ?_, fun k hk => ⟨List.mem_append_right _ hk, ?_⟩, by simp, fun x hx => ?_⟩, ?_⟩
  · have := r9.set 2 (.slice A9 (n + 1) c9)
    rw [hw]
    simpa using this
  · have := own_mods h9 ms (fun k hk hk2 => hbA (by rw [← List.mem_singleton.1 hk2]; exact hk))
    unfold OwnPairs
    rw [flat_append, List.length_append, List.length_singleton, ← hn]
    exact this
  · rcases hA k hk with e | e
    · rw [e]; exact hg.2
    · exact Nat.le_trans h.mods.size e.1
  · rcases List.mem_append.1 hx with h1 | h1
    · exact hi x h1
    · rw [List.mem_singleton.1 h1]; exact ⟨hS, hG⟩
  · exact (m9.more (by simp)).trans ms fun k hk => .inl (by simp at hk ⊢; exact .inr hk)
theorem St8.same {W w w2 : World} {p g q y b m K L : Nat} {P : Plr} {gv : Value} {gl : List (Int × Int)} {Kb : List Nat} (h : St8 W w p g q y b P m K L gv gl Kb) (h1 : w2.heap = w.heap) (h2 : w2.os = w.os) (h3 : w2.tape = w.tape) (h4 : w2.output = w.output) : St8 W w2 p g q y b P m K L gv gl Kb :=
  ⟨h.two.same h1 h2 h3 h4, h.inb, h.row.same h1, own_keep h.own fun k _ => by rw [h1], h.gb, h.pos, h.i64⟩
theorem watch_sg {P : Plr} {K : Nat} (h : P.Ok K) (hK : K ≤ 4000000000000) (c : Int) : (-9223372036854775808 ≤ P.watchS c ∧ P.watchS c ≤ 9223372036854775807) ∧ (-9223372036854775808 ≤ P.watchG c ∧ P.watchG c ≤ 9223372036854775807) := by
  have h1 := P.sl.least_le
  have h2 := h.sl.len
  have h3 := h.sl.hi
  have h4 := h.sl.gk P.sl.least
  have h5 : P.sl.gen ≤ K + 1 := by unfold Slb.gen; first | omega | (split <;> omega)
  unfold Plr.watchS Plr.watchG
  split <;> omega
theorem given7 {W wa w2 wx : World} {p g q y m n K L z : Nat} {P Q : Plr} {Kx : List Nat} {S G : Int} (h : PTwo W w2 p g q y P Q m K n L (Kx ++ [z])) (k : KeepP Kx wa w2) (rz : Row w2 z 47 #[.int .i64 0, .int .i64 0]) (hz : W.heap.size ≤ z) (hk : z ∉ Kx)
    (e1 : wx.heap = ((w2.setCell ⟨z, 0, none⟩ (.int .i64 S)).setCell ⟨z, 1, none⟩ (.int .i64 G)).heap) (e2 : wx.os = ((w2.setCell ⟨z, 0, none⟩ (.int .i64 S)).setCell ⟨z, 1, none⟩ (.int .i64 G)).os) (e3 : wx.tape = ((w2.setCell ⟨z, 0, none⟩ (.int .i64 S)).setCell ⟨z, 1, none⟩ (.int .i64 G)).tape) (e4 : wx.output = ((w2.setCell ⟨z, 0, none⟩ (.int .i64 S)).setCell ⟨z, 1, none⟩ (.int .i64 G)).output) :
    PTwo W wx p g q y P Q m K n L (Kx ++ [z]) ∧ KeepP Kx wa wx ∧ Row wx z 47 #[.int .i64 S, .int .i64 G] := by
  have hm : Mods [z] w2 ((w2.setCell ⟨z, 0, none⟩ (.int .i64 S)).setCell ⟨z, 1, none⟩ (.int .i64 G)) := ((Mods.refl [z] w2).setCell (.inl (by simp)) _).setCell (.inl (by simp)) _
  refine ⟨(h.spoilt (l := [z]) (fun j hj => by rw [List.mem_singleton.1 hj]; exact ⟨by simp, hz⟩) hm).same e1 e2 e3 e4, fun j hj => ?_, ?_⟩
  · rw [e1]
    exact (hm.block j (h.kb j (List.mem_append_left _ hj)) (fun hj2 => hk (by rw [← List.mem_singleton.1 hj2]; exact hj))).trans (k j hj)
  · have := (rz.set 0 (.int .i64 S)).set 1 (.int .i64 G)
    exact Row.same (by simpa using this) e1
end Go.Proofs.YthaapkafamdhcaaDoor

/- What asks of stage 8's law answers, a kind of act each. -/
namespace Go.Proofs.YthaapkafamdhcaaDoor
open Go.RowKit
set_option maxRecDepth 10000
set_option linter.unusedVariables false
set_option linter.unusedSimpArgs false

set_option maxHeartbeats 4000000 in
theorem asks_1 (W w : World) (p g q y b m K L : Nat) (gv pv : Value) (P : Plr) (gl : List (Int × Int)) (Kb : List Nat) (c k : Int) (r s e : Bool) (h : St8 W w p g q y b P m K L gv gl Kb) (hgl : gl.length ≤ 1000) (hT : TzTab W) (hcnt : P.sl.cnt < 4096) (hK : K ≤ 4000000000000) (hL : L ≤ 4000000000000) :
    Calls Tryd.prog 13 #[.pointer (some ⟨b, 0, none⟩), .agg #[.int .i64 1, .int .i64 c, .int .i64 k, .bool r, .bool s, .bool e, pv]] w fun e w' => e = .returned (.bool true) ∧ Hid (Asked W w' p g q y b P m K L gl) := by
  obtain ⟨q0, hq0, hq1⟩ : ∃ q0 : Nat, bits BinOp.and IntKind.i64 k 65535 = (q0 : Int) ∧ q0 ≤ 65535 := and_mask k 65535 (by omega)
  have hqn : q0 % gl.length < gl.length := Nat.mod_lt _ h.pos
  obtain ⟨gb, cg, a1, b1, rfl, hc1, hc2, hgb, hgw, hin, d0, d1⟩ := h.at_ (q0 % gl.length) hqn
  have HI := Lib.hid (h.i64 _ hin)
  have hpos := h.pos
  obtain ⟨n, hn⟩ : ∃ n, n = gl.length := ⟨_, rfl⟩
  rw [← hn] at h hqn hc1 d0 d1 hpos hgl
  have HNN := Lib.hid hn
  have HGL := Lib.hid hgl
  clear hn
  have h1 := h.two.onto (.cells #[.int .i64 1, .int .i64 c, .int .i64 k, .bool r, .bool s, .bool e, pv] 25)
  have ra := Row.new w 25 #[.int .i64 1, .int .i64 c, .int .i64 k, .bool r, .bool s, .bool e, pv]
  have rp := h.row.alloc (.cells #[.int .i64 1, .int .i64 c, .int .i64 k, .bool r, .bool s, .bool e, pv] 25)
  have k0 : KeepP Kb w (w.alloc (.cells #[.int .i64 1, .int .i64 c, .int .i64 k, .bool r, .bool s, .bool e, pv] 25)) := KeepP.quiet ((Mods.refl [] w).alloc _) h.two.kb
  have e0 := cell_alloc d0 (.cells #[.int .i64 1, .int .i64 c, .int .i64 k, .bool r, .bool s, .bool e, pv] 25)
  have e1 := cell_alloc d1 (.cells #[.int .i64 1, .int .i64 c, .int .i64 k, .bool r, .bool s, .bool e, pv] 25)
  obtain ⟨w0, hw0⟩ : ∃ w0, w0 = w.alloc (.cells #[.int .i64 1, .int .i64 c, .int .i64 k, .bool r, .bool s, .bool e, pv] 25) := ⟨_, rfl⟩
  obtain ⟨bx, hbx⟩ : ∃ bx, bx = w.heap.size := ⟨_, rfl⟩
  rw [← hw0, ← hbx] at h1 ra
  rw [← hw0] at rp k0 e0 e1
  have H1 := Lib.hid h1
  have RA := Lib.hid ra
  have K0 := Lib.hid k0
  have ST := Lib.hid h
  have a0 : w0.cell? ⟨b, 2, none⟩ = some (.slice (some ⟨gb, 0, none⟩) n cg) := rp.cell 2
  have a2 : w0.cell? ⟨bx, 2, none⟩ = some (.int .i64 k) := ra.cell 2
  have s0 : w0.cell? ⟨bx, 0, none⟩ = some (.int .i64 1) := ra.cell 0
  obtain ⟨qi, hqi⟩ : ∃ qi, qi = q0 % n := ⟨_, rfl⟩
  rw [← hqi] at e0 e1 hqn
  have hrem : (q0 : Int) % (n : Int) = (qi : Int) := by omega
  have hrem2 : (q0 : Int).tmod (n : Int) = (qi : Int) := by rw [Int.tmod_eq_emod_of_nonneg (by omega)]; exact hrem
  have g0 : (0 : Int) ≤ (qi : Int) := by omega
  have g1 : (qi : Int) < (n : Int) := by omega
  have hz : ¬ n = 0 := by omega
  unfold maxLen at hc2
  clear h h1 ra rp k0 d0 d1 hgb hgw hin hqi
  go_enter Tryd.func13, Tryd.ntmps13
  go_upto_region 1 with fail
  rw [← hw0, ← hbx]
  clear hw0 hbx
  go_cut [5] (fun v wx => ∃ bh, v = .pointer (some ⟨bh, 0, none⟩) ∧ Hid (Pre8 W w wx p g q y b bx bh P m K L (.slice (some ⟨gb, 0, none⟩) n cg) Kb #[.int .i64 1, .int .i64 c, .int .i64 k, .bool r, .bool s, .bool e, pv] a1 b1))
  case first =>
    go_region_held3 (fun w' => w'.cell? ⟨b, 2, none⟩ = some (.slice (some ⟨gb, 0, none⟩) n cg) ∧ w'.cell? ⟨bx, 2, none⟩ = some (.int .i64 k) ∧ w'.cell? ⟨gb, qi * 2, none⟩ = some (.int .i64 a1) ∧ w'.cell? ⟨gb, qi * 2 + 1, none⟩ = some (.int .i64 b1)) (go_keep) (fail)
    all_goals
      go_wp2
      go_meet
      case rel => exact ⟨_, rfl, Lib.hid (Pre8.born ST.out H1.out K0.out RA.out rfl rfl rfl rfl)⟩
  case rest =>
    obtain ⟨bh, rfl, hpre⟩ := hcut
    obtain ⟨wa, rfl⟩ : ∃ wa : World, wa = wc := ⟨_, rfl⟩
    clear a0 a2 s0 e0 e1 g0 g1 hrem hrem2 hq0 hq1 hz hqn hc1 hc2 hpos hgl H1 RA K0
    have HP := Lib.hid hpre.out
    clear hpre
    have c0 : wa.cell? ⟨b, 0, none⟩ = some (.pointer (some ⟨p, 0, none⟩)) := HP.out.pair.cell 0
    have c1 : wa.cell? ⟨b, 1, none⟩ = some (.pointer (some ⟨q, 0, none⟩)) := HP.out.pair.cell 1
    have s0 : wa.cell? ⟨bx, 0, none⟩ = some (.int .i64 1) := HP.out.act.cell 0
    have s1 : wa.cell? ⟨bx, 1, none⟩ = some (.int .i64 c) := HP.out.act.cell 1
    have s3 : wa.cell? ⟨bx, 3, none⟩ = some (.bool r) := HP.out.act.cell 3
    have s4 : wa.cell? ⟨bx, 4, none⟩ = some (.bool s) := HP.out.act.cell 4
    have s5 : wa.cell? ⟨bx, 5, none⟩ = some (.bool e) := HP.out.act.cell 5
    have s6 : wa.cell? ⟨bx, 6, none⟩ = some pv := HP.out.act.cell 6
    have h0 : wa.cell? ⟨bh, 0, none⟩ = some (.int .i64 a1) := HP.out.hnd.cell 0
    have h1 : wa.cell? ⟨bh, 1, none⟩ = some (.int .i64 b1) := HP.out.hnd.cell 1
    have HB := Lib.hid (show b ∈ Kb ++ [bx, bh] from List.mem_append_left _ ST.out.inb.1)
    have HKL := Lib.hid (And.intro hT (And.intro hcnt (And.intro hK hL)))
    have HCG := Lib.hid (show n + 1 ≤ 2000 from by have := HGL.out; omega)
    clear hT hcnt hK hL
    obtain ⟨S, hS⟩ : ∃ S, P.watchS c = S := ⟨_, rfl⟩
    obtain ⟨G, hG⟩ : ∃ G, P.watchG c = G := ⟨_, rfl⟩
    obtain ⟨E, hE⟩ : ∃ E, P.watchE c = E := ⟨_, rfl⟩
    obtain ⟨P1, hP1⟩ : ∃ P1, P.watch c r s e = P1 := ⟨_, rfl⟩
    have HSG := Lib.hid (watch_sg HP.out.two.okP HKL.out.2.2.1 c)
    rw [hS, hG] at HSG
    have HCN := Lib.hid (watch_cnt P c r s e)
    rw [hP1] at HCN
    have C1 := Lib.hid (show ∀ (wz : World) (Kc : List Nat), PTwo W wz p g q y P P m K m L Kc → Calls Tryd.prog 21 #[.pointer (some ⟨p, 0, none⟩), .int .i64 c, .bool r, .bool s, .bool e] wz fun e' w' => e' = .returned (.tuple #[.agg #[.int .i64 S, .int .i64 G], .int .i64 E]) ∧ Hid (∃ K', K' ≤ K + 1 ∧ PTwo W w' p g q y P1 P m K' m L Kc ∧ KeepP Kc wz w') from fun wz Kc hz => by
      have := watchP W wz p g q y m K m L P P Kc hz c r s e (HKL.out.1.mods hz.mods (by simp)) HKL.out.2.1 HKL.out.2.2.1
      rw [hS, hG, hE, hP1] at this
      exact this)
    have C2 := Lib.hid (show ∀ (wz : World) (Kc : List Nat) (K' : Nat), PTwo W wz p g q y P1 P m K' m L Kc → Calls Tryd.prog 29 #[.pointer (some ⟨q, 0, none⟩), .int .i64 c, .bool r, .bool s, .bool e] wz fun e' w' => e' = .returned (.tuple #[.agg #[.int .i64 S, .int .i64 G], .int .i64 E]) ∧ Hid (∃ L', L' ≤ L + 1 ∧ PTwo W w' p g q y P1 P1 m K' m L' Kc ∧ KeepP Kc wz w') from fun wz Kc K' hz => by
      have := rwatchP W wz p g q y m K' m L P1 P Kc hz c r s e HKL.out.2.1 HKL.out.2.2.2
      rw [hS, hG, hE, hP1] at this
      exact this)
    clear hS hG hE hP1 h0 h1
    go_upto_region 4 with fail
    clear s0
    go_cut [6, 7] (fun v6 v7 wx => ∃ b6 K', v6 = .pointer (some ⟨b6, 0, none⟩) ∧ v7 = .int .i64 E ∧ Hid (b6 ≠ gb) ∧ Hid (K' ≤ K + 1 ∧ PTwo W wx p g q y P1 P m K' m L (Kb ++ [bx, bh] ++ [b6]) ∧ KeepP (Kb ++ [bx, bh]) wa wx ∧ Row wx b6 47 #[.int .i64 S, .int .i64 G]))
    case first =>
      go_region_held3 (fun w' => w'.cell? ⟨b, 0, none⟩ = some (.pointer (some ⟨p, 0, none⟩)) ∧ w'.cell? ⟨bx, 1, none⟩ = some (.int .i64 c) ∧ w'.cell? ⟨bx, 3, none⟩ = some (.bool r) ∧ w'.cell? ⟨bx, 4, none⟩ = some (.bool s) ∧ w'.cell? ⟨bx, 5, none⟩ = some (.bool e)) (go_keep)
        (first
          | (go_at_call 21; refine Calls.mono (C1.out _ (Kb ++ [bx, bh]) ?_) ?_; exact HP.out.two.same rfl rfl rfl rfl; rintro e' w2 ⟨rfl, hd⟩; obtain ⟨K', hK', h2, k2⟩ := hd.out; have HK' := Lib.hid hK'; have H2 := Lib.hid h2; have K2 := Lib.hid (show KeepP (Kb ++ [bx, bh]) wa w2 from k2); have RP2 := Lib.hid (HP.out.pair.keepP K2.out HB.out); have RA2 := Lib.hid (HP.out.act.keepP K2.out (by simp)); have RH2 := Lib.hid (HP.out.hnd.keepP K2.out (by simp)); have y2c0 : w2.cell? ⟨b, 0, none⟩ = some (.pointer (some ⟨p, 0, none⟩)) := RP2.out.cell 0; have y2s1 : w2.cell? ⟨bx, 1, none⟩ = some (.int .i64 c) := RA2.out.cell 1; have y2s3 : w2.cell? ⟨bx, 3, none⟩ = some (.bool r) := RA2.out.cell 3; have y2s4 : w2.cell? ⟨bx, 4, none⟩ = some (.bool s) := RA2.out.cell 4; have y2s5 : w2.cell? ⟨bx, 5, none⟩ = some (.bool e) := RA2.out.cell 5; clear hd hK' h2 k2)
          | (go_at_call 21; refine Calls.mono (C1.out _ (Kb ++ [bx, bh] ++ [wa.heap.size]) ?_) ?_; exact (HP.out.two.onto (.cells #[.int .i64 0, .int .i64 0] 47)).same rfl rfl rfl rfl; rintro e' w2 ⟨rfl, hd⟩; obtain ⟨K', hK', h2, k2⟩ := hd.out; have HK' := Lib.hid hK'; have H2B := Lib.hid h2; have K2 := Lib.hid (show KeepP (Kb ++ [bx, bh]) wa w2 from KeepP.onto k2 HP.out.two.kb); have RZ := Lib.hid (Row.keepP (w := (wa.alloc (.cells #[.int .i64 0, .int .i64 0] 47)).drew) ((Row.new wa _ _).same rfl) k2 (by simp)); have RP2 := Lib.hid (HP.out.pair.keepP K2.out HB.out); have RA2 := Lib.hid (HP.out.act.keepP K2.out (by simp)); have RH2 := Lib.hid (HP.out.hnd.keepP K2.out (by simp)); have y2c0 : w2.cell? ⟨b, 0, none⟩ = some (.pointer (some ⟨p, 0, none⟩)) := RP2.out.cell 0; have y2s1 : w2.cell? ⟨bx, 1, none⟩ = some (.int .i64 c) := RA2.out.cell 1; have y2s3 : w2.cell? ⟨bx, 3, none⟩ = some (.bool r) := RA2.out.cell 3; have y2s4 : w2.cell? ⟨bx, 4, none⟩ = some (.bool s) := RA2.out.cell 4; have y2s5 : w2.cell? ⟨bx, 5, none⟩ = some (.bool e) := RA2.out.cell 5; have z0 : w2.cell? ⟨wa.heap.size, 0, none⟩ = some (.int .i64 0) := RZ.out.cell 0; have z1 : w2.cell? ⟨wa.heap.size, 1, none⟩ = some (.int .i64 0) := RZ.out.cell 1; have z2 : w2.frozen? ⟨wa.heap.size, 0, none⟩ = false := RZ.out.free 0; have z3 : w2.frozen? ⟨wa.heap.size, 1, none⟩ = false := RZ.out.free 1; have MZ : Mods [wa.heap.size] w2 ((w2.setCell ⟨wa.heap.size, 0, none⟩ (.int .i64 S)).setCell ⟨wa.heap.size, 1, none⟩ (.int .i64 G)) := ((Mods.refl [wa.heap.size] w2).setCell (.inl (by simp)) _).setCell (.inl (by simp)) _; have nb : b ∉ [wa.heap.size] := (fun hk => by have := HP.out.two.kb b (by simp [ST.out.inb.1]); have := List.mem_singleton.1 hk; omega); have nx : bx ∉ [wa.heap.size] := (fun hk => by have := HP.out.two.kb bx (by simp); have := List.mem_singleton.1 hk; omega); have t2c0 := cell_mods y2c0 MZ nb; have t2s1 := cell_mods y2s1 MZ nx; have t2s3 := cell_mods y2s3 MZ nx; have t2s4 := cell_mods y2s4 MZ nx; have t2s5 := cell_mods y2s5 MZ nx; clear hd hK' h2 k2))
      all_goals
        go_wp2
        go_meet
        case rel => first
          | exact ⟨_, _, rfl, rfl, Lib.hid (by have := HP.out.two.kb gb (List.mem_append_left _ (ST.out.gb gb (by simp [Value.ownBlock])).1); omega), Lib.hid ⟨HK'.out, given7 H2B.out K2.out RZ.out HP.out.two.mods.size (fun hk => Nat.lt_irrefl _ (HP.out.two.kb _ hk)) rfl rfl rfl rfl⟩⟩
          | exact ⟨_, _, rfl, rfl, Lib.hid (by have := H2.out.kb gb (List.mem_append_left _ (ST.out.gb gb (by simp [Value.ownBlock])).1); omega), Lib.hid ⟨HK'.out, given6 H2.out K2.out rfl rfl rfl rfl⟩⟩
    case rest =>
      obtain ⟨b6, K', rfl, rfl, hg6, h6⟩ := hcut
      obtain ⟨wb, rfl⟩ : ∃ wb : World, wb = wc := ⟨_, rfl⟩
      have H6 := Lib.hid h6.out
      clear h6 c0 c1 s1 s3 s4 s5 s6
      have RP4 := Lib.hid (HP.out.pair.keepP H6.out.2.2.1 HB.out); have RA4 := Lib.hid (HP.out.act.keepP H6.out.2.2.1 (by simp)); have RH4 := Lib.hid (HP.out.hnd.keepP H6.out.2.2.1 (by simp))
      have y4c0 : wb.cell? ⟨b, 0, none⟩ = some (.pointer (some ⟨p, 0, none⟩)) := RP4.out.cell 0
      have y4c1 : wb.cell? ⟨b, 1, none⟩ = some (.pointer (some ⟨q, 0, none⟩)) := RP4.out.cell 1
      have y4s1 : wb.cell? ⟨bx, 1, none⟩ = some (.int .i64 c) := RA4.out.cell 1
      have y4s3 : wb.cell? ⟨bx, 3, none⟩ = some (.bool r) := RA4.out.cell 3
      have y4s4 : wb.cell? ⟨bx, 4, none⟩ = some (.bool s) := RA4.out.cell 4
      have y4s5 : wb.cell? ⟨bx, 5, none⟩ = some (.bool e) := RA4.out.cell 5
      go_upto_region 5 with fail
      go_cut [8, 9] (fun v8 v9 wx => ∃ b8 L', v8 = .pointer (some ⟨b8, 0, none⟩) ∧ v9 = .int .i64 E ∧ Hid (b8 ≠ gb) ∧ Hid (L' ≤ L + 1 ∧ PTwo W wx p g q y P1 P1 m K' m L' (Kb ++ [bx, bh] ++ [b6] ++ [b8]) ∧ KeepP (Kb ++ [bx, bh] ++ [b6]) wb wx ∧ Row wx b8 47 #[.int .i64 S, .int .i64 G]))
      case first =>
        go_region_held3 (fun w' => w'.cell? ⟨b, 1, none⟩ = some (.pointer (some ⟨q, 0, none⟩)) ∧ w'.cell? ⟨bx, 1, none⟩ = some (.int .i64 c) ∧ w'.cell? ⟨bx, 3, none⟩ = some (.bool r) ∧ w'.cell? ⟨bx, 4, none⟩ = some (.bool s) ∧ w'.cell? ⟨bx, 5, none⟩ = some (.bool e)) (go_keep)
          (first
            | (go_at_call 29; refine Calls.mono (C2.out _ (Kb ++ [bx, bh] ++ [b6]) K' ?_) ?_; exact H6.out.2.1.same rfl rfl rfl rfl; rintro e' w3 ⟨rfl, hd⟩; obtain ⟨L', hL', h3, k3⟩ := hd.out; have HL' := Lib.hid hL'; have H3 := Lib.hid h3; have K3 := Lib.hid (show KeepP (Kb ++ [bx, bh] ++ [b6]) wb w3 from k3); have RP3 := Lib.hid (RP4.out.keepP (K3.out.sub fun k hk => List.mem_append_left _ hk) HB.out); have RA3 := Lib.hid (RA4.out.keepP (K3.out.sub fun k hk => List.mem_append_left _ hk) (by simp)); have RH3 := Lib.hid (RH4.out.keepP (K3.out.sub fun k hk => List.mem_append_left _ hk) (by simp)); have y3c1 : w3.cell? ⟨b, 1, none⟩ = some (.pointer (some ⟨q, 0, none⟩)) := RP3.out.cell 1; have y3s1 : w3.cell? ⟨bx, 1, none⟩ = some (.int .i64 c) := RA3.out.cell 1; have y3s3 : w3.cell? ⟨bx, 3, none⟩ = some (.bool r) := RA3.out.cell 3; have y3s4 : w3.cell? ⟨bx, 4, none⟩ = some (.bool s) := RA3.out.cell 4; have y3s5 : w3.cell? ⟨bx, 5, none⟩ = some (.bool e) := RA3.out.cell 5; clear hd hL' h3 k3)
            | (go_at_call 29; refine Calls.mono (C2.out _ (Kb ++ [bx, bh] ++ [b6] ++ [wb.heap.size]) K' ?_) ?_; exact (H6.out.2.1.onto (.cells #[.int .i64 0, .int .i64 0] 47)).same rfl rfl rfl rfl; rintro e' w3 ⟨rfl, hd⟩; obtain ⟨L', hL', h3, k3⟩ := hd.out; have HL' := Lib.hid hL'; have H3B := Lib.hid h3; have K3 := Lib.hid (show KeepP (Kb ++ [bx, bh] ++ [b6]) wb w3 from KeepP.onto k3 H6.out.2.1.kb); have RZ := Lib.hid (Row.keepP (w := (wb.alloc (.cells #[.int .i64 0, .int .i64 0] 47)).drew) ((Row.new wb _ _).same rfl) k3 (by simp)); have RP3 := Lib.hid (RP4.out.keepP (K3.out.sub fun k hk => List.mem_append_left _ hk) HB.out); have RA3 := Lib.hid (RA4.out.keepP (K3.out.sub fun k hk => List.mem_append_left _ hk) (by simp)); have RH3 := Lib.hid (RH4.out.keepP (K3.out.sub fun k hk => List.mem_append_left _ hk) (by simp)); have y3c1 : w3.cell? ⟨b, 1, none⟩ = some (.pointer (some ⟨q, 0, none⟩)) := RP3.out.cell 1; have y3s1 : w3.cell? ⟨bx, 1, none⟩ = some (.int .i64 c) := RA3.out.cell 1; have y3s3 : w3.cell? ⟨bx, 3, none⟩ = some (.bool r) := RA3.out.cell 3; have y3s4 : w3.cell? ⟨bx, 4, none⟩ = some (.bool s) := RA3.out.cell 4; have y3s5 : w3.cell? ⟨bx, 5, none⟩ = some (.bool e) := RA3.out.cell 5; have z0 : w3.cell? ⟨wb.heap.size, 0, none⟩ = some (.int .i64 0) := RZ.out.cell 0; have z1 : w3.cell? ⟨wb.heap.size, 1, none⟩ = some (.int .i64 0) := RZ.out.cell 1; have z2 : w3.frozen? ⟨wb.heap.size, 0, none⟩ = false := RZ.out.free 0; have z3 : w3.frozen? ⟨wb.heap.size, 1, none⟩ = false := RZ.out.free 1; have MZ : Mods [wb.heap.size] w3 ((w3.setCell ⟨wb.heap.size, 0, none⟩ (.int .i64 S)).setCell ⟨wb.heap.size, 1, none⟩ (.int .i64 G)) := ((Mods.refl [wb.heap.size] w3).setCell (.inl (by simp)) _).setCell (.inl (by simp)) _; have nb : b ∉ [wb.heap.size] := (fun hk => by have := H6.out.2.1.kb b (by simp [ST.out.inb.1]); have := List.mem_singleton.1 hk; omega); have nx : bx ∉ [wb.heap.size] := (fun hk => by have := H6.out.2.1.kb bx (by simp); have := List.mem_singleton.1 hk; omega); have t3c1 := cell_mods y3c1 MZ nb; have t3s1 := cell_mods y3s1 MZ nx; have t3s3 := cell_mods y3s3 MZ nx; have t3s4 := cell_mods y3s4 MZ nx; have t3s5 := cell_mods y3s5 MZ nx; clear hd hL' h3 k3))
        all_goals
          go_wp2
          go_meet
          case rel => first
            | exact ⟨_, _, rfl, rfl, Lib.hid (by have := H6.out.2.1.kb gb (List.mem_append_left _ (List.mem_append_left _ (ST.out.gb gb (by simp [Value.ownBlock])).1)); omega), Lib.hid ⟨HL'.out, given7 H3B.out K3.out RZ.out H6.out.2.1.mods.size (fun hk => Nat.lt_irrefl _ (H6.out.2.1.kb _ hk)) rfl rfl rfl rfl⟩⟩
            | exact ⟨_, _, rfl, rfl, Lib.hid (by have := H3.out.kb gb (List.mem_append_left _ (List.mem_append_left _ (ST.out.gb gb (by simp [Value.ownBlock])).1)); omega), Lib.hid ⟨HL'.out, given6 H3.out K3.out rfl rfl rfl rfl⟩⟩
      case rest =>
        obtain ⟨b8, L', rfl, rfl, hg8, h8⟩ := hcut
        obtain ⟨wd, rfl⟩ : ∃ wd : World, wd = wc := ⟨_, rfl⟩
        have H8 := Lib.hid h8.out
        clear h8 y4c0 y4c1 y4s1 y4s3 y4s4 y4s5
        have R6 := Lib.hid (H6.out.2.2.2.keepP H8.out.2.2.1 (by simp))
        have RP5 := Lib.hid (RP4.out.keepP (H8.out.2.2.1.sub fun k hk => List.mem_append_left _ hk) HB.out)
        have KW := Lib.hid (show KeepP Kb w wd from (HP.out.keep.trans (H6.out.2.2.1.sub fun k hk => List.mem_append_left _ hk)).trans (H8.out.2.2.1.sub fun k hk => List.mem_append_left _ (List.mem_append_left _ hk)))
        have OW := Lib.hid (show OwnPairs wd 47 (.slice (some ⟨gb, 0, none⟩) n cg) gl from own_keep ST.out.own fun k hk => KW.out k (ST.out.gb k hk).1)
        have GB := Lib.hid (ST.out.gb gb (by simp [Value.ownBlock]))
        obtain ⟨i2, hi2, hy0, hy1, hy2⟩ := info_parts hand_info
        have HJ := Lib.hid (And.intro hi2 (And.intro hy0 (And.intro hy1 hy2)))
        clear hi2 hy0 hy1 hy2
        have x80 : wd.cell? ⟨b8, 0, none⟩ = some (.int .i64 S) := H8.out.2.2.2.cell 0
        have x81 : wd.cell? ⟨b8, 1, none⟩ = some (.int .i64 G) := H8.out.2.2.2.cell 1
        have x2 : wd.cell? ⟨b, 2, none⟩ = some (.slice (some ⟨gb, 0, none⟩) n cg) := RP5.out.cell 2
        have hn2 : n + 1 ≤ 2000 := HCG.out
        have x2a : (wd.alloc (.cells #[.int .i64 S, .int .i64 G] 47)).cell? ⟨b, 2, none⟩ = some (.slice (some ⟨gb, 0, none⟩) n cg) := cell_alloc x2 _
        have OW2 := Lib.hid (show wd.ownsRow 0 47 2 (.slice (some ⟨gb, 0, none⟩) n cg) n (flat gl) from by have := OW.out; unfold OwnPairs at this; rwa [← HNN.out] at this)
        have HBG := Lib.hid (show b ≠ gb from fun e => own_ne_row OW.out RP5.out (by decide) gb (by simp [Value.ownBlock]) e.symm)
        go_upto_region 6 with fail
        go_cut [9] (fun v9 wx => v9 = .int .i64 E ∧ Hid (∃ A9 c9, St8 W wx p g q y b P1 m K' L' (.slice A9 (n + 1) c9) (gl ++ [(S, G)]) (Kb ++ [bx, bh] ++ [b6] ++ [b8] ++ (Value.slice A9 (n + 1) c9).ownBlock.toList) ∧ Row wx b6 47 #[.int .i64 S, .int .i64 G] ∧ Row wx b8 47 #[.int .i64 S, .int .i64 G]))
        case first =>
          go_region_law (refine step_append_n rfl (.tmp 66) (.tmp 68) 48 rfl 47 i2 _ 2 16 Tryd.underlying48 HJ.out.1 HJ.out.2.1 HJ.out.2.2.1 HJ.out.2.2.2 rfl (by omega) (.slice (some ⟨gb, 0, none⟩) n cg) n (flat gl) rfl (own_keep (own_mods OW2.out ((Mods.refl [] wd).alloc (.cells #[.int .i64 S, .int .i64 G] 47)) (by simp)) fun _ _ => rfl) ⟨wd.heap.size, 0, none⟩ 1 1 [.int .i64 S, .int .i64 G] rfl rfl (fun j u hu => news_row (cs := #[.int .i64 S, .int .i64 G]) (t := 47) (Row.keep (Row.new wd _ _) rfl) j u hu) (by simp [Value.oneCell']) (by unfold maxLen; omega) (by omega) ?_; intro v9 w9 HO9 HM9; obtain ⟨A9, c9, rfl, -, -⟩ := own_slice HO9.out; have R9 := Lib.hid (show Row w9 b 50 #[.pointer (some ⟨p, 0, none⟩), .pointer (some ⟨q, 0, none⟩), .slice (some ⟨gb, 0, none⟩) n cg] from (RP5.out.mods (((Mods.refl [] wd).alloc (.cells #[.int .i64 S, .int .i64 G] 47)).drew) (by simp)).mods HM9.out.1 (fun hk => HBG.out (by simpa [Value.ownBlock, eq_comm] using hk))); have z2 : w9.cell? ⟨b, 2, none⟩ = some (.slice (some ⟨gb, 0, none⟩) n cg) := R9.out.cell 2; have z3 : w9.frozen? ⟨b, 2, none⟩ = false := R9.out.free 2)
          all_goals
            go_wp2
            go_meet
            case rel =>
              have hh := St8.given H8.out.2.1 ⟨List.mem_append_left _ (List.mem_append_left _ HB.out), ST.out.inb.2⟩ RP5.out OW.out ⟨List.mem_append_left _ (List.mem_append_left _ (List.mem_append_left _ GB.out.1)), GB.out.2⟩ (((Mods.refl [] wd).alloc (.cells #[.int .i64 S, .int .i64 G] 47)).drew) HNN.out HM9.out HO9.out ST.out.i64 HSG.out.1 HSG.out.2 rfl
              have n6 : b6 ∉ [gb, b] := fun hk => by
                have hbs : b6 ≠ gb ∧ b6 ≠ b := ⟨hg6.out, R6.out.type_ne RP5.out (by decide)⟩
                simp at hk
                rcases hk with hk | hk
                · exact hbs.1 hk
                · exact hbs.2 hk
              have n8 : b8 ∉ [gb, b] := fun hk => by
                have hbs : b8 ≠ gb ∧ b8 ≠ b := ⟨hg8.out, H8.out.2.2.2.type_ne RP5.out (by decide)⟩
                simp at hk
                rcases hk with hk | hk
                · exact hbs.1 hk
                · exact hbs.2 hk
              exact ⟨rfl, Lib.hid ⟨A9, c9, hh.1.same rfl rfl rfl rfl, ((R6.out.mods hh.2 n6).same rfl), ((H8.out.2.2.2.mods hh.2 n8).same rfl)⟩⟩
        case rest =>
          obtain ⟨rfl, h9⟩ := hcut
          obtain ⟨we, rfl⟩ : ∃ we : World, we = wc := ⟨_, rfl⟩
          obtain ⟨A9, c9, h9a, h9b, h9c⟩ := h9.out
          have H9 := Lib.hid h9a
          have y0 : we.cell? ⟨b6, 0, none⟩ = some (.int .i64 S) := h9b.cell 0
          have y1 : we.cell? ⟨b6, 1, none⟩ = some (.int .i64 G) := h9b.cell 1
          have y2 : we.cell? ⟨b8, 0, none⟩ = some (.int .i64 S) := h9c.cell 0
          have y3 : we.cell? ⟨b8, 1, none⟩ = some (.int .i64 G) := h9c.cell 1
          have hq : ∀ w : World, (binOp .eql 47 (.agg #[.int .i64 S, .int .i64 G]) (.agg #[.int .i64 S, .int .i64 G])).run Tryd.prog w = .ok (.bool true) w := fun w => (eql_hand S G S G w).trans (by simp)
          have hg := eqg_hand
          clear h9 h9a h9b h9c x80 x81 x2 x2a
          go_wp2
          go_ret
          exact ⟨by simp, Lib.hid ⟨P1, K', L', _, gl ++ [(S, G)], _, H9.out.same rfl rfl rfl rfl, H6.out.1, H8.out.1, HCN.out, by simp⟩⟩


set_option maxHeartbeats 4000000 in
theorem asks_2 (W w : World) (p g q y b m K L : Nat) (gv pv : Value) (P : Plr) (gl : List (Int × Int)) (Kb : List Nat) (c k : Int) (r s e : Bool) (h : St8 W w p g q y b P m K L gv gl Kb) (hgl : gl.length ≤ 1000) :
    Calls Tryd.prog 13 #[.pointer (some ⟨b, 0, none⟩), .agg #[.int .i64 2, .int .i64 c, .int .i64 k, .bool r, .bool s, .bool e, pv]] w fun e w' => e = .returned (.bool true) ∧ Hid (Asked W w' p g q y b P m K L gl) := by
  obtain ⟨q0, hq0, hq1⟩ : ∃ q0 : Nat, bits BinOp.and IntKind.i64 k 65535 = (q0 : Int) ∧ q0 ≤ 65535 := and_mask k 65535 (by omega)
  have hqn : q0 % gl.length < gl.length := Nat.mod_lt _ h.pos
  obtain ⟨gb, cg, a1, b1, rfl, hc1, hc2, hgb, hgw, hin, d0, d1⟩ := h.at_ (q0 % gl.length) hqn
  have HI := Lib.hid (h.i64 _ hin)
  have hpos := h.pos
  obtain ⟨n, hn⟩ : ∃ n, n = gl.length := ⟨_, rfl⟩
  rw [← hn] at h hqn hc1 d0 d1 hpos hgl
  have HNN := Lib.hid hn
  have HGL := Lib.hid hgl
  clear hn
  have h1 := h.two.onto (.cells #[.int .i64 2, .int .i64 c, .int .i64 k, .bool r, .bool s, .bool e, pv] 25)
  have ra := Row.new w 25 #[.int .i64 2, .int .i64 c, .int .i64 k, .bool r, .bool s, .bool e, pv]
  have rp := h.row.alloc (.cells #[.int .i64 2, .int .i64 c, .int .i64 k, .bool r, .bool s, .bool e, pv] 25)
  have k0 : KeepP Kb w (w.alloc (.cells #[.int .i64 2, .int .i64 c, .int .i64 k, .bool r, .bool s, .bool e, pv] 25)) := KeepP.quiet ((Mods.refl [] w).alloc _) h.two.kb
  have e0 := cell_alloc d0 (.cells #[.int .i64 2, .int .i64 c, .int .i64 k, .bool r, .bool s, .bool e, pv] 25)
  have e1 := cell_alloc d1 (.cells #[.int .i64 2, .int .i64 c, .int .i64 k, .bool r, .bool s, .bool e, pv] 25)
  obtain ⟨w0, hw0⟩ : ∃ w0, w0 = w.alloc (.cells #[.int .i64 2, .int .i64 c, .int .i64 k, .bool r, .bool s, .bool e, pv] 25) := ⟨_, rfl⟩
  obtain ⟨bx, hbx⟩ : ∃ bx, bx = w.heap.size := ⟨_, rfl⟩
  rw [← hw0, ← hbx] at h1 ra
  rw [← hw0] at rp k0 e0 e1
  have H1 := Lib.hid h1
  have RA := Lib.hid ra
  have K0 := Lib.hid k0
  have ST := Lib.hid h
  have a0 : w0.cell? ⟨b, 2, none⟩ = some (.slice (some ⟨gb, 0, none⟩) n cg) := rp.cell 2
  have a2 : w0.cell? ⟨bx, 2, none⟩ = some (.int .i64 k) := ra.cell 2
  have s0 : w0.cell? ⟨bx, 0, none⟩ = some (.int .i64 2) := ra.cell 0
  obtain ⟨qi, hqi⟩ : ∃ qi, qi = q0 % n := ⟨_, rfl⟩
  rw [← hqi] at e0 e1 hqn
  have hrem : (q0 : Int) % (n : Int) = (qi : Int) := by omega
  have hrem2 : (q0 : Int).tmod (n : Int) = (qi : Int) := by rw [Int.tmod_eq_emod_of_nonneg (by omega)]; exact hrem
  have g0 : (0 : Int) ≤ (qi : Int) := by omega
  have g1 : (qi : Int) < (n : Int) := by omega
  have hz : ¬ n = 0 := by omega
  unfold maxLen at hc2
  clear h h1 ra rp k0 d0 d1 hgb hgw hin hqi
  go_enter Tryd.func13, Tryd.ntmps13
  go_upto_region 1 with fail
  rw [← hw0, ← hbx]
  clear hw0 hbx
  go_cut [5] (fun v wx => ∃ bh, v = .pointer (some ⟨bh, 0, none⟩) ∧ Hid (Pre8 W w wx p g q y b bx bh P m K L (.slice (some ⟨gb, 0, none⟩) n cg) Kb #[.int .i64 2, .int .i64 c, .int .i64 k, .bool r, .bool s, .bool e, pv] a1 b1))
  case first =>
    go_region_held3 (fun w' => w'.cell? ⟨b, 2, none⟩ = some (.slice (some ⟨gb, 0, none⟩) n cg) ∧ w'.cell? ⟨bx, 2, none⟩ = some (.int .i64 k) ∧ w'.cell? ⟨gb, qi * 2, none⟩ = some (.int .i64 a1) ∧ w'.cell? ⟨gb, qi * 2 + 1, none⟩ = some (.int .i64 b1)) (go_keep) (fail)
    all_goals
      go_wp2
      go_meet
      case rel => exact ⟨_, rfl, Lib.hid (Pre8.born ST.out H1.out K0.out RA.out rfl rfl rfl rfl)⟩
  case rest =>
    obtain ⟨bh, rfl, hpre⟩ := hcut
    obtain ⟨wa, rfl⟩ : ∃ wa : World, wa = wc := ⟨_, rfl⟩
    clear a0 a2 s0 e0 e1 g0 g1 hrem hrem2 hq0 hq1 hz hqn hc1 hc2 hpos hgl H1 RA K0
    have HP := Lib.hid hpre.out
    clear hpre
    have c0 : wa.cell? ⟨b, 0, none⟩ = some (.pointer (some ⟨p, 0, none⟩)) := HP.out.pair.cell 0
    have c1 : wa.cell? ⟨b, 1, none⟩ = some (.pointer (some ⟨q, 0, none⟩)) := HP.out.pair.cell 1
    have s0 : wa.cell? ⟨bx, 0, none⟩ = some (.int .i64 2) := HP.out.act.cell 0
    have s1 : wa.cell? ⟨bx, 1, none⟩ = some (.int .i64 c) := HP.out.act.cell 1
    have s3 : wa.cell? ⟨bx, 3, none⟩ = some (.bool r) := HP.out.act.cell 3
    have s4 : wa.cell? ⟨bx, 4, none⟩ = some (.bool s) := HP.out.act.cell 4
    have s5 : wa.cell? ⟨bx, 5, none⟩ = some (.bool e) := HP.out.act.cell 5
    have s6 : wa.cell? ⟨bx, 6, none⟩ = some pv := HP.out.act.cell 6
    have h0 : wa.cell? ⟨bh, 0, none⟩ = some (.int .i64 a1) := HP.out.hnd.cell 0
    have h1 : wa.cell? ⟨bh, 1, none⟩ = some (.int .i64 b1) := HP.out.hnd.cell 1
    have HB := Lib.hid (show b ∈ Kb ++ [bx, bh] from List.mem_append_left _ ST.out.inb.1)
    go_upto_region 9 with fail
    go_region_held3 (fun w' => w'.cell? ⟨b, 0, none⟩ = some (.pointer (some ⟨p, 0, none⟩)) ∧ w'.cell? ⟨b, 1, none⟩ = some (.pointer (some ⟨q, 0, none⟩)) ∧ w'.cell? ⟨bx, 3, none⟩ = some (.bool r) ∧ w'.cell? ⟨bx, 4, none⟩ = some (.bool s) ∧ w'.cell? ⟨bh, 0, none⟩ = some (.int .i64 a1) ∧ w'.cell? ⟨bh, 1, none⟩ = some (.int .i64 b1)) (go_keep)
      (first
        | (go_at_call 24; refine Calls.mono (changeP W _ p g q y m K m L P P (Kb ++ [bx, bh]) ?_ a1 b1 r s HI.out.1) ?_; exact HP.out.two.same rfl rfl rfl rfl; rintro e w2 ⟨rfl, hd⟩; have H2 := Lib.hid hd.out.1; have K2 := Lib.hid (show KeepP (Kb ++ [bx, bh]) wa w2 from hd.out.2); have RP2 := Lib.hid (HP.out.pair.keepP K2.out HB.out); have RA2 := Lib.hid (HP.out.act.keepP K2.out (by simp)); have RH2 := Lib.hid (HP.out.hnd.keepP K2.out (by simp)); have y2c0 : w2.cell? ⟨b, 0, none⟩ = some (.pointer (some ⟨p, 0, none⟩)) := RP2.out.cell 0; have y2c1 : w2.cell? ⟨b, 1, none⟩ = some (.pointer (some ⟨q, 0, none⟩)) := RP2.out.cell 1; have y2s3 : w2.cell? ⟨bx, 3, none⟩ = some (.bool r) := RA2.out.cell 3; have y2s4 : w2.cell? ⟨bx, 4, none⟩ = some (.bool s) := RA2.out.cell 4; have y2h0 : w2.cell? ⟨bh, 0, none⟩ = some (.int .i64 a1) := RH2.out.cell 0; have y2h1 : w2.cell? ⟨bh, 1, none⟩ = some (.int .i64 b1) := RH2.out.cell 1; clear hd)
        | (go_at_call 30; refine Calls.mono (rchangeP W _ p g q y m K m L (P.change a1 b1 r s) P (Kb ++ [bx, bh]) ?_ a1 b1 r s HI.out.1) ?_; exact H2.out.same rfl rfl rfl rfl; rintro e w3 ⟨rfl, hd⟩; have H3 := Lib.hid hd.out.1; have K3 := Lib.hid (show KeepP (Kb ++ [bx, bh]) w2 w3 from hd.out.2); have RP3 := Lib.hid (RP2.out.keepP K3.out HB.out); have RA3 := Lib.hid (RA2.out.keepP K3.out (by simp)); have RH3 := Lib.hid (RH2.out.keepP K3.out (by simp)); have y3c0 : w3.cell? ⟨b, 0, none⟩ = some (.pointer (some ⟨p, 0, none⟩)) := RP3.out.cell 0; have y3c1 : w3.cell? ⟨b, 1, none⟩ = some (.pointer (some ⟨q, 0, none⟩)) := RP3.out.cell 1; have y3s3 : w3.cell? ⟨bx, 3, none⟩ = some (.bool r) := RA3.out.cell 3; have y3s4 : w3.cell? ⟨bx, 4, none⟩ = some (.bool s) := RA3.out.cell 4; have y3h0 : w3.cell? ⟨bh, 0, none⟩ = some (.int .i64 a1) := RH3.out.cell 0; have y3h1 : w3.cell? ⟨bh, 1, none⟩ = some (.int .i64 b1) := RH3.out.cell 1; clear hd))
    all_goals
      go_wp2
      go_ret
      exact ⟨by simp, Lib.hid (Asked.of (HNN.out ▸ ST.out) (l := [bx, bh]) H3.out ((HP.out.keep.trans (K2.out.sub fun k hk => List.mem_append_left _ hk)).trans (K3.out.sub fun k hk => List.mem_append_left _ hk)) ((Mods.refl [] w3).same rfl rfl rfl rfl) (by omega) (by omega) (by rw [change_cnt]; omega))⟩


set_option maxHeartbeats 4000000 in
theorem asks_3 (W w : World) (p g q y b m K L : Nat) (gv pv : Value) (P : Plr) (gl : List (Int × Int)) (Kb : List Nat) (c k : Int) (r s e : Bool) (h : St8 W w p g q y b P m K L gv gl Kb) (hgl : gl.length ≤ 1000) :
    Calls Tryd.prog 13 #[.pointer (some ⟨b, 0, none⟩), .agg #[.int .i64 3, .int .i64 c, .int .i64 k, .bool r, .bool s, .bool e, pv]] w fun e w' => e = .returned (.bool true) ∧ Hid (Asked W w' p g q y b P m K L gl) := by
  obtain ⟨q0, hq0, hq1⟩ : ∃ q0 : Nat, bits BinOp.and IntKind.i64 k 65535 = (q0 : Int) ∧ q0 ≤ 65535 := and_mask k 65535 (by omega)
  have hqn : q0 % gl.length < gl.length := Nat.mod_lt _ h.pos
  obtain ⟨gb, cg, a1, b1, rfl, hc1, hc2, hgb, hgw, hin, d0, d1⟩ := h.at_ (q0 % gl.length) hqn
  have HI := Lib.hid (h.i64 _ hin)
  have hpos := h.pos
  obtain ⟨n, hn⟩ : ∃ n, n = gl.length := ⟨_, rfl⟩
  rw [← hn] at h hqn hc1 d0 d1 hpos hgl
  have HNN := Lib.hid hn
  have HGL := Lib.hid hgl
  clear hn
  have h1 := h.two.onto (.cells #[.int .i64 3, .int .i64 c, .int .i64 k, .bool r, .bool s, .bool e, pv] 25)
  have ra := Row.new w 25 #[.int .i64 3, .int .i64 c, .int .i64 k, .bool r, .bool s, .bool e, pv]
  have rp := h.row.alloc (.cells #[.int .i64 3, .int .i64 c, .int .i64 k, .bool r, .bool s, .bool e, pv] 25)
  have k0 : KeepP Kb w (w.alloc (.cells #[.int .i64 3, .int .i64 c, .int .i64 k, .bool r, .bool s, .bool e, pv] 25)) := KeepP.quiet ((Mods.refl [] w).alloc _) h.two.kb
  have e0 := cell_alloc d0 (.cells #[.int .i64 3, .int .i64 c, .int .i64 k, .bool r, .bool s, .bool e, pv] 25)
  have e1 := cell_alloc d1 (.cells #[.int .i64 3, .int .i64 c, .int .i64 k, .bool r, .bool s, .bool e, pv] 25)
  obtain ⟨w0, hw0⟩ : ∃ w0, w0 = w.alloc (.cells #[.int .i64 3, .int .i64 c, .int .i64 k, .bool r, .bool s, .bool e, pv] 25) := ⟨_, rfl⟩
  obtain ⟨bx, hbx⟩ : ∃ bx, bx = w.heap.size := ⟨_, rfl⟩
  rw [← hw0, ← hbx] at h1 ra
  rw [← hw0] at rp k0 e0 e1
  have H1 := Lib.hid h1
  have RA := Lib.hid ra
  have K0 := Lib.hid k0
  have ST := Lib.hid h
  have a0 : w0.cell? ⟨b, 2, none⟩ = some (.slice (some ⟨gb, 0, none⟩) n cg) := rp.cell 2
  have a2 : w0.cell? ⟨bx, 2, none⟩ = some (.int .i64 k) := ra.cell 2
  have s0 : w0.cell? ⟨bx, 0, none⟩ = some (.int .i64 3) := ra.cell 0
  obtain ⟨qi, hqi⟩ : ∃ qi, qi = q0 % n := ⟨_, rfl⟩
  rw [← hqi] at e0 e1 hqn
  have hrem : (q0 : Int) % (n : Int) = (qi : Int) := by omega
  have hrem2 : (q0 : Int).tmod (n : Int) = (qi : Int) := by rw [Int.tmod_eq_emod_of_nonneg (by omega)]; exact hrem
  have g0 : (0 : Int) ≤ (qi : Int) := by omega
  have g1 : (qi : Int) < (n : Int) := by omega
  have hz : ¬ n = 0 := by omega
  unfold maxLen at hc2
  clear h h1 ra rp k0 d0 d1 hgb hgw hin hqi
  go_enter Tryd.func13, Tryd.ntmps13
  go_upto_region 1 with fail
  rw [← hw0, ← hbx]
  clear hw0 hbx
  go_cut [5] (fun v wx => ∃ bh, v = .pointer (some ⟨bh, 0, none⟩) ∧ Hid (Pre8 W w wx p g q y b bx bh P m K L (.slice (some ⟨gb, 0, none⟩) n cg) Kb #[.int .i64 3, .int .i64 c, .int .i64 k, .bool r, .bool s, .bool e, pv] a1 b1))
  case first =>
    go_region_held3 (fun w' => w'.cell? ⟨b, 2, none⟩ = some (.slice (some ⟨gb, 0, none⟩) n cg) ∧ w'.cell? ⟨bx, 2, none⟩ = some (.int .i64 k) ∧ w'.cell? ⟨gb, qi * 2, none⟩ = some (.int .i64 a1) ∧ w'.cell? ⟨gb, qi * 2 + 1, none⟩ = some (.int .i64 b1)) (go_keep) (fail)
    all_goals
      go_wp2
      go_meet
      case rel => exact ⟨_, rfl, Lib.hid (Pre8.born ST.out H1.out K0.out RA.out rfl rfl rfl rfl)⟩
  case rest =>
    obtain ⟨bh, rfl, hpre⟩ := hcut
    obtain ⟨wa, rfl⟩ : ∃ wa : World, wa = wc := ⟨_, rfl⟩
    clear a0 a2 s0 e0 e1 g0 g1 hrem hrem2 hq0 hq1 hz hqn hc1 hc2 hpos hgl H1 RA K0
    have HP := Lib.hid hpre.out
    clear hpre
    have c0 : wa.cell? ⟨b, 0, none⟩ = some (.pointer (some ⟨p, 0, none⟩)) := HP.out.pair.cell 0
    have c1 : wa.cell? ⟨b, 1, none⟩ = some (.pointer (some ⟨q, 0, none⟩)) := HP.out.pair.cell 1
    have s0 : wa.cell? ⟨bx, 0, none⟩ = some (.int .i64 3) := HP.out.act.cell 0
    have s1 : wa.cell? ⟨bx, 1, none⟩ = some (.int .i64 c) := HP.out.act.cell 1
    have s3 : wa.cell? ⟨bx, 3, none⟩ = some (.bool r) := HP.out.act.cell 3
    have s4 : wa.cell? ⟨bx, 4, none⟩ = some (.bool s) := HP.out.act.cell 4
    have s5 : wa.cell? ⟨bx, 5, none⟩ = some (.bool e) := HP.out.act.cell 5
    have s6 : wa.cell? ⟨bx, 6, none⟩ = some pv := HP.out.act.cell 6
    have h0 : wa.cell? ⟨bh, 0, none⟩ = some (.int .i64 a1) := HP.out.hnd.cell 0
    have h1 : wa.cell? ⟨bh, 1, none⟩ = some (.int .i64 b1) := HP.out.hnd.cell 1
    have HB := Lib.hid (show b ∈ Kb ++ [bx, bh] from List.mem_append_left _ ST.out.inb.1)
    obtain ⟨N, hN⟩ : ∃ N, P.sl.taken [(a1, b1), (a1, b1)] = N := ⟨_, rfl⟩
    obtain ⟨P', hP'⟩ : ∃ P', P.drop [(a1, b1), (a1, b1)] = P' := ⟨_, rfl⟩
    have C1 := Lib.hid (show ∀ (w1 : World) (Kc : List Nat) (d : Nat), PTwo W w1 p g q y P P m K m L Kc → d ∈ Kc → Row w1 d 47 #[.int .i64 a1, .int .i64 b1, .int .i64 a1, .int .i64 b1] → Calls Tryd.prog 25 #[.pointer (some ⟨p, 0, none⟩), .slice (some ⟨d, 0, none⟩) 2 2] w1 fun e w' => e = .returned (.int .i64 (N : Int)) ∧ Hid (PTwo W w' p g q y P' P m K m L Kc ∧ KeepP Kc w1 w') from fun w1 Kc d h2 hd hr => by
      have := dropP W w1 p g q y m K m L P P Kc h2 [(a1, b1), (a1, b1)] d 2 2 (by simp) rfl (Pairs.row2 hr HI.out.1 HI.out.2) hd
      rw [hN, hP'] at this
      exact this)
    have C2 := Lib.hid (show ∀ (w1 : World) (Kc : List Nat) (d : Nat), PTwo W w1 p g q y P' P m K m L Kc → d ∈ Kc → Row w1 d 47 #[.int .i64 a1, .int .i64 b1, .int .i64 a1, .int .i64 b1] → Calls Tryd.prog 31 #[.pointer (some ⟨q, 0, none⟩), .slice (some ⟨d, 0, none⟩) 2 2] w1 fun e w' => e = .returned (.int .i64 (N : Int)) ∧ Hid (PTwo W w' p g q y P' P' m K m L Kc ∧ KeepP Kc w1 w') from fun w1 Kc d h2 hd hr => by
      have := rdropP W w1 p g q y m K m L P' P Kc h2 [(a1, b1), (a1, b1)] d 2 2 (by simp) rfl (Pairs.row2 hr HI.out.1 HI.out.2) hd
      rw [hN, hP'] at this
      exact this)
    have HC := Lib.hid (show P'.sl.cnt ≤ P.sl.cnt from by rw [← hP']; exact takes_cnt P.sl _)
    clear hN hP'
    go_upto_region 11 with fail
    go_region_held3 (fun w' => w'.cell? ⟨b, 0, none⟩ = some (.pointer (some ⟨p, 0, none⟩)) ∧ w'.cell? ⟨b, 1, none⟩ = some (.pointer (some ⟨q, 0, none⟩)) ∧ w'.cell? ⟨bh, 0, none⟩ = some (.int .i64 a1) ∧ w'.cell? ⟨bh, 1, none⟩ = some (.int .i64 b1)) (go_keep)
      (first
        | (go_at_call 25; (with_reducible show Calls _ _ #[_, .slice (some ⟨wa.heap.size, 0, none⟩) 2 2] (World.drew (World.alloc wa _)) _); refine Calls.mono (C1.out _ (Kb ++ [bx, bh] ++ [wa.heap.size]) (wa.heap.size) ?_ (by simp) ?_) ?_; exact (HP.out.two.onto _).same rfl rfl rfl rfl; exact (Row.new wa _ _).same rfl; rintro e w2 ⟨rfl, hd⟩; have H2 := Lib.hid (hd.out.1.less (Kc := Kb ++ [bx, bh]) fun k hk => by simp at hk ⊢; rcases hk with h | h | h <;> simp [h]); have K2 := Lib.hid (show KeepP (Kb ++ [bx, bh]) wa w2 from KeepP.onto hd.out.2 HP.out.two.kb); have RP2 := Lib.hid (HP.out.pair.keepP K2.out HB.out); have RA2 := Lib.hid (HP.out.act.keepP K2.out (by simp)); have RH2 := Lib.hid (HP.out.hnd.keepP K2.out (by simp)); have y2c0 : w2.cell? ⟨b, 0, none⟩ = some (.pointer (some ⟨p, 0, none⟩)) := RP2.out.cell 0; have y2c1 : w2.cell? ⟨b, 1, none⟩ = some (.pointer (some ⟨q, 0, none⟩)) := RP2.out.cell 1; have y2h0 : w2.cell? ⟨bh, 0, none⟩ = some (.int .i64 a1) := RH2.out.cell 0; have y2h1 : w2.cell? ⟨bh, 1, none⟩ = some (.int .i64 b1) := RH2.out.cell 1; clear hd)
        | (go_at_call 25; (with_reducible show Calls _ _ #[_, .slice (some ⟨wa.heap.size, 0, none⟩) 2 2] (World.drew (World.alloc (World.alloc wa _) _)) _); refine Calls.mono (C1.out _ (Kb ++ [bx, bh] ++ [wa.heap.size] ++ [wa.heap.size + 1]) (wa.heap.size) ?_ (by simp) ?_) ?_; exact (HP.out.two.onto2 _ _).same rfl rfl rfl rfl; exact ((Row.new wa _ _).alloc _).same rfl; rintro e w2 ⟨rfl, hd⟩; have H2 := Lib.hid (hd.out.1.less (Kc := Kb ++ [bx, bh]) fun k hk => by simp at hk ⊢; rcases hk with h | h | h <;> simp [h]); have K2 := Lib.hid (show KeepP (Kb ++ [bx, bh]) wa w2 from KeepP.onto2 hd.out.2 HP.out.two.kb); have RP2 := Lib.hid (HP.out.pair.keepP K2.out HB.out); have RA2 := Lib.hid (HP.out.act.keepP K2.out (by simp)); have RH2 := Lib.hid (HP.out.hnd.keepP K2.out (by simp)); have y2c0 : w2.cell? ⟨b, 0, none⟩ = some (.pointer (some ⟨p, 0, none⟩)) := RP2.out.cell 0; have y2c1 : w2.cell? ⟨b, 1, none⟩ = some (.pointer (some ⟨q, 0, none⟩)) := RP2.out.cell 1; have y2h0 : w2.cell? ⟨bh, 0, none⟩ = some (.int .i64 a1) := RH2.out.cell 0; have y2h1 : w2.cell? ⟨bh, 1, none⟩ = some (.int .i64 b1) := RH2.out.cell 1; have H2U := Lib.hid hd.out.1; have RU := Lib.hid (And.intro (Row.keepP (w := ((wa.alloc (.cells #[.int .i64 a1, .int .i64 b1, .int .i64 a1, .int .i64 b1] 47)).alloc (.cells #[.int .i64 a1, .int .i64 b1, .int .i64 a1, .int .i64 b1] 47)).drew) (((Row.new wa _ _).alloc _).same rfl) hd.out.2 (by simp)) (Row.keepP (w := ((wa.alloc (.cells #[.int .i64 a1, .int .i64 b1, .int .i64 a1, .int .i64 b1] 47)).alloc (.cells #[.int .i64 a1, .int .i64 b1, .int .i64 a1, .int .i64 b1] 47)).drew) ((Row.new2 wa _ _ _).same rfl) hd.out.2 (by simp))); clear hd)
        | (go_at_call 25; (with_reducible show Calls _ _ #[_, .slice (some ⟨wa.heap.size + 1, 0, none⟩) 2 2] (World.drew (World.alloc (World.alloc wa _) _)) _); refine Calls.mono (C1.out _ (Kb ++ [bx, bh] ++ [wa.heap.size] ++ [wa.heap.size + 1]) (wa.heap.size + 1) ?_ (by simp) ?_) ?_; exact (HP.out.two.onto2 _ _).same rfl rfl rfl rfl; exact (Row.new2 wa _ _ _).same rfl; rintro e w2 ⟨rfl, hd⟩; have H2 := Lib.hid (hd.out.1.less (Kc := Kb ++ [bx, bh]) fun k hk => by simp at hk ⊢; rcases hk with h | h | h <;> simp [h]); have K2 := Lib.hid (show KeepP (Kb ++ [bx, bh]) wa w2 from KeepP.onto2 hd.out.2 HP.out.two.kb); have RP2 := Lib.hid (HP.out.pair.keepP K2.out HB.out); have RA2 := Lib.hid (HP.out.act.keepP K2.out (by simp)); have RH2 := Lib.hid (HP.out.hnd.keepP K2.out (by simp)); have y2c0 : w2.cell? ⟨b, 0, none⟩ = some (.pointer (some ⟨p, 0, none⟩)) := RP2.out.cell 0; have y2c1 : w2.cell? ⟨b, 1, none⟩ = some (.pointer (some ⟨q, 0, none⟩)) := RP2.out.cell 1; have y2h0 : w2.cell? ⟨bh, 0, none⟩ = some (.int .i64 a1) := RH2.out.cell 0; have y2h1 : w2.cell? ⟨bh, 1, none⟩ = some (.int .i64 b1) := RH2.out.cell 1; have H2U := Lib.hid hd.out.1; have RU := Lib.hid (And.intro (Row.keepP (w := ((wa.alloc (.cells #[.int .i64 a1, .int .i64 b1, .int .i64 a1, .int .i64 b1] 47)).alloc (.cells #[.int .i64 a1, .int .i64 b1, .int .i64 a1, .int .i64 b1] 47)).drew) (((Row.new wa _ _).alloc _).same rfl) hd.out.2 (by simp)) (Row.keepP (w := ((wa.alloc (.cells #[.int .i64 a1, .int .i64 b1, .int .i64 a1, .int .i64 b1] 47)).alloc (.cells #[.int .i64 a1, .int .i64 b1, .int .i64 a1, .int .i64 b1] 47)).drew) ((Row.new2 wa _ _ _).same rfl) hd.out.2 (by simp))); clear hd)
        | (go_at_call 31; have hx := RU; clear hx; (with_reducible show Calls _ _ #[_, .slice (some ⟨wa.heap.size + 1, 0, none⟩) 2 2] _ _); refine Calls.mono (C2.out _ (Kb ++ [bx, bh] ++ [wa.heap.size] ++ [wa.heap.size + 1]) (wa.heap.size + 1) ?_ (by simp) ?_) ?_; exact H2U.out.same rfl rfl rfl rfl; exact RU.out.2.same rfl; rintro e w3 ⟨rfl, hd⟩; have H3 := Lib.hid (hd.out.1.less (Kc := Kb ++ [bx, bh]) fun k hk => by simp at hk ⊢; rcases hk with h | h | h <;> simp [h]); have K3 := Lib.hid (show KeepP (Kb ++ [bx, bh]) w2 w3 from fun k hk => hd.out.2 k (List.mem_append_left _ (List.mem_append_left _ hk))); have RP3 := Lib.hid (RP2.out.keepP K3.out HB.out); have RA3 := Lib.hid (RA2.out.keepP K3.out (by simp)); have RH3 := Lib.hid (RH2.out.keepP K3.out (by simp)); have y3c0 : w3.cell? ⟨b, 0, none⟩ = some (.pointer (some ⟨p, 0, none⟩)) := RP3.out.cell 0; have y3c1 : w3.cell? ⟨b, 1, none⟩ = some (.pointer (some ⟨q, 0, none⟩)) := RP3.out.cell 1; have y3h0 : w3.cell? ⟨bh, 0, none⟩ = some (.int .i64 a1) := RH3.out.cell 0; have y3h1 : w3.cell? ⟨bh, 1, none⟩ = some (.int .i64 b1) := RH3.out.cell 1; clear hd)
        | (go_at_call 31; have hx := RU; clear hx; (with_reducible show Calls _ _ #[_, .slice (some ⟨wa.heap.size, 0, none⟩) 2 2] _ _); refine Calls.mono (C2.out _ (Kb ++ [bx, bh] ++ [wa.heap.size] ++ [wa.heap.size + 1]) (wa.heap.size) ?_ (by simp) ?_) ?_; exact H2U.out.same rfl rfl rfl rfl; exact RU.out.1.same rfl; rintro e w3 ⟨rfl, hd⟩; have H3 := Lib.hid (hd.out.1.less (Kc := Kb ++ [bx, bh]) fun k hk => by simp at hk ⊢; rcases hk with h | h | h <;> simp [h]); have K3 := Lib.hid (show KeepP (Kb ++ [bx, bh]) w2 w3 from fun k hk => hd.out.2 k (List.mem_append_left _ (List.mem_append_left _ hk))); have RP3 := Lib.hid (RP2.out.keepP K3.out HB.out); have RA3 := Lib.hid (RA2.out.keepP K3.out (by simp)); have RH3 := Lib.hid (RH2.out.keepP K3.out (by simp)); have y3c0 : w3.cell? ⟨b, 0, none⟩ = some (.pointer (some ⟨p, 0, none⟩)) := RP3.out.cell 0; have y3c1 : w3.cell? ⟨b, 1, none⟩ = some (.pointer (some ⟨q, 0, none⟩)) := RP3.out.cell 1; have y3h0 : w3.cell? ⟨bh, 0, none⟩ = some (.int .i64 a1) := RH3.out.cell 0; have y3h1 : w3.cell? ⟨bh, 1, none⟩ = some (.int .i64 b1) := RH3.out.cell 1; clear hd)
        | (go_at_call 31; refine Calls.mono (C2.out _ (Kb ++ [bx, bh] ++ [w2.heap.size]) w2.heap.size ?_ (by simp) ?_) ?_; exact (H2.out.onto _).same rfl rfl rfl rfl; exact (Row.new w2 _ _).same rfl; rintro e w3 ⟨rfl, hd⟩; have H3 := Lib.hid (hd.out.1.less (Kc := Kb ++ [bx, bh]) fun k hk => List.mem_append_left _ hk); have K3 := Lib.hid (show KeepP (Kb ++ [bx, bh]) w2 w3 from KeepP.onto hd.out.2 H2.out.kb); have RP3 := Lib.hid (RP2.out.keepP K3.out HB.out); have RA3 := Lib.hid (RA2.out.keepP K3.out (by simp)); have RH3 := Lib.hid (RH2.out.keepP K3.out (by simp)); have y3c0 : w3.cell? ⟨b, 0, none⟩ = some (.pointer (some ⟨p, 0, none⟩)) := RP3.out.cell 0; have y3c1 : w3.cell? ⟨b, 1, none⟩ = some (.pointer (some ⟨q, 0, none⟩)) := RP3.out.cell 1; have y3h0 : w3.cell? ⟨bh, 0, none⟩ = some (.int .i64 a1) := RH3.out.cell 0; have y3h1 : w3.cell? ⟨bh, 1, none⟩ = some (.int .i64 b1) := RH3.out.cell 1; clear hd))
    all_goals
      go_wp2
      go_ret
      exact ⟨by simp, Lib.hid (Asked.of (HNN.out ▸ ST.out) (l := [bx, bh]) H3.out ((HP.out.keep.trans (K2.out.sub fun k hk => List.mem_append_left _ hk)).trans (K3.out.sub fun k hk => List.mem_append_left _ hk)) ((Mods.refl [] w3).same rfl rfl rfl rfl) (by omega) (by omega) (by have := HC.out; omega))⟩


set_option maxHeartbeats 4000000 in
theorem asks_4 (W w : World) (p g q y b m K L : Nat) (gv pv : Value) (P : Plr) (gl : List (Int × Int)) (Kb : List Nat) (pA : Option Addr) (np pc : Nat) (pl : List Int) (c k : Int) (r s e : Bool) (h : St8 W w p g q y b P m K L gv gl Kb) (hgl : gl.length ≤ 1000) (HV : Hid (pv = .slice pA np pc ∧ np = pl.length ∧ Picks W ⟨pA, pl, pc⟩ ∧ pl.length ≤ 1000)) :
    Calls Tryd.prog 13 #[.pointer (some ⟨b, 0, none⟩), .agg #[.int .i64 4, .int .i64 c, .int .i64 k, .bool r, .bool s, .bool e, pv]] w fun e w' => e = .returned (.bool true) ∧ Hid (Asked W w' p g q y b P m K L gl) := by
  obtain ⟨q0, hq0, hq1⟩ : ∃ q0 : Nat, bits BinOp.and IntKind.i64 k 65535 = (q0 : Int) ∧ q0 ≤ 65535 := and_mask k 65535 (by omega)
  have hqn : q0 % gl.length < gl.length := Nat.mod_lt _ h.pos
  obtain ⟨gb, cg, a1, b1, rfl, hc1, hc2, hgb, hgw, hin, d0, d1⟩ := h.at_ (q0 % gl.length) hqn
  have HI := Lib.hid (h.i64 _ hin)
  have hpos := h.pos
  obtain ⟨n, hn⟩ : ∃ n, n = gl.length := ⟨_, rfl⟩
  rw [← hn] at h hqn hc1 d0 d1 hpos hgl
  have HNN := Lib.hid hn
  have HGL := Lib.hid hgl
  clear hn
  have h1 := h.two.onto (.cells #[.int .i64 4, .int .i64 c, .int .i64 k, .bool r, .bool s, .bool e, pv] 25)
  have ra := Row.new w 25 #[.int .i64 4, .int .i64 c, .int .i64 k, .bool r, .bool s, .bool e, pv]
  have rp := h.row.alloc (.cells #[.int .i64 4, .int .i64 c, .int .i64 k, .bool r, .bool s, .bool e, pv] 25)
  have k0 : KeepP Kb w (w.alloc (.cells #[.int .i64 4, .int .i64 c, .int .i64 k, .bool r, .bool s, .bool e, pv] 25)) := KeepP.quiet ((Mods.refl [] w).alloc _) h.two.kb
  have e0 := cell_alloc d0 (.cells #[.int .i64 4, .int .i64 c, .int .i64 k, .bool r, .bool s, .bool e, pv] 25)
  have e1 := cell_alloc d1 (.cells #[.int .i64 4, .int .i64 c, .int .i64 k, .bool r, .bool s, .bool e, pv] 25)
  obtain ⟨w0, hw0⟩ : ∃ w0, w0 = w.alloc (.cells #[.int .i64 4, .int .i64 c, .int .i64 k, .bool r, .bool s, .bool e, pv] 25) := ⟨_, rfl⟩
  obtain ⟨bx, hbx⟩ : ∃ bx, bx = w.heap.size := ⟨_, rfl⟩
  rw [← hw0, ← hbx] at h1 ra
  rw [← hw0] at rp k0 e0 e1
  have H1 := Lib.hid h1
  have RA := Lib.hid ra
  have K0 := Lib.hid k0
  have ST := Lib.hid h
  have a0 : w0.cell? ⟨b, 2, none⟩ = some (.slice (some ⟨gb, 0, none⟩) n cg) := rp.cell 2
  have a2 : w0.cell? ⟨bx, 2, none⟩ = some (.int .i64 k) := ra.cell 2
  have s0 : w0.cell? ⟨bx, 0, none⟩ = some (.int .i64 4) := ra.cell 0
  obtain ⟨qi, hqi⟩ : ∃ qi, qi = q0 % n := ⟨_, rfl⟩
  rw [← hqi] at e0 e1 hqn
  have hrem : (q0 : Int) % (n : Int) = (qi : Int) := by omega
  have hrem2 : (q0 : Int).tmod (n : Int) = (qi : Int) := by rw [Int.tmod_eq_emod_of_nonneg (by omega)]; exact hrem
  have g0 : (0 : Int) ≤ (qi : Int) := by omega
  have g1 : (qi : Int) < (n : Int) := by omega
  have hz : ¬ n = 0 := by omega
  unfold maxLen at hc2
  clear h h1 ra rp k0 d0 d1 hgb hgw hin hqi
  go_enter Tryd.func13, Tryd.ntmps13
  go_upto_region 1 with fail
  rw [← hw0, ← hbx]
  clear hw0 hbx
  go_cut [5] (fun v wx => ∃ bh, v = .pointer (some ⟨bh, 0, none⟩) ∧ Hid (Pre8 W w wx p g q y b bx bh P m K L (.slice (some ⟨gb, 0, none⟩) n cg) Kb #[.int .i64 4, .int .i64 c, .int .i64 k, .bool r, .bool s, .bool e, pv] a1 b1))
  case first =>
    go_region_held3 (fun w' => w'.cell? ⟨b, 2, none⟩ = some (.slice (some ⟨gb, 0, none⟩) n cg) ∧ w'.cell? ⟨bx, 2, none⟩ = some (.int .i64 k) ∧ w'.cell? ⟨gb, qi * 2, none⟩ = some (.int .i64 a1) ∧ w'.cell? ⟨gb, qi * 2 + 1, none⟩ = some (.int .i64 b1)) (go_keep) (fail)
    all_goals
      go_wp2
      go_meet
      case rel => exact ⟨_, rfl, Lib.hid (Pre8.born ST.out H1.out K0.out RA.out rfl rfl rfl rfl)⟩
  case rest =>
    obtain ⟨bh, rfl, hpre⟩ := hcut
    obtain ⟨wa, rfl⟩ : ∃ wa : World, wa = wc := ⟨_, rfl⟩
    clear a0 a2 s0 e0 e1 g0 g1 hrem hrem2 hq0 hq1 hz hqn hc1 hc2 hpos hgl H1 RA K0
    have HP := Lib.hid hpre.out
    clear hpre
    have c0 : wa.cell? ⟨b, 0, none⟩ = some (.pointer (some ⟨p, 0, none⟩)) := HP.out.pair.cell 0
    have c1 : wa.cell? ⟨b, 1, none⟩ = some (.pointer (some ⟨q, 0, none⟩)) := HP.out.pair.cell 1
    have s0 : wa.cell? ⟨bx, 0, none⟩ = some (.int .i64 4) := HP.out.act.cell 0
    have s1 : wa.cell? ⟨bx, 1, none⟩ = some (.int .i64 c) := HP.out.act.cell 1
    have s3 : wa.cell? ⟨bx, 3, none⟩ = some (.bool r) := HP.out.act.cell 3
    have s4 : wa.cell? ⟨bx, 4, none⟩ = some (.bool s) := HP.out.act.cell 4
    have s5 : wa.cell? ⟨bx, 5, none⟩ = some (.bool e) := HP.out.act.cell 5
    have s6 : wa.cell? ⟨bx, 6, none⟩ = some pv := HP.out.act.cell 6
    have h0 : wa.cell? ⟨bh, 0, none⟩ = some (.int .i64 a1) := HP.out.hnd.cell 0
    have h1 : wa.cell? ⟨bh, 1, none⟩ = some (.int .i64 b1) := HP.out.hnd.cell 1
    have HB := Lib.hid (show b ∈ Kb ++ [bx, bh] from List.mem_append_left _ ST.out.inb.1)
    clear s6
    have s6 : wa.cell? ⟨bx, 6, none⟩ = some (.slice pA np pc) := (HP.out.act.cell 6).trans (by rw [← HV.out.1] <;> rfl)
    have hnp : np ≤ 1000 := by have := HV.out; omega
    have s6a : (wa.alloc (.cells #[] 3)).cell? ⟨bx, 6, none⟩ = some (.slice pA np pc) := cell_alloc s6 _
    obtain ⟨i1, hi1, hy0, hy1, hy2⟩ := info_parts int_info
    have HJ := Lib.hid (And.intro hi1 (And.intro hy0 (And.intro hy1 hy2)))
    clear hi1 hy0 hy1 hy2
    go_upto_region 13 with fail
    go_cut [10] (fun v wx => ∃ A10 c10 l10, v = .slice A10 np c10 ∧ Hid (Pk8 W wa wx p g q y P m K L (Kb ++ [bx, bh]) A10 pl l10))
    case first =>
      by_cases hz : np = 0
      · subst hz
        have hpl : pl = [] := List.eq_nil_of_length_eq_zero HV.out.2.1.symm
        go_wp2_with (at_builtin; refine wpList_append_zero rfl (.tmp 124) (.tmp 126) 23 rfl 3 i1 Tryd.underlying23 HJ.out.1 (some ⟨wa.heap.size, 0, none⟩) 0 0 pA pc rfl rfl (Nat.le_refl 0) ?_)
        go_meet
        case rel =>
          refine ⟨_, _, [], rfl, Lib.hid ?_⟩
          rw [hpl]
          exact Pk8.nil HP.out.two ((Mods.refl [] wa).alloc _)
      · have hl0 : 0 < pl.length := by have := HV.out.2.1; omega
        obtain ⟨pb, po, rfl, -⟩ := HV.out.2.2.1.1 0 pl[0] (List.getElem?_eq_getElem hl0)
        have HS := Lib.hid (show ∀ j u, (iv pl)[j]? = some u → (wa.alloc (.cells #[] 3)).cell? ((⟨pb, po, none⟩ : Addr).add j) = some u from fun j u hu => by
          have e := addr_add pb po j
          simp only [iv, List.getElem?_map] at hu
          obtain ⟨z, hz, rfl⟩ := Option.map_eq_some_iff.1 hu
          obtain ⟨b', o', e', _, _, hc⟩ := (HV.out.2.2.1.1.far HP.out.two.mods [] (by simp)) j z hz
          injection e' with e'
          injection e' with e1 e2
          subst e1 e2
          rw [e]
          exact cell_alloc hc _)
        have HO := Lib.hid (show (wa.alloc (.cells #[] 3)).ownsRow 0 3 1 (.slice (some ⟨wa.heap.size, 0, none⟩) 0 0) 0 [] from by
          have := World.ownsRow_lit (base := 0) (e := 3) (size := 1) wa #[] 0 (Nat.zero_le _) (by unfold maxLen; omega) rfl
          simpa using this)
        have HL := Lib.hid (show (iv pl).length = np * 1 by rw [HV.out.2.1]; simp [iv])
        have H1 := Lib.hid (show ∀ u ∈ iv pl, u.oneCell' = true from fun u hu => by
          obtain ⟨z, _, rfl⟩ := List.mem_map.1 hu
          rfl)
        go_wp2_with (at_builtin; refine wpList_append_n rfl (.tmp 124) (.tmp 126) 23 rfl 3 i1 _ 1 8 Tryd.underlying23 HJ.out.1 HJ.out.2.1 HJ.out.2.2.1 HJ.out.2.2.2 rfl (by omega) (.slice (some ⟨wa.heap.size, 0, none⟩) 0 0) 0 [] rfl HO.out ⟨pb, po, none⟩ np pc (iv pl) rfl HL.out HS.out H1.out (by unfold maxLen; omega) (by omega) ?_; intro v5 w5 HO5 HM5; have HR7 := Lib.hid (rord9 HM5.out); obtain ⟨A6, c6, rfl, -, -⟩ := own_slice HO5.out; have HO6 := Lib.hid (show w5.ownsRow 0 3 1 (.slice A6 np c6) np (iv pl) from by simpa using HO5.out))
        go_meet
        case rel =>
          refine ⟨A6, c6, _, by simp, Lib.hid (Pk8.of HP.out.two HR7.out.1 HO6.out (by simpa [Value.ownBlock] using HR7.out.2) HV.out.2.1 hl0)⟩
    case rest =>
      obtain ⟨A10, c10, l10, rfl, hpk⟩ := hcut
      obtain ⟨wb, rfl⟩ : ∃ wb : World, wb = wc := ⟨_, rfl⟩
      have HK := Lib.hid hpk.out
      have RP1 := Lib.hid (HP.out.pair.keepP HK.out.keep HB.out); have RA1 := Lib.hid (HP.out.act.keepP HK.out.keep (by simp)); have RH1 := Lib.hid (HP.out.hnd.keepP HK.out.keep (by simp))
      clear hpk c0 c1 s0 s1 s3 s4 s5 s6 s6a h0 h1
      have y1c0 : wb.cell? ⟨b, 0, none⟩ = some (.pointer (some ⟨p, 0, none⟩)) := RP1.out.cell 0
      have y1c1 : wb.cell? ⟨b, 1, none⟩ = some (.pointer (some ⟨q, 0, none⟩)) := RP1.out.cell 1
      have y1s6 : wb.cell? ⟨bx, 6, none⟩ = some (.slice pA np pc) := (RA1.out.cell 6).trans (by rw [← HV.out.1] <;> rfl)
      obtain ⟨l, hl⟩ : ∃ l, ord P.told pl = l := ⟨_, rfl⟩
      have HLL := Lib.hid (show l.length ≤ 100000 by rw [← hl, ord_len]; have := told_len HK.out.two.okP; omega)
      have C1 := Lib.hid (fun (wz : World) (hz : PTwo W wz p g q y P P m K m L (Kb ++ [bx, bh] ++ l10)) (hn : ∀ F : List Nat, (∀ k ∈ F, k ∉ Kb ++ [bx, bh] ++ l10) → NumsAt wz F A10 pl) => waitP W wz p g q y m K m L P P (Kb ++ [bx, bh] ++ l10) hz A10 np c10 pl (fun F hF => hn F fun k hk => (hF k hk).2) HV.out.2.1 (by have := HV.out.2.2.2; omega) l hl)
      have C2 := Lib.hid (fun (wz : World) (Kc : List Nat) (hz : PTwo W wz p g q y P.waited P m K m L Kc) => rwaitP W wz p g q y m K m L P.waited P Kc hz pA np pc pl (fun F hF => HV.out.2.2.1.1.far hz.mods F fun k hk => (hF k hk).1) HV.out.2.1 (by have := HV.out.2.2.2; omega) l hl)
      clear hl
      go_upto_region 14 with fail
      go_region_held3 (fun w' => w'.cell? ⟨b, 0, none⟩ = some (.pointer (some ⟨p, 0, none⟩)) ∧ w'.cell? ⟨b, 1, none⟩ = some (.pointer (some ⟨q, 0, none⟩)) ∧ w'.cell? ⟨bx, 6, none⟩ = some (.slice pA np pc)) (go_keep)
        (first
          | (go_at_call 17; refine Calls.mono (C1.out _ ?_ ?_) ?_; exact HK.out.two.same rfl rfl rfl rfl; exact HK.out.nums; rintro e w2 ⟨B2, k2, x2, rfl, hd⟩; have H2 := Lib.hid hd.out.1; have K2 := Lib.hid (show KeepP (Kb ++ [bx, bh] ++ l10) wb w2 from hd.out.2.1); have E2 := Lib.hid hd.out.2.2.1; have RP2 := Lib.hid (RP1.out.keepP (K2.out.sub fun k hk => List.mem_append_left _ hk) HB.out); have RA2 := Lib.hid (RA1.out.keepP (K2.out.sub fun k hk => List.mem_append_left _ hk) (by simp)); have RH2 := Lib.hid (RH1.out.keepP (K2.out.sub fun k hk => List.mem_append_left _ hk) (by simp)); have y2c0 : w2.cell? ⟨b, 0, none⟩ = some (.pointer (some ⟨p, 0, none⟩)) := RP2.out.cell 0; have y2c1 : w2.cell? ⟨b, 1, none⟩ = some (.pointer (some ⟨q, 0, none⟩)) := RP2.out.cell 1; have y2s6 : w2.cell? ⟨bx, 6, none⟩ = some (.slice pA np pc) := (RA2.out.cell 6).trans (by rw [← HV.out.1] <;> rfl); clear hd)
          | (go_at_call 18; refine Calls.mono (C2.out _ (Kb ++ [bx, bh] ++ l10 ++ (Value.slice B2 k2 x2).ownBlock.toList) ?_) ?_; exact H2.out.same rfl rfl rfl rfl; rintro e w3 ⟨B3, k3, x3, rfl, hd⟩; have H3 := Lib.hid (hd.out.1.less (Kc := Kb ++ [bx, bh]) fun k hk => List.mem_append_left _ (List.mem_append_left _ (List.mem_append_left _ hk))); have K3 := Lib.hid (show KeepP (Kb ++ [bx, bh]) w2 w3 from fun k hk => hd.out.2.1 k (List.mem_append_left _ (List.mem_append_left _ hk))); have E3 := Lib.hid hd.out.2.2.1; have E3a := Lib.hid (E2.out.keepP (Kb := Kb ++ [bx, bh] ++ l10 ++ (Value.slice B2 k2 x2).ownBlock.toList) (w' := w3) hd.out.2.1 fun b hb => List.mem_append_right _ hb); have RP3 := Lib.hid (RP2.out.keepP K3.out HB.out); have RA3 := Lib.hid (RA2.out.keepP K3.out (by simp)); have RH3 := Lib.hid (RH2.out.keepP K3.out (by simp)); have y3c0 : w3.cell? ⟨b, 0, none⟩ = some (.pointer (some ⟨p, 0, none⟩)) := RP3.out.cell 0; have y3c1 : w3.cell? ⟨b, 1, none⟩ = some (.pointer (some ⟨q, 0, none⟩)) := RP3.out.cell 1; have y3s6 : w3.cell? ⟨bx, 6, none⟩ = some (.slice pA np pc) := (RA3.out.cell 6).trans (by rw [← HV.out.1] <;> rfl); clear hd)
          | (go_at_call 16; refine Calls.mono (events_yes _ _ _ l l (E3a.out.mods ((Mods.refl [] w3).same rfl rfl rfl rfl) (by simp)) (E3.out.mods ((Mods.refl [] w3).same rfl rfl rfl rfl) (by simp)) HLL.out rfl) ?_; rintro e w4 ⟨rfl, h4⟩; have H4 := Lib.hid (show Mods [] w3 w4 from Mods.trans (F1 := []) ((Mods.refl [] w3).same rfl rfl rfl rfl) h4 (by simp)); have RP4 := Lib.hid (RP3.out.mods H4.out (by simp)); have RA4 := Lib.hid (RA3.out.mods H4.out (by simp)); have y4c0 : w4.cell? ⟨b, 0, none⟩ = some (.pointer (some ⟨p, 0, none⟩)) := RP4.out.cell 0; have y4c1 : w4.cell? ⟨b, 1, none⟩ = some (.pointer (some ⟨q, 0, none⟩)) := RP4.out.cell 1; have y4s6 : w4.cell? ⟨bx, 6, none⟩ = some (.slice pA np pc) := (RA4.out.cell 6).trans (by rw [← HV.out.1] <;> rfl); clear h4))
      all_goals
        go_wp2
        go_ret
        exact ⟨rfl, Lib.hid (Asked.of (HNN.out ▸ ST.out) (l := [bx, bh]) H3.out ((HP.out.keep.trans (HK.out.keep.sub fun k hk => List.mem_append_left _ hk)).trans ((K2.out.sub fun k hk => List.mem_append_left _ (List.mem_append_left _ hk)).trans (K3.out.sub fun k hk => List.mem_append_left _ hk))) (H4.out.same rfl rfl rfl rfl) (by omega) (by omega) (by rw [waited_cnt]; omega))⟩


set_option maxHeartbeats 4000000 in
theorem asks_rest (W w : World) (p g q y b m K L : Nat) (gv pv : Value) (P : Plr) (gl : List (Int × Int)) (Kb : List Nat) (kd : Int) (c k : Int) (r s e : Bool) (h : St8 W w p g q y b P m K L gv gl Kb) (hgl : gl.length ≤ 1000) (hkd : kd < 1 ∨ 4 < kd) :
    Calls Tryd.prog 13 #[.pointer (some ⟨b, 0, none⟩), .agg #[.int .i64 kd, .int .i64 c, .int .i64 k, .bool r, .bool s, .bool e, pv]] w fun e w' => e = .returned (.bool true) ∧ Hid (Asked W w' p g q y b P m K L gl) := by
  have f1 : (kd == 1) = false := by simp; omega
  have f2 : (kd == 2) = false := by simp; omega
  have f3 : (kd == 3) = false := by simp; omega
  have f4 : (kd == 4) = false := by simp; omega
  clear hkd
  obtain ⟨q0, hq0, hq1⟩ : ∃ q0 : Nat, bits BinOp.and IntKind.i64 k 65535 = (q0 : Int) ∧ q0 ≤ 65535 := and_mask k 65535 (by omega)
  have hqn : q0 % gl.length < gl.length := Nat.mod_lt _ h.pos
  obtain ⟨gb, cg, a1, b1, rfl, hc1, hc2, hgb, hgw, hin, d0, d1⟩ := h.at_ (q0 % gl.length) hqn
  have HI := Lib.hid (h.i64 _ hin)
  have hpos := h.pos
  obtain ⟨n, hn⟩ : ∃ n, n = gl.length := ⟨_, rfl⟩
  rw [← hn] at h hqn hc1 d0 d1 hpos hgl
  have HNN := Lib.hid hn
  have HGL := Lib.hid hgl
  clear hn
  have h1 := h.two.onto (.cells #[.int .i64 kd, .int .i64 c, .int .i64 k, .bool r, .bool s, .bool e, pv] 25)
  have ra := Row.new w 25 #[.int .i64 kd, .int .i64 c, .int .i64 k, .bool r, .bool s, .bool e, pv]
  have rp := h.row.alloc (.cells #[.int .i64 kd, .int .i64 c, .int .i64 k, .bool r, .bool s, .bool e, pv] 25)
  have k0 : KeepP Kb w (w.alloc (.cells #[.int .i64 kd, .int .i64 c, .int .i64 k, .bool r, .bool s, .bool e, pv] 25)) := KeepP.quiet ((Mods.refl [] w).alloc _) h.two.kb
  have e0 := cell_alloc d0 (.cells #[.int .i64 kd, .int .i64 c, .int .i64 k, .bool r, .bool s, .bool e, pv] 25)
  have e1 := cell_alloc d1 (.cells #[.int .i64 kd, .int .i64 c, .int .i64 k, .bool r, .bool s, .bool e, pv] 25)
  obtain ⟨w0, hw0⟩ : ∃ w0, w0 = w.alloc (.cells #[.int .i64 kd, .int .i64 c, .int .i64 k, .bool r, .bool s, .bool e, pv] 25) := ⟨_, rfl⟩
  obtain ⟨bx, hbx⟩ : ∃ bx, bx = w.heap.size := ⟨_, rfl⟩
  rw [← hw0, ← hbx] at h1 ra
  rw [← hw0] at rp k0 e0 e1
  have H1 := Lib.hid h1
  have RA := Lib.hid ra
  have K0 := Lib.hid k0
  have ST := Lib.hid h
  have a0 : w0.cell? ⟨b, 2, none⟩ = some (.slice (some ⟨gb, 0, none⟩) n cg) := rp.cell 2
  have a2 : w0.cell? ⟨bx, 2, none⟩ = some (.int .i64 k) := ra.cell 2
  have s0 : w0.cell? ⟨bx, 0, none⟩ = some (.int .i64 kd) := ra.cell 0
  obtain ⟨qi, hqi⟩ : ∃ qi, qi = q0 % n := ⟨_, rfl⟩
  rw [← hqi] at e0 e1 hqn
  have hrem : (q0 : Int) % (n : Int) = (qi : Int) := by omega
  have hrem2 : (q0 : Int).tmod (n : Int) = (qi : Int) := by rw [Int.tmod_eq_emod_of_nonneg (by omega)]; exact hrem
  have g0 : (0 : Int) ≤ (qi : Int) := by omega
  have g1 : (qi : Int) < (n : Int) := by omega
  have hz : ¬ n = 0 := by omega
  unfold maxLen at hc2
  clear h h1 ra rp k0 d0 d1 hgb hgw hin hqi
  go_enter Tryd.func13, Tryd.ntmps13
  go_upto_region 1 with fail
  rw [← hw0, ← hbx]
  clear hw0 hbx
  go_cut [5] (fun v wx => ∃ bh, v = .pointer (some ⟨bh, 0, none⟩) ∧ Hid (Pre8 W w wx p g q y b bx bh P m K L (.slice (some ⟨gb, 0, none⟩) n cg) Kb #[.int .i64 kd, .int .i64 c, .int .i64 k, .bool r, .bool s, .bool e, pv] a1 b1))
  case first =>
    go_region_held3 (fun w' => w'.cell? ⟨b, 2, none⟩ = some (.slice (some ⟨gb, 0, none⟩) n cg) ∧ w'.cell? ⟨bx, 2, none⟩ = some (.int .i64 k) ∧ w'.cell? ⟨gb, qi * 2, none⟩ = some (.int .i64 a1) ∧ w'.cell? ⟨gb, qi * 2 + 1, none⟩ = some (.int .i64 b1)) (go_keep) (fail)
    all_goals
      go_wp2
      go_meet
      case rel => exact ⟨_, rfl, Lib.hid (Pre8.born ST.out H1.out K0.out RA.out rfl rfl rfl rfl)⟩
  case rest =>
    obtain ⟨bh, rfl, hpre⟩ := hcut
    obtain ⟨wa, rfl⟩ : ∃ wa : World, wa = wc := ⟨_, rfl⟩
    clear a0 a2 s0 e0 e1 g0 g1 hrem hrem2 hq0 hq1 hz hqn hc1 hc2 hpos hgl H1 RA K0
    have HP := Lib.hid hpre.out
    clear hpre
    have c0 : wa.cell? ⟨b, 0, none⟩ = some (.pointer (some ⟨p, 0, none⟩)) := HP.out.pair.cell 0
    have c1 : wa.cell? ⟨b, 1, none⟩ = some (.pointer (some ⟨q, 0, none⟩)) := HP.out.pair.cell 1
    have s0 : wa.cell? ⟨bx, 0, none⟩ = some (.int .i64 kd) := HP.out.act.cell 0
    have s1 : wa.cell? ⟨bx, 1, none⟩ = some (.int .i64 c) := HP.out.act.cell 1
    have s3 : wa.cell? ⟨bx, 3, none⟩ = some (.bool r) := HP.out.act.cell 3
    have s4 : wa.cell? ⟨bx, 4, none⟩ = some (.bool s) := HP.out.act.cell 4
    have s5 : wa.cell? ⟨bx, 5, none⟩ = some (.bool e) := HP.out.act.cell 5
    have s6 : wa.cell? ⟨bx, 6, none⟩ = some pv := HP.out.act.cell 6
    have h0 : wa.cell? ⟨bh, 0, none⟩ = some (.int .i64 a1) := HP.out.hnd.cell 0
    have h1 : wa.cell? ⟨bh, 1, none⟩ = some (.int .i64 b1) := HP.out.hnd.cell 1
    have HB := Lib.hid (show b ∈ Kb ++ [bx, bh] from List.mem_append_left _ ST.out.inb.1)
    go_wp2
    go_ret
    exact ⟨rfl, Lib.hid (Asked.of (HNN.out ▸ ST.out) (l := [bx, bh]) HP.out.two HP.out.keep (Mods.refl [] wa) (by omega) (by omega) (by omega))⟩

theorem asks_any (W w : World) (p g q y b m K L : Nat) (gv : Value) (P : Plr) (gl : List (Int × Int)) (Kb : List Nat) (pA : Option Addr) (np pc : Nat) (pl : List Int) (kd c k : Int) (r s e : Bool) (h : St8 W w p g q y b P m K L gv gl Kb) (hgl : gl.length ≤ 1000) (hT : TzTab W) (hcnt : P.sl.cnt < 4096) (hK : K ≤ 4000000000000) (hL : L ≤ 4000000000000) (hn : np = pl.length) (hp : Picks W ⟨pA, pl, pc⟩) (hl : pl.length ≤ 1000) :
    Calls Tryd.prog 13 #[.pointer (some ⟨b, 0, none⟩), .agg #[.int .i64 kd, .int .i64 c, .int .i64 k, .bool r, .bool s, .bool e, .slice pA np pc]] w fun e w' => e = .returned (.bool true) ∧ Hid (Asked W w' p g q y b P m K L gl) := by
  by_cases hk : kd < 1 ∨ 4 < kd
  · exact asks_rest W w p g q y b m K L gv _ P gl Kb kd c k r s e h hgl hk
  · have hk2 : kd = 1 ∨ kd = 2 ∨ kd = 3 ∨ kd = 4 := by omega
    rcases hk2 with rfl | rfl | rfl | rfl
    · exact asks_1 W w p g q y b m K L gv _ P gl Kb c k r s e h hgl hT hcnt hK hL
    · exact asks_2 W w p g q y b m K L gv _ P gl Kb c k r s e h hgl
    · exact asks_3 W w p g q y b m K L gv _ P gl Kb c k r s e h hgl
    · exact asks_4 W w p g q y b m K L gv _ P gl Kb pA np pc pl c k r s e h hgl (Lib.hid ⟨rfl, hn, hp, hl⟩)

end Go.Proofs.YthaapkafamdhcaaDoor

/- What the walk of stage 8's law PollPlays holds from round to round. -/
namespace Go.Proofs.YthaapkafamdhcaaDoor
open Go.RowKit
set_option maxRecDepth 10000
set_option linter.unusedVariables false
set_option linter.unusedSimpArgs false

def Acts8At (W : World) (A : Option Addr) (len : Nat) (f : Nat → Act8) : Prop := ∀ j, j < len → ∃ b off, A = some ⟨b, off, none⟩ ∧ b < W.heap.size ∧ Act8Is W b (off + j * 7) (f j)
/-- Behind k acts. -/
def Lp8 (W w : World) (p g q y b k : Nat) : Prop := ∃ P K L gv gl Kb, St8 W w p g q y b P (1024 * k) K L gv gl Kb ∧ K ≤ k ∧ L ≤ k ∧ P.sl.cnt ≤ k ∧ gl.length ≤ k + 1
theorem St8.cells {W w : World} {p g q y b m K L : Nat} {P : Plr} {gv : Value} {gl : List (Int × Int)} {Kb : List Nat} (h : St8 W w p g q y b P m K L gv gl Kb) : ∃ hs, w.cell? ⟨q, 1, none⟩ = some (.pointer (some ⟨hs, 0, none⟩)) ∧ w.cell? ⟨hs, 4, none⟩ = some (.int .i64 (P.sl.cnt : Nat)) := by
  obtain ⟨F, G, h2⟩ := h.two
  obtain ⟨x, hs, mb, bs, _, H⟩ := h2.rol
  obtain ⟨uv, gv', vv, _, ⟨h1, _, _, _, _⟩, _⟩ := H.slb
  exact ⟨hs, H.row.cell 1, h1.cell 4⟩
theorem St8.born {W w : World} {p g q y : Nat} {S : Nt} (h : PTwo W w p g q y (Plr.new S) (Plr.new S) 0 0 0 0 []) :
    St8 W ((w.alloc (.cells #[.int .i64 0, .int .i64 0] 47)).alloc (.cells #[.pointer (some ⟨p, 0, none⟩), .pointer (some ⟨q, 0, none⟩), .slice (some ⟨w.heap.size, 0, none⟩) 1 1] 50)) p g q y (w.heap.size + 1) (Plr.new S) 0 0 0 (.slice (some ⟨w.heap.size, 0, none⟩) 1 1) [(0, 0)] [w.heap.size, w.heap.size + 1] := by
  have hs := h.mods.size
  have o1 := World.ownsRow_lit (base := 0) (e := 47) (size := 2) w #[.int .i64 0, .int .i64 0] 1 (Nat.zero_le _) (by unfold maxLen; omega) rfl
  refine ⟨by simpa using (h.onto (.cells #[.int .i64 0, .int .i64 0] 47)).onto (.cells #[.pointer (some ⟨p, 0, none⟩), .pointer (some ⟨q, 0, none⟩), .slice (some ⟨w.heap.size, 0, none⟩) 1 1] 50), ⟨by simp, by omega⟩, Row.new2 w _ _ _, ?_, fun k hk => ?_, by simp, fun x hx => ?_⟩
  · exact own_mods (by simpa [OwnPairs, flat] using o1) ((Mods.refl [] _).alloc _) (by simp)
  · have : k = w.heap.size := by simpa [Value.ownBlock, eq_comm] using hk
    subst this
    exact ⟨by simp, hs⟩
  · simp at hx
    subst hx
    exact ⟨⟨by omega, by omega⟩, ⟨by omega, by omega⟩⟩
theorem Lp8.step {W w w2 : World} {p g q y b k K L : Nat} {P P' : Plr} {gv gv' : Value} {gl gl' : List (Int × Int)} {Kb Kb' : List Nat} {K' L' : Nat} (h : St8 W w p g q y b P' (1024 * (k + 1)) K' L' gv' gl' Kb') (a1 : K' ≤ K + 1) (a2 : L' ≤ L + 1) (a3 : P'.sl.cnt ≤ P.sl.cnt + 1) (a4 : gl'.length ≤ gl.length + 1) (b1 : K ≤ k) (b2 : L ≤ k) (b3 : P.sl.cnt ≤ k) (b4 : gl.length ≤ k + 1) (hm : Mods [] w w2) : Lp8 W w2 p g q y b (k + 1) :=
  ⟨P', K', L', gv', gl', Kb', h.next (h.two.quiet hm) (fun k hk => hk) (KeepP.quiet hm h.two.kb), by omega, by omega, by omega, by omega⟩
end Go.Proofs.YthaapkafamdhcaaDoor
