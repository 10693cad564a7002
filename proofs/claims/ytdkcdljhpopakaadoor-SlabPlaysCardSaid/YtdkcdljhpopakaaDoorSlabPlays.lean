/- For every limit and every script, the slab answers Put, Get, Set, Take, Len and All as the document says: the law returns true. Condition: the library's table of 64 is laid as its initialiser lays it (tied). -/
import Derived.Test.YtdkcdljhpopakaaDoorCards
import Derived.Test.YtdkcdljhpopakaaDoorTie
import Derived.Lay
import Derived.LaidOnce
import Derived.MakeChecks
import Derived.SevenTiedAt
import Derived.WalkKit
import Derived.ProofKit
import Derived.OpenShut
import Derived.ShutString
import Derived.ChangeOld
import Derived.Below
import Derived.SizedLaws
import Derived.Carry
import Derived.Deep.DeepCutAuto
import Derived.Deep.CutBlock
import Derived.Deep.RegionHeld3
import Derived.Deep.RegionWith
import Derived.Test.YtdkcdljhpopakaaDoorFullMath
import Derived.Test.YtdkcdljhpopakaaDoorPlaysA
import Derived.Test.YtdkcdljhpopakaaDoorTz2
namespace Go.Proofs.YtdkcdljhpopakaaDoor.slabPlays
open Go.ChangeShapes Go.WideShapes Go.ChangeAt Go.RowKit
open Go.ChangeMaps (open_string shut_string)
set_option linter.unusedVariables false
set_option maxRecDepth 10000
set_option linter.unusedSimpArgs false
theorem hd_info : (Tryd.prog.info? 32).map (fun i => (i.zero, i.size, i.bytes)) = some (some (.agg #[.int .i64 0, .int .i64 0]), 2, 16) := by kernel_rfl
/-- Both slabs, the handles given, and what else holds. -/
structure St (w wr : World) (g x K : Nat) (gv : Value) (S : Slb) (Fa Fb : List Nat) (L : List (Int × Int)) : Prop where
  a : SlabA wr g Fa S K
  b : SlabB wr x Fb S K
  own : OwnPairs wr 32 gv L
  pos : 1 ≤ L.length
  len : L.length ≤ K + 1
  i64 : ∀ p ∈ L, I64 p.1 ∧ I64 p.2
  m : Mods [] w wr
  fa : ∀ b ∈ Fa, w.heap.size ≤ b
  fb : ∀ b ∈ Fb, w.heap.size ≤ b
  fg : ∀ b ∈ gv.ownBlock.toList, w.heap.size ≤ b
  ab : ∀ b ∈ Fa, b ∉ Fb
  ag : ∀ b ∈ gv.ownBlock.toList, b ∉ Fa
  bg : ∀ b ∈ gv.ownBlock.toList, b ∉ Fb
def R1 (w wr : World) (g x K : Nat) (gv : Value) : Prop := ∃ S Fa Fb L, St w wr g x K gv S Fa Fb L
/-- Behind the switch: both slabs, and the handle that is asked for. -/
def R2 (w wr : World) (g x hb K : Nat) (gv : Value) : Prop :=
  ∃ S Fa Fb L a b, St w wr g x K gv S Fa Fb L ∧ Row wr hb 32 #[.int .i64 a, .int .i64 b] ∧ I64 a ∧ I64 b
theorem St.mods {w wr w' : World} {g x K : Nat} {gv : Value} {S : Slb} {Fa Fb : List Nat} {L : List (Int × Int)} (h : St w wr g x K gv S Fa Fb L) (hm : Mods [] wr w') : St w w' g x K gv S Fa Fb L :=
  ⟨slabA_mods h.a hm (by simp), slabB_mods h.b hm (by simp), own_mods h.own hm (by simp), h.pos, h.len, h.i64, h.m.trans hm (by simp), h.fa, h.fb, h.fg, h.ab, h.ag, h.bg⟩
theorem St.more {w wr : World} {g x K M : Nat} {gv : Value} {S : Slb} {Fa Fb : List Nat} {L : List (Int × Int)} (h : St w wr g x K gv S Fa Fb L) (hK : K ≤ M) : St w wr g x M gv S Fa Fb L :=
  ⟨slabA_more h.a hK, slabB_more h.b hK, h.own, h.pos, by have := h.len; omega, h.i64, h.m, h.fa, h.fb, h.fg, h.ab, h.ag, h.bg⟩
theorem St.put {w wz w3 w4 w5 : World} {g x K g1 c1 N : Nat} {gv : Value} {S S' : Slb} {Fa Fb Ga Gb : List Nat} {L : List (Int × Int)} {p : Int × Int} {o : Obj} (h : St w wz g x K gv S Fa Fb L)
    (ha : SlabA w3 g Ga S' (K + 1)) (hma : Mods Fa wz w3) (hfa : ∀ k ∈ Ga, k ∈ Fa ∨ wz.heap.size ≤ k) (hb : SlabB w4 x Gb S' (K + 1)) (hmb : Mods Fb (w3.alloc o) w4) (hfb : ∀ k ∈ Gb, k ∈ Fb ∨ (w3.alloc o).heap.size ≤ k)
    (hm5 : Mods gv.ownBlock.toList w4 w5) (hown : OwnPairs w5 32 (.slice (some ⟨g1, 0, none⟩) N c1) (L ++ [p])) (ht : gv.ownBlock = some g1 ∨ g1 = w4.heap.size + 2) (hi : I64 p.1 ∧ I64 p.2) :
    St w w5 g x (K + 1) (.slice (some ⟨g1, 0, none⟩) N c1) S' Ga Gb (L ++ [p]) := by
  have z1 := hma.size
  have z2 : w3.heap.size + 1 ≤ w4.heap.size := by have := hmb.size; simpa using this
  have z3 : (w3.alloc o).heap.size = w3.heap.size + 1 := by simp
  have z0 := h.m.size
  rw [z3] at hfb
  have la := slabA_lt ha
  have lb := slabB_lt hb
  have lFb := slabB_lt h.b
  have lFa := slabA_lt h.a
  have lg := own_lt h.own
  have aFb : ∀ b ∈ Ga, b ∉ Fb := fun b hb hb2 => by
    rcases hfa b hb with h1 | h1
    · exact h.ab b h1 hb2
    · have := lFb b hb2; omega
  have gGa : ∀ b ∈ gv.ownBlock.toList, b ∉ Ga := fun b hb hb2 => by
    rcases hfa b hb2 with h1 | h1
    · exact h.ag b hb h1
    · have := lg b hb; omega
  have gGb : ∀ b ∈ gv.ownBlock.toList, b ∉ Gb := fun b hb hb2 => by
    rcases hfb b hb2 with h1 | h1
    · exact h.bg b hb h1
    · have := lg b hb; omega
  have one : ∀ b ∈ (Value.slice (some ⟨g1, 0, none⟩) N c1).ownBlock.toList, b = g1 := fun b hb => own_slice_block b hb
  have hm4 : Mods [] w w4 := ((h.m.trans hma (fun b hb => .inr (h.fa b hb))).alloc o).trans hmb (fun b hb => .inr (h.fb b hb))
  have hg : w.heap.size ≤ g1 ∧ g1 ∉ Ga ∧ g1 ∉ Gb := by
    rcases ht with h1 | h1
    · have hm : g1 ∈ gv.ownBlock.toList := by rw [h1]; simp
      exact ⟨h.fg g1 hm, gGa g1 hm, gGb g1 hm⟩
    · refine ⟨by omega, fun hb => ?_, fun hb => ?_⟩
      · have := la g1 hb; omega
      · have := lb g1 hb; omega
  refine ⟨slabA_mods (slabA_mods (slabA_keep ha fun b hb => Below.heap_alloc w3 o b (la b hb)) hmb aFb) hm5 (fun b hb hb2 => gGa b hb2 hb), slabB_mods hb hm5 (fun b hb hb2 => gGb b hb2 hb), hown, by simp, by have := h.len; simp; omega, ?_, hm4.trans hm5 (fun b hb => .inr (h.fg b hb)), ?_, ?_, ?_, ?_, ?_, ?_⟩
  · intro q hq
    rcases List.mem_append.1 hq with hq | hq
    · exact h.i64 q hq
    · simp at hq; subst hq; exact hi
  · intro b hb
    rcases hfa b hb with h1 | h1
    · exact h.fa b h1
    · omega
  · intro b hb
    rcases hfb b hb with h1 | h1
    · exact h.fb b h1
    · omega
  · intro b hb; rw [one b hb]; exact hg.1
  · intro b hb hb2
    rcases hfb b hb2 with h1 | h1
    · exact aFb b hb h1
    · have := la b hb; omega
  · intro b hb; rw [one b hb]; exact hg.2.1
  · intro b hb; rw [one b hb]; exact hg.2.2
theorem of_drew {F : List Nat} {a w : World} (h : Mods F a.drew w) : Mods F a w := ⟨h.os, h.tape, h.output, h.size, h.block⟩
theorem head1 {F : List Nat} {a w : World} {o : Obj} (h : Mods F (a.alloc o).drew w) : Mods F a w := ((Mods.refl F a).alloc o).trans (of_drew h) (fun b hb => .inl hb)
theorem head2 {F : List Nat} {a w : World} {o o' : Obj} (h : Mods F ((a.alloc o).alloc o').drew w) : Mods F a w := (((Mods.refl F a).alloc o).alloc o').trans (of_drew h) (fun b hb => .inl hb)
theorem head3 {F : List Nat} {a w : World} {o : Obj} (h : Mods F (a.alloc o) w) : Mods F a w := ((Mods.refl F a).alloc o).trans h (fun b hb => .inl hb)
theorem St.step {w wz w4 : World} {g x K : Nat} {gv : Value} {S S' : Slb} {Fa Fb : List Nat} {L : List (Int × Int)} (h : St w wz g x K gv S Fa Fb L)
    (ha : SlabA w4 g Fa S' K) (hb : SlabB w4 x Fb S' K) (hm : Mods (Fa ++ Fb) wz w4) : St w w4 g x K gv S' Fa Fb L :=
  ⟨ha, hb, own_mods h.own hm (fun b hb hb2 => by
    rcases List.mem_append.1 hb2 with h1 | h1
    · exact h.ag b hb h1
    · exact h.bg b hb h1), h.pos, h.len, h.i64, h.m.trans hm (fun b hb => by
    rcases List.mem_append.1 hb with h1 | h1
    · exact .inr (h.fa b h1)
    · exact .inr (h.fb b h1)), h.fa, h.fb, h.fg, h.ab, h.ag, h.bg⟩
theorem St.far {w wz w4 : World} {g x K b : Nat} {gv : Value} {S : Slb} {Fa Fb : List Nat} {L : List (Int × Int)} (h : St w wz g x K gv S Fa Fb L) (hm : Mods [b] wz w4) (hb : w.heap.size ≤ b)
    (ha : b ∉ Fa) (hb2 : b ∉ Fb) (hg : b ∉ gv.ownBlock.toList) : St w w4 g x K gv S Fa Fb L :=
  ⟨slabA_mods h.a hm (fun k hk hk2 => by simp at hk2; subst hk2; exact ha hk), slabB_mods h.b hm (fun k hk hk2 => by simp at hk2; subst hk2; exact hb2 hk), own_mods h.own hm (fun k hk hk2 => by simp at hk2; subst hk2; exact hg hk), h.pos, h.len, h.i64, h.m.trans hm (fun k hk => by simp at hk; subst hk; exact .inr hb), h.fa, h.fb, h.fg, h.ab, h.ag, h.bg⟩
theorem St.stepAB {w wz w3 w4 : World} {g x K : Nat} {gv : Value} {S S' : Slb} {Fa Fb : List Nat} {L : List (Int × Int)} (h : St w wz g x K gv S Fa Fb L)
    (ha : SlabA w3 g Fa S' K ∧ Mods Fa wz w3) (hb : SlabB w4 x Fb S' K ∧ Mods Fb w3 w4) : St w w4 g x K gv S' Fa Fb L ∧ Mods (Fa ++ Fb) wz w4 :=
  have hm : Mods (Fa ++ Fb) wz w4 := (ha.2.more (fun b hb => .inl (List.mem_append_left _ hb))).trans hb.2 (fun b hb => .inl (List.mem_append_right _ hb))
  ⟨h.step (slabA_mods ha.1 hb.2 h.ab) hb.1 hm, hm⟩
theorem St.stepBA {w wz w3 w4 : World} {g x K : Nat} {gv : Value} {S S' : Slb} {Fa Fb : List Nat} {L : List (Int × Int)} (h : St w wz g x K gv S Fa Fb L)
    (hb : SlabB w3 x Fb S' K ∧ Mods Fb wz w3) (ha : SlabA w4 g Fa S' K ∧ Mods Fa w3 w4) : St w w4 g x K gv S' Fa Fb L ∧ Mods (Fa ++ Fb) wz w4 :=
  have hm : Mods (Fa ++ Fb) wz w4 := (hb.2.more (fun b hb => .inl (List.mem_append_right _ hb))).trans ha.2 (fun b hb => .inl (List.mem_append_left _ hb))
  ⟨h.step ha.1 (slabB_mods hb.1 ha.2 (fun b hb hb2 => h.ab b hb2 hb)) hm, hm⟩
set_option maxHeartbeats 8000000 in
theorem main (n : Nat) (hn : 1 ≤ n) (hn2 : n ≤ 4096) (A : Option Addr) (len cap : Nat) (f : Nat → ActAt) (hlc : len ≤ cap) (hcm : len ≤ maxLen) (w : World) (ht : TzTab w)
    (hf : ∀ j, j < len → ∃ b off, A = some ⟨b, off, none⟩ ∧ b < w.heap.size ∧ w.cell? ⟨b, off + j * 5, none⟩ = some (.int .i64 (f j).kind) ∧ w.cell? ⟨b, off + j * 5 + 1, none⟩ = some (.int .i64 (f j).n) ∧ w.cell? ⟨b, off + j * 5 + 2, none⟩ = some (.int .i64 (f j).k) ∧
      w.cell? ⟨b, off + j * 5 + 3, none⟩ = some (.int .i64 (f j).a) ∧ w.cell? ⟨b, off + j * 5 + 4, none⟩ = some (.int .i64 (f j).b) ∧ I64 (f j).kind ∧ I64 (f j).n ∧ I64 (f j).k ∧ I64 (f j).a ∧ I64 (f j).b) :
    Calls Tryd.prog 3 #[.int .i64 n, .slice A len cap] w fun e w' => e = .returned (.bool true) ∧ Below w.heap.size w w' := by
  obtain ⟨i0, hi0, hz0, hz1, hz2⟩ := info_parts hd_info
  unfold maxLen at hcm
  have HT := Lib.hid ht
  have HF := Lib.hid hf
  clear ht hf
  go_enter Tryd.func3, Tryd.ntmps3
  go_wp2_with fail
  refine (new_any n w hn hn2).mono ?_
  rintro e w1 ⟨rfl, hs, hm⟩
  have HS1 := Lib.hid hs
  have HM1 := Lib.hid hm
  clear hs hm
  go_wp2_with fail
  refine (rnew_any n w1 hn hn2).mono ?_
  rintro e w2 ⟨rfl, hs, hm⟩
  have H0 := Lib.hid (show R1 w (w2.alloc (.cells #[.int .i64 0, .int .i64 0] 32)) w.heap.size w1.heap.size 0 (.slice (some ⟨w2.heap.size, 0, none⟩) 1 1) from by
    have h1 := HS1.out
    have l1 := slabA_lt h1
    have z1 := HM1.out.size
    have z2 := hm.size
    have l2 := slabB_lt hs
    have r := Row.new w2 32 #[.int .i64 0, .int .i64 0]
    refine ⟨_, _, _, [(0, 0)], slabA_mods (slabA_mods h1 hm (by simp)) ((Mods.refl [] w2).alloc _) (by simp), slabB_mods hs ((Mods.refl [] w2).alloc _) (by simp), ?_, by simp, by simp, by simp [I64], ((HM1.out.trans hm (by simp)).alloc _), by simp, by simp; omega, by simp [Value.ownBlock]; omega, ?_, ?_, ?_⟩
    · exact ⟨rfl, .inr ⟨w2.heap.size, 1, #[.int .i64 0, .int .i64 0], rfl, Nat.zero_le _, r, Nat.le_refl _, by unfold maxLen; omega, rfl, rfl⟩⟩
    · have := l1 w.heap.size (by simp)
      simp; omega
    · have := l1 w.heap.size (by simp)
      simp [Value.ownBlock]; omega
    · have := l2 w1.heap.size (by simp)
      simp [Value.ownBlock]; omega)
  clear hs hm HS1 HM1
  go_wp2_with fail
  go_loopw [9, 10, 11, 12, 13, 14, 15, 16, 17, 18, 19, 20, 21] (fun gv i x1 x2 x3 x4 x5 x6 x7 x8 x9 x10 x11 wr => ∃ k : Nat, k ≤ len ∧ k ≤ 150 ∧ i = .int .i64 k ∧ Hid (R1 w wr w.heap.size w1.heap.size k gv)) (fun _ i _ _ _ _ _ _ _ _ _ _ _ _ => len - (intOf i).toNat)
  case atStart => exact ⟨0, by omega, by omega, rfl, H0⟩
  case round =>
    obtain ⟨k, hk, hk2, rfl, hr⟩ := hrel
    clear H0
    obtain ⟨S, Fa, Fb, L, hst⟩ := hr.out
    obtain ⟨Ag, cg, e, hg1, hg2⟩ := own_pairs_slice hst.own
    subst e
    have hL1 := hst.pos
    have hL2 := hst.len
    have HST := Lib.hid hst
    clear hst hr
    by_cases hc : k < len ∧ k < 150
    · obtain ⟨hlt, hlt2⟩ := hc
      obtain ⟨ab, ao, rfl, hab, c0, c1, c2, c3, c4, I0, I1, I2, I3, I4⟩ := HF.out k hlt
      have c0 := cell_mods c0 HST.out.m (by simp)
      have c1 := cell_mods c1 HST.out.m (by simp)
      have c2 := cell_mods c2 HST.out.m (by simp)
      have c3 := cell_mods c3 HST.out.m (by simp)
      have c4 := cell_mods c4 HST.out.m (by simp)
      generalize (f k).kind = kd at *
      generalize (f k).n = vn at *
      generalize (f k).k = vk at *
      generalize (f k).a = ha at *
      generalize (f k).b = hb at *
      obtain ⟨q, hqe, hq⟩ : ∃ q : Nat, bits BinOp.and IntKind.i64 vk 65535 = (q : Int) ∧ q ≤ 65535 := by
        have := and65535 vk
        exact ⟨(bits BinOp.and IntKind.i64 vk 65535).toNat, by omega, by omega⟩
      obtain ⟨r, hre, hr⟩ : ∃ r : Nat, bits BinOp.and IntKind.i64 vn 65535 = (r : Int) ∧ r ≤ 65535 := by
        have := and65535 vn
        exact ⟨(bits BinOp.and IntKind.i64 vn 65535).toNat, by omega, by omega⟩
      have hqn : q % L.length < L.length := Nat.mod_lt _ (by omega)
      have hrn : r % L.length < L.length := Nat.mod_lt _ (by omega)
      obtain ⟨gb, rfl, _, d0, d1⟩ := own_pairs_at HST.out.own (List.getElem?_eq_getElem hqn)
      obtain ⟨gb', e, _, d2, d3⟩ := own_pairs_at HST.out.own (List.getElem?_eq_getElem hrn)
      injection e with e
      injection e with e _ _
      subst e
      have HI1 := Lib.hid (HST.out.i64 _ (List.getElem_mem hqn))
      have HI2 := Lib.hid (HST.out.i64 _ (List.getElem_mem hrn))
      generalize L[q % L.length] = p1 at *
      generalize L[r % L.length] = p2 at *
      obtain ⟨a1, b1⟩ := p1
      obtain ⟨a2, b2⟩ := p2
      have q1 : (0 : Int) ≤ (q : Int) % (L.length : Int) := by omega
      have q2 : (q : Int) % (L.length : Int) < (L.length : Int) := by omega
      have r1 : (0 : Int) ≤ (r : Int) % (L.length : Int) := by omega
      have r2 : (r : Int) % (L.length : Int) < (L.length : Int) := by omega
      have a0 := fun o => cell_alloc c0 o
      have a1' := fun o => cell_alloc c1 o
      have a0' := fun o o' => cell_alloc (cell_alloc c0 o) o'
      have D2 := fun o => cell_alloc d2 o
      have D3 := fun o => cell_alloc d3 o
      have HC := Lib.hid (And.intro c1 (And.intro c3 c4))
      go_upto_block 2 with fail
      obtain ⟨wz, hwz⟩ : ∃ wz : World, wz = (wr.alloc (.cells #[.int .i64 a1, .int .i64 b1] 32)).alloc (.cells #[.int .i64 a2, .int .i64 b2] 32) := ⟨_, rfl⟩
      have hmz : Mods [] wr wz := by rw [hwz]; exact ((Mods.refl [] wr).alloc _).alloc _
      have HSZ := Lib.hid (HST.out.mods hmz)
      have HR1 := Lib.hid (show Row wz wr.heap.size 32 #[.int .i64 a1, .int .i64 b1] by rw [hwz]; exact (Row.new _ _ _).alloc _)
      have HR2 := Lib.hid (show Row wz (wr.heap.size + 1) 32 #[.int .i64 a2, .int .i64 b2] by rw [hwz]; exact new_at (by simp))
      have HNa := Lib.hid (show ∀ b, b ∈ Fa ∨ b ∈ Fb ∨ b ∈ (Value.slice (some ⟨gb, 0, none⟩) L.length cg).ownBlock.toList → b < wr.heap.size from fun b hb => by
        rcases hb with hb | hb | hb
        · exact slabA_lt HST.out.a b hb
        · exact slabB_lt HST.out.b b hb
        · exact own_lt HST.out.own b hb)
      have HZs := Lib.hid (show wr.heap.size + 2 = wz.heap.size by rw [hwz]; simp)
      have HCZ := Lib.hid (And.intro (cell_mods c1 hmz (by simp)) (And.intro (cell_mods c3 hmz (by simp)) (cell_mods c4 hmz (by simp))))
      rw [← hwz]
      clear hwz hmz c0 c1 c2 c3 c4 a0 a1' a0' d0 d1 d2 d3 D2 D3 HC hqn hrn q1 q2 r1 r2 hqe hre hq hr
      go_cut [9, 13] (fun s9 s13 wx => s13 = .bool true ∧ Hid (R2 w wx w.heap.size w1.heap.size wr.heap.size (k + 1) s9))
      case first =>
        have c1 := HCZ.out.1
        have hPI := Lib.hid (ph_i64 (slabA_ok HSZ.out.a) (by omega))
        by_cases k1 : kd = 1
        · subst k1
          go_wp2_with fail
          refine (put1_any wz w.heap.size vn Fa S k HSZ.out.a (HT.out.mods HSZ.out.m (by simp)) (by omega)).mono ?_
          rintro e w3 ⟨rfl, hd⟩
          obtain ⟨Ga, hs, hm, hf⟩ := hd.out
          have HGa := Lib.hid hs
          have HMa := Lib.hid hm
          have HFa := Lib.hid hf
          have c1 := cell_mods c1 hm (fun hb => by have := HSZ.out.fa ab hb; omega)
          have a1' := fun o => cell_alloc c1 o
          have hma : Mods Fa wz (w3.alloc (.cells #[.int .i64 S.ph.1, .int .i64 S.ph.2] 32)) := hm.alloc _
          have HB3 := Lib.hid (slabB_mods HSZ.out.b hma (fun b hb hb2 => HSZ.out.ab b hb2 hb))
          clear hs hm hf hd hma
          go_wp2_with fail
          refine (rput1_any (w3.alloc _) w1.heap.size vn Fb S k HB3.out (by omega)).mono ?_
          rintro e w4 ⟨rfl, hd⟩
          obtain ⟨Gb, hs, hm, hf⟩ := hd.out
          have HGb := Lib.hid hs
          have HMb := Lib.hid hm
          have HFb := Lib.hid hf
          have zz : wz.heap.size ≤ w3.heap.size := HMa.out.size
          have HRa := Lib.hid (show Row w4 w3.heap.size 32 #[.int .i64 S.ph.1, .int .i64 S.ph.2] from (Row.new w3 _ _).mods hm (fun hb => by have := slabB_lt HSZ.out.b _ hb; omega))
          have HO4 := Lib.hid (show OwnPairs w4 32 (.slice (some ⟨gb, 0, none⟩) L.length cg) L from own_mods (own_mods HSZ.out.own (HMa.out.alloc _) (fun b hb => HSZ.out.ag b hb)) hm (fun b hb => HSZ.out.bg b hb))
          clear hs hm hf hd
          generalize hph : S.ph = pp at *
          obtain ⟨p1, p2⟩ := pp
          generalize S.pe = pe at *
          clear a1' c1
          go_wp2_with (at_builtin; refine wpList_append_lies _ rfl (.tmp 108) (.tmp 110) _ rfl 0 32 i0 _ 2 16 Tryd.underlying33 hi0 hz0 hz1 hz2 rfl (by omega) (.slice (some ⟨gb, 0, none⟩) L.length cg) L.length (flat L) rfl (own_mods HO4.out (((Mods.refl [] w4).alloc _).alloc _) (by simp)) ⟨w4.heap.size + 1, 0, none⟩ 1 1 [.int .i64 p1, .int .i64 p2] rfl rfl (World.news_of_block (new_at (by simp))) (by simp [Value.oneCell']) (by omega) (by unfold maxLen; omega) (by omega) (Nat.zero_le _) (w4.heap.size + 2) (by simp) ?_; intro g1 cap1 w5 hown1 hg1 hat1 hlt1; have HO1 := Lib.hid hown1; have HG1 := Lib.hid hg1; have HT1 := Lib.hid hat1; have HM5 := Lib.hid (show Mods (Value.slice (some ⟨gb, 0, none⟩) L.length cg).ownBlock.toList w4 w5 from (((Mods.refl _ w4).alloc _).alloc _).grown hg1 (fun b hb => .inl (by rw [hb]; simp))); have HRb := Lib.hid (show Row w5 w4.heap.size 32 #[.int .i64 p1, .int .i64 p2] from ((Row.new w4 _ _).alloc _).keep (hg1.block _ (by simp; omega) (fun e => by (have := own_lt HO4.out w4.heap.size (by rw [← e]; simp)); omega))); have HRa5 := Lib.hid (HRa.out.mods HM5.out (fun hb => by (have := own_lt HSZ.out.own _ hb); omega)); have e0 := HRa5.out.cell 0; have e1 := HRa5.out.cell 1; have e2 := HRb.out.cell 0; have e3 := HRb.out.cell 1; clear hown1 hg1 hat1)
          have HRx := Lib.hid ((((HR1.out.mods HMa.out (fun hb => by have := HNa.out _ (.inl hb); omega)).alloc (.cells #[.int .i64 p1, .int .i64 p2] 32)).mods HMb.out (fun hb => by have := HNa.out _ (.inr (.inl hb)); omega)).mods HM5.out (fun hb => by have := HNa.out _ (.inr (.inr hb)); omega))
          have HPI := Lib.hid (show I64 p1 ∧ I64 p2 from hPI.out)
          clear e0 e1 e2 e3
          go_meet
          case rel => exact ⟨rfl, Lib.hid ⟨S.put1 vn, Ga, Gb, L ++ [(p1, p2)], a1, b1, HSZ.out.put HGa.out HMa.out HFa.out HGb.out HMb.out HFb.out HM5.out (by unfold OwnPairs; rw [flat_append, List.length_append]; exact HO1.out) HT1.out HPI.out, HRx.out, HI1.out.1, HI1.out.2⟩⟩
        · have b0 : wz.cell? ⟨wr.heap.size, 0, none⟩ = some (.int .i64 a1) := HR1.out.cell 0
          have b1' : wz.cell? ⟨wr.heap.size, 1, none⟩ = some (.int .i64 b1) := HR1.out.cell 1
          have hxa : wr.heap.size ∉ Fa := fun hb => by have := HNa.out _ (.inl hb); omega
          have hxb : wr.heap.size ∉ Fb := fun hb => by have := HNa.out _ (.inr (.inl hb)); omega
          have hca : ab ∉ Fa := fun hb => by have := HSZ.out.fa ab hb; omega
          have hcb : ab ∉ Fb := fun hb => by have := HSZ.out.fb ab hb; omega
          have HNF := Lib.hid (show wr.heap.size ∉ Fa ++ Fb from fun hb => (List.mem_append.1 hb).elim hxa hxb)
          by_cases k3 : kd = 3
          · subst k3
            have HNX := Lib.hid (And.intro hxa (And.intro hxb (And.intro hca hcb)))
            clear hxa hxb hca hcb k1
            go_upto_region 21 with fail
            go_region_held3 (fun w' => w'.cell? ⟨wr.heap.size, 0, none⟩ = some (.int .i64 a1) ∧ w'.cell? ⟨wr.heap.size, 1, none⟩ = some (.int .i64 b1) ∧ w'.cell? ⟨ab, ao + k * 5 + 1, none⟩ = some (.int .i64 vn)) (go_keep)
              (first
                | (go_at_call 12; refine Calls.mono (set_any _ w.heap.size a1 b1 vn Fa S k HI1.out.1 (slabA_keep HSZ.out.a fun _ _ => rfl)) ?_; rintro e w3 ⟨rfl, hs, hm⟩; have hm := of_drew hm; have HXa := Lib.hid (And.intro hs hm); have g0 := cell_mods b0 hm HNX.out.1; have g1 := cell_mods b1' hm HNX.out.1; have g2 := cell_mods c1 hm HNX.out.2.2.1; clear hs hm)
                | (go_at_call 13; refine Calls.mono (rset_any _ w1.heap.size a1 b1 vn Fb S k HI1.out.1 (slabB_keep HSZ.out.b fun _ _ => rfl)) ?_; rintro e w3 ⟨rfl, hs, hm⟩; have hm := of_drew hm; have HXb := Lib.hid (And.intro hs hm); have g0 := cell_mods b0 hm HNX.out.2.1; have g1 := cell_mods b1' hm HNX.out.2.1; have g2 := cell_mods c1 hm HNX.out.2.2.2; clear hs hm)
                | (go_at_call 12; refine Calls.mono (set_any _ w.heap.size a1 b1 vn Fa S k HI1.out.1 (slabA_mods HSZ.out.a HXb.out.2 (fun b hb => HSZ.out.ab b hb))) ?_; rintro e w4 ⟨rfl, hs, hm⟩; have HXa := Lib.hid (And.intro hs hm); have g3 := cell_mods g0 hm HNX.out.1; have g4 := cell_mods g1 hm HNX.out.1; have g5 := cell_mods g2 hm HNX.out.2.2.1; clear hs hm)
                | (go_at_call 13; refine Calls.mono (rset_any _ w1.heap.size a1 b1 vn Fb S k HI1.out.1 (slabB_mods HSZ.out.b HXa.out.2 (fun b hb hb2 => HSZ.out.ab b hb2 hb))) ?_; rintro e w4 ⟨rfl, hs, hm⟩; have HXb := Lib.hid (And.intro hs hm); have g3 := cell_mods g0 hm HNX.out.2.1; have g4 := cell_mods g1 hm HNX.out.2.1; have g5 := cell_mods g2 hm HNX.out.2.2.2; clear hs hm))
            all_goals
              go_wp2
              go_meet
              first
                | exact ⟨rfl, Lib.hid ⟨S.set1 a1 b1 vn, Fa, Fb, L, a1, b1, (HSZ.out.stepAB HXa.out HXb.out).1.more (by omega), HR1.out.mods (HSZ.out.stepAB HXa.out HXb.out).2 HNF.out, HI1.out.1, HI1.out.2⟩⟩
                | exact ⟨rfl, Lib.hid ⟨S.set1 a1 b1 vn, Fa, Fb, L, a1, b1, (HSZ.out.stepBA HXb.out HXa.out).1.more (by omega), HR1.out.mods (HSZ.out.stepBA HXb.out HXa.out).2 HNF.out, HI1.out.1, HI1.out.2⟩⟩
          · by_cases k4 : kd = 4
            · subst k4
              have HNX := Lib.hid (And.intro hxa (And.intro hxb (And.intro hca hcb)))
              have lFa := fun b hb => slabA_lt HSZ.out.a b hb
              have lFb := fun b hb => slabB_lt HSZ.out.b b hb
              clear hxa hxb hca hcb k1 k3 c1
              go_upto_region 23 with fail
              have HBND := Lib.hid (show ∀ p ∈ [(a1, b1)], (-9223372036854775808 ≤ p.1 ∧ p.1 ≤ 9223372036854775807) ∧ (-9223372036854775808 ≤ p.2 ∧ p.2 ≤ 9223372036854775807) from by
                have j1 := HI1.out
                have j2 := HI2.out
                unfold I64 at j1 j2
                simp only [List.mem_cons, List.mem_nil_iff, or_false]
                intro p hp
                rcases hp with rfl
                all_goals (first | exact j1 | exact j2))
              go_region_held3 (fun w' => w'.cell? ⟨wr.heap.size, 0, none⟩ = some (.int .i64 a1) ∧ w'.cell? ⟨wr.heap.size, 1, none⟩ = some (.int .i64 b1)) (go_keep)
                (first
                  | (go_at_call 14; refine Calls.mono (take_any _ w.heap.size _ 1 [(a1, b1)] Fa S k (slabA_keep HSZ.out.a (fun b hb => by first | exact Below.heap_alloc wz _ b (lFa b hb) | exact (Below.heap_alloc (wz.alloc _) _ b (by have := lFa b hb; simp; omega)).trans (Below.heap_alloc wz _ b (lFa b hb)))) (by simp) (pairs_row (t := 32) (cs := #[.int .i64 a1, .int .i64 b1]) (by first | exact Row.new wz _ _ | exact (Row.new wz _ _).alloc _ | exact new_at (by simp)) rfl HBND.out) (fun h => by have := lFa _ h; omega)) ?_; rintro e w3 ⟨rfl, hs, hm⟩; have hm1 : Mods Fa wz w3 := (by first | exact head2 hm | exact head1 hm); have HXa := Lib.hid (And.intro hs hm1); have HRa := Lib.hid hm; have z3 := hm1.size; have b0' := cell_mods b0 hm1 HNX.out.1; have b1'' := cell_mods b1' hm1 HNX.out.1; clear hs hm hm1)
                  | (go_at_call 15; refine Calls.mono (rtake_any _ w1.heap.size _ 1 [(a1, b1)] Fb S k (slabB_keep HSZ.out.b (fun b hb => by first | exact Below.heap_alloc wz _ b (lFb b hb) | exact (Below.heap_alloc (wz.alloc _) _ b (by have := lFb b hb; simp; omega)).trans (Below.heap_alloc wz _ b (lFb b hb)))) (by simp) (pairs_row (t := 32) (cs := #[.int .i64 a1, .int .i64 b1]) (by first | exact Row.new wz _ _ | exact (Row.new wz _ _).alloc _ | exact new_at (by simp)) rfl HBND.out) (fun h => by have := lFb _ h; omega)) ?_; rintro e w3 ⟨rfl, hs, hm⟩; have hm1 : Mods Fb wz w3 := (by first | exact head2 hm | exact head1 hm); have HXb := Lib.hid (And.intro hs hm1); have HRb := Lib.hid hm; have z3 := hm1.size; have b0' := cell_mods b0 hm1 HNX.out.2.1; have b1'' := cell_mods b1' hm1 HNX.out.2.1; clear hs hm hm1)
                  | (go_at_call 14; refine Calls.mono (take_any _ w.heap.size _ 1 [(a1, b1)] Fa S k (by first | exact slabA_mods HSZ.out.a HXb.out.2 (fun b hb => HSZ.out.ab b hb) | exact slabA_keep (slabA_mods HSZ.out.a HXb.out.2 (fun b hb => HSZ.out.ab b hb)) (fun b hb => Below.heap_alloc w3 _ b (slabA_lt (slabA_mods HSZ.out.a HXb.out.2 (fun b hb => HSZ.out.ab b hb)) b hb))) (by simp) (pairs_row (t := 32) (cs := #[.int .i64 a1, .int .i64 b1]) (by first | exact Row.new w3 _ _ | exact Row.mods (w := (wz.alloc _).alloc _) ((Row.new wz _ _).alloc _) (of_drew HRb.out) (fun h => by have := lFb _ h; omega) | exact Row.mods (w := (wz.alloc _).alloc _) (new_at (by simp)) (of_drew HRb.out) (fun h => by have := lFb _ h; omega)) rfl HBND.out) (fun h => by have := lFa _ h; omega)) ?_; rintro e w4 ⟨rfl, hs, hm⟩; have hm1 : Mods Fa w3 w4 := (by first | exact hm | exact head3 hm); have HXa := Lib.hid (And.intro hs hm1); have b0'' := cell_mods b0' hm1 HNX.out.1; have b1''' := cell_mods b1'' hm1 HNX.out.1; clear hs hm hm1)
                  | (go_at_call 15; refine Calls.mono (rtake_any _ w1.heap.size _ 1 [(a1, b1)] Fb S k (by first | exact slabB_mods HSZ.out.b HXa.out.2 (fun b hb hb2 => HSZ.out.ab b hb2 hb) | exact slabB_keep (slabB_mods HSZ.out.b HXa.out.2 (fun b hb hb2 => HSZ.out.ab b hb2 hb)) (fun b hb => Below.heap_alloc w3 _ b (slabB_lt (slabB_mods HSZ.out.b HXa.out.2 (fun b hb hb2 => HSZ.out.ab b hb2 hb)) b hb))) (by simp) (pairs_row (t := 32) (cs := #[.int .i64 a1, .int .i64 b1]) (by first | exact Row.new w3 _ _ | exact Row.mods (w := (wz.alloc _).alloc _) ((Row.new wz _ _).alloc _) (of_drew HRa.out) (fun h => by have := lFa _ h; omega) | exact Row.mods (w := (wz.alloc _).alloc _) (new_at (by simp)) (of_drew HRa.out) (fun h => by have := lFa _ h; omega)) rfl HBND.out) (fun h => by have := lFb _ h; omega)) ?_; rintro e w4 ⟨rfl, hs, hm⟩; have hm1 : Mods Fb w3 w4 := (by first | exact hm | exact head3 hm); have HXb := Lib.hid (And.intro hs hm1); have b0'' := cell_mods b0' hm1 HNX.out.2.1; have b1''' := cell_mods b1'' hm1 HNX.out.2.1; clear hs hm hm1))
              all_goals
                go_wp2
                go_meet
                first
                  | exact ⟨rfl, Lib.hid ⟨S.takes [(a1, b1)], Fa, Fb, L, a1, b1, (HSZ.out.stepAB HXa.out HXb.out).1.more (by omega), HR1.out.mods (HSZ.out.stepAB HXa.out HXb.out).2 HNF.out, HI1.out.1, HI1.out.2⟩⟩
                  | exact ⟨rfl, Lib.hid ⟨S.takes [(a1, b1)], Fa, Fb, L, a1, b1, (HSZ.out.stepBA HXb.out HXa.out).1.more (by omega), HR1.out.mods (HSZ.out.stepBA HXb.out HXa.out).2 HNF.out, HI1.out.1, HI1.out.2⟩⟩
            · by_cases k5 : kd = 5
              · subst k5
                have hya : wr.heap.size + 1 ∉ Fa := fun hb => by have := HNa.out _ (.inl hb); omega
                have hyb : wr.heap.size + 1 ∉ Fb := fun hb => by have := HNa.out _ (.inr (.inl hb)); omega
                have HNX := Lib.hid (And.intro hxa (And.intro hxb (And.intro hya hyb)))
                have y0 : wz.cell? ⟨wr.heap.size + 1, 0, none⟩ = some (.int .i64 a2) := HR2.out.cell 0
                have y1 : wz.cell? ⟨wr.heap.size + 1, 1, none⟩ = some (.int .i64 b2) := HR2.out.cell 1
                have lFa := fun b hb => slabA_lt HSZ.out.a b hb
                have lFb := fun b hb => slabB_lt HSZ.out.b b hb
                clear hxa hxb hca hcb hya hyb k1 k3 k4 c1
                go_upto_region 25 with fail
                have HBND := Lib.hid (show ∀ p ∈ [(a1, b1), (a2, b2), (a1, b1)], (-9223372036854775808 ≤ p.1 ∧ p.1 ≤ 9223372036854775807) ∧ (-9223372036854775808 ≤ p.2 ∧ p.2 ≤ 9223372036854775807) from by
                  have j1 := HI1.out
                  have j2 := HI2.out
                  unfold I64 at j1 j2
                  simp only [List.mem_cons, List.mem_nil_iff, or_false]
                  intro p hp
                  rcases hp with rfl | rfl | rfl
                  all_goals (first | exact j1 | exact j2))
                go_region_held3 (fun w' => w'.cell? ⟨wr.heap.size, 0, none⟩ = some (.int .i64 a1) ∧ w'.cell? ⟨wr.heap.size, 1, none⟩ = some (.int .i64 b1) ∧ w'.cell? ⟨wr.heap.size + 1, 0, none⟩ = some (.int .i64 a2) ∧ w'.cell? ⟨wr.heap.size + 1, 1, none⟩ = some (.int .i64 b2)) (go_keep)
                  (first
                    | (go_at_call 14; refine Calls.mono (take_any _ w.heap.size _ 3 [(a1, b1), (a2, b2), (a1, b1)] Fa S k (slabA_keep HSZ.out.a (fun b hb => by first | exact Below.heap_alloc wz _ b (lFa b hb) | exact (Below.heap_alloc (wz.alloc _) _ b (by have := lFa b hb; simp; omega)).trans (Below.heap_alloc wz _ b (lFa b hb)))) (by simp) (pairs_row (t := 32) (cs := #[.int .i64 a1, .int .i64 b1, .int .i64 a2, .int .i64 b2, .int .i64 a1, .int .i64 b1]) (by first | exact Row.new wz _ _ | exact (Row.new wz _ _).alloc _ | exact new_at (by simp)) rfl HBND.out) (fun h => by have := lFa _ h; omega)) ?_; rintro e w3 ⟨rfl, hs, hm⟩; have hm1 : Mods Fa wz w3 := (by first | exact head2 hm | exact head1 hm); have HXa := Lib.hid (And.intro hs hm1); have HRa := Lib.hid hm; have z3 := hm1.size; have b0' := cell_mods b0 hm1 HNX.out.1; have b1'' := cell_mods b1' hm1 HNX.out.1; have y0' := cell_mods y0 hm1 HNX.out.2.2.1; have y1' := cell_mods y1 hm1 HNX.out.2.2.1; clear hs hm hm1)
                    | (go_at_call 15; refine Calls.mono (rtake_any _ w1.heap.size _ 3 [(a1, b1), (a2, b2), (a1, b1)] Fb S k (slabB_keep HSZ.out.b (fun b hb => by first | exact Below.heap_alloc wz _ b (lFb b hb) | exact (Below.heap_alloc (wz.alloc _) _ b (by have := lFb b hb; simp; omega)).trans (Below.heap_alloc wz _ b (lFb b hb)))) (by simp) (pairs_row (t := 32) (cs := #[.int .i64 a1, .int .i64 b1, .int .i64 a2, .int .i64 b2, .int .i64 a1, .int .i64 b1]) (by first | exact Row.new wz _ _ | exact (Row.new wz _ _).alloc _ | exact new_at (by simp)) rfl HBND.out) (fun h => by have := lFb _ h; omega)) ?_; rintro e w3 ⟨rfl, hs, hm⟩; have hm1 : Mods Fb wz w3 := (by first | exact head2 hm | exact head1 hm); have HXb := Lib.hid (And.intro hs hm1); have HRb := Lib.hid hm; have z3 := hm1.size; have b0' := cell_mods b0 hm1 HNX.out.2.1; have b1'' := cell_mods b1' hm1 HNX.out.2.1; have y0' := cell_mods y0 hm1 HNX.out.2.2.2; have y1' := cell_mods y1 hm1 HNX.out.2.2.2; clear hs hm hm1)
                    | (go_at_call 14; refine Calls.mono (take_any _ w.heap.size _ 3 [(a1, b1), (a2, b2), (a1, b1)] Fa S k (by first | exact slabA_mods HSZ.out.a HXb.out.2 (fun b hb => HSZ.out.ab b hb) | exact slabA_keep (slabA_mods HSZ.out.a HXb.out.2 (fun b hb => HSZ.out.ab b hb)) (fun b hb => Below.heap_alloc w3 _ b (slabA_lt (slabA_mods HSZ.out.a HXb.out.2 (fun b hb => HSZ.out.ab b hb)) b hb))) (by simp) (pairs_row (t := 32) (cs := #[.int .i64 a1, .int .i64 b1, .int .i64 a2, .int .i64 b2, .int .i64 a1, .int .i64 b1]) (by first | exact Row.new w3 _ _ | exact Row.mods (w := (wz.alloc _).alloc _) ((Row.new wz _ _).alloc _) (of_drew HRb.out) (fun h => by have := lFb _ h; omega) | exact Row.mods (w := (wz.alloc _).alloc _) (new_at (by simp)) (of_drew HRb.out) (fun h => by have := lFb _ h; omega)) rfl HBND.out) (fun h => by have := lFa _ h; omega)) ?_; rintro e w4 ⟨rfl, hs, hm⟩; have hm1 : Mods Fa w3 w4 := (by first | exact hm | exact head3 hm); have HXa := Lib.hid (And.intro hs hm1); have b0'' := cell_mods b0' hm1 HNX.out.1; have b1''' := cell_mods b1'' hm1 HNX.out.1; have y0'' := cell_mods y0' hm1 HNX.out.2.2.1; have y1'' := cell_mods y1' hm1 HNX.out.2.2.1; clear hs hm hm1)
                    | (go_at_call 15; refine Calls.mono (rtake_any _ w1.heap.size _ 3 [(a1, b1), (a2, b2), (a1, b1)] Fb S k (by first | exact slabB_mods HSZ.out.b HXa.out.2 (fun b hb hb2 => HSZ.out.ab b hb2 hb) | exact slabB_keep (slabB_mods HSZ.out.b HXa.out.2 (fun b hb hb2 => HSZ.out.ab b hb2 hb)) (fun b hb => Below.heap_alloc w3 _ b (slabB_lt (slabB_mods HSZ.out.b HXa.out.2 (fun b hb hb2 => HSZ.out.ab b hb2 hb)) b hb))) (by simp) (pairs_row (t := 32) (cs := #[.int .i64 a1, .int .i64 b1, .int .i64 a2, .int .i64 b2, .int .i64 a1, .int .i64 b1]) (by first | exact Row.new w3 _ _ | exact Row.mods (w := (wz.alloc _).alloc _) ((Row.new wz _ _).alloc _) (of_drew HRa.out) (fun h => by have := lFa _ h; omega) | exact Row.mods (w := (wz.alloc _).alloc _) (new_at (by simp)) (of_drew HRa.out) (fun h => by have := lFa _ h; omega)) rfl HBND.out) (fun h => by have := lFb _ h; omega)) ?_; rintro e w4 ⟨rfl, hs, hm⟩; have hm1 : Mods Fb w3 w4 := (by first | exact hm | exact head3 hm); have HXb := Lib.hid (And.intro hs hm1); have b0'' := cell_mods b0' hm1 HNX.out.2.1; have b1''' := cell_mods b1'' hm1 HNX.out.2.1; have y0'' := cell_mods y0' hm1 HNX.out.2.2.2; have y1'' := cell_mods y1' hm1 HNX.out.2.2.2; clear hs hm hm1))
                all_goals
                  go_wp2
                  go_meet
                  first
                    | exact ⟨rfl, Lib.hid ⟨S.takes [(a1, b1), (a2, b2), (a1, b1)], Fa, Fb, L, a1, b1, (HSZ.out.stepAB HXa.out HXb.out).1.more (by omega), HR1.out.mods (HSZ.out.stepAB HXa.out HXb.out).2 HNF.out, HI1.out.1, HI1.out.2⟩⟩
                    | exact ⟨rfl, Lib.hid ⟨S.takes [(a1, b1), (a2, b2), (a1, b1)], Fa, Fb, L, a1, b1, (HSZ.out.stepBA HXb.out HXa.out).1.more (by omega), HR1.out.mods (HSZ.out.stepBA HXb.out HXa.out).2 HNF.out, HI1.out.1, HI1.out.2⟩⟩
              · by_cases k6 : kd = 6
                · subst k6
                  have c3 := HCZ.out.2.1
                  have c4 := HCZ.out.2.2
                  have fr := HR1.out.free
                  have HNX := Lib.hid (And.intro hxa (And.intro hxb (show wr.heap.size ∉ (Value.slice (some ⟨gb, 0, none⟩) L.length cg).ownBlock.toList from fun hb => by have := HNa.out _ (.inr (.inr hb)); omega)))
                  clear hxa hxb hca hcb k1 k3 k4 k5
                  go_wp2
                  go_meet
                  exact ⟨rfl, Lib.hid ⟨S, Fa, Fb, L, ha, hb, (HSZ.out.far (((Mods.refl _ wz).setCell (by simp) _).setCell (by simp) _) (HST.out.m.size) HNX.out.1 HNX.out.2.1 HNX.out.2.2).more (by omega), (HR1.out.set 0 _).set 1 _, I3, I4⟩⟩
                · have e1 : ((kd : Int) == 1) = false := by simpa using k1
                  clear hxa hxb hca hcb
                  go_wp2
                  go_meet
                  exact ⟨rfl, Lib.hid ⟨S, Fa, Fb, L, a1, b1, HSZ.out.more (by omega), HR1.out, HI1.out.1, HI1.out.2⟩⟩
      case rest =>
        obtain ⟨rfl, hr2⟩ := hcut
        obtain ⟨S2, Ga, Gb, L2, a, b, hst, hrow, ia, ib⟩ := hr2.out
        have HS2 := Lib.hid hst
        have HRW := Lib.hid hrow
        have b0 : wc.cell? ⟨wr.heap.size, 0, none⟩ = some (.int .i64 a) := hrow.cell 0
        have b1 : wc.cell? ⟨wr.heap.size, 1, none⟩ = some (.int .i64 b) := hrow.cell 1
        have IA := Lib.hid ia
        clear hst hrow hr2 ia ib
        go_wp2_with fail
        refine (get_any wc w.heap.size a b Ga S2 (k + 1) IA.out HS2.out.a).mono ?_
        rintro e w3 ⟨rfl, hm⟩
        have HM3 := Lib.hid hm
        have b0 := cell_mods b0 hm (by simp)
        have b1 := cell_mods b1 hm (by simp)
        clear hm
        go_wp2_with fail
        refine (rget_any w3 w1.heap.size a b Gb S2 (k + 1) IA.out (slabB_mods HS2.out.b HM3.out (by simp))).mono ?_
        rintro e w4 ⟨rfl, hm⟩
        have HM4 := Lib.hid (HM3.out.trans hm (by simp))
        have HS4 := Lib.hid (HS2.out.mods HM4.out)
        have x4 : w4.cell? ⟨w1.heap.size, 4, none⟩ = some (.int .i64 S2.cnt) := by
          obtain ⟨_, _, _, _, ⟨h1, _⟩, _⟩ := HS4.out.b
          exact h1.cell 4
        have HLn := Lib.hid (fun m : Nat => (len_any (w4.drewN m) w.heap.size Ga S2 (k + 1) (slabA_keep HS4.out.a fun _ _ => rfl)).mono fun _ _ ⟨p, q⟩ => (⟨p, q.symm⟩ : _ ∧ _))
        clear hm b0 b1
        generalize S2.getv a b = z at *
        generalize S2.gete a b = ze at *
        generalize S2.cnt = nc at *
        go_wp2
        go_quiet ((go_at_call 18; exact Calls.quiet_of_same (HLn.out _)))
        go_wp2
        go_roundw
        case rel => exact ⟨k + 1, by omega, by omega, by go_num, Lib.hid ⟨S2, Ga, Gb, L2, HS4.out.mods ((Mods.refl [] w4).drewN _)⟩⟩
        case measure => simp [intOf]; omega
    · have key : k < len ∧ k = 150 ∨ ¬ k < len := by omega
      have HAl := Lib.hid (slabA_ok HST.out.a)
      have hcase : (k < len ∧ k = 150) ∨ (¬ k < len) := key
      rcases hcase with ⟨h1, h2⟩ | h1
      all_goals
        clear hc key hk
        go_wp2_with fail
        refine (all_any wr _ Fa S k HST.out.a).mono ?_
        rintro e w3 ⟨va, rfl, hd⟩
        have HDa := Lib.hid hd.out
        clear hd
        go_wp2_with fail
        refine (rall_any w3 _ Fb S k (slabB_mods HST.out.b HDa.out.2.2 (by simp))).mono ?_
        rintro e w4 ⟨vb, rfl, hd⟩
        have HDb := Lib.hid hd.out
        clear hd
        go_wp2_with fail
        refine (handles_same w4 va vb S.all (by have := S.allTo_len S.us.length; have := HAl.out.len; have := HAl.out.hi; unfold Slb.all; omega) (own_mods HDa.out.1 HDb.out.2.2 (by simp)) HDb.out.1).mono ?_
        rintro e w5 ⟨rfl, hm⟩
        have HM5 := Lib.hid (((HST.out.m.trans HDa.out.2.2 (by simp)).trans HDb.out.2.2 (by simp)).trans hm (by simp))
        clear hm
        go_wp2_with fail
        refine (known_any _ (HT.out.mods HM5.out (by simp))).mono ?_
        rintro e w6 ⟨rfl, hm⟩
        have HM6 := Lib.hid (HM5.out.trans hm (by simp))
        clear hm
        go_wp2
        go_ret
        exact ⟨rfl, HM6.out.below⟩
theorem out1 (n : Int) (A : Option Addr) (len cap : Nat) (w : World) (ht : TzTab w) (h : n < 1 ∨ 4096 < n) :
    Calls Tryd.prog 3 #[.int .i64 n, .slice A len cap] w fun e w' => e = .returned (.bool true) ∧ Below w.heap.size w w' := by
  have HT := Lib.hid ht
  have HN := Lib.hid h
  clear ht h
  go_enter Tryd.func3, Tryd.ntmps3
  go_wp2_with fail
  refine (new_no n w HN.out).mono ?_
  rintro e w1 ⟨rfl, rfl⟩
  go_wp2_with fail
  refine (rnew_no n w HN.out).mono ?_
  rintro e w1 ⟨rfl, rfl⟩
  go_wp2_with fail
  refine (known_any _ HT.out).mono ?_
  rintro e w1 ⟨rfl, hm⟩
  have HM := Lib.hid hm
  clear hm
  go_wp2
  go_ret
  exact ⟨rfl, HM.out.below⟩
theorem walk (n : Int) (wf : (Lit.int .i64 n).wf = true) (v : Value) (w : World) (o : IsActs w v) (hL : laidMetH Tryd.prog Rows.slabPlaysRow.laid w) :
    Calls Tryd.prog 3 #[.int .i64 n, v] w fun e w' => e = .returned (.bool true) ∧ Below w.heap.size w w' := by
  rw [MakeChecks.laidMetH_plain _ _ _ (by kernel_rfl)] at hL
  have ht := tz_of hL rfl
  have both : ∀ (A : Option Addr) (len cap : Nat) (f : Nat → ActAt), len ≤ cap → len ≤ maxLen → (∀ j, j < len → ∃ b off, A = some ⟨b, off, none⟩ ∧ b < w.heap.size ∧ w.cell? ⟨b, off + j * 5, none⟩ = some (.int .i64 (f j).kind) ∧ w.cell? ⟨b, off + j * 5 + 1, none⟩ = some (.int .i64 (f j).n) ∧ w.cell? ⟨b, off + j * 5 + 2, none⟩ = some (.int .i64 (f j).k) ∧
      w.cell? ⟨b, off + j * 5 + 3, none⟩ = some (.int .i64 (f j).a) ∧ w.cell? ⟨b, off + j * 5 + 4, none⟩ = some (.int .i64 (f j).b) ∧ I64 (f j).kind ∧ I64 (f j).n ∧ I64 (f j).k ∧ I64 (f j).a ∧ I64 (f j).b) →
      Calls Tryd.prog 3 #[.int .i64 n, .slice A len cap] w fun e w' => e = .returned (.bool true) ∧ Below w.heap.size w w' := by
    intro A len cap f h1 h2 h3
    by_cases h : n < 1 ∨ 4096 < n
    · exact out1 n A len cap w ht h
    · obtain ⟨m, rfl⟩ := Int.eq_ofNat_of_zero_le (show 0 ≤ n by omega)
      exact main m (by omega) (by omega) A len cap f h1 h2 w ht h3
  rcases o with ⟨a, cap, rfl⟩ | ⟨b, off, len, cap, f, rfl, h0, hlc, hcm, hb, hf⟩
  · exact both a 0 cap (fun _ => ⟨0, 0, 0, 0, 0⟩) (Nat.zero_le _) (Nat.zero_le _) (fun j hj => absurd hj (by omega))
  · exact both _ len cap f hlc (by omega) (fun j hj => ⟨b, off, rfl, hb, hf j hj⟩)

theorem own : ownKnob Tryd.prog.godebug = none := by kernel_rfl
theorem laidOut : laidOutB Tryd.prog = true := by kernel_rfl
set_option maxRecDepth 100000 in
theorem lifted (os : Os) (started : os.Started) (H : Type) (enc : TypeId × Value → H) :
    ReturnsInHanded {} Tryd.checked os 3 .any (fun w args => (Rows.slabPlaysSpec.pre enc Tryd.prog Tryd.f3 [] false w args ∧ laidMetH Tryd.prog Rows.slabPlaysRow.laid w) ∧ sizedMet enc Tryd.prog Tryd.f3 (OpenSpec.ofChange Rows.slabPlaysSpec) false w args)
      (Rows.slabPlaysSpec.post enc Tryd.prog Tryd.f3 false true false false) := by
  refine returnsInHanded_of_change_and (C := Tryd.checked) (X := fun w _ => laidMetH Tryd.prog Rows.slabPlaysRow.laid w) (fun _ _ _ hh h => h.of_heap hh) own started (by kernel_rfl) Tryd.func3
    (ChangeSpec.witness_shaped (enc := enc) (C := Tryd.checked) (os := os) (X := fun w _ => laidMetH Tryd.prog Rows.slabPlaysRow.laid w) false (World.laidAll Tryd.prog os Rows.slabPlaysRow.laid) #[.int .i64 0, .slice none 0 0] 8 (World.laidAll_os _ _ _)
      (World.shaped_of_ZipB (by kernel_rfl) (by kernel_rfl)) (by kernel_rfl) (by kernel_rfl) (by kernel_rfl)
      (by rw [MakeChecks.laidMetH_plain _ _ _ (by kernel_rfl)]; exact laidMet_laidAll _ (by kernel_rfl) (by kernel_rfl))) ?_
  intro W base args ds gs before hval0 hW hcnd hsz0 hL _
  have hsz : (DataW.weightsEach Tryd.prog (Tryd.f3.params.toList ++ Rows.slabPlaysSpec.plain.varTypes Tryd.prog) (ds ++ gs)).all (· ≤ reachBytes) = true := hsz0
  have hval : ∀ (j : Nat) t v, Tryd.f3.params[j]? = some t → args[j]? = some v → Value.okWide Tryd.prog W .any base t v := hval0
  have hW' := hW
  obtain ⟨p, q, hA0, hV, rfl, hfz, hnd⟩ := hW
  have hA : DataW.TrodAll enc Tryd.prog W 0 (fun _ => true) true Tryd.f3.params.toList args.toList ds p := hA0
  rw [Tryd.params3] at hA hval hsz
  obtain ⟨v0, vs0, d0, ds0, p0, q0, hargs, rfl, rfl, h0, r0⟩ := trodAll_cons hA
  obtain ⟨v1, vs1, d1, ds1, p1, q1, rfl, rfl, rfl, h1, r1⟩ := trodAll_cons r0
  obtain ⟨rfl, rfl, rfl⟩ := trodAll_nil r1
  obtain rfl : args = #[v0, v1] := by cases args; simp_all
  obtain ⟨rfl, rfl⟩ := trodVars_none hV
  obtain ⟨a0, rfl, rfl, rfl, w0⟩ := open_int Tryd.underlying3 (hval 0 3 v0 rfl rfl) h0
  have k1 := h1
  have lt1 : ∀ x ∈ p1, x.block < W.heap.size := by obtain ⟨m, hm⟩ := k1; exact DataW.trod_lt m _ _ _ hm
  obtain o1 := open_acts (hval 1 22 v1 rfl rfl) k1
  clear hA0 hval0 hsz0 hsz
  refine (walk a0 w0 v1 W o1 hL).mono fun e W' ⟨he, bel⟩ => ?_
  subst he
  exact ⟨_, rfl, _, _, _, [], _, [], hW', trodAll_mk1 (shut_bool Tryd.underlying4 _), (trodAll_cons_mk (shut_int Tryd.underlying3 w0) (trodAll_cons_mk (Below.trod laidOut (by kernel_rfl) (of_decide_eq_true (by kernel_rfl)) k1 bel lt1) trodAll_mk0)), rfl, bel.frame _, fun h => by cases h⟩

theorem over : Rows.slabPlaysRow.holds Tryd.pinned (OpenSpec.ofChange Rows.slabPlaysSpec) :=
  OpenClaim.holds_of_wide 3 Tryd.f3 rfl rfl rfl rfl rfl rfl rfl ⟨rfl, rfl, rfl, rfl, rfl⟩ rfl rfl rfl rfl rfl (by kernel_rfl) Tryd.func3 (by kernel_rfl)
    (of_decide_eq_true (by kernel_rfl)) (by unfold Func.isWrapper; first | (rw [if_pos (by decide +kernel)]; kernel_rfl) | (rw [if_neg (by decide +kernel)]; exact ⟨rfl, rfl⟩))
    (fun os started H enc _ => lifted os started H enc)

theorem said : Rows.SlabPlaysSaid := over
theorem plain (f : FuncId) (fn : Func) (hf : Tryd.pinned.checked.prog.funcNamed "usher/usherlaw2.SlabPlays" = some f) (hfn : Tryd.pinned.checked.prog.funcs[f]? = some fn) :
    false = Tryd.pinned.checked.prog.looks [] ∧ ∀ (j : Nat) t, fn.params[j]? = some t → Tryd.pinned.checked.prog.wantsStandIn t = false := by
  obtain rfl : f = 3 := Option.some.inj ((show Tryd.prog.funcNamed "usher/usherlaw2.SlabPlays" = some 3 by kernel_rfl).symm.trans hf) |>.symm
  obtain rfl : fn = Tryd.f3 := (Option.some.inj (Tryd.func3.symm.trans hfn)).symm
  refine ⟨by kernel_rfl, fun j t ht => ?_⟩
  rw [Tryd.params3] at ht
  have hm : t ∈ [3, 22] := by simpa using Array.mem_of_getElem? ht
  simp only [List.mem_cons, List.mem_nil_iff, or_false] at hm
  rcases hm with rfl | rfl
  · exact (show Tryd.prog.wantsStandIn 3 = false by kernel_rfl)
  · exact (show Tryd.prog.wantsStandIn 22 = false by kernel_rfl)
theorem proved : Rows.SlabPlaysCardSaid :=
  Claim7.holds_tied_plain_at .later [] _ _ _ _ said (fun _ h => by cases h) (by kernel_rfl) (fun _ h => by cases h) slabPlays_row_tie rfl ⟨rfl, rfl⟩ (by kernel_rfl) rfl plain (by kernel_rfl)
end Go.Proofs.YtdkcdljhpopakaaDoor.slabPlays
