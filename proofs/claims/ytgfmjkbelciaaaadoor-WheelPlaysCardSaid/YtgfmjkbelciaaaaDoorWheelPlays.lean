/- For every time and script, the wheel answers Add, Reset, Cancel, Advance, Where, Next, Len and Now as the document says: the law returns true. Condition: the library's table of 64 is laid as its initialiser lays it. -/
import Derived.Test.YtgfmjkbelciaaaaDoorCards
import Derived.Test.YtgfmjkbelciaaaaDoorTie
import Derived.Lay
import Derived.LaidOnce
import Derived.MakeChecks
import Derived.SevenTiedAt
import Derived.WalkKit
import Derived.ProofKit
import Derived.OpenShut
import Derived.ShutString
import Derived.ChangeOld
import Derived.Below
import Derived.SizedLaws
import Derived.Test.YtgfmjkbelciaaaaDoorWhSt
import Derived.Test.YtgfmjkbelciaaaaDoorOpenW
import Derived.Test.YtgfmjkbelciaaaaDoorTz2
import Derived.Carry

namespace Go.Proofs.YtgfmjkbelciaaaaDoor.wheelPlays
open Go.ChangeShapes Go.WideShapes Go.ChangeAt Go.RowKit
open Go.ChangeMaps (open_string shut_string)
set_option linter.unusedVariables false
set_option maxRecDepth 100000
set_option linter.unusedSimpArgs false
theorem neq_bool (a b : Bool) (w : World) : (binOp .neq 4 (.bool a) (.bool b)).run Tryd.prog w = .ok (.bool (a != b)) w := by
  cases a <;> cases b <;> kernel_rfl
theorem own_pairs_at {w : World} {t : TypeId} {A : Option Addr} {n c j : Nat} {l : List (Int × Int)} {p : Int × Int} (h : OwnPairs w t (.slice A n c) l) (hj : l[j]? = some p) :
    ∃ ob, A = some ⟨ob, 0, none⟩ ∧ n = l.length ∧ w.cell? ⟨ob, j * 2, none⟩ = some (.int .i64 p.1) ∧ w.cell? ⟨ob, j * 2 + 1, none⟩ = some (.int .i64 p.2) := by
  have hl : j < l.length := (List.getElem?_eq_some_iff.1 hj).1
  obtain ⟨ob, cap, e, _, _, _⟩ := own_some h (by omega)
  injection e with e1 e2 e3
  subst e1 e2 e3
  have hf := flat_at l j p hj
  exact ⟨ob, rfl, rfl, by rw [World.ownsRow.cellAt h _ (by omega)]; exact hf.1, by rw [World.ownsRow.cellAt h _ (by omega)]; exact hf.2⟩
theorem after_sym (now : Nat) (n : Int) (w : World) (h : now ≤ 1099511627776) (h1 : -9223372036854775808 ≤ n) : Calls Tryd.prog 13 #[.int .i64 (now : Int), .int .i64 n] w fun e w' => e = .returned (.int .i64 (aft now n)) ∧ w = w' := (after_any now n w h h1).mono fun e w' ⟨a, b⟩ => ⟨a, b.symm⟩
theorem undrew {F : List Nat} {a b w : World} (h : Mods F b w) (e1 : b.heap = a.heap) (e2 : b.os = a.os) (e3 : b.tape = a.tape) (e4 : b.output = a.output) : Mods F a w := ((Mods.refl F a).same e1 e2 e3 e4).trans h (fun k hk => .inl hk)
theorem and65k (a : Int) : ∃ n : Nat, bits BinOp.and IntKind.i64 a 65535 = (n : Int) ∧ n < 65536 := and_mask a 16 (by omega)
theorem _root_.Go.Proofs.YtgfmjkbelciaaaaDoor.Two.given {w wr w' : World} {g x i K now q : Nat} {gv gv' : Value} {S : Slb} {F1 F2 : List Nat} {P : List Tm} {L : List Rt} {G : List (Int × Int)} {p : Int × Int} (h : Two w wr g x i gv S F1 F2 K now q P L G)
    (hm : Mods gv.ownBlock.toList wr w') (ho : OwnPairs w' 32 gv' (G ++ [p])) (hp : InI64 p) (hb : ∀ b ∈ gv'.ownBlock.toList, b ∈ gv.ownBlock.toList ∨ wr.heap.size ≤ b) (hl : G.length ≤ i) : Two w w' g x i gv' S F1 F2 K now q P L (G ++ [p]) :=
  ⟨h.a.aside hm (fun k hk hk2 => h.a.far_pairs h.own k hk2 hk) h.fg, h.b.mods hm (fun k hk hk2 => h.b.far_pairs h.own k hk2 hk), h.ag, ho, fun z hz => by
    rcases List.mem_append.1 hz with hz | hz
    · exact h.i64 z hz
    · rw [List.mem_singleton.1 hz]; exact hp, by simp, by simp; omega, h.fb, h.ab, fun k hk => by
    rcases hb k hk with h1 | h1
    · exact h.fg k h1
    · have := h.a.mods.size; omega, h.bK, h.bq, h.bL⟩
theorem head1 {F : List Nat} {a w : World} {o : Obj} (h : Mods F (a.alloc o).drew w) : Mods F a w := ((Mods.refl F a).alloc o).trans (of_drew h) (fun b hb => .inl hb)
theorem head2 {F : List Nat} {a w : World} {o o' : Obj} (h : Mods F ((a.alloc o).alloc o').drew w) : Mods F a w := (((Mods.refl F a).alloc o).alloc o').trans (of_drew h) (fun b hb => .inl hb)
theorem head3 {F : List Nat} {a w : World} {o : Obj} (h : Mods F (a.alloc o) w) : Mods F a w := ((Mods.refl F a).alloc o).trans h (fun b hb => .inl hb)
def R1 (w wr : World) (g x i : Nat) (gv : Value) : Prop := ∃ S F1 F2 K now q P L G, Two w wr g x i gv S F1 F2 K now q P L G
set_option maxHeartbeats 8000000 in
theorem main (n0 : Nat) (hn : n0 ≤ 1099511627776) (A : Option Addr) (len cap : Nat) (f : Nat → ActAt) (hlc : len ≤ cap) (hcm : len ≤ maxLen) (w : World) (ht : TzTab w)
    (hf : ∀ j, j < len → ∃ b off, A = some ⟨b, off, none⟩ ∧ b < w.heap.size ∧ w.cell? ⟨b, off + j * 5, none⟩ = some (.int .i64 (f j).kind) ∧ w.cell? ⟨b, off + j * 5 + 1, none⟩ = some (.int .i64 (f j).n) ∧ w.cell? ⟨b, off + j * 5 + 2, none⟩ = some (.int .i64 (f j).k) ∧
      w.cell? ⟨b, off + j * 5 + 3, none⟩ = some (.int .i64 (f j).a) ∧ w.cell? ⟨b, off + j * 5 + 4, none⟩ = some (.int .i64 (f j).b) ∧ I64 (f j).kind ∧ I64 (f j).n ∧ I64 (f j).k ∧ I64 (f j).a ∧ I64 (f j).b) :
    Calls Tryd.prog 3 #[.int .i64 (n0 : Int), .slice A len cap] w fun e w' => e = .returned (.bool true) ∧ Below w.heap.size w w' := by
  obtain ⟨i0, hi0, hz0, hz1, hz2⟩ := info_parts hand_info
  have HI := Lib.hid (And.intro hi0 (And.intro hz0 (And.intro hz1 hz2)))
  unfold maxLen at hcm
  have HT := Lib.hid ht
  have HF := Lib.hid hf
  have he := eql_whl
  have hnb := neq_bool
  have hqh := eql_hand
  have hqg := eqg_hand
  clear ht hf hi0 hz0 hz1 hz2
  go_enter Tryd.func3, Tryd.ntmps3
  go_wp2_with fail
  refine (b_new w n0 (Mods.refl [] w) hn).mono ?_
  rintro e w1 ⟨g, rfl, hf⟩
  obtain ⟨F1, ba, -, -⟩ := hf.out
  have HA1 := Lib.hid ba
  clear hf ba
  go_wp2_with fail
  refine (rwnew_any n0 w1 hn).mono ?_
  rintro e w2 ⟨x, rfl, hf⟩
  have H0 := Lib.hid (show R1 w (w2.alloc (.cells #[.int .i64 0, .int .i64 0] 32)) g x 0 (.slice (some ⟨w2.heap.size, 0, none⟩) 1 1) from by
    obtain ⟨F2, bb, mb, nb⟩ := hf.out
    have z1 := HA1.out.mods.size
    have z2 := mb.size
    have r := Row.new w2 32 #[.int .i64 0, .int .i64 0]
    have ma : Mods [] w2 (w2.alloc (.cells #[.int .i64 0, .int .i64 0] 32)) := (Mods.refl [] w2).alloc _
    refine ⟨_, F1, F2, 0, n0, 0, [], [], [(0, 0)], (HA1.out.step mb).step ma, bb.quiet ma, agree_nil _, ?_, by simp [InI64], by simp, by simp, fun k hk => by have := nb k hk; omega, fun k hk hk2 => by have := HA1.out.lt k hk; have := nb k hk2; omega, by simp [Value.ownBlock]; omega, by omega, by omega, by simp⟩
    exact ⟨rfl, .inr ⟨w2.heap.size, 1, #[.int .i64 0, .int .i64 0], rfl, Nat.zero_le _, r, Nat.le_refl _, by unfold maxLen; omega, rfl, rfl⟩⟩)
  clear hf HA1
  go_wp2_with fail
  go_loopw [9, 10, 11, 12, 13, 14, 15, 16, 17, 18, 19, 20, 21, 22, 23, 24, 25, 26, 27, 28, 29, 30] (fun gv i x1 x2 x3 x4 x5 x6 x7 x8 x9 y0 y1 y2 y3 y4 y5 y6 y7 y8 y9 z0 wr => ∃ k : Nat, k ≤ len ∧ k ≤ 120 ∧ i = .int .i64 k ∧ Hid (R1 w wr g x k gv)) (fun _ i _ _ _ _ _ _ _ _ _ _ _ _ _ _ _ _ _ _ _ _ _ => len - (intOf i).toNat)
  case atStart => exact ⟨0, by omega, by omega, rfl, H0⟩
  case round =>
    obtain ⟨k, hk, hk2, rfl, hr⟩ := hrel
    clear H0
    obtain ⟨S, F1, F2, K, now, q, P, L, G, hst⟩ := hr.out
    obtain ⟨Ag, cg, e, hg1, hg2⟩ := own_slice hst.own
    subst e
    unfold maxLen at hg2
    have hG1 := hst.pos
    have hG2 := hst.glen
    have HST := Lib.hid hst
    clear hst hr
    by_cases hc : k < len ∧ k < 120
    · obtain ⟨hlt, hlt2⟩ := hc
      obtain ⟨ab, ao, rfl, hab, c0, c1, c2, c3, c4, I0, I1, I2, I3, I4⟩ := HF.out k hlt
      have c0 := cell_mods c0 HST.out.a.mods (by simp)
      have c1 := cell_mods c1 HST.out.a.mods (by simp)
      have c2 := cell_mods c2 HST.out.a.mods (by simp)
      have c3 := cell_mods c3 HST.out.a.mods (by simp)
      have c4 := cell_mods c4 HST.out.a.mods (by simp)
      generalize (f k).kind = kd at *
      generalize (f k).n = vn at *
      generalize (f k).k = vk at *
      generalize (f k).a = ha at *
      generalize (f k).b = hb at *
      obtain ⟨qq, hqe, hq⟩ := and65k vk
      obtain ⟨r, hre, hr⟩ := and65k vn
      have hqn : qq % G.length < G.length := Nat.mod_lt _ (by omega)
      have hrn : r % G.length < G.length := Nat.mod_lt _ (by omega)
      obtain ⟨gb, rfl, _, d0, d1⟩ := own_pairs_at HST.out.own (List.getElem?_eq_getElem hqn)
      obtain ⟨gb', e, _, d2, d3⟩ := own_pairs_at HST.out.own (List.getElem?_eq_getElem hrn)
      injection e with e
      injection e with e _ _
      subst e
      have HI1 := Lib.hid (HST.out.i64 _ (List.getElem_mem hqn))
      have HI2 := Lib.hid (HST.out.i64 _ (List.getElem_mem hrn))
      generalize G[qq % G.length] = p1 at *
      generalize G[r % G.length] = p2 at *
      obtain ⟨a1, b1⟩ := p1
      obtain ⟨a2, b2⟩ := p2
      have q1 : (0 : Int) ≤ (qq : Int) % (G.length : Int) := by omega
      have q2 : (qq : Int) % (G.length : Int) < (G.length : Int) := by omega
      have r1 : (0 : Int) ≤ (r : Int) % (G.length : Int) := by omega
      have r2 : (r : Int) % (G.length : Int) < (G.length : Int) := by omega
      have a0 := fun o => cell_alloc c0 o
      have a1' := fun o => cell_alloc c1 o
      have a0' := fun o o' => cell_alloc (cell_alloc c0 o) o'
      have D2 := fun o => cell_alloc d2 o
      have D3 := fun o => cell_alloc d3 o
      go_upto_block 2 with fail
      obtain ⟨wz, hwz⟩ : ∃ wz : World, wz = (wr.alloc (.cells #[.int .i64 a1, .int .i64 b1] 32)).alloc (.cells #[.int .i64 a2, .int .i64 b2] 32) := ⟨_, rfl⟩
      have hmz : Mods [] wr wz := by rw [hwz]; exact ((Mods.refl [] wr).alloc _).alloc _
      have HSZ := Lib.hid (HST.out.quiet hmz)
      have HR1 := Lib.hid (show Row wz wr.heap.size 32 #[.int .i64 a1, .int .i64 b1] by rw [hwz]; exact (Row.new _ _ _).alloc _)
      have HR2 := Lib.hid (show Row wz (wr.heap.size + 1) 32 #[.int .i64 a2, .int .i64 b2] by rw [hwz]; exact new_at (by simp))
      have HCZ := Lib.hid (And.intro (cell_mods c1 hmz (by simp)) (And.intro (cell_mods c2 hmz (by simp)) (And.intro (cell_mods c3 hmz (by simp)) (cell_mods c4 hmz (by simp)))))
      have HAB := Lib.hid (show ab ∉ F1 ∧ ab ∉ F2 from ⟨fun h => by have := HST.out.a.new ab h; omega, fun h => by have := HST.out.fb ab h; omega⟩)
      have HC0 := Lib.hid (cell_mods c0 hmz (by simp))
      rw [← hwz]
      clear hwz hmz c0 c1 c2 c3 c4 a0 a1' a0' d0 d1 d2 d3 D2 D3 hqn hrn q1 q2 r1 r2 hqe hre hq hr
      have HKQ := Lib.hid (show K ≤ k + 1 ∧ q ≤ k + 1 from ⟨Nat.le_succ_of_le HST.out.bK, Nat.le_succ_of_le HST.out.bq⟩)
      go_cut [9, 13] (fun s9 s13 wx => s13 = .bool true ∧ Hid (R1 w wx g x (k + 1) s9))
      case first =>
        obtain ⟨c1, c2, c3, c4⟩ := HCZ.out
        have hcn := HSZ.out.cnt.2.1
        obtain ⟨Ax, cx, x1, x2, hxF⟩ := HSZ.out.b.cells
        have HXF := Lib.hid (show x ∉ F1 from fun h => HSZ.out.ab x h hxF)
        clear x1 hxF
        have hi1 := I1.1
        by_cases k1 : kd = 1
        · subst k1
          as_aux_lemma =>
            obtain ⟨hs, hg, er, S', K', q', P', L', hin, bK, bq, bL, hag, hxa, hxb⟩ := HSZ.out.add HT.out (by omega) (aft now vn) vk
            have HIN := Lib.hid hin
            have HBD := Lib.hid (And.intro bK (And.intro bq bL))
            have HAG := Lib.hid hag
            have HXA := Lib.hid hxa
            have HXB := Lib.hid hxb
            have e1 : (hs == hs) = true := by simp
            have e2 : (hg == hg) = true := by simp
            have e3 : (er == er) = true := by simp
            clear hin bK bq bL hag hxa hxb
            clear c1 c3 c4
            have c1 := HCZ.out.1
            have c0 := HC0.out
            go_wp2_with fail
            refine (after_any now vn wz hcn hi1).mono ?_
            rintro e w' ⟨rfl, rfl⟩
            go_wp2_with fail
            refine (HXA.out).mono ?_
            rintro e w3 ⟨rfl, hf⟩
            obtain ⟨G1, ba, ma, na⟩ := hf.out
            have HBA := Lib.hid ba
            have HMA := Lib.hid ma
            have HNA := Lib.hid na
            have c2 := cell_mods c2 ma HAB.out.1
            have a2' := fun o => cell_alloc c2 o
            have HRW := Lib.hid ((HSZ.out.b.mods ma (fun k hk hk2 => HSZ.out.ab k hk2 hk)).quiet ((Mods.refl [] w3).alloc (.cells #[.int .i64 hs, .int .i64 hg] 32)))
            clear hf ba ma na
            go_wp2_with fail
            refine (HXB.out _ HRW.out).mono ?_
            rintro e w4 ⟨rfl, hf⟩
            obtain ⟨G2, bb, mb, nb⟩ := hf.out
            have HT4 := Lib.hid (HSZ.out.both HBA.out HMA.out HNA.out ((Mods.refl [] w3).alloc (.cells #[.int .i64 hs, .int .i64 hg] 32)) bb mb nb HAG.out (Nat.le_succ k) HBD.out.1 HBD.out.2.1 HBD.out.2.2)
            have hz3 := HMA.out.size
            have HRA := Lib.hid (show Row w4 w3.heap.size 32 #[.int .i64 hs, .int .i64 hg] from (Row.new w3 _ _).mods mb (fun hb => by have := HSZ.out.b.lt _ hb; omega))
            have HO4 := Lib.hid (show OwnPairs w4 32 (.slice (some ⟨gb, 0, none⟩) G.length cg) G from HT4.out.1.own)
            clear hf bb mb nb HRW c2 a2' hz3
            go_wp2_with (at_builtin; refine wpList_append_lies _ rfl (.tmp 137) (.tmp 139) _ rfl 0 32 i0 _ 2 16 Tryd.underlying33 HI.out.1 HI.out.2.1 HI.out.2.2.1 HI.out.2.2.2 rfl (by omega) (.slice (some ⟨gb, 0, none⟩) G.length cg) G.length (flat G) rfl (own_mods HO4.out (((Mods.refl [] w4).alloc _).alloc _) (by simp)) ⟨w4.heap.size + 1, 0, none⟩ 1 1 [.int .i64 hs, .int .i64 hg] rfl rfl (World.news_of_block (new_at (by simp))) (hand_one _ _) (by omega) (by unfold maxLen; omega) (by omega) (Nat.zero_le _) (w4.heap.size + 2) (by simp) ?_; intro g1 cap1 w5 hown1 hg1 hat1 hlt1; have HO5 := Lib.hid hown1; have HT5 := Lib.hid hat1; have HM5 := Lib.hid (show Mods (Value.slice (some ⟨gb, 0, none⟩) G.length cg).ownBlock.toList ((w4.alloc (.cells #[.int .i64 hs, .int .i64 hg] 32)).alloc (.cells #[.int .i64 hs, .int .i64 hg] 32)) w5 from (Mods.refl _ _).grown hg1 (fun b hb => .inl (by rw [hb]; simp))); have HR5 := Lib.hid ((((HRA.out.alloc _).alloc _)).mods HM5.out (fun hb => by have := own_lt HSZ.out.own _ hb; have := HMA.out.size; omega)); have HR6 := Lib.hid ((((Row.new w4 32 #[.int .i64 hs, .int .i64 hg])).alloc _).mods HM5.out (fun hb => by have := own_lt HO4.out _ hb; omega)); have r0 := HR5.out.cell 0; have r1 := HR5.out.cell 1; have t0 := HR6.out.cell 0; have t1 := HR6.out.cell 1; clear hown1 hg1 hat1)
            go_meet
            case rel => exact ⟨rfl, Lib.hid ⟨S', G1, G2, K', now, q', P', L', G ++ [(hs, hg)], (HT4.out.1.quiet (((Mods.refl [] w4).alloc _).alloc _)).given HM5.out (by unfold OwnPairs; rw [flat_append, List.length_append]; exact HO5.out) HIN.out (fun b hb => by
              have e : b = g1 := by simpa [Value.ownBlock, eq_comm] using hb
              subst e
              rcases HT5.out with h | h
              · exact .inl (by rw [h]; simp)
              · exact .inr (by simp; omega)) (by omega)⟩⟩
        · by_cases k5 : kd = 5
          · subst k5
            as_aux_lemma =>
              obtain ⟨hs, hg, er, S', K', q', P', L', hin, bK, bq, bL, hag, hxa, hxb⟩ := HSZ.out.add HT.out (by omega) (vn) vk
              have HIN := Lib.hid hin
              have HBD := Lib.hid (And.intro bK (And.intro bq bL))
              have HAG := Lib.hid hag
              have HXA := Lib.hid hxa
              have HXB := Lib.hid hxb
              have e1 : (hs == hs) = true := by simp
              have e2 : (hg == hg) = true := by simp
              have e3 : (er == er) = true := by simp
              clear hin bK bq bL hag hxa hxb
              clear c3 c4 x2
              have c0 := HC0.out
              go_wp2_with fail
              refine (HXA.out).mono ?_
              rintro e w3 ⟨rfl, hf⟩
              obtain ⟨G1, ba, ma, na⟩ := hf.out
              have HBA := Lib.hid ba
              have HMA := Lib.hid ma
              have HNA := Lib.hid na
              have c2 := cell_mods c2 ma HAB.out.1
              have a2' := fun o => cell_alloc c2 o
              have HRW := Lib.hid ((HSZ.out.b.mods ma (fun k hk hk2 => HSZ.out.ab k hk2 hk)).quiet ((Mods.refl [] w3).alloc (.cells #[.int .i64 hs, .int .i64 hg] 32)))
              clear hf ba ma na
              go_wp2_with fail
              refine (HXB.out _ HRW.out).mono ?_
              rintro e w4 ⟨rfl, hf⟩
              obtain ⟨G2, bb, mb, nb⟩ := hf.out
              have HT4 := Lib.hid (HSZ.out.both HBA.out HMA.out HNA.out ((Mods.refl [] w3).alloc (.cells #[.int .i64 hs, .int .i64 hg] 32)) bb mb nb HAG.out (Nat.le_succ k) HBD.out.1 HBD.out.2.1 HBD.out.2.2)
              have hz3 := HMA.out.size
              have HRA := Lib.hid (show Row w4 w3.heap.size 32 #[.int .i64 hs, .int .i64 hg] from (Row.new w3 _ _).mods mb (fun hb => by have := HSZ.out.b.lt _ hb; omega))
              have HO4 := Lib.hid (show OwnPairs w4 32 (.slice (some ⟨gb, 0, none⟩) G.length cg) G from HT4.out.1.own)
              clear hf bb mb nb HRW c2 a2' hz3
              go_wp2_with (at_builtin; refine wpList_append_lies _ rfl (.tmp 137) (.tmp 139) _ rfl 0 32 i0 _ 2 16 Tryd.underlying33 HI.out.1 HI.out.2.1 HI.out.2.2.1 HI.out.2.2.2 rfl (by omega) (.slice (some ⟨gb, 0, none⟩) G.length cg) G.length (flat G) rfl (own_mods HO4.out (((Mods.refl [] w4).alloc _).alloc _) (by simp)) ⟨w4.heap.size + 1, 0, none⟩ 1 1 [.int .i64 hs, .int .i64 hg] rfl rfl (World.news_of_block (new_at (by simp))) (hand_one _ _) (by omega) (by unfold maxLen; omega) (by omega) (Nat.zero_le _) (w4.heap.size + 2) (by simp) ?_; intro g1 cap1 w5 hown1 hg1 hat1 hlt1; have HO5 := Lib.hid hown1; have HT5 := Lib.hid hat1; have HM5 := Lib.hid (show Mods (Value.slice (some ⟨gb, 0, none⟩) G.length cg).ownBlock.toList ((w4.alloc (.cells #[.int .i64 hs, .int .i64 hg] 32)).alloc (.cells #[.int .i64 hs, .int .i64 hg] 32)) w5 from (Mods.refl _ _).grown hg1 (fun b hb => .inl (by rw [hb]; simp))); have HR5 := Lib.hid ((((HRA.out.alloc _).alloc _)).mods HM5.out (fun hb => by have := own_lt HSZ.out.own _ hb; have := HMA.out.size; omega)); have HR6 := Lib.hid ((((Row.new w4 32 #[.int .i64 hs, .int .i64 hg])).alloc _).mods HM5.out (fun hb => by have := own_lt HO4.out _ hb; omega)); have r0 := HR5.out.cell 0; have r1 := HR5.out.cell 1; have t0 := HR6.out.cell 0; have t1 := HR6.out.cell 1; clear hown1 hg1 hat1)
              go_meet
              case rel => exact ⟨rfl, Lib.hid ⟨S', G1, G2, K', now, q', P', L', G ++ [(hs, hg)], (HT4.out.1.quiet (((Mods.refl [] w4).alloc _).alloc _)).given HM5.out (by unfold OwnPairs; rw [flat_append, List.length_append]; exact HO5.out) HIN.out (fun b hb => by
                have e : b = g1 := by simpa [Value.ownBlock, eq_comm] using hb
                subst e
                rcases HT5.out with h | h
                · exact .inl (by rw [h]; simp)
                · exact .inr (by simp; omega)) (by omega)⟩⟩
          · have e1k : ((kd : Int) == 1) = false := by simpa using k1
            have e5k : ((kd : Int) == 5) = false := by simpa using k5
            have b0 : wz.cell? ⟨wr.heap.size, 0, none⟩ = some (.int .i64 a1) := HR1.out.cell 0
            have b1' : wz.cell? ⟨wr.heap.size, 1, none⟩ = some (.int .i64 b1) := HR1.out.cell 1
            have HNF := Lib.hid (show wr.heap.size ∉ F1 ∧ wr.heap.size ∉ F2 ∧ wr.heap.size + 1 ∉ F1 ∧ wr.heap.size + 1 ∉ F2 from ⟨HSZ.out.a.far_hand HR1.out, HSZ.out.b.far_hand HR1.out, HSZ.out.a.far_hand HR2.out, HSZ.out.b.far_hand HR2.out⟩)
            by_cases k2 : kd = 2
            · subst k2
              as_aux_lemma =>
                obtain ⟨er, q', P', L', bq, bL, hag, hxa, hxb⟩ := HSZ.out.reset (by omega) a1 b1 (aft now vn) HI1.out
                have HXA := Lib.hid hxa
                have HXB := Lib.hid hxb
                have HAG := Lib.hid hag
                have HBD := Lib.hid (And.intro bq bL)
                have e3 : (er == er) = true := by simp
                clear hxa hxb hag bq bL c2 c3 c4 k1 k5
                go_upto_region 25 with fail
                go_region_held3 (fun w' => w'.cell? ⟨wr.heap.size, 0, none⟩ = some (.int .i64 a1) ∧ w'.cell? ⟨wr.heap.size, 1, none⟩ = some (.int .i64 b1) ∧ w'.cell? ⟨x, 2, none⟩ = some (.int .i64 (now : Int)) ∧ w'.cell? ⟨ab, ao + k * 5 + 1, none⟩ = some (.int .i64 vn)) (go_keep)
                  (first
                    | (go_at_call 13; refine Calls.mono (after_sym now vn _ hcn hi1) ?_; rintro e w9 ⟨rfl, rfl⟩)
                    | (go_at_call 16; refine Calls.mono (HXA.out _ ?_) ?_; exact HSZ.out.a.step ((Mods.refl [] wz).same rfl rfl rfl rfl); rintro e w3 ⟨rfl, hf⟩; obtain ⟨G1, ba, ma, na⟩ := hf.out; have ma := undrew (a := wz) ma rfl rfl rfl rfl; have na : ∀ k ∈ G1, k ∈ F1 ∨ wz.heap.size ≤ k := na; have HBA := Lib.hid (And.intro ba (And.intro ma na)); have g0 := cell_mods b0 ma HNF.out.1; have g1 := cell_mods b1' ma HNF.out.1; have g2 := cell_mods x2 ma HXF.out; have g3 := cell_mods c1 ma HAB.out.1; clear hf ba ma na)
                    | (go_at_call 17; refine Calls.mono (HXB.out _ ?_) ?_; exact (HSZ.out.b.mods HBA.out.2.1 (fun k hk hk2 => HSZ.out.ab k hk2 hk)).quiet ((Mods.refl [] w3).same rfl rfl rfl rfl); rintro e w4 ⟨rfl, hf⟩; obtain ⟨G2, bb, mb, nb⟩ := hf.out; have mb := undrew (a := w3) mb rfl rfl rfl rfl; have nb : ∀ k ∈ G2, k ∈ F2 ∨ w3.heap.size ≤ k := nb; have HT4 := Lib.hid (HSZ.out.both HBA.out.1 HBA.out.2.1 HBA.out.2.2 (Mods.refl [] w3) bb mb nb HAG.out (Nat.le_succ k) HKQ.out.1 HBD.out.1 HBD.out.2); have g4 : w4.cell? ⟨wr.heap.size, 0, none⟩ = some (.int .i64 a1) := cell_mods g0 mb HNF.out.2.1; have g5 := cell_mods g1 mb HNF.out.2.1; have g6 := cell_mods g3 mb HAB.out.2; obtain ⟨_, _, _, g7, _⟩ := bb.cells; clear hf bb mb nb))
                all_goals
                  go_wp2
                  go_meet
                  exact ⟨rfl, Lib.hid ⟨_, _, _, _, _, _, _, _, _, HT4.out.1.quiet ((Mods.refl [] w4).same rfl rfl rfl rfl)⟩⟩
            · by_cases k3 : kd = 3
              · subst k3
                as_aux_lemma =>
                  obtain ⟨nn, S', P', L', bL, hag, hxa, hxb⟩ := HSZ.out.cancel (by omega) [(a1, b1), (a2, b2)] (by simp)
                  have HXA := Lib.hid hxa
                  have HXB := Lib.hid hxb
                  have HAG := Lib.hid hag
                  have HBL := Lib.hid bL
                  have e3 : (nn == nn) = true := by simp
                  have y0 : wz.cell? ⟨wr.heap.size + 1, 0, none⟩ = some (.int .i64 a2) := HR2.out.cell 0
                  have y1 : wz.cell? ⟨wr.heap.size + 1, 1, none⟩ = some (.int .i64 b2) := HR2.out.cell 1
                  have HBND := Lib.hid (show ∀ p ∈ [(a1, b1), (a2, b2)], (-9223372036854775808 ≤ p.1 ∧ p.1 ≤ 9223372036854775807) ∧ (-9223372036854775808 ≤ p.2 ∧ p.2 ≤ 9223372036854775807) from by
                    have j1 := HI1.out
                    have j2 := HI2.out
                    unfold InI64 at j1 j2
                    simp only [List.mem_cons, List.mem_nil_iff, or_false]
                    intro p hp
                    rcases hp with rfl | rfl
                    · exact j1
                    · exact j2)
                  have lFa := fun b hb => HSZ.out.a.lt b hb
                  have lFb := fun b hb => HSZ.out.b.lt b hb
                  clear hxa hxb hag bL c1 c2 c3 c4 x2 k1 k5 k2
                  go_upto_region 27 with fail
                  go_region_held3 (fun w' => w'.cell? ⟨wr.heap.size, 0, none⟩ = some (.int .i64 a1) ∧ w'.cell? ⟨wr.heap.size, 1, none⟩ = some (.int .i64 b1) ∧ w'.cell? ⟨wr.heap.size + 1, 0, none⟩ = some (.int .i64 a2) ∧ w'.cell? ⟨wr.heap.size + 1, 1, none⟩ = some (.int .i64 b2)) (go_keep)
                    (first
                      | (go_at_call 18; refine Calls.mono (HXA.out _ _ _ 2 ?_ ?_ ?_ rfl) ?_; (first | exact HSZ.out.a.step (((Mods.refl [] wz).alloc _).same rfl rfl rfl rfl) | exact HSZ.out.a.step ((((Mods.refl [] wz).alloc _).alloc _).same rfl rfl rfl rfl)); (refine pairs_row (t := 32) (cs := #[.int .i64 a1, .int .i64 b1, .int .i64 a2, .int .i64 b2]) ?_ rfl HBND.out; first | exact Row.new wz _ _ | exact (Row.new wz _ _).alloc _ | exact new_at (by simp)); (intro h; have := lFa _ h; omega); rintro e w3 ⟨rfl, hf⟩; obtain ⟨G1, ba, ma0, na⟩ := hf.out; have ma : Mods F1 wz w3 := (by first | exact head2 ma0 | exact head1 ma0); have na : ∀ k ∈ G1, k ∈ F1 ∨ wz.heap.size ≤ k := (fun k hk => (na k hk).imp id (fun h => by simp at h; omega)); have HBA := Lib.hid (And.intro ba (And.intro ma na)); have HRa := Lib.hid ma0; have z3 := ma.size; have g0 := cell_mods b0 ma HNF.out.1; have g1 := cell_mods b1' ma HNF.out.1; have g2 := cell_mods y0 ma HNF.out.2.2.1; have g3 := cell_mods y1 ma HNF.out.2.2.1; clear hf ba ma ma0 na)
                      | (go_at_call 19; refine Calls.mono (HXB.out _ _ _ 2 ?_ ?_ ?_ rfl) ?_; (first | exact (HSZ.out.b.mods HBA.out.2.1 (fun k hk hk2 => HSZ.out.ab k hk2 hk)).quiet (((Mods.refl [] w3).alloc _).same rfl rfl rfl rfl) | exact (HSZ.out.b.mods HBA.out.2.1 (fun k hk hk2 => HSZ.out.ab k hk2 hk)).quiet ((Mods.refl [] w3).same rfl rfl rfl rfl)); (refine pairs_row (t := 32) (cs := #[.int .i64 a1, .int .i64 b1, .int .i64 a2, .int .i64 b2]) ?_ rfl HBND.out; first | exact Row.new w3 _ _ | exact Row.mods (w := (wz.alloc _).alloc _) ((Row.new wz _ _).alloc _) (of_drew HRa.out) (fun h => by have := lFa _ h; omega) | exact Row.mods (w := (wz.alloc _).alloc _) (new_at (by simp)) (of_drew HRa.out) (fun h => by have := lFa _ h; omega)); (intro h; have := lFb _ h; omega); rintro e w4 ⟨rfl, hf⟩; obtain ⟨G2, bb, mb0, nb⟩ := hf.out; have mb : Mods F2 w3 w4 := (by first | exact head3 mb0 | exact undrew mb0 rfl rfl rfl rfl); have nb : ∀ k ∈ G2, k ∈ F2 ∨ w3.heap.size ≤ k := (fun k hk => (nb k hk).imp id (fun h => by first | exact h | (simp at h; omega))); have HT4 := Lib.hid (HSZ.out.both HBA.out.1 HBA.out.2.1 HBA.out.2.2 (Mods.refl [] w3) bb mb nb HAG.out (Nat.le_succ k) HKQ.out.1 HKQ.out.2 HBL.out); have g4 := cell_mods g0 mb HNF.out.2.1; have g5 := cell_mods g1 mb HNF.out.2.1; have g6 := cell_mods g2 mb HNF.out.2.2.2; have g7 := cell_mods g3 mb HNF.out.2.2.2; clear hf bb mb mb0 nb))
                  all_goals
                    go_wp2
                    go_meet
                    exact ⟨rfl, Lib.hid ⟨_, _, _, _, _, _, _, _, _, HT4.out.1.quiet ((Mods.refl [] w4).same rfl rfl rfl rfl)⟩⟩
              · by_cases k4 : kd = 4
                · subst k4
                  as_aux_lemma =>
                    have HAF := Lib.hid (fun m : Nat => after_any now vn (wz.drewN m) hcn hi1)
                    clear c2 c3 c4 b0 b1' k1 k5 k2 k3
                    go_upto_region 29 with fail
                    go_quiet ((go_at_call 13; exact Calls.quiet_of_same (HAF.out _)))
                    have HSQ := Lib.hid (HSZ.out.quiet ((Mods.refl [] wz).drewN nq))
                    obtain ⟨m, t, S', P', l, hlm, hm6, hxa, hxb⟩ := HSQ.out.advance (by omega) (aft now vn)
                    have HXA := Lib.hid hxa
                    have HXB := Lib.hid hxb
                    have HLM := Lib.hid (And.intro hlm hm6)
                    clear hxa hxb hlm hm6 HAF c1 x2
                    go_wp2_with fail
                    refine HXA.out.mono ?_
                    rintro e w3 ⟨A3, c3, rfl, hf⟩
                    obtain ⟨o3, n3, G1, ba, ma, na⟩ := hf.out
                    have HBA := Lib.hid (And.intro ba (And.intro ma na))
                    have HO3 := Lib.hid o3
                    have HN3 := Lib.hid n3
                    have HB3 := Lib.hid (HSQ.out.b.mods ma (fun k hk hk2 => HSQ.out.ab k hk2 hk))
                    clear hf o3 n3 ba ma na
                    go_wp2_with fail
                    refine (HXB.out _ HB3.out).mono ?_
                    rintro e w4 ⟨A4, c4, rfl, hf⟩
                    obtain ⟨o4, G2, L', bb, mb, nb, hag, hl'⟩ := hf.out
                    have HT4 := Lib.hid (HSQ.out.both HBA.out.1 HBA.out.2.1 HBA.out.2.2 (Mods.refl [] w3) bb mb nb hag (Nat.le_succ k) (by have := HSZ.out.bK; omega) (by have := HSZ.out.bq; omega) hl')
                    have HIY := Lib.hid (ints_yes w4 A3 A4 m m c3 c4 l HLM.out.1.symm HLM.out.1.symm (by have := HLM.out; omega) ((HO3.out.mods mb (fun k hk hk2 => by have := HN3.out k hk; have := HSQ.out.b.lt k hk2; omega)).src) o4.src)
                    clear hf o4 bb mb nb hag hl'
                    go_wp2_with fail
                    refine HIY.out.mono ?_
                    rintro e w5 ⟨rfl, k5, rfl⟩
                    go_wp2
                    go_meet
                    case rel => exact ⟨rfl, Lib.hid ⟨_, _, _, _, _, _, _, _, _, HT4.out.1.quiet ((Mods.refl [] w4).drewN k5)⟩⟩
                · by_cases k6 : kd = 6
                  · subst k6
                    as_aux_lemma =>
                      obtain ⟨er, q', P', L', bq, bL, hag, hxa, hxb⟩ := HSZ.out.reset (by omega) ha hb (now : Int) ⟨I3, I4⟩
                      have HXA := Lib.hid hxa
                      have HXB := Lib.hid hxb
                      have HAG := Lib.hid hag
                      have HBD := Lib.hid (And.intro bq bL)
                      have e3 : (er == er) = true := by simp
                      clear hxa hxb hag bq bL c2 c1 k1 k5 k2 k3 k4 b0 b1'
                      go_upto_region 32 with fail
                      go_region_held3 (fun w' => w'.cell? ⟨x, 2, none⟩ = some (.int .i64 (now : Int)) ∧ w'.cell? ⟨ab, ao + k * 5 + 3, none⟩ = some (.int .i64 ha) ∧ w'.cell? ⟨ab, ao + k * 5 + 4, none⟩ = some (.int .i64 hb)) (go_keep)
                        (first
                          | (go_at_call 16; refine Calls.mono (HXA.out _ ?_) ?_; exact HSZ.out.a.step ((Mods.refl [] wz).same rfl rfl rfl rfl); rintro e w3 ⟨rfl, hf⟩; obtain ⟨G1, ba, ma, na⟩ := hf.out; have ma := undrew (a := wz) ma rfl rfl rfl rfl; have na : ∀ k ∈ G1, k ∈ F1 ∨ wz.heap.size ≤ k := na; have HBA := Lib.hid (And.intro ba (And.intro ma na)); have g0 := cell_mods c3 ma HAB.out.1; have g1 := cell_mods c4 ma HAB.out.1; have g2 := cell_mods x2 ma HXF.out; clear hf ba ma na)
                          | (go_at_call 17; refine Calls.mono (HXB.out _ ?_) ?_; exact (HSZ.out.b.mods HBA.out.2.1 (fun k hk hk2 => HSZ.out.ab k hk2 hk)).quiet ((Mods.refl [] w3).same rfl rfl rfl rfl); rintro e w4 ⟨rfl, hf⟩; obtain ⟨G2, bb, mb, nb⟩ := hf.out; have mb := undrew (a := w3) mb rfl rfl rfl rfl; have nb : ∀ k ∈ G2, k ∈ F2 ∨ w3.heap.size ≤ k := nb; have HT4 := Lib.hid (HSZ.out.both HBA.out.1 HBA.out.2.1 HBA.out.2.2 (Mods.refl [] w3) bb mb nb HAG.out (Nat.le_succ k) HKQ.out.1 HBD.out.1 HBD.out.2); have g4 := cell_mods g0 mb HAB.out.2; have g5 := cell_mods g1 mb HAB.out.2; obtain ⟨_, _, _, g7, _⟩ := bb.cells; clear hf bb mb nb))
                      all_goals
                        go_wp2
                        go_meet
                        exact ⟨rfl, Lib.hid ⟨_, _, _, _, _, _, _, _, _, HT4.out.1.quiet ((Mods.refl [] w4).same rfl rfl rfl rfl)⟩⟩
                  · --<
                    clear c1 c2 c3 c4 b0 b1' x2
                    have e2k : ((kd : Int) == 2) = false := by simpa using k2
                    have e3k : ((kd : Int) == 3) = false := by simpa using k3
                    have e4k : ((kd : Int) == 4) = false := by simpa using k4
                    have e6k : ((kd : Int) == 6) = false := by simpa using k6
                    go_wp2
                    go_meet
                    exact ⟨rfl, Lib.hid ⟨_, _, _, _, _, _, _, _, _, HSZ.out.more (Nat.le_succ k)⟩⟩
      case rest =>
        as_aux_lemma =>
          obtain ⟨rfl, hr2⟩ := hcut
          obtain ⟨S2, H1, H2, K2, now2, q2, P2, L2, G2, hst⟩ := hr2.out
          obtain ⟨A2, cg2, e, hj1, hj2⟩ := own_slice hst.own
          subst e
          unfold maxLen at hj2
          have HS2 := Lib.hid hst
          obtain ⟨u, v, hN1, hN2⟩ := hst.next
          have HN1 := Lib.hid hN1
          have HN2 := Lib.hid hN2
          have hg3 := hst.glen
          clear hst hr2 hN1 hN2
          go_wp2_with fail
          refine (HN1.out _ HS2.out.a).mono ?_
          rintro e w3 ⟨rfl, rfl⟩
          go_wp2_with fail
          refine (HN2.out _ HS2.out.b).mono ?_
          rintro e w4 ⟨rfl, hm⟩
          have HS4 := Lib.hid (HS2.out.quiet hm)
          obtain ⟨Ax, cx, x1, x2, -⟩ := HS4.out.b.cells
          have HLn := Lib.hid (fun m : Nat => (b_len (w4.drewN m) g H1 S2 K2 now2 P2 (L2.length : Int) (HS4.out.a.step ((Mods.refl [] w4).drewN m)) (by rw [HS4.out.ag.len])).mono fun _ _ ⟨p, q⟩ => (⟨p, q.symm⟩ : _ ∧ _))
          have HNw := Lib.hid (fun m : Nat => (b_now (w4.drewN m) g H1 S2 K2 now2 P2 (HS4.out.a.step ((Mods.refl [] w4).drewN m))).mono fun _ _ ⟨p, q⟩ => (⟨p, q.symm⟩ : _ ∧ _))
          have e1 : (u != u) = false := by simp
          have e2 : (v != v) = false := by simp
          clear hm
          go_wp2
          go_quiet ((first | (go_at_call 25; exact Calls.quiet_of_same (HLn.out _)) | (go_at_call 26; exact Calls.quiet_of_same (HNw.out _))))
          have HS5 := Lib.hid (HS4.out.quiet ((Mods.refl [] w4).drewN nq))
          clear HLn HNw x1 x2 HN1 HN2
          go_wp2
          go_loopw [24, 25, 26, 27, 28, 29, 30] (fun jv _ _ _ _ _ _ wx => ∃ j : Nat, jv = .int .i64 (j : Int) ∧ j ≤ G2.length ∧ j ≤ 30 ∧ Hid (Two w wx g x (k + 1) (.slice A2 G2.length cg2) S2 H1 H2 K2 now2 q2 P2 L2 G2)) (fun jv _ _ _ _ _ _ _ => G2.length - (intOf jv).toNat)
          case atStart => exact ⟨0, rfl, by omega, by omega, HS5⟩
          case round =>
            clear HS5
            obtain ⟨j, rfl, hj, hj30, hr⟩ := hrel
            have HSJ := hr
            clear hr
            by_cases hcj : j < G2.length ∧ j < 30
            · obtain ⟨hjl, hjl3⟩ := hcj
              obtain ⟨gb2, rfl, _, d0, d1⟩ := own_pairs_at HSJ.out.own (List.getElem?_eq_getElem hjl)
              have hpi := HSJ.out.i64 _ (List.getElem_mem hjl)
              generalize G2[j] = p at *
              obtain ⟨a, b⟩ := p
              obtain ⟨uu, vv, er, hW1, hW2⟩ := HSJ.out.where_ a b hpi
              have HW1 := Lib.hid hW1
              have HW2 := Lib.hid hW2
              have n1 : (uu != uu) = false := by simp
              have n2 : (vv != vv) = false := by simp
              have n3 : (er != er) = false := by simp
              have q1 : (j : Int) < (G2.length : Int) := by omega
              have q2' : (j : Int) < 30 := by omega
              clear hpi hW1 hW2
              go_wp2_with fail
              refine (HW1.out _ HSJ.out.a).mono ?_
              rintro e w6 ⟨rfl, hm⟩
              have HS6 := Lib.hid (HSJ.out.quiet hm)
              have d0 := cell_mods d0 hm (by simp)
              have d1 := cell_mods d1 hm (by simp)
              clear hm
              go_wp2_with fail
              refine (HW2.out _ HS6.out.b).mono ?_
              rintro e w7 ⟨rfl, hm⟩
              have HS7 := Lib.hid (HS6.out.quiet hm)
              clear hm d0 d1
              go_wp2
              go_roundw
              case rel => exact ⟨j + 1, by go_num, by omega, by omega, HS7⟩
              case measure => simp [intOf]; omega
            · have hjc : (¬ j < G2.length) ∨ (j < G2.length ∧ j = 30) := by omega
              rcases hjc with h1 | ⟨h1, h2⟩
              · have q1 : ¬ (j : Int) < (G2.length : Int) := by omega
                clear hcj
                go_wp2
                go_roundw
                case rel => exact ⟨k + 1, by omega, by omega, by go_num, Lib.hid ⟨_, _, _, _, _, _, _, _, _, HSJ.out⟩⟩
                case measure => simp [intOf]; omega
              · subst h2
                have q1 : ((30 : Nat) : Int) < (G2.length : Int) := by omega
                clear hcj
                go_wp2
                go_roundw
                case rel => exact ⟨k + 1, by omega, by omega, by go_num, Lib.hid ⟨_, _, _, _, _, _, _, _, _, HSJ.out⟩⟩
                case measure => simp [intOf]; omega
    · --<
      have hcase : (k < len ∧ k = 120) ∨ (¬ k < len) := by omega
      rcases hcase with ⟨h1, h2⟩ | h1
      all_goals
        clear hc hk
        go_wp2_with fail
        refine (known_any _ (HT.out.mods HST.out.a.mods (by simp))).mono ?_
        rintro e w6 ⟨rfl, hm⟩
        have HM6 := Lib.hid (HST.out.a.mods.trans hm (by simp))
        clear hm
        go_wp2
        go_ret
        exact ⟨rfl, HM6.out.below⟩
theorem out1 (n : Int) (A : Option Addr) (len cap : Nat) (w : World) (ht : TzTab w) (h : n < 0 ∨ 1099511627776 < n) :
    Calls Tryd.prog 3 #[.int .i64 n, .slice A len cap] w fun e w' => e = .returned (.bool true) ∧ Below w.heap.size w w' := by
  have HT := Lib.hid ht
  have HN := Lib.hid h
  have he := eql_whl
  have hnb := neq_bool
  clear ht h
  go_enter Tryd.func3, Tryd.ntmps3
  go_wp2_with fail
  refine (wnew_no n w HN.out).mono ?_
  rintro e w1 ⟨rfl, rfl⟩
  go_wp2_with fail
  refine (rwnew_no n w HN.out).mono ?_
  rintro e w1 ⟨rfl, rfl⟩
  go_wp2_with fail
  refine (known_any _ HT.out).mono ?_
  rintro e w1 ⟨rfl, hm⟩
  have HM := Lib.hid hm
  clear hm
  go_wp2
  go_ret
  exact ⟨rfl, HM.out.below⟩
theorem walk (n : Int) (wf : (Lit.int .i64 n).wf = true) (v : Value) (w : World) (o : IsActs w v) (hL : laidMetH Tryd.prog Rows.wheelPlaysRow.laid w) :
    Calls Tryd.prog 3 #[.int .i64 n, v] w fun e w' => e = .returned (.bool true) ∧ Below w.heap.size w w' := by
  rw [MakeChecks.laidMetH_plain _ _ _ (by kernel_rfl)] at hL
  have ht := tz_of hL rfl
  have both : ∀ (A : Option Addr) (len cap : Nat) (f : Nat → ActAt), len ≤ cap → len ≤ maxLen → (∀ j, j < len → ∃ b off, A = some ⟨b, off, none⟩ ∧ b < w.heap.size ∧ w.cell? ⟨b, off + j * 5, none⟩ = some (.int .i64 (f j).kind) ∧ w.cell? ⟨b, off + j * 5 + 1, none⟩ = some (.int .i64 (f j).n) ∧ w.cell? ⟨b, off + j * 5 + 2, none⟩ = some (.int .i64 (f j).k) ∧
      w.cell? ⟨b, off + j * 5 + 3, none⟩ = some (.int .i64 (f j).a) ∧ w.cell? ⟨b, off + j * 5 + 4, none⟩ = some (.int .i64 (f j).b) ∧ I64 (f j).kind ∧ I64 (f j).n ∧ I64 (f j).k ∧ I64 (f j).a ∧ I64 (f j).b) →
      Calls Tryd.prog 3 #[.int .i64 n, .slice A len cap] w fun e w' => e = .returned (.bool true) ∧ Below w.heap.size w w' := by
    intro A len cap f h1 h2 h3
    by_cases h : n < 0 ∨ 1099511627776 < n
    · exact out1 n A len cap w ht h
    · obtain ⟨m, rfl⟩ := Int.eq_ofNat_of_zero_le (show 0 ≤ n by omega)
      exact main m (by omega) A len cap f h1 h2 w ht h3
  rcases o with ⟨a, cap, rfl⟩ | ⟨b, off, len, cap, f, rfl, h0, hlc, hcm, hb, hf⟩
  · exact both a 0 cap (fun _ => ⟨0, 0, 0, 0, 0⟩) (Nat.zero_le _) (Nat.zero_le _) (fun j hj => absurd hj (by omega))
  · exact both _ len cap f hlc (Nat.le_trans hlc hcm) (fun j hj => ⟨b, off, rfl, hb, hf j hj⟩)

theorem own : ownKnob Tryd.prog.godebug = none := by kernel_rfl
theorem laidOut : laidOutB Tryd.prog = true := by kernel_rfl
set_option maxRecDepth 100000 in
theorem lifted (os : Os) (started : os.Started) (H : Type) (enc : TypeId × Value → H) :
    ReturnsInHanded {} Tryd.checked os 3 .any (fun w args => (Rows.wheelPlaysSpec.pre enc Tryd.prog Tryd.f3 [] false w args ∧ laidMetH Tryd.prog Rows.wheelPlaysRow.laid w) ∧ sizedMet enc Tryd.prog Tryd.f3 (OpenSpec.ofChange Rows.wheelPlaysSpec) false w args)
      (Rows.wheelPlaysSpec.post enc Tryd.prog Tryd.f3 false true false false) := by
  refine returnsInHanded_of_change_and (C := Tryd.checked) (X := fun w _ => laidMetH Tryd.prog Rows.wheelPlaysRow.laid w) (fun _ _ _ hh h => h.of_heap hh) own started (by kernel_rfl) Tryd.func3
    (ChangeSpec.witness_shaped (enc := enc) (C := Tryd.checked) (os := os) (X := fun w _ => laidMetH Tryd.prog Rows.wheelPlaysRow.laid w) false (World.laidAll Tryd.prog os Rows.wheelPlaysRow.laid) #[.int .i64 0, .slice none 0 0] 8 (World.laidAll_os _ _ _)
      (World.shaped_of_ZipB (by kernel_rfl) (by kernel_rfl)) (by kernel_rfl) (by kernel_rfl) (by kernel_rfl)
      (by rw [MakeChecks.laidMetH_plain _ _ _ (by kernel_rfl)]; exact laidMet_laidAll _ (by kernel_rfl) (by kernel_rfl))) ?_
  intro W base args ds gs before hval0 hW hcnd hsz0 hL _
  have hsz : (DataW.weightsEach Tryd.prog (Tryd.f3.params.toList ++ Rows.wheelPlaysSpec.plain.varTypes Tryd.prog) (ds ++ gs)).all (· ≤ reachBytes) = true := hsz0
  have hval : ∀ (j : Nat) t v, Tryd.f3.params[j]? = some t → args[j]? = some v → Value.okWide Tryd.prog W .any base t v := hval0
  have hW' := hW
  obtain ⟨p, q, hA0, hV, rfl, hfz, hnd⟩ := hW
  have hA : DataW.TrodAll enc Tryd.prog W 0 (fun _ => true) true Tryd.f3.params.toList args.toList ds p := hA0
  rw [Tryd.params3] at hA hval hsz
  obtain ⟨v0, vs0, d0, ds0, p0, q0, hargs, rfl, rfl, h0, r0⟩ := trodAll_cons hA
  obtain ⟨v1, vs1, d1, ds1, p1, q1, rfl, rfl, rfl, h1, r1⟩ := trodAll_cons r0
  obtain ⟨rfl, rfl, rfl⟩ := trodAll_nil r1
  obtain rfl : args = #[v0, v1] := by cases args; simp_all
  obtain ⟨rfl, rfl⟩ := trodVars_none hV
  obtain ⟨a0, rfl, rfl, rfl, w0⟩ := open_int Tryd.underlying3 (hval 0 3 v0 rfl rfl) h0
  have k1 := h1
  have lt1 : ∀ x ∈ p1, x.block < W.heap.size := by obtain ⟨m, hm⟩ := k1; exact DataW.trod_lt m _ _ _ hm
  obtain o1 := open_acts (hval 1 22 v1 rfl rfl) k1
  clear hA0 hval0 hsz0 hsz
  refine (walk a0 w0 v1 W o1 hL).mono fun e W' ⟨he, bel⟩ => ?_
  subst he
  exact ⟨_, rfl, _, _, _, [], _, [], hW', trodAll_mk1 (shut_bool Tryd.underlying4 _), (trodAll_cons_mk (shut_int Tryd.underlying3 w0) (trodAll_cons_mk (Below.trod laidOut (by kernel_rfl) (of_decide_eq_true (by kernel_rfl)) k1 bel lt1) trodAll_mk0)), rfl, bel.frame _, fun h => by cases h⟩

theorem over : Rows.wheelPlaysRow.holds Tryd.pinned (OpenSpec.ofChange Rows.wheelPlaysSpec) :=
  OpenClaim.holds_of_wide 3 Tryd.f3 rfl rfl rfl rfl rfl rfl rfl ⟨rfl, rfl, rfl, rfl, rfl⟩ rfl rfl rfl rfl rfl (by kernel_rfl) Tryd.func3 (by kernel_rfl)
    (of_decide_eq_true (by kernel_rfl)) (by unfold Func.isWrapper; first | (rw [if_pos (by decide +kernel)]; kernel_rfl) | (rw [if_neg (by decide +kernel)]; exact ⟨rfl, rfl⟩))
    (fun os started H enc _ => lifted os started H enc)

theorem said : Rows.WheelPlaysSaid := over
theorem plain (f : FuncId) (fn : Func) (hf : Tryd.pinned.checked.prog.funcNamed "usher/usherlaw6.WheelPlays" = some f) (hfn : Tryd.pinned.checked.prog.funcs[f]? = some fn) :
    false = Tryd.pinned.checked.prog.looks [] ∧ ∀ (j : Nat) t, fn.params[j]? = some t → Tryd.pinned.checked.prog.wantsStandIn t = false := by
  obtain rfl : f = 3 := Option.some.inj ((show Tryd.prog.funcNamed "usher/usherlaw6.WheelPlays" = some 3 by kernel_rfl).symm.trans hf) |>.symm
  obtain rfl : fn = Tryd.f3 := (Option.some.inj (Tryd.func3.symm.trans hfn)).symm
  refine ⟨by kernel_rfl, fun j t ht => ?_⟩
  rw [Tryd.params3] at ht
  have hm : t ∈ [3, 22] := by simpa using Array.mem_of_getElem? ht
  simp only [List.mem_cons, List.mem_nil_iff, or_false] at hm
  rcases hm with rfl | rfl
  · exact (show Tryd.prog.wantsStandIn 3 = false by kernel_rfl)
  · exact (show Tryd.prog.wantsStandIn 22 = false by kernel_rfl)
theorem proved : Rows.WheelPlaysCardSaid :=
  Claim7.holds_tied_plain_at .later [] _ _ _ _ said (fun _ h => by cases h) (by kernel_rfl) (fun _ h => by cases h) wheelPlays_row_tie rfl ⟨rfl, rfl⟩ (by kernel_rfl) rfl plain (by kernel_rfl)
end Go.Proofs.YtgfmjkbelciaaaaDoor.wheelPlays
