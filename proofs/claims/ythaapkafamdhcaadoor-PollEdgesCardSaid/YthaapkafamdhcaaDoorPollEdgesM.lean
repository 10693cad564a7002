/- For every list of numbers and either way, with edge each thing that came is told once, without as long as it is there: the law returns true. Condition: the library's table of 64 is laid as its initialiser lays it. -/
import Derived.Test.YthaapkafamdhcaaDoorCards
import Derived.Test.YthaapkafamdhcaaDoorTie
import Derived.Lay
import Derived.LaidOnce
import Derived.MakeChecks
import Derived.SevenTiedAt
import Derived.WalkKit
import Derived.ProofKit
import Derived.OpenShut
import Derived.ShutString
import Derived.ChangeOld
import Derived.Below
import Derived.SizedLaws
import Derived.Test.YthaapkafamdhcaaDoorMgG
import Derived.Carry

namespace Go.Proofs.YthaapkafamdhcaaDoor.pollEdges
open Go.ChangeShapes Go.WideShapes Go.ChangeAt Go.RowKit
open Go.ChangeMaps (open_string shut_string)
set_option linter.unusedVariables false
theorem psendB (W w : World) (p g m K : Nat) (P : Plr) (Kb : List Nat) (h : PolL W w p g P m K Kb) (hm : m + 1 ≤ 900000000) (c y : Int) (hy : 0 ≤ y ∧ y ≤ 255) (N E : Int) (S' : Nt) (hN : P.net.sendK c [y] = N) (hE : P.net.sendE c = E) (hS : P.net.send c [y] = S') (b : Nat) (hb : b = w.heap.size) :
    Calls Tryd.prog 22 #[.pointer (some ⟨g, 0, none⟩), .int .i64 c, .slice (some ⟨b + 1, 0, none⟩) 1 1] ((w.alloc (.cells #[.int .u8 y] 5)).alloc (.cells #[.slice (some ⟨b, 0, none⟩) 1 1] 72)) fun e w' => e = .returned (.tuple #[.int .i64 N, .int .i64 E]) ∧ Hid (PolL W w' p g { P with net := S' } (m + 1) K Kb ∧ KeepP Kb w w') := by
  subst hb
  exact psendL W w p g m K P Kb h hm c y hy N E S' hN hE hS
theorem pairs_one (w : World) (b : Nat) (hb : b = w.heap.size) (x y : Int) (hx : -9223372036854775808 ≤ x ∧ x ≤ 9223372036854775807) (hy : -9223372036854775808 ≤ y ∧ y ≤ 9223372036854775807) : Pairs (w.alloc (.cells #[.int .i64 x, .int .i64 y] 47)) b [(x, y)] := by
  subst hb
  have R := Row.new w 47 #[.int .i64 x, .int .i64 y]
  intro j p hp
  cases j with
  | zero => simp at hp; subst hp; exact ⟨R.cell 0, R.cell 1, hx, hy⟩
  | succ j => simp at hp
theorem ev_one {w : World} {B : Option Addr} {c : Nat} {x : Ev} (h : EvS w (.slice B 1 c) [x]) : ∃ b, B = some ⟨b, 0, none⟩ ∧ w.cell? ⟨b, 0, none⟩ = some (.int .i64 x.s) ∧ w.cell? ⟨b, 1, none⟩ = some (.int .i64 x.g) ∧ w.cell? ⟨b, 2, none⟩ = some (.int .i64 x.c) ∧ w.cell? ⟨b, 3, none⟩ = some (.bool x.r) ∧ w.cell? ⟨b, 4, none⟩ = some (.bool x.w) := by
  obtain ⟨b, rfl⟩ : ∃ b, B = some ⟨b, 0, none⟩ := by
    obtain ⟨g', c', e', _⟩ := own_some h (by simp)
    injection e' with e1 e2 e3
    exact ⟨g', e1⟩
  exact ⟨b, rfl, h.at_.2.cell (i := 0) (j := 0) rfl (by omega), h.at_.2.cell (i := 0) (j := 1) rfl (by omega), h.at_.2.cell (i := 0) (j := 2) rfl (by omega), h.at_.2.cell (i := 0) (j := 3) rfl (by omega), h.at_.2.cell (i := 0) (j := 4) rfl (by omega)⟩
theorem and_mask (a : Int) (m : Nat) (hm : m ≤ 65535) : ∃ k : Nat, bits BinOp.and IntKind.i64 a m = (k : Int) ∧ k ≤ m := by
  have e : bits BinOp.and IntKind.i64 a m = IntKind.i64.wrap ((BitVec.ofInt 64 a &&& BitVec.ofInt 64 m).toNat : Int) := rfl
  have h : (BitVec.ofInt 64 a &&& BitVec.ofInt 64 m).toNat ≤ m := by
    rw [BitVec.toNat_and]
    refine Nat.le_trans Nat.and_le_right ?_
    rw [BitVec.toNat_ofInt]
    omega
  refine ⟨(BitVec.ofInt 64 a &&& BitVec.ofInt 64 m).toNat, ?_, h⟩
  rw [e, IntKind.wrap_i64]
  omega
theorem NumsAt.far {w wr : World} {A : Option Addr} {l : List Int} (h : NumsAt w [] A l) (hm : Mods [] w wr) (F : List Nat) (hF : ∀ k ∈ F, w.heap.size ≤ k) : NumsAt wr F A l := fun i x hx => by
  obtain ⟨b, o, e, hb, _, hc⟩ := h i x hx
  exact ⟨b, o, e, Nat.lt_of_lt_of_le hb hm.size, fun hk => by have := hF b hk; omega, cell_mods hc hm (by simp)⟩
def xN (b tak : List Int) (t : Nat) : Nt := ⟨1, false, 0, [⟨1, true, false, false, false, b, 0, tak, [], t, 0⟩], 1⟩
def xP (eg : Bool) (b tak : List Int) (t tr : Nat) : Plr := ⟨xN b tak t, ⟨4096, [true], [1], [0]⟩, [⟨true, false, eg, tr, 0⟩]⟩
def xev : Ev := ⟨0, 1, 0, true, false⟩
def tellX (eg : Bool) (b : List Int) (t tr : Nat) : Bool := decide (0 < b.length) && (!eg || decide (tr < t))
structure Xz (N : List Int → List Int → Nat → Nt) (Z : Bool → List Int → List Int → Nat → Nat → Plr) : Prop where
  acc : ((Nt.new 1).conn 1).acc = N [] [] 0
  watchE : ({ Plr.new (Nt.new 1) with net := N [] [] 0 } : Plr).watchE 0 = 0
  cnt : ({ Plr.new (Nt.new 1) with net := N [] [] 0 } : Plr).sl.cnt < 4096
  watch : ∀ eg, ({ Plr.new (Nt.new 1) with net := N [] [] 0 } : Plr).watch 0 true false eg = Z eg [] [] 0 0
  sendE : ∀ eg b tak t tr, (Z eg b tak t tr).net.sendE 0 = 0
  sendK : ∀ eg b tak t tr, b.length < 1024 → (Z eg b tak t tr).net.sendK 0 [1] = 1
  send : ∀ eg b tak t tr, b.length < 1024 → (Z eg b tak t tr).net.send 0 [1] = N (b ++ [1]) tak (t + 1)
  sent : ∀ eg b tak t tr b' tak' t', ({ Z eg b tak t tr with net := N b' tak' t' } : Plr) = Z eg b' tak' t' tr
  read : ∀ eg b tak t tr, b.length < 1024 → (Z eg b tak t tr).net.read 0 2000 = N [] (tak ++ b) t
  told : ∀ eg b tak t tr, ord (Z eg b tak t tr).told [] = if tellX eg b t tr then [xev] else []
  waited : ∀ eg b tak t tr, (Z eg b tak t tr).waited = Z eg b tak t (if tellX eg b t tr then t else tr)
theorem x_sendE (b tak : List Int) (t : Nat) : (xN b tak t).sendE 0 = 0 := by
  simp [Nt.sendE, Nt.e1, Nt.at?, Nt.get, xN]
theorem x_fill {b : List Int} (h : b.length < 1024) : fill b [1] = b ++ [1] := by
  unfold fill
  exact List.take_of_length_le (by simp; omega)
theorem xz : Xz xN xP where
  acc := rfl
  watchE := by decide +kernel
  cnt := by decide +kernel
  watch eg := by cases eg <;> rfl
  sendE eg b tak t tr := x_sendE b tak t
  sendK eg b tak t tr h := by
    show (xN b tak t).sendK 0 [1] = 1
    unfold Nt.sendK
    rw [if_pos (x_sendE b tak t), show ((xN b tak t).get 0).inn = b from rfl, x_fill h]
    simp
    omega
  send eg b tak t tr h := by
    show (xN b tak t).send 0 [1] = _
    unfold Nt.send
    rw [if_pos (x_sendE b tak t), show (xN b tak t).get 0 = ⟨1, true, false, false, false, b, 0, tak, [], t, 0⟩ from rfl]
    unfold Cn.send
    rw [x_fill h]
    simp [Nt.upd, xN, Cn.setI]
  sent eg b tak t tr b' tak' t' := rfl
  read eg b tak t tr h := by
    show (xN b tak t).read 0 2000 = _
    have hb : b.drop 2000 = [] := List.drop_of_length_le (by omega)
    have hc : b.take 2000 = b := List.take_of_length_le (by omega)
    cases b with
    | nil => simp [Nt.read, Nt.readE, Nt.e2, Nt.at?, Nt.get, xN]
    | cons y b => simp only [Nt.read, Nt.readE, Nt.e2, Nt.at?, Nt.get, xN, Nt.upd, Cn.read]; simp at hb hc; simp [hb, hc]
  told eg b tak t tr := by
    rw [ord_none]
    show (xP eg b tak t tr).one (0, 1) ++ [] = _
    rw [List.append_nil]
    unfold Plr.one
    have e1 : (xP eg b tak t tr).tR (0 : Int).toNat = tellX eg b t tr := by
      show (⟨true, false, eg, tr, 0⟩ : Wch).tellR ((xN b tak t).readyR 0) ((xN b tak t).markR 0).toNat = _
      have : (xN b tak t).readyR 0 = decide (0 < b.length) := by simp [Nt.readyR, Nt.isO, Nt.get, Nt.at?, xN]
      rw [this, show ((xN b tak t).markR 0).toNat = t from rfl]
      simp [Wch.tellR, tellX]
    have e2 : (xP eg b tak t tr).tW (0 : Int).toNat = false := by
      show (⟨true, false, eg, tr, 0⟩ : Wch).tellW _ _ = _
      simp [Wch.tellW]
    show (if (xP eg b tak t tr).tR (0 : Int).toNat || (xP eg b tak t tr).tW (0 : Int).toNat then [(xP eg b tak t tr).ev (0, 1)] else []) = _
    rw [show (xP eg b tak t tr).ev (0, 1) = ⟨0, 1, 0, (xP eg b tak t tr).tR (0 : Int).toNat, (xP eg b tak t tr).tW (0 : Int).toNat⟩ from rfl, e1, e2]
    cases tellX eg b t tr <;> rfl
  waited eg b tak t tr := by
    show (xP eg b tak t tr).tell 0 = _
    have e1 : (xP eg b tak t tr).tR 0 = tellX eg b t tr := by
      show (⟨true, false, eg, tr, 0⟩ : Wch).tellR ((xN b tak t).readyR 0) ((xN b tak t).markR 0).toNat = _
      have : (xN b tak t).readyR 0 = decide (0 < b.length) := by simp [Nt.readyR, Nt.isO, Nt.get, Nt.at?, xN]
      rw [this, show ((xN b tak t).markR 0).toNat = t from rfl]
      simp [Wch.tellR, tellX]
    have e2 : (xP eg b tak t tr).tW 0 = false := by
      show (⟨true, false, eg, tr, 0⟩ : Wch).tellW _ _ = _
      simp [Wch.tellW]
    unfold Plr.tell
    rw [e1, e2]
    cases tellX eg b t tr <;> rfl
set_option maxRecDepth 100000 in
set_option maxHeartbeats 4000000 in
theorem main {N : List Int → List Int → Nat → Nt} {Z : Bool → List Int → List Int → Nat → Nat → Plr} (hz : Xz N Z) (w : World) (ht : TzTab w) (eg : Bool) (A : Option Addr) (len cap : Nat) (ps : List Int) (hp : NumsAt w [] A ps) (hps : len = ps.length) (hl : len ≤ 60) :
    Calls Tryd.prog 4 #[.slice A len cap, .bool eg] w fun e w' => e = .returned (.bool true) ∧ Below w.heap.size w w' := by
  have hnp := eql_ppol
  have hq := neq_ev
  have hg := eqg_ev
  have HT := Lib.hid ht
  have HP := Lib.hid hp
  have HL := Lib.hid hps
  have hlen : ¬ (60 : Int) < (len : Int) := by omega
  clear ht hp hps
  go_enter Tryd.func4, Tryd.ntmps4
  go_wp2_with fail
  refine (nnew_any 1 w (by omega) (by omega)).mono ?_
  rintro e w1 ⟨rfl, hn, hm⟩
  have HN := Lib.hid hn
  have HM := Lib.hid hm
  clear hn hm
  go_wp2_with fail
  refine (pnew_any w1 w.heap.size 0 _ _ HN.out).mono ?_
  rintro e w2 ⟨p, rfl, hd⟩
  have H2 := Lib.hid (PolL.new (Kb := []) (Mods.refl [] w) (by simp) HM.out hd.out)
  have c0 := H2.out.cell
  clear hd
  go_wp2_with fail
  refine (pconnL w _ p w.heap.size 0 0 _ _ H2.out 1 ((Nt.new 1).conn 1) rfl).mono ?_
  rintro e w3 ⟨rfl, hd⟩
  have H3 := Lib.hid hd.out.1
  have c3 := H3.out.cell
  clear hd c0 H2
  go_wp2_with fail
  refine (paccL w _ p w.heap.size 0 0 _ _ H3.out 0 1 0 (N [] [] 0) rfl rfl rfl hz.acc).mono ?_
  rintro e w4 ⟨rfl, hd⟩
  have H4 := Lib.hid hd.out.1
  have c4 := H4.out.cell
  clear hd c3 H3
  go_wp2_with fail
  refine (watchL w w4 p w.heap.size 0 0 _ [] 0 true false eg H4.out HT.out hz.watchE hz.cnt (by omega) 0 1 (Z eg [] [] 0 0) rfl rfl (hz.watch eg)).mono ?_
  rintro e w5 ⟨rfl, hd⟩
  have H5 := Lib.hid (hd.out.1.add (l := [w5.heap.size]) ((Mods.refl [] w5).alloc (.cells #[.int .i64 0, .int .i64 1] 47)) (fun k hk => by simp at hk; subst hk; simp))
  have R5 := Lib.hid (Row.new w5 47 #[.int .i64 0, .int .i64 1])
  clear hd c4 H4
  go_wp2_with fail
  have H5a := Lib.hid (show ∃ b tak t, false = decide (0 < (b : List Int).length) ∧ b.length ≤ 0 ∧ PolL w (w5.alloc (.cells #[.int .i64 0, .int .i64 1] 47)) p w.heap.size (Z eg b tak t t) (0 * 1025) 1 [w5.heap.size] ∧ Row (w5.alloc (.cells #[.int .i64 0, .int .i64 1] 47)) w5.heap.size 47 #[.int .i64 0, .int .i64 1] from ⟨[], [], 0, rfl, Nat.le_refl _, H5.out, R5.out⟩)
  clear H5 R5
  go_loopw [14, 15] (fun sv kv wr => ∃ (k : Nat) (s : Bool), k ≤ len ∧ sv = .bool s ∧ kv = .int .i64 (k : Int) ∧ Hid (∃ b tak t, s = decide (0 < (b : List Int).length) ∧ b.length ≤ k ∧ PolL w wr p w.heap.size (Z eg b tak t t) (k * 1025) 1 [w5.heap.size] ∧ Row wr w5.heap.size 47 #[.int .i64 0, .int .i64 1])) (fun _ kv _ => len - (intOf kv).toNat)
  case atStart => exact ⟨0, false, by omega, rfl, rfl, H5a⟩
  case round =>
    clear H5a
    obtain ⟨k, s, hk, rfl, rfl, hr⟩ := hrel
    obtain ⟨b, tak, t, hs, hb, hP, hR⟩ := hr.out
    clear hr
    have HS := Lib.hid (And.intro hs hb)
    have H6 := Lib.hid hP
    have R6 := Lib.hid hR
    clear hs hb hP hR
    by_cases hlt : k < len
    · have q1 : (k : Int) < (len : Int) := by omega
      obtain ⟨x, hx⟩ : ∃ x, ps[k]? = some x := ⟨_, List.getElem?_eq_getElem (by rw [← HL.out]; exact hlt)⟩
      obtain ⟨pb, po, rfl, -, -, hc⟩ := HP.out k x hx
      have HC := Lib.hid hc
      clear hx hc
      have xc : wr.cell? ⟨pb, po + k, none⟩ = some (.int .i64 x) := cell_mods HC.out H6.out.mods (by simp)
      have c6 := H6.out.cell
      obtain ⟨n1, a1, hn1⟩ := and_mask x 1 (by omega)
      obtain ⟨n2, a2, hn2⟩ := and_mask x 2 (by omega)
      rcases (show n1 = 1 ∨ n1 = 0 by omega) with rfl | rfl
      · skip
        have a1 : bits BinOp.and IntKind.i64 x 1 = 1 := a1
        have hb1 : b.length < 1024 := by have := HS.out.2; omega
        go_wp2_with fail
        refine (psendL w _ p w.heap.size (k * 1025) 1 (Z eg b tak t t) _ H6.out (by omega) 0 1 (by omega) 1 0 (N (b ++ [1]) tak (t + 1)) (hz.sendK eg b tak t t hb1) (hz.sendE eg b tak t t) (hz.send eg b tak t t hb1)).mono ?_
        rintro e w7 ⟨rfl, hd⟩
        have H7 := Lib.hid (show PolL w w7 p w.heap.size (Z eg (b ++ [1]) tak (t + 1) t) (k * 1025 + 1) 1 [w5.heap.size] from hz.sent eg b tak t t (b ++ [1]) tak (t + 1) ▸ hd.out.1)
        have R7 := Lib.hid (R6.out.keepP hd.out.2 (by simp))
        have c7 := H7.out.cell
        clear hd H6 R6 c6 xc hb1
        cases s <;> cases eg
        · skip
          go_wp2_with fail
          have hT : tellX false (b ++ [1]) (t + 1) t = true := by simp [tellX]
          refine (waitL w _ _ p w.heap.size (k * 1025 + 1) 1 (Z false (b ++ [1]) tak (t + 1) t) _ H7.out (Mods.refl _ _) none 0 0 [] (fun F hF i x h => by simp at h) rfl (by decide) [xev] (Z false (b ++ [1]) tak (t + 1) (t + 1)) ((hz.told false (b ++ [1]) tak (t + 1) t).trans (by rw [hT]; rfl)) ((hz.waited false (b ++ [1]) tak (t + 1) t).trans (by rw [hT]; rfl))).mono ?_
          rintro e w8 ⟨B, n, c, rfl, hn, hd⟩
          have H8 := Lib.hid (hd.out.1.less (Kc := [w5.heap.size]) (fun k hk => List.mem_append_left _ hk))
          have R8 := Lib.hid (R7.out.keepP hd.out.2.1 (by simp))
          have E8 := Lib.hid hd.out.2.2
          have c8 := H8.out.cell
          have xc8 : w8.cell? ⟨pb, po + k, none⟩ = some (.int .i64 x) := cell_mods HC.out H8.out.mods (by simp)
          clear hd H7 R7 c7 hT
          obtain rfl : n = 1 := hn.out.1
          obtain ⟨eb, rfl, e0, e1, e2, e3, e4⟩ := ev_one E8.out
          have hs : Ev.same ⟨0, 1, 0, true, false⟩ ⟨0, 1, 0, true, false⟩ = true := (Ev.same_iff _ _).2 rfl
          have e0 : w8.cell? ⟨eb, 0, none⟩ = some (.int .i64 0) := e0
          have e1 : w8.cell? ⟨eb, 1, none⟩ = some (.int .i64 1) := e1
          have e2 : w8.cell? ⟨eb, 2, none⟩ = some (.int .i64 0) := e2
          have e3 : w8.cell? ⟨eb, 3, none⟩ = some (.bool true) := e3
          have e4 : w8.cell? ⟨eb, 4, none⟩ = some (.bool false) := e4
          clear hn
          have f0 : w8.cell? ⟨w5.heap.size, 0, none⟩ = some (.int .i64 0) := R8.out.cell 0
          have f1 : w8.cell? ⟨w5.heap.size, 1, none⟩ = some (.int .i64 1) := R8.out.cell 1
          go_wp2_with fail
          go_quiet (fail)
          rcases (show n2 = 2 ∨ ¬ (n2 : Int) = 2 by omega) with rfl | hn2
          · skip
            have a2 : bits BinOp.and IntKind.i64 x 2 = 2 := a2
            go_wp2_with fail
            refine (preadL w _ p w.heap.size (k * 1025 + 1) 1 _ _ (H8.out.quiet (by first | exact (Mods.refl [] w8).drewN _ | exact (Mods.refl [] w8).drew | exact Mods.refl [] w8)) (by omega) 0 2000 _ (hz.read false (b ++ [1]) tak (t + 1) (t + 1) (by first | (have := HS.out.2; simp only [List.length_append, List.length_singleton]; omega) | (have := HS.out.2; omega)))).mono ?_
            rintro e w9 ⟨v, rfl, hd⟩
            have H9 := Lib.hid (show PolL w w9 p w.heap.size (Z false [] (tak ++ (b ++ [1])) (t + 1) (t + 1)) (k * 1025 + 1 + 1024) 1 [w5.heap.size] from hz.sent false (b ++ [1]) tak (t + 1) (t + 1) [] (tak ++ (b ++ [1])) (t + 1) ▸ hd.out.1)
            have R9 := Lib.hid (R8.out.keepP (w' := w9) (fun k hk => hd.out.2 k hk) (by simp))
            clear hd
            go_wp2
            go_roundw
            case rel => exact ⟨k + 1, false, by omega, rfl, by go_num, Lib.hid ⟨[], tak ++ (b ++ [1]), (t + 1), rfl, Nat.zero_le _, H9.out.more (by omega) (by omega), R9.out⟩⟩
            case measure => simp [intOf]; omega
          · skip
            have a2 : bits BinOp.and IntKind.i64 x 2 = (n2 : Int) := a2
            go_wp2
            go_roundw
            case rel => exact ⟨k + 1, true, by omega, rfl, by go_num, Lib.hid ⟨(b ++ [1]), tak, (t + 1), by simp, by have := HS.out.2; simp only [List.length_append, List.length_singleton]; omega, (H8.out.quiet (by first | exact (Mods.refl [] w8).drewN _ | exact (Mods.refl [] w8).drew | exact Mods.refl [] w8)).more (by omega) (by omega), R8.out⟩⟩
            case measure => simp [intOf]; omega
        · skip
          go_wp2_with fail
          have hT : tellX true (b ++ [1]) (t + 1) t = true := by simp [tellX]
          refine (waitL w _ _ p w.heap.size (k * 1025 + 1) 1 (Z true (b ++ [1]) tak (t + 1) t) _ H7.out (Mods.refl _ _) none 0 0 [] (fun F hF i x h => by simp at h) rfl (by decide) [xev] (Z true (b ++ [1]) tak (t + 1) (t + 1)) ((hz.told true (b ++ [1]) tak (t + 1) t).trans (by rw [hT]; rfl)) ((hz.waited true (b ++ [1]) tak (t + 1) t).trans (by rw [hT]; rfl))).mono ?_
          rintro e w8 ⟨B, n, c, rfl, hn, hd⟩
          have H8 := Lib.hid (hd.out.1.less (Kc := [w5.heap.size]) (fun k hk => List.mem_append_left _ hk))
          have R8 := Lib.hid (R7.out.keepP hd.out.2.1 (by simp))
          have E8 := Lib.hid hd.out.2.2
          have c8 := H8.out.cell
          have xc8 : w8.cell? ⟨pb, po + k, none⟩ = some (.int .i64 x) := cell_mods HC.out H8.out.mods (by simp)
          clear hd H7 R7 c7 hT
          obtain rfl : n = 1 := hn.out.1
          obtain ⟨eb, rfl, e0, e1, e2, e3, e4⟩ := ev_one E8.out
          have hs : Ev.same ⟨0, 1, 0, true, false⟩ ⟨0, 1, 0, true, false⟩ = true := (Ev.same_iff _ _).2 rfl
          have e0 : w8.cell? ⟨eb, 0, none⟩ = some (.int .i64 0) := e0
          have e1 : w8.cell? ⟨eb, 1, none⟩ = some (.int .i64 1) := e1
          have e2 : w8.cell? ⟨eb, 2, none⟩ = some (.int .i64 0) := e2
          have e3 : w8.cell? ⟨eb, 3, none⟩ = some (.bool true) := e3
          have e4 : w8.cell? ⟨eb, 4, none⟩ = some (.bool false) := e4
          clear hn
          have f0 : w8.cell? ⟨w5.heap.size, 0, none⟩ = some (.int .i64 0) := R8.out.cell 0
          have f1 : w8.cell? ⟨w5.heap.size, 1, none⟩ = some (.int .i64 1) := R8.out.cell 1
          go_wp2_with fail
          go_quiet (fail)
          rcases (show n2 = 2 ∨ ¬ (n2 : Int) = 2 by omega) with rfl | hn2
          · skip
            have a2 : bits BinOp.and IntKind.i64 x 2 = 2 := a2
            go_wp2_with fail
            refine (preadL w _ p w.heap.size (k * 1025 + 1) 1 _ _ (H8.out.quiet (by first | exact (Mods.refl [] w8).drewN _ | exact (Mods.refl [] w8).drew | exact Mods.refl [] w8)) (by omega) 0 2000 _ (hz.read true (b ++ [1]) tak (t + 1) (t + 1) (by first | (have := HS.out.2; simp only [List.length_append, List.length_singleton]; omega) | (have := HS.out.2; omega)))).mono ?_
            rintro e w9 ⟨v, rfl, hd⟩
            have H9 := Lib.hid (show PolL w w9 p w.heap.size (Z true [] (tak ++ (b ++ [1])) (t + 1) (t + 1)) (k * 1025 + 1 + 1024) 1 [w5.heap.size] from hz.sent true (b ++ [1]) tak (t + 1) (t + 1) [] (tak ++ (b ++ [1])) (t + 1) ▸ hd.out.1)
            have R9 := Lib.hid (R8.out.keepP (w' := w9) (fun k hk => hd.out.2 k hk) (by simp))
            clear hd
            go_wp2
            go_roundw
            case rel => exact ⟨k + 1, false, by omega, rfl, by go_num, Lib.hid ⟨[], tak ++ (b ++ [1]), (t + 1), rfl, Nat.zero_le _, H9.out.more (by omega) (by omega), R9.out⟩⟩
            case measure => simp [intOf]; omega
          · skip
            have a2 : bits BinOp.and IntKind.i64 x 2 = (n2 : Int) := a2
            go_wp2
            go_roundw
            case rel => exact ⟨k + 1, true, by omega, rfl, by go_num, Lib.hid ⟨(b ++ [1]), tak, (t + 1), by simp, by have := HS.out.2; simp only [List.length_append, List.length_singleton]; omega, (H8.out.quiet (by first | exact (Mods.refl [] w8).drewN _ | exact (Mods.refl [] w8).drew | exact Mods.refl [] w8)).more (by omega) (by omega), R8.out⟩⟩
            case measure => simp [intOf]; omega
        · skip
          go_wp2_with fail
          have hT : tellX false (b ++ [1]) (t + 1) t = true := by simp [tellX]
          refine (waitL w _ _ p w.heap.size (k * 1025 + 1) 1 (Z false (b ++ [1]) tak (t + 1) t) _ H7.out (Mods.refl _ _) none 0 0 [] (fun F hF i x h => by simp at h) rfl (by decide) [xev] (Z false (b ++ [1]) tak (t + 1) (t + 1)) ((hz.told false (b ++ [1]) tak (t + 1) t).trans (by rw [hT]; rfl)) ((hz.waited false (b ++ [1]) tak (t + 1) t).trans (by rw [hT]; rfl))).mono ?_
          rintro e w8 ⟨B, n, c, rfl, hn, hd⟩
          have H8 := Lib.hid (hd.out.1.less (Kc := [w5.heap.size]) (fun k hk => List.mem_append_left _ hk))
          have R8 := Lib.hid (R7.out.keepP hd.out.2.1 (by simp))
          have E8 := Lib.hid hd.out.2.2
          have c8 := H8.out.cell
          have xc8 : w8.cell? ⟨pb, po + k, none⟩ = some (.int .i64 x) := cell_mods HC.out H8.out.mods (by simp)
          clear hd H7 R7 c7 hT
          obtain rfl : n = 1 := hn.out.1
          obtain ⟨eb, rfl, e0, e1, e2, e3, e4⟩ := ev_one E8.out
          have hs : Ev.same ⟨0, 1, 0, true, false⟩ ⟨0, 1, 0, true, false⟩ = true := (Ev.same_iff _ _).2 rfl
          have e0 : w8.cell? ⟨eb, 0, none⟩ = some (.int .i64 0) := e0
          have e1 : w8.cell? ⟨eb, 1, none⟩ = some (.int .i64 1) := e1
          have e2 : w8.cell? ⟨eb, 2, none⟩ = some (.int .i64 0) := e2
          have e3 : w8.cell? ⟨eb, 3, none⟩ = some (.bool true) := e3
          have e4 : w8.cell? ⟨eb, 4, none⟩ = some (.bool false) := e4
          clear hn
          have f0 : w8.cell? ⟨w5.heap.size, 0, none⟩ = some (.int .i64 0) := R8.out.cell 0
          have f1 : w8.cell? ⟨w5.heap.size, 1, none⟩ = some (.int .i64 1) := R8.out.cell 1
          go_wp2_with fail
          go_quiet (fail)
          rcases (show n2 = 2 ∨ ¬ (n2 : Int) = 2 by omega) with rfl | hn2
          · skip
            have a2 : bits BinOp.and IntKind.i64 x 2 = 2 := a2
            go_wp2_with fail
            refine (preadL w _ p w.heap.size (k * 1025 + 1) 1 _ _ (H8.out.quiet (by first | exact (Mods.refl [] w8).drewN _ | exact (Mods.refl [] w8).drew | exact Mods.refl [] w8)) (by omega) 0 2000 _ (hz.read false (b ++ [1]) tak (t + 1) (t + 1) (by first | (have := HS.out.2; simp only [List.length_append, List.length_singleton]; omega) | (have := HS.out.2; omega)))).mono ?_
            rintro e w9 ⟨v, rfl, hd⟩
            have H9 := Lib.hid (show PolL w w9 p w.heap.size (Z false [] (tak ++ (b ++ [1])) (t + 1) (t + 1)) (k * 1025 + 1 + 1024) 1 [w5.heap.size] from hz.sent false (b ++ [1]) tak (t + 1) (t + 1) [] (tak ++ (b ++ [1])) (t + 1) ▸ hd.out.1)
            have R9 := Lib.hid (R8.out.keepP (w' := w9) (fun k hk => hd.out.2 k hk) (by simp))
            clear hd
            go_wp2
            go_roundw
            case rel => exact ⟨k + 1, false, by omega, rfl, by go_num, Lib.hid ⟨[], tak ++ (b ++ [1]), (t + 1), rfl, Nat.zero_le _, H9.out.more (by omega) (by omega), R9.out⟩⟩
            case measure => simp [intOf]; omega
          · skip
            have a2 : bits BinOp.and IntKind.i64 x 2 = (n2 : Int) := a2
            go_wp2
            go_roundw
            case rel => exact ⟨k + 1, true, by omega, rfl, by go_num, Lib.hid ⟨(b ++ [1]), tak, (t + 1), by simp, by have := HS.out.2; simp only [List.length_append, List.length_singleton]; omega, (H8.out.quiet (by first | exact (Mods.refl [] w8).drewN _ | exact (Mods.refl [] w8).drew | exact Mods.refl [] w8)).more (by omega) (by omega), R8.out⟩⟩
            case measure => simp [intOf]; omega
        · skip
          go_wp2_with fail
          have hT : tellX true (b ++ [1]) (t + 1) t = true := by simp [tellX]
          refine (waitL w _ _ p w.heap.size (k * 1025 + 1) 1 (Z true (b ++ [1]) tak (t + 1) t) _ H7.out (Mods.refl _ _) none 0 0 [] (fun F hF i x h => by simp at h) rfl (by decide) [xev] (Z true (b ++ [1]) tak (t + 1) (t + 1)) ((hz.told true (b ++ [1]) tak (t + 1) t).trans (by rw [hT]; rfl)) ((hz.waited true (b ++ [1]) tak (t + 1) t).trans (by rw [hT]; rfl))).mono ?_
          rintro e w8 ⟨B, n, c, rfl, hn, hd⟩
          have H8 := Lib.hid (hd.out.1.less (Kc := [w5.heap.size]) (fun k hk => List.mem_append_left _ hk))
          have R8 := Lib.hid (R7.out.keepP hd.out.2.1 (by simp))
          have E8 := Lib.hid hd.out.2.2
          have c8 := H8.out.cell
          have xc8 : w8.cell? ⟨pb, po + k, none⟩ = some (.int .i64 x) := cell_mods HC.out H8.out.mods (by simp)
          clear hd H7 R7 c7 hT
          obtain rfl : n = 1 := hn.out.1
          obtain ⟨eb, rfl, e0, e1, e2, e3, e4⟩ := ev_one E8.out
          have hs : Ev.same ⟨0, 1, 0, true, false⟩ ⟨0, 1, 0, true, false⟩ = true := (Ev.same_iff _ _).2 rfl
          have e0 : w8.cell? ⟨eb, 0, none⟩ = some (.int .i64 0) := e0
          have e1 : w8.cell? ⟨eb, 1, none⟩ = some (.int .i64 1) := e1
          have e2 : w8.cell? ⟨eb, 2, none⟩ = some (.int .i64 0) := e2
          have e3 : w8.cell? ⟨eb, 3, none⟩ = some (.bool true) := e3
          have e4 : w8.cell? ⟨eb, 4, none⟩ = some (.bool false) := e4
          clear hn
          have f0 : w8.cell? ⟨w5.heap.size, 0, none⟩ = some (.int .i64 0) := R8.out.cell 0
          have f1 : w8.cell? ⟨w5.heap.size, 1, none⟩ = some (.int .i64 1) := R8.out.cell 1
          go_wp2_with fail
          go_quiet (fail)
          rcases (show n2 = 2 ∨ ¬ (n2 : Int) = 2 by omega) with rfl | hn2
          · skip
            have a2 : bits BinOp.and IntKind.i64 x 2 = 2 := a2
            go_wp2_with fail
            refine (preadL w _ p w.heap.size (k * 1025 + 1) 1 _ _ (H8.out.quiet (by first | exact (Mods.refl [] w8).drewN _ | exact (Mods.refl [] w8).drew | exact Mods.refl [] w8)) (by omega) 0 2000 _ (hz.read true (b ++ [1]) tak (t + 1) (t + 1) (by first | (have := HS.out.2; simp only [List.length_append, List.length_singleton]; omega) | (have := HS.out.2; omega)))).mono ?_
            rintro e w9 ⟨v, rfl, hd⟩
            have H9 := Lib.hid (show PolL w w9 p w.heap.size (Z true [] (tak ++ (b ++ [1])) (t + 1) (t + 1)) (k * 1025 + 1 + 1024) 1 [w5.heap.size] from hz.sent true (b ++ [1]) tak (t + 1) (t + 1) [] (tak ++ (b ++ [1])) (t + 1) ▸ hd.out.1)
            have R9 := Lib.hid (R8.out.keepP (w' := w9) (fun k hk => hd.out.2 k hk) (by simp))
            clear hd
            go_wp2
            go_roundw
            case rel => exact ⟨k + 1, false, by omega, rfl, by go_num, Lib.hid ⟨[], tak ++ (b ++ [1]), (t + 1), rfl, Nat.zero_le _, H9.out.more (by omega) (by omega), R9.out⟩⟩
            case measure => simp [intOf]; omega
          · skip
            have a2 : bits BinOp.and IntKind.i64 x 2 = (n2 : Int) := a2
            go_wp2
            go_roundw
            case rel => exact ⟨k + 1, true, by omega, rfl, by go_num, Lib.hid ⟨(b ++ [1]), tak, (t + 1), by simp, by have := HS.out.2; simp only [List.length_append, List.length_singleton]; omega, (H8.out.quiet (by first | exact (Mods.refl [] w8).drewN _ | exact (Mods.refl [] w8).drew | exact Mods.refl [] w8)).more (by omega) (by omega), R8.out⟩⟩
            case measure => simp [intOf]; omega
      · skip
        have a1 : bits BinOp.and IntKind.i64 x 1 = 0 := a1
        have H7 := H6
        have R7 := R6
        have c7 := c6
        clear H6 R6
        cases s <;> cases eg
        · skip
          go_wp2_with fail
          have hT : tellX false b t t = false := by unfold tellX; rw [← HS.out.1]; rfl
          refine (waitL w _ _ p w.heap.size (k * 1025) 1 (Z false b tak t t) _ H7.out (Mods.refl _ _) none 0 0 [] (fun F hF i x h => by simp at h) rfl (by decide) [] (Z false b tak t t) ((hz.told false b tak t t).trans (by rw [hT]; rfl)) ((hz.waited false b tak t t).trans (by rw [hT]; rfl))).mono ?_
          rintro e w8 ⟨B, n, c, rfl, hn, hd⟩
          have H8 := Lib.hid (hd.out.1.less (Kc := [w5.heap.size]) (fun k hk => List.mem_append_left _ hk))
          have R8 := Lib.hid (R7.out.keepP hd.out.2.1 (by simp))
          have E8 := Lib.hid hd.out.2.2
          have c8 := H8.out.cell
          have xc8 : w8.cell? ⟨pb, po + k, none⟩ = some (.int .i64 x) := cell_mods HC.out H8.out.mods (by simp)
          clear hd H7 R7 c7 hT
          obtain rfl : n = 0 := hn.out.1
          clear hn
          have f0 : w8.cell? ⟨w5.heap.size, 0, none⟩ = some (.int .i64 0) := R8.out.cell 0
          have f1 : w8.cell? ⟨w5.heap.size, 1, none⟩ = some (.int .i64 1) := R8.out.cell 1
          go_wp2_with fail
          go_quiet (fail)
          rcases (show n2 = 2 ∨ ¬ (n2 : Int) = 2 by omega) with rfl | hn2
          · skip
            have a2 : bits BinOp.and IntKind.i64 x 2 = 2 := a2
            go_wp2_with fail
            refine (preadL w _ p w.heap.size (k * 1025) 1 _ _ (H8.out.quiet (by first | exact (Mods.refl [] w8).drewN _ | exact (Mods.refl [] w8).drew | exact Mods.refl [] w8)) (by omega) 0 2000 _ (hz.read false b tak t t (by first | (have := HS.out.2; simp only [List.length_append, List.length_singleton]; omega) | (have := HS.out.2; omega)))).mono ?_
            rintro e w9 ⟨v, rfl, hd⟩
            have H9 := Lib.hid (show PolL w w9 p w.heap.size (Z false [] (tak ++ b) t t) (k * 1025 + 1024) 1 [w5.heap.size] from hz.sent false b tak t t [] (tak ++ b) t ▸ hd.out.1)
            have R9 := Lib.hid (R8.out.keepP (w' := w9) (fun k hk => hd.out.2 k hk) (by simp))
            clear hd
            go_wp2
            go_roundw
            case rel => exact ⟨k + 1, false, by omega, rfl, by go_num, Lib.hid ⟨[], tak ++ b, t, rfl, Nat.zero_le _, H9.out.more (by omega) (by omega), R9.out⟩⟩
            case measure => simp [intOf]; omega
          · skip
            have a2 : bits BinOp.and IntKind.i64 x 2 = (n2 : Int) := a2
            go_wp2
            go_roundw
            case rel => exact ⟨k + 1, false, by omega, rfl, by go_num, Lib.hid ⟨b, tak, t, HS.out.1, by have := HS.out.2; omega, (H8.out.quiet (by first | exact (Mods.refl [] w8).drewN _ | exact (Mods.refl [] w8).drew | exact Mods.refl [] w8)).more (by omega) (by omega), R8.out⟩⟩
            case measure => simp [intOf]; omega
        · skip
          go_wp2_with fail
          have hT : tellX true b t t = false := by unfold tellX; rw [← HS.out.1]; rfl
          refine (waitL w _ _ p w.heap.size (k * 1025) 1 (Z true b tak t t) _ H7.out (Mods.refl _ _) none 0 0 [] (fun F hF i x h => by simp at h) rfl (by decide) [] (Z true b tak t t) ((hz.told true b tak t t).trans (by rw [hT]; rfl)) ((hz.waited true b tak t t).trans (by rw [hT]; rfl))).mono ?_
          rintro e w8 ⟨B, n, c, rfl, hn, hd⟩
          have H8 := Lib.hid (hd.out.1.less (Kc := [w5.heap.size]) (fun k hk => List.mem_append_left _ hk))
          have R8 := Lib.hid (R7.out.keepP hd.out.2.1 (by simp))
          have E8 := Lib.hid hd.out.2.2
          have c8 := H8.out.cell
          have xc8 : w8.cell? ⟨pb, po + k, none⟩ = some (.int .i64 x) := cell_mods HC.out H8.out.mods (by simp)
          clear hd H7 R7 c7 hT
          obtain rfl : n = 0 := hn.out.1
          clear hn
          have f0 : w8.cell? ⟨w5.heap.size, 0, none⟩ = some (.int .i64 0) := R8.out.cell 0
          have f1 : w8.cell? ⟨w5.heap.size, 1, none⟩ = some (.int .i64 1) := R8.out.cell 1
          go_wp2_with fail
          go_quiet (fail)
          rcases (show n2 = 2 ∨ ¬ (n2 : Int) = 2 by omega) with rfl | hn2
          · skip
            have a2 : bits BinOp.and IntKind.i64 x 2 = 2 := a2
            go_wp2_with fail
            refine (preadL w _ p w.heap.size (k * 1025) 1 _ _ (H8.out.quiet (by first | exact (Mods.refl [] w8).drewN _ | exact (Mods.refl [] w8).drew | exact Mods.refl [] w8)) (by omega) 0 2000 _ (hz.read true b tak t t (by first | (have := HS.out.2; simp only [List.length_append, List.length_singleton]; omega) | (have := HS.out.2; omega)))).mono ?_
            rintro e w9 ⟨v, rfl, hd⟩
            have H9 := Lib.hid (show PolL w w9 p w.heap.size (Z true [] (tak ++ b) t t) (k * 1025 + 1024) 1 [w5.heap.size] from hz.sent true b tak t t [] (tak ++ b) t ▸ hd.out.1)
            have R9 := Lib.hid (R8.out.keepP (w' := w9) (fun k hk => hd.out.2 k hk) (by simp))
            clear hd
            go_wp2
            go_roundw
            case rel => exact ⟨k + 1, false, by omega, rfl, by go_num, Lib.hid ⟨[], tak ++ b, t, rfl, Nat.zero_le _, H9.out.more (by omega) (by omega), R9.out⟩⟩
            case measure => simp [intOf]; omega
          · skip
            have a2 : bits BinOp.and IntKind.i64 x 2 = (n2 : Int) := a2
            go_wp2
            go_roundw
            case rel => exact ⟨k + 1, false, by omega, rfl, by go_num, Lib.hid ⟨b, tak, t, HS.out.1, by have := HS.out.2; omega, (H8.out.quiet (by first | exact (Mods.refl [] w8).drewN _ | exact (Mods.refl [] w8).drew | exact Mods.refl [] w8)).more (by omega) (by omega), R8.out⟩⟩
            case measure => simp [intOf]; omega
        · skip
          go_wp2_with fail
          have hT : tellX false b t t = true := by unfold tellX; rw [← HS.out.1]; rfl
          refine (waitL w _ _ p w.heap.size (k * 1025) 1 (Z false b tak t t) _ H7.out (Mods.refl _ _) none 0 0 [] (fun F hF i x h => by simp at h) rfl (by decide) [xev] (Z false b tak t t) ((hz.told false b tak t t).trans (by rw [hT]; rfl)) ((hz.waited false b tak t t).trans (by rw [hT]; rfl))).mono ?_
          rintro e w8 ⟨B, n, c, rfl, hn, hd⟩
          have H8 := Lib.hid (hd.out.1.less (Kc := [w5.heap.size]) (fun k hk => List.mem_append_left _ hk))
          have R8 := Lib.hid (R7.out.keepP hd.out.2.1 (by simp))
          have E8 := Lib.hid hd.out.2.2
          have c8 := H8.out.cell
          have xc8 : w8.cell? ⟨pb, po + k, none⟩ = some (.int .i64 x) := cell_mods HC.out H8.out.mods (by simp)
          clear hd H7 R7 c7 hT
          obtain rfl : n = 1 := hn.out.1
          obtain ⟨eb, rfl, e0, e1, e2, e3, e4⟩ := ev_one E8.out
          have hs : Ev.same ⟨0, 1, 0, true, false⟩ ⟨0, 1, 0, true, false⟩ = true := (Ev.same_iff _ _).2 rfl
          have e0 : w8.cell? ⟨eb, 0, none⟩ = some (.int .i64 0) := e0
          have e1 : w8.cell? ⟨eb, 1, none⟩ = some (.int .i64 1) := e1
          have e2 : w8.cell? ⟨eb, 2, none⟩ = some (.int .i64 0) := e2
          have e3 : w8.cell? ⟨eb, 3, none⟩ = some (.bool true) := e3
          have e4 : w8.cell? ⟨eb, 4, none⟩ = some (.bool false) := e4
          clear hn
          have f0 : w8.cell? ⟨w5.heap.size, 0, none⟩ = some (.int .i64 0) := R8.out.cell 0
          have f1 : w8.cell? ⟨w5.heap.size, 1, none⟩ = some (.int .i64 1) := R8.out.cell 1
          go_wp2_with fail
          go_quiet (fail)
          rcases (show n2 = 2 ∨ ¬ (n2 : Int) = 2 by omega) with rfl | hn2
          · skip
            have a2 : bits BinOp.and IntKind.i64 x 2 = 2 := a2
            go_wp2_with fail
            refine (preadL w _ p w.heap.size (k * 1025) 1 _ _ (H8.out.quiet (by first | exact (Mods.refl [] w8).drewN _ | exact (Mods.refl [] w8).drew | exact Mods.refl [] w8)) (by omega) 0 2000 _ (hz.read false b tak t t (by first | (have := HS.out.2; simp only [List.length_append, List.length_singleton]; omega) | (have := HS.out.2; omega)))).mono ?_
            rintro e w9 ⟨v, rfl, hd⟩
            have H9 := Lib.hid (show PolL w w9 p w.heap.size (Z false [] (tak ++ b) t t) (k * 1025 + 1024) 1 [w5.heap.size] from hz.sent false b tak t t [] (tak ++ b) t ▸ hd.out.1)
            have R9 := Lib.hid (R8.out.keepP (w' := w9) (fun k hk => hd.out.2 k hk) (by simp))
            clear hd
            go_wp2
            go_roundw
            case rel => exact ⟨k + 1, false, by omega, rfl, by go_num, Lib.hid ⟨[], tak ++ b, t, rfl, Nat.zero_le _, H9.out.more (by omega) (by omega), R9.out⟩⟩
            case measure => simp [intOf]; omega
          · skip
            have a2 : bits BinOp.and IntKind.i64 x 2 = (n2 : Int) := a2
            go_wp2
            go_roundw
            case rel => exact ⟨k + 1, true, by omega, rfl, by go_num, Lib.hid ⟨b, tak, t, HS.out.1, by have := HS.out.2; omega, (H8.out.quiet (by first | exact (Mods.refl [] w8).drewN _ | exact (Mods.refl [] w8).drew | exact Mods.refl [] w8)).more (by omega) (by omega), R8.out⟩⟩
            case measure => simp [intOf]; omega
        · skip
          go_wp2_with fail
          have hT : tellX true b t t = false := by simp [tellX]
          refine (waitL w _ _ p w.heap.size (k * 1025) 1 (Z true b tak t t) _ H7.out (Mods.refl _ _) none 0 0 [] (fun F hF i x h => by simp at h) rfl (by decide) [] (Z true b tak t t) ((hz.told true b tak t t).trans (by rw [hT]; rfl)) ((hz.waited true b tak t t).trans (by rw [hT]; rfl))).mono ?_
          rintro e w8 ⟨B, n, c, rfl, hn, hd⟩
          have H8 := Lib.hid (hd.out.1.less (Kc := [w5.heap.size]) (fun k hk => List.mem_append_left _ hk))
          have R8 := Lib.hid (R7.out.keepP hd.out.2.1 (by simp))
          have E8 := Lib.hid hd.out.2.2
          have c8 := H8.out.cell
          have xc8 : w8.cell? ⟨pb, po + k, none⟩ = some (.int .i64 x) := cell_mods HC.out H8.out.mods (by simp)
          clear hd H7 R7 c7 hT
          obtain rfl : n = 0 := hn.out.1
          clear hn
          have f0 : w8.cell? ⟨w5.heap.size, 0, none⟩ = some (.int .i64 0) := R8.out.cell 0
          have f1 : w8.cell? ⟨w5.heap.size, 1, none⟩ = some (.int .i64 1) := R8.out.cell 1
          go_wp2_with fail
          go_quiet (fail)
          rcases (show n2 = 2 ∨ ¬ (n2 : Int) = 2 by omega) with rfl | hn2
          · skip
            have a2 : bits BinOp.and IntKind.i64 x 2 = 2 := a2
            go_wp2_with fail
            refine (preadL w _ p w.heap.size (k * 1025) 1 _ _ (H8.out.quiet (by first | exact (Mods.refl [] w8).drewN _ | exact (Mods.refl [] w8).drew | exact Mods.refl [] w8)) (by omega) 0 2000 _ (hz.read true b tak t t (by first | (have := HS.out.2; simp only [List.length_append, List.length_singleton]; omega) | (have := HS.out.2; omega)))).mono ?_
            rintro e w9 ⟨v, rfl, hd⟩
            have H9 := Lib.hid (show PolL w w9 p w.heap.size (Z true [] (tak ++ b) t t) (k * 1025 + 1024) 1 [w5.heap.size] from hz.sent true b tak t t [] (tak ++ b) t ▸ hd.out.1)
            have R9 := Lib.hid (R8.out.keepP (w' := w9) (fun k hk => hd.out.2 k hk) (by simp))
            clear hd
            go_wp2
            go_roundw
            case rel => exact ⟨k + 1, false, by omega, rfl, by go_num, Lib.hid ⟨[], tak ++ b, t, rfl, Nat.zero_le _, H9.out.more (by omega) (by omega), R9.out⟩⟩
            case measure => simp [intOf]; omega
          · skip
            have a2 : bits BinOp.and IntKind.i64 x 2 = (n2 : Int) := a2
            go_wp2
            go_roundw
            case rel => exact ⟨k + 1, true, by omega, rfl, by go_num, Lib.hid ⟨b, tak, t, HS.out.1, by have := HS.out.2; omega, (H8.out.quiet (by first | exact (Mods.refl [] w8).drewN _ | exact (Mods.refl [] w8).drew | exact Mods.refl [] w8)).more (by omega) (by omega), R8.out⟩⟩
            case measure => simp [intOf]; omega
    · have q1 : ¬ (k : Int) < (len : Int) := by omega
      go_wp2_with fail
      refine (known_any _ (HT.out.mods H6.out.mods (by simp))).mono ?_
      rintro e w9 ⟨rfl, h9⟩
      have H9 := Lib.hid (H6.out.mods.trans h9 (by simp))
      clear h9
      go_wp2
      go_ret
      exact ⟨rfl, H9.out.below⟩
theorem other (v : Value) (eg : Bool) (w : World) (ht : TzTab w) (h : ∃ a len cap, v = .slice a len cap ∧ 60 < len) :
    Calls Tryd.prog 4 #[v, .bool eg] w fun e w' => e = .returned (.bool true) ∧ Below w.heap.size w w' := by
  obtain ⟨A, len, cap, rfl, hl⟩ := h
  have hK := known_any w ht
  have h3 : (60 : Int) < (len : Int) := by omega
  go_enter Tryd.func4, Tryd.ntmps4
  go_wp2_with fail
  refine hK.mono ?_
  rintro e w9 ⟨rfl, h9⟩
  go_wp2
  go_ret
  exact ⟨rfl, h9.below⟩
theorem walk (v : Value) (eg : Bool) (w : World) (o : IsInts w v) (hL : laidMetH Tryd.prog Rows.pollEdgesRow.laid w) :
    Calls Tryd.prog 4 #[v, .bool eg] w fun e w' => e = .returned (.bool true) ∧ Below w.heap.size w w' := by
  rw [MakeChecks.laidMetH_plain _ _ _ (by kernel_rfl)] at hL
  have ht := tz_of hL rfl
  rcases o with ⟨a, cap, rfl⟩ | ⟨b, off, len, cap, f, rfl, h0, hlc, hcm, hb, hf⟩
  · exact main xz w ht eg a 0 cap [] (fun i x h => by simp at h) rfl (by omega)
  · by_cases hl : len ≤ 60
    · refine main xz w ht eg _ len cap ((List.range len).map f) (fun i x h => ?_) (by simp) hl
      rw [List.getElem?_map] at h
      have hi : i < len := by
        rcases Nat.lt_or_ge i len with h1 | h1
        · exact h1
        · rw [List.getElem?_eq_none (by simpa using h1)] at h; cases h
      rw [List.getElem?_range hi] at h
      simp at h; subst h
      exact ⟨b, off, rfl, hb, by simp, (hf i hi).1⟩
    · exact other _ eg w ht ⟨_, len, cap, rfl, by omega⟩

theorem own : ownKnob Tryd.prog.godebug = none := by kernel_rfl
theorem laidOut : laidOutB Tryd.prog = true := by kernel_rfl
set_option maxRecDepth 100000 in
theorem lifted (os : Os) (started : os.Started) (H : Type) (enc : TypeId × Value → H) :
    ReturnsInHanded {} Tryd.checked os 4 .any (fun w args => (Rows.pollEdgesSpec.pre enc Tryd.prog Tryd.f4 [] false w args ∧ laidMetH Tryd.prog Rows.pollEdgesRow.laid w) ∧ sizedMet enc Tryd.prog Tryd.f4 (OpenSpec.ofChange Rows.pollEdgesSpec) false w args)
      (Rows.pollEdgesSpec.post enc Tryd.prog Tryd.f4 false true false false) := by
  refine returnsInHanded_of_change_and (C := Tryd.checked) (X := fun w _ => laidMetH Tryd.prog Rows.pollEdgesRow.laid w) (fun _ _ _ hh h => h.of_heap hh) own started (by kernel_rfl) Tryd.func4
    (ChangeSpec.witness_shaped (enc := enc) (C := Tryd.checked) (os := os) (X := fun w _ => laidMetH Tryd.prog Rows.pollEdgesRow.laid w) false (World.laidAll Tryd.prog os Rows.pollEdgesRow.laid) #[.slice none 0 0, .bool false] 8 (World.laidAll_os _ _ _)
      (World.shaped_of_ZipB (by kernel_rfl) (by kernel_rfl)) (by kernel_rfl) (by kernel_rfl) (by kernel_rfl)
      (by rw [MakeChecks.laidMetH_plain _ _ _ (by kernel_rfl)]; exact laidMet_laidAll _ (by kernel_rfl) (by kernel_rfl))) ?_
  intro W base args ds gs before hval0 hW hcnd hsz0 hL _
  have hsz : (DataW.weightsEach Tryd.prog (Tryd.f4.params.toList ++ Rows.pollEdgesSpec.plain.varTypes Tryd.prog) (ds ++ gs)).all (· ≤ reachBytes) = true := hsz0
  have hval : ∀ (j : Nat) t v, Tryd.f4.params[j]? = some t → args[j]? = some v → Value.okWide Tryd.prog W .any base t v := hval0
  have hW' := hW
  obtain ⟨p, q, hA0, hV, rfl, hfz, hnd⟩ := hW
  have hA : DataW.TrodAll enc Tryd.prog W 0 (fun _ => true) true Tryd.f4.params.toList args.toList ds p := hA0
  rw [Tryd.params4] at hA hval hsz
  obtain ⟨v0, vs0, d0, ds0, p0, q0, hargs, rfl, rfl, h0, r0⟩ := trodAll_cons hA
  obtain ⟨v1, vs1, d1, ds1, p1, q1, rfl, rfl, rfl, h1, r1⟩ := trodAll_cons r0
  obtain ⟨rfl, rfl, rfl⟩ := trodAll_nil r1
  obtain rfl : args = #[v0, v1] := by cases args; simp_all
  obtain ⟨rfl, rfl⟩ := trodVars_none hV
  have k0 := h0
  have lt0 : ∀ x ∈ p0, x.block < W.heap.size := by obtain ⟨m, hm⟩ := k0; exact DataW.trod_lt m _ _ _ hm
  obtain o0 := open_nums (hval 0 23 v0 rfl rfl) k0
  obtain ⟨a1, rfl, rfl, rfl⟩ := open_bool Tryd.underlying4 (hval 1 4 v1 rfl rfl) h1
  clear hA0 hval0 hsz0 hsz
  refine (walk v0 a1 W o0 hL).mono fun e W' ⟨he, bel⟩ => ?_
  subst he
  exact ⟨_, rfl, _, _, _, [], _, [], hW', trodAll_mk1 (shut_bool Tryd.underlying4 _), (trodAll_cons_mk (Below.trod laidOut (by kernel_rfl) (of_decide_eq_true (by kernel_rfl)) k0 bel lt0) (trodAll_cons_mk (shut_bool Tryd.underlying4 a1) trodAll_mk0)), rfl, bel.frame _, fun h => by cases h⟩

theorem over : Rows.pollEdgesRow.holds Tryd.pinned (OpenSpec.ofChange Rows.pollEdgesSpec) :=
  OpenClaim.holds_of_wide 4 Tryd.f4 rfl rfl rfl rfl rfl rfl rfl ⟨rfl, rfl, rfl, rfl, rfl⟩ rfl rfl rfl rfl rfl (by kernel_rfl) Tryd.func4 (by kernel_rfl)
    (of_decide_eq_true (by kernel_rfl)) (by unfold Func.isWrapper; first | (rw [if_pos (by decide +kernel)]; kernel_rfl) | (rw [if_neg (by decide +kernel)]; exact ⟨rfl, rfl⟩))
    (fun os started H enc _ => lifted os started H enc)

theorem said : Rows.PollEdgesSaid := over
theorem plain (f : FuncId) (fn : Func) (hf : Tryd.pinned.checked.prog.funcNamed "usher/usherlaw8.PollEdges" = some f) (hfn : Tryd.pinned.checked.prog.funcs[f]? = some fn) :
    false = Tryd.pinned.checked.prog.looks [] ∧ ∀ (j : Nat) t, fn.params[j]? = some t → Tryd.pinned.checked.prog.wantsStandIn t = false := by
  obtain rfl : f = 4 := Option.some.inj ((show Tryd.prog.funcNamed "usher/usherlaw8.PollEdges" = some 4 by kernel_rfl).symm.trans hf) |>.symm
  obtain rfl : fn = Tryd.f4 := (Option.some.inj (Tryd.func4.symm.trans hfn)).symm
  refine ⟨by kernel_rfl, fun j t ht => ?_⟩
  rw [Tryd.params4] at ht
  have hm : t ∈ [23, 4] := by simpa using Array.mem_of_getElem? ht
  simp only [List.mem_cons, List.mem_nil_iff, or_false] at hm
  rcases hm with rfl | rfl
  · exact (show Tryd.prog.wantsStandIn 23 = false by kernel_rfl)
  · exact (show Tryd.prog.wantsStandIn 4 = false by kernel_rfl)
theorem proved : Rows.PollEdgesCardSaid :=
  Claim7.holds_tied_plain_at .later [] _ _ _ _ said (fun _ h => by cases h) (by kernel_rfl) (fun _ h => by cases h) pollEdges_row_tie rfl ⟨rfl, rfl⟩ (by kernel_rfl) rfl plain (by kernel_rfl)
end Go.Proofs.YthaapkafamdhcaaDoor.pollEdges
