/- For every choice of what is asked for and what is ready, what is not asked for, or not ready, is not told, and what is dropped is told no more: the law returns true. Condition: the library's table of 64 is laid as its initialiser lays it. -/
import Derived.Test.YthaapkafamdhcaaDoorCards
import Derived.Test.YthaapkafamdhcaaDoorTie
import Derived.Lay
import Derived.LaidOnce
import Derived.MakeChecks
import Derived.SevenTiedAt
import Derived.WalkKit
import Derived.ProofKit
import Derived.OpenShut
import Derived.ShutString
import Derived.ChangeOld
import Derived.Below
import Derived.SizedLaws
import Derived.Test.YthaapkafamdhcaaDoorMgG
import Derived.Carry

namespace Go.Proofs.YthaapkafamdhcaaDoor.pollQuiet
open Go.ChangeShapes Go.WideShapes Go.ChangeAt Go.RowKit
open Go.ChangeMaps (open_string shut_string)
set_option linter.unusedVariables false
theorem psendB (W w : World) (p g m K : Nat) (P : Plr) (Kb : List Nat) (h : PolL W w p g P m K Kb) (hm : m + 1 ≤ 900000000) (c y : Int) (hy : 0 ≤ y ∧ y ≤ 255) (N E : Int) (S' : Nt) (hN : P.net.sendK c [y] = N) (hE : P.net.sendE c = E) (hS : P.net.send c [y] = S') (b : Nat) (hb : b = w.heap.size) :
    Calls Tryd.prog 22 #[.pointer (some ⟨g, 0, none⟩), .int .i64 c, .slice (some ⟨b + 1, 0, none⟩) 1 1] ((w.alloc (.cells #[.int .u8 y] 5)).alloc (.cells #[.slice (some ⟨b, 0, none⟩) 1 1] 72)) fun e w' => e = .returned (.tuple #[.int .i64 N, .int .i64 E]) ∧ Hid (PolL W w' p g { P with net := S' } (m + 1) K Kb ∧ KeepP Kb w w') := by
  subst hb
  exact psendL W w p g m K P Kb h hm c y hy N E S' hN hE hS
theorem pairs_one (w : World) (b : Nat) (hb : b = w.heap.size) (x y : Int) (hx : -9223372036854775808 ≤ x ∧ x ≤ 9223372036854775807) (hy : -9223372036854775808 ≤ y ∧ y ≤ 9223372036854775807) : Pairs (w.alloc (.cells #[.int .i64 x, .int .i64 y] 47)) b [(x, y)] := by
  subst hb
  have R := Row.new w 47 #[.int .i64 x, .int .i64 y]
  intro j p hp
  cases j with
  | zero => simp at hp; subst hp; exact ⟨R.cell 0, R.cell 1, hx, hy⟩
  | succ j => simp at hp
theorem ev_one {w : World} {B : Option Addr} {c : Nat} {x : Ev} (h : EvS w (.slice B 1 c) [x]) : ∃ b, B = some ⟨b, 0, none⟩ ∧ w.cell? ⟨b, 0, none⟩ = some (.int .i64 x.s) ∧ w.cell? ⟨b, 1, none⟩ = some (.int .i64 x.g) ∧ w.cell? ⟨b, 2, none⟩ = some (.int .i64 x.c) ∧ w.cell? ⟨b, 3, none⟩ = some (.bool x.r) ∧ w.cell? ⟨b, 4, none⟩ = some (.bool x.w) := by
  obtain ⟨b, rfl⟩ : ∃ b, B = some ⟨b, 0, none⟩ := by
    obtain ⟨g', c', e', _⟩ := own_some h (by simp)
    injection e' with e1 e2 e3
    exact ⟨g', e1⟩
  exact ⟨b, rfl, h.at_.2.cell (i := 0) (j := 0) rfl (by omega), h.at_.2.cell (i := 0) (j := 1) rfl (by omega), h.at_.2.cell (i := 0) (j := 2) rfl (by omega), h.at_.2.cell (i := 0) (j := 3) rfl (by omega), h.at_.2.cell (i := 0) (j := 4) rfl (by omega)⟩
def y0 : Nt := ((Nt.new 1).conn 1).acc
def y1 (r s : Bool) : Plr := ({ Plr.new (Nt.new 1) with net := y0 } : Plr).watch 0 r s false
def y2 (r s c : Bool) : Plr := { y1 r s with net := if c then y0.send 0 [1] else y0 }
def y3 (r s c o : Bool) : Plr := { y1 r s with net := if o then (if c then y0.send 0 [1] else y0).open_ 0 1 else if c then y0.send 0 [1] else y0 }
def zl (r s c o : Bool) : List Ev := if (r && c) || (s && o) then [⟨0, 1, 0, r && c, s && o⟩] else []
def y4 (r s c o : Bool) : Plr := (y3 r s c o).waited.drop [(0, 1)]
/-- The poller of the law, call by call. -/
structure Zz (z0 zs : Nt) (zo : Bool → Nt) (z1 : Bool → Bool → Plr) (z2 : Bool → Bool → Bool → Plr) (z3 z4 : Bool → Bool → Bool → Bool → Plr) : Prop where
  acc : ((Nt.new 1).conn 1).acc = z0
  watchE : ({ Plr.new (Nt.new 1) with net := z0 } : Plr).watchE 0 = 0
  cnt : ({ Plr.new (Nt.new 1) with net := z0 } : Plr).sl.cnt < 4096
  watch : ∀ r s, ({ Plr.new (Nt.new 1) with net := z0 } : Plr).watch 0 r s false = z1 r s
  sendK : ∀ r s, (z1 r s).net.sendK 0 [1] = 1
  sendE : ∀ r s, (z1 r s).net.sendE 0 = 0
  send : ∀ r s, (z1 r s).net.send 0 [1] = zs
  sent : ∀ r s, ({ z1 r s with net := zs } : Plr) = z2 r s true
  quiet : ∀ r s, z1 r s = z2 r s false
  openN : ∀ r s c, (z2 r s c).net.open_ 0 1 = zo c
  opened : ∀ r s c, ({ z2 r s c with net := zo c } : Plr) = z3 r s c true
  shut : ∀ r s c, z2 r s c = z3 r s c false
  told : ∀ r s c o, ord (z3 r s c o).told [] = zl r s c o
  taken : ∀ r s c o, ((z3 r s c o).waited.sl.taken [(0, 1)] : Int) = 1
  drop : ∀ r s c o, (z3 r s c o).waited.drop [(0, 1)] = z4 r s c o
  told4 : ∀ r s c o, ord (z4 r s c o).told [] = []
  is4 : ∀ r s c o, (z4 r s c o).waited.sl.is 0 1 = false
  cnt4 : ∀ r s c o, ((z4 r s c o).waited.sl.cnt : Int) = 0
theorem zz : Zz y0 (y0.send 0 [1]) (fun c => (if c then y0.send 0 [1] else y0).open_ 0 1) y1 y2 y3 y4 where
  acc := rfl
  watchE := rfl
  cnt := by decide
  watch _ _ := rfl
  sendK r s := by cases r <;> cases s <;> rfl
  sendE r s := by cases r <;> cases s <;> rfl
  send r s := by cases r <;> cases s <;> rfl
  sent r s := rfl
  quiet r s := by cases r <;> cases s <;> rfl
  openN r s c := by cases c <;> rfl
  opened r s c := by cases c <;> rfl
  shut r s c := by cases c <;> rfl
  told r s c o := by cases r <;> cases s <;> cases c <;> cases o <;> rfl
  taken r s c o := by cases r <;> cases s <;> cases c <;> cases o <;> rfl
  drop r s c o := rfl
  told4 r s c o := by cases r <;> cases s <;> cases c <;> cases o <;> rfl
  is4 r s c o := by cases r <;> cases s <;> cases c <;> cases o <;> rfl
  cnt4 r s c o := by cases r <;> cases s <;> cases c <;> cases o <;> rfl
set_option maxHeartbeats 4000000 in
theorem walk0 {z0 zs : Nt} {zo : Bool → Nt} {z1 : Bool → Bool → Plr} {z2 : Bool → Bool → Bool → Plr} {z3 z4 : Bool → Bool → Bool → Bool → Plr} (hz : Zz z0 zs zo z1 z2 z3 z4) (rd wr cm op : Bool) (w : World) (ht : TzTab w) :
    Calls Tryd.prog 7 #[.bool rd, .bool wr, .bool cm, .bool op] w fun e w' => e = .returned (.bool true) ∧ Below w.heap.size w w' := by
  have hnp := eql_ppol
  have hq := neq_ev
  have hg := eqg_ev
  have hnn := eql_pnet
  have HT := Lib.hid ht
  clear ht
  go_enter Tryd.func7, Tryd.ntmps7
  go_wp2_with fail
  refine (nnew_any 1 w (by omega) (by omega)).mono ?_
  rintro e w1 ⟨rfl, hn, hm⟩
  have HN := Lib.hid hn
  have HM := Lib.hid hm
  clear hn hm
  go_wp2_with fail
  refine (pnew_any w1 w.heap.size 0 _ _ HN.out).mono ?_
  rintro e w2 ⟨p, rfl, hd⟩
  have H2 := Lib.hid (PolL.new (Kb := []) (Mods.refl [] w) (by simp) HM.out hd.out)
  have c0 := H2.out.cell
  clear hd
  go_wp2_with fail
  refine (pconnL w _ p w.heap.size 0 0 _ _ H2.out 1 ((Nt.new 1).conn 1) rfl).mono ?_
  rintro e w3 ⟨rfl, hd⟩
  have H3 := Lib.hid hd.out.1
  have c3 := H3.out.cell
  clear hd c0 H2
  go_wp2_with fail
  refine (paccL w _ p w.heap.size 0 0 _ _ H3.out _ _ _ z0 rfl rfl rfl hz.acc).mono ?_
  rintro e w4 ⟨rfl, hd⟩
  have H4 := Lib.hid hd.out.1
  have c4 := H4.out.cell
  clear hd c3 H3
  go_wp2_with fail
  refine (watchL w w4 p w.heap.size 0 0 _ [] 0 rd wr false H4.out HT.out hz.watchE hz.cnt (by omega) 0 1 (z1 rd wr) rfl rfl (hz.watch rd wr)).mono ?_
  rintro e w5 ⟨rfl, hd⟩
  have H5a := Lib.hid (hd.out.1.add (l := [w5.heap.size]) ((Mods.refl [] w5).alloc (.cells #[.int .i64 0, .int .i64 1] 47)) (fun k hk => by simp at hk; subst hk; simp))
  have R5 := Lib.hid (Row.new w5 47 #[.int .i64 0, .int .i64 1])
  have c5 := H5a.out.cell
  clear hd c4 H4
  cases cm
  · skip
    have H6 := Lib.hid (show PolL w (w5.alloc (.cells #[.int .i64 0, .int .i64 1] 47)) p w.heap.size (z2 rd wr false) 0 1 [w5.heap.size] from hz.quiet rd wr ▸ H5a.out)
    have R6 := R5
    have c6 := c5
    cases op
    · have H7 := Lib.hid (show PolL w (w5.alloc (.cells #[.int .i64 0, .int .i64 1] 47)) p w.heap.size (z3 rd wr false false) 0 1 [w5.heap.size] from hz.shut rd wr false ▸ H6.out)
      have R7 := R6
      have c7 := c6
      cases rd <;> cases wr
      · go_wp2_with fail
        refine (waitL w (w5.alloc (.cells #[.int .i64 0, .int .i64 1] 47)) (w5.alloc (.cells #[.int .i64 0, .int .i64 1] 47)) p w.heap.size 0 1 (z3 false false false false) _ H7.out (Mods.refl _ _) none 0 0 [] (fun F hF i x h => by simp at h) rfl (by decide) (zl false false false false) (z3 false false false false).waited (hz.told false false false false) rfl).mono ?_
        rintro e w8 ⟨B, n, c, rfl, hn, hd⟩
        have H8 := Lib.hid hd.out.1
        have R8 := Lib.hid (R7.out.keepP hd.out.2.1 (by simp))
        have E8 := Lib.hid hd.out.2.2
        have c8 := H8.out.cell
        clear hd H7 R7 c7
        obtain rfl : n = 0 := hn.out.1
        clear hn
        have f0 : w8.cell? ⟨w5.heap.size, 0, none⟩ = some (.int .i64 0) := R8.out.cell 0
        have f1 : w8.cell? ⟨w5.heap.size, 1, none⟩ = some (.int .i64 1) := R8.out.cell 1
        go_wp2_with fail
        go_quiet (fail)
        go_wp2_with fail
        refine (dropL w w8 _ p w.heap.size 0 1 w8.heap.size 1 (z3 false false false false).waited _ [(0, 1)] H8.out (Mods.alloc (by first | exact (Mods.refl [] w8).drewN _ | exact (Mods.refl [] w8).drew | exact Mods.refl [] w8) _) (by decide) (pairs_one _ w8.heap.size (by simp) 0 1 (by decide) (by decide)) (Nat.le_refl _) (by simp) 1 rfl 1 (z4 false false false false) (hz.taken false false false false) (hz.drop false false false false)).mono ?_
        rintro e w9 ⟨rfl, hd⟩
        have H9 := Lib.hid hd.out.1
        have R9 := Lib.hid (R8.out.keepP hd.out.2 (by simp))
        have c9 := H9.out.cell
        clear hd H8 R8 c8 f0 f1
        go_wp2_with fail
        refine (waitL w w9 w9 p w.heap.size 0 1 (z4 false false false false) _ H9.out (Mods.refl _ _) none 0 0 [] (fun F hF i x h => by simp at h) rfl (by decide) [] (z4 false false false false).waited (hz.told4 false false false false) rfl).mono ?_
        rintro e wa ⟨B', n', c', rfl, hn', hd⟩
        have Ha := Lib.hid hd.out.1
        have Ra := Lib.hid (R9.out.keepP hd.out.2.1 (by simp))
        have ca := Ha.out.cell
        have f0 : wa.cell? ⟨w5.heap.size, 0, none⟩ = some (.int .i64 0) := Ra.out.cell 0
        have f1 : wa.cell? ⟨w5.heap.size, 1, none⟩ = some (.int .i64 1) := Ra.out.cell 1
        obtain rfl : n' = 0 := hn'.out.1
        clear hd H9 R9 c9 hn'
        go_wp2_with fail
        refine (changeL_no w wa p w.heap.size 0 1 _ _ Ha.out 0 1 true true (by omega) (hz.is4 false false false false)).mono ?_
        rintro e wb ⟨rfl, hb⟩
        have Hb := Lib.hid (Ha.out.quiet hb)
        have cb := Hb.out.cell
        clear hb Ha Ra f0 f1 ca
        go_wp2_with fail
        refine (watchedL w wb p w.heap.size 0 1 _ _ Hb.out 0 (hz.cnt4 false false false false)).mono ?_
        rintro e wc ⟨rfl, rfl⟩
        go_wp2_with fail
        refine (known_any _ (HT.out.mods Hb.out.mods (by simp))).mono ?_
        rintro e wd ⟨rfl, hd⟩
        have Hd := Lib.hid (Hb.out.mods.trans hd (by simp))
        clear hd Hb cb
        go_wp2
        go_ret
        exact ⟨rfl, Hd.out.below⟩
      · go_wp2_with fail
        refine (waitL w (w5.alloc (.cells #[.int .i64 0, .int .i64 1] 47)) (w5.alloc (.cells #[.int .i64 0, .int .i64 1] 47)) p w.heap.size 0 1 (z3 false true false false) _ H7.out (Mods.refl _ _) none 0 0 [] (fun F hF i x h => by simp at h) rfl (by decide) (zl false true false false) (z3 false true false false).waited (hz.told false true false false) rfl).mono ?_
        rintro e w8 ⟨B, n, c, rfl, hn, hd⟩
        have H8 := Lib.hid hd.out.1
        have R8 := Lib.hid (R7.out.keepP hd.out.2.1 (by simp))
        have E8 := Lib.hid hd.out.2.2
        have c8 := H8.out.cell
        clear hd H7 R7 c7
        obtain rfl : n = 0 := hn.out.1
        clear hn
        have f0 : w8.cell? ⟨w5.heap.size, 0, none⟩ = some (.int .i64 0) := R8.out.cell 0
        have f1 : w8.cell? ⟨w5.heap.size, 1, none⟩ = some (.int .i64 1) := R8.out.cell 1
        go_wp2_with fail
        go_quiet (fail)
        go_wp2_with fail
        refine (dropL w w8 _ p w.heap.size 0 1 w8.heap.size 1 (z3 false true false false).waited _ [(0, 1)] H8.out (Mods.alloc (by first | exact (Mods.refl [] w8).drewN _ | exact (Mods.refl [] w8).drew | exact Mods.refl [] w8) _) (by decide) (pairs_one _ w8.heap.size (by simp) 0 1 (by decide) (by decide)) (Nat.le_refl _) (by simp) 1 rfl 1 (z4 false true false false) (hz.taken false true false false) (hz.drop false true false false)).mono ?_
        rintro e w9 ⟨rfl, hd⟩
        have H9 := Lib.hid hd.out.1
        have R9 := Lib.hid (R8.out.keepP hd.out.2 (by simp))
        have c9 := H9.out.cell
        clear hd H8 R8 c8 f0 f1
        go_wp2_with fail
        refine (waitL w w9 w9 p w.heap.size 0 1 (z4 false true false false) _ H9.out (Mods.refl _ _) none 0 0 [] (fun F hF i x h => by simp at h) rfl (by decide) [] (z4 false true false false).waited (hz.told4 false true false false) rfl).mono ?_
        rintro e wa ⟨B', n', c', rfl, hn', hd⟩
        have Ha := Lib.hid hd.out.1
        have Ra := Lib.hid (R9.out.keepP hd.out.2.1 (by simp))
        have ca := Ha.out.cell
        have f0 : wa.cell? ⟨w5.heap.size, 0, none⟩ = some (.int .i64 0) := Ra.out.cell 0
        have f1 : wa.cell? ⟨w5.heap.size, 1, none⟩ = some (.int .i64 1) := Ra.out.cell 1
        obtain rfl : n' = 0 := hn'.out.1
        clear hd H9 R9 c9 hn'
        go_wp2_with fail
        refine (changeL_no w wa p w.heap.size 0 1 _ _ Ha.out 0 1 true true (by omega) (hz.is4 false true false false)).mono ?_
        rintro e wb ⟨rfl, hb⟩
        have Hb := Lib.hid (Ha.out.quiet hb)
        have cb := Hb.out.cell
        clear hb Ha Ra f0 f1 ca
        go_wp2_with fail
        refine (watchedL w wb p w.heap.size 0 1 _ _ Hb.out 0 (hz.cnt4 false true false false)).mono ?_
        rintro e wc ⟨rfl, rfl⟩
        go_wp2_with fail
        refine (known_any _ (HT.out.mods Hb.out.mods (by simp))).mono ?_
        rintro e wd ⟨rfl, hd⟩
        have Hd := Lib.hid (Hb.out.mods.trans hd (by simp))
        clear hd Hb cb
        go_wp2
        go_ret
        exact ⟨rfl, Hd.out.below⟩
      · go_wp2_with fail
        refine (waitL w (w5.alloc (.cells #[.int .i64 0, .int .i64 1] 47)) (w5.alloc (.cells #[.int .i64 0, .int .i64 1] 47)) p w.heap.size 0 1 (z3 true false false false) _ H7.out (Mods.refl _ _) none 0 0 [] (fun F hF i x h => by simp at h) rfl (by decide) (zl true false false false) (z3 true false false false).waited (hz.told true false false false) rfl).mono ?_
        rintro e w8 ⟨B, n, c, rfl, hn, hd⟩
        have H8 := Lib.hid hd.out.1
        have R8 := Lib.hid (R7.out.keepP hd.out.2.1 (by simp))
        have E8 := Lib.hid hd.out.2.2
        have c8 := H8.out.cell
        clear hd H7 R7 c7
        obtain rfl : n = 0 := hn.out.1
        clear hn
        have f0 : w8.cell? ⟨w5.heap.size, 0, none⟩ = some (.int .i64 0) := R8.out.cell 0
        have f1 : w8.cell? ⟨w5.heap.size, 1, none⟩ = some (.int .i64 1) := R8.out.cell 1
        go_wp2_with fail
        go_quiet (fail)
        go_wp2_with fail
        refine (dropL w w8 _ p w.heap.size 0 1 w8.heap.size 1 (z3 true false false false).waited _ [(0, 1)] H8.out (Mods.alloc (by first | exact (Mods.refl [] w8).drewN _ | exact (Mods.refl [] w8).drew | exact Mods.refl [] w8) _) (by decide) (pairs_one _ w8.heap.size (by simp) 0 1 (by decide) (by decide)) (Nat.le_refl _) (by simp) 1 rfl 1 (z4 true false false false) (hz.taken true false false false) (hz.drop true false false false)).mono ?_
        rintro e w9 ⟨rfl, hd⟩
        have H9 := Lib.hid hd.out.1
        have R9 := Lib.hid (R8.out.keepP hd.out.2 (by simp))
        have c9 := H9.out.cell
        clear hd H8 R8 c8 f0 f1
        go_wp2_with fail
        refine (waitL w w9 w9 p w.heap.size 0 1 (z4 true false false false) _ H9.out (Mods.refl _ _) none 0 0 [] (fun F hF i x h => by simp at h) rfl (by decide) [] (z4 true false false false).waited (hz.told4 true false false false) rfl).mono ?_
        rintro e wa ⟨B', n', c', rfl, hn', hd⟩
        have Ha := Lib.hid hd.out.1
        have Ra := Lib.hid (R9.out.keepP hd.out.2.1 (by simp))
        have ca := Ha.out.cell
        have f0 : wa.cell? ⟨w5.heap.size, 0, none⟩ = some (.int .i64 0) := Ra.out.cell 0
        have f1 : wa.cell? ⟨w5.heap.size, 1, none⟩ = some (.int .i64 1) := Ra.out.cell 1
        obtain rfl : n' = 0 := hn'.out.1
        clear hd H9 R9 c9 hn'
        go_wp2_with fail
        refine (changeL_no w wa p w.heap.size 0 1 _ _ Ha.out 0 1 true true (by omega) (hz.is4 true false false false)).mono ?_
        rintro e wb ⟨rfl, hb⟩
        have Hb := Lib.hid (Ha.out.quiet hb)
        have cb := Hb.out.cell
        clear hb Ha Ra f0 f1 ca
        go_wp2_with fail
        refine (watchedL w wb p w.heap.size 0 1 _ _ Hb.out 0 (hz.cnt4 true false false false)).mono ?_
        rintro e wc ⟨rfl, rfl⟩
        go_wp2_with fail
        refine (known_any _ (HT.out.mods Hb.out.mods (by simp))).mono ?_
        rintro e wd ⟨rfl, hd⟩
        have Hd := Lib.hid (Hb.out.mods.trans hd (by simp))
        clear hd Hb cb
        go_wp2
        go_ret
        exact ⟨rfl, Hd.out.below⟩
      · go_wp2_with fail
        refine (waitL w (w5.alloc (.cells #[.int .i64 0, .int .i64 1] 47)) (w5.alloc (.cells #[.int .i64 0, .int .i64 1] 47)) p w.heap.size 0 1 (z3 true true false false) _ H7.out (Mods.refl _ _) none 0 0 [] (fun F hF i x h => by simp at h) rfl (by decide) (zl true true false false) (z3 true true false false).waited (hz.told true true false false) rfl).mono ?_
        rintro e w8 ⟨B, n, c, rfl, hn, hd⟩
        have H8 := Lib.hid hd.out.1
        have R8 := Lib.hid (R7.out.keepP hd.out.2.1 (by simp))
        have E8 := Lib.hid hd.out.2.2
        have c8 := H8.out.cell
        clear hd H7 R7 c7
        obtain rfl : n = 0 := hn.out.1
        clear hn
        have f0 : w8.cell? ⟨w5.heap.size, 0, none⟩ = some (.int .i64 0) := R8.out.cell 0
        have f1 : w8.cell? ⟨w5.heap.size, 1, none⟩ = some (.int .i64 1) := R8.out.cell 1
        go_wp2_with fail
        go_quiet (fail)
        go_wp2_with fail
        refine (dropL w w8 _ p w.heap.size 0 1 w8.heap.size 1 (z3 true true false false).waited _ [(0, 1)] H8.out (Mods.alloc (by first | exact (Mods.refl [] w8).drewN _ | exact (Mods.refl [] w8).drew | exact Mods.refl [] w8) _) (by decide) (pairs_one _ w8.heap.size (by simp) 0 1 (by decide) (by decide)) (Nat.le_refl _) (by simp) 1 rfl 1 (z4 true true false false) (hz.taken true true false false) (hz.drop true true false false)).mono ?_
        rintro e w9 ⟨rfl, hd⟩
        have H9 := Lib.hid hd.out.1
        have R9 := Lib.hid (R8.out.keepP hd.out.2 (by simp))
        have c9 := H9.out.cell
        clear hd H8 R8 c8 f0 f1
        go_wp2_with fail
        refine (waitL w w9 w9 p w.heap.size 0 1 (z4 true true false false) _ H9.out (Mods.refl _ _) none 0 0 [] (fun F hF i x h => by simp at h) rfl (by decide) [] (z4 true true false false).waited (hz.told4 true true false false) rfl).mono ?_
        rintro e wa ⟨B', n', c', rfl, hn', hd⟩
        have Ha := Lib.hid hd.out.1
        have Ra := Lib.hid (R9.out.keepP hd.out.2.1 (by simp))
        have ca := Ha.out.cell
        have f0 : wa.cell? ⟨w5.heap.size, 0, none⟩ = some (.int .i64 0) := Ra.out.cell 0
        have f1 : wa.cell? ⟨w5.heap.size, 1, none⟩ = some (.int .i64 1) := Ra.out.cell 1
        obtain rfl : n' = 0 := hn'.out.1
        clear hd H9 R9 c9 hn'
        go_wp2_with fail
        refine (changeL_no w wa p w.heap.size 0 1 _ _ Ha.out 0 1 true true (by omega) (hz.is4 true true false false)).mono ?_
        rintro e wb ⟨rfl, hb⟩
        have Hb := Lib.hid (Ha.out.quiet hb)
        have cb := Hb.out.cell
        clear hb Ha Ra f0 f1 ca
        go_wp2_with fail
        refine (watchedL w wb p w.heap.size 0 1 _ _ Hb.out 0 (hz.cnt4 true true false false)).mono ?_
        rintro e wc ⟨rfl, rfl⟩
        go_wp2_with fail
        refine (known_any _ (HT.out.mods Hb.out.mods (by simp))).mono ?_
        rintro e wd ⟨rfl, hd⟩
        have Hd := Lib.hid (Hb.out.mods.trans hd (by simp))
        clear hd Hb cb
        go_wp2
        go_ret
        exact ⟨rfl, Hd.out.below⟩
    · go_wp2_with fail
      refine (popenL w _ p w.heap.size 0 1 (z2 rd wr false) [w5.heap.size] H6.out (by omega) 0 1 (zo false) (hz.openN rd wr false)).mono ?_
      rintro e w7 ⟨rfl, hd⟩
      have H7 := Lib.hid (show PolL w w7 p w.heap.size (z3 rd wr false true) 1 1 [w5.heap.size] from hz.opened rd wr false ▸ hd.out.1)
      have R7 := Lib.hid (R6.out.keepP hd.out.2 (by simp))
      have c7 := H7.out.cell
      clear hd H6 R6 c6
      cases rd <;> cases wr
      · go_wp2_with fail
        refine (waitL w w7 w7 p w.heap.size 1 1 (z3 false false false true) _ H7.out (Mods.refl _ _) none 0 0 [] (fun F hF i x h => by simp at h) rfl (by decide) (zl false false false true) (z3 false false false true).waited (hz.told false false false true) rfl).mono ?_
        rintro e w8 ⟨B, n, c, rfl, hn, hd⟩
        have H8 := Lib.hid hd.out.1
        have R8 := Lib.hid (R7.out.keepP hd.out.2.1 (by simp))
        have E8 := Lib.hid hd.out.2.2
        have c8 := H8.out.cell
        clear hd H7 R7 c7
        obtain rfl : n = 0 := hn.out.1
        clear hn
        have f0 : w8.cell? ⟨w5.heap.size, 0, none⟩ = some (.int .i64 0) := R8.out.cell 0
        have f1 : w8.cell? ⟨w5.heap.size, 1, none⟩ = some (.int .i64 1) := R8.out.cell 1
        go_wp2_with fail
        go_quiet (fail)
        go_wp2_with fail
        refine (dropL w w8 _ p w.heap.size 1 1 w8.heap.size 1 (z3 false false false true).waited _ [(0, 1)] H8.out (Mods.alloc (by first | exact (Mods.refl [] w8).drewN _ | exact (Mods.refl [] w8).drew | exact Mods.refl [] w8) _) (by decide) (pairs_one _ w8.heap.size (by simp) 0 1 (by decide) (by decide)) (Nat.le_refl _) (by simp) 1 rfl 1 (z4 false false false true) (hz.taken false false false true) (hz.drop false false false true)).mono ?_
        rintro e w9 ⟨rfl, hd⟩
        have H9 := Lib.hid hd.out.1
        have R9 := Lib.hid (R8.out.keepP hd.out.2 (by simp))
        have c9 := H9.out.cell
        clear hd H8 R8 c8 f0 f1
        go_wp2_with fail
        refine (waitL w w9 w9 p w.heap.size 1 1 (z4 false false false true) _ H9.out (Mods.refl _ _) none 0 0 [] (fun F hF i x h => by simp at h) rfl (by decide) [] (z4 false false false true).waited (hz.told4 false false false true) rfl).mono ?_
        rintro e wa ⟨B', n', c', rfl, hn', hd⟩
        have Ha := Lib.hid hd.out.1
        have Ra := Lib.hid (R9.out.keepP hd.out.2.1 (by simp))
        have ca := Ha.out.cell
        have f0 : wa.cell? ⟨w5.heap.size, 0, none⟩ = some (.int .i64 0) := Ra.out.cell 0
        have f1 : wa.cell? ⟨w5.heap.size, 1, none⟩ = some (.int .i64 1) := Ra.out.cell 1
        obtain rfl : n' = 0 := hn'.out.1
        clear hd H9 R9 c9 hn'
        go_wp2_with fail
        refine (changeL_no w wa p w.heap.size 1 1 _ _ Ha.out 0 1 true true (by omega) (hz.is4 false false false true)).mono ?_
        rintro e wb ⟨rfl, hb⟩
        have Hb := Lib.hid (Ha.out.quiet hb)
        have cb := Hb.out.cell
        clear hb Ha Ra f0 f1 ca
        go_wp2_with fail
        refine (watchedL w wb p w.heap.size 1 1 _ _ Hb.out 0 (hz.cnt4 false false false true)).mono ?_
        rintro e wc ⟨rfl, rfl⟩
        go_wp2_with fail
        refine (known_any _ (HT.out.mods Hb.out.mods (by simp))).mono ?_
        rintro e wd ⟨rfl, hd⟩
        have Hd := Lib.hid (Hb.out.mods.trans hd (by simp))
        clear hd Hb cb
        go_wp2
        go_ret
        exact ⟨rfl, Hd.out.below⟩
      · go_wp2_with fail
        refine (waitL w w7 w7 p w.heap.size 1 1 (z3 false true false true) _ H7.out (Mods.refl _ _) none 0 0 [] (fun F hF i x h => by simp at h) rfl (by decide) (zl false true false true) (z3 false true false true).waited (hz.told false true false true) rfl).mono ?_
        rintro e w8 ⟨B, n, c, rfl, hn, hd⟩
        have H8 := Lib.hid hd.out.1
        have R8 := Lib.hid (R7.out.keepP hd.out.2.1 (by simp))
        have E8 := Lib.hid hd.out.2.2
        have c8 := H8.out.cell
        clear hd H7 R7 c7
        obtain rfl : n = 1 := hn.out.1
        obtain ⟨b, rfl, e0, e1, e2, e3, e4⟩ := ev_one E8.out
        clear hn
        have f0 : w8.cell? ⟨w5.heap.size, 0, none⟩ = some (.int .i64 0) := R8.out.cell 0
        have f1 : w8.cell? ⟨w5.heap.size, 1, none⟩ = some (.int .i64 1) := R8.out.cell 1
        have hs : Ev.same ⟨0, 1, 0, false, true⟩ ⟨0, 1, 0, false, true⟩ = true := (Ev.same_iff _ _).2 rfl
        go_wp2_with fail
        go_quiet (fail)
        go_wp2_with fail
        refine (dropL w w8 _ p w.heap.size 1 1 w8.heap.size 1 (z3 false true false true).waited _ [(0, 1)] H8.out (Mods.alloc (by first | exact (Mods.refl [] w8).drewN _ | exact (Mods.refl [] w8).drew | exact Mods.refl [] w8) _) (by decide) (pairs_one _ w8.heap.size (by simp) 0 1 (by decide) (by decide)) (Nat.le_refl _) (by simp) 1 rfl 1 (z4 false true false true) (hz.taken false true false true) (hz.drop false true false true)).mono ?_
        rintro e w9 ⟨rfl, hd⟩
        have H9 := Lib.hid hd.out.1
        have R9 := Lib.hid (R8.out.keepP hd.out.2 (by simp))
        have c9 := H9.out.cell
        clear hd H8 R8 c8 f0 f1
        go_wp2_with fail
        refine (waitL w w9 w9 p w.heap.size 1 1 (z4 false true false true) _ H9.out (Mods.refl _ _) none 0 0 [] (fun F hF i x h => by simp at h) rfl (by decide) [] (z4 false true false true).waited (hz.told4 false true false true) rfl).mono ?_
        rintro e wa ⟨B', n', c', rfl, hn', hd⟩
        have Ha := Lib.hid hd.out.1
        have Ra := Lib.hid (R9.out.keepP hd.out.2.1 (by simp))
        have ca := Ha.out.cell
        have f0 : wa.cell? ⟨w5.heap.size, 0, none⟩ = some (.int .i64 0) := Ra.out.cell 0
        have f1 : wa.cell? ⟨w5.heap.size, 1, none⟩ = some (.int .i64 1) := Ra.out.cell 1
        obtain rfl : n' = 0 := hn'.out.1
        clear hd H9 R9 c9 hn'
        go_wp2_with fail
        refine (changeL_no w wa p w.heap.size 1 1 _ _ Ha.out 0 1 true true (by omega) (hz.is4 false true false true)).mono ?_
        rintro e wb ⟨rfl, hb⟩
        have Hb := Lib.hid (Ha.out.quiet hb)
        have cb := Hb.out.cell
        clear hb Ha Ra f0 f1 ca
        go_wp2_with fail
        refine (watchedL w wb p w.heap.size 1 1 _ _ Hb.out 0 (hz.cnt4 false true false true)).mono ?_
        rintro e wc ⟨rfl, rfl⟩
        go_wp2_with fail
        refine (known_any _ (HT.out.mods Hb.out.mods (by simp))).mono ?_
        rintro e wd ⟨rfl, hd⟩
        have Hd := Lib.hid (Hb.out.mods.trans hd (by simp))
        clear hd Hb cb
        go_wp2
        go_ret
        exact ⟨rfl, Hd.out.below⟩
      · go_wp2_with fail
        refine (waitL w w7 w7 p w.heap.size 1 1 (z3 true false false true) _ H7.out (Mods.refl _ _) none 0 0 [] (fun F hF i x h => by simp at h) rfl (by decide) (zl true false false true) (z3 true false false true).waited (hz.told true false false true) rfl).mono ?_
        rintro e w8 ⟨B, n, c, rfl, hn, hd⟩
        have H8 := Lib.hid hd.out.1
        have R8 := Lib.hid (R7.out.keepP hd.out.2.1 (by simp))
        have E8 := Lib.hid hd.out.2.2
        have c8 := H8.out.cell
        clear hd H7 R7 c7
        obtain rfl : n = 0 := hn.out.1
        clear hn
        have f0 : w8.cell? ⟨w5.heap.size, 0, none⟩ = some (.int .i64 0) := R8.out.cell 0
        have f1 : w8.cell? ⟨w5.heap.size, 1, none⟩ = some (.int .i64 1) := R8.out.cell 1
        go_wp2_with fail
        go_quiet (fail)
        go_wp2_with fail
        refine (dropL w w8 _ p w.heap.size 1 1 w8.heap.size 1 (z3 true false false true).waited _ [(0, 1)] H8.out (Mods.alloc (by first | exact (Mods.refl [] w8).drewN _ | exact (Mods.refl [] w8).drew | exact Mods.refl [] w8) _) (by decide) (pairs_one _ w8.heap.size (by simp) 0 1 (by decide) (by decide)) (Nat.le_refl _) (by simp) 1 rfl 1 (z4 true false false true) (hz.taken true false false true) (hz.drop true false false true)).mono ?_
        rintro e w9 ⟨rfl, hd⟩
        have H9 := Lib.hid hd.out.1
        have R9 := Lib.hid (R8.out.keepP hd.out.2 (by simp))
        have c9 := H9.out.cell
        clear hd H8 R8 c8 f0 f1
        go_wp2_with fail
        refine (waitL w w9 w9 p w.heap.size 1 1 (z4 true false false true) _ H9.out (Mods.refl _ _) none 0 0 [] (fun F hF i x h => by simp at h) rfl (by decide) [] (z4 true false false true).waited (hz.told4 true false false true) rfl).mono ?_
        rintro e wa ⟨B', n', c', rfl, hn', hd⟩
        have Ha := Lib.hid hd.out.1
        have Ra := Lib.hid (R9.out.keepP hd.out.2.1 (by simp))
        have ca := Ha.out.cell
        have f0 : wa.cell? ⟨w5.heap.size, 0, none⟩ = some (.int .i64 0) := Ra.out.cell 0
        have f1 : wa.cell? ⟨w5.heap.size, 1, none⟩ = some (.int .i64 1) := Ra.out.cell 1
        obtain rfl : n' = 0 := hn'.out.1
        clear hd H9 R9 c9 hn'
        go_wp2_with fail
        refine (changeL_no w wa p w.heap.size 1 1 _ _ Ha.out 0 1 true true (by omega) (hz.is4 true false false true)).mono ?_
        rintro e wb ⟨rfl, hb⟩
        have Hb := Lib.hid (Ha.out.quiet hb)
        have cb := Hb.out.cell
        clear hb Ha Ra f0 f1 ca
        go_wp2_with fail
        refine (watchedL w wb p w.heap.size 1 1 _ _ Hb.out 0 (hz.cnt4 true false false true)).mono ?_
        rintro e wc ⟨rfl, rfl⟩
        go_wp2_with fail
        refine (known_any _ (HT.out.mods Hb.out.mods (by simp))).mono ?_
        rintro e wd ⟨rfl, hd⟩
        have Hd := Lib.hid (Hb.out.mods.trans hd (by simp))
        clear hd Hb cb
        go_wp2
        go_ret
        exact ⟨rfl, Hd.out.below⟩
      · go_wp2_with fail
        refine (waitL w w7 w7 p w.heap.size 1 1 (z3 true true false true) _ H7.out (Mods.refl _ _) none 0 0 [] (fun F hF i x h => by simp at h) rfl (by decide) (zl true true false true) (z3 true true false true).waited (hz.told true true false true) rfl).mono ?_
        rintro e w8 ⟨B, n, c, rfl, hn, hd⟩
        have H8 := Lib.hid hd.out.1
        have R8 := Lib.hid (R7.out.keepP hd.out.2.1 (by simp))
        have E8 := Lib.hid hd.out.2.2
        have c8 := H8.out.cell
        clear hd H7 R7 c7
        obtain rfl : n = 1 := hn.out.1
        obtain ⟨b, rfl, e0, e1, e2, e3, e4⟩ := ev_one E8.out
        clear hn
        have f0 : w8.cell? ⟨w5.heap.size, 0, none⟩ = some (.int .i64 0) := R8.out.cell 0
        have f1 : w8.cell? ⟨w5.heap.size, 1, none⟩ = some (.int .i64 1) := R8.out.cell 1
        have hs : Ev.same ⟨0, 1, 0, false, true⟩ ⟨0, 1, 0, false, true⟩ = true := (Ev.same_iff _ _).2 rfl
        go_wp2_with fail
        go_quiet (fail)
        go_wp2_with fail
        refine (dropL w w8 _ p w.heap.size 1 1 w8.heap.size 1 (z3 true true false true).waited _ [(0, 1)] H8.out (Mods.alloc (by first | exact (Mods.refl [] w8).drewN _ | exact (Mods.refl [] w8).drew | exact Mods.refl [] w8) _) (by decide) (pairs_one _ w8.heap.size (by simp) 0 1 (by decide) (by decide)) (Nat.le_refl _) (by simp) 1 rfl 1 (z4 true true false true) (hz.taken true true false true) (hz.drop true true false true)).mono ?_
        rintro e w9 ⟨rfl, hd⟩
        have H9 := Lib.hid hd.out.1
        have R9 := Lib.hid (R8.out.keepP hd.out.2 (by simp))
        have c9 := H9.out.cell
        clear hd H8 R8 c8 f0 f1
        go_wp2_with fail
        refine (waitL w w9 w9 p w.heap.size 1 1 (z4 true true false true) _ H9.out (Mods.refl _ _) none 0 0 [] (fun F hF i x h => by simp at h) rfl (by decide) [] (z4 true true false true).waited (hz.told4 true true false true) rfl).mono ?_
        rintro e wa ⟨B', n', c', rfl, hn', hd⟩
        have Ha := Lib.hid hd.out.1
        have Ra := Lib.hid (R9.out.keepP hd.out.2.1 (by simp))
        have ca := Ha.out.cell
        have f0 : wa.cell? ⟨w5.heap.size, 0, none⟩ = some (.int .i64 0) := Ra.out.cell 0
        have f1 : wa.cell? ⟨w5.heap.size, 1, none⟩ = some (.int .i64 1) := Ra.out.cell 1
        obtain rfl : n' = 0 := hn'.out.1
        clear hd H9 R9 c9 hn'
        go_wp2_with fail
        refine (changeL_no w wa p w.heap.size 1 1 _ _ Ha.out 0 1 true true (by omega) (hz.is4 true true false true)).mono ?_
        rintro e wb ⟨rfl, hb⟩
        have Hb := Lib.hid (Ha.out.quiet hb)
        have cb := Hb.out.cell
        clear hb Ha Ra f0 f1 ca
        go_wp2_with fail
        refine (watchedL w wb p w.heap.size 1 1 _ _ Hb.out 0 (hz.cnt4 true true false true)).mono ?_
        rintro e wc ⟨rfl, rfl⟩
        go_wp2_with fail
        refine (known_any _ (HT.out.mods Hb.out.mods (by simp))).mono ?_
        rintro e wd ⟨rfl, hd⟩
        have Hd := Lib.hid (Hb.out.mods.trans hd (by simp))
        clear hd Hb cb
        go_wp2
        go_ret
        exact ⟨rfl, Hd.out.below⟩
  · go_wp2_with fail
    refine (psendB w (w5.alloc (.cells #[.int .i64 0, .int .i64 1] 47)) p w.heap.size 0 1 (z1 rd wr) [w5.heap.size] H5a.out (by omega) 0 1 (by omega) 1 0 zs (hz.sendK rd wr) (hz.sendE rd wr) (hz.send rd wr) (w5.heap.size + 1) (by simp)).mono ?_
    rintro e w6 ⟨rfl, hd⟩
    have H6 := Lib.hid (show PolL w w6 p w.heap.size (z2 rd wr true) 1 1 [w5.heap.size] from hz.sent rd wr ▸ hd.out.1)
    have R6 := Lib.hid (R5.out.keepP hd.out.2 (by simp))
    have c6 := H6.out.cell
    clear hd H5a R5 c5
    cases op
    · have H7 := Lib.hid (show PolL w w6 p w.heap.size (z3 rd wr true false) 1 1 [w5.heap.size] from hz.shut rd wr true ▸ H6.out)
      have R7 := R6
      have c7 := c6
      cases rd <;> cases wr
      · go_wp2_with fail
        refine (waitL w w6 w6 p w.heap.size 1 1 (z3 false false true false) _ H7.out (Mods.refl _ _) none 0 0 [] (fun F hF i x h => by simp at h) rfl (by decide) (zl false false true false) (z3 false false true false).waited (hz.told false false true false) rfl).mono ?_
        rintro e w8 ⟨B, n, c, rfl, hn, hd⟩
        have H8 := Lib.hid hd.out.1
        have R8 := Lib.hid (R7.out.keepP hd.out.2.1 (by simp))
        have E8 := Lib.hid hd.out.2.2
        have c8 := H8.out.cell
        clear hd H7 R7 c7
        obtain rfl : n = 0 := hn.out.1
        clear hn
        have f0 : w8.cell? ⟨w5.heap.size, 0, none⟩ = some (.int .i64 0) := R8.out.cell 0
        have f1 : w8.cell? ⟨w5.heap.size, 1, none⟩ = some (.int .i64 1) := R8.out.cell 1
        go_wp2_with fail
        go_quiet (fail)
        go_wp2_with fail
        refine (dropL w w8 _ p w.heap.size 1 1 w8.heap.size 1 (z3 false false true false).waited _ [(0, 1)] H8.out (Mods.alloc (by first | exact (Mods.refl [] w8).drewN _ | exact (Mods.refl [] w8).drew | exact Mods.refl [] w8) _) (by decide) (pairs_one _ w8.heap.size (by simp) 0 1 (by decide) (by decide)) (Nat.le_refl _) (by simp) 1 rfl 1 (z4 false false true false) (hz.taken false false true false) (hz.drop false false true false)).mono ?_
        rintro e w9 ⟨rfl, hd⟩
        have H9 := Lib.hid hd.out.1
        have R9 := Lib.hid (R8.out.keepP hd.out.2 (by simp))
        have c9 := H9.out.cell
        clear hd H8 R8 c8 f0 f1
        go_wp2_with fail
        refine (waitL w w9 w9 p w.heap.size 1 1 (z4 false false true false) _ H9.out (Mods.refl _ _) none 0 0 [] (fun F hF i x h => by simp at h) rfl (by decide) [] (z4 false false true false).waited (hz.told4 false false true false) rfl).mono ?_
        rintro e wa ⟨B', n', c', rfl, hn', hd⟩
        have Ha := Lib.hid hd.out.1
        have Ra := Lib.hid (R9.out.keepP hd.out.2.1 (by simp))
        have ca := Ha.out.cell
        have f0 : wa.cell? ⟨w5.heap.size, 0, none⟩ = some (.int .i64 0) := Ra.out.cell 0
        have f1 : wa.cell? ⟨w5.heap.size, 1, none⟩ = some (.int .i64 1) := Ra.out.cell 1
        obtain rfl : n' = 0 := hn'.out.1
        clear hd H9 R9 c9 hn'
        go_wp2_with fail
        refine (changeL_no w wa p w.heap.size 1 1 _ _ Ha.out 0 1 true true (by omega) (hz.is4 false false true false)).mono ?_
        rintro e wb ⟨rfl, hb⟩
        have Hb := Lib.hid (Ha.out.quiet hb)
        have cb := Hb.out.cell
        clear hb Ha Ra f0 f1 ca
        go_wp2_with fail
        refine (watchedL w wb p w.heap.size 1 1 _ _ Hb.out 0 (hz.cnt4 false false true false)).mono ?_
        rintro e wc ⟨rfl, rfl⟩
        go_wp2_with fail
        refine (known_any _ (HT.out.mods Hb.out.mods (by simp))).mono ?_
        rintro e wd ⟨rfl, hd⟩
        have Hd := Lib.hid (Hb.out.mods.trans hd (by simp))
        clear hd Hb cb
        go_wp2
        go_ret
        exact ⟨rfl, Hd.out.below⟩
      · go_wp2_with fail
        refine (waitL w w6 w6 p w.heap.size 1 1 (z3 false true true false) _ H7.out (Mods.refl _ _) none 0 0 [] (fun F hF i x h => by simp at h) rfl (by decide) (zl false true true false) (z3 false true true false).waited (hz.told false true true false) rfl).mono ?_
        rintro e w8 ⟨B, n, c, rfl, hn, hd⟩
        have H8 := Lib.hid hd.out.1
        have R8 := Lib.hid (R7.out.keepP hd.out.2.1 (by simp))
        have E8 := Lib.hid hd.out.2.2
        have c8 := H8.out.cell
        clear hd H7 R7 c7
        obtain rfl : n = 0 := hn.out.1
        clear hn
        have f0 : w8.cell? ⟨w5.heap.size, 0, none⟩ = some (.int .i64 0) := R8.out.cell 0
        have f1 : w8.cell? ⟨w5.heap.size, 1, none⟩ = some (.int .i64 1) := R8.out.cell 1
        go_wp2_with fail
        go_quiet (fail)
        go_wp2_with fail
        refine (dropL w w8 _ p w.heap.size 1 1 w8.heap.size 1 (z3 false true true false).waited _ [(0, 1)] H8.out (Mods.alloc (by first | exact (Mods.refl [] w8).drewN _ | exact (Mods.refl [] w8).drew | exact Mods.refl [] w8) _) (by decide) (pairs_one _ w8.heap.size (by simp) 0 1 (by decide) (by decide)) (Nat.le_refl _) (by simp) 1 rfl 1 (z4 false true true false) (hz.taken false true true false) (hz.drop false true true false)).mono ?_
        rintro e w9 ⟨rfl, hd⟩
        have H9 := Lib.hid hd.out.1
        have R9 := Lib.hid (R8.out.keepP hd.out.2 (by simp))
        have c9 := H9.out.cell
        clear hd H8 R8 c8 f0 f1
        go_wp2_with fail
        refine (waitL w w9 w9 p w.heap.size 1 1 (z4 false true true false) _ H9.out (Mods.refl _ _) none 0 0 [] (fun F hF i x h => by simp at h) rfl (by decide) [] (z4 false true true false).waited (hz.told4 false true true false) rfl).mono ?_
        rintro e wa ⟨B', n', c', rfl, hn', hd⟩
        have Ha := Lib.hid hd.out.1
        have Ra := Lib.hid (R9.out.keepP hd.out.2.1 (by simp))
        have ca := Ha.out.cell
        have f0 : wa.cell? ⟨w5.heap.size, 0, none⟩ = some (.int .i64 0) := Ra.out.cell 0
        have f1 : wa.cell? ⟨w5.heap.size, 1, none⟩ = some (.int .i64 1) := Ra.out.cell 1
        obtain rfl : n' = 0 := hn'.out.1
        clear hd H9 R9 c9 hn'
        go_wp2_with fail
        refine (changeL_no w wa p w.heap.size 1 1 _ _ Ha.out 0 1 true true (by omega) (hz.is4 false true true false)).mono ?_
        rintro e wb ⟨rfl, hb⟩
        have Hb := Lib.hid (Ha.out.quiet hb)
        have cb := Hb.out.cell
        clear hb Ha Ra f0 f1 ca
        go_wp2_with fail
        refine (watchedL w wb p w.heap.size 1 1 _ _ Hb.out 0 (hz.cnt4 false true true false)).mono ?_
        rintro e wc ⟨rfl, rfl⟩
        go_wp2_with fail
        refine (known_any _ (HT.out.mods Hb.out.mods (by simp))).mono ?_
        rintro e wd ⟨rfl, hd⟩
        have Hd := Lib.hid (Hb.out.mods.trans hd (by simp))
        clear hd Hb cb
        go_wp2
        go_ret
        exact ⟨rfl, Hd.out.below⟩
      · go_wp2_with fail
        refine (waitL w w6 w6 p w.heap.size 1 1 (z3 true false true false) _ H7.out (Mods.refl _ _) none 0 0 [] (fun F hF i x h => by simp at h) rfl (by decide) (zl true false true false) (z3 true false true false).waited (hz.told true false true false) rfl).mono ?_
        rintro e w8 ⟨B, n, c, rfl, hn, hd⟩
        have H8 := Lib.hid hd.out.1
        have R8 := Lib.hid (R7.out.keepP hd.out.2.1 (by simp))
        have E8 := Lib.hid hd.out.2.2
        have c8 := H8.out.cell
        clear hd H7 R7 c7
        obtain rfl : n = 1 := hn.out.1
        obtain ⟨b, rfl, e0, e1, e2, e3, e4⟩ := ev_one E8.out
        clear hn
        have f0 : w8.cell? ⟨w5.heap.size, 0, none⟩ = some (.int .i64 0) := R8.out.cell 0
        have f1 : w8.cell? ⟨w5.heap.size, 1, none⟩ = some (.int .i64 1) := R8.out.cell 1
        have hs : Ev.same ⟨0, 1, 0, true, false⟩ ⟨0, 1, 0, true, false⟩ = true := (Ev.same_iff _ _).2 rfl
        go_wp2_with fail
        go_quiet (fail)
        go_wp2_with fail
        refine (dropL w w8 _ p w.heap.size 1 1 w8.heap.size 1 (z3 true false true false).waited _ [(0, 1)] H8.out (Mods.alloc (by first | exact (Mods.refl [] w8).drewN _ | exact (Mods.refl [] w8).drew | exact Mods.refl [] w8) _) (by decide) (pairs_one _ w8.heap.size (by simp) 0 1 (by decide) (by decide)) (Nat.le_refl _) (by simp) 1 rfl 1 (z4 true false true false) (hz.taken true false true false) (hz.drop true false true false)).mono ?_
        rintro e w9 ⟨rfl, hd⟩
        have H9 := Lib.hid hd.out.1
        have R9 := Lib.hid (R8.out.keepP hd.out.2 (by simp))
        have c9 := H9.out.cell
        clear hd H8 R8 c8 f0 f1
        go_wp2_with fail
        refine (waitL w w9 w9 p w.heap.size 1 1 (z4 true false true false) _ H9.out (Mods.refl _ _) none 0 0 [] (fun F hF i x h => by simp at h) rfl (by decide) [] (z4 true false true false).waited (hz.told4 true false true false) rfl).mono ?_
        rintro e wa ⟨B', n', c', rfl, hn', hd⟩
        have Ha := Lib.hid hd.out.1
        have Ra := Lib.hid (R9.out.keepP hd.out.2.1 (by simp))
        have ca := Ha.out.cell
        have f0 : wa.cell? ⟨w5.heap.size, 0, none⟩ = some (.int .i64 0) := Ra.out.cell 0
        have f1 : wa.cell? ⟨w5.heap.size, 1, none⟩ = some (.int .i64 1) := Ra.out.cell 1
        obtain rfl : n' = 0 := hn'.out.1
        clear hd H9 R9 c9 hn'
        go_wp2_with fail
        refine (changeL_no w wa p w.heap.size 1 1 _ _ Ha.out 0 1 true true (by omega) (hz.is4 true false true false)).mono ?_
        rintro e wb ⟨rfl, hb⟩
        have Hb := Lib.hid (Ha.out.quiet hb)
        have cb := Hb.out.cell
        clear hb Ha Ra f0 f1 ca
        go_wp2_with fail
        refine (watchedL w wb p w.heap.size 1 1 _ _ Hb.out 0 (hz.cnt4 true false true false)).mono ?_
        rintro e wc ⟨rfl, rfl⟩
        go_wp2_with fail
        refine (known_any _ (HT.out.mods Hb.out.mods (by simp))).mono ?_
        rintro e wd ⟨rfl, hd⟩
        have Hd := Lib.hid (Hb.out.mods.trans hd (by simp))
        clear hd Hb cb
        go_wp2
        go_ret
        exact ⟨rfl, Hd.out.below⟩
      · go_wp2_with fail
        refine (waitL w w6 w6 p w.heap.size 1 1 (z3 true true true false) _ H7.out (Mods.refl _ _) none 0 0 [] (fun F hF i x h => by simp at h) rfl (by decide) (zl true true true false) (z3 true true true false).waited (hz.told true true true false) rfl).mono ?_
        rintro e w8 ⟨B, n, c, rfl, hn, hd⟩
        have H8 := Lib.hid hd.out.1
        have R8 := Lib.hid (R7.out.keepP hd.out.2.1 (by simp))
        have E8 := Lib.hid hd.out.2.2
        have c8 := H8.out.cell
        clear hd H7 R7 c7
        obtain rfl : n = 1 := hn.out.1
        obtain ⟨b, rfl, e0, e1, e2, e3, e4⟩ := ev_one E8.out
        clear hn
        have f0 : w8.cell? ⟨w5.heap.size, 0, none⟩ = some (.int .i64 0) := R8.out.cell 0
        have f1 : w8.cell? ⟨w5.heap.size, 1, none⟩ = some (.int .i64 1) := R8.out.cell 1
        have hs : Ev.same ⟨0, 1, 0, true, false⟩ ⟨0, 1, 0, true, false⟩ = true := (Ev.same_iff _ _).2 rfl
        go_wp2_with fail
        go_quiet (fail)
        go_wp2_with fail
        refine (dropL w w8 _ p w.heap.size 1 1 w8.heap.size 1 (z3 true true true false).waited _ [(0, 1)] H8.out (Mods.alloc (by first | exact (Mods.refl [] w8).drewN _ | exact (Mods.refl [] w8).drew | exact Mods.refl [] w8) _) (by decide) (pairs_one _ w8.heap.size (by simp) 0 1 (by decide) (by decide)) (Nat.le_refl _) (by simp) 1 rfl 1 (z4 true true true false) (hz.taken true true true false) (hz.drop true true true false)).mono ?_
        rintro e w9 ⟨rfl, hd⟩
        have H9 := Lib.hid hd.out.1
        have R9 := Lib.hid (R8.out.keepP hd.out.2 (by simp))
        have c9 := H9.out.cell
        clear hd H8 R8 c8 f0 f1
        go_wp2_with fail
        refine (waitL w w9 w9 p w.heap.size 1 1 (z4 true true true false) _ H9.out (Mods.refl _ _) none 0 0 [] (fun F hF i x h => by simp at h) rfl (by decide) [] (z4 true true true false).waited (hz.told4 true true true false) rfl).mono ?_
        rintro e wa ⟨B', n', c', rfl, hn', hd⟩
        have Ha := Lib.hid hd.out.1
        have Ra := Lib.hid (R9.out.keepP hd.out.2.1 (by simp))
        have ca := Ha.out.cell
        have f0 : wa.cell? ⟨w5.heap.size, 0, none⟩ = some (.int .i64 0) := Ra.out.cell 0
        have f1 : wa.cell? ⟨w5.heap.size, 1, none⟩ = some (.int .i64 1) := Ra.out.cell 1
        obtain rfl : n' = 0 := hn'.out.1
        clear hd H9 R9 c9 hn'
        go_wp2_with fail
        refine (changeL_no w wa p w.heap.size 1 1 _ _ Ha.out 0 1 true true (by omega) (hz.is4 true true true false)).mono ?_
        rintro e wb ⟨rfl, hb⟩
        have Hb := Lib.hid (Ha.out.quiet hb)
        have cb := Hb.out.cell
        clear hb Ha Ra f0 f1 ca
        go_wp2_with fail
        refine (watchedL w wb p w.heap.size 1 1 _ _ Hb.out 0 (hz.cnt4 true true true false)).mono ?_
        rintro e wc ⟨rfl, rfl⟩
        go_wp2_with fail
        refine (known_any _ (HT.out.mods Hb.out.mods (by simp))).mono ?_
        rintro e wd ⟨rfl, hd⟩
        have Hd := Lib.hid (Hb.out.mods.trans hd (by simp))
        clear hd Hb cb
        go_wp2
        go_ret
        exact ⟨rfl, Hd.out.below⟩
    · go_wp2_with fail
      refine (popenL w _ p w.heap.size 1 1 (z2 rd wr true) [w5.heap.size] H6.out (by omega) 0 1 (zo true) (hz.openN rd wr true)).mono ?_
      rintro e w7 ⟨rfl, hd⟩
      have H7 := Lib.hid (show PolL w w7 p w.heap.size (z3 rd wr true true) 2 1 [w5.heap.size] from hz.opened rd wr true ▸ hd.out.1)
      have R7 := Lib.hid (R6.out.keepP hd.out.2 (by simp))
      have c7 := H7.out.cell
      clear hd H6 R6 c6
      cases rd <;> cases wr
      · go_wp2_with fail
        refine (waitL w w7 w7 p w.heap.size 2 1 (z3 false false true true) _ H7.out (Mods.refl _ _) none 0 0 [] (fun F hF i x h => by simp at h) rfl (by decide) (zl false false true true) (z3 false false true true).waited (hz.told false false true true) rfl).mono ?_
        rintro e w8 ⟨B, n, c, rfl, hn, hd⟩
        have H8 := Lib.hid hd.out.1
        have R8 := Lib.hid (R7.out.keepP hd.out.2.1 (by simp))
        have E8 := Lib.hid hd.out.2.2
        have c8 := H8.out.cell
        clear hd H7 R7 c7
        obtain rfl : n = 0 := hn.out.1
        clear hn
        have f0 : w8.cell? ⟨w5.heap.size, 0, none⟩ = some (.int .i64 0) := R8.out.cell 0
        have f1 : w8.cell? ⟨w5.heap.size, 1, none⟩ = some (.int .i64 1) := R8.out.cell 1
        go_wp2_with fail
        go_quiet (fail)
        go_wp2_with fail
        refine (dropL w w8 _ p w.heap.size 2 1 w8.heap.size 1 (z3 false false true true).waited _ [(0, 1)] H8.out (Mods.alloc (by first | exact (Mods.refl [] w8).drewN _ | exact (Mods.refl [] w8).drew | exact Mods.refl [] w8) _) (by decide) (pairs_one _ w8.heap.size (by simp) 0 1 (by decide) (by decide)) (Nat.le_refl _) (by simp) 1 rfl 1 (z4 false false true true) (hz.taken false false true true) (hz.drop false false true true)).mono ?_
        rintro e w9 ⟨rfl, hd⟩
        have H9 := Lib.hid hd.out.1
        have R9 := Lib.hid (R8.out.keepP hd.out.2 (by simp))
        have c9 := H9.out.cell
        clear hd H8 R8 c8 f0 f1
        go_wp2_with fail
        refine (waitL w w9 w9 p w.heap.size 2 1 (z4 false false true true) _ H9.out (Mods.refl _ _) none 0 0 [] (fun F hF i x h => by simp at h) rfl (by decide) [] (z4 false false true true).waited (hz.told4 false false true true) rfl).mono ?_
        rintro e wa ⟨B', n', c', rfl, hn', hd⟩
        have Ha := Lib.hid hd.out.1
        have Ra := Lib.hid (R9.out.keepP hd.out.2.1 (by simp))
        have ca := Ha.out.cell
        have f0 : wa.cell? ⟨w5.heap.size, 0, none⟩ = some (.int .i64 0) := Ra.out.cell 0
        have f1 : wa.cell? ⟨w5.heap.size, 1, none⟩ = some (.int .i64 1) := Ra.out.cell 1
        obtain rfl : n' = 0 := hn'.out.1
        clear hd H9 R9 c9 hn'
        go_wp2_with fail
        refine (changeL_no w wa p w.heap.size 2 1 _ _ Ha.out 0 1 true true (by omega) (hz.is4 false false true true)).mono ?_
        rintro e wb ⟨rfl, hb⟩
        have Hb := Lib.hid (Ha.out.quiet hb)
        have cb := Hb.out.cell
        clear hb Ha Ra f0 f1 ca
        go_wp2_with fail
        refine (watchedL w wb p w.heap.size 2 1 _ _ Hb.out 0 (hz.cnt4 false false true true)).mono ?_
        rintro e wc ⟨rfl, rfl⟩
        go_wp2_with fail
        refine (known_any _ (HT.out.mods Hb.out.mods (by simp))).mono ?_
        rintro e wd ⟨rfl, hd⟩
        have Hd := Lib.hid (Hb.out.mods.trans hd (by simp))
        clear hd Hb cb
        go_wp2
        go_ret
        exact ⟨rfl, Hd.out.below⟩
      · go_wp2_with fail
        refine (waitL w w7 w7 p w.heap.size 2 1 (z3 false true true true) _ H7.out (Mods.refl _ _) none 0 0 [] (fun F hF i x h => by simp at h) rfl (by decide) (zl false true true true) (z3 false true true true).waited (hz.told false true true true) rfl).mono ?_
        rintro e w8 ⟨B, n, c, rfl, hn, hd⟩
        have H8 := Lib.hid hd.out.1
        have R8 := Lib.hid (R7.out.keepP hd.out.2.1 (by simp))
        have E8 := Lib.hid hd.out.2.2
        have c8 := H8.out.cell
        clear hd H7 R7 c7
        obtain rfl : n = 1 := hn.out.1
        obtain ⟨b, rfl, e0, e1, e2, e3, e4⟩ := ev_one E8.out
        clear hn
        have f0 : w8.cell? ⟨w5.heap.size, 0, none⟩ = some (.int .i64 0) := R8.out.cell 0
        have f1 : w8.cell? ⟨w5.heap.size, 1, none⟩ = some (.int .i64 1) := R8.out.cell 1
        have hs : Ev.same ⟨0, 1, 0, false, true⟩ ⟨0, 1, 0, false, true⟩ = true := (Ev.same_iff _ _).2 rfl
        go_wp2_with fail
        go_quiet (fail)
        go_wp2_with fail
        refine (dropL w w8 _ p w.heap.size 2 1 w8.heap.size 1 (z3 false true true true).waited _ [(0, 1)] H8.out (Mods.alloc (by first | exact (Mods.refl [] w8).drewN _ | exact (Mods.refl [] w8).drew | exact Mods.refl [] w8) _) (by decide) (pairs_one _ w8.heap.size (by simp) 0 1 (by decide) (by decide)) (Nat.le_refl _) (by simp) 1 rfl 1 (z4 false true true true) (hz.taken false true true true) (hz.drop false true true true)).mono ?_
        rintro e w9 ⟨rfl, hd⟩
        have H9 := Lib.hid hd.out.1
        have R9 := Lib.hid (R8.out.keepP hd.out.2 (by simp))
        have c9 := H9.out.cell
        clear hd H8 R8 c8 f0 f1
        go_wp2_with fail
        refine (waitL w w9 w9 p w.heap.size 2 1 (z4 false true true true) _ H9.out (Mods.refl _ _) none 0 0 [] (fun F hF i x h => by simp at h) rfl (by decide) [] (z4 false true true true).waited (hz.told4 false true true true) rfl).mono ?_
        rintro e wa ⟨B', n', c', rfl, hn', hd⟩
        have Ha := Lib.hid hd.out.1
        have Ra := Lib.hid (R9.out.keepP hd.out.2.1 (by simp))
        have ca := Ha.out.cell
        have f0 : wa.cell? ⟨w5.heap.size, 0, none⟩ = some (.int .i64 0) := Ra.out.cell 0
        have f1 : wa.cell? ⟨w5.heap.size, 1, none⟩ = some (.int .i64 1) := Ra.out.cell 1
        obtain rfl : n' = 0 := hn'.out.1
        clear hd H9 R9 c9 hn'
        go_wp2_with fail
        refine (changeL_no w wa p w.heap.size 2 1 _ _ Ha.out 0 1 true true (by omega) (hz.is4 false true true true)).mono ?_
        rintro e wb ⟨rfl, hb⟩
        have Hb := Lib.hid (Ha.out.quiet hb)
        have cb := Hb.out.cell
        clear hb Ha Ra f0 f1 ca
        go_wp2_with fail
        refine (watchedL w wb p w.heap.size 2 1 _ _ Hb.out 0 (hz.cnt4 false true true true)).mono ?_
        rintro e wc ⟨rfl, rfl⟩
        go_wp2_with fail
        refine (known_any _ (HT.out.mods Hb.out.mods (by simp))).mono ?_
        rintro e wd ⟨rfl, hd⟩
        have Hd := Lib.hid (Hb.out.mods.trans hd (by simp))
        clear hd Hb cb
        go_wp2
        go_ret
        exact ⟨rfl, Hd.out.below⟩
      · go_wp2_with fail
        refine (waitL w w7 w7 p w.heap.size 2 1 (z3 true false true true) _ H7.out (Mods.refl _ _) none 0 0 [] (fun F hF i x h => by simp at h) rfl (by decide) (zl true false true true) (z3 true false true true).waited (hz.told true false true true) rfl).mono ?_
        rintro e w8 ⟨B, n, c, rfl, hn, hd⟩
        have H8 := Lib.hid hd.out.1
        have R8 := Lib.hid (R7.out.keepP hd.out.2.1 (by simp))
        have E8 := Lib.hid hd.out.2.2
        have c8 := H8.out.cell
        clear hd H7 R7 c7
        obtain rfl : n = 1 := hn.out.1
        obtain ⟨b, rfl, e0, e1, e2, e3, e4⟩ := ev_one E8.out
        clear hn
        have f0 : w8.cell? ⟨w5.heap.size, 0, none⟩ = some (.int .i64 0) := R8.out.cell 0
        have f1 : w8.cell? ⟨w5.heap.size, 1, none⟩ = some (.int .i64 1) := R8.out.cell 1
        have hs : Ev.same ⟨0, 1, 0, true, false⟩ ⟨0, 1, 0, true, false⟩ = true := (Ev.same_iff _ _).2 rfl
        go_wp2_with fail
        go_quiet (fail)
        go_wp2_with fail
        refine (dropL w w8 _ p w.heap.size 2 1 w8.heap.size 1 (z3 true false true true).waited _ [(0, 1)] H8.out (Mods.alloc (by first | exact (Mods.refl [] w8).drewN _ | exact (Mods.refl [] w8).drew | exact Mods.refl [] w8) _) (by decide) (pairs_one _ w8.heap.size (by simp) 0 1 (by decide) (by decide)) (Nat.le_refl _) (by simp) 1 rfl 1 (z4 true false true true) (hz.taken true false true true) (hz.drop true false true true)).mono ?_
        rintro e w9 ⟨rfl, hd⟩
        have H9 := Lib.hid hd.out.1
        have R9 := Lib.hid (R8.out.keepP hd.out.2 (by simp))
        have c9 := H9.out.cell
        clear hd H8 R8 c8 f0 f1
        go_wp2_with fail
        refine (waitL w w9 w9 p w.heap.size 2 1 (z4 true false true true) _ H9.out (Mods.refl _ _) none 0 0 [] (fun F hF i x h => by simp at h) rfl (by decide) [] (z4 true false true true).waited (hz.told4 true false true true) rfl).mono ?_
        rintro e wa ⟨B', n', c', rfl, hn', hd⟩
        have Ha := Lib.hid hd.out.1
        have Ra := Lib.hid (R9.out.keepP hd.out.2.1 (by simp))
        have ca := Ha.out.cell
        have f0 : wa.cell? ⟨w5.heap.size, 0, none⟩ = some (.int .i64 0) := Ra.out.cell 0
        have f1 : wa.cell? ⟨w5.heap.size, 1, none⟩ = some (.int .i64 1) := Ra.out.cell 1
        obtain rfl : n' = 0 := hn'.out.1
        clear hd H9 R9 c9 hn'
        go_wp2_with fail
        refine (changeL_no w wa p w.heap.size 2 1 _ _ Ha.out 0 1 true true (by omega) (hz.is4 true false true true)).mono ?_
        rintro e wb ⟨rfl, hb⟩
        have Hb := Lib.hid (Ha.out.quiet hb)
        have cb := Hb.out.cell
        clear hb Ha Ra f0 f1 ca
        go_wp2_with fail
        refine (watchedL w wb p w.heap.size 2 1 _ _ Hb.out 0 (hz.cnt4 true false true true)).mono ?_
        rintro e wc ⟨rfl, rfl⟩
        go_wp2_with fail
        refine (known_any _ (HT.out.mods Hb.out.mods (by simp))).mono ?_
        rintro e wd ⟨rfl, hd⟩
        have Hd := Lib.hid (Hb.out.mods.trans hd (by simp))
        clear hd Hb cb
        go_wp2
        go_ret
        exact ⟨rfl, Hd.out.below⟩
      · go_wp2_with fail
        refine (waitL w w7 w7 p w.heap.size 2 1 (z3 true true true true) _ H7.out (Mods.refl _ _) none 0 0 [] (fun F hF i x h => by simp at h) rfl (by decide) (zl true true true true) (z3 true true true true).waited (hz.told true true true true) rfl).mono ?_
        rintro e w8 ⟨B, n, c, rfl, hn, hd⟩
        have H8 := Lib.hid hd.out.1
        have R8 := Lib.hid (R7.out.keepP hd.out.2.1 (by simp))
        have E8 := Lib.hid hd.out.2.2
        have c8 := H8.out.cell
        clear hd H7 R7 c7
        obtain rfl : n = 1 := hn.out.1
        obtain ⟨b, rfl, e0, e1, e2, e3, e4⟩ := ev_one E8.out
        clear hn
        have f0 : w8.cell? ⟨w5.heap.size, 0, none⟩ = some (.int .i64 0) := R8.out.cell 0
        have f1 : w8.cell? ⟨w5.heap.size, 1, none⟩ = some (.int .i64 1) := R8.out.cell 1
        have hs : Ev.same ⟨0, 1, 0, true, true⟩ ⟨0, 1, 0, true, true⟩ = true := (Ev.same_iff _ _).2 rfl
        go_wp2_with fail
        go_quiet (fail)
        go_wp2_with fail
        refine (dropL w w8 _ p w.heap.size 2 1 w8.heap.size 1 (z3 true true true true).waited _ [(0, 1)] H8.out (Mods.alloc (by first | exact (Mods.refl [] w8).drewN _ | exact (Mods.refl [] w8).drew | exact Mods.refl [] w8) _) (by decide) (pairs_one _ w8.heap.size (by simp) 0 1 (by decide) (by decide)) (Nat.le_refl _) (by simp) 1 rfl 1 (z4 true true true true) (hz.taken true true true true) (hz.drop true true true true)).mono ?_
        rintro e w9 ⟨rfl, hd⟩
        have H9 := Lib.hid hd.out.1
        have R9 := Lib.hid (R8.out.keepP hd.out.2 (by simp))
        have c9 := H9.out.cell
        clear hd H8 R8 c8 f0 f1
        go_wp2_with fail
        refine (waitL w w9 w9 p w.heap.size 2 1 (z4 true true true true) _ H9.out (Mods.refl _ _) none 0 0 [] (fun F hF i x h => by simp at h) rfl (by decide) [] (z4 true true true true).waited (hz.told4 true true true true) rfl).mono ?_
        rintro e wa ⟨B', n', c', rfl, hn', hd⟩
        have Ha := Lib.hid hd.out.1
        have Ra := Lib.hid (R9.out.keepP hd.out.2.1 (by simp))
        have ca := Ha.out.cell
        have f0 : wa.cell? ⟨w5.heap.size, 0, none⟩ = some (.int .i64 0) := Ra.out.cell 0
        have f1 : wa.cell? ⟨w5.heap.size, 1, none⟩ = some (.int .i64 1) := Ra.out.cell 1
        obtain rfl : n' = 0 := hn'.out.1
        clear hd H9 R9 c9 hn'
        go_wp2_with fail
        refine (changeL_no w wa p w.heap.size 2 1 _ _ Ha.out 0 1 true true (by omega) (hz.is4 true true true true)).mono ?_
        rintro e wb ⟨rfl, hb⟩
        have Hb := Lib.hid (Ha.out.quiet hb)
        have cb := Hb.out.cell
        clear hb Ha Ra f0 f1 ca
        go_wp2_with fail
        refine (watchedL w wb p w.heap.size 2 1 _ _ Hb.out 0 (hz.cnt4 true true true true)).mono ?_
        rintro e wc ⟨rfl, rfl⟩
        go_wp2_with fail
        refine (known_any _ (HT.out.mods Hb.out.mods (by simp))).mono ?_
        rintro e wd ⟨rfl, hd⟩
        have Hd := Lib.hid (Hb.out.mods.trans hd (by simp))
        clear hd Hb cb
        go_wp2
        go_ret
        exact ⟨rfl, Hd.out.below⟩
theorem walk (rd wr cm op : Bool) (w : World) (hL : laidMetH Tryd.prog Rows.pollQuietRow.laid w) :
    Calls Tryd.prog 7 #[.bool rd, .bool wr, .bool cm, .bool op] w fun e w' => e = .returned (.bool true) ∧ Below w.heap.size w w' := by
  rw [MakeChecks.laidMetH_plain _ _ _ (by kernel_rfl)] at hL
  exact walk0 zz rd wr cm op w (tz_of hL rfl)

theorem own : ownKnob Tryd.prog.godebug = none := by kernel_rfl
theorem laidOut : laidOutB Tryd.prog = true := by kernel_rfl
set_option maxRecDepth 100000 in
theorem lifted (os : Os) (started : os.Started) (H : Type) (enc : TypeId × Value → H) :
    ReturnsInHanded {} Tryd.checked os 7 .any (fun w args => (Rows.pollQuietSpec.pre enc Tryd.prog Tryd.f7 [] false w args ∧ laidMetH Tryd.prog Rows.pollQuietRow.laid w) ∧ sizedMet enc Tryd.prog Tryd.f7 (OpenSpec.ofChange Rows.pollQuietSpec) false w args)
      (Rows.pollQuietSpec.post enc Tryd.prog Tryd.f7 false true false false) := by
  refine returnsInHanded_of_change_and (C := Tryd.checked) (X := fun w _ => laidMetH Tryd.prog Rows.pollQuietRow.laid w) (fun _ _ _ hh h => h.of_heap hh) own started (by kernel_rfl) Tryd.func7
    (ChangeSpec.witness_shaped (enc := enc) (C := Tryd.checked) (os := os) (X := fun w _ => laidMetH Tryd.prog Rows.pollQuietRow.laid w) false (World.laidAll Tryd.prog os Rows.pollQuietRow.laid) #[.bool false, .bool false, .bool false, .bool false] 8 (World.laidAll_os _ _ _)
      (World.shaped_of_ZipB (by kernel_rfl) (by kernel_rfl)) (by kernel_rfl) (by kernel_rfl) (by kernel_rfl)
      (by rw [MakeChecks.laidMetH_plain _ _ _ (by kernel_rfl)]; exact laidMet_laidAll _ (by kernel_rfl) (by kernel_rfl))) ?_
  intro W base args ds gs before hval0 hW hcnd hsz0 hL _
  have hsz : (DataW.weightsEach Tryd.prog (Tryd.f7.params.toList ++ Rows.pollQuietSpec.plain.varTypes Tryd.prog) (ds ++ gs)).all (· ≤ reachBytes) = true := hsz0
  have hval : ∀ (j : Nat) t v, Tryd.f7.params[j]? = some t → args[j]? = some v → Value.okWide Tryd.prog W .any base t v := hval0
  have hW' := hW
  obtain ⟨p, q, hA0, hV, rfl, hfz, hnd⟩ := hW
  have hA : DataW.TrodAll enc Tryd.prog W 0 (fun _ => true) true Tryd.f7.params.toList args.toList ds p := hA0
  rw [Tryd.params7] at hA hval hsz
  obtain ⟨v0, vs0, d0, ds0, p0, q0, hargs, rfl, rfl, h0, r0⟩ := trodAll_cons hA
  obtain ⟨v1, vs1, d1, ds1, p1, q1, rfl, rfl, rfl, h1, r1⟩ := trodAll_cons r0
  obtain ⟨v2, vs2, d2, ds2, p2, q2, rfl, rfl, rfl, h2, r2⟩ := trodAll_cons r1
  obtain ⟨v3, vs3, d3, ds3, p3, q3, rfl, rfl, rfl, h3, r3⟩ := trodAll_cons r2
  obtain ⟨rfl, rfl, rfl⟩ := trodAll_nil r3
  obtain rfl : args = #[v0, v1, v2, v3] := by cases args; simp_all
  obtain ⟨rfl, rfl⟩ := trodVars_none hV
  obtain ⟨a0, rfl, rfl, rfl⟩ := open_bool Tryd.underlying4 (hval 0 4 v0 rfl rfl) h0
  obtain ⟨a1, rfl, rfl, rfl⟩ := open_bool Tryd.underlying4 (hval 1 4 v1 rfl rfl) h1
  obtain ⟨a2, rfl, rfl, rfl⟩ := open_bool Tryd.underlying4 (hval 2 4 v2 rfl rfl) h2
  obtain ⟨a3, rfl, rfl, rfl⟩ := open_bool Tryd.underlying4 (hval 3 4 v3 rfl rfl) h3
  clear hA0 hval0 hsz0 hsz
  refine (walk a0 a1 a2 a3 W hL).mono fun e W' ⟨he, bel⟩ => ?_
  subst he
  exact ⟨_, rfl, _, _, _, [], _, [], hW', trodAll_mk1 (shut_bool Tryd.underlying4 _), (trodAll_cons_mk (shut_bool Tryd.underlying4 a0) (trodAll_cons_mk (shut_bool Tryd.underlying4 a1) (trodAll_cons_mk (shut_bool Tryd.underlying4 a2) (trodAll_cons_mk (shut_bool Tryd.underlying4 a3) trodAll_mk0)))), rfl, bel.frame _, fun h => by cases h⟩

theorem over : Rows.pollQuietRow.holds Tryd.pinned (OpenSpec.ofChange Rows.pollQuietSpec) :=
  OpenClaim.holds_of_wide 7 Tryd.f7 rfl rfl rfl rfl rfl rfl rfl ⟨rfl, rfl, rfl, rfl, rfl⟩ rfl rfl rfl rfl rfl (by kernel_rfl) Tryd.func7 (by kernel_rfl)
    (of_decide_eq_true (by kernel_rfl)) (by unfold Func.isWrapper; first | (rw [if_pos (by decide +kernel)]; kernel_rfl) | (rw [if_neg (by decide +kernel)]; exact ⟨rfl, rfl⟩))
    (fun os started H enc _ => lifted os started H enc)

theorem said : Rows.PollQuietSaid := over
theorem plain (f : FuncId) (fn : Func) (hf : Tryd.pinned.checked.prog.funcNamed "usher/usherlaw8.PollQuiet" = some f) (hfn : Tryd.pinned.checked.prog.funcs[f]? = some fn) :
    false = Tryd.pinned.checked.prog.looks [] ∧ ∀ (j : Nat) t, fn.params[j]? = some t → Tryd.pinned.checked.prog.wantsStandIn t = false := by
  obtain rfl : f = 7 := Option.some.inj ((show Tryd.prog.funcNamed "usher/usherlaw8.PollQuiet" = some 7 by kernel_rfl).symm.trans hf) |>.symm
  obtain rfl : fn = Tryd.f7 := (Option.some.inj (Tryd.func7.symm.trans hfn)).symm
  refine ⟨by kernel_rfl, fun j t ht => ?_⟩
  rw [Tryd.params7] at ht
  have hm : t ∈ [4] := by simpa using Array.mem_of_getElem? ht
  simp only [List.mem_cons, List.mem_nil_iff, or_false] at hm
  rcases hm with rfl
  · exact (show Tryd.prog.wantsStandIn 4 = false by kernel_rfl)
theorem proved : Rows.PollQuietCardSaid :=
  Claim7.holds_tied_plain_at .later [] _ _ _ _ said (fun _ h => by cases h) (by kernel_rfl) (fun _ h => by cases h) pollQuiet_row_tie rfl ⟨rfl, rfl⟩ (by kernel_rfl) rfl plain (by kernel_rfl)
end Go.Proofs.YthaapkafamdhcaaDoor.pollQuiet
