/- For every text and either way, behind its half a connection is read to its end and then no more comes, and behind a break neither side goes on: the law returns true. Condition: none. -/
import Derived.Test.YtogcfeplfclobaaRows
import Derived.WalkKit
import Derived.ProofKit
import Derived.OpenShut
import Derived.ShutString
import Derived.ChangeOld
import Derived.Below
import Derived.SizedLaws
import Derived.Test.YtogcfeplfclobaaOpenB
import Derived.Test.YtogcfeplfclobaaNs
import Derived.Test.YtogcfeplfclobaaNu
namespace Go.Proofs.Ytogcfeplfclobaa.netEnds
open Go.ChangeShapes Go.WideShapes Go.ChangeAt Go.RowKit
open Go.ChangeMaps (open_string shut_string)
set_option linter.unusedVariables false
set_option maxRecDepth 10000
/-- What is Sent of a text that came in. -/
theorem send_came (W w : World) (g m : Nat) (S : Nt) (c : Int) (b : Rw) (hb : Came W b) (Kb : List Nat) (h : NetL W w g S m Kb) (hm : m + 1 ≤ 900000000) (K E : Int) (S' : Nt) (hK : S.sendK c b.l = K) (hE : S.sendE c = E) (hS : S.send c b.l = S') (o : Obj) (ho : o = .cells #[.slice b.A b.l.length b.c] 33) :
    Calls Try.prog 19 #[.pointer (some ⟨g, 0, none⟩), .int .i64 c, .slice (some ⟨w.heap.size, 0, none⟩) 1 1] (w.alloc o) fun e w' => e = .returned (.tuple #[.int .i64 K, .int .i64 E]) ∧ Hid (NetL W w' g S' (m + 1) Kb ∧ KeepK Kb w w') := by
  subst ho
  refine sendL W w _ g m S c _ 1 1 [b] Kb h ((Mods.refl [] _).alloc _) hm (fun F hF => ?_) rfl (by decide) b.l K E S' (by simp [flatR]) hK hE hS
  refine Parts.of_rows (rows_one b rfl ((hb.ok (F := F) fun k hk => (hF k hk).1).mods ?_) fun hk => by have := (hF _ hk).2; omega)
  exact (h.mods.more (by simp))
theorem write_came (W w : World) (g m : Nat) (S : Nt) (c : Int) (b : Rw) (hb : Came W b) (Kb : List Nat) (h : NetL W w g S m Kb) (hm : m + b.l.length ≤ 900000000) (K : Nat) (E : Int) (S' : Nt) (hK : S.writeK c b.l = K) (hE : S.writeE c b.l = E) (hS : S.write c b.l = S') :
    Calls Try.prog 21 #[.pointer (some ⟨g, 0, none⟩), .int .i64 c, .slice b.A b.l.length b.c] w fun e w' => e = .returned (.tuple #[.int .i64 K, .int .i64 E]) ∧ Hid (NetL W w' g S' (m + b.l.length) Kb ∧ KeepK Kb w w') :=
  writeL W w w g m S c b.A _ b.c b.l Kb h (Mods.refl _ _) hm (fun F hF => ((hb.ok (F := F) fun k hk => (hF k hk).1).mods (h.mods.more (by simp))).1) rfl hb.2.1 (by have := hb.2.2; unfold maxLen; omega) K E S' hK hE hS
/-- The connection of this law: halved, broken; what came, was read, was written; the window, the marks. -/
def en (h k : Bool) (inn tak out : List Int) (win : Int) (mr mw : Nat) : Cn := ⟨0, true, k, h, false, inn, win, tak, out, mr, mw⟩
theorem en_send (l : List Int) (h1 : 1 ≤ l.length) (h2 : l.length ≤ 1024) : (one (en false false [] [] [] 0 0 0)).sendE 0 = 0 ∧ (one (en false false [] [] [] 0 0 0)).sendK 0 l = (l.length : Int) ∧ (one (en false false [] [] [] 0 0 0)).send 0 l = one (en false false l [] [] 0 1 0) := by
  have h := one_send (s := en false false [] [] [] 0 0 0) rfl rfl rfl l
  have hf : fill [] l = l := by unfold fill; rw [List.nil_append, List.take_of_length_le h2]
  have hi : (en false false [] [] [] 0 0 0).inn = [] := rfl
  refine ⟨h.1, ?_, ?_⟩
  · rw [h.2.1, hi, hf]; simp
  · have e : (en false false [] [] [] 0 0 0).send l = en false false l [] [] 0 1 0 := by
      unfold Cn.send
      rw [hi, hf, if_pos (by simp; omega)]
      rfl
    rw [h.2.2, e]
theorem en_open (l : List Int) : (one (en false false l [] [] 0 1 0)).openE 0 9 = 0 ∧ (one (en false false l [] [] 0 1 0)).open_ 0 9 = one (en false false l [] [] 9 1 1) := by
  have h := one_open (s := en false false l [] [] 0 1 0) rfl rfl 9 (by decide)
  exact ⟨h.1, h.2⟩
theorem en_read5 (l : List Int) (h1 : 1 ≤ l.length) : (one (en false false l [] [] 9 1 1)).readE 0 5 = 0 ∧ (one (en false false l [] [] 9 1 1)).readB 0 5 = l.take 5 ∧ (one (en false false l [] [] 9 1 1)).read 0 5 = one (en false false (l.drop 5) (l.take 5) [] 9 1 1) := by
  have h := one_read (s := en false false l [] [] 9 1 1) rfl rfl 5 (by decide) (.inl (by show l.length ≠ 0; omega))
  exact h
theorem en_half (l t : List Int) : (one (en false false l t [] 9 1 1)).e1 0 = 0 ∧ (one (en false false l t [] 9 1 1)).half 0 = one (en true false l t [] 9 2 1) := ⟨one_e1 rfl rfl, one_half rfl rfl⟩
theorem en_send6 (l t m : List Int) : (one (en true false l t [] 9 2 1)).sendE 0 = 6 ∧ (one (en true false l t [] 9 2 1)).sendK 0 m = 0 ∧ (one (en true false l t [] 9 2 1)).send 0 m = one (en true false l t [] 9 2 1) := one_send_hlv rfl rfl rfl m
theorem en_read1024 (l t : List Int) (h : l.length ≤ 1024) : (one (en true false l t [] 9 2 1)).readE 0 1024 = 0 ∧ (one (en true false l t [] 9 2 1)).readB 0 1024 = l ∧ (one (en true false l t [] 9 2 1)).read 0 1024 = one (en true false [] (t ++ l) [] 9 2 1) := by
  have h2 := one_read (s := en true false l t [] 9 2 1) rfl rfl 1024 (by decide) (.inr rfl)
  have e1 : l.take 1024 = l := List.take_of_length_le h
  have e2 : l.drop 1024 = [] := List.drop_of_length_le h
  refine ⟨h2.1, h2.2.1.trans e1, ?_⟩
  rw [h2.2.2]
  show one (en true false (l.drop 1024) (t ++ l.take 1024) [] 9 2 1) = _
  rw [e1, e2]
theorem en_read0 (t : List Int) : (one (en true false [] t [] 9 2 1)).readE 0 5 = 0 ∧ (one (en true false [] t [] 9 2 1)).readB 0 5 = [] ∧ (one (en true false [] t [] 9 2 1)).read 0 5 = one (en true false [] t [] 9 2 1) := by
  have h2 := one_read (s := en true false [] t [] 9 2 1) rfl rfl 5 (by decide) (.inr rfl)
  refine ⟨h2.1, h2.2.1, ?_⟩
  rw [h2.2.2]
  show one (en true false [] (t ++ []) [] 9 2 1) = _
  rw [List.append_nil]
theorem en_write (t l : List Int) (h1 : 1 ≤ l.length) : (one (en true false [] t [] 9 2 1)).writeE 0 l = 0 ∧ (one (en true false [] t [] 9 2 1)).writeK 0 l = min l.length 9 := by
  have h2 := one_write (s := en true false [] t [] 9 2 1) rfl rfl rfl l (by omega) (by simp [en])
  exact ⟨h2.1, h2.2.1⟩
theorem en_reset (l : List Int) : (one (en false false l [] [] 9 1 1)).e1 0 = 0 ∧ (one (en false false l [] [] 9 1 1)).reset 0 = one (en false true [] [] [] 0 2 2) := ⟨one_e1 rfl rfl, one_reset rfl rfl⟩
set_option maxHeartbeats 4000000 in
theorem good (W : World) (b : Rw) (hb : Came W b) (half : Bool) (h1 : 1 ≤ b.l.length) (h2 : b.l.length ≤ 1024) :
    Calls Try.prog 8 #[.slice b.A b.l.length b.c, .bool half] W fun e w' => e = .returned (.bool true) ∧ Below W.heap.size W w' := by
  have hnn := eql_nnil
  have HB := Lib.hid hb
  have hc1 := hb.2.1
  have hc2 := hb.2.2
  clear hb
  have hfl : fill [] b.l = b.l := by unfold fill; rw [List.nil_append, List.take_of_length_le h2]
  have HFL := Lib.hid hfl
  clear hfl
  cases half with
  | true =>
    go_enter Try.func8, Try.ntmps8
    go_wp2_with fail
    refine (newL 1 W W (Mods.refl _ _) [] (by simp) (by decide) (by decide)).mono ?_
    rintro e w1 ⟨rfl, hd⟩
    have L1 := Lib.hid hd.out
    clear hd
    go_wp2_with fail
    refine (connL W w1 _ _ _ 0 _ L1.out 0 0 ⟨1, false, 0, [Cn.new 0], 0⟩ rfl rfl rfl).mono ?_
    rintro e w2 ⟨rfl, hd⟩
    have L2 := Lib.hid hd.out.1
    clear hd L1
    go_wp2_with fail
    refine (accL W w2 _ _ _ _ L2.out 0 0 0 (one (en false false [] [] [] 0 0 0)) rfl rfl rfl rfl).mono ?_
    rintro e w3 ⟨rfl, hd⟩
    have L3 := Lib.hid hd.out.1
    clear hd L2
    have hs := en_send b.l h1 h2
    have HS := Lib.hid (send_came W w3 _ _ _ 0 b HB.out _ L3.out (by decide) b.l.length 0 _ hs.2.1 hs.1 hs.2.2 _ rfl)
    clear hs
    go_wp2_with fail
    refine HS.out.mono ?_
    rintro e w4 ⟨rfl, hd⟩
    have L4 := Lib.hid hd.out.1
    clear hd L3 HS
    go_wp2_with fail
    refine (openL W w4 _ _ _ 0 9 _ L4.out (by decide) 0 _ (en_open b.l).1 (en_open b.l).2).mono ?_
    rintro e w5 ⟨rfl, hd⟩
    have L5 := Lib.hid hd.out.1
    clear hd L4
    have HR := Lib.hid (readL W w5 _ _ _ 0 5 _ L5.out (by decide) _ 0 _ (en_read5 b.l h1).2.1 (en_read5 b.l h1).1 (en_read5 b.l h1).2.2)
    go_wp2_with fail
    refine HR.out.mono ?_
    rintro e w6 ⟨A6, n6, c6, rfl, -, hd⟩
    have L6 := Lib.hid (hd.out.1.less (K' := []) (by simp))
    clear hd L5 HR
    go_wp2_with fail
    refine (halfL W w6 _ _ _ 0 _ L6.out (by decide) 0 _ (en_half _ _).1 (en_half _ _).2).mono ?_
    rintro e w7 ⟨rfl, hd⟩
    have L7 := Lib.hid hd.out.1
    clear hd L6
    have HS := Lib.hid (send_came W w7 _ _ _ 0 b HB.out _ L7.out (by decide) 0 6 _ (en_send6 _ _ b.l).2.1 (en_send6 _ _ b.l).1 (en_send6 _ _ b.l).2.2 _ rfl)
    go_wp2_with fail
    refine HS.out.mono ?_
    rintro e w8 ⟨rfl, hd⟩
    have L8 := Lib.hid hd.out.1
    clear hd L7 HS
    have hdl : (b.l.drop 5).length ≤ 1024 := by rw [List.length_drop]; omega
    have HR := Lib.hid (readL W w8 _ _ _ 0 1024 _ L8.out (by decide) _ 0 _ (en_read1024 _ _ hdl).2.1 (en_read1024 _ _ hdl).1 (en_read1024 _ _ hdl).2.2)
    clear hdl
    go_wp2_with fail
    refine HR.out.mono ?_
    rintro e w9 ⟨A9, n9, c9, rfl, hn9, hd⟩
    have L9 := Lib.hid (hd.out.1.less (K' := (Value.slice A9 n9 c9).ownBlock.toList) (by intro k hk; exact List.mem_append_right _ hk))
    have B9 := Lib.hid hd.out.2.2.1
    have HN9 := hn9
    clear hd L8 HR hn9
    have HR := Lib.hid (readL W w9 _ _ _ 0 5 _ L9.out (by decide) [] 0 _ (en_read0 _).2.1 (en_read0 _).1 (en_read0 _).2.2)
    go_wp2_with fail
    refine HR.out.mono ?_
    rintro e w10 ⟨A10, n10, c10, rfl, hn10, hd⟩
    have L10 := Lib.hid (hd.out.1.less (K' := (Value.slice A9 n9 c9).ownBlock.toList) (by intro k hk; exact List.mem_append_left _ hk))
    have B10 := Lib.hid (B9.out.keep hd.out.2.1 (fun _ h => h))
    obtain rfl : n10 = 0 := hn10.out.1
    clear hd L9 B9 HR hn10
    obtain ⟨m9, hm9⟩ : ∃ m9, m9 = min b.l.length 9 := ⟨_, rfl⟩
    have HW := Lib.hid (write_came W w10 _ _ _ 0 b HB.out _ L10.out (by omega) m9 0 _ (by rw [hm9]; exact (en_write _ b.l h1).2) (en_write _ b.l h1).1 rfl)
    have hmi : (if (b.l.length : Int) < 9 then (b.l.length : Int) else 9) = (m9 : Int) := by subst hm9; split <;> omega
    obtain ⟨m5, hm5⟩ : ∃ m5, m5 = min b.l.length 5 := ⟨_, rfl⟩
    have hmj : (if (b.l.length : Int) < 5 then (b.l.length : Int) else 5) = (m5 : Int) := by subst hm5; split <;> omega
    have hdr : b.l.drop 5 = b.l.drop m5 := by
      rw [hm5]
      by_cases h3 : b.l.length < 5
      · rw [Nat.min_eq_left (by omega), List.drop_of_length_le (by omega), List.drop_of_length_le (Nat.le_refl _)]
      · rw [Nat.min_eq_right (by omega)]
    have HD := Lib.hid hdr
    have k1 : m5 ≤ b.l.length := by omega
    have k2 : m5 ≤ b.c := by omega
    clear hm9 hm5 hdr
    go_wp2_with fail
    refine HW.out.mono ?_
    rintro e w11 ⟨rfl, hd⟩
    have B11 := Lib.hid (B10.out.keep hd.out.2 (fun _ h => h))
    have M11 := Lib.hid hd.out.1.mods
    clear hd L10 B10 HW
    obtain ⟨B, hB⟩ : ∃ B, B = (if b.c = m5 then b.A else Option.map (fun x => x.add m5) b.A) := ⟨_, rfl⟩
    have HBA := Lib.hid (show At w11 [] B (b.l.drop 5) by rw [HD.out, hB]; exact (HB.out.1.cutIf m5 b.c hc1).mods M11.out)
    have HBL := Lib.hid (show b.l.length - m5 = (b.l.drop 5).length by rw [HD.out, List.length_drop])
    have hoff := hB.symm
    clear hB
    go_wp2_with fail
    refine (same_yes w11 A9 B (b.l.drop 5) n9 (b.l.length - m5) c9 (b.c - m5) HN9.out.1 HBL.out B11.out.at0 HBA.out (by rw [List.length_drop]; omega)).mono ?_
    rintro e w12 ⟨rfl, hm12⟩
    have M12 := Lib.hid (M11.out.trans hm12 (by simp))
    clear hm12
    go_wp2_with fail
    refine (known_any _).mono ?_
    rintro e w13 ⟨rfl, hm⟩
    go_wp2
    go_ret
    exact ⟨rfl, (M12.out.trans hm (by simp)).below⟩
  | false =>
    go_enter Try.func8, Try.ntmps8
    go_wp2_with fail
    refine (newL 1 W W (Mods.refl _ _) [] (by simp) (by decide) (by decide)).mono ?_
    rintro e w1 ⟨rfl, hd⟩
    have L1 := Lib.hid hd.out
    clear hd
    go_wp2_with fail
    refine (connL W w1 _ _ _ 0 _ L1.out 0 0 ⟨1, false, 0, [Cn.new 0], 0⟩ rfl rfl rfl).mono ?_
    rintro e w2 ⟨rfl, hd⟩
    have L2 := Lib.hid hd.out.1
    clear hd L1
    go_wp2_with fail
    refine (accL W w2 _ _ _ _ L2.out 0 0 0 (one (en false false [] [] [] 0 0 0)) rfl rfl rfl rfl).mono ?_
    rintro e w3 ⟨rfl, hd⟩
    have L3 := Lib.hid hd.out.1
    clear hd L2
    have hs := en_send b.l h1 h2
    have HS := Lib.hid (send_came W w3 _ _ _ 0 b HB.out _ L3.out (by decide) b.l.length 0 _ hs.2.1 hs.1 hs.2.2 _ rfl)
    clear hs
    go_wp2_with fail
    refine HS.out.mono ?_
    rintro e w4 ⟨rfl, hd⟩
    have L4 := Lib.hid hd.out.1
    clear hd L3 HS
    go_wp2_with fail
    refine (openL W w4 _ _ _ 0 9 _ L4.out (by decide) 0 _ (en_open b.l).1 (en_open b.l).2).mono ?_
    rintro e w5 ⟨rfl, hd⟩
    have L5 := Lib.hid hd.out.1
    clear hd L4
    go_wp2_with fail
    refine (resetL W w5 _ _ _ 0 _ L5.out (by decide) 0 _ (en_reset b.l).1 (en_reset b.l).2).mono ?_
    rintro e w6 ⟨rfl, hd⟩
    have L6 := Lib.hid hd.out.1
    clear hd L5
    have hr := one_read_brk (s := en false true [] [] [] 0 2 2) rfl rfl 5 (by decide)
    have HR := Lib.hid (readL W w6 _ _ _ 0 5 _ L6.out (by decide) [] 5 _ hr.2.1 hr.1 hr.2.2)
    clear hr
    go_wp2_with fail
    refine HR.out.mono ?_
    rintro e w7 ⟨A7, n7, c7, rfl, -, hd⟩
    have L7 := Lib.hid (hd.out.1.less (K' := []) (by simp))
    clear hd L6 HR
    have hw := one_write_brk (s := en false true [] [] [] 0 2 2) rfl rfl b.l
    have HW := Lib.hid (write_came W w7 _ _ _ 0 b HB.out _ L7.out (by omega) 0 5 _ hw.2.1 hw.1 hw.2.2)
    clear hw
    go_wp2_with fail
    refine HW.out.mono ?_
    rintro e w8 ⟨rfl, hd⟩
    have L8 := Lib.hid hd.out.1
    clear hd L7 HW
    have hs := one_send_brk (s := en false true [] [] [] 0 2 2) rfl b.l
    have HS := Lib.hid (send_came W w8 _ _ _ 0 b HB.out _ L8.out (by omega) 0 5 _ hs.2.1 hs.1 hs.2.2 _ rfl)
    clear hs
    go_wp2_with fail
    refine HS.out.mono ?_
    rintro e w9 ⟨rfl, hd⟩
    have L9 := Lib.hid hd.out.1
    clear hd L8 HS
    go_wp2_with fail
    refine (gotL W w9 _ _ _ 0 _ L9.out [] true rfl rfl).mono ?_
    rintro e w10 ⟨A10, n10, c10, rfl, -, hd⟩
    have L10 := Lib.hid (hd.out.1.less (K' := []) (by simp))
    clear hd L9
    go_wp2_with fail
    refine (readyL W w10 _ _ _ 0 _ L10.out true true rfl rfl).mono ?_
    rintro e w11 ⟨rfl, hd⟩
    have L11 := Lib.hid hd.out.1
    clear hd L10
    have HC := Lib.hid (fun (o : Obj) (ho : o = .cells #[.int .i64 0] 3) => closeL W w11 (w11.alloc o) _ _ 1 1 _ (some ⟨w11.heap.size, 0, none⟩) [0] _ L11.out ((Mods.refl _ _).alloc _) (fun F hF => by subst ho; exact NumsAt.new w11 F _ [0] fun hk => by have := (hF _ hk).2; omega) rfl (by simp) 1 _ rfl rfl)
    go_wp2_with fail
    refine (HC.out _ rfl).mono ?_
    rintro e w12 ⟨rfl, hd⟩
    have M12 := Lib.hid hd.out.1.mods
    clear hd L11 HC
    go_wp2_with fail
    refine (known_any _).mono ?_
    rintro e w13 ⟨rfl, hm⟩
    go_wp2
    go_ret
    exact ⟨rfl, (M12.out.trans hm (by simp)).below⟩
theorem walk (W : World) (b : Rw) (hb : Came W b) (half : Bool) :
    Calls Try.prog 8 #[.slice b.A b.l.length b.c, .bool half] W fun e w' => e = .returned (.bool true) ∧ Below W.heap.size W w' := by
  by_cases h : 1 ≤ b.l.length ∧ b.l.length ≤ 1024
  · exact good W b hb half h.1 h.2
  · have H := Lib.hid (known_any W)
    have hw : (1024 < b.l.length) ∨ (b.l.length ≤ 1024 ∧ b.l.length < 1) := by omega
    have hbl := hb.2
    clear h hb
    rcases hw with h | ⟨h1, h2⟩
    all_goals
      go_enter Try.func8, Try.ntmps8
      go_wp2_with fail
      refine H.out.mono ?_
      rintro e w1 ⟨rfl, hm⟩
      go_wp2
      go_ret
      exact ⟨rfl, hm.below⟩

theorem own : ownKnob Try.prog.godebug = none := by kernel_rfl
theorem laidOut : laidOutB Try.prog = true := by kernel_rfl
set_option maxRecDepth 100000 in
theorem lifted (os : Os) (started : os.Started) (H : Type) (enc : TypeId × Value → H) :
    ReturnsInHanded {} Try.checked os 8 .any (Rows.netEndsSpec.pre6 enc Try.prog Try.f8 Rows.netEndsRow.domain false) (Rows.netEndsSpec.post enc Try.prog Try.f8 false true false false) := by
  refine returnsInHanded_of_change_sized (C := Try.checked) own started (by kernel_rfl) Try.func8
    (ChangeSpec.witness6 (enc := enc) (C := Try.checked) false ⟨#[], #[.slice none 0 0, .bool false], []⟩ 8 (by kernel_rfl) (by kernel_rfl) (by kernel_rfl) (by kernel_rfl)) ?_
  intro W base args ds gs before hval0 hW hcnd hsz0 _
  have hsz : (DataW.weightsEach Try.prog (Try.f8.params.toList ++ Rows.netEndsSpec.plain.varTypes Try.prog) (ds ++ gs)).all (· ≤ reachBytes) = true := hsz0
  have hval : ∀ (j : Nat) t v, Try.f8.params[j]? = some t → args[j]? = some v → Value.okWide Try.prog W .any base t v := hval0
  have hW' := hW
  obtain ⟨p, q, hA0, hV, rfl, hfz, hnd⟩ := hW
  have hA : DataW.TrodAll enc Try.prog W 0 (fun _ => true) true Try.f8.params.toList args.toList ds p := hA0
  rw [Try.params8] at hA hval hsz
  obtain ⟨v0, vs0, d0, ds0, p0, q0, hargs, rfl, rfl, h0, r0⟩ := trodAll_cons hA
  obtain ⟨v1, vs1, d1, ds1, p1, q1, rfl, rfl, rfl, h1, r1⟩ := trodAll_cons r0
  obtain ⟨rfl, rfl, rfl⟩ := trodAll_nil r1
  obtain rfl : args = #[v0, v1] := by cases args; simp_all
  obtain ⟨rfl, rfl⟩ := trodVars_none hV
  have k0 := h0
  have lt0 : ∀ x ∈ p0, x.block < W.heap.size := by obtain ⟨m, hm⟩ := k0; exact DataW.trod_lt m _ _ _ hm
  obtain ⟨b0, rfl, wb0⟩ := open_bytes (hval 0 33 v0 rfl rfl) k0 (fun n hn => by simpa using List.all_eq_true.1 hsz n (DataW.weights_mem_each (j := 0) (t := 33) rfl rfl n hn))
  obtain ⟨a1, rfl, rfl, rfl⟩ := open_bool Try.underlying4 (hval 1 4 v1 rfl rfl) h1
  clear hA0 hval0 hsz0 hsz
  refine (walk W b0 wb0 a1).mono fun e W' ⟨he, bel⟩ => ?_
  subst he
  exact ⟨_, rfl, _, _, _, [], _, [], hW', trodAll_mk1 (shut_bool Try.underlying4 _), (trodAll_cons_mk (Below.trod laidOut (by kernel_rfl) (of_decide_eq_true (by kernel_rfl)) k0 bel lt0) (trodAll_cons_mk (shut_bool Try.underlying4 a1) trodAll_mk0)), rfl, bel.frame _, fun h => by cases h⟩

theorem over : Rows.netEndsRow.holds Try.pinned (OpenSpec.ofChange Rows.netEndsSpec) :=
  OpenClaim.holds_of_wide 8 Try.f8 rfl rfl rfl rfl rfl rfl rfl ⟨rfl, rfl, rfl, rfl, rfl⟩ rfl rfl rfl rfl rfl (by kernel_rfl) Try.func8 (by kernel_rfl)
    (of_decide_eq_true (by kernel_rfl)) (by unfold Func.isWrapper; first | (rw [if_pos (by decide +kernel)]; kernel_rfl) | (rw [if_neg (by decide +kernel)]; exact ⟨rfl, rfl⟩))
    (fun os started H enc _ => lifted os started H enc)

theorem proved : Rows.NetEndsSaid := over
end Go.Proofs.Ytogcfeplfclobaa.netEnds
