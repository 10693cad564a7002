/- For every number of rings, size and script of Gets and Puts, the pool answers as the document says, and each ring that it lends is empty and of that size: the law returns true. Condition: none. -/
import Derived.Test.YtdocifbkocbiiaaRows
import Derived.WalkKit
import Derived.ProofKit
import Derived.OpenShut
import Derived.ShutString
import Derived.ChangeOld
import Derived.Below
import Derived.SizedLaws
import Derived.Test.YtdocifbkocbiiaaPlaysP
import Derived.Test.YtdocifbkocbiiaaPlaysP
import Derived.Deep.RegionHeld3
import Derived.BigRegion
namespace Go.Proofs.Ytdocifbkocbiiaa.poolPlays
open Go.ChangeShapes Go.WideShapes Go.ChangeAt Go.RowKit
open Go.ChangeMaps (open_string shut_string)
set_option linter.unusedVariables false
set_option maxRecDepth 100000
set_option linter.unusedSimpArgs false
theorem neq_rrnil (p : Option Addr) (w : World) : (binOp .neq 31 (.pointer p) (.pointer none)).run Try.prog w = .ok (.bool !p.isNone) w :=
  run_neq_pointer_nil _ _ _ (by kernel_rfl)
theorem eql_3nil (p : Option Addr) (w : World) : (binOp .eql 34 (.pointer p) (.pointer none)).run Try.prog w = .ok (.bool p.isNone) w :=
  run_eql_pointer_nil _ _ _ (by kernel_rfl)
/-- The numbers that came in. -/
def Came4 (W : World) (A : Option Addr) (len : Nat) (f : Nat → Int) : Prop := ∀ j, j < len → ∃ b o, A = some ⟨b, o, none⟩ ∧ b < W.heap.size ∧ W.cell? ⟨b, o + j, none⟩ = some (.int .i64 (f j)) ∧ I64 (f j)
set_option maxHeartbeats 8000000 in
theorem main (n z len cap : Nat) (A : Option Addr) (f : Nat → Int) (hn : n ≤ 4096) (hz1 : 1 ≤ z) (hz2 : z ≤ 65536) (W : World) (hf : Came4 W A len f) :
    Calls Try.prog 3 #[.int .i64 n, .int .i64 z, .slice A len cap] W fun e w' => e = .returned (.bool true) ∧ Below W.heap.size W w' := by
  have h1 := eql_nil
  have h2 := eql_pnil
  have h3 := neq_rrnil
  have h4 := eql_3nil
  have HF := Lib.hid hf
  have hzz : ((z : Int) != (z : Int)) = false := by simp
  clear hf
  go_enter Try.func3, Try.ntmps3
  go_wp2_with fail
  refine (pnew_any n z W hn hz1 hz2).mono ?_
  rintro e w1 ⟨rfl, hs, hm⟩
  have P1 := Lib.hid hs
  have M1 := Lib.hid hm
  have l1 := hs.lt (W.heap.size + 1) (by simp)
  clear hs hm
  go_wp2_with fail
  refine (rpnew_any n z w1 hn hz1 hz2).mono ?_
  rintro e w2 ⟨rfl, hs, hm⟩
  obtain ⟨H, hH⟩ : ∃ H, H = w1.heap.size := ⟨_, rfl⟩
  rw [← hH] at hs l1 ⊢
  have H1 := Lib.hid (show St W w2 H z (List.replicate n false) 0 from ⟨P1.out.mods hm (by simp), hs, M1.out.trans hm (by simp), l1⟩)
  clear hs hm hH P1 M1 l1
  go_wp2
  go_loopw [11, 12, 13, 14, 15, 16, 17, 18, 19] (fun i x1 x2 x3 x4 x5 x6 x7 x8 wr => ∃ j : Nat, j ≤ len ∧ i = .int .i64 j ∧ Hid (∃ O t, St W wr H z O t)) (fun i _ _ _ _ _ _ _ _ _ => len - (intOf i).toNat)
  case atStart => exact ⟨0, Nat.zero_le _, rfl, Lib.hid ⟨_, _, H1.out⟩⟩
  case round =>
    obtain ⟨j, hj, rfl, hd⟩ := hrel
    clear H1
    obtain ⟨O, t, hS⟩ := hd.out
    have SS := Lib.hid hS
    clear hd hS
    by_cases hlt : j < len
    · by_cases h150 : j < 150
      · obtain ⟨fb, fo, rfl, hfb, hfc, hfi⟩ := HF.out j hlt
        have hc := cell_mods hfc SS.out.mods (by simp)
        obtain ⟨v, hv⟩ : ∃ v, v = f j := ⟨_, rfl⟩
        rw [← hv] at hc hfi
        clear hfc hv
        by_cases hv0 : v < 0
        · by_cases hlo : lo O < O.length
          · have HG := Lib.hid (get_any wr _ _ z t O SS.out.a hlo)
            obtain ⟨lw, hlw⟩ : ∃ lw, lw = lo O := ⟨_, rfl⟩
            have hlw2 : ((lw : Int) != (lw : Int)) = false := by simp
            have HLW := Lib.hid hlw
            have HLO := Lib.hid hlo
            rw [← hlw] at HG
            clear hlw hlo
            go_wp2_with fail
            refine HG.out.mono ?_
            rintro e w3 ⟨rfl, hd⟩
            have HA := Lib.hid (show PoolA w3 (W.heap.size + 1) W.heap.size z (O.set (lo O) true) (max t (cnt O + 1)) ∧ Mods [W.heap.size + 1, W.heap.size] wr w3 from ⟨hd.out.1, hd.out.2.2⟩)
            have HR := Lib.hid hd.out.2.1
            have HGR := Lib.hid (rget_any w3 _ _ z t O (SS.out.bAfter HA.out.2) HLO.out)
            rw [← HLW.out] at HGR
            clear hd HG
            go_wp2_with fail
            refine HGR.out.mono ?_
            rintro e w4 ⟨pp, rfl, hd⟩
            have HR4 := Lib.hid (SS.out.ringFar HR.out hd.out.2)
            obtain ⟨O1, t1, S3⟩ : ∃ O1 t1, Hid (St W w4 H z O1 t1) := ⟨_, _, Lib.hid (SS.out.ab HA.out.1 HA.out.2 hd.out.1 hd.out.2)⟩
            clear hd HGR
            go_wp2_with fail
            refine (len_any w4 _ _ z [] HR4.out).mono ?_
            rintro e w' ⟨he, rfl⟩
            obtain rfl : e = .returned (.int .i64 0) := he
            go_wp2_with fail
            refine (room_as w4 _ _ z (z : Int) [] HR4.out (by simp)).mono ?_
            rintro e w5 ⟨rfl, hm⟩
            have HR5 := Lib.hid (HR4.out.mods hm (by simp))
            have S5 := Lib.hid (S3.out.quiet hm)
            have k1 := conv_u8 w5 #[.int .u8 108, .int .u8 101, .int .u8 102, .int .u8 116] 4 4 _ rfl
            have hl5 := HR5.out.lt (wr.heap.size + 1) (by simp)
            clear hm
            go_wp2_with fail
            have HW := Lib.hid (show RowsAt ((w5.alloc (.cells #[.int .u8 108, .int .u8 101, .int .u8 102, .int .u8 116] 5 (4, 5))).alloc (.cells #[.slice (some ⟨w5.heap.size, 0, none⟩) 4 4] 39)) [wr.heap.size + 1, wr.heap.size] (w5.heap.size + 1) [⟨some ⟨w5.heap.size, 0, none⟩, [108, 101, 102, 116], 4⟩] from
              rows_one ⟨some ⟨w5.heap.size, 0, none⟩, [108, 101, 102, 116], 4⟩ (by simp) (rw_litm w5 _ [108, 101, 102, 116] w5.heap.size 4 (4, 5) rfl rfl (by simp; omega) (by simp) (by decide)) (by simp; omega))
            refine (write_any _ (wr.heap.size + 1) wr.heap.size z (w5.heap.size + 1) [] [⟨some ⟨w5.heap.size, 0, none⟩, [108, 101, 102, 116], 4⟩] (HR5.out.mods (((Mods.refl [] w5).alloc _).alloc _) (by simp)) HW.out (by simp)).mono ?_
            rintro e w6 ⟨nn, rfl, hd⟩
            have S4 := Lib.hid (SS.out.far S5.out ((((Mods.refl _ w5).alloc _).alloc _).trans hd.out.2.2 (fun b hb => .inl hb)))
            clear hd HW k1
            have HL := Lib.hid (lent_as w6 _ _ z t1 (cnt O1 : Nat) O1 S4.out.a rfl)
            have c2 := S4.out.b.row.cell 2
            have c3 := S4.out.b.row.cell 3
            obtain ⟨q, hq⟩ : ∃ q, q = cnt O1 := ⟨_, rfl⟩
            rw [← hq] at c2 HL
            have hqq : ((q : Int) != (q : Int)) = false := by simp
            obtain ⟨tt, htt⟩ : ∃ tt, tt = t1 := ⟨_, rfl⟩
            rw [← htt] at c3 HL
            have htt2 : ((tt : Int) != (tt : Int)) = false := by simp
            clear hq htt
            go_wp2_with fail
            refine HL.out.mono ?_
            rintro e w9 ⟨rfl, hm⟩
            have c2 := cell_mods c2 hm (by simp)
            have c3 := cell_mods c3 hm (by simp)
            have S5 := Lib.hid (S4.out.quiet hm)
            clear hm HL
            go_wp2
            go_roundw
            case rel => exact ⟨j + 1, by omega, by go_num, Lib.hid ⟨_, _, S5.out⟩⟩
            case measure => simp [intOf]; omega
          · have HG := Lib.hid (get_full wr _ _ z t O SS.out.a (by omega))
            have HGR := Lib.hid (rget_full wr _ _ z t O SS.out.b (by omega))
            have S4 := SS
            clear hlo
            go_wp2_with fail
            refine HG.out.mono ?_
            rintro e w' ⟨rfl, rfl⟩
            go_wp2_with fail
            refine HGR.out.mono ?_
            rintro e w' ⟨rfl, rfl⟩
            have HL := Lib.hid (lent_as wr _ _ z t (cnt O : Nat) O S4.out.a rfl)
            have c2 := S4.out.b.row.cell 2
            have c3 := S4.out.b.row.cell 3
            obtain ⟨q, hq⟩ : ∃ q, q = cnt O := ⟨_, rfl⟩
            rw [← hq] at c2 HL
            have hqq : ((q : Int) != (q : Int)) = false := by simp
            obtain ⟨tt, htt⟩ : ∃ tt, tt = t := ⟨_, rfl⟩
            rw [← htt] at c3 HL
            have htt2 : ((tt : Int) != (tt : Int)) = false := by simp
            clear hq htt
            go_wp2_with fail
            refine HL.out.mono ?_
            rintro e w9 ⟨rfl, hm⟩
            have c2 := cell_mods c2 hm (by simp)
            have c3 := cell_mods c3 hm (by simp)
            have S5 := Lib.hid (S4.out.quiet hm)
            clear hm HL
            go_wp2
            go_roundw
            case rel => exact ⟨j + 1, by omega, by go_num, Lib.hid ⟨_, _, S5.out⟩⟩
            case measure => simp [intOf]; omega
        · have hl := SS.out.lt
          have hhi := SS.out.high
          have hal := SS.out.a.lt (W.heap.size + 1) (by simp)
          obtain ⟨O', hO⟩ : ∃ O', puts O [v, bits BinOp.xor IntKind.i64 v 1] = O' := ⟨_, rfl⟩
          obtain ⟨d, hd⟩ : ∃ d, (cnt O : Int) - (cnt O' : Int) = d := ⟨_, rfl⟩
          have HO := Lib.hid hO
          have HD := Lib.hid hd
          have hdd : (d != d) = false := by simp
          have HNG := Lib.hid (show ∀ k ∈ [W.heap.size + 1, W.heap.size], k < wr.heap.size ∧ k ≠ fb from fun k hk => by simp at hk; omega)
          have HNR := Lib.hid (show ∀ k ∈ [H + 1, H], k < wr.heap.size ∧ k ≠ fb from fun k hk => by simp at hk; omega)
          clear hO hd hl hal
          go_wp2_with fail
          go_region_held3 (fun w' => w'.cell? ⟨fb, fo + j, none⟩ = some (.int .i64 v)) (go_keep)
            (first
              | (go_at_call 15; refine Calls.mono (put_row _ (W.heap.size + 1) W.heap.size z t 2 _ d O O' [v, bits BinOp.xor IntKind.i64 v 1] 3 (SS.out.a.mods (G := []) (by first | exact ((Mods.refl _ wr).alloc _).drew | exact (((Mods.refl _ wr).alloc _).alloc _).drew) (by simp)) (by first | exact Row.new wr _ _ | exact (Row.new wr _ _).alloc _ | exact row_at (by simp)) (fun h => by have := HNG.out _ h; omega) rfl (by decide) HO.out HD.out) ?_; rintro e w3 ⟨rfl, ha, hm⟩; have hm1 : Mods [W.heap.size + 1, W.heap.size] wr w3 := (by first | exact head2 hm | exact head1 hm); have HA := Lib.hid (And.intro ha hm1); have HRa := Lib.hid hm; have hc3 := cell_mods hc hm1 (fun h => (HNG.out _ h).2 rfl); have z3 := hm1.size; clear ha hm hm1)
              | (go_at_call 16; refine Calls.mono (rput_row _ (H + 1) H z t 2 _ d O O' [v, bits BinOp.xor IntKind.i64 v 1] 3 ((SS.out.bAfter HA.out.2).mods (G := []) (by first | exact Mods.refl _ _ | exact (Mods.refl _ _).alloc _) (by simp)) (by first | exact Row.new w3 _ _ | exact Row.mods (w := (wr.alloc _).alloc _) ((Row.new wr _ _).alloc _) (of_drew HRa.out) (fun h => by have := HNG.out _ h; omega) | exact Row.mods (w := (wr.alloc _).alloc _) (row_at (by simp)) (of_drew HRa.out) (fun h => by have := HNG.out _ h; omega)) (fun h => by have := HNR.out _ h; omega) rfl (by decide) HO.out HD.out) ?_; rintro e w4 ⟨rfl, hb, hm⟩; have hm1 : Mods [H + 1, H] w3 w4 := (by first | exact hm | exact head3 hm); have hc4 := cell_mods hc3 hm1 (fun h => (HNR.out _ h).2 rfl); have S4 := Lib.hid (SS.out.ab HA.out.1 HA.out.2 hb hm1); clear hb hm hm1))
          all_goals
            clear HA HRa
            have HL := Lib.hid (lent_as w4 _ _ z t (cnt O' : Nat) O' S4.out.a rfl)
            have c2 := S4.out.b.row.cell 2
            have c3 := S4.out.b.row.cell 3
            obtain ⟨q, hq⟩ : ∃ q, q = cnt O' := ⟨_, rfl⟩
            rw [← hq] at c2 HL
            have hqq : ((q : Int) != (q : Int)) = false := by simp
            obtain ⟨tt, htt⟩ : ∃ tt, tt = t := ⟨_, rfl⟩
            rw [← htt] at c3 HL
            have htt2 : ((tt : Int) != (tt : Int)) = false := by simp
            clear hq htt
            go_wp2_with fail
            refine HL.out.mono ?_
            rintro e w9 ⟨rfl, hm⟩
            have c2 := cell_mods c2 hm (by simp)
            have c3 := cell_mods c3 hm (by simp)
            have S5 := Lib.hid (S4.out.quiet hm)
            clear hm HL
            go_wp2
            go_roundw
            case rel => exact ⟨j + 1, by omega, by go_num, Lib.hid ⟨_, _, S5.out⟩⟩
            case measure => simp [intOf]; omega
      · go_wp2_with fail
        refine (known4_any _).mono ?_
        rintro e w3 ⟨rfl, hm⟩
        have M3 := Lib.hid (SS.out.mods.trans hm (by simp))
        clear hm
        go_wp2
        go_ret
        exact ⟨rfl, M3.out.below⟩
    · go_wp2_with fail
      refine (known4_any _).mono ?_
      rintro e w3 ⟨rfl, hm⟩
      have M3 := Lib.hid (SS.out.mods.trans hm (by simp))
      clear hm
      go_wp2
      go_ret
      exact ⟨rfl, M3.out.below⟩
theorem refused (n s : Int) (v : Value) (h : n < 0 ∨ 4096 < n ∨ s < 1 ∨ 65536 < s) (W : World) :
    Calls Try.prog 3 #[.int .i64 n, .int .i64 s, v] W fun e w' => e = .returned (.bool true) ∧ Below W.heap.size W w' := by
  have h2 := eql_pnil
  go_enter Try.func3, Try.ntmps3
  go_wp2_with fail
  refine (pnew_no n s W h).mono ?_
  rintro e w1 ⟨rfl, rfl⟩
  go_wp2_with fail
  refine (rpnew_no n s _ h).mono ?_
  rintro e w1 ⟨rfl, rfl⟩
  clear h
  go_wp2_with fail
  refine (known4_any _).mono ?_
  rintro e w3 ⟨rfl, hm⟩
  have M3 := Lib.hid hm
  clear hm
  go_wp2
  go_ret
  exact ⟨rfl, M3.out.below⟩
theorem walk (W : World) (n : Int) (hn : (Lit.int .i64 n).wf = true) (s : Int) (hs : (Lit.int .i64 s).wf = true) (v : Value) (ho : IsInts W v) :
    Calls Try.prog 3 #[.int .i64 n, .int .i64 s, v] W fun e w' => e = .returned (.bool true) ∧ Below W.heap.size W w' := by
  by_cases h : n < 0 ∨ 4096 < n ∨ s < 1 ∨ 65536 < s
  · exact refused n s v h W
  · obtain ⟨N, rfl⟩ : ∃ N : Nat, n = (N : Int) := ⟨n.toNat, by omega⟩
    obtain ⟨z, rfl⟩ : ∃ z : Nat, s = (z : Int) := ⟨s.toNat, by omega⟩
    rcases ho with ⟨a, cap, rfl⟩ | ⟨b, off, len, cap, f, rfl, _, hl, hm, hb, hf⟩
    · exact main N z 0 cap a (fun _ => 0) (by omega) (by omega) (by omega) W fun j hj => absurd hj (Nat.not_lt_zero _)
    · exact main N z len cap (some ⟨b, off, none⟩) f (by omega) (by omega) (by omega) W fun j hj => ⟨b, off, rfl, hb, hf j hj⟩

theorem own : ownKnob Try.prog.godebug = none := by kernel_rfl
theorem laidOut : laidOutB Try.prog = true := by kernel_rfl
set_option maxRecDepth 100000 in
theorem lifted (os : Os) (started : os.Started) (H : Type) (enc : TypeId × Value → H) :
    ReturnsInHanded {} Try.checked os 3 .any (Rows.poolPlaysSpec.pre6 enc Try.prog Try.f3 Rows.poolPlaysRow.domain false) (Rows.poolPlaysSpec.post enc Try.prog Try.f3 false true false false) := by
  refine returnsInHanded_of_change_sized (C := Try.checked) own started (by kernel_rfl) Try.func3
    (ChangeSpec.witness6 (enc := enc) (C := Try.checked) false ⟨#[], #[.int .i64 0, .int .i64 0, .slice none 0 0], []⟩ 8 (by kernel_rfl) (by kernel_rfl) (by kernel_rfl) (by kernel_rfl)) ?_
  intro W base args ds gs before hval0 hW hcnd hsz0 _
  have hsz : (DataW.weightsEach Try.prog (Try.f3.params.toList ++ Rows.poolPlaysSpec.plain.varTypes Try.prog) (ds ++ gs)).all (· ≤ reachBytes) = true := hsz0
  have hval : ∀ (j : Nat) t v, Try.f3.params[j]? = some t → args[j]? = some v → Value.okWide Try.prog W .any base t v := hval0
  have hW' := hW
  obtain ⟨p, q, hA0, hV, rfl, hfz, hnd⟩ := hW
  have hA : DataW.TrodAll enc Try.prog W 0 (fun _ => true) true Try.f3.params.toList args.toList ds p := hA0
  rw [Try.params3] at hA hval hsz
  obtain ⟨v0, vs0, d0, ds0, p0, q0, hargs, rfl, rfl, h0, r0⟩ := trodAll_cons hA
  obtain ⟨v1, vs1, d1, ds1, p1, q1, rfl, rfl, rfl, h1, r1⟩ := trodAll_cons r0
  obtain ⟨v2, vs2, d2, ds2, p2, q2, rfl, rfl, rfl, h2, r2⟩ := trodAll_cons r1
  obtain ⟨rfl, rfl, rfl⟩ := trodAll_nil r2
  obtain rfl : args = #[v0, v1, v2] := by cases args; simp_all
  obtain ⟨rfl, rfl⟩ := trodVars_none hV
  obtain ⟨a0, rfl, rfl, rfl, w0⟩ := open_int Try.underlying3 (hval 0 3 v0 rfl rfl) h0
  obtain ⟨a1, rfl, rfl, rfl, w1⟩ := open_int Try.underlying3 (hval 1 3 v1 rfl rfl) h1
  have k2 := h2
  have lt2 : ∀ x ∈ p2, x.block < W.heap.size := by obtain ⟨m, hm⟩ := k2; exact DataW.trod_lt m _ _ _ hm
  obtain o2 := open_nums (hval 2 22 v2 rfl rfl) k2
  clear hA0 hval0 hsz0 hsz
  refine (walk W a0 w0 a1 w1 v2 o2).mono fun e W' ⟨he, bel⟩ => ?_
  subst he
  exact ⟨_, rfl, _, _, _, [], _, [], hW', trodAll_mk1 (shut_bool Try.underlying4 _), (trodAll_cons_mk (shut_int Try.underlying3 w0) (trodAll_cons_mk (shut_int Try.underlying3 w1) (trodAll_cons_mk (Below.trod laidOut (by kernel_rfl) (of_decide_eq_true (by kernel_rfl)) k2 bel lt2) trodAll_mk0))), rfl, bel.frame _, fun h => by cases h⟩

theorem over : Rows.poolPlaysRow.holds Try.pinned (OpenSpec.ofChange Rows.poolPlaysSpec) :=
  OpenClaim.holds_of_wide 3 Try.f3 rfl rfl rfl rfl rfl rfl rfl ⟨rfl, rfl, rfl, rfl, rfl⟩ rfl rfl rfl rfl rfl (by kernel_rfl) Try.func3 (by kernel_rfl)
    (of_decide_eq_true (by kernel_rfl)) (by unfold Func.isWrapper; first | (rw [if_pos (by decide +kernel)]; kernel_rfl) | (rw [if_neg (by decide +kernel)]; exact ⟨rfl, rfl⟩))
    (fun os started H enc _ => lifted os started H enc)

theorem proved : Rows.PoolPlaysSaid := over
end Go.Proofs.Ytdocifbkocbiiaa.poolPlays
