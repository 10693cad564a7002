/- For every number of rings and two bytes, rings that are lent at once hold each their own bytes, and one that was taken back is lent anew empty: the law returns true. Condition: none. -/
import Derived.Test.YtdocifbkocbiiaaRows
import Derived.WalkKit
import Derived.ProofKit
import Derived.OpenShut
import Derived.ShutString
import Derived.ChangeOld
import Derived.Below
import Derived.SizedLaws
import Derived.Test.YtdocifbkocbiiaaPoolL
import Derived.Test.YtdocifbkocbiiaaOpenN
import Derived.Test.YtdocifbkocbiiaaApartA
namespace Go.Proofs.Ytdocifbkocbiiaa.poolApart
open Go.ChangeShapes Go.WideShapes Go.ChangeAt Go.RowKit
open Go.ChangeMaps (open_string shut_string)
set_option linter.unusedVariables false
set_option maxRecDepth 100000
set_option linter.unusedSimpArgs false
/-- What holds ahead of each round. -/
def S (W wr : World) (n k : Nat) (a : Int) (l : Value) : Prop :=
  PoolA wr (W.heap.size + 1) W.heap.size 4 (up n k) k ∧ Mods [] W wr ∧ ∃ rs, Stand wr (W.heap.size + 2) k a l rs
theorem three {W wr w2 w3 : World} {k : Nat} {a : Int} {l : Value} {rs : List (Nat × Nat)} (SS : Stand wr (W.heap.size + 2) k a l rs) (M2 : Mods [W.heap.size + 1, W.heap.size] wr w2)
    (M3 : Mods [wr.heap.size + 1, wr.heap.size] w2 w3) : Stand w3 (W.heap.size + 2) k a l rs ∧ Mods [W.heap.size + 1, W.heap.size] wr w3 := by
  have hM : Mods [W.heap.size + 1, W.heap.size] wr w3 := M2.trans M3 (by intro j hj; right; simp at hj; omega)
  exact ⟨SS.mods hM (by intro j hj; left; simp at hj; omega), hM⟩
theorem step {W wr w2 w3 w4 : World} {n k g1 cap1 : Nat} {a : Int} {l : Value} {rs : List (Nat × Nat)} {o : Obj} (P2 : PoolA w2 (W.heap.size + 1) W.heap.size 4 (up n (k + 1)) (k + 1)) (M : Mods [] W wr) (hlt : W.heap.size + 1 < wr.heap.size)
    (SS : Stand wr (W.heap.size + 2) k a l rs) (M2 : Mods [W.heap.size + 1, W.heap.size] wr w2) (R3 : RingA w3 (wr.heap.size + 1) wr.heap.size 4 [a, (k : Int)]) (M3 : Mods [wr.heap.size + 1, wr.heap.size] w2 w3)
    (ho : w4.ownsRow 0 31 1 (.slice (some ⟨g1, 0, none⟩) (k + 1) cap1) (k + 1) (ptrs rs ++ [.pointer (some ⟨wr.heap.size + 1, 0, none⟩)])) (hg : (w3.alloc o).grownBy w4 l.ownBlock) (hat : l.ownBlock = some g1 ∨ g1 = w3.heap.size + 1) :
    S W w4 n (k + 1) a (.slice (some ⟨g1, 0, none⟩) (k + 1) cap1) := by
  obtain ⟨S3, hM3⟩ := three SS M2 M3
  have l3 := R3.lt (wr.heap.size + 1) (by simp)
  have hM4 : Mods l.ownBlock.toList w3 w4 := ((Mods.refl _ w3).alloc o).grown hg (fun b hb => .inl (by rw [hb]; simp))
  have hM : Mods [] W w4 := (M.trans hM3 (by intro j hj; right; simp at hj; omega)).trans hM4 (fun b hb => .inr (by have := SS.high b hb; omega))
  refine ⟨(P2.mods M3 (by intro j hj hj2; simp at hj hj2; omega)).mods hM4 (fun j hj hj2 => by have := SS.high j hj2; simp at hj; omega), hM, _, S3.snoc R3 (by omega) (by omega) hM4 ho fun b hb => ?_⟩
  have e : b = g1 := by simpa [Value.ownBlock, eq_comm] using hb
  subst e
  rcases hat with h | h
  · exact SS.high b (by rw [h]; simp)
  · omega
set_option maxHeartbeats 4000000 in
theorem main (n : Nat) (a b : Int) (hn1 : 1 ≤ n) (hn : n ≤ 20) (ha : 0 ≤ a ∧ a ≤ 255) (hb : 0 ≤ b ∧ b ≤ 255) (W : World) :
    Calls Try.prog 4 #[.int .i64 n, .int .u8 a, .int .u8 b] W fun e w' => e = .returned (.bool true) ∧ Below W.heap.size W w' := by
  have h1 := eql_nil
  have h2 := eql_pnil
  have h3 := neq_rnil
  obtain ⟨i0, hi0, hz0, hz1, hz2⟩ := info_parts ptr_info
  have haa : (a != a) = false := by simp
  go_enter Try.func4, Try.ntmps4
  go_wp2_with fail
  refine (pnew_any n 4 W (by omega) (by decide) (by decide)).mono ?_
  rintro e w1 ⟨rfl, hs, hm⟩
  have H1 := Lib.hid (show S W w1 n 0 a (.slice none 0 0) from ⟨by rw [up_zero]; exact hs, hm, [], Stand.zero _ _ _⟩)
  clear hs hm
  go_wp2
  go_loopw [9, 10, 11, 12, 13] (fun l i x y z wr => ∃ k : Nat, k ≤ n ∧ i = .int .i64 k ∧ Hid (S W wr n k a l)) (fun _ i _ _ _ _ => n - (intOf i).toNat)
  case atStart => exact ⟨0, Nat.zero_le _, rfl, H1⟩
  case round =>
    obtain ⟨k, hk, rfl, hd⟩ := hrel
    clear H1
    obtain ⟨hP, hM, rs, hS⟩ := hd.out
    have P := Lib.hid hP
    have M := Lib.hid hM
    have SS := Lib.hid hS
    have hlt0 := hP.lt (W.heap.size + 1) (by simp)
    clear hd hP hM hS
    by_cases hlt : k < n
    · have hwr : IntKind.u8.wrap (k : Int) = (k : Int) := by unfold IntKind.wrap; simp [IntKind.bits, IntKind.signed]; omega
      go_wp2_with fail
      refine (get_as wr _ _ 4 k (k + 1) k _ (up n (k + 1)) P.out (by rw [up_lo hk]) (by rw [up_lo hk, up_length hk]; exact hlt) (by rw [up_lo hk, up_set hlt]) (by rw [up_cnt]; omega)).mono ?_
      rintro e w2 ⟨rfl, hd2⟩
      have P2 := Lib.hid hd2.out.1
      have R2 := Lib.hid hd2.out.2.1
      have M2 := Lib.hid hd2.out.2.2
      have l2 := R2.out.lt (wr.heap.size + 1) (by simp)
      clear hd2
      go_wp2_with fail
      have HW := Lib.hid (show RowsAt ((w2.alloc (.cells #[.int .u8 a, .int .u8 (k : Int)] 5)).alloc (.cells #[.slice (some ⟨w2.heap.size, 0, none⟩) 2 2] 39)) [wr.heap.size + 1, wr.heap.size] (w2.heap.size + 1) [⟨some ⟨w2.heap.size, 0, none⟩, [a, (k : Int)], 2⟩] from
        rows_one ⟨some ⟨w2.heap.size, 0, none⟩, [a, (k : Int)], 2⟩ (by simp) (rw_lit w2 _ [a, (k : Int)] w2.heap.size 2 rfl rfl (by simp; omega) (by intro x hx; simp at hx; omega) (by decide)) (by simp; omega))
      refine (write_as _ (wr.heap.size + 1) wr.heap.size 4 (w2.heap.size + 1) 2 [] [a, (k : Int)] _ (R2.out.mods (((Mods.refl [] w2).alloc _).alloc _) (by simp)) HW.out (by simp) 1 rfl (by simp [flatR]) (by simp)).mono ?_
      rintro e w3 ⟨rfl, hd3⟩
      have R3 := Lib.hid hd3.out.1
      have M3 := Lib.hid (show Mods [wr.heap.size + 1, wr.heap.size] w2 w3 from (((Mods.refl _ w2).alloc _).alloc _).trans hd3.out.2 (fun j hj => .inl hj))
      clear hd3 HW
      have S3 := Lib.hid (three SS.out M2.out M3.out).1
      go_wp2_with (at_builtin; refine wpList_append_lies _ rfl (.tmp 66) (.tmp 68) _ rfl 0 31 i0 _ 1 8 Try.underlying47 hi0 hz0 hz1 hz2 rfl (by omega) u9 k (ptrs rs) rfl (own_mods S3.out.own ((Mods.refl [] w3).alloc _) (by simp)) ⟨w3.heap.size, 0, none⟩ 1 1 [.pointer (some ⟨wr.heap.size + 1, 0, none⟩)] rfl rfl (World.news_of_block (new_at rfl)) (by simp [Value.oneCell']) (by omega) (by unfold maxLen; omega) (by omega) (Nat.zero_le _) (w3.heap.size + 1) (by simp) ?_; intro g1 cap1 w4 hown1 hg1 hat1 hlt1; have HO1 := Lib.hid hown1; have HG1 := Lib.hid hg1; have HT1 := Lib.hid hat1; clear hown1 hg1 hat1)
      go_roundw
      case rel => exact ⟨k + 1, by omega, by go_num, Lib.hid (step P2.out M.out hlt0 SS.out M2.out R3.out M3.out HO1.out HG1.out HT1.out)⟩
      case measure => simp [intOf]; omega
    · have e : k = n := by omega
      subst e
      clear hlt hk hlt0
      obtain ⟨lb, lc, hu, hlc1, hlc2⟩ : ∃ lb lc, u9 = .slice (some ⟨lb, 0, none⟩) k lc ∧ k ≤ lc ∧ lc ≤ maxLen := by
        obtain ⟨lb, lc, e, _, e1, e2⟩ := own_some SS.out.own (by omega)
        exact ⟨lb, lc, e, e1, e2⟩
      subst hu
      have H2 := Lib.hid (show S W wr k k a (.slice (some ⟨lb, 0, none⟩) k lc) from ⟨P.out, M.out, rs, SS.out⟩)
      clear P M SS
      unfold maxLen at hlc2
      go_wp2
      go_loopw [14, 15] (fun i q wx => ∃ j : Nat, j ≤ k ∧ i = .int .i64 j ∧ Hid (S W wx k k a (.slice (some ⟨lb, 0, none⟩) k lc))) (fun i _ _ => k - (intOf i).toNat)
      case atStart => exact ⟨0, Nat.zero_le _, rfl, H2⟩
      case round =>
        obtain ⟨j, hj, rfl, hd⟩ := hrel
        clear H2
        obtain ⟨hP, hM, rs, hS⟩ := hd.out
        have P := Lib.hid hP
        have M := Lib.hid hM
        have SS := Lib.hid hS
        have hlt0 := hP.lt (W.heap.size + 1) (by simp)
        clear hd hP hM hS
        by_cases hlt : j < k
        · have hwr : IntKind.u8.wrap (j : Int) = (j : Int) := by unfold IntKind.wrap; simp [IntKind.bits, IntKind.signed]; omega
          have hjj : ((j : Int) != (j : Int)) = false := by simp
          obtain ⟨p, hp⟩ : ∃ p, rs[j]? = some p := ⟨_, List.getElem?_eq_getElem (by rw [SS.out.len]; exact hlt)⟩
          have cj : wr.cell? ⟨lb, j, none⟩ = some (.pointer (some ⟨p.1, 0, none⟩)) := by
            rw [SS.out.own.cellAt j (by omega)]; exact ptrs_at rs j p hp
          have RJ := Lib.hid (SS.out.ring j p hp).1
          go_wp2_with fail
          refine (peek_as wr p.1 p.2 4 2 9 [a, (j : Int)] [a, (j : Int)] RJ.out (by simp [clamp]) rfl).mono ?_
          rintro e w2 ⟨A2, c2, rfl, hd⟩
          obtain ⟨bl, o, rfl, ca, cb⟩ := two_at (hd.out.at0 (Mods.refl [] w2))
          have hc2 : 2 ≤ c2 := hd.out.1
          have H3 := Lib.hid (show S W w2 k k a (.slice (some ⟨lb, 0, none⟩) k lc) from ⟨P.out.mods hd.out.mods (by simp), M.out.trans hd.out.mods (by simp), rs, SS.out.mods hd.out.mods (by simp)⟩)
          clear hd cj
          go_wp2
          go_roundw
          case rel => exact ⟨j + 1, by omega, by go_num, H3⟩
          case measure => simp [intOf]; omega
        · have e : j = k := by omega
          subst e
          clear hlt hj
          obtain ⟨p, hp⟩ : ∃ p, rs[0]? = some p := ⟨_, List.getElem?_eq_getElem (by rw [SS.out.len]; omega)⟩
          have c0 : wr.cell? ⟨lb, 0, none⟩ = some (.pointer (some ⟨p.1, 0, none⟩)) := by
            rw [SS.out.own.cellAt 0 (by omega)]; exact ptrs_at rs 0 p hp
          have RJ := Lib.hid (SS.out.ring 0 p hp)
          have hLB := SS.out.high lb (by simp [Value.ownBlock])
          have hLB2 := own_lt SS.out.own lb (by simp [Value.ownBlock])
          have hjj : ((j : Int) - 1 == (j : Int) - 1) = true := by simp
          go_wp2_with fail
          refine (put_as wr _ _ 4 j 1 1 (up j j) (up j (j - 1)) [(j : Int) - 1] _ P.out rfl (by decide) (up_back hn1) (by rw [up_cnt, up_cnt]; omega)).mono ?_
          rintro e w2 ⟨rfl, hd2⟩
          have P2 := Lib.hid hd2.out.1
          have M2 := Lib.hid hd2.out.2
          have l2 := hd2.out.2.size
          clear hd2
          go_wp2_with fail
          refine (get_as w2 _ _ 4 j j ((j : Int) - 1) _ (up j j) P2.out (by rw [up_lo (by omega)]; omega) (by rw [up_lo (by omega), up_length (by omega)]; omega) (by rw [up_lo (by omega), up_set (by omega), show j - 1 + 1 = j by omega]) (by rw [up_cnt]; omega)).mono ?_
          rintro e w3 ⟨rfl, hd3⟩
          have R3 := Lib.hid hd3.out.2.1
          have M3 := Lib.hid (show Mods [W.heap.size + 1, W.heap.size] wr w3 from M2.out.trans hd3.out.2.2 (fun b hb => .inl hb))
          have l3 := R3.out.lt (w2.heap.size + 1) (by simp)
          clear hd3
          go_wp2_with fail
          refine (len_any w3 _ _ 4 [] R3.out).mono ?_
          rintro e w' ⟨he, rfl⟩
          obtain rfl : e = .returned (.int .i64 0) := he
          go_wp2_with fail
          have HW := Lib.hid (show RowsAt ((w3.alloc (.cells #[.int .u8 b] 5)).alloc (.cells #[.slice (some ⟨w3.heap.size, 0, none⟩) 1 1] 39)) [w2.heap.size + 1, w2.heap.size] (w3.heap.size + 1) [⟨some ⟨w3.heap.size, 0, none⟩, [b], 1⟩] from
            rows_one ⟨some ⟨w3.heap.size, 0, none⟩, [b], 1⟩ (by simp) (rw_lit w3 _ [b] w3.heap.size 1 rfl rfl (by simp; omega) (by intro x hx; simp at hx; omega) (by decide)) (by simp; omega))
          refine (write_as _ (w2.heap.size + 1) w2.heap.size 4 (w3.heap.size + 1) 1 [] [b] _ (R3.out.mods (((Mods.refl [] w3).alloc _).alloc _) (by simp)) HW.out (by simp) 1 rfl (by simp [flatR]) (by simp)).mono ?_
          rintro e w4 ⟨rfl, hd4⟩
          have M4 := Lib.hid (show Mods [w2.heap.size + 1, w2.heap.size] w3 w4 from (((Mods.refl _ w3).alloc _).alloc _).trans hd4.out.2 (fun j hj => .inl hj))
          clear hd4 HW
          have M5 := Lib.hid (show Mods [W.heap.size + 1, W.heap.size] wr w4 from M3.out.trans M4.out (by intro b hb; right; simp at hb; omega))
          have M6 := Lib.hid (show Mods [] W w4 from M.out.trans M5.out (by intro b hb; right; simp at hb; omega))
          by_cases hj1 : j = 1
          · have hj2 : ((j : Int) == 1) = true := by simp [hj1]
            clear hj1 c0
            go_wp2_with fail
            refine (known4_any _).mono ?_
            rintro e w5 ⟨rfl, hm⟩
            have M7 := Lib.hid (M6.out.trans hm (by simp))
            clear hm
            go_wp2
            go_ret
            exact ⟨rfl, M7.out.below⟩
          · have hj2 : ((j : Int) == 1) = false := by simp; omega
            clear hj1
            have c0 := cell_mods c0 M5.out (by intro hb; simp at hb; omega)
            go_wp2_with fail
            refine (len_any w4 _ _ 4 [a, ((0 : Nat) : Int)] (RJ.out.1.mods M5.out (by intro b hb hb2; have := RJ.out.2; simp at hb hb2; omega))).mono ?_
            rintro e w' ⟨he, rfl⟩
            obtain rfl : e = .returned (.int .i64 2) := he
            go_wp2_with fail
            refine (known4_any _).mono ?_
            rintro e w5 ⟨rfl, hm⟩
            have M7 := Lib.hid (M6.out.trans hm (by simp))
            clear hm
            go_wp2
            go_ret
            exact ⟨rfl, M7.out.below⟩
theorem other (n a b : Int) (h : n < 1 ∨ 20 < n) (W : World) :
    Calls Try.prog 4 #[.int .i64 n, .int .u8 a, .int .u8 b] W fun e w' => e = .returned (.bool true) ∧ Below W.heap.size W w' := by
  by_cases h1 : n < 1
  · go_enter Try.func4, Try.ntmps4
    go_wp2_with fail
    refine (known4_any _).mono ?_
    rintro e w3 ⟨rfl, hm⟩
    have M3 := Lib.hid hm
    clear hm
    go_wp2
    go_ret
    exact ⟨rfl, M3.out.below⟩
  · have h2 : 20 < n := by omega
    clear h
    go_enter Try.func4, Try.ntmps4
    go_wp2_with fail
    refine (known4_any _).mono ?_
    rintro e w3 ⟨rfl, hm⟩
    have M3 := Lib.hid hm
    clear hm
    go_wp2
    go_ret
    exact ⟨rfl, M3.out.below⟩
theorem walk (W : World) (n : Int) (hn : (Lit.int .i64 n).wf = true) (a : Int) (ha : (Lit.int .u8 a).wf = true) (b : Int) (hb : (Lit.int .u8 b).wf = true) :
    Calls Try.prog 4 #[.int .i64 n, .int .u8 a, .int .u8 b] W fun e w' => e = .returned (.bool true) ∧ Below W.heap.size W w' := by
  by_cases h : n < 1 ∨ 20 < n
  · exact other n a b h W
  · obtain ⟨k, rfl⟩ : ∃ k : Nat, n = (k : Int) := ⟨n.toNat, by omega⟩
    exact main k a b (by omega) (by omega) (u8_wf ha) (u8_wf hb) W

theorem own : ownKnob Try.prog.godebug = none := by kernel_rfl
theorem laidOut : laidOutB Try.prog = true := by kernel_rfl
set_option maxRecDepth 100000 in
theorem lifted (os : Os) (started : os.Started) (H : Type) (enc : TypeId × Value → H) :
    ReturnsInHanded {} Try.checked os 4 .any (Rows.poolApartSpec.pre6 enc Try.prog Try.f4 Rows.poolApartRow.domain false) (Rows.poolApartSpec.post enc Try.prog Try.f4 false true false false) := by
  refine returnsInHanded_of_change_sized (C := Try.checked) own started (by kernel_rfl) Try.func4
    (ChangeSpec.witness6 (enc := enc) (C := Try.checked) false ⟨#[], #[.int .i64 0, .int .u8 0, .int .u8 0], []⟩ 8 (by kernel_rfl) (by kernel_rfl) (by kernel_rfl) (by kernel_rfl)) ?_
  intro W base args ds gs before hval0 hW hcnd hsz0 _
  have hsz : (DataW.weightsEach Try.prog (Try.f4.params.toList ++ Rows.poolApartSpec.plain.varTypes Try.prog) (ds ++ gs)).all (· ≤ reachBytes) = true := hsz0
  have hval : ∀ (j : Nat) t v, Try.f4.params[j]? = some t → args[j]? = some v → Value.okWide Try.prog W .any base t v := hval0
  have hW' := hW
  obtain ⟨p, q, hA0, hV, rfl, hfz, hnd⟩ := hW
  have hA : DataW.TrodAll enc Try.prog W 0 (fun _ => true) true Try.f4.params.toList args.toList ds p := hA0
  rw [Try.params4] at hA hval hsz
  obtain ⟨v0, vs0, d0, ds0, p0, q0, hargs, rfl, rfl, h0, r0⟩ := trodAll_cons hA
  obtain ⟨v1, vs1, d1, ds1, p1, q1, rfl, rfl, rfl, h1, r1⟩ := trodAll_cons r0
  obtain ⟨v2, vs2, d2, ds2, p2, q2, rfl, rfl, rfl, h2, r2⟩ := trodAll_cons r1
  obtain ⟨rfl, rfl, rfl⟩ := trodAll_nil r2
  obtain rfl : args = #[v0, v1, v2] := by cases args; simp_all
  obtain ⟨rfl, rfl⟩ := trodVars_none hV
  obtain ⟨a0, rfl, rfl, rfl, w0⟩ := open_int Try.underlying3 (hval 0 3 v0 rfl rfl) h0
  obtain ⟨a1, rfl, rfl, rfl, w1⟩ := open_int Try.underlying5 (hval 1 5 v1 rfl rfl) h1
  obtain ⟨a2, rfl, rfl, rfl, w2⟩ := open_int Try.underlying5 (hval 2 5 v2 rfl rfl) h2
  clear hA0 hval0 hsz0 hsz
  refine (walk W a0 w0 a1 w1 a2 w2).mono fun e W' ⟨he, bel⟩ => ?_
  subst he
  exact ⟨_, rfl, _, _, _, [], _, [], hW', trodAll_mk1 (shut_bool Try.underlying4 _), (trodAll_cons_mk (shut_int Try.underlying3 w0) (trodAll_cons_mk (shut_int Try.underlying5 w1) (trodAll_cons_mk (shut_int Try.underlying5 w2) trodAll_mk0))), rfl, bel.frame _, fun h => by cases h⟩

theorem over : Rows.poolApartRow.holds Try.pinned (OpenSpec.ofChange Rows.poolApartSpec) :=
  OpenClaim.holds_of_wide 4 Try.f4 rfl rfl rfl rfl rfl rfl rfl ⟨rfl, rfl, rfl, rfl, rfl⟩ rfl rfl rfl rfl rfl (by kernel_rfl) Try.func4 (by kernel_rfl)
    (of_decide_eq_true (by kernel_rfl)) (by unfold Func.isWrapper; first | (rw [if_pos (by decide +kernel)]; kernel_rfl) | (rw [if_neg (by decide +kernel)]; exact ⟨rfl, rfl⟩))
    (fun os started H enc _ => lifted os started H enc)

theorem proved : Rows.PoolApartSaid := over
end Go.Proofs.Ytdocifbkocbiiaa.poolApart
