/- For every list of fields, written as lines, the code's head has these fields in their order and goes on as they say: the law returns true. Condition: the library's tables are laid as its initialisers lay them. -/
import Derived.Test.YtjoineomkdiekaaGreatDoorCards
import Derived.Test.YtjoineomkdiekaaGreatDoorTie
import Derived.Lay
import Derived.LaidOnce
import Derived.MakeChecks
import Derived.SevenTiedAt
import Derived.WalkKit
import Derived.ProofKit
import Derived.OpenShut
import Derived.ShutString
import Derived.ChangeOld
import Derived.Below
import Derived.SizedLaws
import Derived.Test.YtjoineomkdiekaaGreatDoorMQF
import Derived.Carry
import Derived.Deep.CutBlock
import Derived.Deep.RegionHeld3
import Derived.BigQuiet
namespace Go.Proofs.YtjoineomkdiekaaGreatDoor.headFields
open Go.ChangeShapes Go.WideShapes Go.ChangeAt Go.RowKit
open Go.ChangeMaps (open_string shut_string)
set_option linter.unusedVariables false

set_option maxRecDepth 10000 in
set_option maxHeartbeats 4000000 in
theorem walk (W : World) (mi : Bool) (r : FRow) (hr : r.Ok W) :
    Calls Tryz.prog 7 #[.bool mi, r.v] W fun e w' => e = .returned (.bool true) ∧ Below W.heap.size W w' := by
  obtain ⟨A, C, l⟩ := r
  have hfs := hr.fs
  have hcap := hr.cap
  have hbig := hr.big
  simp only [FRow.v] at hfs hcap hbig ⊢
  by_cases h24 : 24 < l.length
  · have g1 : (24 : Int) < (l.length : Int) := by omega
    clear h24 hfs hcap hbig hr
    go_enter Tryz.func7, Tryz.ntmps7
    go_wp2_with (go_at_call 9; refine (known_13 _).mono ?_; rintro e w5 ⟨rfl, hm⟩; have M5 := Lib.hid hm; clear hm)
    go_ret
    exact ⟨rfl, M5.out.below⟩
  have g1 : decide ((24 : Int) < (l.length : Int)) = false := by simp; omega
  have HFS := Lib.hid hfs
  have HCE := Lib.hid (fun k (hk : k < l.length) => show ∃ (p : FV) (b off : Nat), l.take (k + 1) = l.take k ++ [p] ∧ A = some ⟨b, off, none⟩ ∧ b < W.heap.size ∧ W.cell? ⟨b, off + k * 2, none⟩ = some (.string p.1) ∧ W.cell? ⟨b, off + k * 2 + 1, none⟩ = some (.string p.2) ∧ p.1.size ≤ 140737488351232 ∧ p.2.size ≤ 140737488351232 from by
    rcases hfs with ⟨h1, _⟩ | ⟨b, off, c, hv, -, hb, hc⟩
    · subst h1; cases hk
    · injection hv with e1 e2 e3
      exact ⟨l[k], b, off, List.take_succ_eq_append_getElem hk, e1, hb, (hc k hk).1, (hc k hk).2, hbig _ (List.getElem_mem hk)⟩)
  obtain ⟨n, hn⟩ : ∃ n, n = l.length := ⟨_, rfl⟩
  have HN := Lib.hid hn
  have hn24 : n ≤ 24 := by omega
  rw [← hn] at g1 hcap HCE HFS
  rw [← hn]
  have HM0 := Lib.hid (show Made 31 W W.heap.size (.slice none 0 0) (l.take 0) (W.alloc (.cells #[.slice none 0 0] 31)) from ⟨fld_new _ W, (Mods.refl _ _).alloc _, Nat.le_refl _, fun k hk => by simp [Value.ownBlock] at hk⟩)
  clear hn h24 hfs hbig hr
  go_enter Tryz.func7, Tryz.ntmps7
  go_wp2_with fail
  obtain ⟨xb, hxb⟩ : ∃ xb, xb = W.heap.size := ⟨_, rfl⟩
  rw [← hxb] at HM0 ⊢
  clear hxb
  go_loopw [6, 7] (fun by_ iv wr => ∃ (k : Nat) (v : Value), k ≤ n ∧ iv = .int .i64 k ∧ by_ = .int .i64 ((18 + bytesF (l.take k) : Nat) : Int) ∧ 18 + bytesF (l.take k) ≤ 18 + k * 258 ∧ Hid (GoodF (l.take k) ∧ Made 31 W xb v (l.take k) wr)) (fun _ iv _ => n - (intOf iv).toNat)
  case atStart => exact ⟨0, _, Nat.zero_le _, rfl, by simp [bytesF], by simp [bytesF], Lib.hid ⟨(fun p hp => nomatch hp), HM0.out⟩⟩
  case round =>
    obtain ⟨k, v, hk, rfl, rfl, hble, hG⟩ := hrel
    have HG := Lib.hid hG.out.1
    have HM := Lib.hid hG.out.2
    clear hG
    by_cases hlt : k < n
    · obtain ⟨p, b, off, htk, rfl, hbW, hc0, hc1, hz0, hz1⟩ := HCE.out k hlt
      have HTK := Lib.hid htk
      have HBS := Lib.hid (bytesF_snoc (l.take k) p)
      rw [← htk] at HBS
      clear htk
      obtain ⟨x, y⟩ := p
      simp only at hc0 hc1 hz0 hz1 HBS
      have c0 := cell_mods hc0 HM.out.mods (by simp)
      have c1 := cell_mods hc1 HM.out.mods (by simp)
      obtain ⟨bs, hbs⟩ : ∃ bs, bs = 18 + bytesF (l.take k) := ⟨_, rfl⟩
      have hbl2 : bs ≤ 18 + 24 * 258 := by
        have := Nat.mul_le_mul_right 258 (show k ≤ 24 by omega)
        omega
      rw [← hbs] at hble ⊢
      have HB := Lib.hid (show 18 + bytesF (l.take (k + 1)) = bs + (x.size + y.size) + 4 by rw [HBS.out, hbs]; omega)
      clear hbs HBS hc0 hc1
      have hw1 : IntKind.i64.wrap ((x.size : Int) + (y.size : Int)) = (x.size : Int) + (y.size : Int) := by rw [IntKind.wrap_i64]; omega
      go_upto_region 8 with fail
      go_quiet (fail)
      obtain ⟨w2, hw2⟩ : ∃ w2 : World, w2 = wr.drewN nq := ⟨_, rfl⟩
      have HM2 := Lib.hid (HM.out.low13 (show Mods [] wr w2 by rw [hw2]; exact (Mods.refl _ _).drewN _))
      have d0 : w2.cell? ⟨b, off + k * 2, none⟩ = some (.string x) := by rw [hw2]; exact cell_mods c0 ((Mods.refl [] wr).drewN _) (by simp)
      have d1 : w2.cell? ⟨b, off + k * 2 + 1, none⟩ = some (.string y) := by rw [hw2]; exact cell_mods c1 ((Mods.refl [] wr).drewN _) (by simp)
      rw [← hw2]
      clear hw2 c0 c1
      by_cases h254 : 254 < x.size + y.size
      · have e1 : (254 : Int) < (x.size : Int) + (y.size : Int) := by omega
        clear h254
        go_wp2_with (go_at_call 9; refine (known_13 _).mono ?_; rintro e w5 ⟨rfl, hm⟩; have M5 := Lib.hid (HM2.out.mods.on hm); clear hm)
        go_ret
        exact ⟨rfl, M5.out.below⟩
      have e1 : decide ((254 : Int) < (x.size : Int) + (y.size : Int)) = false := by simp; omega
      have hw2 : IntKind.i64.wrap ((bs : Int) + ((x.size : Int) + (y.size : Int))) = (bs : Int) + ((x.size : Int) + (y.size : Int)) := by rw [IntKind.wrap_i64]; omega
      have hw3 : IntKind.i64.wrap ((bs : Int) + ((x.size : Int) + (y.size : Int)) + 4) = (bs : Int) + ((x.size : Int) + (y.size : Int)) + 4 := by rw [IntKind.wrap_i64]; omega
      have HAD := Lib.hid (radd_one13 x y HM2.out.fld ((Mods.refl [] w2).alloc (.cells #[.string x, .string y] 49)) (Row.new w2 49 #[.string x, .string y]) (Nat.le_refl _) (by omega) (by omega) (by decide))
      have hlk : (l.take k).length = k := by rw [List.length_take, ← HN.out]; omega
      rw [hlk] at HAD
      have HXY := Lib.hid (show x.size + y.size ≤ 254 by omega)
      unfold ptr at HAD
      cases hok : okF (x, y) with
      | false =>
        have ha : addR k [(x, y)] = (0, 8) := by unfold addR; rw [if_neg (by rw [hok]; simp)]
        rw [ha] at HAD
        clear hok ha hlk h254
        go_wp2_with (first
          | (go_at_call 13; refine HAD.out.mono ?_; rintro e w4 ⟨u, rfl, hq⟩; have M4 := Lib.hid (HM2.out.one hq).mods; clear hq)
          | (go_at_call 9; refine (known_13 _).mono ?_; rintro e w5 ⟨rfl, hm⟩; have M5 := Lib.hid (M4.out.on hm); clear hm))
        go_ret
        exact ⟨rfl, M5.out.below⟩
      | true =>
        have ha := addR_one (n := k) hok
        have hf := addF_one (S := l.take k) hok
        rw [if_neg (by omega)] at ha
        rw [if_neg (by rw [hlk]; omega), ← HTK.out] at hf
        rw [ha, hf] at HAD
        have HG2 := Lib.hid (show GoodF (l.take (k + 1)) by rw [HTK.out]; exact HG.out.snoc hok HXY.out)
        clear hok ha hf hlk h254
        go_wp2_with (go_at_call 13; refine HAD.out.mono ?_; rintro e w4 ⟨u, rfl, hq⟩; have M4 := Lib.hid (HM2.out.one hq); clear hq)
        go_roundw
        case rel => exact ⟨k + 1, u, by omega, by go_num, by rw [HB.out]; show Value.int _ _ = Value.int _ _; congr 1, by rw [HB.out]; have := HXY.out; omega, Lib.hid ⟨HG2.out, M4.out⟩⟩
        case measure => simp [intOf]; omega
    · obtain rfl : n = k := by omega
      have HLL := Lib.hid (show l.take n = l by rw [HN.out, List.take_length])
      rw [HLL.out] at HG HM hble
      rw [HLL.out]
      obtain ⟨bs, hbs⟩ : ∃ bs, bs = bytesF l := ⟨_, rfl⟩
      rw [← hbs] at hble ⊢
      have HBS := Lib.hid hbs
      clear hbs
      by_cases hbig : 1024 < 18 + bs
      · have e1 : (1024 : Int) < 18 + (bs : Int) := by omega
        clear hbig
        go_wp2_with (go_at_call 9; refine (known_13 _).mono ?_; rintro e w5 ⟨rfl, hm⟩; have M5 := Lib.hid (HM.out.mods.on hm); clear hm)
        go_ret
        exact ⟨rfl, M5.out.below⟩
      have e1 : decide ((1024 : Int) < 18 + (bs : Int)) = false := by simp; omega
      have HBL := Lib.hid (show bs ≤ 1006 by omega)
      have HNW := Lib.hid (new_h wr)
      unfold ptr at HNW
      clear hbig hble
      go_upto_region 18 with (go_at_call 14; refine HNW.out.mono ?_; rintro e w1 hk; obtain ⟨hb, F, rfl, ha, hm, hf⟩ := hk.out; have S1 := Lib.hid (Side.make HM.out ha hm hf); clear hk ha hm hf)
      obtain ⟨g1, v1, st1, e2, z1, cc1, -, -⟩ := S1.out.a.ex
      have b0 : w1.cell? ⟨hb, 0, none⟩ = some (.pointer (some ⟨g1, 0, none⟩)) := cc1.row.cell 0
      clear cc1
      cases mi with
      | true =>
        have HL1 := Lib.hid (line_a ⟨#[71, 69, 84, 32, 47, 32, 72, 84, 84, 80, 47, 49, 46, 49]⟩ (by decide) S1.out.a)
        rw [show lineP newH ⟨#[71, 69, 84, 32, 47, 32, 72, 84, 84, 80, 47, 49, 46, 49]⟩ = fldH true 16 [] from get_line true] at HL1
        unfold ptr at HL1
        go_upto_region 24 with (go_at_call 10; refine HL1.out.mono ?_; rintro e w2 ⟨rfl, hq⟩; obtain ⟨F2, s2⟩ := S1.out.line hq.out; have S2 := Lib.hid s2; clear hq s2)
        clear b0
        go_wp2_with fail
        go_loopw [14] (fun iv wx => ∃ (k : Nat) (F : List Nat), k ≤ n ∧ iv = .int .i64 k ∧ Hid (Side W wx hb (fldH true (16 + bytesF (l.take k)) (l.take k)) F xb v l)) (fun iv _ => n - (intOf iv).toNat)
        case atStart => exact ⟨0, F2, Nat.zero_le _, rfl, S2⟩
        case round =>
          obtain ⟨k, F3, hk, rfl, hS⟩ := hrel
          have S3 := Lib.hid hS.out
          clear hS
          obtain ⟨wo, rfl⟩ : ∃ wo : World, wo = wr := ⟨_, rfl⟩
          by_cases hlt : k < n
          · obtain ⟨p, b, off, htk, rfl, hbW, hc0, hc1, hz0, hz1⟩ := HCE.out k hlt
            have hpl : p ∈ l := List.mem_of_mem_take (i := k + 1) (by rw [htk]; simp)
            obtain ⟨hok, h254⟩ := HG.out p hpl
            have hbt := bytesF_take l (k + 1)
            have hbb := bytesF_snoc (l.take k) p
            rw [← htk] at hbb
            have hbl := HBL.out
            rw [HBS.out] at hbl
            have hlk : (l.take k).length < 24 := by rw [List.length_take, ← HN.out]; omega
            have hline := fldH_line (minor := true) (b := 16 + bytesF (l.take k)) (S := l.take k) hok h254 (by omega) hlk
            rw [← htk, show 16 + bytesF (l.take k) + (p.1.size + p.2.size + 4) = 16 + bytesF (l.take (k + 1)) by omega] at hline
            have HL := line_a (lineK p.1 p.2 1) (by rw [lineK_size]; omega) (S3.out.quiet ((Mods.refl [] wo).drew)).a
            rw [hline] at HL
            obtain ⟨x, y⟩ := p
            simp only at hc0 hc1 h254 HL
            have hcat : x ++ (⟨#[58, 32]⟩ : ByteArray) ++ y = lineK x y 1 := rfl
            rw [← hcat] at HL
            have HLD := Lib.hid (show Calls Tryz.prog 10 #[.pointer (some ⟨hb, 0, none⟩), .string (x ++ (⟨#[58, 32]⟩ : ByteArray) ++ y)] wo.drew fun r w' => r = .returned (.tuple #[.bool false, .int .i64 0]) ∧ Hid (Lined F3 wo.drew hb (fldH true (16 + bytesF (l.take (k + 1))) (l.take (k + 1))) w') from HL)
            have c0 := cell_mods hc0 S3.out.x.mods (by simp)
            have c1 := cell_mods hc1 S3.out.x.mods (by simp)
            have hcs : (x ++ (⟨#[58, 32]⟩ : ByteArray)).size = x.size + 2 := app_sizeL _ _
            have hcs2 : (x ++ (⟨#[58, 32]⟩ : ByteArray) ++ y).size = x.size + 2 + y.size := by rw [app_sizeL, hcs]
            have hadd1 : ¬ (9223372036854775807 < x.size + 2) := by omega
            have hadd2 : ¬ (9223372036854775807 < x.size + 2 + y.size) := by omega
            clear hcs hcs2
            have HC0 := Lib.hid hc0
            have HC1 := Lib.hid hc1
            clear hc0 hc1 hok hbt hbb hbl hlk hline HL hcat htk hpl hz0 hz1
            go_upto_region 27 with fail
            go_region_held3 (fun w' => w'.cell? ⟨b, off + k * 2, none⟩ = some (.string x) ∧ w'.cell? ⟨b, off + k * 2 + 1, none⟩ = some (.string y)) (go_keep) ((go_at_call 10; refine (HLD.out).mono ?_; rintro e w5 ⟨rfl, hq⟩; obtain ⟨F4, s4⟩ := (S3.out.quiet ((Mods.refl [] wo).drew)).line hq.out; have S4 := Lib.hid s4; have d0 := cell_mods HC0.out s4.x.mods (by simp); have d1 := cell_mods HC1.out s4.x.mods (by simp); clear hq s4))
            go_wp2
            go_roundw
            case rel => exact ⟨k + 1, F4, by omega, by go_num, S4⟩
            case measure => simp [intOf]; omega
          · obtain rfl : n = k := by omega
            have S4 := S3.out
            rw [HLL.out] at S4
            have hbl := HBL.out
            rw [HBS.out] at hbl
            have hend := fldH_end (minor := true) (b := 16 + bytesF l) (S := l) (by omega)
            have HE := line_a noB (by decide) S4.a
            rw [hend] at HE
            have hfm := frm_minZ true l
            have hlite := good_lite HG.out (by rw [← HN.out]; exact hn24)
            have HOF := Lib.hid (fun w' (hf : FldE 31 [] w' xb v l) => of_rfld (minZ_max true) (minZ_or true) hf hlite)
            rw [← hfm] at HOF
            obtain ⟨r, hr⟩ : ∃ r, r = frm (minZ true) l := ⟨_, rfl⟩
            rw [← hr] at HE HOF
            obtain ⟨⟨rk, rl, rc, rx⟩, rs⟩ := r
            unfold HAns howV at HOF
            simp only at HOF
            have HE2 := Lib.hid (show Calls Tryz.prog 10 #[.pointer (some ⟨hb, 0, none⟩), .string ⟨#[]⟩] wo fun r w' => r = .returned (.tuple #[.bool (rs == 0), .int .i64 rs]) ∧ Hid (Lined F3 wo hb (fldE true (16 + bytesF l + 2) l (⟨rk, rl, rc, rx⟩, rs)) w') from by rw [beq_dec]; exact HE)
            have S4 := Lib.hid S4
            have hss : (rs == rs) = true := by simp
            have HFF := Lib.hid (fun va w' (h1 : FsAt w' va l) (hm : Mods [] W w') => fields_13 l l va (.slice A n C) w' h1 (HFS.out.low hm) (by rw [← HN.out]; omega) (by rw [← HN.out]; omega))
            clear HE hfm hlite hr hbl hend
            go_upto_region 33 with (first
              | (go_at_call 10; refine HE2.out.mono ?_; rintro e w5 ⟨rfl, hq⟩; obtain ⟨F5, s5⟩ := S4.out.line hq.out; have S5 := Lib.hid s5; clear hq s5)
              | (go_at_call 15; refine (HOF.out _ S5.out.x.fld).mono ?_; rintro e w6 ⟨rfl, hm⟩; have S6 := Lib.hid (S5.out.quiet (hm.alloc (.cells #[.int .i64 rk, .int .i64 rl, .bool rc, .bool rx] 35))); have R6 := Lib.hid (Row.new w6 35 #[.int .i64 rk, .int .i64 rl, .bool rc, .bool rx]); have HHW := Lib.hid (show Calls Tryz.prog 12 #[.pointer (some ⟨hb, 0, none⟩)] (w6.alloc (.cells #[.int .i64 rk, .int .i64 rl, .bool rc, .bool rx] 35)) fun r w' => r = .returned (.agg #[.int .i64 rk, .int .i64 rl, .bool rc, .bool rx]) ∧ Mods [] (w6.alloc (.cells #[.int .i64 rk, .int .i64 rl, .bool rc, .bool rx] 35)) w' from how_a S6.out.a); clear hm)
              | (go_at_call 12; refine HHW.out.mono ?_; rintro e w7 ⟨rfl, hm⟩; have S7 := Lib.hid (S6.out.quiet (hm.alloc (.cells #[.int .i64 rk, .int .i64 rl, .bool rc, .bool rx] 44))); have R7 := Lib.hid (Row.new w7 44 #[.int .i64 rk, .int .i64 rl, .bool rc, .bool rx]); have R6b := Lib.hid (R6.out.mods (hm.alloc (.cells #[.int .i64 rk, .int .i64 rl, .bool rc, .bool rx] 44)) (by simp)); clear hm))
            obtain ⟨W8, hW8⟩ : ∃ W8, W8 = w7.alloc (.cells #[.int .i64 rk, .int .i64 rl, .bool rc, .bool rx] 44) := ⟨_, rfl⟩
            obtain ⟨t6, ht6⟩ : ∃ t, t = w6.heap.size := ⟨_, rfl⟩
            obtain ⟨t7, ht7⟩ : ∃ t, t = w7.heap.size := ⟨_, rfl⟩
            rw [← hW8, ← ht6, ← ht7]
            rw [← hW8] at S7 R7 R6b
            rw [← ht6] at R6b
            rw [← ht7] at R7
            obtain ⟨g, v9, st9, e9, z9, ca, -, -⟩ := S7.out.a.ex
            have a0 : W8.cell? ⟨hb, 0, none⟩ = some (.pointer (some ⟨g, 0, none⟩)) := ca.row.cell 0
            have HAL := Lib.hid (show Calls Tryz.prog 17 #[.pointer (some ⟨g, 0, none⟩)] W8 fun e w' => ∃ B, e = .returned (.slice (some ⟨B, 0, none⟩) l.length l.length) ∧ Gt W8 49 2 l.length (encF l) (.slice (some ⟨B, 0, none⟩) l.length l.length) w' from all_a W8 ca.fld)
            clear ca hW8 ht6 ht7 R6
            go_wp2_with (first
              | (go_at_call 17; refine HAL.out.mono ?_; rintro e w9 ⟨B, rfl, hg⟩; have M9 := Lib.hid hg.low; have F9 := Lib.hid hg.fs13; clear hg)
              | (go_at_call 16; refine (HFF.out _ _ F9.out (S7.out.x.mods.on M9.out)).mono ?_; rintro e w10 ⟨rfl, hd⟩; have M10 := Lib.hid (M9.out.on (show Mods [] w9 w10 from by obtain ⟨q, rfl⟩ := hd; exact (Mods.refl _ _).drewN q)); have q7 := R7.out.mods M10.out (by simp); have q6 := R6b.out.mods M10.out (by simp); have k0 := q7.cell 0; have k1 := q7.cell 1; have k2 := q7.cell 2; have k3 := q7.cell 3; have j0 := q6.cell 0; have j1 := q6.cell 1; have j2 := q6.cell 2; have j3 := q6.cell 3; simp only [List.getElem?_toArray, List.getElem?_cons_zero, List.getElem?_cons_succ] at k0 k1 k2 k3 j0 j1 j2 j3; clear hd q7 q6)
              | (go_at_call 9; refine (known_13 _).mono ?_; rintro e w11 ⟨rfl, hm⟩; have M11 := Lib.hid ((S7.out.x.mods.on M10.out).on hm); clear hm))
            go_ret
            exact ⟨rfl, M11.out.below⟩
      | false =>
        have HL1 := Lib.hid (line_a ⟨#[71, 69, 84, 32, 47, 32, 72, 84, 84, 80, 47, 49, 46, 48]⟩ (by decide) S1.out.a)
        rw [show lineP newH ⟨#[71, 69, 84, 32, 47, 32, 72, 84, 84, 80, 47, 49, 46, 48]⟩ = fldH false 16 [] from get_line false] at HL1
        unfold ptr at HL1
        go_upto_region 24 with (go_at_call 10; refine HL1.out.mono ?_; rintro e w2 ⟨rfl, hq⟩; obtain ⟨F2, s2⟩ := S1.out.line hq.out; have S2 := Lib.hid s2; clear hq s2)
        clear b0
        go_wp2_with fail
        go_loopw [14] (fun iv wx => ∃ (k : Nat) (F : List Nat), k ≤ n ∧ iv = .int .i64 k ∧ Hid (Side W wx hb (fldH false (16 + bytesF (l.take k)) (l.take k)) F xb v l)) (fun iv _ => n - (intOf iv).toNat)
        case atStart => exact ⟨0, F2, Nat.zero_le _, rfl, S2⟩
        case round =>
          obtain ⟨k, F3, hk, rfl, hS⟩ := hrel
          have S3 := Lib.hid hS.out
          clear hS
          obtain ⟨wo, rfl⟩ : ∃ wo : World, wo = wr := ⟨_, rfl⟩
          by_cases hlt : k < n
          · obtain ⟨p, b, off, htk, rfl, hbW, hc0, hc1, hz0, hz1⟩ := HCE.out k hlt
            have hpl : p ∈ l := List.mem_of_mem_take (i := k + 1) (by rw [htk]; simp)
            obtain ⟨hok, h254⟩ := HG.out p hpl
            have hbt := bytesF_take l (k + 1)
            have hbb := bytesF_snoc (l.take k) p
            rw [← htk] at hbb
            have hbl := HBL.out
            rw [HBS.out] at hbl
            have hlk : (l.take k).length < 24 := by rw [List.length_take, ← HN.out]; omega
            have hline := fldH_line (minor := false) (b := 16 + bytesF (l.take k)) (S := l.take k) hok h254 (by omega) hlk
            rw [← htk, show 16 + bytesF (l.take k) + (p.1.size + p.2.size + 4) = 16 + bytesF (l.take (k + 1)) by omega] at hline
            have HL := line_a (lineK p.1 p.2 1) (by rw [lineK_size]; omega) (S3.out.quiet ((Mods.refl [] wo).drew)).a
            rw [hline] at HL
            obtain ⟨x, y⟩ := p
            simp only at hc0 hc1 h254 HL
            have hcat : x ++ (⟨#[58, 32]⟩ : ByteArray) ++ y = lineK x y 1 := rfl
            rw [← hcat] at HL
            have HLD := Lib.hid (show Calls Tryz.prog 10 #[.pointer (some ⟨hb, 0, none⟩), .string (x ++ (⟨#[58, 32]⟩ : ByteArray) ++ y)] wo.drew fun r w' => r = .returned (.tuple #[.bool false, .int .i64 0]) ∧ Hid (Lined F3 wo.drew hb (fldH false (16 + bytesF (l.take (k + 1))) (l.take (k + 1))) w') from HL)
            have c0 := cell_mods hc0 S3.out.x.mods (by simp)
            have c1 := cell_mods hc1 S3.out.x.mods (by simp)
            have hcs : (x ++ (⟨#[58, 32]⟩ : ByteArray)).size = x.size + 2 := app_sizeL _ _
            have hcs2 : (x ++ (⟨#[58, 32]⟩ : ByteArray) ++ y).size = x.size + 2 + y.size := by rw [app_sizeL, hcs]
            have hadd1 : ¬ (9223372036854775807 < x.size + 2) := by omega
            have hadd2 : ¬ (9223372036854775807 < x.size + 2 + y.size) := by omega
            clear hcs hcs2
            have HC0 := Lib.hid hc0
            have HC1 := Lib.hid hc1
            clear hc0 hc1 hok hbt hbb hbl hlk hline HL hcat htk hpl hz0 hz1
            go_upto_region 27 with fail
            go_region_held3 (fun w' => w'.cell? ⟨b, off + k * 2, none⟩ = some (.string x) ∧ w'.cell? ⟨b, off + k * 2 + 1, none⟩ = some (.string y)) (go_keep) ((go_at_call 10; refine (HLD.out).mono ?_; rintro e w5 ⟨rfl, hq⟩; obtain ⟨F4, s4⟩ := (S3.out.quiet ((Mods.refl [] wo).drew)).line hq.out; have S4 := Lib.hid s4; have d0 := cell_mods HC0.out s4.x.mods (by simp); have d1 := cell_mods HC1.out s4.x.mods (by simp); clear hq s4))
            go_wp2
            go_roundw
            case rel => exact ⟨k + 1, F4, by omega, by go_num, S4⟩
            case measure => simp [intOf]; omega
          · obtain rfl : n = k := by omega
            have S4 := S3.out
            rw [HLL.out] at S4
            have hbl := HBL.out
            rw [HBS.out] at hbl
            have hend := fldH_end (minor := false) (b := 16 + bytesF l) (S := l) (by omega)
            have HE := line_a noB (by decide) S4.a
            rw [hend] at HE
            have hfm := frm_minZ false l
            have hlite := good_lite HG.out (by rw [← HN.out]; exact hn24)
            have HOF := Lib.hid (fun w' (hf : FldE 31 [] w' xb v l) => of_rfld (minZ_max false) (minZ_or false) hf hlite)
            rw [← hfm] at HOF
            obtain ⟨r, hr⟩ : ∃ r, r = frm (minZ false) l := ⟨_, rfl⟩
            rw [← hr] at HE HOF
            obtain ⟨⟨rk, rl, rc, rx⟩, rs⟩ := r
            unfold HAns howV at HOF
            simp only at HOF
            have HE2 := Lib.hid (show Calls Tryz.prog 10 #[.pointer (some ⟨hb, 0, none⟩), .string ⟨#[]⟩] wo fun r w' => r = .returned (.tuple #[.bool (rs == 0), .int .i64 rs]) ∧ Hid (Lined F3 wo hb (fldE false (16 + bytesF l + 2) l (⟨rk, rl, rc, rx⟩, rs)) w') from by rw [beq_dec]; exact HE)
            have S4 := Lib.hid S4
            have hss : (rs == rs) = true := by simp
            have HFF := Lib.hid (fun va w' (h1 : FsAt w' va l) (hm : Mods [] W w') => fields_13 l l va (.slice A n C) w' h1 (HFS.out.low hm) (by rw [← HN.out]; omega) (by rw [← HN.out]; omega))
            clear HE hfm hlite hr hbl hend
            go_upto_region 33 with (first
              | (go_at_call 10; refine HE2.out.mono ?_; rintro e w5 ⟨rfl, hq⟩; obtain ⟨F5, s5⟩ := S4.out.line hq.out; have S5 := Lib.hid s5; clear hq s5)
              | (go_at_call 15; refine (HOF.out _ S5.out.x.fld).mono ?_; rintro e w6 ⟨rfl, hm⟩; have S6 := Lib.hid (S5.out.quiet (hm.alloc (.cells #[.int .i64 rk, .int .i64 rl, .bool rc, .bool rx] 35))); have R6 := Lib.hid (Row.new w6 35 #[.int .i64 rk, .int .i64 rl, .bool rc, .bool rx]); have HHW := Lib.hid (show Calls Tryz.prog 12 #[.pointer (some ⟨hb, 0, none⟩)] (w6.alloc (.cells #[.int .i64 rk, .int .i64 rl, .bool rc, .bool rx] 35)) fun r w' => r = .returned (.agg #[.int .i64 rk, .int .i64 rl, .bool rc, .bool rx]) ∧ Mods [] (w6.alloc (.cells #[.int .i64 rk, .int .i64 rl, .bool rc, .bool rx] 35)) w' from how_a S6.out.a); clear hm)
              | (go_at_call 12; refine HHW.out.mono ?_; rintro e w7 ⟨rfl, hm⟩; have S7 := Lib.hid (S6.out.quiet (hm.alloc (.cells #[.int .i64 rk, .int .i64 rl, .bool rc, .bool rx] 44))); have R7 := Lib.hid (Row.new w7 44 #[.int .i64 rk, .int .i64 rl, .bool rc, .bool rx]); have R6b := Lib.hid (R6.out.mods (hm.alloc (.cells #[.int .i64 rk, .int .i64 rl, .bool rc, .bool rx] 44)) (by simp)); clear hm))
            obtain ⟨W8, hW8⟩ : ∃ W8, W8 = w7.alloc (.cells #[.int .i64 rk, .int .i64 rl, .bool rc, .bool rx] 44) := ⟨_, rfl⟩
            obtain ⟨t6, ht6⟩ : ∃ t, t = w6.heap.size := ⟨_, rfl⟩
            obtain ⟨t7, ht7⟩ : ∃ t, t = w7.heap.size := ⟨_, rfl⟩
            rw [← hW8, ← ht6, ← ht7]
            rw [← hW8] at S7 R7 R6b
            rw [← ht6] at R6b
            rw [← ht7] at R7
            obtain ⟨g, v9, st9, e9, z9, ca, -, -⟩ := S7.out.a.ex
            have a0 : W8.cell? ⟨hb, 0, none⟩ = some (.pointer (some ⟨g, 0, none⟩)) := ca.row.cell 0
            have HAL := Lib.hid (show Calls Tryz.prog 17 #[.pointer (some ⟨g, 0, none⟩)] W8 fun e w' => ∃ B, e = .returned (.slice (some ⟨B, 0, none⟩) l.length l.length) ∧ Gt W8 49 2 l.length (encF l) (.slice (some ⟨B, 0, none⟩) l.length l.length) w' from all_a W8 ca.fld)
            clear ca hW8 ht6 ht7 R6
            go_wp2_with (first
              | (go_at_call 17; refine HAL.out.mono ?_; rintro e w9 ⟨B, rfl, hg⟩; have M9 := Lib.hid hg.low; have F9 := Lib.hid hg.fs13; clear hg)
              | (go_at_call 16; refine (HFF.out _ _ F9.out (S7.out.x.mods.on M9.out)).mono ?_; rintro e w10 ⟨rfl, hd⟩; have M10 := Lib.hid (M9.out.on (show Mods [] w9 w10 from by obtain ⟨q, rfl⟩ := hd; exact (Mods.refl _ _).drewN q)); have q7 := R7.out.mods M10.out (by simp); have q6 := R6b.out.mods M10.out (by simp); have k0 := q7.cell 0; have k1 := q7.cell 1; have k2 := q7.cell 2; have k3 := q7.cell 3; have j0 := q6.cell 0; have j1 := q6.cell 1; have j2 := q6.cell 2; have j3 := q6.cell 3; simp only [List.getElem?_toArray, List.getElem?_cons_zero, List.getElem?_cons_succ] at k0 k1 k2 k3 j0 j1 j2 j3; clear hd q7 q6)
              | (go_at_call 9; refine (known_13 _).mono ?_; rintro e w11 ⟨rfl, hm⟩; have M11 := Lib.hid ((S7.out.x.mods.on M10.out).on hm); clear hm))
            go_ret
            exact ⟨rfl, M11.out.below⟩

theorem own : ownKnob Tryz.prog.godebug = none := by kernel_rfl
theorem laidOut : laidOutB Tryz.prog = true := by kernel_rfl
set_option maxRecDepth 100000 in
theorem lifted (os : Os) (started : os.Started) (H : Type) (enc : TypeId × Value → H) :
    ReturnsInHanded {} Tryz.checked os 7 .any (fun w args => (Rows.headFieldsSpec.pre enc Tryz.prog Tryz.f7 [] false w args ∧ laidMetH Tryz.prog Rows.headFieldsRow.laid w) ∧ sizedMet enc Tryz.prog Tryz.f7 (OpenSpec.ofChange Rows.headFieldsSpec) false w args)
      (Rows.headFieldsSpec.post enc Tryz.prog Tryz.f7 false true false false) := by
  refine returnsInHanded_of_change_and (C := Tryz.checked) (X := fun w _ => laidMetH Tryz.prog Rows.headFieldsRow.laid w) (fun _ _ _ hh h => h.of_heap hh) own started (by kernel_rfl) Tryz.func7
    (ChangeSpec.witness_shaped (enc := enc) (C := Tryz.checked) (os := os) (X := fun w _ => laidMetH Tryz.prog Rows.headFieldsRow.laid w) false (World.laidAll Tryz.prog os Rows.headFieldsRow.laid) #[.bool false, .slice none 0 0] 8 (World.laidAll_os _ _ _)
      (World.shaped_of_ZipB (by kernel_rfl) (by kernel_rfl)) (by kernel_rfl) (by kernel_rfl) (by kernel_rfl)
      (by rw [MakeChecks.laidMetH_plain _ _ _ (by kernel_rfl)]; exact laidMet_laidAll _ (by kernel_rfl) (by kernel_rfl))) ?_
  intro W base args ds gs before hval0 hW hcnd hsz0 hL _
  have hsz : (DataW.weightsEach Tryz.prog (Tryz.f7.params.toList ++ Rows.headFieldsSpec.plain.varTypes Tryz.prog) (ds ++ gs)).all (· ≤ reachBytes) = true := hsz0
  have hval : ∀ (j : Nat) t v, Tryz.f7.params[j]? = some t → args[j]? = some v → Value.okWide Tryz.prog W .any base t v := hval0
  have hW' := hW
  obtain ⟨p, q, hA0, hV, rfl, hfz, hnd⟩ := hW
  have hA : DataW.TrodAll enc Tryz.prog W 0 (fun _ => true) true Tryz.f7.params.toList args.toList ds p := hA0
  rw [Tryz.params7] at hA hval hsz
  obtain ⟨v0, vs0, d0, ds0, p0, q0, hargs, rfl, rfl, h0, r0⟩ := trodAll_cons hA
  obtain ⟨v1, vs1, d1, ds1, p1, q1, rfl, rfl, rfl, h1, r1⟩ := trodAll_cons r0
  obtain ⟨rfl, rfl, rfl⟩ := trodAll_nil r1
  obtain rfl : args = #[v0, v1] := by cases args; simp_all
  obtain ⟨rfl, rfl⟩ := trodVars_none hV
  obtain ⟨a0, rfl, rfl, rfl⟩ := open_bool Tryz.underlying4 (hval 0 4 v0 rfl rfl) h0
  have k1 := h1
  have lt1 : ∀ x ∈ p1, x.block < W.heap.size := by obtain ⟨m, hm⟩ := k1; exact DataW.trod_lt m _ _ _ hm
  obtain ⟨fr1, rfl, o1⟩ := open_fs (hval 1 29 v1 rfl rfl) k1 (fun n hn => by simpa using List.all_eq_true.1 hsz n (DataW.weights_mem_each (j := 1) (t := 29) rfl rfl n hn))
  clear hA0 hval0 hsz0 hsz
  refine (walk W a0 fr1 o1).mono fun e W' ⟨he, bel⟩ => ?_
  subst he
  exact ⟨_, rfl, _, _, _, [], _, [], hW', trodAll_mk1 (shut_bool Tryz.underlying4 _), (trodAll_cons_mk (shut_bool Tryz.underlying4 a0) (trodAll_cons_mk (Below.trod laidOut (by kernel_rfl) (of_decide_eq_true (by kernel_rfl)) k1 bel lt1) trodAll_mk0)), rfl, bel.frame _, fun h => by cases h⟩

theorem over : Rows.headFieldsRow.holds Tryz.pinned (OpenSpec.ofChange Rows.headFieldsSpec) :=
  OpenClaim.holds_of_wide 7 Tryz.f7 rfl rfl rfl rfl rfl rfl rfl ⟨rfl, rfl, rfl, rfl, rfl⟩ rfl rfl rfl rfl rfl (by kernel_rfl) Tryz.func7 (by kernel_rfl)
    (of_decide_eq_true (by kernel_rfl)) (by unfold Func.isWrapper; first | (rw [if_pos (by decide +kernel)]; kernel_rfl) | (rw [if_neg (by decide +kernel)]; exact ⟨rfl, rfl⟩))
    (fun os started H enc _ => lifted os started H enc)

theorem said : Rows.HeadFieldsSaid := over
theorem plain (f : FuncId) (fn : Func) (hf : Tryz.pinned.checked.prog.funcNamed "usher/usherlaw13.HeadFields" = some f) (hfn : Tryz.pinned.checked.prog.funcs[f]? = some fn) :
    false = Tryz.pinned.checked.prog.looks [] ∧ ∀ (j : Nat) t, fn.params[j]? = some t → Tryz.pinned.checked.prog.wantsStandIn t = false := by
  obtain rfl : f = 7 := Option.some.inj ((show Tryz.prog.funcNamed "usher/usherlaw13.HeadFields" = some 7 by kernel_rfl).symm.trans hf) |>.symm
  obtain rfl : fn = Tryz.f7 := (Option.some.inj (Tryz.func7.symm.trans hfn)).symm
  refine ⟨by kernel_rfl, fun j t ht => ?_⟩
  rw [Tryz.params7] at ht
  have hm : t ∈ [4, 29] := by simpa using Array.mem_of_getElem? ht
  simp only [List.mem_cons, List.mem_nil_iff, or_false] at hm
  rcases hm with rfl | rfl
  · exact (show Tryz.prog.wantsStandIn 4 = false by kernel_rfl)
  · exact (show Tryz.prog.wantsStandIn 29 = false by kernel_rfl)
theorem proved : Rows.HeadFieldsCardSaid :=
  Claim7.holds_tied_plain_at .later [] _ _ _ _ said (fun _ h => by cases h) (by kernel_rfl) (fun _ h => by cases h) headFields_row_tie rfl ⟨rfl, rfl⟩ (by kernel_rfl) rfl plain (by kernel_rfl)
end Go.Proofs.YtjoineomkdiekaaGreatDoor.headFields
