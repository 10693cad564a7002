/- A byte, bytes, of the code's reader; New, Body and Trailers. Conditions: rows of at most a million bytes. -/
import Derived.Test.YtdalomhcglbhjaaGreatDoorMQC
import Derived.Test.YtdalomhcglbhjaaGreatDoorMQA
import Derived.BigQuiet
import Derived.Test.YtdalomhcglbhjaaGreatDoorSame
import Derived.Test.YtdalomhcglbhjaaGreatDoorMQB
import Derived.Test.YtdalomhcglbhjaaGreatDoorRows
import Derived.LaidSub
import Derived.Lib.LaidTab
namespace Go.Proofs.YtdalomhcglbhjaaGreatDoor
open Go.RowKit
set_option linter.unusedVariables false
set_option linter.unusedSimpArgs false

theorem one_1 {r : ChP} {x : UInt8} (h : r.state = 1) : oneP r x = dataP r x := by unfold oneP; rw [if_pos h]
theorem one_2 {r : ChP} {x : UInt8} (h : r.state = 2) : oneP r x = crlfP r x := by unfold oneP; rw [if_neg (by omega), if_pos h]
theorem one_end {r : ChP} (h : r.state = 0 ∨ r.state = 3) : oneP r 10 = endP r := by unfold oneP; rw [if_neg (by omega), if_neg (by omega), if_pos rfl]
theorem one_grow {r : ChP} {x : UInt8} (h : r.state = 0 ∨ r.state = 3) (hx : x ≠ 10) : oneP r x = growP r x := by unfold oneP; rw [if_neg (by omega), if_neg (by omega), if_neg hx]
theorem lf_1 {r : ChP} (h : r.state = 1) : lfC r = r.left + 1 + 1 := by unfold lfC; rw [if_pos h]
theorem lf_2a {r : ChP} (h : r.state = 2) (hl : r.line = []) : lfC r = 1 + 1 := by unfold lfC; rw [if_neg (by omega), if_pos h, if_pos hl]
theorem lf_2b {r : ChP} (h : r.state = 2) (hl : r.line = [13]) : lfC r = 0 + 1 := by unfold lfC; rw [if_neg (by omega), if_pos h, if_neg (by rw [hl]; simp)]
theorem lf_0 {r : ChP} (h : r.state = 0 ∨ r.state = 3) : lfC r = 0 := by unfold lfC; rw [if_neg (by omega), if_neg (by omega)]
theorem ln_12 {r : ChP} (h : r.state = 1 ∨ r.state = 2) : lnC r = [] := by unfold lnC; rw [if_pos h]
theorem ln_03 {r : ChP} (h : r.state = 0 ∨ r.state = 3) : lnC r = r.line := by unfold lnC; rw [if_neg (by omega)]
theorem la_no {r : ChP} (h : r.state ≠ 3) : laC r = false := by unfold laC; exact decide_eq_false h
theorem data_rel {r : ChP} (x : UInt8) (o : ChOk r) (h : r.state = 1) : RelC (dataP r x) [] (r.left + 1) false r.ends := fun _ => by
  have h1 := o.room h
  have hs : (dataP r x).state = 1 ∨ (dataP r x).state = 2 := by
    show (if r.left = 1 then 2 else 1) = 1 ∨ (if r.left = 1 then 2 else 1) = 2
    split <;> simp
  refine ⟨(ln_12 hs).symm, ?_, (la_no (by omega)).symm, rfl⟩
  by_cases h2 : r.left = 1
  · have e : (dataP r x).state = 2 := by show (if r.left = 1 then 2 else 1) = 2; rw [if_pos h2]
    have e2 : (dataP r x).line = [] := by show (if r.left = 1 then [] else r.line) = []; rw [if_pos h2]
    rw [lf_2a e e2, h2]
  · have e : (dataP r x).state = 1 := by show (if r.left = 1 then 2 else 1) = 1; rw [if_neg h2]
    rw [lf_1 e]; show r.left + 1 = r.left - 1 + 1 + 1; omega
set_option maxRecDepth 10000 in
set_option maxHeartbeats 2000000 in
theorem take_c {g : Nat} {vl vb vt : Value} {w : World} {r : ChP} (c : CkC g vl vb vt w (lnC r) (lfC r) (laC r) r.ends r.body r.trail false 0) (o : ChOk r) (hw : r.whole = false) (hst : r.status = 0) (x : UInt8) {r' : ChP} (hr : oneP r x = r') :
    Calls Tryz.prog 17 #[ptr g, .int .u8 (x.toNat : Int)] w fun z w' => z = .returned (.int .i64 r'.status) ∧ Hid (TookC g vl vb vt w r' w') := by
  have hst3 := o.st
  have hc1 : w.cell? ⟨g, 1, none⟩ = some (.int .i64 (lfC r : Nat)) := (CkC.facts c).2.1
  rcases (by omega : r.state = 1 ∨ r.state = 2 ∨ (r.state = 0 ∨ r.state = 3)) with h1 | h2 | h03
  · have hrm := o.room h1
    have hbd := o.body
    rw [lf_1 h1] at c hc1
    rw [ln_12 (.inl h1), la_no (by omega)] at c
    have HT := Lib.hid (ofchunk_d x c (by omega) (by omega) (by omega))
    have HE := Lib.hid (show dataP r x = r' by rw [← one_1 h1]; exact hr)
    have HRL := Lib.hid (data_rel x o h1)
    have HF := Lib.hid (And.intro hw hst)
    unfold ptr at HT ⊢
    have hpos : (0 : Int) < ((r.left + 1 + 1 : Nat) : Int) := by omega
    clear c o hr hw hst hst3 h1 hrm hbd
    generalize ((r.left + 1 + 1 : Nat) : Int) = z1 at *
    go_enter Tryz.func17, Tryz.ntmps17
    go_wp2_with (go_at_call 26; refine HT.out.mono ?_; rintro z w2 ⟨rfl, hk⟩; have HK := Lib.hid hk.out; clear hk)
    go_ret
    obtain ⟨u, k, hg⟩ := HK.out
    refine ⟨by rw [← HE.out]; show _ = Ending.returned (.int .i64 r.status); rw [HF.out.2]; rfl, Lib.hid ?_⟩
    rw [← HE.out]
    exact ⟨vl, u, vt, [], r.left + 1, false, r.ends, (show CkC g vl u vt w2 [] (r.left + 1) false r.ends (r.body ++ [x]) r.trail r.whole 0 from by rw [HF.out.1]; exact k), HRL.out, hg⟩
  · rcases o.crlf h2 with hl | hl
    · rw [lf_2a h2 hl] at c hc1
      rw [ln_12 (.inr h2), la_no (by omega)] at c
      have HE := Lib.hid (show (if x = 13 then { r with line := [13] } else { r with status := 400 } : ChP) = r' by rw [← hr, one_2 h2]; unfold crlfP; rw [if_pos hl])
      have HT := Lib.hid (ofchunk_e x c (.inr rfl) (z := r'.status) (by rw [← HE.out, if_neg (show ¬ (1 : Nat) = 0 by decide)]; by_cases h : x = 13
                                                                        · rw [if_pos h, if_pos h]; exact hst.symm
                                                                        · rw [if_neg h, if_neg h]))
      have HF := Lib.hid (And.intro hw (And.intro hst (And.intro h2 hl)))
      unfold ptr at HT ⊢
      clear c o hr hw hst hst3 h2 hl
      go_enter Tryz.func17, Tryz.ntmps17
      go_wp2_with (go_at_call 26; refine HT.out.mono ?_; rintro z w2 ⟨rfl, hk⟩; have HK := Lib.hid hk.out; clear hk)
      go_ret
      refine ⟨rfl, Lib.hid ?_⟩
      rw [← HE.out]
      by_cases h : x = 13
      · rw [if_pos h]
        exact ⟨vl, vb, vt, [], 1, false, r.ends, (show CkC g vl vb vt w2 [] 1 false r.ends r.body r.trail r.whole 0 from by rw [HF.out.1]; exact HK.out.1), fun _ => ⟨(ln_12 (r := { r with line := [13] }) (.inr HF.out.2.2.1)).symm, (lf_2b (r := { r with line := [13] }) HF.out.2.2.1 rfl).symm, (la_no (by show r.state ≠ 3; have := HF.out.2.2.1; omega)).symm, rfl⟩, HK.out.2⟩
      · rw [if_neg h]
        exact ⟨vl, vb, vt, [], 1, false, r.ends, (show CkC g vl vb vt w2 [] 1 false r.ends r.body r.trail r.whole 0 from by rw [HF.out.1]; exact HK.out.1), fun h => absurd (done_no h).2 (by show ¬ (400 : Int) = 0; decide), HK.out.2⟩
    · rw [lf_2b h2 hl] at c hc1
      rw [ln_12 (.inr h2), la_no (by omega)] at c
      have HE := Lib.hid (show (if x = 10 then { r with line := [], state := 0 } else { r with status := 400 } : ChP) = r' by rw [← hr, one_2 h2]; unfold crlfP; rw [if_neg (show ¬ r.line = [] by rw [hl]; simp)])
      have HT := Lib.hid (ofchunk_e x c (.inl rfl) (z := r'.status) (by rw [← HE.out, if_pos rfl]; by_cases h : x = 10
                                                                        · rw [if_pos h, if_pos h]; exact hst.symm
                                                                        · rw [if_neg h, if_neg h]))
      have HF := Lib.hid (And.intro hw (And.intro hst (And.intro h2 hl)))
      unfold ptr at HT ⊢
      clear c o hr hw hst hst3 h2 hl
      go_enter Tryz.func17, Tryz.ntmps17
      go_wp2_with (go_at_call 26; refine HT.out.mono ?_; rintro z w2 ⟨rfl, hk⟩; have HK := Lib.hid hk.out; clear hk)
      go_ret
      refine ⟨rfl, Lib.hid ?_⟩
      rw [← HE.out]
      by_cases h : x = 10
      · rw [if_pos h]
        exact ⟨vl, vb, vt, [], 0, false, r.ends, (show CkC g vl vb vt w2 [] 0 false r.ends r.body r.trail r.whole 0 from by rw [HF.out.1]; exact HK.out.1), fun _ => ⟨(ln_03 (r := { r with line := [], state := 0 }) (.inl rfl)).symm, (lf_0 (r := { r with line := [], state := 0 }) (.inl rfl)).symm, (la_no (by show (0 : Nat) ≠ 3; decide)).symm, rfl⟩, HK.out.2⟩
      · rw [if_neg h]
        exact ⟨vl, vb, vt, [], 0, false, r.ends, (show CkC g vl vb vt w2 [] 0 false r.ends r.body r.trail r.whole 0 from by rw [HF.out.1]; exact HK.out.1), fun h => absurd (done_no h).2 (by show ¬ (400 : Int) = 0; decide), HK.out.2⟩
  · rw [lf_0 h03] at c hc1
    rw [ln_03 h03] at c
    have hlen := o.line
    rcases is14 x 10 10 rfl (by decide) with ⟨ex, hx, -⟩ | ⟨ex, hx, -⟩
    · have HT := Lib.hid (endline_c c o h03 hw hst (r' := r') (by rw [← hr, ex]; exact (one_end h03).symm))
      unfold ptr at HT ⊢
      clear c o hr hw hst hst3 h03 ex hlen
      go_enter Tryz.func17, Tryz.ntmps17
      go_wp2_with (go_at_call 27; refine HT.out.mono ?_; rintro z w2 ⟨rfl, hk⟩; have HK := Lib.hid hk.out; clear hk)
      go_ret
      exact ⟨rfl, HK⟩
    · have hx10 : x ≠ 10 := ex
      have hgr := grow_wg (c := x) hst h03
      rw [← one_grow h03 hx10, hr] at hgr
      have HGR := Lib.hid hgr
      obtain ⟨A, cp, rfl, -, -⟩ := c.line.form
      have c0 : w.cell? ⟨g, 0, none⟩ = some (.slice A r.line.length cp) := (CkC.facts c).1
      obtain ⟨b, c', w4, hrun, hrow, hm, hb⟩ := app_row c.line (by omega) x
      have hng : g ∉ (Value.slice A r.line.length cp).ownBlock.toList := fun hk => c.ne_l (by decide) g hk rfl
      have r4 := c.row.mods hm hng
      have e0 : w4.cell? ⟨g, 0, none⟩ = some (.slice A r.line.length cp) := r4.cell 0
      have g0 := r4.free 0
      have hput := c.putL (cs' := ckCells 0 (laC r) r.ends false 0) hrow hm (fun k hk => by
        have hkb : k = b := by simpa [Value.ownBlock, eq_comm] using hk
        subst hkb
        rcases hb with h | h
        · exact .inl (by rw [← h]; simp)
        · exact .inr h) 0 rfl
      have HP := Lib.hid hput
      have he := o.ends
      obtain ⟨W, hW⟩ : ∃ W, W = w4.setCell ⟨g, 0, none⟩ (.slice (some ⟨b, 0, none⟩) (r.line.length + 1) c') := ⟨_, rfl⟩
      have HWG := Lib.hid (weigh_c hput.1 (by rw [List.length_append]; simp; omega) (by omega))
      rw [← hW] at HP HWG
      have HF := Lib.hid (And.intro hw (And.intro hst h03))
      rw [← hgr.1] at HWG
      unfold ptr at HWG ⊢
      clear c o hr hw hst hst3 h03 ex hlen hgr hrow hm hb hng r4 hput he hx10
      go_enter Tryz.func17, Tryz.ntmps17
      go_upto_region 6 with (at_builtin; refine wpList_run_app2 rfl (.tmp 23) (.tmp 25) 22 22 rfl rfl rfl hrun ?_)
      rw [← hW]
      clear hW hrun e0 g0 c0 hc1
      go_wp2_with (go_at_call 28; refine HWG.out.mono ?_; rintro z w2 ⟨rfl, hm⟩; have M2 := Lib.hid hm; clear hm)
      go_ret
      obtain ⟨-, q2, q3, q4, q5⟩ := HGR.out
      have k := HP.out.1.low M2.out
      refine ⟨rfl, Lib.hid ⟨_, vb, vt, _, 0, laC r, r.ends, (show CkC g _ vb vt w2 _ 0 (laC r) r.ends r'.body r'.trail r'.whole 0 from by rw [q2, q3, q4, HF.out.1]; exact k), fun h => ?_, HP.out.2.low M2.out⟩⟩
      have q := q5 (done_no h).2
      rw [q]
      exact ⟨(ln_03 (r := { r with line := r.line ++ [x] }) HF.out.2.2).symm, (lf_0 (r := { r with line := r.line ++ [x] }) HF.out.2.2).symm, rfl, rfl⟩
/-- What Feed leaves: the reader, what has turned. -/
def FedC (F : List Nat) (w : World) (g : Nat) (r : ChP) (w' : World) : Prop := ∃ F', CkA F' w' g r ∧ Grew F F' w w'
theorem FedC.low {F : List Nat} {w w' w2 : World} {g : Nat} {r : ChP} (h : FedC F w g r w') (hm : Mods [] w' w2) : FedC F w g r w2 := by
  obtain ⟨F', a, hg⟩ := h
  exact ⟨F', a.low hm, hg.low hm⟩
/-- The first k bytes were taken. -/
def Fed (r : ChP) (l : List UInt8) (k : Nat) (r1 : ChP) : Prop := feedP r (l.take k) = (r1, k)
theorem Fed.start (r : ChP) (l : List UInt8) : Fed r l 0 r := by unfold Fed; rw [List.take_zero]; rfl
theorem Fed.next {r r1 : ChP} {l : List UInt8} {k : Nat} (h : Fed r l k r1) (hk : k < l.length) (hd : doneC r1 = false) : Fed r l (k + 1) (oneP r1 l[k]) := by
  unfold Fed at *
  rw [List.take_succ_eq_append_getElem hk, feed_app, h]
  show ((feedP r1 [l[k]]).1, k + (feedP r1 [l[k]]).2) = _
  rw [feed_cons hd, feed_nil]
theorem Fed.stop {r r1 : ChP} {l : List UInt8} {k : Nat} (h : Fed r l k r1) (hd : doneC r1 = true ∨ l.length ≤ k) : feedP r l = (r1, k) := by
  unfold Fed at h
  rcases hd with hd | hd
  · have e := feed_app (l.take k) (l.drop k) r
    rw [List.take_append_drop, h] at e
    rw [e]
    show ((feedP r1 (l.drop k)).1, k + (feedP r1 (l.drop k)).2) = _
    rw [feed_done hd]; rfl
  · rw [List.take_of_length_le hd] at h; exact h
theorem Fed.ok {r r1 : ChP} {l : List UInt8} {k : Nat} (h : Fed r l k r1) (o : ChOk r) : ChOk r1 := by
  have := ChOk.feed (l.take k) o
  unfold Fed at h
  rw [h] at this; exact this
theorem TookC.fed {g : Nat} {vl vb vt : Value} {w w' : World} {r : ChP} (t : TookC g vl vb vt w r w') (o : ChOk r) : FedC (rdb g vl vb vt) w g r (w'.setCell ⟨g, 7, none⟩ (.int .i64 r.status)) := by
  obtain ⟨ul, ub, ut, L, left, last, e, c, hr, hg⟩ := t
  exact ⟨rdb g ul ub ut, ⟨⟨ul, ub, ut, L, left, last, e, c.set 7 (.int .i64 r.status) rfl, rfl, hr⟩, o⟩, hg.trans (c.set_grew 7 _)⟩
set_option maxRecDepth 10000 in
set_option maxHeartbeats 2000000 in
theorem feed_c {F : List Nat} {w : World} {g : Nat} {r : ChP} (p : Value) (l : List UInt8) (hp : BsAt w p l) (hF : 0 < l.length → ∀ k ∈ p.ownBlock.toList, k ∉ F) (a : CkA F w g r) (hl : l.length ≤ 1000000) :
    Calls Tryz.prog 7 #[ptr g, p] w fun z w' => z = .returned (.tuple #[.int .i64 ((feedP r l).2 : Nat), .bool (feedP r l).1.whole, .int .i64 (feedP r l).1.status]) ∧ Hid (FedC F w g (feedP r l).1 w') := by
  have HP := Lib.hid hp
  have HFF := Lib.hid hF
  have OK := Lib.hid a.ok
  have HA := Lib.hid (show FedC F w g r w from ⟨F, a, Grew.refl F w⟩)
  obtain ⟨A, c, rfl⟩ := hp.len
  clear hp hF a
  unfold ptr
  go_enter Tryz.func7, Tryz.ntmps7
  go_wp2
  go_loopw [4] (fun n wr => ∃ (k : Nat) (r1 : ChP), k ≤ l.length ∧ n = .int .i64 k ∧ Hid (Fed r l k r1) ∧ Hid (FedC F w g r1 wr)) (fun n _ => l.length - (intOf n).toNat)
  case atStart => exact ⟨0, r, Nat.zero_le _, rfl, Lib.hid (Fed.start r l), HA⟩
  case round =>
    obtain ⟨k, r1, hk, rfl, HFD, HC⟩ := hrel
    clear HA
    have HO := Lib.hid (HFD.out.ok OK.out)
    obtain ⟨F1, a1, hg1⟩ := HC.out
    obtain ⟨vl, vb, vt, L, left, last, e, cc, hF1, hz⟩ := a1.ex
    have d6 : wr.cell? ⟨g, 6, none⟩ = some (.bool r1.whole) := (CkC.facts cc).2.2.2.2.2.2.1
    have d7 : wr.cell? ⟨g, 7, none⟩ = some (.int .i64 r1.status) := (CkC.facts cc).2.2.2.2.2.2.2
    by_cases hstop : doneC r1 = true ∨ l.length ≤ k
    · have HE := Lib.hid (HFD.out.stop hstop)
      have hcase : l.length ≤ k ∨ (k < l.length ∧ (r1.whole = true ∨ (r1.whole = false ∧ (r1.status == 0) = false))) := by
        rcases (by omega : l.length ≤ k ∨ k < l.length) with h | h
        · exact .inl h
        · refine .inr ⟨h, ?_⟩
          have hd := hstop.resolve_right (by omega)
          unfold doneC at hd
          cases hw : r1.whole with
          | true => exact .inl rfl
          | false =>
            rw [hw, Bool.false_or] at hd
            exact .inr ⟨rfl, by rw [beq_eq_false_iff_ne]; exact of_decide_eq_true hd⟩
      clear hstop a1 hg1 cc hF1 hz
      obtain ⟨bw, hbw⟩ : ∃ bw, bw = r1.whole := ⟨_, rfl⟩
      obtain ⟨bs, hbs⟩ : ∃ bs, bs = r1.status := ⟨_, rfl⟩
      rw [← hbw] at d6 hcase
      rw [← hbs] at d7 hcase
      have HBW := Lib.hid hbw.symm
      have HBS := Lib.hid hbs.symm
      clear hbw hbs
      rcases hcase with h | ⟨h, rfl | ⟨rfl, h2⟩⟩
      · obtain rfl : k = l.length := by omega
        go_upto_region 6 with fail
        go_quiet (fail)
        go_wp2
        go_ret3
        exact ⟨by rw [HE.out, ← HBW.out, ← HBS.out]; rfl, Lib.hid (by rw [HE.out]; exact HC.out.low ((Mods.refl _ _).drewN _))⟩
      · go_upto_region 6 with fail
        go_quiet (fail)
        go_wp2
        go_ret3
        exact ⟨by rw [HE.out, HBW.out, ← HBS.out]; rfl, Lib.hid (by rw [HE.out]; exact HC.out.low ((Mods.refl _ _).drewN _))⟩
      · go_upto_region 6 with fail
        go_quiet (fail)
        go_wp2
        go_ret3
        exact ⟨by rw [HE.out, HBW.out, ← HBS.out]; rfl, Lib.hid (by rw [HE.out]; exact HC.out.low ((Mods.refl _ _).drewN _))⟩
    · rw [not_or] at hstop
      have hd : doneC r1 = false := by simpa using hstop.1
      obtain ⟨h1, h2⟩ := done_no hd
      have hlt : k < l.length := by omega
      obtain ⟨rfl, rfl, rfl, rfl⟩ := hz hd
      rw [h1] at d6
      rw [h2] at d7
      rw [h1, h2] at cc
      obtain ⟨b, off, cap, hv, hb, hcell⟩ : ∃ b off cap, A = some ⟨b, off, none⟩ ∧ cap = c ∧ wr.cell? ⟨b, off + k, none⟩ = some (.int .u8 (l[k].toNat : Int)) := by
        rcases HP.out with ⟨e, _⟩ | ⟨b, off, cap, hv, _, hbl, _, _, hc⟩
        · rw [e] at hlt; simp at hlt
        · injection hv with e1 e2 e3
          subst e1
          exact ⟨b, off, cap, rfl, e3.symm, cell_mods (hc k hlt) hg1.mods (HFF.out (by omega) b (by simp [Value.ownBlock]))⟩
      subst hv
      have HT := Lib.hid (take_c cc a1.ok h1 h2 l[k] rfl)
      have HN := Lib.hid (HFD.out.next hlt hd)
      have HG1 := Lib.hid hg1
      have HO2 := Lib.hid (a1.ok.one l[k])
      have f7 := cc.row.free 7
      have HF1 := Lib.hid hF1
      clear hstop hd h1 h2 a1 hg1 cc hF1 hz hb HC
      obtain ⟨x, hx⟩ : ∃ x, x = l[k] := ⟨_, rfl⟩
      rw [← hx] at HT HN HO2 hcell
      clear hx
      obtain ⟨r2, hr2⟩ : ∃ r2, r2 = oneP r1 x := ⟨_, rfl⟩
      rw [← hr2] at HT HN HO2
      clear hr2
      unfold ptr at HT
      go_wp2_with (go_at_call 17; refine HT.out.mono ?_; rintro z w2 ⟨rfl, hk2⟩; have HK := Lib.hid hk2.out; obtain ⟨e7, g7⟩ : (∃ u, w2.cell? ⟨g, 7, none⟩ = some u) ∧ w2.frozen? ⟨g, 7, none⟩ = false := (by obtain ⟨_, _, _, _, _, _, _, q, _, _⟩ := hk2.out; exact ⟨⟨_, (CkC.facts q).2.2.2.2.2.2.2⟩, q.row.free 7⟩); obtain ⟨u7, e7⟩ := e7; clear hk2)
      go_roundw
      case rel =>
        refine ⟨k + 1, r2, by omega, by go_num, HN, Lib.hid ?_⟩
        obtain ⟨F3, a3, hg3⟩ := HK.out.fed HO2.out
        rw [HF1.out] at HG1
        exact ⟨F3, a3, HG1.out.trans hg3⟩
      case measure => simp [intOf]; omega
theorem feed_cnil (p : Value) (l : List UInt8) (w : World) (hp : BsAt w p l) :
    Calls Tryz.prog 7 #[.pointer none, p] w fun z w' => z = .returned (.tuple #[.int .i64 0, .bool false, .int .i64 0]) ∧ w = w' := by
  obtain ⟨A, c, rfl⟩ := hp.len
  clear hp
  go_enter Tryz.func7, Tryz.ntmps7
  go_wp2
  go_ret3
  exact ⟨rfl, rfl⟩
set_option maxRecDepth 10000 in
theorem new_c (w : World) : Calls Tryz.prog 5 #[] w fun z w' => ∃ g F, z = .returned (ptr g) ∧ Hid (CkA F w' g newC ∧ Mods [] w w' ∧ ∀ k ∈ F, w.heap.size ≤ k) := by
  have HC := Lib.hid (show CkA [w.heap.size] (w.alloc (.cells (ckCells 0 false 0 false 0 (.slice none 0 0) (.slice none 0 0) (.slice none 0 0)) 44)) w.heap.size newC from
    ⟨⟨.slice none 0 0, .slice none 0 0, .slice none 0 0, [], 0, false, 0, ⟨Row.new _ _ _, BRow.nil _, BRow.nil _, World.ownsRow_nil _ _ _ _, fun k hk => by simp [Value.ownBlock] at hk⟩, rfl, fun _ => ⟨rfl, rfl, rfl, rfl⟩⟩, newC_ok⟩)
  have HM := Lib.hid ((Mods.refl [] w).alloc (.cells (ckCells 0 false 0 false 0 (.slice none 0 0) (.slice none 0 0) (.slice none 0 0)) 44))
  unfold ckCells at HC HM
  unfold ptr
  go_enter Tryz.func5, Tryz.ntmps5
  go_wp2
  go_ret
  exact ⟨_, _, rfl, Lib.hid ⟨HC.out, HM.out, fun k hk => by rw [List.mem_singleton] at hk; omega⟩⟩
set_option maxRecDepth 10000 in
theorem body_c {F : List Nat} {w : World} {g : Nat} {r : ChP} (a : CkA F w g r) : Calls Tryz.prog 10 #[ptr g] w fun z w' => ∃ u, z = .returned u ∧ Hid (GB w r.body u w') := by
  obtain ⟨vl, vb, vt, L, left, last, e, c, rfl, hz⟩ := a.ex
  have hb := a.ok.body
  have HC := Lib.hid (clone_b r.body vb w c.body.at (by omega))
  have d2 : w.cell? ⟨g, 2, none⟩ = some vb := (CkC.facts c).2.2.1
  clear a c hz hb
  unfold ptr
  go_enter Tryz.func10, Tryz.ntmps10
  go_wp2_with (go_at_call 19; refine HC.out.mono ?_; rintro z w1 ⟨u, rfl, hk⟩; have HK := Lib.hid hk.out; clear hk)
  go_ret
  exact ⟨_, rfl, HK⟩
theorem body_nil (w : World) : Calls Tryz.prog 10 #[.pointer none] w fun z w' => z = .returned (.slice none 0 0) ∧ w = w' := by
  go_enter Tryz.func10, Tryz.ntmps10
  go_wp2
  go_ret
  exact ⟨rfl, rfl⟩
set_option maxRecDepth 10000 in
theorem trailers_c {F : List Nat} {w : World} {g : Nat} {r : ChP} (a : CkA F w g r) (hok : ∀ p ∈ r.trail, okF p = true) : Calls Tryz.prog 12 #[ptr g] w fun z w' => ∃ B, z = .returned (.slice (some ⟨B, 0, none⟩) r.trail.length r.trail.length) ∧ Hid (Gt w 40 2 r.trail.length (encF r.trail) (.slice (some ⟨B, 0, none⟩) r.trail.length r.trail.length) w') := by
  obtain ⟨vl, vb, vt, L, left, last, e, c, rfl, hz⟩ := a.ex
  have h8 := a.ok.len
  have hsm : Small r.trail := fun p hp => by have := a.ok.small p hp; exact ⟨by omega, by omega⟩
  have HO := Lib.hid (of_a vt r.trail w (FsAt.of_row c.trail) (by omega) hsm)
  have hall : addF [] r.trail = r.trail := by
    rw [addF_nil, addR_end (fun j hj _ => hok _ (List.getElem_mem hj)) (by omega), List.take_length]
  rw [hall] at HO
  have d5 : w.cell? ⟨g, 5, none⟩ = some vt := (CkC.facts c).2.2.2.2.2.1
  clear a c hz h8 hsm hall hok
  unfold ptr at *
  go_enter Tryz.func12, Tryz.ntmps12
  go_wp2_with (first
    | (go_at_call 20; refine HO.out.mono ?_; rintro z w1 ⟨g1, u1, rfl, hm⟩; have HM := Lib.hid hm; have HA := Lib.hid (all_a w1 hm.fld); unfold ptr at HA; clear hm)
    | (go_at_call 21; refine HA.out.mono ?_; rintro z w2 ⟨B, rfl, hg⟩; have HG := Lib.hid hg; clear hg))
  go_ret
  exact ⟨B, rfl, Lib.hid ⟨own_base (w' := w2) HG.out.row HM.out.mods.size, HM.out.mods.trans HG.out.low (fun _ h => nomatch h)⟩⟩
theorem trailers_nil (w : World) : Calls Tryz.prog 12 #[.pointer none] w fun z w' => z = .returned (.slice none 0 0) ∧ w = w' := by
  go_enter Tryz.func12, Tryz.ntmps12
  go_wp2
  go_ret
  exact ⟨rfl, rfl⟩
end Go.Proofs.YtdalomhcglbhjaaGreatDoor

/- What stage 14's laws compare with, and the body that they know. Conditions: rows of at most a million bytes; the library's table of bits is laid. -/
namespace Go.Proofs.YtdalomhcglbhjaaGreatDoor
open Go.RowKit
set_option linter.unusedVariables false
set_option linter.unusedSimpArgs false

theorem Drawn.mods {w w' : World} (h : Drawn w w') : Mods [] w w' := by obtain ⟨n, rfl⟩ := h; exact (Mods.refl [] w).drewN n
theorem byte_eq14 {a b : UInt8} (h : a = b) : ((a.toNat : Int) != (b.toNat : Int)) = false := by rw [h]; simp
theorem byte_ne14 {a b : UInt8} (h : a ≠ b) : ((a.toNat : Int) != (b.toNat : Int)) = true := by
  simp only [bne, Bool.not_eq_true', beq_eq_false_iff_ne]
  intro e
  exact h (UInt8.toNat_inj.1 (by omega))
/-- The table, out of what a card ties. -/
def debruijn64 : List Int := [0, 1, 56, 2, 57, 49, 28, 3, 61, 58, 42, 50, 38, 29, 17, 4, 62, 47, 59, 36, 45, 43, 51, 22, 53, 39, 33, 30, 24, 18, 12, 5, 63, 55, 48, 27, 60, 41, 37, 16, 46, 35, 44, 21, 52, 32, 23, 11, 54, 26, 40, 15, 34, 20, 31, 10, 25, 14, 19, 9, 13, 8, 7, 6]
theorem tz_data : (Rows.laid_math_bits_deBruijn64tab : DataW Unit) = Lib.tabData .u8 debruijn64 := by kernel_rfl
theorem gTz : Tryz.prog.globalNamed "math/bits.deBruijn64tab" = some 2 := by kernel_rfl
theorem tz_of14 {W : World} {L : List (String × DataW Unit)} (hL : laidMet Tryz.prog L W) (hf : L.filter (fun x => x.1 == "math/bits.deBruijn64tab") = [("math/bits.deBruijn64tab", Rows.laid_math_bits_deBruijn64tab)]) : Tz W := by
  have h1 := hL.filter (fun x => x.1 == "math/bits.deBruijn64tab")
  rw [hf, tz_data] at h1
  have h2 := Lib.tabIs_of_head (rest := []) gTz (by kernel_rfl) Tryz.underlying122 Tryz.underlying5 (by kernel_rfl) (by kernel_rfl) h1
  exact h2.cell gTz 15 (by decide)
set_option maxRecDepth 10000 in
set_option maxHeartbeats 1000000 in
theorem same_l14 (A B : List UInt8) (va vb : Value) (w : World) (ha : BsAt w va A) (hb : BsAt w vb B) {r : Bool} (hr : decide (A = B) = r) :
    Calls Tryz.prog 9 #[va, vb] w fun e w' => e = .returned (.bool r) ∧ Drawn w w' := by
  by_cases hl : A.length = B.length
  · have h1 : ((A.length : Int) != (B.length : Int)) = false := by simp [hl]
    by_cases h0 : A.length = 0
    · obtain rfl : A = [] := List.eq_nil_of_length_eq_zero h0
      obtain rfl : B = [] := List.eq_nil_of_length_eq_zero (by rw [← hl]; rfl)
      obtain rfl : true = r := by rw [← hr]; rfl
      obtain ⟨a, ca, rfl⟩ := ha.len
      obtain ⟨b, cb, rfl⟩ := hb.len
      clear ha hb hr
      go_enter Tryz.func9, Tryz.ntmps9
      go_wp2
      refine wp_loop_rounds 1 ?_
      rw [rounds_succ]
      go_wp2
      go_ret
      exact ⟨rfl, Drawn.refl _⟩
    · rcases ha with ⟨rfl, _⟩ | ⟨b1, o1, c1, rfl, -, hb1, hcap1, hmx1, hc1⟩
      · exact absurd rfl h0
      rcases hb with ⟨rfl, _⟩ | ⟨b2, o2, c2, rfl, -, hb2, hcap2, hmx2, hc2⟩
      · exact absurd hl h0
      have HL := Lib.hid hl
      have HRR := Lib.hid hr
      have hl2 : A.length ≤ B.length := by omega
      clear hl h0 hr
      have HC1 := Lib.hid hc1
      have HC2 := Lib.hid hc2
      clear hc1 hc2
      go_enter Tryz.func9, Tryz.ntmps9
      go_wp2
      go_loopw [5] (fun i wr => ∃ (k : Nat), k ≤ A.length ∧ i = .int .i64 k ∧ Drawn w wr ∧ ∀ j (h : j < A.length) (h2 : j < B.length), j < k → A[j] = B[j]) (fun i _ => A.length - (intOf i).toNat)
      case atStart => exact ⟨0, Nat.zero_le _, rfl, Drawn.refl _, fun j _ _ h => absurd h (by omega)⟩
      case round =>
        obtain ⟨k, hk, rfl, hd, hall⟩ := hrel
        have HA := Lib.hid hall
        clear hall
        by_cases hlt : k < A.length
        · have hlt2 : k < B.length := by omega
          have e1 : wr.cell? ⟨b1, o1 + k, none⟩ = some (.int .u8 (A[k].toNat : Int)) := by obtain ⟨m, rfl⟩ := hd; exact HC1.out k hlt
          have e2 : wr.cell? ⟨b2, o2 + k, none⟩ = some (.int .u8 (B[k].toNat : Int)) := by obtain ⟨m, rfl⟩ := hd; exact HC2.out k hlt2
          by_cases he : A[k] = B[k]
          · have hne := byte_eq14 he
            have HE := Lib.hid he
            clear he
            go_wp2
            go_quiet (fail)
            go_wp2
            go_roundw
            case rel =>
              refine ⟨k + 1, by omega, by go_num, hd.more _, fun j h h2 hj => ?_⟩
              by_cases e : j = k
              · subst e; exact HE.out
              · exact HA.out j h h2 (by omega)
            case measure => simp [intOf]; omega
          · have hne := byte_ne14 he
            have HE := Lib.hid (decide_eq_false (show ¬ A = B from fun e => he (by subst e; rfl)))
            clear he
            go_wp2
            go_quiet (fail)
            go_wp2
            go_ret
            exact ⟨by rw [← HRR.out, HE.out]; rfl, hd.more _⟩
        · have HE := Lib.hid (decide_eq_true (show A = B from List.ext_getElem HL.out fun j h h2 => HA.out j h h2 (by omega)))
          go_wp2
          go_ret
          exact ⟨by rw [← HRR.out, HE.out]; rfl, hd⟩
  · have h1 : ((A.length : Int) != (B.length : Int)) = true := by simp; omega
    have HE := Lib.hid (decide_eq_false (show ¬ A = B from fun e => hl (by rw [e])))
    obtain ⟨a, ca, rfl⟩ := ha.len
    obtain ⟨b, cb, rfl⟩ := hb.len
    have HRR := Lib.hid hr
    clear ha hb hl hr
    go_enter Tryz.func9, Tryz.ntmps9
    go_wp2
    go_ret
    exact ⟨by rw [← HRR.out, HE.out]; rfl, Drawn.refl _⟩
set_option maxRecDepth 10000 in
set_option maxHeartbeats 1000000 in
theorem fields_l14 (A B : List FV) (va vb : Value) (w : World) (ha : FsAt w va A) (hb : FsAt w vb B) (hA : A.length ≤ 1000000) (hB : B.length ≤ 1000000) :
    Calls Tryz.prog 11 #[va, vb] w fun e w' => e = .returned (.bool (decide (A = B))) ∧ Drawn w w' := by
  by_cases hl : A.length = B.length
  · have h1 : ((A.length : Int) != (B.length : Int)) = false := by simp [hl]
    by_cases h0 : A.length = 0
    · obtain rfl : A = [] := List.eq_nil_of_length_eq_zero h0
      obtain rfl : B = [] := List.eq_nil_of_length_eq_zero (by rw [← hl]; rfl)
      obtain ⟨a, ca, rfl⟩ := ha.len
      obtain ⟨b, cb, rfl⟩ := hb.len
      clear ha hb
      go_enter Tryz.func11, Tryz.ntmps11
      go_wp2
      refine wp_loop_rounds 1 ?_
      rw [rounds_succ]
      go_wp2
      go_ret
      exact ⟨rfl, Drawn.refl _⟩
    · rcases ha with ⟨rfl, _⟩ | ⟨b1, o1, c1, rfl, -, hb1, hc1⟩
      · exact absurd rfl h0
      rcases hb with ⟨rfl, _⟩ | ⟨b2, o2, c2, rfl, -, hb2, hc2⟩
      · exact absurd hl h0
      have HL := Lib.hid hl
      have hl2 : A.length ≤ B.length := by omega
      clear hl h0
      have HC1 := Lib.hid hc1
      have HC2 := Lib.hid hc2
      clear hc1 hc2
      go_enter Tryz.func11, Tryz.ntmps11
      go_wp2
      go_loopw [5] (fun i wr => ∃ (k : Nat), k ≤ A.length ∧ i = .int .i64 k ∧ Drawn w wr ∧ ∀ j (h : j < A.length) (h2 : j < B.length), j < k → A[j] = B[j]) (fun i _ => A.length - (intOf i).toNat)
      case atStart => exact ⟨0, Nat.zero_le _, rfl, Drawn.refl _, fun j _ _ h => absurd h (by omega)⟩
      case round =>
        obtain ⟨k, hk, rfl, hd, hall⟩ := hrel
        have HA := Lib.hid hall
        clear hall
        by_cases hlt : k < A.length
        · have hlt2 : k < B.length := by omega
          have e1 : wr.cell? ⟨b1, o1 + k * 2, none⟩ = some (.string (A[k].1)) := by obtain ⟨m, rfl⟩ := hd; exact (HC1.out k hlt).1
          have e2 : wr.cell? ⟨b2, o2 + k * 2, none⟩ = some (.string (B[k].1)) := by obtain ⟨m, rfl⟩ := hd; exact (HC2.out k hlt2).1
          have e3 : wr.cell? ⟨b1, o1 + k * 2 + 1, none⟩ = some (.string (A[k].2)) := by obtain ⟨m, rfl⟩ := hd; exact (HC1.out k hlt).2
          have e4 : wr.cell? ⟨b2, o2 + k * 2 + 1, none⟩ = some (.string (B[k].2)) := by obtain ⟨m, rfl⟩ := hd; exact (HC2.out k hlt2).2
          by_cases he : A[k].1 = B[k].1
          · have hne := (bytes_eqB (show A[k].1 = B[k].1 by rw [he])).1
            by_cases he2 : A[k].2 = B[k].2
            · have hne2 := (bytes_eqB (show A[k].2 = B[k].2 by rw [he2])).1
              have HE := Lib.hid (show A[k] = B[k] from Prod.ext he he2)
              clear he he2
              go_wp2
              go_quiet (fail)
              go_wp2
              go_roundw
              case rel =>
                refine ⟨k + 1, by omega, by go_num, hd.more _, fun j h h2 hj => ?_⟩
                by_cases e : j = k
                · subst e; exact HE.out
                · exact HA.out j h h2 (by omega)
              case measure => simp [intOf]; omega
            · have hne2 := (bytes_neB he2).1
              have HE := Lib.hid (decide_eq_false (show ¬ A = B from fun e => he2 (by subst e; rfl)))
              clear he he2
              go_wp2
              go_quiet (fail)
              go_wp2
              go_ret
              exact ⟨by rw [HE.out]; rfl, hd.more _⟩
          · have hne := (bytes_neB he).1
            have HE := Lib.hid (decide_eq_false (show ¬ A = B from fun e => he (by subst e; rfl)))
            clear he
            go_wp2
            go_quiet (fail)
            go_wp2
            go_ret
            exact ⟨by rw [HE.out]; rfl, hd.more _⟩
        · have HE := Lib.hid (decide_eq_true (show A = B from List.ext_getElem HL.out fun j h h2 => HA.out j h h2 (by omega)))
          go_wp2
          go_ret
          exact ⟨by rw [HE.out]; rfl, hd⟩
  · have h1 : ((A.length : Int) != (B.length : Int)) = true := by simp; omega
    have HE := Lib.hid (decide_eq_false (show ¬ A = B from fun e => hl (by rw [e])))
    obtain ⟨a, ca, rfl⟩ := ha.len
    obtain ⟨b, cb, rfl⟩ := hb.len
    clear ha hb hl
    go_enter Tryz.func11, Tryz.ntmps11
    go_wp2
    go_ret
    exact ⟨by rw [HE.out]; rfl, Drawn.refl _⟩
theorem PsAt.two14 (w4 : World) : PsAt ((w4.alloc (.cells #[.int .u8 97] 5 (1, 2))).alloc (.cells #[.slice (some ⟨w4.heap.size, 0, none⟩) 1 1, .slice none 0 0] 22)) (.slice (some ⟨w4.heap.size + 1, 0, none⟩) 2 2) [[97], []] := by
  have hr := Row.new (w4.alloc (.cells #[.int .u8 97] 5 (1, 2))) 22 #[.slice (some ⟨w4.heap.size, 0, none⟩) 1 1, .slice none 0 0]
  rw [World.size_alloc] at hr
  refine .inr ⟨w4.heap.size + 1, 0, 2, rfl, by decide, by simp, fun j hj => ?_⟩
  have hj2 : j = 0 ∨ j = 1 := by simp only [List.length_cons, List.length_nil] at hj; omega
  rcases hj2 with rfl | rfl
  · exact ⟨_, hr.cell 0, (lit_at w4 [97] (1, 2) (by decide) (by decide)).low ((Mods.refl [] _).alloc _)⟩
  · exact ⟨_, hr.cell 1, .inl ⟨rfl, _, _, rfl⟩⟩
set_option maxRecDepth 10000 in
set_option maxHeartbeats 4000000 in
theorem known_14 (w : World) (ht : Tz w) : Calls Tryz.prog 14 #[] w fun z w' => z = .returned (.bool true) ∧ Mods [] w w' := by
  have HN := Lib.hid (new_c w)
  have HT := Lib.hid ht
  clear ht
  obtain ⟨r1, n1, hr1⟩ : ∃ r1 n1, feedP newC knC = (r1, n1) := ⟨_, _, rfl⟩
  obtain ⟨k1, k2, k3, k4⟩ := knC_feed
  rw [hr1] at k1 k2 k3 k4
  simp only at k1 k2 k3 k4
  subst k1
  have HR := Lib.hid hr1
  have HK := Lib.hid (And.intro k2 (And.intro k3 k4))
  clear hr1 k2 k3 k4
  unfold ptr at HN
  go_enter Tryz.func14, Tryz.ntmps14
  go_upto_region 2 with (go_at_call 5; refine HN.out.mono ?_; rintro z w1 ⟨g, F, rfl, hk⟩; have HA := Lib.hid hk.out; clear hk)
  have hcv1 := conv_lit w1 #[.int .u8 51, .int .u8 59, .int .u8 97, .int .u8 61, .int .u8 98, .int .u8 13, .int .u8 10, .int .u8 97, .int .u8 98, .int .u8 99, .int .u8 13, .int .u8 10, .int .u8 48, .int .u8 13, .int .u8 10, .int .u8 13, .int .u8 10, .int .u8 120] 18 18 _ rfl
  have m1 : Mods [] w1 (w1.alloc (.cells #[.int .u8 51, .int .u8 59, .int .u8 97, .int .u8 61, .int .u8 98, .int .u8 13, .int .u8 10, .int .u8 97, .int .u8 98, .int .u8 99, .int .u8 13, .int .u8 10, .int .u8 48, .int .u8 13, .int .u8 10, .int .u8 13, .int .u8 10, .int .u8 120] 5 (18, 19))) := (Mods.refl [] w1).alloc _
  have hbs : BsAt (w1.alloc (.cells #[.int .u8 51, .int .u8 59, .int .u8 97, .int .u8 61, .int .u8 98, .int .u8 13, .int .u8 10, .int .u8 97, .int .u8 98, .int .u8 99, .int .u8 13, .int .u8 10, .int .u8 48, .int .u8 13, .int .u8 10, .int .u8 13, .int .u8 10, .int .u8 120] 5 (18, 19))) (.slice (some ⟨w1.heap.size, 0, none⟩) 18 18) knC := lit_at w1 knC (18, 19) (by decide) (by decide)
  have HFD := Lib.hid (feed_c _ knC hbs (fun _ k hk hF => by have := HA.out.1.lt k hF; simp [Value.ownBlock] at hk; omega) (HA.out.1.low m1) (by decide))
  rw [HR.out] at HFD
  simp only at HFD
  rw [HK.out.1, HK.out.2.1] at HFD
  have M1 := Lib.hid (HA.out.2.1.trans m1 (fun _ h => nomatch h))
  have HFN := Lib.hid (show ∀ k ∈ F, w.heap.size ≤ k from HA.out.2.2)
  unfold ptr at HFD
  clear m1 hbs HN
  go_upto_region 3 with (go_at_call 7; refine HFD.out.mono ?_; rintro z w2 ⟨rfl, hk⟩; have HQ := Lib.hid hk.out; clear hk)
  clear hcv1
  obtain ⟨F2, a2, hg2⟩ := HQ.out
  have hb2 := body_c a2
  rw [HK.out.2.2] at hb2
  have HB := Lib.hid hb2
  have M2 := Lib.hid (show Mods [] w w2 from M1.out.trans hg2.mods (fun k hk => .inr (HFN.out k hk)))
  unfold ptr at HB
  clear hb2 a2 hg2
  go_wp2_with (first
    | (go_at_call 10; refine HB.out.mono ?_; rintro z w3 ⟨u, rfl, hk⟩; have hcv3 := conv_lit w3 #[.int .u8 97, .int .u8 98, .int .u8 99] 3 3 _ rfl; obtain ⟨ua, uc, rfl⟩ := hk.out.form; have HG3 := Lib.hid hk.out; clear hk)
    | (go_at_call 15; refine HE5.out.mono ?_; rintro z w5 ⟨u5, rfl, hk⟩; have hcv5 := conv_lit w5 #[.int .u8 49, .int .u8 13, .int .u8 10, .int .u8 97, .int .u8 13, .int .u8 10, .int .u8 48, .int .u8 13, .int .u8 10, .int .u8 13, .int .u8 10] 11 11 _ rfl; obtain ⟨xa, xc, rfl⟩ := hk.out.form; have HG5 := Lib.hid hk.out; clear hk)
    | (go_at_call 9; have hx := HG5; clear hx; refine (same_l14 [49, 13, 10, 97, 13, 10, 48, 13, 10, 13, 10] [49, 13, 10, 97, 13, 10, 48, 13, 10, 13, 10] _ _ _ (by rw [← knC_enc]; exact HG5.out.at.low ((Mods.refl [] _).alloc _)) (lit_at _ [49, 13, 10, 97, 13, 10, 48, 13, 10, 13, 10] (11, 12) (by decide) (by decide)) (r := true) (by decide)).mono ?_; rintro z w6 ⟨rfl, hd⟩; have M6 := Lib.hid ((M4.out.trans HG5.out.mods (fun _ h => nomatch h)).alloc (.cells #[.int .u8 49, .int .u8 13, .int .u8 10, .int .u8 97, .int .u8 13, .int .u8 10, .int .u8 48, .int .u8 13, .int .u8 10, .int .u8 13, .int .u8 10] 5 (11, 12)) |>.trans hd.mods (fun _ h => nomatch h)); clear hd)
    | (go_at_call 9; refine (same_l14 [97, 98, 99] [97, 98, 99] _ _ _ (HG3.out.at.low ((Mods.refl [] _).alloc _)) (lit_at w3 [97, 98, 99] (3, 4) (by decide) (by decide)) (r := true) (by decide)).mono ?_; rintro z w4 ⟨rfl, hd⟩; have hcv4 := conv_lit w4 #[.int .u8 97] 1 1 _ rfl; have M40 := ((M2.out.trans HG3.out.mods (fun _ h => nomatch h)).alloc (.cells #[.int .u8 97, .int .u8 98, .int .u8 99] 5 (3, 4))).trans hd.mods (fun _ h => nomatch h); have M4 := Lib.hid ((M40.alloc (.cells #[.int .u8 97] 5 (1, 2))).alloc (.cells #[.slice (some ⟨w4.heap.size, 0, none⟩) 1 1, .slice none 0 0] 22)); have HE5 := Lib.hid (encode_c (.slice (some ⟨w4.heap.size + 1, 0, none⟩) 2 2) [[97], []] ((w4.alloc (.cells #[.int .u8 97] 5 (1, 2))).alloc (.cells #[.slice (some ⟨w4.heap.size, 0, none⟩) 1 1, .slice none 0 0] 22)) (PsAt.two14 w4) (HT.out.low M4.out) (by decide) (by decide)); clear hd M40))
  go_ret
  exact ⟨rfl, M6.out⟩
end Go.Proofs.YtdalomhcglbhjaaGreatDoor
