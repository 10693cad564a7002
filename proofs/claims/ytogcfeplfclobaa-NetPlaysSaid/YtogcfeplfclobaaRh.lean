/- What Send of the reference's net do. -/
import Derived.Test.YtogcfeplfclobaaRd
namespace Go.Proofs.Ytogcfeplfclobaa
open Go.RowKit
set_option maxRecDepth 10000
set_option linter.unusedVariables false
set_option linter.unusedSimpArgs false

def Rn.setI (r : Rn) (l : List Int) : Rn := { r with c := r.c.setI l, inn := l }
set_option maxHeartbeats 2000000 in
theorem rsend_any (w : World) (g m : Nat) (F : List Nat) (S : Nt) (c : Int) (A : Option Addr) (n cp : Nat) (rs : List Rw) (h : RefA w g F S m) (hm : m + 1 ≤ 900000000) (hp : Parts w F A rs) (hn : n = rs.length) (hnl : n ≤ maxLen) :
    Calls Try.prog 37 #[.pointer (some ⟨g, 0, none⟩), .int .i64 c, .slice A n cp] w fun e w' =>
      e = .returned (.tuple #[.int .i64 (S.sendK c (flatR rs)), .int .i64 (S.sendE c)]) ∧ Hid (RefTo w w' g F (S.send c (flatR rs)) (m + 1)) := by
  subst hn
  have HN0 := Lib.hid (RefTo.same (h.more (n := m + 1) (by omega) hm) (Mods.refl [] w))
  have bad : S.sendE c ≠ 0 → S.sendK c (flatR rs) = 0 ∧ S.send c (flatR rs) = S := fun this => ⟨by unfold Nt.sendK; rw [if_neg this], by unfold Nt.send; rw [if_neg this]⟩
  by_cases he : S.e1 c = 0
  · have hE : S.sendE c = if (S.get c).hlv then 6 else 0 := by unfold Nt.sendE; rw [if_pos he]
    obtain ⟨i, s, rfl, hs, hi, hg, hb, ho⟩ := Nt.e1_zero he
    rw [hg] at hE
    obtain ⟨vl, vn, X, R, rfl, h⟩ := h
    obtain ⟨x, r, hx, hr, rfl, hc, ha⟩ := h.at_ hs
    have HT := Lib.hid (rtheirs_at w g m i vl vn X R S x r h hx hr hb ho)
    have c5 := hc.row.cell 5
    simp only [KR] at c5
    cases hv : r.c.hlv with
    | true =>
      rw [hv] at c5 hE
      have he6 : S.sendE i = 6 := hE
      rw [(bad (by rw [he6]; decide)).1, (bad (by rw [he6]; decide)).2, he6]
      clear h bad hE he6 hs hg hb ho hc hx he hv hp hr ha
      go_enter Try.func37, Try.ntmps37
      go_wp2_with fail
      refine HT.out.mono ?_
      rintro e w' ⟨rfl, rfl⟩
      go_wp2
      go_ret2
      exact ⟨rfl, HN0⟩
    | false =>
      rw [hv] at c5 hE
      have he0 : S.sendE i = 0 := hE
      have hf := h.ok.at_ hs
      have hin : r.inn = r.c.inn := ha.inn (by rw [← ho]; simp)
      rw [show S.sendK i (flatR rs) = ((fill r.c.inn (flatR rs)).length : Int) - r.c.inn.length by unfold Nt.sendK; rw [if_pos he0, hg], show S.send i (flatR rs) = S.upd i (r.c.send (flatR rs)) by unfold Nt.send; rw [if_pos he0, hg], he0]
      have HFL := Lib.hid (fill_len r.c.inn (flatR rs))
      have HN := Lib.hid (fun (w' : World) (hq : CnTo KR w w' x { r with c := r.c.send (flatR rs), inn := fill r.c.inn (flatR rs) }) => h.toC hx hr hq (ha.same rfl rfl rfl (.inl rfl) (fun _ => rfl)) (h.ok.upd (n := m + 1) (by omega) hm (by have := HFL.out; simp only [Cn.send, Cn.setI]; split <;> omega) fun hq => h.ok.op i _ hs hq))
      have HP := Lib.hid (hp.sub (ft_rsub hx))
      have HC := Lib.hid hc
      have hinn : r.c.inn.length ≤ 1024 := by omega
      have hmr : r.c.mr ≤ 900000000 := by omega
      have HS0 := Lib.hid (show r.setI r.c.inn = r by cases r; simp only at hin; subst hin; rfl)
      obtain ⟨i0, hi0, hz, hsz, hby⟩ := info_parts u8_info3
      have HI := Lib.hid (And.intro hi0 (And.intro hz (And.intro hsz (show i0.bytes ≤ 8 by omega))))
      unfold maxLen at hnl
      clear h bad hE he0 hs hg hb ho hc hx he hv hp hf HN0 hr ha hin hi0 hz hsz hby
      go_enter Try.func37, Try.ntmps37
      go_wp2_with fail
      refine HT.out.mono ?_
      rintro e w' ⟨rfl, rfl⟩
      go_wp2
      go_loopw [10, 11, 12] (fun n j u wr => ∃ k : Nat, k ≤ rs.length ∧ j = .int .i64 k ∧ n = .int .i64 (((fill r.c.inn (flatR (rs.take k))).length : Int) - r.c.inn.length) ∧ Hid (CnTo KR w wr x (r.setI (fill r.c.inn (flatR (rs.take k)))))) (fun _ j _ _ => rs.length - (intOf j).toNat)
      case atStart =>
        refine ⟨0, Nat.zero_le _, rfl, ?_, Lib.hid ?_⟩
        · rw [show flatR (rs.take 0) = [] by simp [flatR], fill_nil _ hinn]; simp
        · rw [show flatR (rs.take 0) = [] by simp [flatR], fill_nil _ hinn, HS0.out]; exact CnTo.refl HC.out
      case round =>
        obtain ⟨k, hk, rfl, rfl, hd⟩ := hrel
        obtain ⟨P, hP⟩ : ∃ P, P = fill r.c.inn (flatR (rs.take k)) := ⟨_, rfl⟩
        rw [← hP] at hd
        have hPl : P.length ≤ 1024 := by rw [hP, fill_len]; omega
        have hPi : r.c.inn.length ≤ P.length := by rw [hP, fill_len]; omega
        by_cases hlt : k < rs.length
        · obtain ⟨x1, q1, q2, q3, q4⟩ := hd.out
          have hpk := HP.out k rs[k] (List.getElem?_eq_getElem hlt)
          obtain ⟨⟨bb, oo, rfl, hbl, hbF, hcr⟩, hat, hr1, hr2⟩ := hpk
          have hcr := cell_mods hcr q3 hbF
          have HSN := Lib.hid (flatR_snoc rs k hlt)
          obtain ⟨y, hy⟩ : ∃ y, y = rs[k] := ⟨_, rfl⟩
          rw [← hy] at hcr HSN hat hr1 hr2
          obtain ⟨t, ht⟩ : ∃ t, t = min y.l.length (1024 - P.length) := ⟨_, rfl⟩
          have hf : fill P y.l = P ++ y.l.take t := by rw [ht]; exact fill_cut _ _ hPl
          have htk : (y.l.take t).length = t := by rw [List.length_take]; omega
          have HF := Lib.hid hf
          have HTK := Lib.hid htk
          have HQE := Lib.hid (show fill r.c.inn (flatR (rs.take (k + 1))) = P ++ y.l.take t by rw [HSN.out, ← fill_fill, ← hP, hf])
          obtain ⟨Av, cv, hv, hv1, hv2⟩ := (q1.own 0).slice
          rw [bv_length] at hv hv1
          change x1.v 0 = .slice Av P.length cv at hv
          have c7 : wr.cell? ⟨x.b, 7, none⟩ = some (.slice Av P.length cv) := by rw [← hv, ← q2]; exact q1.row.cell 7
          have fz : ∀ j, wr.frozen? ⟨x.b, j, none⟩ = false := by rw [← q2]; exact q1.row.free
          have HO := Lib.hid (show Own wr 5 (.slice Av P.length cv) (bv P) by rw [← hv]; exact q1.own 0)
          have HV := Lib.hid hv
          have HQ1 := Lib.hid q1
          have HAT := Lib.hid ((At.other hat q3 q4).take t)
          have HR := Lib.hid hat.range
          have HTR := Lib.hid (fun (w2 : World) (hq : CnTo KR wr w2 x1 ((r.setI P).setI (P ++ y.l.take t))) => CnTo.trans q2 q3 q4 hq)
          have HB1 := Lib.hid q2
          obtain ⟨pl, hpl⟩ : ∃ pl, pl = P.length := ⟨_, rfl⟩
          rw [← hP, ← hpl]
          rw [← hpl] at hPl hPi c7 HO HV ht
          have HPL := Lib.hid hpl
          have HBD := Lib.hid (show (bv P).length + t ≤ 1000000000 by rw [bv_length, ← hpl]; omega)
          unfold maxLen at hr2
          have hmn : ∀ p q : Int, (p = y.l.length → q = 1024 - (pl : Int) → (if q < p then q else p) = (t : Int)) := by
            intro p q h1 h2; subst h1 h2; split <;> omega
          have hmn := hmn _ _ rfl rfl
          have hwr : IntKind.i64.wrap (1024 - (pl : Int)) = 1024 - (pl : Int) := wrap_small (by omega) (by omega)
          have k1 : t ≤ y.l.length := by omega
          have k2 : t ≤ y.c := by omega
          have k3 : t ≤ 1024 := by omega
          clear hd hP q1 q2 q3 q4 hy hat hr1 hbl hbF hpl ht hf htk hv hv1 hv2
          go_wp2_with fail
          go_quiet (fail)
          go_wp2_with fail
          clear hmn
          go_region_law (refine step_append_own2 rfl (.tmp 48) (.tmp 54) 33 rfl 5 i0 (.int .u8 0) Try.underlying33 HI.out.1 HI.out.2.1 HI.out.2.2.1 HI.out.2.2.2 rfl (.slice Av pl cv) (bv P) rfl (HO.out.keep fun _ _ => rfl) y.A t y.c (bv (y.l.take t)) rfl (by rw [bv_length]; exact HTK.out.symm) (HAT.out.srcs.same rfl) (bv_one _) HBD.out ?_; intro v8 w8 HO8 HM8; obtain ⟨hr8, hq8⟩ := HQ1.out.app (s' := (r.setI P).setI (P ++ y.l.take t)) 0 7 HO8.out HM8.out HV.out ((Mods.refl [] wr).same rfl rfl rfl rfl) rfl (by intro j hj; match j, hj with | 1, _ => rfl | 2, _ => rfl) rfl (fun z hz => HR.out z (List.mem_of_mem_take hz)); obtain ⟨A8, n8, c8, rfl, -, -, -⟩ := HO8.out.slice'; have HQ8 := Lib.hid hq8; have e8 : w8.cell? ⟨x.b, 7, none⟩ = some (x1.v 0) := (by rw [← HB1.out]; exact hr8.cell 7); have f8 : ∀ j, w8.frozen? ⟨x.b, j, none⟩ = false := (by rw [← HB1.out]; exact hr8.free); clear hq8 hr8)
          all_goals
            go_wp2
            go_roundw
            case rel => exact ⟨k + 1, by omega, by go_num, by rw [HQE.out, List.length_append, HTK.out, ← HPL.out]; go_num, Lib.hid (by rw [HQE.out]; exact HTR.out _ (HQ8.out _ (by rw [HB1.out])))⟩
            case measure => simp [intOf]; omega
        · have HK := Lib.hid (show rs.take k = rs from List.take_of_length_le (by omega))
          rw [HK.out] at hP
          rw [HK.out, ← hP]
          have HD := Lib.hid hd.out
          obtain ⟨x1, q1, q2, -, -⟩ := hd.out
          have c11 := q1.row.cell 11
          have f11 := q1.row.free 11
          rw [q2] at c11 f11
          simp only [KR, Rn.setI, Cn.setI] at c11
          have HPE := Lib.hid hP
          obtain ⟨pl, hpl⟩ : ∃ pl, pl = P.length := ⟨_, rfl⟩
          rw [← hpl] at hPl hPi ⊢
          have HPL := Lib.hid hpl
          clear hd q1 q2 hP hpl
          by_cases hgt : r.c.inn.length < pl
          · have hd0 : decide (0 < ((pl : Int) - (r.c.inn.length : Int))) = true := by simp; omega
            have HE := Lib.hid (show r.c.send (flatR rs) = { r.c.setI P with mr := r.c.mr + 1 } by unfold Cn.send; rw [← HPE.out, ← HPL.out, if_pos hgt])
            rw [HE.out, ← HPE.out] at HN
            go_wp2
            go_ret2
            rw [HE.out]
            exact ⟨by rw [← HPE.out, ← HPL.out]; rfl, Lib.hid (HN.out _ (HD.out.put 11 _ (fun _ => rfl) (rbs_all rfl rfl rfl)))⟩
          · have hd0 : pl = r.c.inn.length := by omega
            subst hd0
            have HE := Lib.hid (show r.c.send (flatR rs) = r.c.setI P by unfold Cn.send; rw [← HPE.out, ← HPL.out, if_neg hgt]; rfl)
            rw [HE.out, ← HPE.out] at HN
            go_wp2
            go_ret2
            rw [HE.out]
            exact ⟨by rw [← HPE.out, ← HPL.out]; rfl, Lib.hid (HN.out _ HD.out)⟩
  · have he1 : S.sendE c = S.e1 c := by unfold Nt.sendE; rw [if_neg he]
    rw [(bad (by rw [he1]; exact he)).1, (bad (by rw [he1]; exact he)).2, he1]
    have HT := Lib.hid (rtheirs_no w g m F S c h he)
    obtain ⟨e0, he0⟩ : ∃ e0, e0 = S.e1 c := ⟨_, rfl⟩
    rw [← he0] at HT he ⊢
    have hne : (e0 != 0) = true := by simpa using he
    clear h he he0 he1 bad hp
    go_enter Try.func37, Try.ntmps37
    go_wp2_with fail
    refine HT.out.mono ?_
    rintro e w' ⟨rfl, rfl⟩
    go_wp2
    go_ret2
    exact ⟨rfl, HN0⟩
end Go.Proofs.Ytogcfeplfclobaa
