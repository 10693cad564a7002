/- What Marks, Bytes, Len of the reference's net answer. -/
import Derived.Test.YthaapkafamdhcaaDoorMgN
import Derived.Test.YthaapkafamdhcaaDoorNh
import Derived.Deep.RegionHeld3
import Derived.BigRegion
namespace Go.Proofs.YthaapkafamdhcaaDoor
open Go.RowKit
set_option maxRecDepth 10000
set_option linter.unusedVariables false
set_option linter.unusedSimpArgs false

theorem rmarks_any (w : World) (g m : Nat) (F : List Nat) (S : Nt) (c : Int) (h : RefA w g F S m) :
    Calls Tryd.prog 55 #[.pointer (some ⟨g, 0, none⟩), .int .i64 c] w fun e w' => e = .returned (.tuple #[.int .i64 (S.markR c), .int .i64 (S.markW c)]) ∧ ∃ q, w' = w.drewN q := by
  by_cases hl : c = -1
  · subst hl
    rw [show S.markR (-1) = S.L.length from rfl, show S.markW (-1) = 0 from rfl]
    obtain ⟨vl, vn, X, R, rfl, h⟩ := h
    have c5 := h.row.cell 5
    clear h
    go_enter Tryd.func55, Tryd.ntmps55
    go_wp2
    go_ret2
    exact ⟨rfl, 0, rfl⟩
  · have hm1 : S.markR c = (S.get c).mr := by unfold Nt.markR; rw [if_neg hl]
    have hm2 : S.markW c = (S.get c).mw := by unfold Nt.markW; rw [if_neg hl]
    rw [hm1, hm2]
    have hi1 : (c == -1) = false := by simpa using hl
    clear hm1 hm2
    cases hs : S.at? c with
    | none =>
      have hcc := Nt.at_none hs
      rw [Nt.get_none hs, show none_.mr = 0 from rfl, show none_.mw = 0 from rfl]
      clear hs
      obtain ⟨vl, vn, X, R, rfl, h⟩ := h
      obtain ⟨A, cc, rfl, -, -⟩ := h.slice
      have c1 := h.row.cell 1
      clear h
      by_cases h0 : c < 0
      · clear hcc
        go_enter Tryd.func55, Tryd.ntmps55
        go_wp2
        go_ret2
        exact ⟨rfl, 0, rfl⟩
      · have h1 : (S.L.length : Int) ≤ c := by omega
        have h3 : decide ((S.L.length : Int) ≤ c) = true := by simpa using h1
        clear hcc
        go_enter Tryd.func55, Tryd.ntmps55
        go_wp2
        go_ret2
        exact ⟨rfl, 0, rfl⟩
    | some s =>
      obtain ⟨i, rfl, h1, h2⟩ := Nt.at_some hs
      obtain ⟨vl, vn, X, R, rfl, h⟩ := h
      obtain ⟨x, r, hx, hr, rfl, hc, ha⟩ := h.at_ h1
      obtain ⟨A, cc, rfl, -, -⟩ := h.slice
      obtain ⟨b, o, rfl, ci⟩ := h.cell hx
      have c1 := h.row.cell 1
      have hl := h.ok.n2
      have d11 := hc.row.cell 11
      have d12 := hc.row.cell 12
      simp only [KR] at d11 d12
      have hi2 : decide ((S.L.length : Int) ≤ (i : Int)) = false := by simp; omega
      have hi3 : decide ((i : Int) < 0) = false := by simp
      have hk1 : (0 : Int) ≤ (i : Int) := by omega
      have hk2 : (i : Int) < (S.L.length : Int) := by omega
      rw [Nt.get_some hs]
      clear h hx hr hs hc ha h1 h2
      go_enter Tryd.func55, Tryd.ntmps55
      go_wp2_with fail
      go_quiet (fail)
      go_wp2
      go_ret2
      exact ⟨rfl, _, rfl⟩
/-- v is a slice of these bytes, wherever they lie; nothing but draws was done. -/
def BytesAt (w w' : World) (v : Value) (l : List Int) : Prop := (∃ q, w' = w.drewN q) ∧ ∃ A n cp, v = .slice A n cp ∧ n = l.length ∧ At w [] A l
theorem BytesAt.nil (w : World) : BytesAt w w (.slice none 0 0) [] := ⟨⟨0, rfl⟩, none, 0, 0, rfl, rfl, At.nil _ _ _⟩
theorem opens_take (L : List Cn) (k : Nat) (h : k < L.length) : opens (L.take (k + 1)) = opens (L.take k) + if L[k].opn then 1 else 0 := by
  unfold opens
  rw [List.take_succ_eq_append_getElem h, List.countP_append, List.countP_singleton]
end Go.Proofs.YthaapkafamdhcaaDoor

/- What Ready of the reference's net answer. -/
namespace Go.Proofs.YthaapkafamdhcaaDoor
open Go.RowKit
set_option maxRecDepth 10000
set_option linter.unusedVariables false
set_option linter.unusedSimpArgs false

set_option maxHeartbeats 8000000 in
theorem rready_open (w : World) (g b o i n cc : Nat) (x : Cb) (r : Rn) (hc : CnA KR w x r) (ho : r.c.opn = true) (hin : r.inn = r.c.inn) (c1 : w.cell? ⟨g, 1, none⟩ = some (.slice (some ⟨b, o, none⟩) n cc)) (ci : w.cell? ⟨b, o + i, none⟩ = some (.pointer (some ⟨x.b, 0, none⟩))) (hi : i < n) (hl : n ≤ 65536) :
    Calls Tryd.prog 54 #[.pointer (some ⟨g, 0, none⟩), .int .i64 i] w fun e w' => e = .returned (.tuple #[.bool ((decide (0 < r.c.inn.length) || r.c.hlv) || r.c.brk), .bool ((decide (0 < r.c.win) && !r.c.sht) || r.c.brk)]) ∧ ∃ q, w' = w.drewN q := by
  have d2 := hc.row.cell 2
  have d4 := hc.row.cell 4
  have d5 := hc.row.cell 5
  have d6 := hc.row.cell 6
  have d7 := hc.row.cell 7
  have d10 := hc.row.cell 10
  obtain ⟨Av, cv, hv, hv1, hv2⟩ := (hc.own 0).slice
  rw [bv_length] at hv
  change x.v 0 = .slice Av r.inn.length cv at hv
  rw [hin] at hv
  simp only [KR] at d2 d4 d5 d6 d7 d10
  rw [ho] at d2
  rw [hv] at d7
  have hi1 : ((i : Int) == -1) = false := by simp
  have hi2 : decide ((n : Int) ≤ (i : Int)) = false := by simp; omega
  have hi3 : decide ((i : Int) < 0) = false := by simp
  have hk1 : (0 : Int) ≤ (i : Int) := by omega
  have hk2 : (i : Int) < (n : Int) := by omega
  obtain ⟨k, hn0⟩ : ∃ k, k = r.c.inn.length := ⟨_, rfl⟩
  obtain ⟨u, hu0⟩ : ∃ u, u = r.c.win := ⟨_, rfl⟩
  obtain ⟨b3, h3⟩ : ∃ b, b = r.c.hlv := ⟨_, rfl⟩
  obtain ⟨b2, h2⟩ : ∃ b, b = r.c.brk := ⟨_, rfl⟩
  obtain ⟨b4, h4⟩ : ∃ b, b = r.c.sht := ⟨_, rfl⟩
  rw [← hn0] at d7 ⊢
  rw [← hu0] at d10 ⊢
  rw [← h3] at d5 ⊢
  rw [← h2] at d4 ⊢
  rw [← h4] at d6 ⊢
  clear hc ho hv hv1 hv2 hn0 hu0 h2 h3 h4 hin hi
  have hp2 : decide (0 < (k : Int)) = decide (0 < k) := by simp
  cases hp : decide (0 < k) <;> rw [hp] at hp2 <;> cases hq : decide (0 < u) <;> cases b2 <;> cases b3 <;> cases b4
  all_goals
    go_enter Tryd.func54, Tryd.ntmps54
    go_wp2_with fail
    go_quiet (fail)
    go_wp2
    go_ret2
    exact ⟨rfl, _, rfl⟩
theorem rready_any (w : World) (g m : Nat) (F : List Nat) (S : Nt) (c : Int) (h : RefA w g F S m) :
    Calls Tryd.prog 54 #[.pointer (some ⟨g, 0, none⟩), .int .i64 c] w fun e w' => e = .returned (.tuple #[.bool (S.readyR c), .bool (S.readyW c)]) ∧ ∃ q, w' = w.drewN q := by
  by_cases hl : c = -1
  · subst hl
    rw [show S.readyR (-1) = decide (0 < S.wait) from rfl, show S.readyW (-1) = false from rfl]
    obtain ⟨vl, vn, X, R, rfl, h⟩ := h
    have hn1 := h.ok.n1
    obtain ⟨An, cn, rfl, -, -⟩ := h.line
    have c2 := h.row.cell 2
    have hw : decide (0 < S.wait) = decide (0 < ((S.L.length - S.first : Nat) : Int)) := by
      unfold Nt.wait
      congr 1
      apply propext
      omega
    rw [hw]
    clear h hw
    go_enter Tryd.func54, Tryd.ntmps54
    go_wp2
    go_ret2
    exact ⟨by simp, 0, rfl⟩
  · have hr : S.readyR c = if S.isO c then (decide (0 < (S.get c).inn.length) || (S.get c).hlv) || (S.get c).brk else false := by unfold Nt.readyR; rw [if_neg hl]
    have hw : S.readyW c = if S.isO c then (decide (0 < (S.get c).win) && !(S.get c).sht) || (S.get c).brk else false := by unfold Nt.readyW; rw [if_neg hl]
    have hi1 : (c == -1) = false := by simpa using hl
    cases hs : S.at? c with
    | none =>
      have hcc := Nt.at_none hs
      have ho : S.isO c = false := by unfold Nt.isO; rw [Nt.get_none hs]; rfl
      rw [hr, hw, ho]
      clear hs hr hw ho hl
      obtain ⟨vl, vn, X, R, rfl, h⟩ := h
      obtain ⟨A, cc, rfl, -, -⟩ := h.slice
      have c1 := h.row.cell 1
      clear h
      by_cases h0 : c < 0
      · clear hcc
        go_enter Tryd.func54, Tryd.ntmps54
        go_wp2
        go_ret2
        exact ⟨rfl, 0, rfl⟩
      · have h1 : (S.L.length : Int) ≤ c := by omega
        have h3 : decide ((S.L.length : Int) ≤ c) = true := by simpa using h1
        clear hcc
        go_enter Tryd.func54, Tryd.ntmps54
        go_wp2
        go_ret2
        exact ⟨rfl, 0, rfl⟩
    | some s =>
      have hg := Nt.get_some hs
      obtain ⟨i, rfl, h1, h2⟩ := Nt.at_some hs
      obtain ⟨vl, vn, X, R, rfl, h⟩ := h
      obtain ⟨x, r, hx, hr', rfl, hc, ha⟩ := h.at_ h1
      obtain ⟨A, cc, rfl, -, -⟩ := h.slice
      obtain ⟨b, o, rfl, ci⟩ := h.cell hx
      have c1 := h.row.cell 1
      have hlen := h.ok.n2
      cases ho : r.c.opn with
      | false =>
        have ho2 : S.isO i = false := by unfold Nt.isO; rw [hg]; exact ho
        rw [hr, hw, ho2]
        have d2 := hc.row.cell 2
        simp only [KR] at d2
        rw [ho] at d2
        have hi2 : decide ((S.L.length : Int) ≤ (i : Int)) = false := by simp; omega
        have hi3 : decide ((i : Int) < 0) = false := by simp
        have hk1 : (0 : Int) ≤ (i : Int) := by omega
        have hk2 : (i : Int) < (S.L.length : Int) := by omega
        clear h hs hr hw ho hl hc hx h1 hg ho2 hr' ha h2
        go_enter Tryd.func54, Tryd.ntmps54
        go_wp2
        go_ret2
        exact ⟨rfl, 0, rfl⟩
      | true =>
        have ho2 : S.isO i = true := by unfold Nt.isO; rw [hg]; exact ho
        rw [hr, hw, ho2, hg]
        exact rready_open w g b o i S.L.length cc x r hc ho (ha.inn (by rw [ho]; simp)) c1 ci h2 hlen
end Go.Proofs.YthaapkafamdhcaaDoor

/- What Send of the reference's net do. -/
namespace Go.Proofs.YthaapkafamdhcaaDoor
open Go.RowKit
set_option maxRecDepth 10000
set_option linter.unusedVariables false
set_option linter.unusedSimpArgs false

def Rn.setI (r : Rn) (l : List Int) : Rn := { r with c := r.c.setI l, inn := l }
set_option maxHeartbeats 2000000 in
theorem rsend_any (w : World) (g m : Nat) (F : List Nat) (S : Nt) (c : Int) (A : Option Addr) (n cp : Nat) (rs : List Rw) (h : RefA w g F S m) (hm : m + 1 ≤ 900000000) (hp : Parts w F A rs) (hn : n = rs.length) (hnl : n ≤ maxLen) :
    Calls Tryd.prog 34 #[.pointer (some ⟨g, 0, none⟩), .int .i64 c, .slice A n cp] w fun e w' =>
      e = .returned (.tuple #[.int .i64 (S.sendK c (flatR rs)), .int .i64 (S.sendE c)]) ∧ Hid (RefTo w w' g F (S.send c (flatR rs)) (m + 1)) := by
  subst hn
  have HN0 := Lib.hid (RefTo.same (h.more (n := m + 1) (by omega) hm) (Mods.refl [] w))
  have bad : S.sendE c ≠ 0 → S.sendK c (flatR rs) = 0 ∧ S.send c (flatR rs) = S := fun this => ⟨by unfold Nt.sendK; rw [if_neg this], by unfold Nt.send; rw [if_neg this]⟩
  by_cases he : S.e1 c = 0
  · have hE : S.sendE c = if (S.get c).hlv then 6 else 0 := by unfold Nt.sendE; rw [if_pos he]
    obtain ⟨i, s, rfl, hs, hi, hg, hb, ho⟩ := Nt.e1_zero he
    rw [hg] at hE
    obtain ⟨vl, vn, X, R, rfl, h⟩ := h
    obtain ⟨x, r, hx, hr, rfl, hc, ha⟩ := h.at_ hs
    have HT := Lib.hid (rtheirs_at w g m i vl vn X R S x r h hx hr hb ho)
    have c5 := hc.row.cell 5
    simp only [KR] at c5
    cases hv : r.c.hlv with
    | true =>
      rw [hv] at c5 hE
      have he6 : S.sendE i = 6 := hE
      rw [(bad (by rw [he6]; decide)).1, (bad (by rw [he6]; decide)).2, he6]
      clear h bad hE he6 hs hg hb ho hc hx he hv hp hr ha
      go_enter Tryd.func34, Tryd.ntmps34
      go_wp2_with fail
      refine HT.out.mono ?_
      rintro e w' ⟨rfl, rfl⟩
      go_wp2
      go_ret2
      exact ⟨rfl, HN0⟩
    | false =>
      rw [hv] at c5 hE
      have he0 : S.sendE i = 0 := hE
      have hf := h.ok.at_ hs
      have hin : r.inn = r.c.inn := ha.inn (by rw [← ho]; simp)
      rw [show S.sendK i (flatR rs) = ((fill r.c.inn (flatR rs)).length : Int) - r.c.inn.length by unfold Nt.sendK; rw [if_pos he0, hg], show S.send i (flatR rs) = S.upd i (r.c.send (flatR rs)) by unfold Nt.send; rw [if_pos he0, hg], he0]
      have HFL := Lib.hid (fill_len r.c.inn (flatR rs))
      have HN := Lib.hid (fun (w' : World) (hq : CnTo KR w w' x { r with c := r.c.send (flatR rs), inn := fill r.c.inn (flatR rs) }) => h.toC hx hr hq (ha.same rfl rfl rfl (.inl rfl) (fun _ => rfl)) (h.ok.upd (n := m + 1) (by omega) hm (by have := HFL.out; simp only [Cn.send, Cn.setI]; split <;> omega) fun hq => h.ok.op i _ hs hq))
      have HP := Lib.hid (hp.sub (ft_rsub hx))
      have HC := Lib.hid hc
      have hinn : r.c.inn.length ≤ 1024 := by omega
      have hmr : r.c.mr ≤ 900000000 := by omega
      have HS0 := Lib.hid (show r.setI r.c.inn = r by cases r; simp only at hin; subst hin; rfl)
      obtain ⟨i0, hi0, hz, hsz, hby⟩ := info_parts u8_info3
      have HI := Lib.hid (And.intro hi0 (And.intro hz (And.intro hsz (show i0.bytes ≤ 8 by omega))))
      unfold maxLen at hnl
      clear h bad hE he0 hs hg hb ho hc hx he hv hp hf HN0 hr ha hin hi0 hz hsz hby
      go_enter Tryd.func34, Tryd.ntmps34
      go_wp2_with fail
      refine HT.out.mono ?_
      rintro e w' ⟨rfl, rfl⟩
      go_wp2
      go_loopw [10, 11, 12] (fun n j u wr => ∃ k : Nat, k ≤ rs.length ∧ j = .int .i64 k ∧ n = .int .i64 (((fill r.c.inn (flatR (rs.take k))).length : Int) - r.c.inn.length) ∧ Hid (CnTo KR w wr x (r.setI (fill r.c.inn (flatR (rs.take k)))))) (fun _ j _ _ => rs.length - (intOf j).toNat)
      case atStart =>
        refine ⟨0, Nat.zero_le _, rfl, ?_, Lib.hid ?_⟩
        · rw [show flatR (rs.take 0) = [] by simp [flatR], fill_nil _ hinn]; simp
        · rw [show flatR (rs.take 0) = [] by simp [flatR], fill_nil _ hinn, HS0.out]; exact CnTo.refl HC.out
      case round =>
        obtain ⟨k, hk, rfl, rfl, hd⟩ := hrel
        obtain ⟨P, hP⟩ : ∃ P, P = fill r.c.inn (flatR (rs.take k)) := ⟨_, rfl⟩
        rw [← hP] at hd
        have hPl : P.length ≤ 1024 := by rw [hP, fill_len]; omega
        have hPi : r.c.inn.length ≤ P.length := by rw [hP, fill_len]; omega
        by_cases hlt : k < rs.length
        · obtain ⟨x1, q1, q2, q3, q4⟩ := hd.out
          have hpk := HP.out k rs[k] (List.getElem?_eq_getElem hlt)
          obtain ⟨⟨bb, oo, rfl, hbl, hbF, hcr⟩, hat, hr1, hr2⟩ := hpk
          have hcr := cell_mods hcr q3 hbF
          have HSN := Lib.hid (flatR_snoc rs k hlt)
          obtain ⟨y, hy⟩ : ∃ y, y = rs[k] := ⟨_, rfl⟩
          rw [← hy] at hcr HSN hat hr1 hr2
          obtain ⟨t, ht⟩ : ∃ t, t = min y.l.length (1024 - P.length) := ⟨_, rfl⟩
          have hf : fill P y.l = P ++ y.l.take t := by rw [ht]; exact fill_cut _ _ hPl
          have htk : (y.l.take t).length = t := by rw [List.length_take]; omega
          have HF := Lib.hid hf
          have HTK := Lib.hid htk
          have HQE := Lib.hid (show fill r.c.inn (flatR (rs.take (k + 1))) = P ++ y.l.take t by rw [HSN.out, ← fill_fill, ← hP, hf])
          obtain ⟨Av, cv, hv, hv1, hv2⟩ := (q1.own 0).slice
          rw [bv_length] at hv hv1
          change x1.v 0 = .slice Av P.length cv at hv
          have c7 : wr.cell? ⟨x.b, 7, none⟩ = some (.slice Av P.length cv) := by rw [← hv, ← q2]; exact q1.row.cell 7
          have fz : ∀ j, wr.frozen? ⟨x.b, j, none⟩ = false := by rw [← q2]; exact q1.row.free
          have HO := Lib.hid (show Own wr 5 (.slice Av P.length cv) (bv P) by rw [← hv]; exact q1.own 0)
          have HV := Lib.hid hv
          have HQ1 := Lib.hid q1
          have HAT := Lib.hid ((At.other hat q3 q4).take t)
          have HR := Lib.hid hat.range
          have HTR := Lib.hid (fun (w2 : World) (hq : CnTo KR wr w2 x1 ((r.setI P).setI (P ++ y.l.take t))) => CnTo.trans q2 q3 q4 hq)
          have HB1 := Lib.hid q2
          obtain ⟨pl, hpl⟩ : ∃ pl, pl = P.length := ⟨_, rfl⟩
          rw [← hP, ← hpl]
          rw [← hpl] at hPl hPi c7 HO HV ht
          have HPL := Lib.hid hpl
          have HBD := Lib.hid (show (bv P).length + t ≤ 1000000000 by rw [bv_length, ← hpl]; omega)
          unfold maxLen at hr2
          have hmn : ∀ p q : Int, (p = y.l.length → q = 1024 - (pl : Int) → (if q < p then q else p) = (t : Int)) := by
            intro p q h1 h2; subst h1 h2; split <;> omega
          have hmn := hmn _ _ rfl rfl
          have hwr : IntKind.i64.wrap (1024 - (pl : Int)) = 1024 - (pl : Int) := wrap_small (by omega) (by omega)
          have k1 : t ≤ y.l.length := by omega
          have k2 : t ≤ y.c := by omega
          have k3 : t ≤ 1024 := by omega
          clear hd hP q1 q2 q3 q4 hy hat hr1 hbl hbF hpl ht hf htk hv hv1 hv2
          go_wp2_with fail
          go_quiet (fail)
          go_wp2_with fail
          clear hmn
          go_region_law (refine step_append_own2 rfl (.tmp 48) (.tmp 54) 72 rfl 5 i0 (.int .u8 0) Tryd.underlying72 HI.out.1 HI.out.2.1 HI.out.2.2.1 HI.out.2.2.2 rfl (.slice Av pl cv) (bv P) rfl (HO.out.keep fun _ _ => rfl) y.A t y.c (bv (y.l.take t)) rfl (by rw [bv_length]; exact HTK.out.symm) (HAT.out.srcs.same rfl) (bv_one _) HBD.out ?_; intro v8 w8 HO8 HM8; obtain ⟨hr8, hq8⟩ := HQ1.out.app (s' := (r.setI P).setI (P ++ y.l.take t)) 0 7 HO8.out HM8.out HV.out ((Mods.refl [] wr).same rfl rfl rfl rfl) rfl (by intro j hj; match j, hj with | 1, _ => rfl | 2, _ => rfl) rfl (fun z hz => HR.out z (List.mem_of_mem_take hz)); obtain ⟨A8, n8, c8, rfl, -, -, -⟩ := HO8.out.slice'; have HQ8 := Lib.hid hq8; have e8 : w8.cell? ⟨x.b, 7, none⟩ = some (x1.v 0) := (by rw [← HB1.out]; exact hr8.cell 7); have f8 : ∀ j, w8.frozen? ⟨x.b, j, none⟩ = false := (by rw [← HB1.out]; exact hr8.free); clear hq8 hr8)
          all_goals
            go_wp2
            go_roundw
            case rel => exact ⟨k + 1, by omega, by go_num, by rw [HQE.out, List.length_append, HTK.out, ← HPL.out]; go_num, Lib.hid (by rw [HQE.out]; exact HTR.out _ (HQ8.out _ (by rw [HB1.out])))⟩
            case measure => simp [intOf]; omega
        · have HK := Lib.hid (show rs.take k = rs from List.take_of_length_le (by omega))
          rw [HK.out] at hP
          rw [HK.out, ← hP]
          have HD := Lib.hid hd.out
          obtain ⟨x1, q1, q2, -, -⟩ := hd.out
          have c11 := q1.row.cell 11
          have f11 := q1.row.free 11
          rw [q2] at c11 f11
          simp only [KR, Rn.setI, Cn.setI] at c11
          have HPE := Lib.hid hP
          obtain ⟨pl, hpl⟩ : ∃ pl, pl = P.length := ⟨_, rfl⟩
          rw [← hpl] at hPl hPi ⊢
          have HPL := Lib.hid hpl
          clear hd q1 q2 hP hpl
          by_cases hgt : r.c.inn.length < pl
          · have hd0 : decide (0 < ((pl : Int) - (r.c.inn.length : Int))) = true := by simp; omega
            have HE := Lib.hid (show r.c.send (flatR rs) = { r.c.setI P with mr := r.c.mr + 1 } by unfold Cn.send; rw [← HPE.out, ← HPL.out, if_pos hgt])
            rw [HE.out, ← HPE.out] at HN
            go_wp2
            go_ret2
            rw [HE.out]
            exact ⟨by rw [← HPE.out, ← HPL.out]; rfl, Lib.hid (HN.out _ (HD.out.put 11 _ (fun _ => rfl) (rbs_all rfl rfl rfl)))⟩
          · have hd0 : pl = r.c.inn.length := by omega
            subst hd0
            have HE := Lib.hid (show r.c.send (flatR rs) = r.c.setI P by unfold Cn.send; rw [← HPE.out, ← HPL.out, if_neg hgt]; rfl)
            rw [HE.out, ← HPE.out] at HN
            go_wp2
            go_ret2
            rw [HE.out]
            exact ⟨by rw [← HPE.out, ← HPL.out]; rfl, Lib.hid (HN.out _ HD.out)⟩
  · have he1 : S.sendE c = S.e1 c := by unfold Nt.sendE; rw [if_neg he]
    rw [(bad (by rw [he1]; exact he)).1, (bad (by rw [he1]; exact he)).2, he1]
    have HT := Lib.hid (rtheirs_no w g m F S c h he)
    obtain ⟨e0, he0⟩ : ∃ e0, e0 = S.e1 c := ⟨_, rfl⟩
    rw [← he0] at HT he ⊢
    have hne : (e0 != 0) = true := by simpa using he
    clear h he he0 he1 bad hp
    go_enter Tryd.func34, Tryd.ntmps34
    go_wp2_with fail
    refine HT.out.mono ?_
    rintro e w' ⟨rfl, rfl⟩
    go_wp2
    go_ret2
    exact ⟨rfl, HN0⟩
end Go.Proofs.YthaapkafamdhcaaDoor

/- What Write of the reference's net does. -/
namespace Go.Proofs.YthaapkafamdhcaaDoor
open Go.RowKit
set_option maxRecDepth 10000
set_option linter.unusedVariables false
set_option linter.unusedSimpArgs false

set_option maxHeartbeats 1000000 in
theorem rwrite_any (w : World) (g m : Nat) (F : List Nat) (S : Nt) (c : Int) (A : Option Addr) (n cp : Nat) (l : List Int) (h : RefA w g F S m) (hm : m + l.length ≤ 900000000) (hl : At w F A l) (hn : n = l.length) (hc1 : n ≤ cp) (hc2 : cp ≤ maxLen) :
    Calls Tryd.prog 44 #[.pointer (some ⟨g, 0, none⟩), .int .i64 c, .slice A n cp] w fun e w' =>
      e = .returned (.tuple #[.int .i64 (S.writeK c l : Nat), .int .i64 (S.writeE c l)]) ∧ Hid (RefTo w w' g F (S.write c l) (m + l.length)) := by
  subst hn
  have HN0 := Lib.hid (RefTo.same (h.more (n := m + l.length) (by omega) hm) (Mods.refl [] w))
  have bad : S.writeE c l ≠ 0 → S.writeK c l = 0 ∧ S.write c l = S := fun this => ⟨by unfold Nt.writeK; rw [if_neg this], by unfold Nt.write; rw [if_neg this]⟩
  by_cases he : S.e2 c = 0
  · have hE : S.writeE c l = if (S.get c).sht then 6 else if l.length = 0 then 0 else if (S.get c).win = 0 then 4 else 0 := by unfold Nt.writeE; rw [if_pos he]
    obtain ⟨i, s, rfl, hs, hi, hg, hb, ho, hfi⟩ := Nt.e2_zero he
    rw [hg] at hE
    obtain ⟨vl, vn, X, R, rfl, h⟩ := h
    obtain ⟨x, r, hx, hr, rfl, hc, ha⟩ := h.at_ hs
    have HT := Lib.hid (rours_at w g m i vl vn X R S x r h hx hr hb ho hfi)
    have c4 := hc.row.cell 6
    have c6 := hc.row.cell 10
    simp only [KR] at c4 c6
    cases hsh : r.c.sht with
    | true =>
      rw [hsh] at hE c4
      have he6 : S.writeE i l = 6 := hE
      rw [(bad (by rw [he6]; decide)).1, (bad (by rw [he6]; decide)).2, he6]
      clear h bad hE he6 hs hg hb ho hc hx he hsh hl hr ha
      go_enter Tryd.func44, Tryd.ntmps44
      go_wp2_with fail
      refine HT.out.mono ?_
      rintro e w' ⟨rfl, rfl⟩
      go_wp2
      go_ret2
      exact ⟨rfl, HN0⟩
    | false =>
      rw [hsh] at hE c4
      by_cases h0 : l.length = 0
      · have he0 : S.writeE i l = 0 := by rw [hE, if_pos h0]; rfl
        have hnil : l = [] := List.eq_nil_of_length_eq_zero h0
        subst hnil
        rw [show S.writeK i [] = 0 by unfold Nt.writeK; split <;> simp, show S.write i [] = S by unfold Nt.write; rw [if_pos he0, hg, List.take_nil, Cn.write_nil]; exact upd_same hs, he0]
        clear h bad hE he0 hs hg hb ho hc hx he hsh hl h0 hr ha
        go_enter Tryd.func44, Tryd.ntmps44
        go_wp2_with fail
        refine HT.out.mono ?_
        rintro e w' ⟨rfl, rfl⟩
        go_wp2
        go_ret2
        exact ⟨rfl, HN0⟩
      · rw [if_neg h0] at hE
        by_cases hw : r.c.win = 0
        · rw [if_pos hw] at hE
          rw [hw] at c6
          have he4 : S.writeE i l = 4 := hE
          rw [(bad (by rw [he4]; decide)).1, (bad (by rw [he4]; decide)).2, he4]
          clear h bad hE he4 hs hg hb ho hc hx he hsh hl hr ha
          go_enter Tryd.func44, Tryd.ntmps44
          go_wp2_with fail
          refine HT.out.mono ?_
          rintro e w' ⟨rfl, rfl⟩
          go_wp2
          go_ret2
          exact ⟨rfl, HN0⟩
        · rw [if_neg hw] at hE
          have he0 : S.writeE i l = 0 := hE
          have hf := h.ok.at_ hs
          obtain ⟨k, hk⟩ : ∃ k, k = min l.length r.c.win.toNat := ⟨_, rfl⟩
          have hK : S.writeK i l = k := by unfold Nt.writeK; rw [if_pos he0, hg, hk]
          have htl : (l.take k).length = k := by rw [List.length_take]; omega
          have hwr : r.c.write (l.take k) = { r.c with out := r.c.out ++ l.take k, win := r.c.win - k } := by unfold Cn.write; rw [htl]
          rw [hK, show S.write i l = S.upd i { r.c with out := r.c.out ++ l.take k, win := r.c.win - k } by unfold Nt.write; rw [if_pos he0, hg, hK, hwr], he0]
          have HN := Lib.hid (fun (w' : World) (hq : CnTo KR w w' x { r with c := { r.c with out := r.c.out ++ l.take k, win := r.c.win - k } }) => h.toC hx hr hq (ha.same rfl rfl rfl (.inl rfl) id) (h.ok.upd (n := m + l.length) (by omega) hm (by simp only [List.length_append, htl]; omega) fun hq => h.ok.op i _ hs hq))
          obtain ⟨Ao, co, hv, hv1, hv2⟩ := (hc.own 2).slice
          rw [bv_length] at hv hv1
          change x.v 2 = .slice Ao r.c.out.length co at hv
          have c8 := hc.row.cell 8
          simp only [KR] at c8
          replace c8 : w.cell? ⟨x.b, 8, none⟩ = some (.slice Ao r.c.out.length co) := by rw [← hv]; exact c8
          have HO := Lib.hid (show Own w 5 (.slice Ao r.c.out.length co) (bv r.c.out) by rw [← hv]; exact hc.own 2)
          have HV := Lib.hid hv
          have HH := Lib.hid hc
          have HAT := Lib.hid ((hl.sub (G := x.ft) fun b hb => .inl (ft_rsub hx b hb)).take k)
          have HR := Lib.hid hl.range
          have HTK := Lib.hid htl
          have HBD := Lib.hid (show (bv r.c.out).length + k ≤ 1000000000 by rw [bv_length]; omega)
          have hmn : ∀ p q : Int, p = (l.length : Int) → q = r.c.win → (if q < p then q else p) = (k : Int) := by
            intro p q h2 h3; subst h2 h3; split <;> omega
          have hmn := hmn _ _ rfl rfl
          obtain ⟨i0, hi0, hz, hsz, hby⟩ := info_parts u8_info3
          have HI := Lib.hid (And.intro hi0 (And.intro hz (And.intro hsz (show i0.bytes ≤ 8 by omega))))
          unfold maxLen at hc2
          have k1 : k ≤ l.length := by omega
          have k2 : k ≤ cp := by omega
          have k3 : (k : Int) ≤ r.c.win := by omega
          have k4 : r.c.win ≤ 1099511627776 := by omega
          have k5 : 0 ≤ r.c.win := by omega
          have f0 := hc.row.free
          have hwd : decide (r.c.win = 0) = false := decide_eq_false hw
          clear h bad hE he0 hs hg hb ho hc hx he hsh hl hK htl hwr hk hv hv1 hv2 hi0 hz hsz hby hf HN0 hfi hi hr ha
          go_enter Tryd.func44, Tryd.ntmps44
          go_wp2_with fail
          refine HT.out.mono ?_
          rintro e w' ⟨rfl, rfl⟩
          go_wp2_with fail
          clear hmn
          go_region_law (refine step_append_own2 rfl (.tmp 46) (.tmp 49) 72 rfl 5 i0 (.int .u8 0) Tryd.underlying72 HI.out.1 HI.out.2.1 HI.out.2.2.1 HI.out.2.2.2 rfl (.slice Ao r.c.out.length co) (bv r.c.out) rfl (HO.out.keep fun _ _ => rfl) A k cp (bv (l.take k)) rfl (by rw [bv_length]; exact HTK.out.symm) (HAT.out.srcs.same rfl) (bv_one _) HBD.out ?_; intro v8 w8 HO8 HM8; obtain ⟨hr8, hq8⟩ := HH.out.app (s' := { r with c := { r.c with out := r.c.out ++ l.take k } }) 2 8 HO8.out HM8.out HV.out ((Mods.refl [] w).same rfl rfl rfl rfl) rfl (by intro j hj; match j, hj with | 0, _ => rfl | 1, _ => rfl | 2, h => exact absurd rfl h) rfl (fun y hy => HR.out y (List.mem_of_mem_take hy)); obtain ⟨A8, n8, c9, rfl, -, -, -⟩ := HO8.out.slice'; have HQ8 := Lib.hid hq8; have e8 : w8.cell? ⟨x.b, 8, none⟩ = some (x.v 2) := hr8.cell 8; have e6 : w8.cell? ⟨x.b, 10, none⟩ = some (.int .i64 r.c.win) := hr8.cell 10; have f8 : ∀ j, w8.frozen? ⟨x.b, j, none⟩ = false := hr8.free; clear hq8 hr8)
          all_goals
            go_wp2
            go_ret2
            exact ⟨rfl, Lib.hid (HN.out _ ((HQ8.out _ rfl).put 10 _ (fun _ => rfl) (rbs_all rfl rfl rfl)))⟩
  · have he1 : S.writeE c l = S.e2 c := by unfold Nt.writeE; rw [if_neg he]
    rw [(bad (by rw [he1]; exact he)).1, (bad (by rw [he1]; exact he)).2, he1]
    have HT := Lib.hid (rours_no w g m F S c h he)
    obtain ⟨e0, he0⟩ : ∃ e0, e0 = S.e2 c := ⟨_, rfl⟩
    rw [← he0] at HT he ⊢
    have hne : (e0 != 0) = true := by simpa using he
    clear h he he0 he1 bad hl
    go_enter Tryd.func44, Tryd.ntmps44
    go_wp2_with fail
    refine HT.out.mono ?_
    rintro e w' ⟨rfl, rfl⟩
    go_wp2
    go_ret2
    exact ⟨rfl, HN0⟩
end Go.Proofs.YthaapkafamdhcaaDoor

/- What Read of the reference's net does. -/
namespace Go.Proofs.YthaapkafamdhcaaDoor
open Go.RowKit
set_option maxRecDepth 10000
set_option linter.unusedVariables false
set_option linter.unusedSimpArgs false

/-- v is a slice of these bytes. -/
def BytesIn (w : World) (v : Value) (l : List Int) : Prop := ∃ A n cp, v = .slice A n cp ∧ n = l.length ∧ At w [] A l
theorem BytesIn.nil (w : World) : BytesIn w (.slice none 0 0) [] := ⟨none, 0, 0, rfl, rfl, At.nil _ _ _⟩
theorem own_lit0 (w : World) : Own (w.alloc (.cells #[] 5)) 5 (.slice (some ⟨w.heap.size, 0, none⟩) 0 0) [] := Own.of_row (World.ownsRow_lit w #[] 0 (Nat.zero_le _) (by unfold maxLen; omega) rfl)
/-- v is a new slice of these bytes. -/
def FreshV (w w' : World) (v : Value) (l : List Int) : Prop := Own w' 5 v (bv l) ∧ Mods [] w w' ∧ ∀ k ∈ v.ownBlock.toList, w.heap.size ≤ k
theorem FreshV.app {w w8 : World} {v8 : Value} {l : List Int} {t : TypeId} (ho : Own w8 5 v8 ([] ++ bv l)) (hm : Mods (Value.slice (some ⟨w.heap.size, 0, none⟩) 0 0).ownBlock.toList (w.alloc (.cells #[] t)) w8 ∧ (v8.ownBlock = (Value.slice (some ⟨w.heap.size, 0, none⟩) 0 0).ownBlock ∨ v8.ownBlock = some (w.alloc (.cells #[] t)).heap.size)) : FreshV w w8 v8 l := by
  refine ⟨ho, ((Mods.refl [] w).alloc _).trans hm.1 (fun k hk => .inr (by simp [Value.ownBlock] at hk; omega)), fun k hk => ?_⟩
  rcases hm.2 with e | e
  · rw [e] at hk; simp [Value.ownBlock] at hk; omega
  · rw [e] at hk; simp at hk; omega
/-- The row of what is left is another one. -/
theorem rread_mid {w w2 w4 : World} {x : Cb} {r : Rn} {v2 v4 : Value} {l2 l4 : List Int} (h : CnA KR w x r) (h2 : FreshV w w2 v2 l2) (h4 : FreshV w2 w4 v4 l4) (hr : ∀ y ∈ l4, 0 ≤ y ∧ y ≤ 255) :
    CnA KR (w4.setCell ⟨x.b, 7, none⟩ v4) (x.set 0 v4) { r with c := r.c.setI l4, inn := l4 } ∧ Mods x.ft w (w4.setCell ⟨x.b, 7, none⟩ v4) ∧ ∀ k ∈ (x.set 0 v4).ft, k ∈ x.ft ∨ w.heap.size ≤ k := by
  have hm := h2.2.1.trans h4.2.1 (by simp)
  have hv : ∀ k ∈ v4.ownBlock.toList, k ∈ (x.v 0).ownBlock.toList ∨ w.heap.size ≤ k := fun k hk => .inr (Nat.le_trans h2.2.1.size (h4.2.2 k hk))
  refine ⟨h.swap 0 7 v4 (hm.more (by simp)) h4.1 hv rfl ?_ hr, (hm.more (by simp)).setCell (.inl ((x.mem_ft _).2 (.inl rfl))) _, Cb.set_ft x 0 v4 hv⟩
  intro j hj
  match j, hj with
  | 1, _ => rfl
  | 2, _ => rfl
set_option maxHeartbeats 1000000 in
theorem rread_any (w : World) (g m : Nat) (F : List Nat) (S : Nt) (c k0 : Int) (h : RefA w g F S m) (hm : m + 1024 ≤ 900000000) :
    Calls Tryd.prog 42 #[.pointer (some ⟨g, 0, none⟩), .int .i64 c, .int .i64 k0] w fun e w' =>
      ∃ v, e = .returned (.tuple #[v, .int .i64 (S.readE c k0)]) ∧ Hid (RefTo w w' g F (S.read c k0) (m + 1024) ∧ BytesIn w' v (S.readB c k0)) := by
  have hN := RefTo.same (h.more (n := m + 1024) (by omega) hm) (Mods.refl [] w)
  have HN0 := Lib.hid (And.intro hN (BytesIn.nil w))
  have bad : S.readE c k0 ≠ 0 → S.readB c k0 = [] ∧ S.read c k0 = S := fun this => ⟨by unfold Nt.readB; rw [if_neg this], by unfold Nt.read; rw [if_neg this]⟩
  clear hN
  by_cases h1 : k0 < 1
  · have he : S.readE c k0 = 1 := by unfold Nt.readE; rw [if_pos h1]
    rw [(bad (by rw [he]; decide)).1, (bad (by rw [he]; decide)).2, he]
    clear h bad he
    go_enter Tryd.func42, Tryd.ntmps42
    go_wp2
    go_ret2
    exact ⟨_, rfl, HN0⟩
  by_cases he : S.e2 c = 0
  · have hE : S.readE c k0 = if (S.get c).inn.length = 0 then (if (S.get c).hlv then 0 else 4) else 0 := by unfold Nt.readE; rw [if_neg h1, if_pos he]
    obtain ⟨i, s, rfl, hs, hi, hg, hb, ho, hfi⟩ := Nt.e2_zero he
    rw [hg] at hE
    obtain ⟨vl, vn, X, R, rfl, h⟩ := h
    obtain ⟨x, r, hx, hr, rfl, hc, ha⟩ := h.at_ hs
    have HT := Lib.hid (rours_at w g m i vl vn X R S x r h hx hr hb ho hfi)
    have hin : r.inn = r.c.inn := ha.inn (by rw [ho]; simp)
    have c3 := hc.row.cell 5
    have c5 := hc.row.cell 7
    simp only [KR] at c3 c5
    obtain ⟨Av, cv, hv, hv1, hv2⟩ := (hc.own 0).slice
    rw [bv_length] at hv hv1
    change x.v 0 = .slice Av r.inn.length cv at hv
    change r.inn.length ≤ cv at hv1
    rw [hin] at hv hv1
    by_cases h0 : r.c.inn.length = 0
    · replace c5 : w.cell? ⟨x.b, 7, none⟩ = some (.slice Av 0 cv) := by rw [← h0, ← hv]; exact c5
      rw [if_pos h0] at hE
      cases hh : r.c.hlv with
      | false =>
        rw [hh] at hE c3
        have he4 : S.readE i k0 = 4 := hE
        rw [(bad (by rw [he4]; decide)).1, (bad (by rw [he4]; decide)).2, he4]
        clear h bad hE he4 hs hg hb ho hc hx he hh hv hv1 hv2 h0 hr ha hin
        go_enter Tryd.func42, Tryd.ntmps42
        go_wp2_with fail
        refine HT.out.mono ?_
        rintro e w' ⟨rfl, rfl⟩
        go_wp2
        go_ret2
        exact ⟨_, rfl, HN0⟩
      | true =>
        rw [hh] at hE c3
        have he0 : S.readE i k0 = 0 := hE
        have hnil : r.c.inn = [] := List.eq_nil_of_length_eq_zero h0
        rw [show S.readB i k0 = [] by unfold Nt.readB; rw [if_pos he0, hg, hnil]; simp, show S.read i k0 = S by
          unfold Nt.read; rw [if_pos he0, hg, Cn.read_nil r.c k0 hnil]; exact upd_same hs, he0]
        clear h bad hE he0 hs hg hb ho hc hx he hh hv hv1 hv2 h0 hnil hr ha hin
        go_enter Tryd.func42, Tryd.ntmps42
        go_wp2_with fail
        refine HT.out.mono ?_
        rintro e w' ⟨rfl, rfl⟩
        go_wp2
        go_ret2
        exact ⟨_, rfl, HN0⟩
    · rw [if_neg h0] at hE
      have he0 : S.readE i k0 = 0 := hE
      have hf := h.ok.at_ hs
      obtain ⟨k, hk⟩ : ∃ k, k = min k0.toNat r.c.inn.length := ⟨_, rfl⟩
      have htk : r.c.inn.take k0.toNat = r.c.inn.take k := by
        rw [hk]
        by_cases h2 : k0.toNat ≤ r.c.inn.length
        · rw [Nat.min_eq_left h2]
        · rw [Nat.min_eq_right (by omega), List.take_of_length_le (by omega), List.take_of_length_le (Nat.le_refl _)]
      have hdr : r.c.inn.drop k0.toNat = r.c.inn.drop k := by
        rw [hk]
        by_cases h2 : k0.toNat ≤ r.c.inn.length
        · rw [Nat.min_eq_left h2]
        · rw [Nat.min_eq_right (by omega), List.drop_of_length_le (by omega), List.drop_of_length_le (Nat.le_refl _)]
      have hrd : r.c.read k0 = { r.c.setI (r.c.inn.drop k) with tak := r.c.tak ++ r.c.inn.take k } := by unfold Cn.read Cn.setI; rw [htk, hdr]
      rw [show S.readB i k0 = r.c.inn.take k by unfold Nt.readB; rw [if_pos he0, hg, htk], show S.read i k0 = S.upd i { r.c.setI (r.c.inn.drop k) with tak := r.c.tak ++ r.c.inn.take k } by unfold Nt.read; rw [if_pos he0, hg, hrd], he0]
      have htl : (r.c.inn.take k).length = k := by rw [List.length_take]; omega
      have HTL := Lib.hid htl
      have hdl : (r.c.inn.drop k).length ≤ 1024 := by rw [List.length_drop]; omega
      have HN := Lib.hid (fun (w' : World) (hq : CnTo KR w w' x { r with c := { r.c.setI (r.c.inn.drop k) with tak := r.c.tak ++ r.c.inn.take k }, inn := r.c.inn.drop k }) => h.toC hx hr hq (ha.same rfl rfl rfl (.inl rfl) (fun _ => rfl)) (h.ok.upd (n := m + 1024) (by omega) hm (by simp only [Cn.setI, List.length_append, htl]; omega) fun hq => h.ok.op i _ hs hq))
      obtain ⟨Aq, ct, hvt, hvt1, hvt2⟩ := (hc.own 1).slice
      rw [bv_length] at hvt hvt1
      change x.v 1 = .slice Aq r.c.tak.length ct at hvt
      have c9 := hc.row.cell 9
      simp only [KR] at c9
      replace c9 : w.cell? ⟨x.b, 9, none⟩ = some (.slice Aq r.c.tak.length ct) := by rw [← hvt]; exact c9
      replace c5 : w.cell? ⟨x.b, 7, none⟩ = some (.slice Av r.c.inn.length cv) := by rw [← hv]; exact c5
      have f0 := hc.row.free
      have HC := Lib.hid hc
      have HV := Lib.hid hv
      have HVT := Lib.hid hvt
      have hown : Own w 5 (.slice Av r.c.inn.length cv) (bv r.c.inn) := by rw [← hv, ← hin]; exact hc.own 0
      have HSR := Lib.hid (show Src w Av (bv (r.c.inn.take k)) by rw [← bv_take]; exact hown.cutTo k)
      have k1 : k ≤ r.c.inn.length := by omega
      obtain ⟨B, hB⟩ : ∃ B, B = (if cv = k then Av else Option.map (fun x => x.add k) Av) := ⟨_, rfl⟩
      have HSR2 := Lib.hid (show Src w B (bv (r.c.inn.drop k)) by
        rw [hB, ← bv_drop]
        exact (hown.cut k k1).src)
      have hoff := hB.symm
      have HR := Lib.hid (fun y hy => by rw [← hin] at hy; exact hc.rng 0 y hy : ∀ y ∈ r.c.inn, 0 ≤ y ∧ y ≤ 255)
      unfold maxLen at hv2
      have k2 : (k : Int) ≤ (cv : Int) := by omega
      have k3 : (0 : Int) ≤ (k : Int) := by omega
      have hmn : ∀ p q : Int, p = k0 → q = (r.c.inn.length : Int) → (if q < p then q else p) = (k : Int) := by
        intro p q h2 h3; subst h2 h3; split <;> omega
      have hmn := hmn _ _ rfl rfl
      obtain ⟨i0, hi0, hz, hsz, hby⟩ := info_parts u8_info3
      have HI := Lib.hid (And.intro hi0 (And.intro hz (And.intro hsz (show i0.bytes ≤ 8 by omega))))
      have hil : r.c.inn.length ≤ 1024 := by omega
      have HTB := Lib.hid (show r.c.tak.length ≤ 900000000 by omega)
      have HDL := Lib.hid (show (r.c.inn.drop k).length = r.c.inn.length - k from List.length_drop)
      have h0d : decide ((r.c.inn.length : Int) = 0) = false := decide_eq_false (by omega)
      have z5 := fun o => cell_alloc c5 o
      clear h bad hE he0 hs hg hb ho hc hx he hv hv1 hvt hvt1 hvt2 htk hdr hrd htl hdl hk hf hi0 hz hsz hby HN0 hfi hi hr ha hin hown hB
      go_enter Tryd.func42, Tryd.ntmps42
      go_wp2_with fail
      refine HT.out.mono ?_
      rintro e w' ⟨rfl, rfl⟩
      go_wp2_with (first
        | (at_builtin; refine wpList_append_own2 _ rfl (.tmp 40) (.tmp 46) 72 rfl 5 i0 (.int .u8 0) Tryd.underlying72 HI.out.1 HI.out.2.1 HI.out.2.2.1 HI.out.2.2.2 rfl (.slice (some ⟨w.heap.size, 0, none⟩) 0 0) [] rfl (own_lit0 w) Av k cv (bv (r.c.inn.take k)) rfl (by rw [bv_length]; exact HTL.out.symm) (HSR.out.mods ((Mods.refl [] w).alloc _) (by simp)) (bv_one _) (by simp; omega) ?_; intro v2 w2 HO2 HM2; have HF2 := Lib.hid (FreshV.app HO2.out HM2.out); obtain ⟨A2, n2, p2, rfl, hn2, -, -⟩ := HO2.out.slice'; have HN2 := Lib.hid (show n2 = k by rw [hn2, List.nil_append, bv_length, HTL.out]); clear hn2; have y5 := cell_mods c5 HF2.out.2.1 (by simp); have y9 := cell_mods c9 HF2.out.2.1 (by simp); have yz := fun o => cell_alloc y5 o; have HS2 := Lib.hid (HSR2.out.mods (HF2.out.2.1.alloc (.cells #[] 5)) (by simp)))
        | (at_builtin; refine wpList_append_own2 _ rfl (.tmp 49) (.tmp 55) 72 rfl 5 i0 (.int .u8 0) Tryd.underlying72 HI.out.1 HI.out.2.1 HI.out.2.2.1 HI.out.2.2.2 rfl (.slice (some ⟨w2.heap.size, 0, none⟩) 0 0) [] rfl (own_lit0 w2) B (r.c.inn.length - k) (cv - k) (bv (r.c.inn.drop k)) rfl (by rw [bv_length]; exact HDL.out.symm) HS2.out (bv_one _) (by simp; omega) ?_; intro v4 w4 HO4 HM4; have HF4 := Lib.hid (FreshV.app HO4.out HM4.out); obtain ⟨A4, n4, p4, rfl, -, -, -⟩ := HO4.out.slice'; have x5 := cell_mods y5 HF4.out.2.1 (by simp); have x9 := cell_mods y9 HF4.out.2.1 (by simp); have fz : ∀ j, w4.frozen? ⟨x.b, j, none⟩ = false := (fun j => ((HF2.out.2.1.trans HF4.out.2.1 (by simp)).frozen (p := ⟨x.b, j, none⟩) HC.out.row.lt (by simp)).trans (f0 j)); have HC5 := Lib.hid (rread_mid HC.out HF2.out HF4.out (fun y hy => HR.out y (List.mem_of_mem_drop hy))); have HV5 := Lib.hid (show (x.set 0 (.slice A4 n4 p4)).v 1 = .slice Aq r.c.tak.length ct from HVT.out); have HO5 := Lib.hid (show Own (w4.setCell ⟨x.b, 7, none⟩ (.slice A4 n4 p4)) 5 (.slice Aq r.c.tak.length ct) (bv r.c.tak) by rw [← HV5.out]; exact HC5.out.1.own 1); have HP5 := Lib.hid (HF2.out.1.mods HF4.out.2.1 (by simp)); have HP6 := Lib.hid (HP5.out.keep (w' := w4.setCell ⟨x.b, 7, none⟩ (.slice A4 n4 p4)) fun b hb => heap_setCell_other w4 ⟨x.b, 7, none⟩ b _ (fun e => by have h1 := HF2.out.2.2 b hb; have h2 := HC.out.row.lt; have e : b = x.b := e; omega)))
        | (at_builtin; refine wpList_append_own2 _ rfl (.tmp 63) (.tmp 64) 72 rfl 5 i0 (.int .u8 0) Tryd.underlying72 HI.out.1 HI.out.2.1 HI.out.2.2.1 HI.out.2.2.2 rfl (.slice Aq r.c.tak.length ct) (bv r.c.tak) rfl HO5.out A2 n2 p2 (bv (r.c.inn.take k)) rfl (by rw [bv_length, HN2.out]; exact HTL.out.symm) HP6.out.src (bv_one _) (by rw [bv_length, HN2.out]; have := HTB.out; omega) ?_; intro v8 w8 HO8 HM8; have HQ8 := Lib.hid (HC5.out.1.app (s' := { r with c := { r.c.setI (r.c.inn.drop k) with tak := r.c.tak ++ r.c.inn.take k }, inn := r.c.inn.drop k }) 1 9 HO8.out HM8.out HV5.out (Mods.refl [] _) rfl (by intro j hj; match j, hj with | 0, _ => rfl | 2, _ => rfl) rfl (fun y hy => HR.out y (List.mem_of_mem_take hy))); obtain ⟨A8, n8, p8, rfl, -, -, -⟩ := HO8.out.slice'; have e9 : w8.cell? ⟨x.b, 9, none⟩ = some ((x.set 0 (.slice A4 n4 p4)).v 1) := HQ8.out.1.cell 9; have f8 : ∀ j, w8.frozen? ⟨x.b, j, none⟩ = false := HQ8.out.1.free; have HP8 := Lib.hid (HP6.out.mods HM8.out.1 (fun b hb hb2 => by have h1 := HF2.out.2.2 b hb; have h2 := (HC.out.own 1).lt b (by rw [HVT.out]; exact hb2); omega))))
      go_ret2
      refine ⟨_, rfl, Lib.hid ⟨HN.out _ (CnTo.trans (x := x) (x' := x.set 0 (.slice A4 n4 p4)) rfl HC5.out.2.1 HC5.out.2.2 (HQ8.out.2 _ rfl)), _, _, _, rfl, by rw [HN2.out, HTL.out], ?_⟩⟩
      exact At.of_own2 (HP8.out.keep fun b hb => heap_setCell_other w8 ⟨x.b, 9, none⟩ b _ (fun e => by have h1 := HF2.out.2.2 b hb; have h2 := HC.out.row.lt; have e : b = x.b := e; omega)) (by simp) (fun y hy => HR.out y (List.mem_of_mem_take hy))
  · have he1 : S.readE c k0 = S.e2 c := by unfold Nt.readE; rw [if_neg h1, if_neg he]
    rw [(bad (by rw [he1]; exact he)).1, (bad (by rw [he1]; exact he)).2, he1]
    have HT := Lib.hid (rours_no w g m F S c h he)
    obtain ⟨e0, he0⟩ : ∃ e0, e0 = S.e2 c := ⟨_, rfl⟩
    rw [← he0] at HT he ⊢
    have hne : (e0 != 0) = true := by simpa using he
    clear h he he0 he1 bad
    go_enter Tryd.func42, Tryd.ntmps42
    go_wp2_with fail
    refine HT.out.mono ?_
    rintro e w' ⟨rfl, rfl⟩
    go_wp2
    go_ret2
    exact ⟨_, rfl, HN0⟩
end Go.Proofs.YthaapkafamdhcaaDoor

/- What Accept of the reference's net does. -/
namespace Go.Proofs.YthaapkafamdhcaaDoor
open Go.RowKit
set_option maxRecDepth 10000
set_option linter.unusedVariables false
set_option linter.unusedSimpArgs false

theorem Src.keep0 {w w' : World} {A : Option Addr} {xs : List Value} (h : Src w A xs) (hm : Mods [] w w') : Src w' A xs := fun j u hu => by
  obtain ⟨b, o, e, hc⟩ := h j u hu
  exact ⟨b, o, e, cell_mods hc hm (by simp)⟩
theorem own_lit0i (w : World) : Own (w.alloc (.cells #[] 3)) 3 (.slice (some ⟨w.heap.size, 0, none⟩) 0 0) [] := Own.of_row (World.ownsRow_lit w #[] 0 (Nat.zero_le _) (by unfold maxLen; omega) rfl)
/-- The line is another one: the first who waits is gone of it. -/
structure AMid (w w1 : World) (g m : Nat) (vl vn : Value) (X : List Cb) (R : List Rn) (S : Nt) (v9 : Value) : Prop where
  row : Row w1 g 89 #[.int .i64 S.back, vl, v9, .int .i64 S.fail, .bool S.stop, .int .i64 (S.L.length : Nat)]
  ptr : Own w1 147 vl (pv X)
  num : Own w1 3 v9 (iv (lineN (S.first + 1) (S.L.length - (S.first + 1))))
  cs : Cs KR w1 X R
  mods : Mods (rfoot g vl vn X) w w1
  sub : ∀ k ∈ v9.ownBlock.toList, k ∈ rfoot g vl vn X ∨ w.heap.size ≤ k
theorem racc1 {w w8 : World} {g m : Nat} {vl vn v9 : Value} {X : List Cb} {R : List Rn} {S : Nt} (h : RefF w g vl vn X R S m)
    (ho : Own w8 3 v9 ([] ++ iv (lineN (S.first + 1) (S.L.length - (S.first + 1))))) (hm : Mods (Value.slice (some ⟨w.heap.size, 0, none⟩) 0 0).ownBlock.toList (w.alloc (.cells #[] 3)) w8 ∧ (v9.ownBlock = (Value.slice (some ⟨w.heap.size, 0, none⟩) 0 0).ownBlock ∨ v9.ownBlock = some (w.alloc (.cells #[] 3)).heap.size)) :
    Row w8 g 89 #[.int .i64 S.back, vl, vn, .int .i64 S.fail, .bool S.stop, .int .i64 (S.L.length : Nat)] ∧ ∀ w9, w9 = w8.setCell ⟨g, 2, none⟩ v9 → AMid w w9 g m vl vn X R S v9 := by
  have hq : Mods [] w w8 := ((Mods.refl [] w).alloc _).trans hm.1 (fun k hk => .inr (by simp [Value.ownBlock] at hk; omega))
  have hv : ∀ k ∈ v9.ownBlock.toList, w.heap.size ≤ k := fun k hk => by
    rcases hm.2 with e | e
    · rw [e] at hk; simp [Value.ownBlock] at hk; omega
    · rw [e] at hk; simp at hk; omega
  have h8 := h.keep (w' := w8) fun k hk => hq.block k (h.lt k hk) (by simp)
  refine ⟨h8.row, fun w9 e9 => ?_⟩
  subst e9
  refine ⟨?_, ?_, ?_, ?_, Mods.setCell (F := rfoot g vl vn X) (hq.more (by simp)) (p := ⟨g, 2, none⟩) (.inl (mem_rfoot.2 (.inl rfl))) v9, fun k hk => .inr (hv k hk)⟩
  · have := h8.row.set 2 v9
    simpa using this
  · exact h8.ptr.keep fun k hk => heap_setCell_other w8 ⟨g, 2, none⟩ k v9 (h8.ptr.ne_row h8.row (by decide) k hk)
  · rw [List.nil_append] at ho
    exact ho.keep fun k hk => heap_setCell_other w8 ⟨g, 2, none⟩ k v9 (ho.ne_row h8.row (by decide) k hk)
  · exact h8.cs.keep fun k hk => heap_setCell_other w8 ⟨g, 2, none⟩ k v9 (fun e => h8.g_fts (by have : k = g := e; rw [← this]; exact hk))
theorem racc2 {w w1 w2 : World} {g m : Nat} {vl vn v9 : Value} {X : List Cb} {R : List Rn} {S : Nt} {x : Cb} {r : Rn} (h : RefF w g vl vn X R S m) (hM : AMid w w1 g m vl vn X R S v9) (hx : X[S.first]? = some x) (hr : R[S.first]? = some r)
    (hc : CnTo KR w1 w2 x { r with c := { r.c with opn := true }, wts := false, was := true }) : RefTo w w2 g (rfoot g vl vn X) { S with first := S.first + 1, L := S.L.set S.first { r.c with opn := true } } m := by
  obtain ⟨x', h1, h2, h3, h4⟩ := hc
  have hlt : S.first < S.L.length := by rw [← h.len]; exact (List.getElem?_eq_some_iff.1 hx).1
  have hg1 : g ∉ fts X := h.g_fts
  have hsub : ∀ k ∈ x.ft, k ∈ fts X := fun k hk => mem_fts.2 ⟨_, x, hx, hk⟩
  have hrow : Row w2 g _ _ := hM.row.mods h3 fun hk => hg1 (hsub _ hk)
  have ha := h.st _ r hr
  have hrc : S.L[S.first]? = some r.c := by rw [← h.ag, List.getElem?_map, hr]; rfl
  have hin : r.inn = r.c.inn := ha.inn (by simp)
  refine ⟨rfoot g vl v9 (X.set S.first x'), ⟨vl, v9, X.set S.first x', R.set S.first { r with c := { r.c with opn := true }, wts := false, was := true }, rfl, ⟨?_, ?_, ?_, hM.cs.turn hx h1 h3 h4, ?_, fun j r2 hj => ?_, ?_⟩⟩, hM.mods.trans h3 fun k hk => .inl (ft_rsub hx k hk), fun k hk => ?_⟩
  · simp only [List.length_set]
    exact hrow
  · rw [pv_set hx h2]
    exact hM.ptr.mods h3 fun k hk hk2 => h.vl_fts k hk (hsub k hk2)
  · simp only [List.length_set]
    exact hM.num.mods h3 fun k hk hk2 => hM.cs.slice hM.num (by decide) (by decide) k hk (hsub k hk2)
  · rw [map_set_c, h.ag]
  · rw [List.getElem?_set] at hj
    by_cases hjf : S.first = j
    · subst hjf
      rw [if_pos rfl] at hj
      split at hj
      · injection hj with hj
        subst hj
        exact ⟨by simp, fun _ => hin, fun _ => by simp⟩
      · cases hj
    · rw [if_neg hjf] at hj
      have hs := h.st j r2 hj
      refine ⟨by rw [hs.wts]; simp; omega, fun hq => ?_, fun hq => by rw [hs.was hq]; simp; omega⟩
      refine hs.inn ?_
      rw [← hq]
      congr 1
      simp; omega
  · refine ⟨h.ok.b1, h.ok.b2, h.ok.f1, h.ok.f2, by simp; omega, by simpa using h.ok.n2, fun t ht => ?_, fun j t hj hop => ?_, h.ok.mm⟩
    · rcases List.mem_or_eq_of_mem_set ht with h5 | rfl
      · exact h.ok.cn t h5
      · exact h.ok.cn r.c (List.mem_of_getElem? hrc)
    · simp only at hj ⊢
      rw [List.getElem?_set] at hj
      split at hj
      · omega
      · have := h.ok.op j t hj hop; omega
  · rcases mem_rfoot.1 hk with h5 | h5 | h5 | h5
    · exact .inl (mem_rfoot.2 (.inl h5))
    · exact .inl (mem_rfoot.2 (.inr (.inl h5)))
    · exact hM.sub k h5
    · rcases fts_set hx h4 k h5 with h6 | h6
      · exact .inl (mem_rfoot.2 (.inr (.inr (.inr h6))))
      · exact .inr (Nat.le_trans hM.mods.size h6)
theorem iv_lineN_drop (f n : Nat) : (iv (lineN f (n + 1))).drop 1 = iv (lineN (f + 1) n) := by rw [lineN_succ]; rfl
set_option maxHeartbeats 2000000 in
theorem racc_any (w : World) (g m : Nat) (F : List Nat) (S : Nt) (h : RefA w g F S m) :
    Calls Tryd.prog 33 #[.pointer (some ⟨g, 0, none⟩)] w fun e w' => e = .returned (.tuple #[.int .i64 S.accC, .int .i64 S.accP, .int .i64 S.accE]) ∧ Hid (RefTo w w' g F S.acc m) := by
  have HS := Lib.hid (fun (w' : World) (hq : Mods [] w w') => RefTo.same h hq)
  have bad : S.accE ≠ 0 → S.accC = 0 ∧ S.accP = 0 := fun this => ⟨by unfold Nt.accC; rw [if_neg this], by unfold Nt.accP; rw [if_neg this]⟩
  obtain ⟨vl, vn, X, R, rfl, h⟩ := h
  obtain ⟨A, cc, rfl, hcc, -⟩ := h.slice
  obtain ⟨An, cn, rfl, hcn, hcm⟩ := h.line
  have c1 := h.row.cell 1
  have c2 := h.row.cell 2
  have c3 := h.row.cell 3
  have c4 := h.row.cell 4
  have f0 := h.row.free
  have hn1 := h.ok.n1
  cases hst : S.stop with
  | true =>
    rw [hst] at c4
    have he : S.accE = 6 := by unfold Nt.accE; rw [hst]; rfl
    rw [(bad (by rw [he]; decide)).1, (bad (by rw [he]; decide)).2, show S.acc = S by unfold Nt.acc; rw [he]; rfl, he]
    clear h bad he hst hcc hcn hcm
    go_enter Tryd.func33, Tryd.ntmps33
    go_wp2
    go_ret3
    exact ⟨rfl, Lib.hid (HS.out _ (Mods.refl _ _))⟩
  | false =>
    rw [hst] at c4
    have hwt : S.wait = ((S.L.length - S.first : Nat) : Int) := by unfold Nt.wait; omega
    have hE : S.accE = if ((S.L.length - S.first : Nat) : Int) = 0 then 2 else if 0 < S.fail then 7 else 0 := by unfold Nt.accE; rw [hst, hwt]; rfl
    have HH := Lib.hid h
    obtain ⟨k, hk⟩ : ∃ k, k = S.L.length - S.first := ⟨_, rfl⟩
    rw [← hk] at hE c2 hcn
    have HK := Lib.hid hk
    by_cases h0 : k = 0
    · have he : S.accE = 2 := by rw [hE, if_pos (by omega)]
      rw [(bad (by rw [he]; decide)).1, (bad (by rw [he]; decide)).2, show S.acc = S by unfold Nt.acc; rw [he]; rfl, he]
      subst h0
      clear h bad he hst hcc hE hk hwt hcn hcm
      go_enter Tryd.func33, Tryd.ntmps33
      go_wp2
      go_ret3
      exact ⟨rfl, Lib.hid (HS.out _ (Mods.refl _ _))⟩
    · have hkd : ((k : Int) == 0) = false := by simpa using h0
      by_cases hf : 0 < S.fail
      · have he : S.accE = 7 := by rw [hE, if_neg (by omega), if_pos hf]
        rw [(bad (by rw [he]; decide)).1, (bad (by rw [he]; decide)).2, show S.acc = { S with fail := S.fail - 1 } by unfold Nt.acc; rw [he]; rfl, he]
        have hf2 := h.ok.f2
        clear h bad he hst hcc hE hk hwt hcn hcm
        go_enter Tryd.func33, Tryd.ntmps33
        go_wp2
        go_ret3
        refine ⟨rfl, Lib.hid ⟨_, ⟨_, _, X, R, rfl, ⟨?_, HH.out.ptr.keep fun k hk => heap_setCell_other w ⟨g, 3, none⟩ k _ (HH.out.ptr.ne_row HH.out.row (by decide) k hk), HH.out.num.keep fun k hk => heap_setCell_other w ⟨g, 3, none⟩ k _ (HH.out.num.ne_row HH.out.row (by decide) k hk), HH.out.cs.keep fun k hk => heap_setCell_other w ⟨g, 3, none⟩ k _ (fun e => HH.out.g_fts (by have : k = g := e; rw [← this]; exact hk)), HH.out.ag, HH.out.st, ⟨HH.out.ok.b1, HH.out.ok.b2, by simp only; omega, by simp only; omega, HH.out.ok.n1, HH.out.ok.n2, HH.out.ok.cn, HH.out.ok.op, HH.out.ok.mm⟩⟩⟩, Mods.setCell (F := rfoot g (.slice A S.L.length cc) (.slice An (S.L.length - S.first) cn) X) (Mods.refl _ w) (p := ⟨g, 3, none⟩) (.inl (mem_rfoot.2 (.inl rfl))) _, fun k hk => .inl hk⟩⟩
        have := HH.out.row.set 3 (.int .i64 (S.fail - 1))
        simpa using this
      · have he : S.accE = 0 := by rw [hE, if_neg (by omega), if_neg hf]
        have hlt : S.first < S.L.length := by omega
        obtain ⟨s, hs⟩ : ∃ s, S.L[S.first]? = some s := ⟨_, List.getElem?_eq_getElem hlt⟩
        obtain ⟨x, r, hx, hr, rfl, hc, ha⟩ := h.at_ hs
        have hg : S.get S.first = r.c := by unfold Nt.get; rw [Nt.at_nat, hs]; rfl
        rw [show S.accC = S.first by unfold Nt.accC; rw [if_pos he], show S.accP = r.c.peer by unfold Nt.accP; rw [if_pos he, hg], show S.acc = { S with first := S.first + 1, L := S.L.set S.first { r.c with opn := true } } by unfold Nt.acc; rw [if_pos he, hg], he]
        obtain ⟨b, o, rfl, ci⟩ := h.cell hx
        have hnum : Own w 3 (.slice An k cn) (iv (lineN S.first k)) := by rw [hk]; exact h.num
        obtain ⟨k', rfl⟩ : ∃ k', k = k' + 1 := ⟨k - 1, by omega⟩
        obtain ⟨nb, no, rfl, cz⟩ := hnum.src 0 (.int .i64 (S.first : Nat)) (by rw [lineN_succ]; rfl)
        rw [Nat.add_zero] at cz
        have hcut := hnum.cut 1 (by omega)
        rw [iv_lineN_drop] at hcut
        obtain ⟨B, hB⟩ : ∃ B : Option Addr, B = (if cn = 1 then some ⟨nb, no, none⟩ else some ⟨nb, no + 1, none⟩) := ⟨_, rfl⟩
        replace hcut : Own w 3 (.slice B (k' + 1 - 1) (cn - 1)) (iv (lineN (S.first + 1) k')) := by rw [hB]; exact hcut
        have HCS := Lib.hid hcut.src
        have hoff := hB.symm
        have HX := Lib.hid hx
        have HR := Lib.hid hr
        have HK9 := Lib.hid (show k' ≤ 65536 by have := h.ok.n2; omega)
        have HKK := Lib.hid (show S.L.length - (S.first + 1) = k' by omega)
        have a1 := fun o => cell_alloc c1 o
        have a2 := fun o => cell_alloc c2 o
        obtain ⟨i1, hi0, hz, hsz, hby⟩ := info_parts int_info3
        have HJ := Lib.hid (And.intro hi0 (And.intro hz (And.intro hsz (show i1.bytes ≤ 8 by omega))))
        unfold maxLen at hcm
        clear h bad he hst hcc hE hk hwt hg hx hs hr hc ha hnum hcut hB hi0 hz hsz hby
        go_enter Tryd.func33, Tryd.ntmps33
        go_wp2_with (at_builtin; (refine wpList_append_own2 _ rfl (.tmp 35) (.tmp 40) 23 rfl 3 i1 (.int .i64 0) Tryd.underlying23 HJ.out.1 HJ.out.2.1 HJ.out.2.2.1 HJ.out.2.2.2 rfl (.slice (some ⟨w.heap.size, 0, none⟩) 0 0) [] rfl (own_lit0i w) B k' (cn - 1) (iv (lineN (S.first + 1) k')) rfl (by simp [iv, lineN_length]) (Src.keep0 HCS.out ((Mods.refl [] w).alloc _)) (by intro u hu; obtain ⟨_, _, rfl⟩ := List.mem_map.1 hu; rfl) (by have := HK9.out; simp; omega) ?_; intro v8 w8 HO8 HM8; have HQ8 := Lib.hid (racc1 HH.out (by rw [HKK.out]; exact HO8.out) HM8.out); obtain ⟨A8, n8, p8, rfl, -, -, -⟩ := HO8.out.slice'; have e2 : w8.cell? ⟨g, 2, none⟩ = some (.slice (some ⟨nb, no, none⟩) (k' + 1) cn) := (by rw [HK.out]; exact HQ8.out.1.cell 2); have f8 := HQ8.out.1.free))
        obtain ⟨w9, hw9, HM9⟩ : ∃ w9, w9 = w8.setCell ⟨g, 2, none⟩ (.slice A8 n8 p8) ∧ Hid (AMid w w9 g m (.slice (some ⟨b, o, none⟩) S.L.length cc) (.slice (some ⟨nb, no, none⟩) (S.L.length - S.first) cn) X R S (.slice A8 n8 p8)) := ⟨_, rfl, Lib.hid (HQ8.out.2 _ rfl)⟩
        rw [← hw9]
        clear hw9 HQ8 e2 f8 HO8 HM8 c1 c2 c3 c4 f0 ci cz a1 a2 hoff HCS
        have d1 : w9.cell? ⟨g, 1, none⟩ = some (.slice (some ⟨b, o, none⟩) S.L.length cc) := HM9.out.row.cell 1
        have p1 : w9.cell? ⟨b, o + S.first, none⟩ = some (.pointer (some ⟨x.b, 0, none⟩)) := by
          obtain ⟨b', o', e, hc⟩ := HM9.out.ptr.src S.first _ (pv_at HX.out)
          cases e
          exact hc
        have HC := Lib.hid (HM9.out.cs.at_ S.first x r HX.out HR.out)
        have q0 : w9.cell? ⟨x.b, 0, none⟩ = some (.int .i64 r.c.peer) := HC.out.row.cell 0
        have q1 : w9.cell? ⟨x.b, 1, none⟩ = some (.bool r.wts) := HC.out.row.cell 1
        have q2 : w9.cell? ⟨x.b, 2, none⟩ = some (.bool r.c.opn) := HC.out.row.cell 2
        have q3 : w9.cell? ⟨x.b, 3, none⟩ = some (.bool r.was) := HC.out.row.cell 3
        have fx := HC.out.row.free
        have e1 : ¬ g = x.b := fun e => HH.out.g_fts (by rw [e]; exact mem_fts.2 ⟨_, x, HX.out, (x.mem_ft _).2 (.inl rfl)⟩)
        have e2 : ¬ b = x.b := fun e => HH.out.vl_fts b (by simp [Value.ownBlock]) (by rw [e]; exact mem_fts.2 ⟨_, x, HX.out, (x.mem_ft _).2 (.inl rfl)⟩)
        have e3 : ¬ x.b = g := fun e => e1 e.symm
        have e4 : ¬ x.b = b := fun e => e2 e.symm
        go_region_held3 (fun w' => w'.cell? ⟨g, 1, none⟩ = some (.slice (some ⟨b, o, none⟩) S.L.length cc) ∧ w'.cell? ⟨b, o + S.first, none⟩ = some (.pointer (some ⟨x.b, 0, none⟩))) (go_keep) (fail)
        obtain ⟨wA, hwA, HA, g1, g2, g3⟩ : ∃ wA, wA = (((w9.setCell ⟨x.b, 1, none⟩ (.bool false)).setCell ⟨x.b, 2, none⟩ (.bool true)).setCell ⟨x.b, 3, none⟩ (.bool true)).drew ∧ Hid (RefTo w wA g (rfoot g (.slice (some ⟨b, o, none⟩) S.L.length cc) (.slice (some ⟨nb, no, none⟩) (S.L.length - S.first) cn) X) { S with first := S.first + 1, L := S.L.set S.first { r.c with opn := true } } m) ∧ wA.cell? ⟨g, 1, none⟩ = some (.slice (some ⟨b, o, none⟩) S.L.length cc) ∧ wA.cell? ⟨b, o + S.first, none⟩ = some (.pointer (some ⟨x.b, 0, none⟩)) ∧ wA.cell? ⟨x.b, 0, none⟩ = some (.int .i64 r.c.peer) := by
          have hc : CnTo KR w9 _ x _ := CnTo.put (s' := { r with c := { r.c with opn := true }, wts := false, was := true }) (CnTo.put (s' := { r with c := { r.c with opn := true }, wts := false }) (CnTo.put (s' := { r with wts := false }) (CnTo.refl HC.out) 1 (.bool false) (fun _ => rfl) (rbs_all rfl rfl rfl)) 2 (.bool true) (fun _ => rfl) (rbs_all rfl rfl rfl)) 3 (.bool true) (fun _ => rfl) (rbs_all rfl rfl rfl)
          have hm : Mods [x.b] w9 (((w9.setCell ⟨x.b, 1, none⟩ (.bool false)).setCell ⟨x.b, 2, none⟩ (.bool true)).setCell ⟨x.b, 3, none⟩ (.bool true)) := Mods.setCell (Mods.setCell (Mods.setCell (Mods.refl _ w9) (p := ⟨x.b, 1, none⟩) (.inl (by simp)) _) (p := ⟨x.b, 2, none⟩) (.inl (by simp)) _) (p := ⟨x.b, 3, none⟩) (.inl (by simp)) _
          refine ⟨_, rfl, Lib.hid ((racc2 HH.out HM9.out HX.out HR.out hc).quiet (Mods.refl _ _).drew), ?_, ?_, ?_⟩
          · exact cell_mods d1 hm.drew (by simpa using e1)
          · exact cell_mods p1 hm.drew (by simpa using e2)
          · obtain ⟨x', h1, h2, -, -⟩ := hc
            have := h1.row.cell 0
            rw [h2] at this
            exact this
        rw [← hwA]
        clear hwA d1 p1 q0 q1 q2 q3 fx
        go_wp2_with fail
        go_quiet (fail)
        go_wp2
        go_ret3
        exact ⟨rfl, Lib.hid (HA.out.quiet ((Mods.refl _ _).drewN _))⟩
end Go.Proofs.YthaapkafamdhcaaDoor

/- What Close of the reference's net does. -/
namespace Go.Proofs.YthaapkafamdhcaaDoor
open Go.RowKit
set_option maxRecDepth 10000
set_option linter.unusedVariables false
set_option linter.unusedSimpArgs false

theorem RefTo.trans {w w1 w2 : World} {g n : Nat} {F F1 : List Nat} {S : Nt} (hm : Mods F w w1) (hf : ∀ k ∈ F1, k ∈ F ∨ w.heap.size ≤ k) (h : RefTo w1 w2 g F1 S n) : RefTo w w2 g F S n := by
  obtain ⟨F', h1, h2, h3⟩ := h
  refine ⟨F', h1, hm.trans h2 hf, fun k hk => ?_⟩
  rcases h3 k hk with h | h
  · exact hf k h
  · exact .inr (Nat.le_trans hm.size h)
/-- One is closed. -/
theorem Ag.shut_ {f i : Nat} {r : Rn} (h : Ag f i r) (hi : i < f) : Ag f i { r with c := { r.c with opn := false, inn := [] } } :=
  ⟨h.wts, fun hq => by simp [hi] at hq, h.was⟩
theorem upd_inn_ok {S : Nt} {m i : Nat} {s : Cn} (h : S.Ok m) (hs : S.L[i]? = some s) : (S.upd i { s with opn := false, inn := [] }).Ok m :=
  h.upd (Nat.le_refl m) h.mm (by have := h.at_ hs; simp only; simp; omega) fun hq => by simp at hq
set_option maxHeartbeats 2000000 in
theorem rclose_any (w : World) (g m k c : Nat) (F : List Nat) (S : Nt) (A : Option Addr) (l : List Int) (h : RefA w g F S m) (hl : NumsAt w F A l) (hk : k = l.length) (hl2 : l.length ≤ 1000000) :
    Calls Tryd.prog 41 #[.pointer (some ⟨g, 0, none⟩), .slice A k c] w fun e w' => e = .returned (.int .i64 (S.closeN l : Nat)) ∧ Hid (RefTo w w' g F (S.close l) m) := by
  subst hk
  have HL := Lib.hid hl
  have HH := Lib.hid h
  clear hl h
  go_enter Tryd.func41, Tryd.ntmps41
  go_wp2
  go_loopw [5, 6] (fun n i wr => ∃ j : Nat, j ≤ l.length ∧ i = .int .i64 j ∧ n = .int .i64 (S.closeN (l.take j) : Nat) ∧ Hid (RefTo w wr g F (S.close (l.take j)) m)) (fun _ i _ => l.length - (intOf i).toNat)
  case atStart => exact ⟨0, Nat.zero_le _, rfl, rfl, Lib.hid (RefTo.same HH.out (Mods.refl _ _))⟩
  case round =>
    obtain ⟨j, hj, rfl, rfl, hd⟩ := hrel
    have hcl := Nt.closeN_le S (l.take j)
    rw [List.length_take] at hcl
    obtain ⟨q, hq⟩ : ∃ q, q = S.closeN (l.take j) := ⟨_, rfl⟩
    rw [← hq] at hcl ⊢
    obtain ⟨S1, hS1⟩ : ∃ S1, S1 = S.close (l.take j) := ⟨_, rfl⟩
    rw [← hS1] at hd
    by_cases hlt : j < l.length
    · obtain ⟨F1, hA, hM, hF1⟩ := hd.out
      obtain ⟨lb, lo, rfl, hb0, hbF, cc⟩ := HL.out j l[j] (List.getElem?_eq_getElem hlt)
      replace cc := cell_mods cc hM hbF
      have hsn : l.take (j + 1) = l.take j ++ [l[j]] := List.take_succ_eq_append_getElem hlt
      have HSC := Lib.hid (show S.close (l.take (j + 1)) = S1.close1 l[j] by rw [hsn, Nt.close_snoc, ← hS1])
      have HSN := Lib.hid (show S.closeN (l.take (j + 1)) = q + if S1.isO l[j] then 1 else 0 by rw [hsn, Nt.closeN_snoc, ← hS1, ← hq])
      obtain ⟨y, hy⟩ : ∃ y, y = l[j] := ⟨_, rfl⟩
      rw [← hy] at cc HSC HSN
      have HTR := Lib.hid (fun (w2 : World) (S2 : Nt) (hto : RefTo wr w2 g F1 S2 m) => RefTo.trans hM hF1 hto)
      have HSM := Lib.hid (fun (w2 : World) (hm2 : Mods [] wr w2) => RefTo.same hA hm2)
      have hbF1 : lb ∉ F1 := fun hk => (hF1 lb hk).elim hbF fun h2 => by omega
      clear hd hy hq hS1 hsn hb0 hbF
      cases hs : S1.at? y with
      | none =>
        have hio : S1.isO y = false := by unfold Nt.isO; rw [Nt.get_none hs]; rfl
        have HS1 := Lib.hid (show S.close (l.take (j + 1)) = S1 by rw [HSC.out]; unfold Nt.close1; rw [hio]; rfl)
        have HN1 := Lib.hid (show S.closeN (l.take (j + 1)) = q by rw [HSN.out, hio]; rfl)
        have hcc := Nt.at_none hs
        obtain ⟨vl, vn, X, R, rfl, hA⟩ := hA
        obtain ⟨A1, c2, rfl, -, -⟩ := hA.slice
        have c1 := hA.row.cell 1
        clear hA hM hF1 hs hio hbF1
        by_cases h0 : 0 ≤ y
        · have hd0 : decide (0 ≤ y) = true := by simpa using h0
          have hd1 : decide (y < (S1.L.length : Int)) = false := by simp; omega
          clear hcc
          go_wp2_with fail
          go_quiet (fail)
          go_wp2
          go_roundw
          case rel => exact ⟨j + 1, by omega, by go_num, by rw [HN1.out], Lib.hid (by rw [HS1.out]; exact HTR.out _ _ (HSM.out _ ((Mods.refl _ _).drewN _)))⟩
          case measure => simp [intOf]; omega
        · have hd0 : decide (0 ≤ y) = false := by simpa using h0
          clear hcc h0
          go_wp2_with fail
          go_quiet (fail)
          go_wp2
          go_roundw
          case rel => exact ⟨j + 1, by omega, by go_num, by rw [HN1.out], Lib.hid (by rw [HS1.out]; exact HTR.out _ _ (HSM.out _ ((Mods.refl _ _).drewN _)))⟩
          case measure => simp [intOf]; omega
      | some s =>
        have hg := Nt.get_some hs
        obtain ⟨i, rfl, h1, h2⟩ := Nt.at_some hs
        obtain ⟨vl, vn, X, R, rfl, hA⟩ := hA
        obtain ⟨x, r, hx, hr, rfl, hc, ha⟩ := hA.at_ h1
        obtain ⟨A1, c2, rfl, -, -⟩ := hA.slice
        obtain ⟨b, o, rfl, ci⟩ := hA.cell hx
        have c1 := hA.row.cell 1
        have d2 : wr.cell? ⟨x.b, 2, none⟩ = some (.bool r.c.opn) := hc.row.cell 2
        have fx := hc.row.free
        have hd0 : decide (0 ≤ (i : Int)) = true := by simp
        have hd1 : decide (i < S1.L.length) = true := by simpa using h2
        have hk2 : (i : Int) < (S1.L.length : Int) := by omega
        have hle := hA.ok.n2
        cases ho : r.c.opn with
        | false =>
          rw [ho] at d2
          have hio : S1.isO i = false := by unfold Nt.isO; rw [hg]; exact ho
          have HS1 := Lib.hid (show S.close (l.take (j + 1)) = S1 by rw [HSC.out]; unfold Nt.close1; rw [hio]; rfl)
          have HN1 := Lib.hid (show S.closeN (l.take (j + 1)) = q by rw [HSN.out, hio]; rfl)
          clear hA hM hF1 hs hio hc hx hr h1 hg ho ha hbF1
          go_wp2_with fail
          go_quiet (fail)
          go_wp2
          go_roundw
          case rel => exact ⟨j + 1, by omega, by go_num, by rw [HN1.out], Lib.hid (by rw [HS1.out]; exact HTR.out _ _ (HSM.out _ ((Mods.refl _ _).drewN _)))⟩
          case measure => simp [intOf]; omega
        | true =>
          rw [ho] at d2
          have hio : S1.isO i = true := by unfold Nt.isO; rw [hg]; exact ho
          have HS1 := Lib.hid (show S.close (l.take (j + 1)) = S1.upd i { r.c with opn := false, inn := [] } by rw [HSC.out]; unfold Nt.close1; rw [hio, hg]; rfl)
          have HN1 := Lib.hid (show S.closeN (l.take (j + 1)) = q + 1 by rw [HSN.out, hio]; rfl)
          have HN := Lib.hid (fun (w' : World) (hq : CnTo KR wr w' x { r with c := { r.c with opn := false, inn := [] } }) => hA.toC hx hr hq (ha.shut_ (hA.ok.op i _ h1 ho)) (upd_inn_ok hA.ok h1))
          have HC := Lib.hid hc
          have hxf : x.b ∈ fts X := mem_fts.2 ⟨_, x, hx, (x.mem_ft _).2 (.inl rfl)⟩
          have e1 : ¬ g = x.b := fun e => hA.g_fts (by rw [e]; exact hxf)
          have e2 : ¬ b = x.b := fun e => hA.vl_fts b (by simp [Value.ownBlock]) (by rw [e]; exact hxf)
          have e5 : ¬ lb = x.b := fun e => hbF1 (by rw [e]; exact mem_rfoot.2 (.inr (.inr (.inr hxf))))
          have e3 : ¬ x.b = g := fun e => e1 e.symm
          have e4 : ¬ x.b = b := fun e => e2 e.symm
          have e6 : ¬ x.b = lb := fun e => e5 e.symm
          clear hA hM hF1 hs hio hc hx hr h1 hg ho ha hbF1 hxf
          go_wp2_with fail
          go_quiet (fail)
          go_wp2
          go_region_held3 (fun w' => w'.cell? ⟨g, 1, none⟩ = some (.slice (some ⟨b, o, none⟩) S1.L.length c2) ∧ w'.cell? ⟨b, o + i, none⟩ = some (.pointer (some ⟨x.b, 0, none⟩)) ∧ w'.cell? ⟨lb, lo + j, none⟩ = some (.int .i64 (i : Int))) (go_keep) (fail)
          go_wp2
          go_roundw
          case rel => exact ⟨j + 1, by omega, by go_num, by rw [HN1.out]; go_num, Lib.hid (by rw [HS1.out]; exact HTR.out _ _ (by first | exact HN.out _ (CnTo.put ((CnTo.refl HC.out).quiet ((Mods.refl _ _).drewN _)) 2 (.bool false) (fun _ => rfl) (rbs_all rfl rfl rfl)) | exact (HN.out _ (CnTo.put ((CnTo.refl HC.out).quiet ((Mods.refl _ _).drewN _)) 2 (.bool false) (fun _ => rfl) (rbs_all rfl rfl rfl))).quiet ((Mods.refl _ _).drew) | exact (HN.out _ (CnTo.put ((CnTo.refl HC.out).quiet (((Mods.refl _ _).drewN _).drew)) 2 (.bool false) (fun _ => rfl) (rbs_all rfl rfl rfl))).quiet ((Mods.refl _ _).drew)))⟩
          case measure => simp [intOf]; omega
    · have HK := Lib.hid (show l.take j = l from List.take_of_length_le (by omega))
      rw [HK.out] at hq hS1
      have HE := Lib.hid (show q = S.closeN l from hq)
      have HE2 := Lib.hid (show S1 = S.close l from hS1)
      clear hq hS1
      go_wp2
      go_ret
      rw [← HE.out, ← HE2.out]
      exact ⟨rfl, hd⟩
end Go.Proofs.YthaapkafamdhcaaDoor

/- What Stop of the reference's net does. -/
namespace Go.Proofs.YthaapkafamdhcaaDoor
open Go.RowKit
set_option maxRecDepth 10000
set_option linter.unusedVariables false
set_option linter.unusedSimpArgs false

/-- The first k of those who wait are broken, and wait no more; the line stands yet. -/
structure RSm (w : World) (g : Nat) (vl vn : Value) (X : List Cb) (R : List Rn) (S : Nt) (k m : Nat) : Prop where
  row : Row w g 89 #[.int .i64 S.back, vl, vn, .int .i64 S.fail, .bool true, .int .i64 (S.L.length : Nat)]
  ptr : Own w 147 vl (pv X)
  num : Own w 3 vn (iv (lineN S.first (S.L.length - S.first)))
  cs : Cs KR w X R
  ag : R.map (·.c) = (brkTo S k).L
  st : ∀ (i : Nat) (r : Rn), R[i]? = some r → Ag (S.first + k) i r
  ok : (brkTo S k).Ok m
def RStop (w wr : World) (g m : Nat) (vl vn : Value) (X : List Cb) (S : Nt) (k : Nat) : Prop :=
  ∃ X' R', RSm wr g vl vn X' R' S k m ∧ pv X' = pv X ∧ Mods (rfoot g vl vn X) w wr ∧ ∀ b ∈ fts X', b ∈ fts X ∨ w.heap.size ≤ b
theorem rstop_quiet {w wr w2 : World} {g m : Nat} {vl vn : Value} {X : List Cb} {S : Nt} {k : Nat} (h : RStop w wr g m vl vn X S k) (hm : Mods [] wr w2) : RStop w w2 g m vl vn X S k := by
  obtain ⟨X', R', h1, h2, h3, h4⟩ := h
  exact ⟨X', R', ⟨h1.row.mods hm (by simp), h1.ptr.mods hm (by simp), h1.num.mods hm (by simp), h1.cs.keep fun b hb => hm.block b (h1.cs.lt b hb) (by simp), h1.ag, h1.st, h1.ok⟩, h2, h3.trans hm (by simp), h4⟩
theorem rstop_step {w wr : World} {g m n f nl cc cn k : Nat} {A An : Option Addr} {X : List Cb} {S : Nt} (h : RStop w wr g m (.slice A n cc) (.slice An nl cn) X S k) (hn : n = S.L.length) (hf : f = S.first) (hl : nl = n - f) (hk : k < nl) {p : Nat} (hp : p = f + k) :
    ∃ (b o nb no : Nat) (x : Cb) (r : Rn), (A = some ⟨b, o, none⟩ ∧ An = some ⟨nb, no, none⟩) ∧
      (∀ w1, Mods x.ft wr w1 → w1.cell? ⟨g, 1, none⟩ = some (.slice A n cc) ∧ w1.cell? ⟨g, 2, none⟩ = some (.slice An nl cn) ∧ w1.cell? ⟨nb, no + k, none⟩ = some (.int .i64 (p : Int)) ∧ w1.cell? ⟨b, o + p, none⟩ = some (.pointer (some ⟨x.b, 0, none⟩))) ∧
      (¬ g = x.b ∧ ¬ b = x.b ∧ ¬ nb = x.b) ∧
      (∀ w1, Mods [] wr w1 → Calls Tryd.prog 72 #[.pointer (some ⟨x.b, 0, none⟩)] w1 (fun e w' => e = .returned (.tuple #[]) ∧ Hid (CnTo KR wr w' x { r with c := r.c.break_, inn := [] }))) ∧
      ∀ w2, CnTo KR wr w2 x { r with c := r.c.break_, inn := [], wts := false } → RStop w w2 g m (.slice A n cc) (.slice An nl cn) X S (k + 1) := by
  subst hn hf hl hp
  obtain ⟨X', R', hA, hpv, hM, hfts⟩ := h
  have hlt : S.first + k < S.L.length := by omega
  obtain ⟨s, hs⟩ : ∃ s, S.L[S.first + k]? = some s := ⟨_, List.getElem?_eq_getElem hlt⟩
  have hn1 : S.first ≤ S.L.length := by omega
  have hs2 := brkTo_at S k hn1 hs
  have hs3 := hs2
  rw [← hA.ag, List.getElem?_map] at hs3
  cases hr : R'[S.first + k]? with
  | none => rw [hr] at hs3; cases hs3
  | some r =>
    rw [hr] at hs3
    injection hs3 with hs3
    simp only at hs3
    subst hs3
    obtain ⟨x, hx⟩ := hA.cs.at1 hr
    obtain ⟨b, o, hb, hcell⟩ := hA.ptr.src (S.first + k) _ (pv_at hx)
    obtain ⟨nb, no, hnb, hnc⟩ := hA.num.src k (.int .i64 ((S.first + k : Nat) : Int)) (by
      simp only [iv, List.getElem?_map]
      rw [lineN_at _ _ _ hk]
      rfl)
    have hcn := hA.cs.at_ _ x r hx hr
    have hsub : ∀ j ∈ x.ft, j ∈ fts X' := fun j hj => mem_fts.2 ⟨_, x, hx, hj⟩
    have hxb : x.b ∈ x.ft := (x.mem_ft _).2 (.inl rfl)
    have hg : g ∉ fts X' := hA.cs.row hA.row (by decide) (by decide)
    have hvl : ∀ j ∈ (Value.slice A S.L.length cc).ownBlock.toList, j ∉ fts X' := hA.cs.slice hA.ptr (by decide) (by decide)
    have hvn : ∀ j ∈ (Value.slice An (S.L.length - S.first) cn).ownBlock.toList, j ∉ fts X' := hA.cs.slice hA.num (by decide) (by decide)
    have hbx : b ∉ fts X' := hvl b (by rw [hb]; simp [Value.ownBlock])
    have hnx : nb ∉ fts X' := hvn nb (by rw [hnb]; simp [Value.ownBlock])
    refine ⟨b, o, nb, no, x, r, ⟨hb, hnb⟩, fun w1 hm => ⟨cell_mods (hA.row.cell 1) hm fun hk => hg (hsub _ hk), cell_mods (hA.row.cell 2) hm fun hk => hg (hsub _ hk), cell_mods hnc hm fun hk => hnx (hsub _ hk), cell_mods hcell hm fun hk => hbx (hsub _ hk)⟩, ⟨fun e => hg (hsub _ (by rw [e]; exact hxb)), fun e => hbx (hsub _ (by rw [e]; exact hxb)), fun e => hnx (hsub _ (by rw [e]; exact hxb))⟩, fun w1 hm => (breaks_any w1 x r (hcn.mods hm (by simp))).mono ?_, fun w2 hq => ?_⟩
    · rintro e w' ⟨he, hq⟩
      exact ⟨he, Lib.hid (CnTo.trans rfl (hm.more (by simp)) (fun j hj => .inl hj) hq.out)⟩
    · obtain ⟨x2, q1, q2, q3, q4⟩ := hq
      have hsf := hA.ok.at_ hs2
      have hok : ((brkTo S k).upd ((S.first + k : Nat) : Int) r.c.break_).Ok m := hA.ok.upd (Nat.le_refl _) hA.ok.mm (by simp only [Cn.break_, List.length_nil]; omega) (fun hq => hA.ok.op _ r.c hs2 hq)
      have hbs := brkTo_succ S k hn1 hs
      have hrs := hA.st _ r hr
      refine ⟨X'.set (S.first + k) x2, R'.set (S.first + k) { r with c := r.c.break_, inn := [], wts := false }, ⟨hA.row.mods q3 fun hk => hg (hsub _ hk), ?_, hA.num.mods q3 fun j hj hj2 => hvn j hj (hsub j hj2), hA.cs.turn hx q1 q3 q4, ?_, fun j r2 hj => ?_, by rw [hbs]; exact hok⟩, by rw [pv_set hx q2]; exact hpv, hM.trans q3 fun j hj => ?_, fun j hj => ?_⟩
      · rw [pv_set hx q2]
        exact hA.ptr.mods q3 fun j hj hj2 => hvl j hj (hsub j hj2)
      · rw [map_set_c, hA.ag, hbs]
        show (brkTo S k).L.set (S.first + k) r.c.break_ = (brkTo S k).L.set ((S.first + k : Nat) : Int).toNat r.c.break_
        rw [Int.toNat_natCast]
      · rw [List.getElem?_set] at hj
        by_cases hjf : S.first + k = j
        · subst hjf
          rw [if_pos rfl] at hj
          split at hj
          · injection hj with hj
            subst hj
            exact ⟨by simp, fun _ => rfl, fun hq => by simp [Cn.break_] at hq⟩
          · cases hj
        · rw [if_neg hjf] at hj
          have hs := hA.st j r2 hj
          refine ⟨by rw [hs.wts]; simp; omega, fun hq => ?_, fun hq => by rw [hs.was hq]; simp; omega⟩
          refine hs.inn ?_
          rw [← hq]
          congr 1
          simp; omega
      · rcases hfts j (hsub j hj) with h | h
        · exact .inl (mem_rfoot.2 (.inr (.inr (.inr h))))
        · exact .inr h
      · rcases fts_set hx q4 j hj with h | h
        · exact hfts j h
        · exact .inr (Nat.le_trans hM.size h)
theorem rstop_end {w wr : World} {g m n f nl cc cn : Nat} {A An : Option Addr} {X : List Cb} {S : Nt} (h : RStop w wr g m (.slice A n cc) (.slice An nl cn) X S nl) (hn : n = S.L.length) (hf : f = S.first) (hl : nl = n - f) (h1 : f ≤ n) :
    RefTo w (wr.setCell ⟨g, 2, none⟩ (.slice none 0 0)) g (rfoot g (.slice A n cc) (.slice An nl cn) X) S.stopped m := by
  subst hn hf hl
  obtain ⟨X', R', hA, hpv, hM, hfts⟩ := h
  have hg : g ∉ fts X' := hA.cs.row hA.row (by decide) (by decide)
  have hlen := brkTo_len S (S.L.length - S.first)
  have hst := brkTo_all S h1
  have hL : S.stopped.L = (brkTo S (S.L.length - S.first)).L := by rw [← hst]
  have hF : S.stopped.first = S.L.length := by rw [← hst]
  have hll : S.stopped.L.length = S.L.length := by rw [hL, hlen]
  refine ⟨rfoot g (.slice A S.L.length cc) (.slice none 0 0) X', ⟨_, _, X', R', rfl, ⟨?_, ?_, ?_, ?_, ?_, ?_, ?_⟩⟩, Mods.setCell (F := rfoot g (.slice A S.L.length cc) (.slice An (S.L.length - S.first) cn) X) hM (p := ⟨g, 2, none⟩) (.inl (mem_rfoot.2 (.inl rfl))) _, fun k hk => ?_⟩
  · rw [hll]
    have h9 : Row (wr.setCell ⟨g, 2, none⟩ (.slice none 0 0)) g 89 #[.int .i64 S.back, .slice A S.L.length cc, .slice none 0 0, .int .i64 S.fail, .bool true, .int .i64 (S.L.length : Nat)] := by
      have := hA.row.set 2 (.slice none 0 0)
      simpa using this
    exact h9
  · exact hA.ptr.keep fun k hk => heap_setCell_other wr ⟨g, 2, none⟩ k _ (hA.ptr.ne_row hA.row (by decide) k hk)
  · rw [hll, hF, Nat.sub_self]
    exact Own.nil _ _
  · exact hA.cs.keep fun k hk => heap_setCell_other wr ⟨g, 2, none⟩ k _ (fun e => hg (by have : k = g := e; rw [← this]; exact hk))
  · rw [hL]; exact hA.ag
  · intro i r hr
    have := hA.st i r hr
    rw [hF]
    rw [show S.first + (S.L.length - S.first) = S.L.length by omega] at this
    exact this
  · refine ⟨hA.ok.b1, hA.ok.b2, hA.ok.f1, hA.ok.f2, by rw [hF, hll]; exact Nat.le_refl _, by rw [hll, ← hlen]; exact hA.ok.n2, by rw [hL]; exact hA.ok.cn, fun j s hj hop => ?_, hA.ok.mm⟩
    rw [hL] at hj
    have h2 := hA.ok.op j s hj hop
    have h3 : (brkTo S (S.L.length - S.first)).first = S.first := rfl
    rw [hF]
    omega
  · rcases mem_rfoot.1 hk with h5 | h5 | h5 | h5
    · exact .inl (mem_rfoot.2 (.inl h5))
    · exact .inl (mem_rfoot.2 (.inr (.inl h5)))
    · simp [Value.ownBlock] at h5
    · rcases hfts k h5 with h6 | h6
      · exact .inl (mem_rfoot.2 (.inr (.inr (.inr h6))))
      · exact .inr h6
set_option maxHeartbeats 2000000 in
theorem rstop_any (w : World) (g m : Nat) (F : List Nat) (S : Nt) (h : RefA w g F S m) :
    Calls Tryd.prog 48 #[.pointer (some ⟨g, 0, none⟩)] w fun e w' => e = .returned (.tuple #[]) ∧ Hid (RefTo w w' g F S.stopped m) := by
  obtain ⟨vl, vn, X, R, rfl, h⟩ := h
  obtain ⟨A, cc, rfl, -, -⟩ := h.slice
  obtain ⟨An, cn, rfl, -, -⟩ := h.line
  have c4 := h.row.cell 4
  have f0 := h.row.free
  have h1 := h.ok.n1
  have h2 := h.ok.n2
  have HSZ := Lib.hid (show RStop w (w.setCell ⟨g, 4, none⟩ (.bool true)) g m (.slice A S.L.length cc) (.slice An (S.L.length - S.first) cn) X S 0 from ⟨X, R, by
    refine ⟨?_, h.ptr.keep fun k hk => heap_setCell_other w ⟨g, 4, none⟩ k _ (h.ptr.ne_row h.row (by decide) k hk), h.num.keep fun k hk => heap_setCell_other w ⟨g, 4, none⟩ k _ (h.num.ne_row h.row (by decide) k hk), h.cs.keep fun k hk => heap_setCell_other w ⟨g, 4, none⟩ k _ (fun e => h.g_fts (by have : k = g := e; rw [← this]; exact hk)), ?_, h.st, ?_⟩
    · have := h.row.set 4 (.bool true)
      simpa using this
    · rw [brkTo_zero]; exact h.ag
    · rw [brkTo_zero]; exact ⟨h.ok.b1, h.ok.b2, h.ok.f1, h.ok.f2, h.ok.n1, h.ok.n2, h.ok.cn, h.ok.op, h.ok.mm⟩, rfl, Mods.setCell (F := rfoot g (.slice A S.L.length cc) (.slice An (S.L.length - S.first) cn) X) (Mods.refl _ w) (p := ⟨g, 4, none⟩) (.inl (mem_rfoot.2 (.inl rfl))) _, fun b hb => .inl hb⟩)
  obtain ⟨n, hn0⟩ : ∃ n, n = S.L.length := ⟨_, rfl⟩
  obtain ⟨f, hf0⟩ : ∃ f, f = S.first := ⟨_, rfl⟩
  obtain ⟨nl, hl0⟩ : ∃ nl, nl = n - f := ⟨_, rfl⟩
  rw [← hn0, ← hf0, ← hl0] at HSZ ⊢
  rw [← hn0] at h1 h2
  rw [← hf0] at h1
  have HN := Lib.hid hn0
  have HFF := Lib.hid hf0
  have HNL := Lib.hid hl0
  have hnl : nl ≤ 65536 := by omega
  clear h hn0 hf0 hl0
  go_enter Tryd.func48, Tryd.ntmps48
  go_wp2_with fail
  go_loopw [2] (fun i wr => ∃ k : Nat, k ≤ nl ∧ i = .int .i64 k ∧ Hid (RStop w wr g m (.slice A n cc) (.slice An nl cn) X S k)) (fun i _ => nl - (intOf i).toNat)
  case atStart => exact ⟨0, Nat.zero_le _, rfl, HSZ⟩
  case round =>
    obtain ⟨k, hk, rfl, hd⟩ := hrel
    obtain ⟨X', R', hA, -, -, -⟩ := hd.out
    have d2 : wr.cell? ⟨g, 2, none⟩ = some (.slice An nl cn) := by rw [HNL.out, HN.out, HFF.out]; have := hA.row.cell 2; rw [HNL.out, HN.out, HFF.out] at this; exact this
    have fr := hA.row.free
    clear hA
    by_cases hlt : k < nl
    · obtain ⟨p, hp⟩ : ∃ p, p = f + k := ⟨_, rfl⟩
      obtain ⟨b, o, nb, no, x, r, ⟨rfl, rfl⟩, hcs, ⟨e1, e2, e3⟩, HB2, HS2⟩ := rstop_step hd.out HN.out HFF.out HNL.out hlt hp
      obtain ⟨z1, z2, z3, z4⟩ := hcs wr (Mods.refl _ _)
      have hik : p < n := by have := HNL.out; omega
      clear hp
      have HCS := Lib.hid hcs
      have HBR := Lib.hid HB2
      have HST := Lib.hid HS2
      clear hd HB2 HS2 hcs c4 f0 d2
      go_wp2_with fail
      go_region_with (go_at_call 72; refine (HBR.out _ (by first | exact Mods.refl _ _ | exact (Mods.refl [] wr).same rfl rfl rfl rfl)).mono ?_; rintro e w2 ⟨rfl, hq⟩)
      all_goals
        have HQ := Lib.hid hq.out
        have hmm := hq.out
        clear hq
        obtain ⟨x2, q1, q2, q3, q4⟩ := hmm
        obtain ⟨y1, y2, y3, y4⟩ := HCS.out _ q3
        have c1 := q1.row.cell 1
        have fx := q1.row.free
        rw [q2] at c1 fx
        simp only [KR] at c1
        clear q1 q2 q3 q4 z1 z2 z3 z4
        have e4 : ¬ x.b = g := fun e => e1 e.symm
        have e5 : ¬ x.b = b := fun e => e2 e.symm
        have e6 : ¬ x.b = nb := fun e => e3 e.symm
        go_wp2_with fail
        go_region_held3 (fun w' => w'.cell? ⟨g, 1, none⟩ = some (.slice (some ⟨b, o, none⟩) n cc) ∧ w'.cell? ⟨g, 2, none⟩ = some (.slice (some ⟨nb, no, none⟩) nl cn) ∧ w'.cell? ⟨nb, no + k, none⟩ = some (.int .i64 (p : Int)) ∧ w'.cell? ⟨b, o + p, none⟩ = some (.pointer (some ⟨x.b, 0, none⟩))) (go_keep) (fail)
        go_wp2
        go_roundw
        case rel => exact ⟨k + 1, by omega, by go_num, Lib.hid (rstop_quiet (HST.out _ (CnTo.put HQ.out 1 (.bool false) (fun _ => rfl) (rbs_all rfl rfl rfl))) ((Mods.refl [] _).same rfl rfl rfl rfl))⟩
        case measure => simp [intOf]; omega
    · have hkn : k = nl := by omega
      subst hkn
      have HE := Lib.hid (rstop_end hd.out HN.out HFF.out HNL.out h1)
      clear hd c4 f0
      go_wp2
      go_end0
      exact ⟨rfl, HE⟩
end Go.Proofs.YthaapkafamdhcaaDoor
