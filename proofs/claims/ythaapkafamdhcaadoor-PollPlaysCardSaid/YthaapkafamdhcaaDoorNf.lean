/- What Accept, Send of the program's net do. -/
import Derived.Test.YthaapkafamdhcaaDoorNe
namespace Go.Proofs.YthaapkafamdhcaaDoor
open Go.RowKit
set_option maxRecDepth 10000
set_option linter.unusedVariables false
set_option linter.unusedSimpArgs false

theorem acc_nil (w : World) : Calls Tryd.prog 20 #[.pointer none] w fun e w' => e = .returned (.tuple #[.int .i64 0, .int .i64 0, .int .i64 1]) ∧ w = w' := by
  have hn := eql_nnil
  go_enter Tryd.func20, Tryd.ntmps20
  go_wp2
  go_ret3
  exact ⟨rfl, rfl⟩
theorem NetTo.quiet {w w1 w' : World} {g m : Nat} {F : List Nat} {S : Nt} (h : NetTo w w1 g F S m) (hm : Mods [] w1 w') : NetTo w w' g F S m := by
  obtain ⟨F', h1, h2, h3⟩ := h
  exact ⟨F', h1.quiet hm, h2.trans hm (by simp), h3⟩
/-- Somebody is taken: the stores of it. -/
theorem acc_of {w w1 : World} {g m : Nat} {vc : Value} {X : List Cb} {S : Nt} {x : Cb} {s : Cn} {a b : Int} (h : NetF w1 g vc X S m) (hw : Mods [] w w1) (hx : X[S.first]? = some x) (hs : S.L[S.first]? = some s) (ha : a = (S.first : Int) + 1) (hb : b = (opens S.L : Nat) + 1) :
    NetTo w (((w1.setCell ⟨g, 4, none⟩ (.int .i64 a)).setCell ⟨g, 5, none⟩ (.int .i64 b)).setCell ⟨x.b, 1, none⟩ (.bool true)) g (nfoot g vc X) { S with first := S.first + 1, L := S.L.set S.first { s with opn := true } } m := by
  have hc := h.cs.at_ _ x s hx hs
  have hlt := (List.getElem?_eq_some_iff.1 hs).1
  have hgx : g ∉ x.ft := fun hk => h.cs.row h.row (by decide) (by decide) (mem_fts.2 ⟨_, x, hx, hk⟩)
  have hgb : g ≠ x.b := fun e => hgx ((x.mem_ft g).2 (.inl e))
  have hcl : s.opn = false := by
    cases ho : s.opn with
    | false => rfl
    | true => exact absurd (h.ok.op _ s hs ho) (by omega)
  have hm2 : Mods (g :: x.ft) w1 ((w1.setCell ⟨g, 4, none⟩ (.int .i64 a)).setCell ⟨g, 5, none⟩ (.int .i64 b)) := ((Mods.refl _ _).setCell (.inl (by simp)) _).setCell (.inl (by simp)) _
  have hc2 : CnA KP ((w1.setCell ⟨g, 4, none⟩ (.int .i64 a)).setCell ⟨g, 5, none⟩ (.int .i64 b)) x s :=
    hc.keep fun k hk => (heap_setCell_other _ ⟨g, 5, none⟩ k _ (fun e => hgx (by have : k = g := e; rw [← this]; exact hk))).trans (heap_setCell_other w1 ⟨g, 4, none⟩ k _ (fun e => hgx (by have : k = g := e; rw [← this]; exact hk)))
  have hc3 := hc2.put (s' := { s with opn := true }) 1 (.bool true) rfl (cbs_all rfl rfl rfl)
  have hrow : Row (((w1.setCell ⟨g, 4, none⟩ (.int .i64 a)).setCell ⟨g, 5, none⟩ (.int .i64 b)).setCell ⟨x.b, 1, none⟩ (.bool true)) g 86 #[.int .i64 S.back, .bool S.stop, .int .i64 S.fail, vc, .int .i64 ((S.first + 1 : Nat) : Int), .int .i64 (opens (S.L.set S.first { s with opn := true }) : Nat)] := by
    have := ((h.row.set 4 (.int .i64 a)).set 5 (.int .i64 b)).far (p := ⟨x.b, 1, none⟩) hgb (.bool true)
    rw [opens_on hs hcl rfl]
    subst ha hb
    simpa using this
  have hok : Nt.Ok { S with first := S.first + 1, L := S.L.set S.first { s with opn := true } } m := by
    refine ⟨h.ok.b1, h.ok.b2, h.ok.f1, h.ok.f2, by simp; omega, by simpa using h.ok.n2, fun t ht => ?_, fun j t hj hop => ?_, h.ok.mm⟩
    · rcases List.mem_or_eq_of_mem_set ht with h1 | rfl
      · exact h.ok.cn t h1
      · exact h.ok.cn s (List.mem_of_getElem? hs)
    · simp only at hj ⊢
      rw [List.getElem?_set] at hj
      split at hj
      · omega
      · have := h.ok.op j t hj hop; omega
  have hM := hm2.setCell (p := ⟨x.b, 1, none⟩) (.inl (List.mem_cons_of_mem _ ((x.mem_ft _).2 (.inl rfl)))) (.bool true)
  have hN := h.turn2 (x' := x) (s' := { s with opn := true }) (S' := { S with first := S.first + 1, L := S.L.set S.first { s with opn := true } }) hx hs hc3 rfl hM (fun k hk => .inl hk) hrow rfl hok
  refine ⟨_, ⟨vc, _, rfl, hN⟩, (hw.more (by simp)).trans (hM.more (F2 := nfoot g vc X) fun k hk => .inl ?_) (fun k hk => .inl hk), fun k hk => ?_⟩
  · rcases List.mem_cons.1 hk with rfl | hk
    · simp [nfoot]
    · exact ft_sub hx k hk
  · have : X.set S.first x = X := by
      apply List.ext_getElem?
      intro j
      rw [List.getElem?_set]
      split
      · subst j; split
        · exact hx.symm
        · rw [List.getElem?_eq_none (by omega)]
      · rfl
    rw [this] at hk
    exact .inl hk
theorem acc_any (w : World) (g m : Nat) (F : List Nat) (S : Nt) (h : NetA w g F S m) :
    Calls Tryd.prog 20 #[.pointer (some ⟨g, 0, none⟩)] w fun e w' => e = .returned (.tuple #[.int .i64 S.accC, .int .i64 S.accP, .int .i64 S.accE]) ∧ Hid (NetTo w w' g F S.acc m) := by
  have hn := eql_nnil
  have HS := Lib.hid (fun (w' : World) (hq : Mods [] w w') => NetTo.same h hq)
  have bad : S.accE ≠ 0 → S.accC = 0 ∧ S.accP = 0 := fun this => ⟨by unfold Nt.accC; rw [if_neg this], by unfold Nt.accP; rw [if_neg this]⟩
  have HW := Lib.hid (waiting_any w g m F S h)
  obtain ⟨vc, X, rfl, h⟩ := h
  obtain ⟨A, cc, rfl, hcc, -⟩ := h.slice
  have c1 := h.row.cell 1
  have c2 := h.row.cell 2
  have c3 := h.row.cell 3
  have c4 := h.row.cell 4
  have c5 := h.row.cell 5
  have f0 := h.row.free
  cases hst : S.stop with
  | true =>
    rw [hst] at c1
    have he : S.accE = 6 := by unfold Nt.accE; rw [hst]; rfl
    rw [(bad (by rw [he]; decide)).1, (bad (by rw [he]; decide)).2, show S.acc = S by unfold Nt.acc; rw [he]; rfl, he]
    clear h bad he hst hcc
    go_enter Tryd.func20, Tryd.ntmps20
    go_wp2
    go_ret3
    exact ⟨rfl, Lib.hid (HS.out _ (Mods.refl _ _))⟩
  | false =>
    rw [hst] at c1
    have hE : S.accE = if S.wait = 0 then 2 else if 0 < S.fail then 7 else 0 := by unfold Nt.accE; rw [hst]; rfl
    obtain ⟨k, hk⟩ : ∃ k, k = S.wait := ⟨_, rfl⟩
    rw [← hk] at HW hE
    by_cases h0 : k = 0
    · have he : S.accE = 2 := by rw [hE, if_pos h0]
      rw [(bad (by rw [he]; decide)).1, (bad (by rw [he]; decide)).2, show S.acc = S by unfold Nt.acc; rw [he]; rfl, he]
      subst h0
      clear h bad he hst hcc hE hk
      go_enter Tryd.func20, Tryd.ntmps20
      go_wp2_with fail
      refine HW.out.mono ?_
      rintro e w' ⟨rfl, q, rfl⟩
      go_wp2
      go_ret3
      exact ⟨rfl, Lib.hid (HS.out _ ((Mods.refl _ _).drewN q))⟩
    · have hkd : (k == 0) = false := by simpa using h0
      by_cases hf : 0 < S.fail
      · have he : S.accE = 7 := by rw [hE, if_neg h0, if_pos hf]
        rw [(bad (by rw [he]; decide)).1, (bad (by rw [he]; decide)).2, show S.acc = { S with fail := S.fail - 1 } by unfold Nt.acc; rw [he]; rfl, he]
        have HH := Lib.hid h
        have hf2 := h.ok.f2
        clear h bad he hst hcc hE hk
        go_enter Tryd.func20, Tryd.ntmps20
        go_wp2_with fail
        refine HW.out.mono ?_
        rintro e w' ⟨rfl, q, rfl⟩
        go_wp2
        go_ret3
        refine ⟨rfl, Lib.hid ⟨_, ⟨_, X, rfl, (HH.out.keep (w' := w.drewN q) fun _ _ => rfl).put 2 _ ?_ rfl ⟨HH.out.ok.b1, HH.out.ok.b2, by simp only; omega, by simp only; omega, HH.out.ok.n1, HH.out.ok.n2, HH.out.ok.cn, HH.out.ok.op, HH.out.ok.mm⟩⟩, ((Mods.refl _ _).drewN q).setCell (.inl (by simp [nfoot])) _, fun k hk => .inl hk⟩⟩
        have := (HH.out.row.keep (w' := w.drewN q) rfl).set 2 (.int .i64 (S.fail - 1))
        simpa using this
      · have he : S.accE = 0 := by rw [hE, if_neg h0, if_neg hf]
        have hlt : S.first < S.L.length := by have := h.ok.n1; unfold Nt.wait at hk; omega
        obtain ⟨s, hs⟩ : ∃ s, S.L[S.first]? = some s := ⟨_, List.getElem?_eq_getElem hlt⟩
        obtain ⟨x, hx⟩ := h.cs.at1 hs
        have hg : S.get S.first = s := by unfold Nt.get; rw [Nt.at_nat, hs]; rfl
        rw [show S.accC = S.first by unfold Nt.accC; rw [if_pos he], show S.accP = s.peer by unfold Nt.accP; rw [if_pos he, hg], show S.acc = { S with first := S.first + 1, L := S.L.set S.first { s with opn := true } } by unfold Nt.acc; rw [if_pos he, hg], he]
        obtain ⟨b, o, rfl, ci⟩ := h.cell hx
        have hc := h.cs.at_ _ x s hx hs
        have d0 := hc.row.cell 0
        have d1 := hc.row.cell 1
        simp only [KP] at d0 d1
        have f1 := hc.row.free
        have hgx : g ∉ x.ft := fun hk => h.cs.row h.row (by decide) (by decide) (mem_fts.2 ⟨_, x, hx, hk⟩)
        have hgb : g ≠ x.b := fun e => hgx ((x.mem_ft g).2 (.inl e))
        have hgb2 : x.b ≠ g := hgb.symm
        have hbg : b ≠ g := h.ptr.ne_row h.row (by decide) b (by simp [Value.ownBlock])
        have hbg2 : g ≠ b := hbg.symm
        have hbx : b ≠ x.b := h.ptr.ne_row hc.row (by decide) b (by simp [Value.ownBlock])
        have HX := Lib.hid hx
        have HSS := Lib.hid hs
        have HH := Lib.hid h
        have n2 := h.ok.n2
        have no := opens_le S.L
        clear h bad he hst hcc hE hk hg hx hs hc hgx
        go_enter Tryd.func20, Tryd.ntmps20
        go_wp2_with fail
        refine HW.out.mono ?_
        rintro e w' ⟨rfl, q, rfl⟩
        go_wp2_with fail
        go_quiet (fail)
        go_wp2
        go_ret3
        exact ⟨rfl, Lib.hid ((acc_of (HH.out.keep (w' := w.drewN q) fun _ _ => rfl) ((Mods.refl _ _).drewN q) HX.out HSS.out rfl rfl).quiet ((Mods.refl _ _).drewN _))⟩
/-- Rows that are handed in: a slice of slices, wherever it begins, nothing of it in F. -/
def Parts (w : World) (F : List Nat) (A : Option Addr) (rs : List Rw) : Prop :=
  ∀ i r, rs[i]? = some r → (∃ b o, A = some ⟨b, o, none⟩ ∧ b < w.heap.size ∧ b ∉ F ∧ w.cell? ⟨b, o + i, none⟩ = some (.slice r.A r.l.length r.c)) ∧ At w F r.A r.l ∧ r.l.length ≤ r.c ∧ r.c ≤ maxLen
theorem Parts.mods {w w' : World} {F : List Nat} {A : Option Addr} {rs : List Rw} (h : Parts w F A rs) (hm : Mods F w w') : Parts w' F A rs := fun i r hr => by
  obtain ⟨⟨b, o, e, hb, hF, hc⟩, h1, h2⟩ := h i r hr
  exact ⟨⟨b, o, e, Nat.lt_of_lt_of_le hb hm.size, hF, cell_mods hc hm hF⟩, h1.mods hm, h2⟩
theorem Parts.sub {w : World} {F G : List Nat} {A : Option Addr} {rs : List Rw} (h : Parts w F A rs) (hs : ∀ k ∈ G, k ∈ F) : Parts w G A rs := fun i r hr => by
  obtain ⟨⟨b, o, e, hb, hF, hc⟩, h1, h2⟩ := h i r hr
  exact ⟨⟨b, o, e, hb, fun hg => hF (hs b hg), hc⟩, h1.sub (fun k hk => .inl (hs k hk)), h2⟩
theorem Parts.of_rows {w : World} {F : List Nat} {b : Nat} {rs : List Rw} (h : RowsAt w F b rs) : Parts w F (some ⟨b, 0, none⟩) rs := fun i r hr =>
  ⟨⟨b, 0, rfl, h.lt, h.out, by rw [Nat.zero_add]; exact h.cell i r hr⟩, h.at_ r (List.mem_of_getElem? hr)⟩
theorem flatR_le (rs : List Rw) (k : Nat) : (flatR (rs.take k)).length ≤ (flatR rs).length := by
  have : flatR rs = flatR (rs.take k) ++ flatR (rs.drop k) := by unfold flatR; rw [← List.flatMap_append, List.take_append_drop]
  rw [this, List.length_append]; omega
theorem send_nil (w : World) (c : Int) (v : Value) : Calls Tryd.prog 22 #[.pointer none, .int .i64 c, v] w fun e w' => e = .returned (.tuple #[.int .i64 0, .int .i64 1]) ∧ w = w' := by
  go_enter Tryd.func22, Tryd.ntmps22
  go_wp2_with fail
  refine (theirs_nil w c).mono ?_
  rintro e w' ⟨rfl, rfl⟩
  go_wp2
  go_ret2
  exact ⟨rfl, rfl⟩
theorem send_any (w : World) (g m : Nat) (F : List Nat) (S : Nt) (c : Int) (A : Option Addr) (n cp : Nat) (rs : List Rw) (h : NetA w g F S m) (hm : m + 1 ≤ 900000000) (hp : Parts w F A rs) (hn : n = rs.length) (hnl : n ≤ maxLen) :
    Calls Tryd.prog 22 #[.pointer (some ⟨g, 0, none⟩), .int .i64 c, .slice A n cp] w fun e w' =>
      e = .returned (.tuple #[.int .i64 (S.sendK c (flatR rs)), .int .i64 (S.sendE c)]) ∧ Hid (NetTo w w' g F (S.send c (flatR rs)) (m + 1)) := by
  subst hn
  have HN0 := Lib.hid (NetTo.same (h.more (n := m + 1) (by omega) hm) (Mods.refl [] w))
  have bad : S.sendE c ≠ 0 → S.sendK c (flatR rs) = 0 ∧ S.send c (flatR rs) = S := fun this => ⟨by unfold Nt.sendK; rw [if_neg this], by unfold Nt.send; rw [if_neg this]⟩
  by_cases he : S.e1 c = 0
  · have hE : S.sendE c = if (S.get c).hlv then 6 else 0 := by unfold Nt.sendE; rw [if_pos he]
    obtain ⟨i, s, rfl, hs, hi, hg, hb, ho⟩ := Nt.e1_zero he
    rw [hg] at hE
    obtain ⟨vc, X, rfl, h⟩ := h
    obtain ⟨x, hx⟩ := h.cs.at1 hs
    have hc := h.cs.at_ i x s hx hs
    have HT := Lib.hid (theirs_at w g m i vc X S x s h hx hs hb ho)
    have c3 := hc.row.cell 3
    simp only [KP] at c3
    cases hv : s.hlv with
    | true =>
      rw [hv] at c3 hE
      have he6 : S.sendE i = 6 := hE
      rw [(bad (by rw [he6]; decide)).1, (bad (by rw [he6]; decide)).2, he6]
      clear h bad hE he6 hs hg hb ho hc hx he hv hp
      go_enter Tryd.func22, Tryd.ntmps22
      go_wp2_with fail
      refine HT.out.mono ?_
      rintro e w' ⟨rfl, rfl⟩
      go_wp2
      go_ret2
      exact ⟨rfl, HN0⟩
    | false =>
      rw [hv] at c3 hE
      have he0 : S.sendE i = 0 := hE
      have hf := h.ok.at_ hs
      rw [show S.sendK i (flatR rs) = ((fill s.inn (flatR rs)).length : Int) - s.inn.length by unfold Nt.sendK; rw [if_pos he0, hg], show S.send i (flatR rs) = S.upd i (s.send (flatR rs)) by unfold Nt.send; rw [if_pos he0, hg], he0]
      have HFL := Lib.hid (fill_len s.inn (flatR rs))
      have HN := Lib.hid (fun (w' : World) (hq : CnTo KP w w' x (s.send (flatR rs))) => h.toC hx hs hq (h.ok.upd (n := m + 1) (by omega) hm (by have := HFL.out; simp only [Cn.send, Cn.setI]; split <;> omega) fun hq => h.ok.op i s hs hq) rfl)
      have HP := Lib.hid (hp.sub (ft_sub hx))
      have HC := Lib.hid hc
      have hinn : s.inn.length ≤ 1024 := by omega
      have hmr : s.mr ≤ 900000000 := by omega
      unfold maxLen at hnl
      clear h bad hE he0 hs hg hb ho hc hx he hv hp hf HN0
      go_enter Tryd.func22, Tryd.ntmps22
      go_wp2_with fail
      refine HT.out.mono ?_
      rintro e w' ⟨rfl, rfl⟩
      go_wp2
      go_loopw [10, 12, 30] (fun n u j wr => ∃ k : Nat, k ≤ rs.length ∧ j = .int .i64 k ∧ n = .int .i64 (((fill s.inn (flatR (rs.take k))).length : Int) - s.inn.length) ∧ Hid (CnTo KP w wr x (s.setI (fill s.inn (flatR (rs.take k)))))) (fun _ _ j _ => rs.length - (intOf j).toNat)
      case atStart =>
        refine ⟨0, Nat.zero_le _, rfl, ?_, Lib.hid ?_⟩
        · rw [show flatR (rs.take 0) = [] by simp [flatR], fill_nil _ hinn]; simp
        · rw [show flatR (rs.take 0) = [] by simp [flatR], fill_nil _ hinn]; exact CnTo.refl HC.out
      case round =>
        obtain ⟨k, hk, rfl, rfl, hd⟩ := hrel
        obtain ⟨P, hP⟩ : ∃ P, P = fill s.inn (flatR (rs.take k)) := ⟨_, rfl⟩
        rw [← hP] at hd
        have hPl : P.length ≤ 1024 := by rw [hP, fill_len]; omega
        have hPi : s.inn.length ≤ P.length := by rw [hP, fill_len]; omega
        by_cases hlt : k < rs.length
        · obtain ⟨x1, q1, q2, q3, q4⟩ := hd.out
          have hpk := HP.out k rs[k] (List.getElem?_eq_getElem hlt)
          obtain ⟨⟨bb, oo, rfl, hbl, hbF, hcr⟩, hat, hr1, hr2⟩ := hpk
          have hcr := cell_mods hcr q3 hbF
          have HSN := Lib.hid (flatR_snoc rs k hlt)
          obtain ⟨r, hr⟩ : ∃ r, r = rs[k] := ⟨_, rfl⟩
          rw [← hr] at hcr HSN hat hr1 hr2
          have HQ := Lib.hid (take_any wr x1 (s.setI P) r.A r.l r.c q1 (hat.other q3 q4) hr1 hr2 hPl)
          have HTR := Lib.hid (fun (w2 : World) (hq : CnTo KP wr w2 x1 ((s.setI P).setI (fill P r.l))) => CnTo.trans q2 q3 q4 hq)
          obtain ⟨Q, hQ⟩ : ∃ Q, Q = fill P r.l := ⟨_, rfl⟩
          have hQl : Q.length ≤ 1024 := by rw [hQ, fill_len]; omega
          have hPQ : P.length ≤ Q.length := by rw [hQ, fill_len]; omega
          simp only [Cn.setI] at HQ HTR
          rw [← hQ] at HQ HTR
          rw [q2] at HQ
          have HQE := Lib.hid (show fill s.inn (flatR (rs.take (k + 1))) = Q by rw [HSN.out, ← fill_fill, ← hP, hQ])
          obtain ⟨pl, hpl⟩ : ∃ pl, pl = P.length := ⟨_, rfl⟩
          rw [← hP, ← hpl]
          rw [← hpl] at HQ hPl hPi hPQ
          clear hd hP q1 q2 q3 q4 hr hat hr1 hr2 hbl hbF hQ hpl
          go_wp2_with fail
          refine HQ.out.mono ?_
          rintro e w2 ⟨rfl, hq⟩
          have HTO := Lib.hid (HTR.out _ hq.out)
          clear hq
          go_wp2
          go_roundw
          case rel => exact ⟨k + 1, by omega, by go_num, by rw [HQE.out]; go_num, Lib.hid (by rw [HQE.out]; exact HTO.out)⟩
          case measure => simp [intOf]; omega
        · have HK := Lib.hid (show rs.take k = rs from List.take_of_length_le (by omega))
          rw [HK.out] at hP
          rw [HK.out, ← hP]
          have HD := Lib.hid hd.out
          obtain ⟨x1, q1, q2, -, -⟩ := hd.out
          have c9 := q1.row.cell 9
          have f9 := q1.row.free 9
          rw [q2] at c9 f9
          simp only [KP, Cn.setI] at c9
          have HPE := Lib.hid hP
          obtain ⟨pl, hpl⟩ : ∃ pl, pl = P.length := ⟨_, rfl⟩
          rw [← hpl] at hPl hPi ⊢
          have HPL := Lib.hid hpl
          clear hd q1 q2 hP hpl
          by_cases hgt : s.inn.length < pl
          · have hd0 : decide (0 < ((pl : Int) - (s.inn.length : Int))) = true := by simp; omega
            have HE := Lib.hid (show s.send (flatR rs) = { s.setI P with mr := s.mr + 1 } by unfold Cn.send; rw [← HPE.out, ← HPL.out, if_pos hgt])
            rw [HE.out] at HN
            go_wp2
            go_ret2
            rw [HE.out]
            exact ⟨by rw [← HPE.out, ← HPL.out]; rfl, Lib.hid (HN.out _ (HD.out.put 9 _ (fun _ => rfl) (cbs_all rfl rfl rfl)))⟩
          · have hd0 : pl = s.inn.length := by omega
            subst hd0
            have HE := Lib.hid (show s.send (flatR rs) = s.setI P by unfold Cn.send; rw [← HPE.out, ← HPL.out, if_neg hgt]; rfl)
            rw [HE.out] at HN
            go_wp2
            go_ret2
            rw [HE.out]
            exact ⟨by rw [← HPE.out, ← HPL.out]; rfl, Lib.hid (HN.out _ HD.out)⟩
  · have he1 : S.sendE c = S.e1 c := by unfold Nt.sendE; rw [if_neg he]
    rw [(bad (by rw [he1]; exact he)).1, (bad (by rw [he1]; exact he)).2, he1]
    have HT := Lib.hid (theirs_no w g m F S c h he)
    obtain ⟨e0, he0⟩ : ∃ e0, e0 = S.e1 c := ⟨_, rfl⟩
    rw [← he0] at HT he ⊢
    have hne : (e0 != 0) = true := by simpa using he
    clear h he he0 he1 bad hp
    go_enter Tryd.func22, Tryd.ntmps22
    go_wp2_with fail
    refine HT.out.mono ?_
    rintro e w' ⟨rfl, rfl⟩
    go_wp2
    go_ret2
    exact ⟨rfl, HN0⟩
end Go.Proofs.YthaapkafamdhcaaDoor
