/- The document's Params. Conditions: a text of at most a million bytes. -/
import Derived.Test.YtfnjkkjpffnbiaaDoorBt9
import Derived.Deep.CutBlock
namespace Go.Proofs.YtfnjkkjpffnbiaaDoor
open Go.RowKit
set_option linter.unusedVariables false

theorem byte_is {c : UInt8} {n : Nat} (hn : n < 256) : (((c.toNat : Int) == (n : Int)) = true ∧ ((c.toNat : Int) != (n : Int)) = false ∧ c = UInt8.ofNat n) ∨ (((c.toNat : Int) == (n : Int)) = false ∧ ((c.toNat : Int) != (n : Int)) = true ∧ c ≠ UInt8.ofNat n) := by
  by_cases h : c = UInt8.ofNat n
  · exact .inl ⟨(byte_yes hn h).1, (byte_yes hn h).2, h⟩
  · exact .inr ⟨(byte_no hn h).1, (byte_no hn h).2, h⟩
theorem head_tail (s : ByteArray) (h : 0 < s.size) : s.data.toList = s[0] :: (s.extract 1 s.size).data.toList := by rw [ext_drop]; exact list_head s h
theorem pStep_no {c : UInt8} (h : c ≠ 59) (r : List UInt8) : pStep (c :: r) = none := by unfold pStep; simp [h]
theorem pStep_noname {r : List UInt8} (h : tw (tlL r) = []) : pStep (59 :: r) = none := by unfold pStep; simp [h]
theorem pStep_end {r : List UInt8} (h : tw (tlL r) ≠ []) (h2 : dwt (tlL r) = []) : pStep (59 :: r) = some ((tw (tlL r), []), []) := by unfold pStep; simp only [if_true]; rw [if_neg h, h2]
theorem pStep_bare {r : List UInt8} {e : UInt8} {r3 : List UInt8} (h : tw (tlL r) ≠ []) (h2 : dwt (tlL r) = e :: r3) (he : e ≠ 61) : pStep (59 :: r) = some ((tw (tlL r), []), e :: r3) := by unfold pStep; simp only [if_true]; rw [if_neg h, h2]; simp only [if_neg he]
theorem pStep_val {r : List UInt8} {r3 : List UInt8} (h : tw (tlL r) ≠ []) (h2 : dwt (tlL r) = 61 :: r3) (h3 : (toqL r3).2 ≠ 0) : pStep (59 :: r) = some ((tw (tlL r), (toqL r3).1), r3.drop (toqL r3).2) := by
  unfold pStep; simp only [if_true]; rw [if_neg h, h2]; simp only [if_true]; rw [if_neg h3]
theorem pStep_noval {r : List UInt8} {r3 : List UInt8} (h : tw (tlL r) ≠ []) (h2 : dwt (tlL r) = 61 :: r3) (h3 : (toqL r3).2 = 0) : pStep (59 :: r) = none := by
  unfold pStep; simp only [if_true]; rw [if_neg h, h2]; simp only [if_true]; rw [if_pos h3]
/-- One parameter more: what a round hands on. -/
theorem pars_next {s : ByteArray} {ps : List PV} {rs s1 rest : ByteArray} {p : PV} (hp : parsL s.data.toList = (parsF (16 - ps.length) rs.data.toList).map (ps ++ ·)) (h1 : s1.data.toList = tlL rs.data.toList) (hne : 0 < s1.size) (hl : ps.length + 1 ≤ 16)
    (hs : pStep s1.data.toList = some (p, rest.data.toList)) : parsL s.data.toList = (parsF (16 - (ps ++ [p]).length) rest.data.toList).map ((ps ++ [p]) ++ ·) := by
  rw [hp, show 16 - ps.length = (16 - (ps ++ [p]).length) + 1 by rw [List.length_append]; simp only [List.length_cons, List.length_nil]; omega,
    pars_one (by rw [← h1]; intro e; have : s1.size = 0 := (by rw [← len_data, e]; rfl); omega) (by rw [← h1]; exact hs), Option.map_map]
  cases parsF (16 - (ps ++ [p]).length) rest.data.toList <;> simp
theorem pars_no {s : ByteArray} {ps : List PV} {rs s1 : ByteArray} (hp : parsL s.data.toList = (parsF (16 - ps.length) rs.data.toList).map (ps ++ ·)) (h1 : s1.data.toList = tlL rs.data.toList) (hne : 0 < s1.size) (hs : pStep s1.data.toList = none) : parsL s.data.toList = none := by
  rw [hp, pars_bad (by rw [← h1]; intro e; have : s1.size = 0 := (by rw [← len_data, e]; rfl); omega) (by rw [← h1]; exact hs)]; rfl
def GP (w : World) (ps : List PV) (v : Value) (wr : World) : Prop := Gat w 43 2 ps.length (encPs ps) v wr
theorem GP.snoc {w wr : World} {ps : List PV} {v : Value} (h : GP w ps v wr) (hl : ps.length + 1 ≤ 16) (x y : ByteArray) :
    ∃ (g n' c' : Nat) (w' : World), (Builtin.append_ #[38, 38] 38 #[v, .slice (some ⟨wr.heap.size, 0, none⟩) 1 1]).run Tryd.prog (wr.alloc (.cells #[.string x, .string y] 43)) = .ok (.slice (some ⟨g, 0, none⟩) n' c') w' ∧
      GP w (ps ++ [(x.data.toList, y.data.toList)]) (.slice (some ⟨g, 0, none⟩) n' c') w' := by
  obtain ⟨g, n', c', w', hr, hg⟩ := app_gat h Tryd.underlying38 infoP2 rfl (by decide) (by omega) (by decide) [.string x, .string y] rfl (by simp [Value.oneCell'])
  refine ⟨g, n', c', w', hr, ?_⟩
  unfold GP
  rw [encPs_snoc, List.length_append]
  have e : ∀ z : ByteArray, strV z.data.toList = .string z := fun z => by unfold strV; congr 1
  rw [e, e]; exact hg
theorem GP.below {w wr w' : World} {ps : List PV} {v : Value} (h : GP w ps v wr) (hb : Below wr.heap.size wr w') : GP w ps v w' := Gat.below h hb
/-- A store into a block that is none of the row's. -/
theorem GP.set {w wr : World} {ps : List PV} {v : Value} {r j : Nat} {x : Value} (h : GP w ps v wr) (hr : w.heap.size ≤ r) (hne : v.ownBlock ≠ some r) : GP w ps v (wr.setCell ⟨r, j, none⟩ x) :=
  ⟨h.row.kept (row := some r) ⟨rfl, rfl, rfl, (KeepsWalks.setCell wr ⟨r, j, none⟩ x).size, fun k _ hk => Below.heap_setCell _ _ _ k (fun e => hk (by rw [e]))⟩ (by
    cases hv : v.ownBlock with
    | none => exact .inl rfl
    | some g => exact .inr fun e => hne (by rw [hv]; exact e)), h.low.setCell (p := ⟨r, j, none⟩) hr _⟩

set_option maxRecDepth 10000 in
set_option maxHeartbeats 4000000 in
theorem refparams (s : ByteArray) (w : World) (hs : s.size ≤ 1000000) : Calls Tryd.prog 19 #[.string s] w (PrAns 43 w s) := by
  go_enter Tryd.func19, Tryd.ntmps19
  go_wp2
  go_loopw [0, 4] (fun t v wr => ∃ (ps : List PV) (rs : ByteArray), t = .string rs ∧ rs.size ≤ 1000000 ∧ ps.length ≤ 16 ∧ parsL s.data.toList = (parsF (16 - ps.length) rs.data.toList).map (ps ++ ·) ∧ GP w ps v wr) (fun t _ _ => sizeV t)
  case atStart => exact ⟨[], s, rfl, hs, Nat.zero_le _, by unfold parsL; show parsF 16 _ = _; cases parsF 16 s.data.toList <;> rfl, ⟨World.ownsRow_nil _ _ _ _, Below.refl _ _⟩⟩
  case round =>
    obtain ⟨ps, rs, rfl, hrs, h16, hp, hg⟩ := hrel
    have HP := Lib.hid hp
    have HG := Lib.hid hg
    clear hp hg
    obtain ⟨va, vc, rfl⟩ := HG.out.form
    have hbk := bkw_le rs
    go_upto_region 3 with (go_at_call 35; refine (blanks_r rs _ hrs).mono ?_; rintro e w' ⟨rfl, rfl⟩)
    have hs1 := bkw_drop rs
    have hz1 : (rs.extract (bkw rs) rs.size).size ≤ rs.size := by rw [extract_size _ _ _ (Nat.le_refl _)]; omega
    obtain ⟨s1, he1⟩ : ∃ s1, s1 = rs.extract (bkw rs) rs.size := ⟨_, rfl⟩
    rw [← he1] at hs1 hz1 ⊢
    have H1 := Lib.hid hs1
    clear hs1 he1 hbk
    by_cases h0 : s1.size = 0
    · have hz2 := emp_yes h0
      have hz3 : s1.toList.isEmpty = true := by rw [hz2]; rfl
      have HALL := Lib.hid (show parsL s.data.toList = some ps by rw [HP.out, pars_end (by rw [← H1.out, nil_of_size h0])]; simp)
      clear h0
      go_wp2
      go_ret2
      exact ⟨HG.out.low, by rw [HALL.out]; exact ⟨_, rfl, HG.out.row⟩⟩
    · have h00 : 0 < s1.size := by omega
      obtain ⟨hz2, hz3⟩ := emp_no (s := s1) h00
      have HT := Lib.hid (head_tail s1 h00)
      rcases byte_is (c := s1[0]) (n := 59) (by decide) with ⟨-, b59', e59⟩ | ⟨-, b59', e59⟩
      · have b59 : ((s1[0].toNat : Int) != 59) = false := b59'
        clear b59'
        by_cases hfull : ps.length = 16
        · have hl16 : ((ps.length : Int) == 16) = true := by rw [hfull]; rfl
          have HN := Lib.hid (show parsL s.data.toList = none by
            rw [HP.out, hfull, pars_full (by rw [← H1.out]; intro e; have : s1.size = 0 := (by rw [← len_data, e]; rfl); omega)]; rfl)
          clear hfull e59
          go_wp2
          go_ret2
          exact ⟨HG.out.low, by rw [HN.out]; rfl⟩
        · have hl16 : ((ps.length : Int) == 16) = false := by rw [beq_eq_false_iff_ne]; omega
          have HLT := Lib.hid (show ps.length + 1 ≤ 16 by omega)
          clear hfull
          have HT2 := Lib.hid (show s1.data.toList = 59 :: (s1.extract 1 s1.size).data.toList by have := HT.out; rw [e59] at this; exact this)
          clear e59
          have h1le : 1 ≤ s1.size := h00
          go_upto_region 8 with fail
          have hzz : (s1.extract 1 s1.size).size ≤ s1.size - 1 := by rw [extract_size _ _ _ (Nat.le_refl _)]; exact Nat.le_refl _
          obtain ⟨s2, he2⟩ : ∃ s2, s2 = s1.extract 1 s1.size := ⟨_, rfl⟩
          rw [← he2] at HT2 hzz ⊢
          have hbk2 := bkw_le s2
          clear he2
          have hs2m : s2.size ≤ 1000000 := by omega
          go_upto_region 9 with (go_at_call 35; refine (blanks_r s2 _ hs2m).mono ?_; rintro e w' ⟨rfl, rfl⟩)
          have hs3 := bkw_drop s2
          have hz3' : (s2.extract (bkw s2) s2.size).size ≤ s2.size := by rw [extract_size _ _ _ (Nat.le_refl _)]; omega
          obtain ⟨s3, he3⟩ : ∃ s3, s3 = s2.extract (bkw s2) s2.size := ⟨_, rfl⟩
          rw [← he3] at hs3 hz3' ⊢
          have H3 := Lib.hid hs3
          have hs3m : s3.size ≤ 1000000 := by omega
          clear hs3 he3 hbk2
          have hn3 := tkw_le s3
          have hnt := tkw_take s3
          have hnd := tkw_drop s3
          have hTK := fun w => token_r s3 w hs3m
          obtain ⟨n, hn⟩ : ∃ n, n = tkw s3 := ⟨_, rfl⟩
          rw [← hn] at hn3 hnt hnd hTK
          have HNT := Lib.hid hnt
          have HND := Lib.hid hnd
          have HNL := Lib.hid (show n = (tw s3.data.toList).length from hn)
          clear hnt hnd hn
          by_cases hn0 : n = 0
          · have hnz : ((n : Int) == 0) = true := by rw [hn0]; rfl
            have HN := Lib.hid (pars_no HP.out H1.out h00 (by rw [HT2.out]; exact pStep_noname (by rw [← H3.out]; exact List.eq_nil_of_length_eq_zero (by rw [← HNL.out]; exact hn0))))
            subst hn0
            go_wp2_with (go_at_call 36; refine (hTK _).mono ?_; rintro e w' ⟨rfl, rfl⟩)
            go_ret2
            exact ⟨HG.out.low, by rw [HN.out]; rfl⟩
          · have hnz : ((n : Int) == 0) = false := by rw [beq_eq_false_iff_ne]; omega
            have HNE := Lib.hid (show tw (tlL s2.data.toList) ≠ [] by rw [← H3.out]; intro e; exact hn0 (by rw [HNL.out, e]; rfl))
            go_upto_region 14 with (go_at_call 36; refine (hTK _).mono ?_; rintro e w' ⟨rfl, rfl⟩)
            clear hTK
            have hz4 : (s3.extract n s3.size).size + n = s3.size := by rw [extract_size _ _ _ (Nat.le_refl _)]; omega
            obtain ⟨nm, hnm⟩ : ∃ nm, nm = s3.extract 0 n := ⟨_, rfl⟩
            obtain ⟨s4, he4⟩ : ∃ s4, s4 = s3.extract n s3.size := ⟨_, rfl⟩
            rw [← hnm] at HNT ⊢
            rw [← he4] at HND hz4 ⊢
            clear hnm he4
            have HNM := Lib.hid (show nm.data.toList = tw (tlL s2.data.toList) by rw [HNT.out, H3.out])
            have H4 := Lib.hid (show s4.data.toList = dwt (tlL s2.data.toList) by rw [HND.out, H3.out])
            have hg2 := HG.out.below ((Below.refl _ wr).alloc (Nat.le_refl _) (.cells #[.string nm, .string { data := #[] }] 43))
            have HG2 := Lib.hid hg2
            clear hg2
            by_cases h40 : s4.size = 0
            · have hz5 := emp_yes h40
              have hz6 : s4.toList.isEmpty = true := by rw [hz5]; rfl
              obtain ⟨g, n', c', w3, hrun, hg4⟩ := HG2.out.snoc HLT.out nm ⟨#[]⟩
              simp only [World.size_alloc] at hrun
              have HG4 := Lib.hid hg4
              have HX := Lib.hid (pars_next (rest := s4) (p := (nm.data.toList, [])) HP.out H1.out h00 HLT.out (by
                rw [HT2.out, pStep_end HNE.out (by rw [← H4.out, nil_of_size h40]), HNM.out, nil_of_size h40]))
              clear hg4 h40
              go_wp2_with (at_builtin; refine wpList_run_app rfl (.tmp 67) (.tmp 69) 38 rfl rfl rfl hrun ?_)
              go_roundw
              case rel => exact ⟨ps ++ [(nm.data.toList, [])], s4, rfl, by omega, by rw [List.length_append]; exact HLT.out, HX.out, HG4.out⟩
              case measure => simp only [sizeV]; omega
            · have h400 : 0 < s4.size := by omega
              obtain ⟨hz5, hz6⟩ := emp_no (s := s4) h400
              have HT4 := Lib.hid (head_tail s4 h400)
              rcases byte_is (c := s4[0]) (n := 61) (by decide) with ⟨b61', -, e61⟩ | ⟨b61', -, e61⟩
              · have b61 : ((s4[0].toNat : Int) == 61) = true := b61'
                clear b61'
                have HT5 := Lib.hid (show s4.data.toList = 61 :: (s4.extract 1 s4.size).data.toList by have := HT4.out; rw [e61] at this; exact this)
                clear e61
                have h4le : 1 ≤ s4.size := h400
                go_upto_region 16 with fail
                have hzz5 : (s4.extract 1 s4.size).size + 1 = s4.size := by rw [extract_size _ _ _ (Nat.le_refl _)]; omega
                obtain ⟨s5, he5⟩ : ∃ s5, s5 = s4.extract 1 s4.size := ⟨_, rfl⟩
                rw [← he5] at HT5 hzz5 ⊢
                clear he5
                have hs5m : s5.size ≤ 1000000 := by omega
                have H5 := Lib.hid (show dwt (tlL s2.data.toList) = 61 :: s5.data.toList by rw [← H4.out, HT5.out])
                have hm5 := tkw_le s5
                have hmt := tkw_take s5
                have hmd := tkw_drop s5
                have hTK5 := fun w => token_r s5 w hs5m
                obtain ⟨m, hm⟩ : ∃ m, m = tkw s5 := ⟨_, rfl⟩
                rw [← hm] at hm5 hmt hmd hTK5
                have HMT := Lib.hid hmt
                have HMD := Lib.hid hmd
                have HML := Lib.hid (show m = (tw s5.data.toList).length from hm)
                clear hmt hmd hm
                go_upto_region 18 with (go_at_call 36; refine (hTK5 _).mono ?_; rintro e w' ⟨rfl, rfl⟩)
                clear hTK5
                obtain ⟨vl, hvl⟩ : ∃ vl, vl = s5.extract 0 m := ⟨_, rfl⟩
                rw [← hvl] at HMT ⊢
                clear hvl
                have hg3 := HG.out.below ((Below.refl _ wr).alloc (Nat.le_refl _) (.cells #[.string nm, .string vl] 43))
                have HG3 := Lib.hid hg3
                clear hg3
                have hvb : (Value.slice va ps.length vc).ownBlock ≠ some wr.heap.size := fun e => by have := (HG.out.row.lt _ e).2; omega
                have HVB := Lib.hid hvb
                clear hvb
                by_cases hm0 : m = 0
                · have hmz : ((m : Int) == 0) = true := by rw [hm0]; rfl
                  have htq : toqL s5.data.toList = qans s5.data.toList := by
                    unfold toqL; rw [if_pos (List.eq_nil_of_length_eq_zero (by rw [← HML.out]; exact hm0))]
                  have hQ := fun w => refquoted s5 w hs5m
                  unfold QAns at hQ
                  obtain ⟨qv, hqv⟩ : ∃ qv : ByteArray, qv = ⟨(qans s5.data.toList).1.toArray⟩ := ⟨_, rfl⟩
                  obtain ⟨j, hj⟩ : ∃ j, j = (qans s5.data.toList).2 := ⟨_, rfl⟩
                  rw [← hqv, ← hj] at hQ
                  have hjl : j ≤ s5.size := by rw [hj]; exact (qans_le _).1
                  have hp0 := PB.new 43 wr nm vl
                  have HP0 := Lib.hid hp0
                  clear hp0 hm0
                  by_cases hj0 : j = 0
                  · have hjz : ((j : Int) == 0) = true := by rw [hj0]; rfl
                    have HN := Lib.hid (pars_no HP.out H1.out h00 (by rw [HT2.out]; exact pStep_noval HNE.out H5.out (by rw [htq, ← hj]; exact hj0)))
                    clear htq hqv hj hj0
                    go_wp2_with (go_at_call 17; refine (hQ _).mono ?_; rintro e w2 ⟨rfl, hb⟩; have hp1 := HP0.out.below hb (by simp); have k1 := hp1.c1; have f1 := hp1.f1; have hlw := HG3.out.below hb; have HLW := Lib.hid hlw; clear hb hp1 hlw)
                    go_ret2
                    exact ⟨HLW.out.low.setCell (p := ⟨wr.heap.size, 1, none⟩) HG.out.low.size _, by rw [HN.out]; rfl⟩
                  · have hjz : ((j : Int) == 0) = false := by rw [beq_eq_false_iff_ne]; omega
                    have hz6 : (s5.extract j s5.size).size ≤ s5.size := by rw [extract_size _ _ _ (Nat.le_refl _)]; omega
                    have hrd : (s5.extract j s5.size).data.toList = s5.data.toList.drop (toqL s5.data.toList).2 := by rw [ext_drop, htq, ← hj]
                    have HX := Lib.hid (pars_next (rest := s5.extract j s5.size) (p := (nm.data.toList, qv.data.toList)) HP.out H1.out h00 HLT.out (by
                      rw [HT2.out, hrd, pStep_val HNE.out H5.out (by rw [htq, ← hj]; exact hj0), HNM.out, htq, hqv]))
                    clear htq hqv hj hrd hj0
                    go_wp2_with (first
                      | (go_at_call 17; refine (hQ _).mono ?_; rintro e w2 ⟨rfl, hb⟩; have hp1 := HP0.out.below hb (by simp); have k1 := hp1.c1; have k0 := hp1.c0; have f1 := hp1.f1; have hlw := HG3.out.below hb; have hp2 := hp1.set1 qv; have k2 := hp2.c0; have k3 := hp2.c1; have hgs := GP.set (j := 1) (x := .string qv) hlw HG.out.low.size HVB.out; obtain ⟨g, n', c', w3, hrun, hg4⟩ := hgs.snoc HLT.out nm qv; rw [show (w2.setCell ⟨wr.heap.size, 1, none⟩ (.string qv)).heap.size = w2.heap.size by simp [World.setCell]] at hrun; have HG4 := Lib.hid hg4; clear hb hp1 hlw hp2 hgs hg4)
                      | (at_builtin; refine wpList_run_app rfl (.tmp 67) (.tmp 69) 38 rfl rfl rfl hrun ?_))
                    go_roundw
                    case rel => exact ⟨ps ++ [(nm.data.toList, qv.data.toList)], s5.extract j s5.size, rfl, by omega, by rw [List.length_append]; exact HLT.out, HX.out, HG4.out⟩
                    case measure => simp only [sizeV]; omega
                · have hmz : ((m : Int) == 0) = false := by rw [beq_eq_false_iff_ne]; omega
                  have hz6 : (s5.extract m s5.size).size ≤ s5.size := by rw [extract_size _ _ _ (Nat.le_refl _)]; omega
                  have htne : tw s5.data.toList ≠ [] := by intro e; exact hm0 (by rw [HML.out, e]; rfl)
                  have htq : toqL s5.data.toList = (tw s5.data.toList, m) := by unfold toqL; rw [if_neg htne, HML.out]
                  have HX := Lib.hid (pars_next (rest := s5.extract m s5.size) (p := (nm.data.toList, vl.data.toList)) HP.out H1.out h00 HLT.out (by
                    rw [HT2.out, ext_drop, pStep_val HNE.out H5.out (by rw [htq]; exact hm0), HNM.out, HMT.out, htq]))
                  obtain ⟨g, n', c', w3, hrun, hg4⟩ := HG3.out.snoc HLT.out nm vl
                  simp only [World.size_alloc] at hrun
                  have HG4 := Lib.hid hg4
                  clear hg4 htq htne
                  go_wp2_with (at_builtin; refine wpList_run_app rfl (.tmp 67) (.tmp 69) 38 rfl rfl rfl hrun ?_)
                  go_roundw
                  case rel => exact ⟨ps ++ [(nm.data.toList, vl.data.toList)], s5.extract m s5.size, rfl, by omega, by rw [List.length_append]; exact HLT.out, HX.out, HG4.out⟩
                  case measure => simp only [sizeV]; omega
              · have b61 : ((s4[0].toNat : Int) == 61) = false := b61'
                clear b61'
                obtain ⟨g, n', c', w3, hrun, hg4⟩ := HG2.out.snoc HLT.out nm ⟨#[]⟩
                simp only [World.size_alloc] at hrun
                have HG4 := Lib.hid hg4
                have HX := Lib.hid (pars_next (rest := s4) (p := (nm.data.toList, [])) HP.out H1.out h00 HLT.out (by
                  rw [HT2.out, pStep_bare HNE.out (show dwt (tlL s2.data.toList) = s4[0] :: (s4.extract 1 s4.size).data.toList by rw [← H4.out]; exact HT4.out) e61, HNM.out, ← HT4.out]))
                clear hg4 e61
                go_wp2_with (at_builtin; refine wpList_run_app rfl (.tmp 67) (.tmp 69) 38 rfl rfl rfl hrun ?_)
                go_roundw
                case rel => exact ⟨ps ++ [(nm.data.toList, [])], s4, rfl, by omega, by rw [List.length_append]; exact HLT.out, HX.out, HG4.out⟩
                case measure => simp only [sizeV]; omega
      · have b59 : ((s1[0].toNat : Int) != 59) = true := b59'
        clear b59'
        have HN := Lib.hid (pars_no HP.out H1.out h00 (by rw [HT.out]; exact pStep_no e59 _))
        clear e59
        go_wp2
        go_ret2
        exact ⟨HG.out.low, by rw [HN.out]; rfl⟩
end Go.Proofs.YtfnjkkjpffnbiaaDoor
