/- Clean of the document. Conditions: a path of at most a million bytes. -/
import Derived.Test.YtgckpoecdaioiaaTh11
namespace Go.Proofs.Ytgckpoecdaioiaa
open Go.RowKit
set_option linter.unusedVariables false
set_option linter.unusedSimpArgs false

set_option maxRecDepth 10000 in
set_option maxHeartbeats 2000000 in
theorem clean_r (s : ByteArray) (hs : s.size ≤ 1000000) (w : World) :
    Calls Try.prog 19 #[.string s] w fun e w' => e = .returned (.tuple #[.string (clnA s.data.toList).1, .bool (clnA s.data.toList).2]) ∧ Mods [] w w' := by
  by_cases h0 : s.size = 0
  · have HR := Lib.hid (clnA_no (clnL_no (show slashL s.data.toList = false by rw [nil_data h0]; rfl)))
    have h1 := emp_yes h0
    clear h0
    go_enter Try.func19, Try.ntmps19
    go_wp2
    go_ret2
    exact ⟨ret_sb HR.out, Mods.refl _ _⟩
  · have hp : 0 < s.size := by omega
    obtain ⟨h1, h2⟩ := emp_no hp
    have hd := drop_cons s 0 hp
    rw [List.drop_zero] at hd
    by_cases hc : s[0] = 47
    · have hsl : slashL s.data.toList = true := by rw [hd, hc]; rfl
      have HR := Lib.hid (clnL_yes hsl)
      have htail : s.data.toList.tail = s.data.toList.drop 1 := by rw [List.drop_one]
      have e1 : ((s[0].toNat : Int) != 47) = false := by rw [hc]; rfl
      have c1 : (1 : Int) ≤ (s.size : Int) := by omega
      have hSl : (s.extract 1 s.size ++ ⟨#[47]⟩).data.toList = s.data.toList.tail ++ [47] := by
        rw [ByteArray.data_append, Array.toList_append, ext_from, htail]
      have hSz : (s.extract 1 s.size ++ ⟨#[47]⟩).size = s.size := by
        rw [ByteArray.size_append, ByteArray.size_extract]; show _ + 1 = _; omega
      obtain ⟨S, hS⟩ : ∃ S, S = s.extract 1 s.size ++ ⟨#[47]⟩ := ⟨_, rfl⟩
      have HS := Lib.hid hS
      rw [← hS] at hSl hSz
      have hsp : splitS s.data.toList.tail = cutS [] S.data.toList := by rw [hSl, cutS_split]; rfl
      have HSP := Lib.hid hsp
      have HM := Lib.hid (gs_nil w)
      have hne := splitS_ne s.data.toList.tail
      have HNE := Lib.hid hne
      have hS1 : S.size ≤ 1000000 := by omega
      clear hd hc hsl htail hSl hS hsp hne hSz
      go_enter Try.func19, Try.ntmps19
      go_upto_region 6 with fail
      rw [← HS.out]
      go_wp2
      go_loopw [4, 5, 7, 8] (fun v lv fv i wr => ∃ (k f : Nat) (st : List (List UInt8)) (lt : ByteArray), f ≤ k ∧ k ≤ S.size ∧ i = .int .i64 k ∧ fv = .int .i64 f ∧ lv = .string lt ∧ (joinS st).length ≤ f ∧
        clnS [] (splitS s.data.toList.tail) = clnS st (cutS (S.extract f k).data.toList (S.data.toList.drop k)) ∧ lastP (splitS s.data.toList.tail) = lastP (lt.data.toList :: cutS (S.extract f k).data.toList (S.data.toList.drop k)) ∧ GS w st v wr) (fun _ _ _ i _ => S.size - (intOf i).toNat)
      case atStart => exact ⟨0, 0, [], ⟨#[]⟩, Nat.le_refl _, Nat.zero_le _, rfl, rfl, rfl, Nat.le_refl _, by rw [ext_self, List.drop_zero, HSP.out], by rw [ext_self, List.drop_zero, ← HSP.out, lastP_cons _ HNE.out], HM.out⟩
      case round =>
        obtain ⟨k, f, st, lt, hfk, hk, rfl, rfl, rfl, hjl, hcl, hla, hG⟩ := hrel
        have HC := Lib.hid hcl
        have HP := Lib.hid hla
        have HG := Lib.hid hG
        clear hcl hla hG
        by_cases hlt : k < S.size
        · have hdc := drop_cons S k hlt
          by_cases hc : S[k] = 47
          · have e2 : ((S[k].toNat : Int) != 47) = false := by rw [hc]; rfl
            have c2 : (0 : Int) ≤ (f : Int) := by omega
            have c3 : (f : Int) ≤ (k : Int) := by omega
            have c4 : (k : Int) ≤ (S.size : Int) := by omega
            have hul := ext_len S f k hfk (by omega)
            obtain ⟨u, hu⟩ : ∃ u, u = S.extract f k := ⟨_, rfl⟩
            rw [← hu] at HC HP hul
            have HU := Lib.hid hu
            have HC2 := Lib.hid (show clnS [] (splitS s.data.toList.tail) = clnS st (u.data.toList :: cutS (S.extract (k + 1) (k + 1)).data.toList (S.data.toList.drop (k + 1))) by rw [HC.out, hdc, hc, cut_slash, ext_self])
            have HP2 := Lib.hid (show lastP (splitS s.data.toList.tail) = lastP (u.data.toList :: cutS (S.extract (k + 1) (k + 1)).data.toList (S.data.toList.drop (k + 1))) by rw [HP.out, hdc, hc, cut_slash, ext_self, lastP_cons _ (by simp)])
            clear hu hdc hc HC HP
            by_cases hu0 : u.data.toList = []
            · have HN := Lib.hid (show clnS [] (splitS s.data.toList.tail) = clnS st (cutS (S.extract (k + 1) (k + 1)).data.toList (S.data.toList.drop (k + 1))) by rw [HC2.out, clnS_dot (by rw [hu0]; simp) (by rw [hu0]; rfl)])
              have e3 := emp_yes (show u.size = 0 by show u.data.toList.length = 0; rw [hu0]; rfl)
              clear hu0 hul
              go_upto_region 13 with fail
              rw [← HU.out]
              go_wp2
              go_roundw
              case rel => exact ⟨k + 1, k + 1, st, u, Nat.le_refl _, by omega, by go_num, by go_num, rfl, by omega, HN.out, HP2.out, HG.out⟩
              case measure => simp [intOf]; omega
            · obtain ⟨e3, e4⟩ := emp_no (size_pos hu0)
              by_cases hu1 : u.data.toList = [46]
              · have HN := Lib.hid (show clnS [] (splitS s.data.toList.tail) = clnS st (cutS (S.extract (k + 1) (k + 1)).data.toList (S.data.toList.drop (k + 1))) by rw [HC2.out, clnS_dot (by rw [hu1]; simp) (by rw [hu1]; rfl)])
                have e5 := text_eq hu1
                clear hu0 hu1 hul
                go_upto_region 13 with fail
                rw [← HU.out]
                go_wp2
                go_roundw
                case rel => exact ⟨k + 1, k + 1, st, u, Nat.le_refl _, by omega, by go_num, by go_num, rfl, by omega, HN.out, HP2.out, HG.out⟩
                case measure => simp [intOf]; omega
              · have e5 := text_ne hu1
                by_cases hu2 : u.data.toList = [46, 46]
                · have e6 := text_eq hu2
                  by_cases he : st = []
                  · subst he
                    have HN := Lib.hid (show clnA s.data.toList = (⟨#[]⟩, false) from clnA_no (by rw [HR.out, HC2.out, hu2, clnS_out]; rfl))
                    obtain ⟨A, c, rfl⟩ := HG.out.form
                    clear hu0 hu1 hu2 hul
                    go_upto_region 13 with fail
                    rw [← HU.out]
                    go_wp2
                    go_ret2
                    exact ⟨ret_sb HN.out, .of_below HG.out.low⟩
                  · have HN := Lib.hid (show clnS [] (splitS s.data.toList.tail) = clnS st.dropLast (cutS (S.extract (k + 1) (k + 1)).data.toList (S.data.toList.drop (k + 1))) by rw [HC2.out, hu2, clnS_up he])
                    obtain ⟨g, c, rfl⟩ := HG.out.some he
                    have hf := HG.out.fits.2
                    have hcut := HG.out.cut (st.length - 1) (by omega)
                    rw [← List.dropLast_eq_take] at hcut
                    have hpos := List.length_pos_iff.2 he
                    have e7 : ((st.length : Int) == 0) = false := by rw [beq_eq_false_iff_ne]; omega
                    have hdl := join_drop_le st
                    have hnb := join_le st
                    obtain ⟨n, hn⟩ : ∃ n, n = st.length := ⟨_, rfl⟩
                    rw [← hn] at hf hcut hpos e7 hnb
                    rw [← hn]
                    have HCUT := Lib.hid (fun q (hq : q = n - 1) => hq ▸ hcut)
                    clear hu0 hu1 hu2 hul he hcut hn
                    go_upto_region 13 with fail
                    rw [← HU.out]
                    go_wp2
                    go_roundw
                    case rel => exact ⟨k + 1, k + 1, st.dropLast, u, Nat.le_refl _, by omega, by go_num, by go_num, rfl, by omega, HN.out, HP2.out, HCUT.out _ (by omega)⟩
                    case measure => simp [intOf]; omega
                · have e6 := text_ne hu2
                  have hdo : dotsL u.data.toList = false := by unfold dotsL; simp [hu0, hu1, hu2]
                  have HN := Lib.hid (show clnS [] (splitS s.data.toList.tail) = clnS (st ++ [u.data.toList]) (cutS (S.extract (k + 1) (k + 1)).data.toList (S.data.toList.drop (k + 1))) by rw [HC2.out, clnS_part hdo])
                  have hlen := join_le st
                  obtain ⟨A1, C1, w1, g, n', c', w2, hr1, hr2, hg2⟩ := add_part HG.out (by omega) u.data.toList
                  rw [ofL_data] at hr2
                  have HG2 := Lib.hid hg2
                  have hjl2 : (joinS (st ++ [u.data.toList])).length ≤ k + 1 := by rw [joinS_snoc, List.length_append, List.length_cons, hul]; omega
                  clear hu0 hu1 hu2 hul hdo hg2 hlen
                  go_upto_region 13 with fail
                  rw [← HU.out]
                  go_wp2_with (first
                    | (at_builtin; refine wpList_run_app rfl (.tmp 38) (.tmp 39) 57 57 rfl rfl rfl hr1 ?_)
                    | (at_builtin; refine wpList_run_app rfl (.tmp 40) (.tmp 42) 57 57 rfl rfl rfl hr2 ?_))
                  go_roundw
                  case rel => exact ⟨k + 1, k + 1, st ++ [u.data.toList], u, Nat.le_refl _, by omega, by go_num, by go_num, rfl, hjl2, HN.out, HP2.out, HG2.out⟩
                  case measure => simp [intOf]; omega
          · have e2 : ((S[k].toNat : Int) != 47) = true := by have := (b_no 47 hc).2; simpa using this
            have HC2 := Lib.hid (HC.out.trans (by rw [hdc, cut_on hc, ← ext_snoc S f k hfk hlt]))
            have HP2 := Lib.hid (HP.out.trans (by rw [hdc, cut_on hc, ← ext_snoc S f k hfk hlt]))
            clear hdc hc HC HP
            go_wp2
            go_roundw
            case rel => exact ⟨k + 1, f, st, lt, by omega, by omega, by go_num, rfl, rfl, hjl, HC2.out, HP2.out, HG.out⟩
            case measure => simp [intOf]; omega
        · obtain rfl : k = S.size := by omega
          have hdr : S.data.toList.drop S.size = [] := List.drop_of_length_le (by rw [len_data]; exact Nat.le_refl _)
          have hcl := HC.out
          have hla := HP.out
          rw [hdr] at hcl hla
          rw [show cutS (S.extract f S.size).data.toList [] = [] from rfl] at hcl hla
          rw [clnS_nil] at hcl
          have hres : clnL s.data.toList = some (joinS st ++ tailP lt.data.toList) := by rw [HR.out, hcl, hla]; rfl
          have hlast : st = [] → dotsL lt.data.toList = true := fun h => by
            rw [h] at hcl
            have := clnS_last _ _ hcl HNE.out
            rw [hla] at this; exact this
          have HRES := Lib.hid hres
          have HLAST := Lib.hid hlast
          clear hdr hcl hla hres hlast HC HP
          by_cases he : st = []
          · have hd := HLAST.out he
            have HRR := Lib.hid (show clnL s.data.toList = some [47] by rw [HRES.out, he]; unfold tailP; rw [if_pos hd]; rfl)
            subst he
            obtain ⟨A, c, rfl⟩ := HG.out.form
            clear hd
            go_wp2
            refine wp_loop_rounds 1 ?_
            rw [rounds_succ]
            go_wp2
            go_ret2
            exact ⟨ret_sb (clnA_yes HRR.out), .of_below HG.out.low⟩
          · obtain ⟨g, c, rfl⟩ := HG.out.some he
            have HCE := Lib.hid (fun j hj => HG.out.cell j hj)
            have HJ := Lib.hid (fun j (hj : j < st.length) => (show ofL (joinS (st.take j)) ++ ⟨#[47]⟩ ++ ofL st[j] = ofL (joinS (st.take (j + 1))) from bytes_ext (by
              rw [ByteArray.data_append, ByteArray.data_append, Array.toList_append, Array.toList_append, ofL_list, ofL_list, ofL_list, joinS_take hj]; simp)))
            have HT := Lib.hid (fun j => joinS_take_le st j)
            have hstb := join_le st
            go_wp2
            go_loop [9, 10] (fun o i => ∃ (j : Nat), j ≤ st.length ∧ i = .int .i64 j ∧ o = .string (ofL (joinS (st.take j)))) (fun _ i => st.length - (intOf i).toNat)
            case atStart => exact ⟨0, Nat.zero_le _, rfl, rfl⟩
            case round =>
              obtain ⟨j, hj, rfl, rfl⟩ := hrel
              by_cases hjt : j < st.length
              · have hcell := HCE.out j hjt
                have hjj := HJ.out j hjt
                have hjs := HT.out j
                have hjs2 := HT.out (j + 1)
                have hos := ofL_size (joinS (st.take j))
                have hqs := ofL_size st[j]
                rw [joinS_take hjt, List.length_append, List.length_cons, ← hqs] at hjs2
                rw [← hos] at hjs hjs2
                obtain ⟨o, ho⟩ : ∃ o, o = ofL (joinS (st.take j)) := ⟨_, rfl⟩
                obtain ⟨q, hq⟩ : ∃ q, q = ofL st[j] := ⟨_, rfl⟩
                rw [← ho] at hjj hjs hjs2
                rw [← hq] at hcell hjj hjs2
                clear hos hqs
                rw [← ho]
                have HJJ := Lib.hid hjj
                clear ho hq hjj
                go_wp2
                go_round
                case rel => exact ⟨j + 1, by omega, by go_num, by rw [HJJ.out]⟩
                case measure => simp [intOf]; omega
              · obtain rfl : j = st.length := by omega
                have hol : (ofL (joinS (st.take st.length))).data.toList = joinS st := by rw [ofL_list, List.take_length]
                obtain ⟨o, ho⟩ : ∃ o, o = ofL (joinS (st.take st.length)) := ⟨_, rfl⟩
                rw [← ho] at hol
                rw [← ho]
                obtain ⟨e1, e2⟩ := emp_no (s := o) (size_pos (by rw [hol]; intro h; exact he (joinS_zero (by rw [h]; rfl))))
                have hosz : o.size ≤ 1000000 := by have := congrArg List.length hol; rw [len_data] at this; omega
                have HOL := Lib.hid hol
                clear ho hol
                cases hd : dotsL lt.data.toList with
                | false =>
                  have HRR := Lib.hid (show clnA s.data.toList = (o, true) from by
                    rw [clnA_yes (show clnL s.data.toList = some o.data.toList by rw [HRES.out, HOL.out]; unfold tailP; rw [if_neg (by rw [hd]; simp)]; simp), ofL_data])
                  have hall : lt.data.toList ≠ [] ∧ lt.data.toList ≠ [46] ∧ lt.data.toList ≠ [46, 46] := by
                    unfold dotsL at hd; simpa using hd
                  obtain ⟨e3, e4⟩ := emp_no (size_pos hall.1)
                  have e5 := text_ne hall.2.1
                  have e6 := text_ne hall.2.2
                  clear hd hall
                  go_wp2
                  go_ret2
                  exact ⟨ret_sb HRR.out, .of_below HG.out.low⟩
                | true =>
                  have HRR := Lib.hid (show clnA s.data.toList = (o ++ ⟨#[47]⟩, true) from by
                    rw [clnA_yes (show clnL s.data.toList = some (o.data.toList ++ [47]) by rw [HRES.out, HOL.out]; unfold tailP; rw [if_pos hd]), show ofL (o.data.toList ++ [47]) = o ++ ⟨#[47]⟩ from bytes_ext (by rw [ofL_list, ByteArray.data_append, Array.toList_append])])
                  have hall : lt.data.toList = [] ∨ lt.data.toList = [46] ∨ lt.data.toList = [46, 46] := by
                    unfold dotsL at hd; exact of_decide_eq_true hd
                  clear hd
                  rcases hall with h | h | h
                  · obtain rfl : lt = ⟨#[]⟩ := bytes_ext h
                    go_wp2
                    go_ret2
                    exact ⟨ret_sb HRR.out, .of_below HG.out.low⟩
                  · obtain rfl : lt = ⟨#[46]⟩ := bytes_ext h
                    go_wp2
                    go_ret2
                    exact ⟨ret_sb HRR.out, .of_below HG.out.low⟩
                  · obtain rfl : lt = ⟨#[46, 46]⟩ := bytes_ext h
                    go_wp2
                    go_ret2
                    exact ⟨ret_sb HRR.out, .of_below HG.out.low⟩
    · have HR := Lib.hid (clnA_no (clnL_no (show slashL s.data.toList = false by rw [hd]; exact slash_cons hc)))
      have e1 : ((s[0].toNat : Int) != 47) = true := by have := (b_no 47 hc).2; simpa using this
      clear hd hc
      go_enter Try.func19, Try.ntmps19
      go_wp2
      go_ret2
      exact ⟨ret_sb HR.out, Mods.refl _ _⟩
end Go.Proofs.Ytgckpoecdaioiaa
