/- Clean of the code. Conditions: a path of at most a million bytes. -/
import Derived.Test.YtgckpoecdaioiaaTc11
namespace Go.Proofs.Ytgckpoecdaioiaa
open Go.RowKit
set_option linter.unusedVariables false
set_option linter.unusedSimpArgs false

/-- The parts that are left from k on. -/
def remS (l : List UInt8) (k : Nat) : List (List UInt8) := if k < l.length then splitS (l.drop (k + 1)) else []
theorem remS_end {l : List UInt8} {k : Nat} (h : ¬ k < l.length) : remS l k = [] := by unfold remS; rw [if_neg h]
theorem isC_no {d x : UInt8} (h : isC d x = false) : x ≠ d := by intro e; subst e; simp [isC] at h
theorem isC_yes {d x : UInt8} (h : isC d x = true) : x = d := by simpa [isC] using h
theorem remS_step {l : List UInt8} {k : Nat} (h : k < l.length) (p : List UInt8) (hp : p = upL (isC 47) (l.drop (k + 1))) :
    remS l k = p :: remS l (k + 1 + p.length) ∧ k + 1 + p.length ≤ l.length ∧ ∀ x ∈ p, x ≠ 47 := by
  have hno : ∀ x ∈ p, x ≠ 47 := fun x hx => isC_no (upL_no (isC 47) _ x (by rw [← hp]; exact hx))
  have hle := upL_len (isC 47) (l.drop (k + 1))
  rw [← hp, List.length_drop] at hle
  refine ⟨?_, by omega, hno⟩
  unfold remS
  rw [if_pos h]
  rcases Nat.lt_or_ge p.length (l.drop (k + 1)).length with hlt | hge
  · obtain ⟨c, hc, hpc⟩ := upL_end (isC 47) (l.drop (k + 1)) (by rw [← hp]; exact hlt)
    rw [← hp] at hc
    have e47 := isC_yes hpc
    subst e47
    obtain ⟨h1, h2⟩ := List.getElem?_eq_some_iff.1 hc
    have e : l.drop (k + 1) = p ++ 47 :: (l.drop (k + 1)).drop (p.length + 1) := by
      conv => lhs; rw [upL_drop (isC 47) (l.drop (k + 1)), ← hp, List.drop_eq_getElem_cons h1, h2]
    rw [List.length_drop] at hlt
    rw [if_pos (by omega)]
    conv => lhs; rw [e, splitS_at hno]
    rw [List.drop_drop, show k + 1 + (p.length + 1) = k + 1 + p.length + 1 by omega]
  · have e : p = l.drop (k + 1) := by
      have := upL_len_full (p := isC 47) (l := l.drop (k + 1)) (by rw [← hp]; have := upL_len (isC 47) (l.drop (k + 1)); rw [← hp] at this; omega)
      rw [hp]; exact this
    rw [List.length_drop] at hge
    rw [if_neg (by omega), splitS_no (by rw [← e]; exact hno), ← e]
theorem remS_start {l : List UInt8} (h : slashL l = true) : remS l 0 = splitS l.tail := by
  unfold remS
  cases l with
  | nil => simp [slashL] at h
  | cons c r => rw [if_pos (by simp)]; rfl
theorem joinS_last {st : List (List UInt8)} (h : st ≠ []) : joinS st = joinS st.dropLast ++ 47 :: st.getLast h := by
  conv => lhs; rw [← List.dropLast_concat_getLast h, joinS_snoc]
theorem joinS_zero {st : List (List UInt8)} (h : (joinS st).length = 0) : st = [] := by
  cases st with
  | nil => rfl
  | cons p r => simp [joinS] at h
/-- What Clean answers. -/
def clnA (l : List UInt8) : ByteArray × Bool := match clnL l with | some d => (ofL d, true) | none => (⟨#[]⟩, false)
theorem clnA_no {l : List UInt8} (h : clnL l = none) : clnA l = (⟨#[]⟩, false) := by unfold clnA; rw [h]
theorem clnA_yes {l d : List UInt8} (h : clnL l = some d) : clnA l = (ofL d, true) := by unfold clnA; rw [h]
theorem ret_sb {p : ByteArray × Bool} {a : ByteArray} {c : Bool} (h : p = (a, c)) : Ending.returned (.tuple #[.string a, .bool c]) = .returned (.tuple #[.string p.1, .bool p.2]) := by rw [h]

theorem GB.fits {w0 w : World} {l : List UInt8} {g n c : Nat} (h : GB w0 l (.slice (some ⟨g, 0, none⟩) n c) w) : n ≤ c := by
  rcases h.row.2 with ⟨hv, h0⟩ | ⟨g', cap, cur, hv, _, _, h1, _⟩
  · cases hv
  · injection hv with _ e1 e2; omega

set_option maxRecDepth 10000 in
theorem wol_a {w0 w : World} {a p : List UInt8} {g c : Nat} (hp : ∀ x ∈ p, x ≠ 47) (hz : (a ++ 47 :: p).length ≤ 10000000)
    (h : GB w0 (a ++ 47 :: p) (.slice (some ⟨g, 0, none⟩) (a ++ 47 :: p).length c) w) :
    Calls Try.prog 37 #[.slice (some ⟨g, 0, none⟩) (a ++ 47 :: p).length c] w fun e w' => e = .returned (.slice (some ⟨g, 0, none⟩) a.length c) ∧ w = w' := by
  have HC := Lib.hid (fun j hj => h.cell j hj)
  have hnc := h.fits
  obtain ⟨l, hl⟩ : ∃ l, l = a ++ 47 :: p := ⟨_, rfl⟩
  have hat : ∀ j (hj : j < l.length), a.length < j → l[j] ≠ 47 := by
    intro j hj hja
    subst hl
    rw [List.getElem_append_right (by omega)]
    rw [List.getElem_cons, dif_neg (by omega)]
    exact hp _ (List.getElem_mem _)
  have hat2 : ∀ j (hj : j < l.length), j = a.length → l[j] = 47 := by
    intro j hj he
    subst hl he
    simp
  have hlen : a.length < l.length := by rw [hl]; simp
  rw [← hl] at HC hz hnc ⊢
  have HA := Lib.hid hat
  have HB := Lib.hid hat2
  clear hat hat2 hl hp h
  obtain ⟨n, hn⟩ : ∃ n, n = a.length := ⟨_, rfl⟩
  obtain ⟨m, hm⟩ : ∃ m, m = l.length := ⟨_, rfl⟩
  have HM := Lib.hid hm
  have HN := Lib.hid hn
  rw [← hn, ← hm] at hlen
  rw [← hm] at hz hnc
  rw [← hn, ← hm]
  clear hn hm
  go_enter Try.func37, Try.ntmps37
  go_wp2
  go_loop [3] (fun i => ∃ (k : Nat), n ≤ k ∧ k < m ∧ i = .int .i64 k) (fun i => (intOf i).toNat)
  case atStart => exact ⟨m - 1, by omega, by omega, by congr 1; omega⟩
  case round =>
    obtain ⟨k, hnk, hkm, rfl⟩ := hrel
    have hk2 : k < l.length := by rw [← HM.out]; exact hkm
    have hcell := HC.out k hk2
    by_cases hk : k = n
    · have e1 : ((l[k].toNat : Int) != 47) = false := by
        have : l[k] = 47 := HB.out k hk2 (hk.trans HN.out)
        rw [this]; rfl
      have HK := Lib.hid hk
      clear hk
      go_wp2
      go_ret
      exact ⟨(by show Ending.returned (.slice _ k c) = _; rw [HK.out]), rfl⟩
    · have e1 : ((l[k].toNat : Int) != 47) = true := by
        have := (ne_int (x := l[k]) (y := 47) (HA.out k hk2 (by have := HN.out; omega))).2; simpa using this
      have hk1 : n < k := by omega
      clear hk
      go_wp2
      go_round
      case rel => exact ⟨k - 1, by omega, by omega, by congr 1; omega⟩
      case measure => simp [intOf]; omega

theorem text_same {s : ByteArray} {l : List UInt8} (h : s.data.toList = l) : s = ofL l := by rw [← h, ofL_data]
set_option maxRecDepth 10000 in
set_option maxHeartbeats 2000000 in
theorem clean_a (s : ByteArray) (hs : s.size ≤ 1000000) (w : World) :
    Calls Try.prog 18 #[.string s] w fun e w' => e = .returned (.tuple #[.string (clnA s.data.toList).1, .bool (clnA s.data.toList).2]) ∧ Mods [] w w' := by
  cases hsl : slashL s.data.toList with
  | false =>
    have HS := Lib.hid (fun w => hsl ▸ slash_a s w hs)
    have HR := Lib.hid (clnA_no (clnL_no hsl))
    clear hsl
    go_enter Try.func18, Try.ntmps18
    go_wp2_with (go_at_call 23; refine (HS.out _).mono ?_; rintro e w' ⟨rfl, rfl⟩)
    go_ret2
    exact ⟨ret_sb HR.out, Mods.refl _ _⟩
  | true =>
    have HS := Lib.hid (fun w => hsl ▸ slash_a s w hs)
    have HR := Lib.hid (clnL_yes hsl)
    have H0 := Lib.hid (remS_start hsl)
    have hmk := make_cap s.size hs w
    have HM := Lib.hid (gb_made w s.size hs)
    have HL := Lib.hid (len_data s)
    clear hsl
    go_enter Try.func18, Try.ntmps18
    go_wp2_with (go_at_call 23; refine (HS.out _).mono ?_; rintro e w' ⟨rfl, rfl⟩)
    clear hmk
    go_loopw [4, 5, 6] (fun v pv i wr => ∃ (k : Nat) (st : List (List UInt8)) (pt : ByteArray), k ≤ s.size ∧ i = .int .i64 k ∧ pv = .string pt ∧ (joinS st).length ≤ k ∧
      clnS [] (splitS s.data.toList.tail) = clnS st (remS s.data.toList k) ∧ lastP (splitS s.data.toList.tail) = lastP (pt.data.toList :: remS s.data.toList k) ∧ OrdS st ∧ GB w (joinS st) v wr) (fun _ _ i _ => s.size - (intOf i).toNat)
    case atStart => exact ⟨0, [], ⟨#[]⟩, Nat.zero_le _, rfl, rfl, Nat.le_refl _, by rw [H0.out], by rw [lastP_cons _ (by rw [H0.out]; exact splitS_ne _), H0.out], (fun p hp => nomatch hp), HM.out⟩
    case round =>
      obtain ⟨k, st, pt, hk, rfl, rfl, hjl, hcl, hla, hor, hG⟩ := hrel
      have HC := Lib.hid hcl
      have HP := Lib.hid hla
      have HO := Lib.hid hor
      have HG := Lib.hid hG
      clear hcl hla hor hG
      by_cases hlt : k < s.size
      · have hl := ext_from s (k + 1)
        have hsz := ext_le s (k + 1) s.size
        have c1 : (0 : Int) ≤ (k : Int) + 1 := by omega
        have c2 : (k : Int) + 1 ≤ (s.size : Int) := by omega
        obtain ⟨u, hu⟩ : ∃ u, u = s.extract (k + 1) s.size := ⟨_, rfl⟩
        rw [← hu] at hl hsz
        have HU := Lib.hid hu
        have HT := Lib.hid (fun w => upto_a u ⟨#[47]⟩ (by omega) w)
        have hpl := up_47 u
        have hps := upA_size ⟨#[47]⟩ u
        obtain ⟨p, hp⟩ : ∃ p, p = upA ⟨#[47]⟩ u := ⟨_, rfl⟩
        rw [← hp] at HT hpl hps
        rw [hl] at hpl
        obtain ⟨r1, r2, r3⟩ := remS_step (k := k) (by rw [HL.out]; exact hlt) p.data.toList hpl
        rw [len_data] at r1 r2
        rw [HL.out] at r2
        have HC2 := Lib.hid (HC.out.trans (by rw [r1]))
        have HP2 := Lib.hid (show lastP (splitS s.data.toList.tail) = lastP (p.data.toList :: remS s.data.toList (k + 1 + p.size)) by rw [HP.out, r1, lastP_cons _ (by simp)])
        have HNO := Lib.hid r3
        clear hu hp hl hpl r1 r3 HC HP
        by_cases h2 : p.data.toList = [46, 46]
        · by_cases he : st = []
          · subst he
            have HN := Lib.hid (show clnA s.data.toList = (⟨#[]⟩, false) from clnA_no (by rw [HR.out, HC2.out, h2, clnS_out]; rfl))
            have e1 := text_eq h2
            have hlow := Lib.hid HG.out.low
            obtain ⟨A, c, rfl⟩ := HG.out.form
            clear h2
            go_wp2_with (go_at_call 36; try rw [← HU.out]; refine (HT.out _).mono ?_; rintro e w' ⟨rfl, rfl⟩)
            go_ret2
            exact ⟨ret_sb HN.out, .of_below hlow.out⟩
          · have hj := joinS_last he
            have HN := Lib.hid (show clnS [] (splitS s.data.toList.tail) = clnS st.dropLast (remS s.data.toList (k + 1 + p.size)) by rw [HC2.out, h2, clnS_up he])
            have hnl := (HO.out _ (List.getLast_mem he)).2
            have hO2 := Lib.hid HO.out.drop
            have e1 := text_eq h2
            have hne : joinS st ≠ [] := by rw [hj]; simp
            obtain ⟨g, c, hv, -⟩ := own_some (n := (joinS st).length) (by
              have := HG.out.row
              exact ⟨this.1, by rcases this.2 with h | ⟨g', cap, cur, h1, h2, h3⟩; exact .inl h; exact .inr ⟨g', cap, cur, h1, Nat.zero_le _, h3⟩⟩) (List.length_pos_iff.2 hne)
            subst hv
            have hG2 := HG.out
            rw [hj] at hG2 hjl
            have HW := Lib.hid (wol_a hnl (by omega) hG2)
            have HG3 := Lib.hid (show GB w (joinS st.dropLast) (.slice (some ⟨g, 0, none⟩) (joinS st.dropLast).length c) wr by
              have := hG2.cut (joinS st.dropLast).length (by simp)
              rw [List.take_left] at this; exact this)
            rw [List.length_append] at hjl
            have e2 : (((joinS st).length : Int) == 0) = false := by
              have := List.length_pos_iff.2 hne
              rw [beq_eq_false_iff_ne]; omega
            have hj2 : (joinS st.dropLast).length ≤ k := by omega
            rw [← hj] at HW
            clear h2 he hj hnl hG2 hne HG hjl
            obtain ⟨n1, hn1⟩ : ∃ n, n = (joinS st).length := ⟨_, rfl⟩
            obtain ⟨n2, hn2⟩ : ∃ n, n = (joinS st.dropLast).length := ⟨_, rfl⟩
            rw [← hn1] at HW e2
            rw [← hn2] at HW HG3 hj2
            have H2 := Lib.hid hn2
            rw [← hn1]
            clear hn1 hn2
            go_wp2_with (first
              | (go_at_call 36; try rw [← HU.out]; refine (HT.out _).mono ?_; rintro e w' ⟨rfl, rfl⟩)
              | (go_at_call 37; refine HW.out.mono ?_; rintro e w' ⟨rfl, rfl⟩))
            go_roundw
            case rel => exact ⟨k + 1 + p.size, st.dropLast, p, r2, by go_num, rfl, by rw [← H2.out]; omega, HN.out, HP2.out, hO2.out, HG3.out⟩
            case measure => simp [intOf]; omega
        · cases hd : dotsL p.data.toList with
          | true =>
            have HN := Lib.hid (show clnS [] (splitS s.data.toList.tail) = clnS st (remS s.data.toList (k + 1 + p.size)) by rw [HC2.out, clnS_dot h2 hd])
            have HD := Lib.hid (fun w => hd ▸ dots_a p w)
            have e1 := text_ne h2
            clear h2 hd
            go_wp2_with (first
              | (go_at_call 36; try rw [← HU.out]; refine (HT.out _).mono ?_; rintro e w' ⟨rfl, rfl⟩)
              | (go_at_call 38; refine (HD.out _).mono ?_; rintro e w' ⟨rfl, rfl⟩))
            go_roundw
            case rel => exact ⟨k + 1 + p.size, st, p, r2, by go_num, rfl, by omega, HN.out, HP2.out, HO.out, HG.out⟩
            case measure => simp [intOf]; omega
          | false =>
            have HN := Lib.hid (show clnS [] (splitS s.data.toList.tail) = clnS (st ++ [p.data.toList]) (remS s.data.toList (k + 1 + p.size)) by rw [HC2.out, clnS_part hd])
            have HD := Lib.hid (fun w => hd ▸ dots_a p w)
            have HO2 := Lib.hid (HO.out.snoc hd HNO.out)
            have e1 := text_ne h2
            clear h2 hd
            obtain ⟨g, n', c', w3, hrun, hg3⟩ := app_byte HG.out (by omega) 47
            obtain ⟨g2, n2, c2, w4, hrun2, hg4⟩ := app_text hg3 p (by rw [List.length_append]; simp; omega) (by simp)
            have HG4 := Lib.hid (show GB w (joinS (st ++ [p.data.toList])) _ w4 by rw [joinS_snoc, show joinS st ++ 47 :: p.data.toList = joinS st ++ [47] ++ p.data.toList by simp]; exact hg4)
            have hjl2 : (joinS (st ++ [p.data.toList])).length ≤ k + 1 + p.size := by rw [joinS_snoc, List.length_append, List.length_cons, len_data]; omega
            clear hg3 hg4
            go_wp2_with (first
              | (go_at_call 36; try rw [← HU.out]; refine (HT.out _).mono ?_; rintro e w' ⟨rfl, rfl⟩)
              | (go_at_call 38; refine (HD.out _).mono ?_; rintro e w' ⟨rfl, rfl⟩)
              | (at_builtin; refine wpList_run_app rfl (.tmp 44) (.tmp 45) 42 42 rfl rfl rfl hrun ?_)
              | (at_builtin; refine wpList_run_app rfl (.tmp 46) (.tmp 47) 42 9 rfl rfl rfl hrun2 ?_))
            go_roundw
            case rel => exact ⟨k + 1 + p.size, st ++ [p.data.toList], p, r2, by go_num, rfl, hjl2, HN.out, HP2.out, HO2.out, HG4.out⟩
            case measure => simp [intOf]; omega
      · have hrem := remS_end (l := s.data.toList) (k := k) (by rw [HL.out]; exact hlt)
        have hcl := HC.out
        have hla := HP.out
        rw [hrem] at hcl hla
        rw [clnS_nil] at hcl
        have hres : clnL s.data.toList = some (joinS st ++ tailP pt.data.toList) := by rw [HR.out, hcl, hla]; rfl
        clear hrem hcl hla
        cases hd : dotsL pt.data.toList with
        | true =>
          have HRES := Lib.hid (show clnL s.data.toList = some (joinS st ++ [47]) by rw [hres]; unfold tailP; rw [if_pos hd])
          have HD := Lib.hid (fun w => hd ▸ dots_a pt w)
          clear hres hd
          obtain ⟨g, n', c', w3, hrun, hg3⟩ := app_byte HG.out (by omega) 47
          have hback := conv_gat hg3
          have HL3 := Lib.hid hg3.low
          clear hg3
          go_wp2_with (first
            | (go_at_call 38; refine (HD.out _).mono ?_; rintro e w' ⟨rfl, rfl⟩)
            | (at_builtin; refine wpList_run_app rfl (.tmp 51) (.tmp 52) 42 42 rfl rfl rfl hrun ?_))
          go_ret2
          exact ⟨ret_sb (clnA_yes HRES.out), .of_below HL3.out⟩
        | false =>
          have HRES := Lib.hid (show clnL s.data.toList = some (joinS st) by rw [hres]; unfold tailP; rw [if_neg (by rw [hd]; simp)]; simp)
          have HD := Lib.hid (fun w => hd ▸ dots_a pt w)
          clear hres hd
          obtain ⟨A, c, rfl⟩ := HG.out.form
          have hback := conv_gat HG.out
          have HL3 := Lib.hid HG.out.low
          go_wp2_with (go_at_call 38; refine (HD.out _).mono ?_; rintro e w' ⟨rfl, rfl⟩)
          go_ret2
          exact ⟨ret_sb (clnA_yes HRES.out), .of_below HL3.out⟩
end Go.Proofs.Ytgckpoecdaioiaa
