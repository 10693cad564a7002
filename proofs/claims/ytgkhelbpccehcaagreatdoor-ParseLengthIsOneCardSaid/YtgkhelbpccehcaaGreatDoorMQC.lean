/- Clean of the code. Conditions: a path of at most a million bytes. -/
import Derived.Test.YtgkhelbpccehcaaGreatDoorMQB
import Derived.Test.YtgkhelbpccehcaaGreatDoorLowerR
import Derived.OwnWalk
namespace Go.Proofs.YtgkhelbpccehcaaGreatDoor
open Go.RowKit
set_option linter.unusedVariables false
set_option linter.unusedSimpArgs false

/-- The parts that are left from k on. -/
def remS (l : List UInt8) (k : Nat) : List (List UInt8) := if k < l.length then splitS (l.drop (k + 1)) else []
theorem remS_end {l : List UInt8} {k : Nat} (h : ¬ k < l.length) : remS l k = [] := by unfold remS; rw [if_neg h]
theorem isC_no {d x : UInt8} (h : isC d x = false) : x ≠ d := by intro e; subst e; simp [isC] at h
theorem isC_yes {d x : UInt8} (h : isC d x = true) : x = d := by simpa [isC] using h
theorem remS_step {l : List UInt8} {k : Nat} (h : k < l.length) (p : List UInt8) (hp : p = upL (isC 47) (l.drop (k + 1))) :
    remS l k = p :: remS l (k + 1 + p.length) ∧ k + 1 + p.length ≤ l.length ∧ ∀ x ∈ p, x ≠ 47 := by
  have hno : ∀ x ∈ p, x ≠ 47 := fun x hx => isC_no (upL_no (isC 47) _ x (by rw [← hp]; exact hx))
  have hle := upL_len (isC 47) (l.drop (k + 1))
  rw [← hp, List.length_drop] at hle
  refine ⟨?_, by omega, hno⟩
  unfold remS
  rw [if_pos h]
  rcases Nat.lt_or_ge p.length (l.drop (k + 1)).length with hlt | hge
  · obtain ⟨c, hc, hpc⟩ := upL_end (isC 47) (l.drop (k + 1)) (by rw [← hp]; exact hlt)
    rw [← hp] at hc
    have e47 := isC_yes hpc
    subst e47
    obtain ⟨h1, h2⟩ := List.getElem?_eq_some_iff.1 hc
    have e : l.drop (k + 1) = p ++ 47 :: (l.drop (k + 1)).drop (p.length + 1) := by
      conv => lhs; rw [upL_drop (isC 47) (l.drop (k + 1)), ← hp, List.drop_eq_getElem_cons h1, h2]
    rw [List.length_drop] at hlt
    rw [if_pos (by omega)]
    conv => lhs; rw [e, splitS_at hno]
    rw [List.drop_drop, show k + 1 + (p.length + 1) = k + 1 + p.length + 1 by omega]
  · have e : p = l.drop (k + 1) := by
      have := upL_len_full (p := isC 47) (l := l.drop (k + 1)) (by rw [← hp]; have := upL_len (isC 47) (l.drop (k + 1)); rw [← hp] at this; omega)
      rw [hp]; exact this
    rw [List.length_drop] at hge
    rw [if_neg (by omega), splitS_no (by rw [← e]; exact hno), ← e]
theorem remS_start {l : List UInt8} (h : slashL l = true) : remS l 0 = splitS l.tail := by
  unfold remS
  cases l with
  | nil => simp [slashL] at h
  | cons c r => rw [if_pos (by simp)]; rfl
theorem joinS_last {st : List (List UInt8)} (h : st ≠ []) : joinS st = joinS st.dropLast ++ 47 :: st.getLast h := by
  conv => lhs; rw [← List.dropLast_concat_getLast h, joinS_snoc]
theorem joinS_zero {st : List (List UInt8)} (h : (joinS st).length = 0) : st = [] := by
  cases st with
  | nil => rfl
  | cons p r => simp [joinS] at h
/-- What Clean answers. -/
def clnA (l : List UInt8) : ByteArray × Bool := match clnL l with | some d => (ofL d, true) | none => (⟨#[]⟩, false)
theorem clnA_no {l : List UInt8} (h : clnL l = none) : clnA l = (⟨#[]⟩, false) := by unfold clnA; rw [h]
theorem clnA_yes {l d : List UInt8} (h : clnL l = some d) : clnA l = (ofL d, true) := by unfold clnA; rw [h]
theorem ret_sb {p : ByteArray × Bool} {a : ByteArray} {c : Bool} (h : p = (a, c)) : Ending.returned (.tuple #[.string a, .bool c]) = .returned (.tuple #[.string p.1, .bool p.2]) := by rw [h]

theorem GBT.fits {w0 w : World} {l : List UInt8} {g n c : Nat} (h : GBT w0 l (.slice (some ⟨g, 0, none⟩) n c) w) : n ≤ c := by
  rcases h.row.2 with ⟨hv, h0⟩ | ⟨g', cap, cur, hv, _, _, h1, _⟩
  · cases hv
  · injection hv with _ e1 e2; omega

set_option maxRecDepth 10000 in
theorem wol_a {w0 w : World} {a p : List UInt8} {g c : Nat} (hp : ∀ x ∈ p, x ≠ 47) (hz : (a ++ 47 :: p).length ≤ 10000000)
    (h : GBT w0 (a ++ 47 :: p) (.slice (some ⟨g, 0, none⟩) (a ++ 47 :: p).length c) w) :
    Calls Tryz.prog 185 #[.slice (some ⟨g, 0, none⟩) (a ++ 47 :: p).length c] w fun e w' => e = .returned (.slice (some ⟨g, 0, none⟩) a.length c) ∧ w = w' := by
  have HC := Lib.hid (fun j hj => h.cell j hj)
  have hnc := h.fits
  obtain ⟨l, hl⟩ : ∃ l, l = a ++ 47 :: p := ⟨_, rfl⟩
  have hat : ∀ j (hj : j < l.length), a.length < j → l[j] ≠ 47 := by
    intro j hj hja
    subst hl
    rw [List.getElem_append_right (by omega)]
    rw [List.getElem_cons, dif_neg (by omega)]
    exact hp _ (List.getElem_mem _)
  have hat2 : ∀ j (hj : j < l.length), j = a.length → l[j] = 47 := by
    intro j hj he
    subst hl he
    simp
  have hlen : a.length < l.length := by rw [hl]; simp
  rw [← hl] at HC hz hnc ⊢
  have HA := Lib.hid hat
  have HB := Lib.hid hat2
  clear hat hat2 hl hp h
  obtain ⟨n, hn⟩ : ∃ n, n = a.length := ⟨_, rfl⟩
  obtain ⟨m, hm⟩ : ∃ m, m = l.length := ⟨_, rfl⟩
  have HM := Lib.hid hm
  have HN := Lib.hid hn
  rw [← hn, ← hm] at hlen
  rw [← hm] at hz hnc
  rw [← hn, ← hm]
  clear hn hm
  go_enter Tryz.func185, Tryz.ntmps185
  go_wp2
  go_loop [3] (fun i => ∃ (k : Nat), n ≤ k ∧ k < m ∧ i = .int .i64 k) (fun i => (intOf i).toNat)
  case atStart => exact ⟨m - 1, by omega, by omega, by congr 1; omega⟩
  case round =>
    obtain ⟨k, hnk, hkm, rfl⟩ := hrel
    have hk2 : k < l.length := by rw [← HM.out]; exact hkm
    have hcell := HC.out k hk2
    by_cases hk : k = n
    · have e1 : ((l[k].toNat : Int) != 47) = false := by
        have : l[k] = 47 := HB.out k hk2 (hk.trans HN.out)
        rw [this]; rfl
      have HK := Lib.hid hk
      clear hk
      go_wp2
      go_ret
      exact ⟨(by show Ending.returned (.slice _ k c) = _; rw [HK.out]), rfl⟩
    · have e1 : ((l[k].toNat : Int) != 47) = true := by
        have := (ne_int (x := l[k]) (y := 47) (HA.out k hk2 (by have := HN.out; omega))).2; simpa using this
      have hk1 : n < k := by omega
      clear hk
      go_wp2
      go_round
      case rel => exact ⟨k - 1, by omega, by omega, by congr 1; omega⟩
      case measure => simp [intOf]; omega

theorem text_same {s : ByteArray} {l : List UInt8} (h : s.data.toList = l) : s = ofL l := by rw [← h, ofL_data]
set_option maxRecDepth 10000 in
set_option maxHeartbeats 2000000 in
theorem clean_a (s : ByteArray) (hs : s.size ≤ 1000000) (w : World) :
    Calls Tryz.prog 153 #[.string s] w fun e w' => e = .returned (.tuple #[.string (clnA s.data.toList).1, .bool (clnA s.data.toList).2]) ∧ Mods [] w w' := by
  cases hsl : slashL s.data.toList with
  | false =>
    have HS := Lib.hid (fun w => hsl ▸ slash_a s w hs)
    have HR := Lib.hid (clnA_no (clnL_no hsl))
    clear hsl
    go_enter Tryz.func153, Tryz.ntmps153
    go_wp2_with (go_at_call 130; refine (HS.out _).mono ?_; rintro e w' ⟨rfl, rfl⟩)
    go_ret2
    exact ⟨ret_sb HR.out, Mods.refl _ _⟩
  | true =>
    have HS := Lib.hid (fun w => hsl ▸ slash_a s w hs)
    have HR := Lib.hid (clnL_yes hsl)
    have H0 := Lib.hid (remS_start hsl)
    have hmk := make_capT s.size hs w
    have HM := Lib.hid (gb_madeT w s.size hs)
    have HL := Lib.hid (len_data s)
    clear hsl
    go_enter Tryz.func153, Tryz.ntmps153
    go_wp2_with (go_at_call 130; refine (HS.out _).mono ?_; rintro e w' ⟨rfl, rfl⟩)
    clear hmk
    go_loopw [4, 5, 6] (fun v pv i wr => ∃ (k : Nat) (st : List (List UInt8)) (pt : ByteArray), k ≤ s.size ∧ i = .int .i64 k ∧ pv = .string pt ∧ (joinS st).length ≤ k ∧
      clnS [] (splitS s.data.toList.tail) = clnS st (remS s.data.toList k) ∧ lastP (splitS s.data.toList.tail) = lastP (pt.data.toList :: remS s.data.toList k) ∧ OrdS st ∧ GBT w (joinS st) v wr) (fun _ _ i _ => s.size - (intOf i).toNat)
    case atStart => exact ⟨0, [], ⟨#[]⟩, Nat.zero_le _, rfl, rfl, Nat.le_refl _, by rw [H0.out], by rw [lastP_cons _ (by rw [H0.out]; exact splitS_ne _), H0.out], (fun p hp => nomatch hp), HM.out⟩
    case round =>
      obtain ⟨k, st, pt, hk, rfl, rfl, hjl, hcl, hla, hor, hG⟩ := hrel
      have HC := Lib.hid hcl
      have HP := Lib.hid hla
      have HO := Lib.hid hor
      have HG := Lib.hid hG
      clear hcl hla hor hG
      by_cases hlt : k < s.size
      · have hl := ext_from s (k + 1)
        have hsz := ext_le s (k + 1) s.size
        have c1 : (0 : Int) ≤ (k : Int) + 1 := by omega
        have c2 : (k : Int) + 1 ≤ (s.size : Int) := by omega
        obtain ⟨u, hu⟩ : ∃ u, u = s.extract (k + 1) s.size := ⟨_, rfl⟩
        rw [← hu] at hl hsz
        have HU := Lib.hid hu
        have HT := Lib.hid (fun w => upto_a u ⟨#[47]⟩ (by omega) w)
        have hpl := up_47 u
        have hps := upA_size ⟨#[47]⟩ u
        obtain ⟨p, hp⟩ : ∃ p, p = upA ⟨#[47]⟩ u := ⟨_, rfl⟩
        rw [← hp] at HT hpl hps
        rw [hl] at hpl
        obtain ⟨r1, r2, r3⟩ := remS_step (k := k) (by rw [HL.out]; exact hlt) p.data.toList hpl
        rw [len_data] at r1 r2
        rw [HL.out] at r2
        have HC2 := Lib.hid (HC.out.trans (by rw [r1]))
        have HP2 := Lib.hid (show lastP (splitS s.data.toList.tail) = lastP (p.data.toList :: remS s.data.toList (k + 1 + p.size)) by rw [HP.out, r1, lastP_cons _ (by simp)])
        have HNO := Lib.hid r3
        clear hu hp hl hpl r1 r3 HC HP
        by_cases h2 : p.data.toList = [46, 46]
        · by_cases he : st = []
          · subst he
            have HN := Lib.hid (show clnA s.data.toList = (⟨#[]⟩, false) from clnA_no (by rw [HR.out, HC2.out, h2, clnS_out]; rfl))
            have e1 := text_eq h2
            have hlow := Lib.hid HG.out.low
            obtain ⟨A, c, rfl⟩ := HG.out.form
            clear h2
            go_wp2_with (go_at_call 149; try rw [← HU.out]; refine (HT.out _).mono ?_; rintro e w' ⟨rfl, rfl⟩)
            go_ret2
            exact ⟨ret_sb HN.out, .of_below hlow.out⟩
          · have hj := joinS_last he
            have HN := Lib.hid (show clnS [] (splitS s.data.toList.tail) = clnS st.dropLast (remS s.data.toList (k + 1 + p.size)) by rw [HC2.out, h2, clnS_up he])
            have hnl := (HO.out _ (List.getLast_mem he)).2
            have hO2 := Lib.hid HO.out.drop
            have e1 := text_eq h2
            have hne : joinS st ≠ [] := by rw [hj]; simp
            obtain ⟨g, c, hv, -⟩ := own_some (n := (joinS st).length) (by
              have := HG.out.row
              exact ⟨this.1, by rcases this.2 with h | ⟨g', cap, cur, h1, h2, h3⟩; exact .inl h; exact .inr ⟨g', cap, cur, h1, Nat.zero_le _, h3⟩⟩) (List.length_pos_iff.2 hne)
            subst hv
            have hG2 := HG.out
            rw [hj] at hG2 hjl
            have HW := Lib.hid (wol_a hnl (by omega) hG2)
            have HG3 := Lib.hid (show GBT w (joinS st.dropLast) (.slice (some ⟨g, 0, none⟩) (joinS st.dropLast).length c) wr by
              have := hG2.cut (joinS st.dropLast).length (by simp)
              rw [List.take_left] at this; exact this)
            rw [List.length_append] at hjl
            have e2 : (((joinS st).length : Int) == 0) = false := by
              have := List.length_pos_iff.2 hne
              rw [beq_eq_false_iff_ne]; omega
            have hj2 : (joinS st.dropLast).length ≤ k := by omega
            rw [← hj] at HW
            clear h2 he hj hnl hG2 hne HG hjl
            obtain ⟨n1, hn1⟩ : ∃ n, n = (joinS st).length := ⟨_, rfl⟩
            obtain ⟨n2, hn2⟩ : ∃ n, n = (joinS st.dropLast).length := ⟨_, rfl⟩
            rw [← hn1] at HW e2
            rw [← hn2] at HW HG3 hj2
            have H2 := Lib.hid hn2
            rw [← hn1]
            clear hn1 hn2
            go_wp2_with (first
              | (go_at_call 149; try rw [← HU.out]; refine (HT.out _).mono ?_; rintro e w' ⟨rfl, rfl⟩)
              | (go_at_call 185; refine HW.out.mono ?_; rintro e w' ⟨rfl, rfl⟩))
            go_roundw
            case rel => exact ⟨k + 1 + p.size, st.dropLast, p, r2, by go_num, rfl, by rw [← H2.out]; omega, HN.out, HP2.out, hO2.out, HG3.out⟩
            case measure => simp [intOf]; omega
        · cases hd : dotsL p.data.toList with
          | true =>
            have HN := Lib.hid (show clnS [] (splitS s.data.toList.tail) = clnS st (remS s.data.toList (k + 1 + p.size)) by rw [HC2.out, clnS_dot h2 hd])
            have HD := Lib.hid (fun w => hd ▸ dots_a p w)
            have e1 := text_ne h2
            clear h2 hd
            go_wp2_with (first
              | (go_at_call 149; try rw [← HU.out]; refine (HT.out _).mono ?_; rintro e w' ⟨rfl, rfl⟩)
              | (go_at_call 186; refine (HD.out _).mono ?_; rintro e w' ⟨rfl, rfl⟩))
            go_roundw
            case rel => exact ⟨k + 1 + p.size, st, p, r2, by go_num, rfl, by omega, HN.out, HP2.out, HO.out, HG.out⟩
            case measure => simp [intOf]; omega
          | false =>
            have HN := Lib.hid (show clnS [] (splitS s.data.toList.tail) = clnS (st ++ [p.data.toList]) (remS s.data.toList (k + 1 + p.size)) by rw [HC2.out, clnS_part hd])
            have HD := Lib.hid (fun w => hd ▸ dots_a p w)
            have HO2 := Lib.hid (HO.out.snoc hd HNO.out)
            have e1 := text_ne h2
            clear h2 hd
            obtain ⟨g, n', c', w3, hrun, hg3⟩ := app_byteT HG.out (by omega) 47
            obtain ⟨g2, n2, c2, w4, hrun2, hg4⟩ := app_text hg3 p (by rw [List.length_append]; simp; omega) (by simp)
            have HG4 := Lib.hid (show GBT w (joinS (st ++ [p.data.toList])) _ w4 by rw [joinS_snoc, show joinS st ++ 47 :: p.data.toList = joinS st ++ [47] ++ p.data.toList by simp]; exact hg4)
            have hjl2 : (joinS (st ++ [p.data.toList])).length ≤ k + 1 + p.size := by rw [joinS_snoc, List.length_append, List.length_cons, len_data]; omega
            clear hg3 hg4
            go_wp2_with (first
              | (go_at_call 149; try rw [← HU.out]; refine (HT.out _).mono ?_; rintro e w' ⟨rfl, rfl⟩)
              | (go_at_call 186; refine (HD.out _).mono ?_; rintro e w' ⟨rfl, rfl⟩)
              | (at_builtin; refine wpList_run_appT rfl (.tmp 44) (.tmp 45) 22 22 rfl rfl rfl hrun ?_)
              | (at_builtin; refine wpList_run_appT rfl (.tmp 46) (.tmp 47) 22 9 rfl rfl rfl hrun2 ?_))
            go_roundw
            case rel => exact ⟨k + 1 + p.size, st ++ [p.data.toList], p, r2, by go_num, rfl, hjl2, HN.out, HP2.out, HO2.out, HG4.out⟩
            case measure => simp [intOf]; omega
      · have hrem := remS_end (l := s.data.toList) (k := k) (by rw [HL.out]; exact hlt)
        have hcl := HC.out
        have hla := HP.out
        rw [hrem] at hcl hla
        rw [clnS_nil] at hcl
        have hres : clnL s.data.toList = some (joinS st ++ tailP pt.data.toList) := by rw [HR.out, hcl, hla]; rfl
        clear hrem hcl hla
        cases hd : dotsL pt.data.toList with
        | true =>
          have HRES := Lib.hid (show clnL s.data.toList = some (joinS st ++ [47]) by rw [hres]; unfold tailP; rw [if_pos hd])
          have HD := Lib.hid (fun w => hd ▸ dots_a pt w)
          clear hres hd
          obtain ⟨g, n', c', w3, hrun, hg3⟩ := app_byteT HG.out (by omega) 47
          have hback := conv_gatT hg3
          have HL3 := Lib.hid hg3.low
          clear hg3
          go_wp2_with (first
            | (go_at_call 186; refine (HD.out _).mono ?_; rintro e w' ⟨rfl, rfl⟩)
            | (at_builtin; refine wpList_run_appT rfl (.tmp 51) (.tmp 52) 22 22 rfl rfl rfl hrun ?_))
          go_ret2
          exact ⟨ret_sb (clnA_yes HRES.out), .of_below HL3.out⟩
        | false =>
          have HRES := Lib.hid (show clnL s.data.toList = some (joinS st) by rw [hres]; unfold tailP; rw [if_neg (by rw [hd]; simp)]; simp)
          have HD := Lib.hid (fun w => hd ▸ dots_a pt w)
          clear hres hd
          obtain ⟨A, c, rfl⟩ := HG.out.form
          have hback := conv_gatT HG.out
          have HL3 := Lib.hid HG.out.low
          go_wp2_with (go_at_call 186; refine (HD.out _).mono ?_; rintro e w' ⟨rfl, rfl⟩)
          go_ret2
          exact ⟨ret_sb (clnA_yes HRES.out), .of_below HL3.out⟩
end Go.Proofs.YtgkhelbpccehcaaGreatDoor

/- Decode of the document. Conditions: a text of at most a million bytes. -/
namespace Go.Proofs.YtgkhelbpccehcaaGreatDoor
open Go.RowKit
set_option linter.unusedVariables false
set_option linter.unusedSimpArgs false

theorem dig_as (c : UInt8) {d : Int} (h : digR c = d) (w : World) : Calls Tryz.prog 93 #[.int .u8 (c.toNat : Int)] w fun e w' => e = .returned (.int .i64 d) ∧ w = w' := by
  subst h; exact dig_r c w
theorem digR_lt {c : UInt8} (h : digB c = 16) : digR c < 0 := by rw [digR_eq, if_pos h]; omega
theorem digR_ge {c : UInt8} (h : digB c ≠ 16) : digR c = digB c := by rw [digR_eq, if_neg h]
theorem hex_bits (a b : Nat) (ha : a < 16) (hb : b < 16) : bits BinOp.or IntKind.i64 ((a : Int) * 16) (b : Int) = (a : Int) * 16 + b := by
  have : (List.range 16).all (fun x => (List.range 16).all (fun y => decide (bits BinOp.or IntKind.i64 ((x : Int) * 16) (y : Int) = (x : Int) * 16 + y))) = true := by decide +kernel
  have h1 := List.all_eq_true.1 this a (by rw [List.mem_range]; exact ha)
  have h2 := List.all_eq_true.1 h1 b (by rw [List.mem_range]; exact hb)
  exact of_decide_eq_true h2
theorem dec_short {acc l : List UInt8} (h : l.length < 2) : decT acc (37 :: l) = none := decT_bad (by
  match l, h with
  | [], _ => rfl
  | [_], _ => rfl)
theorem hxB_zero {a b : UInt8} (h : digB a = 16 ∨ digB b = 16) : hxB a b = 0 := by unfold hxB; rw [if_pos h]

set_option maxRecDepth 10000 in
set_option maxHeartbeats 1000000 in
theorem decode_r (s : ByteArray) (hs : s.size ≤ 1000000) (w : World) :
    Calls Tryz.prog 120 #[.string s] w fun e w' => e = .returned (.tuple #[.string (decA s.data.toList).1, .int .i64 (decA s.data.toList).2]) ∧ Mods [] w w' := by
  have HM := Lib.hid (gb_nilT w)
  go_enter Tryz.func120, Tryz.ntmps120
  go_wp2
  go_loopw [4, 5] (fun v i wr => ∃ (k : Nat) (acc : List UInt8), k ≤ s.size ∧ i = .int .i64 k ∧ acc.length ≤ k ∧ decL s.data.toList = decT acc (s.data.toList.drop k) ∧ GBT w acc v wr) (fun _ i _ => s.size - (intOf i).toNat)
  case atStart => exact ⟨0, [], Nat.zero_le _, rfl, Nat.le_refl _, by rw [List.drop_zero, decT_start], HM.out⟩
  case round =>
    obtain ⟨k, acc, hk, rfl, hacc, hd, hG⟩ := hrel
    have HD := Lib.hid hd
    have HG := Lib.hid hG
    clear hd hG
    by_cases hlt : k < s.size
    · have hdc := drop_cons s k hlt
      by_cases hc : s[k] = 37
      · have e1 : ((s[k].toNat : Int) != 37) = false := by rw [hc]; rfl
        by_cases h2 : k + 2 < s.size
        · have e0 : decide ((s.size : Int) ≤ (k : Int) + 2) = false := by simp; omega
          have h1 : k + 1 < s.size := by omega
          have hdd : s.data.toList.drop (k + 1) = s[k + 1] :: s[k + 2] :: s.data.toList.drop (k + 3) := drop_two s (k + 1) (by omega)
          rw [hdd] at hdc
          by_cases ha : digB s[k + 1] = 16
          · have HN := Lib.hid (show decL s.data.toList = none by rw [HD.out, hdc, hc]; exact decT_bad (hxB_zero (.inl ha)))
            have hra := digR_lt ha
            obtain ⟨da, hda⟩ : ∃ d, d = digR s[k + 1] := ⟨_, rfl⟩
            have HDA := Lib.hid (fun w => dig_as s[k + 1] hda.symm w)
            rw [← hda] at hra
            clear hdc hdd hc ha hda
            go_wp2_with (go_at_call 93; (with_reducible show Calls _ _ #[.int .u8 (s[k + 1].toNat : Int)] _ _); refine (HDA.out _).mono ?_; rintro e w' ⟨rfl, rfl⟩)
            go_ret2
            exact ⟨ret_si (decA_no HN.out), .of_below HG.out.low⟩
          · have hra := digR_ge ha
            have hla := digB_lt ha
            by_cases hb : digB s[k + 2] = 16
            · have HN := Lib.hid (show decL s.data.toList = none by rw [HD.out, hdc, hc]; exact decT_bad (hxB_zero (.inr hb)))
              have hrb := digR_lt hb
              obtain ⟨da, hda⟩ : ∃ d, d = digR s[k + 1] := ⟨_, rfl⟩
              obtain ⟨db, hdb⟩ : ∃ d, d = digR s[k + 2] := ⟨_, rfl⟩
              have HDA := Lib.hid (fun w => dig_as s[k + 1] hda.symm w)
              have HDB := Lib.hid (fun w => dig_as s[k + 2] hdb.symm w)
              have hra2 : 0 ≤ da := by rw [hda, hra]; exact hla.1
              rw [← hdb] at hrb
              clear hdc hdd hc ha hb hra hla hda hdb
              go_wp2_with (first
                | (go_at_call 93; (with_reducible show Calls _ _ #[.int .u8 (s[k + 1].toNat : Int)] _ _); refine (HDA.out _).mono ?_; rintro e w' ⟨rfl, rfl⟩)
                | (go_at_call 93; (with_reducible show Calls _ _ #[.int .u8 (s[k + 2].toNat : Int)] _ _); refine (HDB.out _).mono ?_; rintro e w' ⟨rfl, rfl⟩))
              go_ret2
              exact ⟨ret_si (decA_no HN.out), .of_below HG.out.low⟩
            · have hrb := digR_ge hb
              have hlb := digB_lt hb
              have hx := hx_nat ha hb
              have hdx : decL s.data.toList = decT acc (37 :: s[k + 1] :: s[k + 2] :: s.data.toList.drop (k + 3)) := by rw [HD.out, hdc, hc]
              obtain ⟨x, hxx⟩ : ∃ x, x = hxB s[k + 1] s[k + 2] := ⟨_, rfl⟩
              have HBAD := Lib.hid (show x = 0 → decL s.data.toList = none from fun h => by rw [hdx]; exact decT_bad (hxx.symm.trans h))
              have HGOOD := Lib.hid (show x ≠ 0 → decL s.data.toList = decT (acc ++ [x]) (s.data.toList.drop (k + 3)) from fun h => by rw [hdx, decT_hex (by rw [← hxx]; exact h), ← hxx])
              rw [← hxx] at hx
              obtain ⟨a0, ha0⟩ := Int.eq_ofNat_of_zero_le hla.1
              obtain ⟨b0, hb0⟩ := Int.eq_ofNat_of_zero_le hlb.1
              have HDA := Lib.hid (fun w => dig_as s[k + 1] (hra.trans ha0) w)
              have HDB := Lib.hid (fun w => dig_as s[k + 2] (hrb.trans hb0) w)
              rw [ha0] at hla hx
              rw [hb0] at hlb hx
              have ha16 : a0 < 16 := by omega
              have hb16 : b0 < 16 := by omega
              have hor := hex_bits a0 b0 ha16 hb16
              have hw := u8_same (n := (a0 : Int) * 16 + b0) (by omega) (by omega)
              have hxb := x.toNat_lt
              rw [← hx] at hor hw
              have HX := Lib.hid hx
              clear hdc hdd hc ha hb hra hla hrb hlb ha0 hb0 hdx hxx hx
              by_cases hz : x = 0
              · have HN := Lib.hid (HBAD.out hz)
                have hz1 : ((x.toNat : Int) == 0) = true := by rw [hz]; rfl
                clear hz
                go_wp2_with (first
                  | (go_at_call 93; (with_reducible show Calls _ _ #[.int .u8 (s[k + 1].toNat : Int)] _ _); refine (HDA.out _).mono ?_; rintro e w' ⟨rfl, rfl⟩)
                  | (go_at_call 93; (with_reducible show Calls _ _ #[.int .u8 (s[k + 2].toNat : Int)] _ _); refine (HDB.out _).mono ?_; rintro e w' ⟨rfl, rfl⟩))
                go_quiet (first | (go_at_call 93; (with_reducible show Calls _ _ #[.int .u8 (s[k + 1].toNat : Int)] _ _); exact quiet_left (HDA.out _)) | (go_at_call 93; (with_reducible show Calls _ _ #[.int .u8 (s[k + 2].toNat : Int)] _ _); exact quiet_left (HDB.out _)))
                go_wp2
                go_ret2
                exact ⟨ret_si (decA_no HN.out), .of_below (HG.out.low.trans ((Drawn.more (Drawn.refl wr) _).below.mono HG.out.low.size))⟩
              · have HN := Lib.hid (HGOOD.out hz)
                have hz1 : ((x.toNat : Int) == 0) = false := by have := (b_no 0 hz).1; simpa using this
                clear hz
                go_wp2_with (first
                  | (go_at_call 93; (with_reducible show Calls _ _ #[.int .u8 (s[k + 1].toNat : Int)] _ _); refine (HDA.out _).mono ?_; rintro e w' ⟨rfl, rfl⟩)
                  | (go_at_call 93; (with_reducible show Calls _ _ #[.int .u8 (s[k + 2].toNat : Int)] _ _); refine (HDB.out _).mono ?_; rintro e w' ⟨rfl, rfl⟩))
                go_quiet (first | (go_at_call 93; (with_reducible show Calls _ _ #[.int .u8 (s[k + 1].toNat : Int)] _ _); exact quiet_left (HDA.out _)) | (go_at_call 93; (with_reducible show Calls _ _ #[.int .u8 (s[k + 2].toNat : Int)] _ _); exact quiet_left (HDB.out _)))
                obtain ⟨wd, hwd⟩ : ∃ wd, wd = wr.drewN nq := ⟨_, rfl⟩
                have hg2 : GBT w acc u4 wd := by rw [hwd]; exact HG.out.below ((Drawn.more (Drawn.refl wr) nq).below)
                rw [← hwd]
                clear hwd
                obtain ⟨g, n', c', w3, hrun, hg4⟩ := app_byteT hg2 (by omega) x
                have HG4 := Lib.hid hg4
                clear hg4 hg2
                go_wp2_with (at_builtin; refine wpList_run_appT rfl (.tmp 59) (.tmp 61) 22 22 rfl rfl rfl hrun ?_)
                go_roundw
                case rel => exact ⟨k + 3, _, by omega, by go_num, by rw [List.length_append]; simp; omega, HN.out, HG4.out⟩
                case measure => simp [intOf]; omega
        · have e0 : (s.size : Int) ≤ (k : Int) + 2 := by omega
          have HN := Lib.hid (show decL s.data.toList = none by rw [HD.out, hdc, hc]; exact dec_short (by rw [List.length_drop, len_data]; omega))
          clear hdc hc h2
          go_wp2
          go_ret2
          exact ⟨ret_si (decA_no HN.out), .of_below HG.out.low⟩
      · have e1 : ((s[k].toNat : Int) != 37) = true := by have := (b_no 37 hc).2; simpa using this
        have HN := Lib.hid (show decL s.data.toList = decT (acc ++ [s[k]]) (s.data.toList.drop (k + 1)) by rw [HD.out, hdc, decT_plain hc])
        clear hdc hc
        obtain ⟨g, n', c', w3, hrun, hg4⟩ := app_byteT HG.out (by omega) s[k]
        have HG4 := Lib.hid hg4
        clear hg4
        go_wp2_with (at_builtin; refine wpList_run_appT rfl (.tmp 17) (.tmp 21) 22 22 rfl rfl rfl hrun ?_)
        go_roundw
        case rel => exact ⟨k + 1, _, by omega, by go_num, by rw [List.length_append]; simp; omega, HN.out, HG4.out⟩
        case measure => simp [intOf]; omega
    · obtain rfl : k = s.size := by omega
      have HN := Lib.hid (show decL s.data.toList = some acc by rw [HD.out, List.drop_of_length_le (by rw [len_data]; exact Nat.le_refl _), decT_nil])
      obtain ⟨A, c, rfl⟩ := HG.out.form
      have hback := conv_gatT HG.out
      go_wp2
      go_ret2
      exact ⟨ret_si (decA_yes HN.out), .of_below HG.out.low⟩
end Go.Proofs.YtgkhelbpccehcaaGreatDoor

/- Clean of the document. Conditions: a path of at most a million bytes. -/
namespace Go.Proofs.YtgkhelbpccehcaaGreatDoor
open Go.RowKit
set_option linter.unusedVariables false
set_option linter.unusedSimpArgs false

def strP (p : List UInt8) : Value := .string (ofL p)
def strsP (st : List (List UInt8)) : List Value := st.map strP
theorem infoStr : (Tryz.prog.info? 9).map (fun i => (i.zero, i.size, i.bytes)) = some (some (.string ByteArray.empty), 1, 16) := by kernel_rfl
/-- Parts that were gathered. -/
def GS (w0 : World) (st : List (List UInt8)) (v : Value) (w : World) : Prop := GatT w0 9 1 st.length (strsP st) v w
theorem gs_nil (w : World) : GS w [] (.slice none 0 0) w := ⟨World.ownsRow_nil _ _ _ _, Below.refl _ _⟩
theorem strsP_len (st : List (List UInt8)) : (strsP st).length = st.length := by simp [strsP]
theorem GS.cut {w0 w : World} {l : List (List UInt8)} {g n c : Nat} (h : GS w0 l (.slice (some ⟨g, 0, none⟩) n c) w) (k : Nat) (hk : k ≤ l.length) : GS w0 (l.take k) (.slice (some ⟨g, 0, none⟩) k c) w := by
  obtain ⟨⟨h1, h2⟩, hlow⟩ := h
  rcases h2 with ⟨hv, _⟩ | ⟨g', cap, cur, hv, hb, hg, hn, hm, hc, ht⟩
  · cases hv
  · injection hv with e1 e2 e3
    injection e1 with e1
    injection e1 with e1
    subst e1 e2 e3
    have hkl : (l.take k).length = k := by rw [List.length_take]; omega
    refine ⟨⟨by simp [strsP], .inr ⟨g, c, cur, by rw [hkl], hb, hg, by rw [hkl]; omega, hm, hc, ?_⟩⟩, hlow⟩
    rw [hkl, show strsP (l.take k) = (strsP l).take k by simp [strsP, List.map_take], ← ht, List.take_take]
    congr 1; omega
theorem GS.fits {w0 w : World} {l : List (List UInt8)} {A : Option Addr} {n c : Nat} (h : GS w0 l (.slice A n c) w) : n = l.length ∧ n ≤ c := by
  rcases h.row.2 with ⟨hv, h0⟩ | ⟨g', cap, cur, hv, _, _, h1, _⟩
  · injection hv with _ e1 e2; omega
  · injection hv with _ e1 e2; omega
theorem GS.cell {w0 w : World} {l : List (List UInt8)} {g n c : Nat} (h : GS w0 l (.slice (some ⟨g, 0, none⟩) n c) w) (j : Nat) (hj : j < l.length) : w.cell? ⟨g, j, none⟩ = some (.string (ofL l[j])) := by
  have := h.row.cells (g := g) rfl j (.string (ofL l[j])) (by simp [strsP, strP, hj])
  rw [add_noneT, Nat.zero_add] at this; exact this
theorem GS.some {w0 w : World} {l : List (List UInt8)} {v : Value} (h : GS w0 l v w) (hn : l ≠ []) : ∃ g c, v = .slice (some ⟨g, 0, none⟩) l.length c := by
  rcases h.row.2 with ⟨_, h0⟩ | ⟨g, cap, _, rfl, _⟩
  · exact absurd (List.eq_nil_of_length_eq_zero h0) hn
  · exact ⟨g, cap, rfl⟩
theorem add_part {w0 w : World} {st : List (List UInt8)} {v : Value} (h : GS w0 st v w) (hz : st.length + 1 ≤ 2000000) (p : List UInt8) :
    ∃ (A' : Option Addr) (C' : Nat) (w1 : World) (g n' c' : Nat) (w2 : World),
      (Builtin.append_ #[112, 112] 112 #[.slice (some ⟨w.heap.size, 0, none⟩) 0 0, v]).run Tryz.prog (w.alloc (.cells #[] 9)) = .ok (.slice A' st.length C') w1 ∧
      (Builtin.append_ #[112, 112] 112 #[.slice A' st.length C', .slice (some ⟨w1.heap.size, 0, none⟩) 1 1]).run Tryz.prog (w1.alloc (.cells #[.string (ofL p)] 9)) = .ok (.slice (some ⟨g, 0, none⟩) n' c') w2 ∧
      GS w0 (st ++ [p]) (.slice (some ⟨g, 0, none⟩) n' c') w2 := by
  obtain ⟨i0, hi, hz0, hz1, hz2⟩ := info_parts infoStr
  have ht := Tryz.underlying112
  have hown : (w.alloc (.cells #[] 9)).ownsRow w0.heap.size 9 1 (.slice (some ⟨w.heap.size, 0, none⟩) 0 0) 0 [] :=
    ⟨rfl, .inr ⟨w.heap.size, 0, #[], rfl, h.low.size, heap_alloc_new w _, Nat.le_refl _, by unfold maxLen; omega, rfl, rfl⟩⟩
  have first : ∃ (A' : Option Addr) (C' : Nat) (w1 : World), (Builtin.append_ #[112, 112] 112 #[.slice (some ⟨w.heap.size, 0, none⟩) 0 0, v]).run Tryz.prog (w.alloc (.cells #[] 9)) = .ok (.slice A' st.length C') w1 ∧
      GS w0 st (.slice A' st.length C') w1 := by
    by_cases he : st = []
    · subst he
      obtain ⟨A, C, rfl⟩ := h.form
      refine ⟨some ⟨w.heap.size, 0, none⟩, 0, w.alloc (.cells #[] 9), ?_, hown, h.low.alloc h.low.size _⟩
      cases A <;> simp [Builtin.append_, run_underlying ht, sizeOf, typeInfo, hi, Builtin.lenOf, Builtin.firstCells, loadCells, loadCellsFrom, storeCells]
    · obtain ⟨g, c, rfl⟩ := h.some he
      obtain ⟨v', w5, hrun, hown', hgrow, -, -⟩ := run_append_own_at (P := Tryz.prog) (w := w.alloc (.cells #[] 9)) w0.heap.size 112 112 9 i0 (.string ByteArray.empty) 1 16 ht hi hz0 hz1 hz2 rfl (by decide)
        (.slice (some ⟨w.heap.size, 0, none⟩) 0 0) 0 [] hown ⟨g, 0, none⟩ st.length c (strsP st) (by rw [strsP_len, Nat.mul_one]) (fun j u hj => by
          have hjl : j < st.length := by rw [← strsP_len]; exact (List.getElem?_eq_some_iff.1 hj).1
          have e : u = .string (ofL st[j]) := by simp [strsP, strP, hjl] at hj; exact hj.symm
          rw [add_noneT, Nat.zero_add, e]
          exact cell_alloc (h.cell j hjl) _) (fun u hu => by
          simp only [strsP, List.mem_map] at hu
          obtain ⟨b, _, rfl⟩ := hu
          rfl) (by unfold maxLen; omega) (by omega) (by have := h.low.size; simp; omega)
      rw [Nat.zero_add, List.nil_append] at hown'
      have hlow : Below w0.heap.size w0 w5 := (h.low.alloc h.low.size _).grown hgrow (by have := h.low.size; simp; omega) fun k e => by
        have : k = w.heap.size := by simpa [Value.ownBlock, eq_comm] using e
        rw [this]; exact h.low.size
      rcases hown'.2 with ⟨hv, h0⟩ | ⟨g2, cap, cur, rfl, _⟩
      · exact ⟨none, 0, w5, by rw [hrun, hv, h0], by rw [hv] at hown'; rw [h0]; exact ⟨by rw [h0] at hown' ⊢; exact hown', hlow⟩⟩
      · exact ⟨_, cap, w5, hrun, hown', hlow⟩
  obtain ⟨A', C', w1, hr1, hg1⟩ := first
  obtain ⟨g, n', c', w2, hr2, hg2⟩ := app_gatT hg1 ht infoStr rfl (by decide) hz (by decide) [.string (ofL p)] rfl (by simp [Value.oneCell'])
  refine ⟨A', C', w1, g, n', c', w2, hr1, hr2, ?_⟩
  unfold GS
  rw [List.length_append, show strsP (st ++ [p]) = strsP st ++ [.string (ofL p)] by simp [strsP, strP]]
  exact hg2

/-! The path, byte by byte. -/
theorem cut_onT {cur r : List UInt8} {c : UInt8} (h : c ≠ 47) : cutS cur (c :: r) = cutS (cur ++ [c]) r := by simp only [cutS]; rw [if_neg h]
theorem cut_slash (cur r : List UInt8) : cutS cur (47 :: r) = cur :: cutS [] r := by simp [cutS]
theorem ext_listT (s : ByteArray) (f k : Nat) : (s.extract f k).data.toList = (s.data.toList.drop f).take (k - f) := by
  rw [ByteArray.data_extract, Array.toList_extract]
theorem ext_selfT (s : ByteArray) (k : Nat) : (s.extract k k).data.toList = [] := by rw [ext_listT]; simp
theorem ext_snocT (s : ByteArray) (f k : Nat) (h : f ≤ k) (hk : k < s.size) : (s.extract f (k + 1)).data.toList = (s.extract f k).data.toList ++ [s[k]] := by
  rw [ext_listT, ext_listT, show k + 1 - f = (k - f) + 1 by omega, List.take_succ_eq_append_getElem (by rw [List.length_drop]; show k - f < s.size - f; omega), List.getElem_drop]
  congr 2
  show s.data.toList[f + (k - f)]'_ = _
  simp only [show f + (k - f) = k by omega]; rfl
theorem ext_len (s : ByteArray) (f k : Nat) (h : f ≤ k) (hk : k ≤ s.size) : (s.extract f k).data.toList.length = k - f := by
  rw [ext_listT, List.length_take, List.length_drop, len_data]; omega
theorem joinS_take {st : List (List UInt8)} {k : Nat} (h : k < st.length) : joinS (st.take (k + 1)) = joinS (st.take k) ++ 47 :: st[k] := by
  rw [List.take_succ_eq_append_getElem h, joinS_snoc]
theorem join_le : ∀ (st : List (List UInt8)), st.length ≤ (joinS st).length
  | [] => by simp
  | p :: r => by have := join_le r; simp only [joinS, List.length_cons, List.length_append, List.cons_append]; omega
theorem joinS_take_le (st : List (List UInt8)) (k : Nat) : (joinS (st.take k)).length ≤ (joinS st).length := by
  have : joinS st = joinS (st.take k) ++ joinS (st.drop k) := by
    have h : ∀ a b : List (List UInt8), joinS (a ++ b) = joinS a ++ joinS b := by
      intro a b
      induction a with
      | nil => rfl
      | cons p r ih => simp [joinS, ih]
    rw [← h, List.take_append_drop]
  rw [this, List.length_append]; omega
theorem join_drop_le (st : List (List UInt8)) : (joinS st.dropLast).length ≤ (joinS st).length := by
  rw [List.dropLast_eq_take]; exact joinS_take_le _ _
end Go.Proofs.YtgkhelbpccehcaaGreatDoor

/- Clean of the document. Conditions: a path of at most a million bytes. -/
namespace Go.Proofs.YtgkhelbpccehcaaGreatDoor
open Go.RowKit
set_option linter.unusedVariables false
set_option linter.unusedSimpArgs false

set_option maxRecDepth 10000 in
set_option maxHeartbeats 2000000 in
theorem clean_r (s : ByteArray) (hs : s.size ≤ 1000000) (w : World) :
    Calls Tryz.prog 121 #[.string s] w fun e w' => e = .returned (.tuple #[.string (clnA s.data.toList).1, .bool (clnA s.data.toList).2]) ∧ Mods [] w w' := by
  by_cases h0 : s.size = 0
  · have HR := Lib.hid (clnA_no (clnL_no (show slashL s.data.toList = false by rw [nil_data h0]; rfl)))
    have h1 := emp_yes h0
    clear h0
    go_enter Tryz.func121, Tryz.ntmps121
    go_wp2
    go_ret2
    exact ⟨ret_sb HR.out, Mods.refl _ _⟩
  · have hp : 0 < s.size := by omega
    obtain ⟨h1, h2⟩ := emp_no hp
    have hd := drop_cons s 0 hp
    rw [List.drop_zero] at hd
    by_cases hc : s[0] = 47
    · have hsl : slashL s.data.toList = true := by rw [hd, hc]; rfl
      have HR := Lib.hid (clnL_yes hsl)
      have htail : s.data.toList.tail = s.data.toList.drop 1 := by rw [List.drop_one]
      have e1 : ((s[0].toNat : Int) != 47) = false := by rw [hc]; rfl
      have c1 : (1 : Int) ≤ (s.size : Int) := by omega
      have hSl : (s.extract 1 s.size ++ ⟨#[47]⟩).data.toList = s.data.toList.tail ++ [47] := by
        rw [ByteArray.data_append, Array.toList_append, ext_from, htail]
      have hSz : (s.extract 1 s.size ++ ⟨#[47]⟩).size = s.size := by
        rw [ByteArray.size_append, ByteArray.size_extract]; show _ + 1 = _; omega
      obtain ⟨S, hS⟩ : ∃ S, S = s.extract 1 s.size ++ ⟨#[47]⟩ := ⟨_, rfl⟩
      have HS := Lib.hid hS
      rw [← hS] at hSl hSz
      have hsp : splitS s.data.toList.tail = cutS [] S.data.toList := by rw [hSl, cutS_split]; rfl
      have HSP := Lib.hid hsp
      have HM := Lib.hid (gs_nil w)
      have hne := splitS_ne s.data.toList.tail
      have HNE := Lib.hid hne
      have hS1 : S.size ≤ 1000000 := by omega
      clear hd hc hsl htail hSl hS hsp hne hSz
      go_enter Tryz.func121, Tryz.ntmps121
      go_upto_region 6 with fail
      rw [← HS.out]
      go_wp2
      go_loopw [4, 5, 7, 8] (fun v lv fv i wr => ∃ (k f : Nat) (st : List (List UInt8)) (lt : ByteArray), f ≤ k ∧ k ≤ S.size ∧ i = .int .i64 k ∧ fv = .int .i64 f ∧ lv = .string lt ∧ (joinS st).length ≤ f ∧
        clnS [] (splitS s.data.toList.tail) = clnS st (cutS (S.extract f k).data.toList (S.data.toList.drop k)) ∧ lastP (splitS s.data.toList.tail) = lastP (lt.data.toList :: cutS (S.extract f k).data.toList (S.data.toList.drop k)) ∧ GS w st v wr) (fun _ _ _ i _ => S.size - (intOf i).toNat)
      case atStart => exact ⟨0, 0, [], ⟨#[]⟩, Nat.le_refl _, Nat.zero_le _, rfl, rfl, rfl, Nat.le_refl _, by rw [ext_selfT, List.drop_zero, HSP.out], by rw [ext_selfT, List.drop_zero, ← HSP.out, lastP_cons _ HNE.out], HM.out⟩
      case round =>
        obtain ⟨k, f, st, lt, hfk, hk, rfl, rfl, rfl, hjl, hcl, hla, hG⟩ := hrel
        have HC := Lib.hid hcl
        have HP := Lib.hid hla
        have HG := Lib.hid hG
        clear hcl hla hG
        by_cases hlt : k < S.size
        · have hdc := drop_cons S k hlt
          by_cases hc : S[k] = 47
          · have e2 : ((S[k].toNat : Int) != 47) = false := by rw [hc]; rfl
            have c2 : (0 : Int) ≤ (f : Int) := by omega
            have c3 : (f : Int) ≤ (k : Int) := by omega
            have c4 : (k : Int) ≤ (S.size : Int) := by omega
            have hul := ext_len S f k hfk (by omega)
            obtain ⟨u, hu⟩ : ∃ u, u = S.extract f k := ⟨_, rfl⟩
            rw [← hu] at HC HP hul
            have HU := Lib.hid hu
            have HC2 := Lib.hid (show clnS [] (splitS s.data.toList.tail) = clnS st (u.data.toList :: cutS (S.extract (k + 1) (k + 1)).data.toList (S.data.toList.drop (k + 1))) by rw [HC.out, hdc, hc, cut_slash, ext_selfT])
            have HP2 := Lib.hid (show lastP (splitS s.data.toList.tail) = lastP (u.data.toList :: cutS (S.extract (k + 1) (k + 1)).data.toList (S.data.toList.drop (k + 1))) by rw [HP.out, hdc, hc, cut_slash, ext_selfT, lastP_cons _ (by simp)])
            clear hu hdc hc HC HP
            by_cases hu0 : u.data.toList = []
            · have HN := Lib.hid (show clnS [] (splitS s.data.toList.tail) = clnS st (cutS (S.extract (k + 1) (k + 1)).data.toList (S.data.toList.drop (k + 1))) by rw [HC2.out, clnS_dot (by rw [hu0]; simp) (by rw [hu0]; rfl)])
              have e3 := emp_yes (show u.size = 0 by show u.data.toList.length = 0; rw [hu0]; rfl)
              clear hu0 hul
              go_upto_region 13 with fail
              rw [← HU.out]
              go_wp2
              go_roundw
              case rel => exact ⟨k + 1, k + 1, st, u, Nat.le_refl _, by omega, by go_num, by go_num, rfl, by omega, HN.out, HP2.out, HG.out⟩
              case measure => simp [intOf]; omega
            · obtain ⟨e3, e4⟩ := emp_no (size_pos hu0)
              by_cases hu1 : u.data.toList = [46]
              · have HN := Lib.hid (show clnS [] (splitS s.data.toList.tail) = clnS st (cutS (S.extract (k + 1) (k + 1)).data.toList (S.data.toList.drop (k + 1))) by rw [HC2.out, clnS_dot (by rw [hu1]; simp) (by rw [hu1]; rfl)])
                have e5 := text_eq hu1
                clear hu0 hu1 hul
                go_upto_region 13 with fail
                rw [← HU.out]
                go_wp2
                go_roundw
                case rel => exact ⟨k + 1, k + 1, st, u, Nat.le_refl _, by omega, by go_num, by go_num, rfl, by omega, HN.out, HP2.out, HG.out⟩
                case measure => simp [intOf]; omega
              · have e5 := text_ne hu1
                by_cases hu2 : u.data.toList = [46, 46]
                · have e6 := text_eq hu2
                  by_cases he : st = []
                  · subst he
                    have HN := Lib.hid (show clnA s.data.toList = (⟨#[]⟩, false) from clnA_no (by rw [HR.out, HC2.out, hu2, clnS_out]; rfl))
                    obtain ⟨A, c, rfl⟩ := HG.out.form
                    clear hu0 hu1 hu2 hul
                    go_upto_region 13 with fail
                    rw [← HU.out]
                    go_wp2
                    go_ret2
                    exact ⟨ret_sb HN.out, .of_below HG.out.low⟩
                  · have HN := Lib.hid (show clnS [] (splitS s.data.toList.tail) = clnS st.dropLast (cutS (S.extract (k + 1) (k + 1)).data.toList (S.data.toList.drop (k + 1))) by rw [HC2.out, hu2, clnS_up he])
                    obtain ⟨g, c, rfl⟩ := HG.out.some he
                    have hf := HG.out.fits.2
                    have hcut := HG.out.cut (st.length - 1) (by omega)
                    rw [← List.dropLast_eq_take] at hcut
                    have hpos := List.length_pos_iff.2 he
                    have e7 : ((st.length : Int) == 0) = false := by rw [beq_eq_false_iff_ne]; omega
                    have hdl := join_drop_le st
                    have hnb := join_le st
                    obtain ⟨n, hn⟩ : ∃ n, n = st.length := ⟨_, rfl⟩
                    rw [← hn] at hf hcut hpos e7 hnb
                    rw [← hn]
                    have HCUT := Lib.hid (fun q (hq : q = n - 1) => hq ▸ hcut)
                    clear hu0 hu1 hu2 hul he hcut hn
                    go_upto_region 13 with fail
                    rw [← HU.out]
                    go_wp2
                    go_roundw
                    case rel => exact ⟨k + 1, k + 1, st.dropLast, u, Nat.le_refl _, by omega, by go_num, by go_num, rfl, by omega, HN.out, HP2.out, HCUT.out _ (by omega)⟩
                    case measure => simp [intOf]; omega
                · have e6 := text_ne hu2
                  have hdo : dotsL u.data.toList = false := by unfold dotsL; simp [hu0, hu1, hu2]
                  have HN := Lib.hid (show clnS [] (splitS s.data.toList.tail) = clnS (st ++ [u.data.toList]) (cutS (S.extract (k + 1) (k + 1)).data.toList (S.data.toList.drop (k + 1))) by rw [HC2.out, clnS_part hdo])
                  have hlen := join_le st
                  obtain ⟨A1, C1, w1, g, n', c', w2, hr1, hr2, hg2⟩ := add_part HG.out (by omega) u.data.toList
                  rw [ofL_data] at hr2
                  have HG2 := Lib.hid hg2
                  have hjl2 : (joinS (st ++ [u.data.toList])).length ≤ k + 1 := by rw [joinS_snoc, List.length_append, List.length_cons, hul]; omega
                  clear hu0 hu1 hu2 hul hdo hg2 hlen
                  go_upto_region 13 with fail
                  rw [← HU.out]
                  go_wp2_with (first
                    | (at_builtin; refine wpList_run_appT rfl (.tmp 38) (.tmp 39) 112 112 rfl rfl rfl hr1 ?_)
                    | (at_builtin; refine wpList_run_appT rfl (.tmp 40) (.tmp 42) 112 112 rfl rfl rfl hr2 ?_))
                  go_roundw
                  case rel => exact ⟨k + 1, k + 1, st ++ [u.data.toList], u, Nat.le_refl _, by omega, by go_num, by go_num, rfl, hjl2, HN.out, HP2.out, HG2.out⟩
                  case measure => simp [intOf]; omega
          · have e2 : ((S[k].toNat : Int) != 47) = true := by have := (b_no 47 hc).2; simpa using this
            have HC2 := Lib.hid (HC.out.trans (by rw [hdc, cut_onT hc, ← ext_snocT S f k hfk hlt]))
            have HP2 := Lib.hid (HP.out.trans (by rw [hdc, cut_onT hc, ← ext_snocT S f k hfk hlt]))
            clear hdc hc HC HP
            go_wp2
            go_roundw
            case rel => exact ⟨k + 1, f, st, lt, by omega, by omega, by go_num, rfl, rfl, hjl, HC2.out, HP2.out, HG.out⟩
            case measure => simp [intOf]; omega
        · obtain rfl : k = S.size := by omega
          have hdr : S.data.toList.drop S.size = [] := List.drop_of_length_le (by rw [len_data]; exact Nat.le_refl _)
          have hcl := HC.out
          have hla := HP.out
          rw [hdr] at hcl hla
          rw [show cutS (S.extract f S.size).data.toList [] = [] from rfl] at hcl hla
          rw [clnS_nil] at hcl
          have hres : clnL s.data.toList = some (joinS st ++ tailP lt.data.toList) := by rw [HR.out, hcl, hla]; rfl
          have hlast : st = [] → dotsL lt.data.toList = true := fun h => by
            rw [h] at hcl
            have := clnS_last _ _ hcl HNE.out
            rw [hla] at this; exact this
          have HRES := Lib.hid hres
          have HLAST := Lib.hid hlast
          clear hdr hcl hla hres hlast HC HP
          by_cases he : st = []
          · have hd := HLAST.out he
            have HRR := Lib.hid (show clnL s.data.toList = some [47] by rw [HRES.out, he]; unfold tailP; rw [if_pos hd]; rfl)
            subst he
            obtain ⟨A, c, rfl⟩ := HG.out.form
            clear hd
            go_wp2
            refine wp_loop_rounds 1 ?_
            rw [rounds_succ]
            go_wp2
            go_ret2
            exact ⟨ret_sb (clnA_yes HRR.out), .of_below HG.out.low⟩
          · obtain ⟨g, c, rfl⟩ := HG.out.some he
            have HCE := Lib.hid (fun j hj => HG.out.cell j hj)
            have HJ := Lib.hid (fun j (hj : j < st.length) => (show ofL (joinS (st.take j)) ++ ⟨#[47]⟩ ++ ofL st[j] = ofL (joinS (st.take (j + 1))) from bytes_ext (by
              rw [ByteArray.data_append, ByteArray.data_append, Array.toList_append, Array.toList_append, ofL_list, ofL_list, ofL_list, joinS_take hj]; simp)))
            have HT := Lib.hid (fun j => joinS_take_le st j)
            have hstb := join_le st
            go_wp2
            go_loop [9, 10] (fun o i => ∃ (j : Nat), j ≤ st.length ∧ i = .int .i64 j ∧ o = .string (ofL (joinS (st.take j)))) (fun _ i => st.length - (intOf i).toNat)
            case atStart => exact ⟨0, Nat.zero_le _, rfl, rfl⟩
            case round =>
              obtain ⟨j, hj, rfl, rfl⟩ := hrel
              by_cases hjt : j < st.length
              · have hcell := HCE.out j hjt
                have hjj := HJ.out j hjt
                have hjs := HT.out j
                have hjs2 := HT.out (j + 1)
                have hos := ofL_size (joinS (st.take j))
                have hqs := ofL_size st[j]
                rw [joinS_take hjt, List.length_append, List.length_cons, ← hqs] at hjs2
                rw [← hos] at hjs hjs2
                obtain ⟨o, ho⟩ : ∃ o, o = ofL (joinS (st.take j)) := ⟨_, rfl⟩
                obtain ⟨q, hq⟩ : ∃ q, q = ofL st[j] := ⟨_, rfl⟩
                rw [← ho] at hjj hjs hjs2
                rw [← hq] at hcell hjj hjs2
                clear hos hqs
                rw [← ho]
                have HJJ := Lib.hid hjj
                clear ho hq hjj
                go_wp2
                go_round
                case rel => exact ⟨j + 1, by omega, by go_num, by rw [HJJ.out]⟩
                case measure => simp [intOf]; omega
              · obtain rfl : j = st.length := by omega
                have hol : (ofL (joinS (st.take st.length))).data.toList = joinS st := by rw [ofL_list, List.take_length]
                obtain ⟨o, ho⟩ : ∃ o, o = ofL (joinS (st.take st.length)) := ⟨_, rfl⟩
                rw [← ho] at hol
                rw [← ho]
                obtain ⟨e1, e2⟩ := emp_no (s := o) (size_pos (by rw [hol]; intro h; exact he (joinS_zero (by rw [h]; rfl))))
                have hosz : o.size ≤ 1000000 := by have := congrArg List.length hol; rw [len_data] at this; omega
                have HOL := Lib.hid hol
                clear ho hol
                cases hd : dotsL lt.data.toList with
                | false =>
                  have HRR := Lib.hid (show clnA s.data.toList = (o, true) from by
                    rw [clnA_yes (show clnL s.data.toList = some o.data.toList by rw [HRES.out, HOL.out]; unfold tailP; rw [if_neg (by rw [hd]; simp)]; simp), ofL_data])
                  have hall : lt.data.toList ≠ [] ∧ lt.data.toList ≠ [46] ∧ lt.data.toList ≠ [46, 46] := by
                    unfold dotsL at hd; simpa using hd
                  obtain ⟨e3, e4⟩ := emp_no (size_pos hall.1)
                  have e5 := text_ne hall.2.1
                  have e6 := text_ne hall.2.2
                  clear hd hall
                  go_wp2
                  go_ret2
                  exact ⟨ret_sb HRR.out, .of_below HG.out.low⟩
                | true =>
                  have HRR := Lib.hid (show clnA s.data.toList = (o ++ ⟨#[47]⟩, true) from by
                    rw [clnA_yes (show clnL s.data.toList = some (o.data.toList ++ [47]) by rw [HRES.out, HOL.out]; unfold tailP; rw [if_pos hd]), show ofL (o.data.toList ++ [47]) = o ++ ⟨#[47]⟩ from bytes_ext (by rw [ofL_list, ByteArray.data_append, Array.toList_append])])
                  have hall : lt.data.toList = [] ∨ lt.data.toList = [46] ∨ lt.data.toList = [46, 46] := by
                    unfold dotsL at hd; exact of_decide_eq_true hd
                  clear hd
                  rcases hall with h | h | h
                  · obtain rfl : lt = ⟨#[]⟩ := bytes_ext h
                    go_wp2
                    go_ret2
                    exact ⟨ret_sb HRR.out, .of_below HG.out.low⟩
                  · obtain rfl : lt = ⟨#[46]⟩ := bytes_ext h
                    go_wp2
                    go_ret2
                    exact ⟨ret_sb HRR.out, .of_below HG.out.low⟩
                  · obtain rfl : lt = ⟨#[46, 46]⟩ := bytes_ext h
                    go_wp2
                    go_ret2
                    exact ⟨ret_sb HRR.out, .of_below HG.out.low⟩
    · have HR := Lib.hid (clnA_no (clnL_no (show slashL s.data.toList = false by rw [hd]; exact slash_cons hc)))
      have e1 : ((s[0].toNat : Int) != 47) = true := by have := (b_no 47 hc).2; simpa using this
      clear hd hc
      go_enter Tryz.func121, Tryz.ntmps121
      go_wp2
      go_ret2
      exact ⟨ret_sb HR.out, Mods.refl _ _⟩
end Go.Proofs.YtgkhelbpccehcaaGreatDoor

/- Targets as plain data, and what Parse makes of a text. No program. -/
namespace Go.Proofs.YtgkhelbpccehcaaGreatDoor
open Go.RowKit
set_option linter.unusedVariables false
set_option linter.unusedSimpArgs false

/-- A target. -/
structure Tgt where
  form : Int
  host : ByteArray
  path : ByteArray
  query : ByteArray
def noB : ByteArray := ⟨#[]⟩
def noT : Tgt := ⟨0, noB, noB, noB⟩
theorem Tgt.ext' {a b : Tgt} (h1 : a.form = b.form) (h2 : a.host = b.host) (h3 : a.path = b.path) (h4 : a.query = b.query) : a = b := by
  cases a; cases b; simp_all

def allowB (c : UInt8) : Bool := plainB c || isC 37 c || isC 63 c
/-- A path and a query. -/
def orgL (l : List UInt8) : Option (List UInt8 × List UInt8) :=
  if l.all allowB = true then (decL (upL (isC 63) l)).bind fun d => (clnL d).map fun p => (p, l.drop ((upL (isC 63) l).length + 1)) else none
theorem orgL_bad {l : List UInt8} (h : l.all allowB = false) : orgL l = none := by unfold orgL; rw [if_neg (by rw [h]; simp)]
theorem orgL_dec {l : List UInt8} (h : l.all allowB = true) (h2 : decL (upL (isC 63) l) = none) : orgL l = none := by unfold orgL; rw [if_pos h, h2]; rfl
theorem orgL_cln {l d : List UInt8} (h : l.all allowB = true) (h2 : decL (upL (isC 63) l) = some d) (h3 : clnL d = none) : orgL l = none := by unfold orgL; rw [if_pos h, h2]; simp [h3]
theorem orgL_yes {l d p : List UInt8} (h : l.all allowB = true) (h2 : decL (upL (isC 63) l) = some d) (h3 : clnL d = some p) : orgL l = some (p, l.drop ((upL (isC 63) l).length + 1)) := by unfold orgL; rw [if_pos h, h2]; simp [h3]
/-- What a path of some form and host is. -/
def orgF (f : Int) (h : ByteArray) (l : List UInt8) : Tgt × Int := match orgL l with | some (p, q) => (⟨f, h, ofL p, ofL q⟩, 0) | none => (noT, 8)
theorem orgF_no {f : Int} {h : ByteArray} {l : List UInt8} (e : orgL l = none) : orgF f h l = (noT, 8) := by unfold orgF; rw [e]
theorem orgF_yes {f : Int} {h : ByteArray} {l p q : List UInt8} (e : orgL l = some (p, q)) : orgF f h l = (⟨f, h, ofL p, ofL q⟩, 0) := by unfold orgF; rw [e]
def endB (c : UInt8) : Bool := isC 47 c || isC 63 c
def hostOf (l : List UInt8) : List UInt8 := upL endB l
/-- What stands behind the host, with a slash ahead. -/
def restOf (l : List UInt8) : List UInt8 := if slashL (l.drop (hostOf l).length) = true then l.drop (hostOf l).length else 47 :: l.drop (hostOf l).length
def absL (l : List UInt8) : Tgt × Int := if hostL (hostOf l) = true then orgF 2 (ofL (lowL (hostOf l))) (restOf l) else (noT, 8)
def authL (l : List UInt8) : Tgt × Int := if hostL l = true ∧ inL l 58 = true then (⟨3, ofL (lowL l), noB, noB⟩, 0) else (noT, 8)
def connectL : List UInt8 := [67, 79, 78, 78, 69, 67, 84]
def optionsL : List UInt8 := [79, 80, 84, 73, 79, 78, 83]
def getT : List UInt8 := [71, 69, 84]
def httpL : List UInt8 := [104, 116, 116, 112, 58, 47, 47]
/-- Whether a text begins with http and two slashes. -/
def schemeL (l : List UInt8) : Bool := decide (7 ≤ l.length) && decide (lowL (l.take 7) = httpL)
/-- What Parse answers. -/
def parT (m l : List UInt8) : Tgt × Int :=
  if 200 < l.length then (noT, 9)
  else if m = connectL then authL l
  else if m = optionsL ∧ l = [42] then (⟨4, noB, noB, noB⟩, 0)
  else if slashL l = true then orgF 1 noB l
  else if schemeL l = true then absL (l.drop 7)
  else (noT, 8)
theorem parT_long {m l : List UInt8} (h : 200 < l.length) : parT m l = (noT, 9) := by unfold parT; rw [if_pos h]
theorem parT_con {m l : List UInt8} (h : ¬ 200 < l.length) (h1 : m = connectL) : parT m l = authL l := by unfold parT; rw [if_neg h, if_pos h1]
theorem parT_opt {m l : List UInt8} (h : ¬ 200 < l.length) (h1 : m ≠ connectL) (h2 : m = optionsL ∧ l = [42]) : parT m l = (⟨4, noB, noB, noB⟩, 0) := by unfold parT; rw [if_neg h, if_neg h1, if_pos h2]
theorem parT_org {m l : List UInt8} (h : ¬ 200 < l.length) (h1 : m ≠ connectL) (h2 : ¬ (m = optionsL ∧ l = [42])) (h3 : slashL l = true) : parT m l = orgF 1 noB l := by unfold parT; rw [if_neg h, if_neg h1, if_neg h2, if_pos h3]
theorem parT_abs {m l : List UInt8} (h : ¬ 200 < l.length) (h1 : m ≠ connectL) (h2 : ¬ (m = optionsL ∧ l = [42])) (h3 : slashL l = false) (h4 : schemeL l = true) : parT m l = absL (l.drop 7) := by unfold parT; rw [if_neg h, if_neg h1, if_neg h2, if_neg (by rw [h3]; simp), if_pos h4]
theorem parT_no {m l : List UInt8} (h : ¬ 200 < l.length) (h1 : m ≠ connectL) (h2 : ¬ (m = optionsL ∧ l = [42])) (h3 : slashL l = false) (h4 : schemeL l = false) : parT m l = (noT, 8) := by unfold parT; rw [if_neg h, if_neg h1, if_neg h2, if_neg (by rw [h3]; simp), if_neg (by rw [h4]; simp)]
end Go.Proofs.YtgkhelbpccehcaaGreatDoor

/- A target in memory. No program but for the type's number. -/
namespace Go.Proofs.YtgkhelbpccehcaaGreatDoor
open Go.RowKit
set_option linter.unusedVariables false
set_option linter.unusedSimpArgs false

def Tgt.cells (t : Tgt) : Array Value := #[.int .i64 t.form, .string t.host, .string t.path, .string t.query]

/-! A target in memory. -/
/-- What such a call answers. -/
def TAns (w : World) (r : Tgt × Int) (e : Ending) (w' : World) : Prop := e = .returned (.tuple #[.agg r.1.cells, .int .i64 r.2]) ∧ Mods [] w w'
theorem TAns.mk' {w w' : World} {r : Tgt × Int} {t : Tgt} {n : Int} (h : r = (t, n)) (hm : Mods [] w w') : TAns w r (.returned (.tuple #[.agg t.cells, .int .i64 n])) w' := by subst h; exact ⟨rfl, hm⟩
theorem ret_tgt {fn : Func} {a : Act} {W : World} {R : Ending → World → Prop} {r : Nat} {x : Tgt} {t : TypeId} {q q2 : Tmp} {v : Value} (hres : fn.results = #[.cell q t, .tmp q2])
    (hrow : Row W r t x.cells)
    (ha : (isAgg t).run Tryz.prog W = .ok true W) (hs : (Go.sizeOf t).run Tryz.prog W = .ok 4 W)
    (h2 : a.tmps.getD q undef = .pointer (some ⟨r, 0, none⟩)) (h3 : a.tmps.getD q2 undef = v) (hd : a.defers = []) (hR : R (.returned (.tuple #[.agg x.cells, v])) W) : bodyPost Tryz.prog fn R .ret a W := by
  refine bodyPost_ret (v := .tuple #[.agg x.cells, v]) ?_ hd hR
  have g2 : a.tmps[q]?.getD undef = .pointer (some ⟨r, 0, none⟩) := by simpa using h2
  have g3 : a.tmps[q2]?.getD undef = v := by simpa using h3
  have c0 := hrow.cell 0
  have c1 := hrow.cell 1
  have c2 := hrow.cell 2
  have c3 := hrow.cell 3
  simp only [Tgt.cells, List.getElem?_toArray, List.getElem?_cons_zero, List.getElem?_cons_succ] at c0 c1 c2 c3
  simp [results, hres, go_sem, g2, g3, c0, c1, c2, c3, ha, hs, Tgt.cells]
/-- A world in which a target was stored. -/
def setT (w : World) (n : Nat) (t : Tgt) : World := (((w.setCell ⟨n, 0, none⟩ (.int .i64 t.form)).setCell ⟨n, 1, none⟩ (.string t.host)).setCell ⟨n, 2, none⟩ (.string t.path)).setCell ⟨n, 3, none⟩ (.string t.query)
theorem Row.put {w : World} {n : Nat} {T : TypeId} {t0 : Tgt} (h : Row w n T t0.cells) (t : Tgt) : Row (setT w n t) n T t.cells := ((((h.set 0 _).set 1 _).set 2 _).set 3 _)
theorem Mods.put {F : List Nat} {a w : World} (h : Mods F a w) {n : Nat} (hn : n ∈ F ∨ a.heap.size ≤ n) (t : Tgt) : Mods F a (setT w n t) := (((h.setCell hn _).setCell hn _).setCell hn _).setCell hn _
theorem Row.farT {w : World} {n m : Nat} {T : TypeId} {cs : Array Value} (h : Row w m T cs) (hn : m ≠ n) (t : Tgt) : Row (setT w n t) m T cs := (((h.far hn _).far hn _).far hn _).far hn _
/-- The end of a function that has stored its result. -/
theorem end_T {fn : Func} {a : Act} {w W : World} {rr : Tgt × Int} {r : Nat} {t0 : Tgt} {f : Int} {h p k : ByteArray} {q q2 : Tmp} {n : Int} (hres : fn.results = #[.cell q 37, .tmp q2])
    (hrow : Row W r 37 t0.cells) (h2 : a.tmps.getD q undef = .pointer (some ⟨r, 0, none⟩)) (h3 : a.tmps.getD q2 undef = .int .i64 n) (hd : a.defers = [])
    (hX : rr = (⟨f, h, p, k⟩, n)) (hM : Mods [] w W) (hn : w.heap.size ≤ r) :
    bodyPost Tryz.prog fn (TAns w rr) .ret a ((((W.setCell ⟨r, 0, none⟩ (.int .i64 f)).setCell ⟨r, 1, none⟩ (.string h)).setCell ⟨r, 2, none⟩ (.string p)).setCell ⟨r, 3, none⟩ (.string k)) := by
  have hR := hrow.put ⟨f, h, p, k⟩
  have hM2 := hM.put (.inr hn) ⟨f, h, p, k⟩
  change bodyPost Tryz.prog fn (TAns w rr) .ret a (setT W r ⟨f, h, p, k⟩)
  generalize setT W r ⟨f, h, p, k⟩ = w6 at hR hM2 ⊢
  exact ret_tgt (x := ⟨f, h, p, k⟩) hres hR (Tryz.isAgg37 _) (Tryz.sizeOf37 _) h2 h3 hd (TAns.mk' hX hM2)
/-- The same, where nothing was called behind the making of the result's block. -/
theorem end_N {fn : Func} {a : Act} {w : World} {rr : Tgt × Int} {f : Int} {h p k : ByteArray} {q q2 : Tmp} {n : Int} (hres : fn.results = #[.cell q 37, .tmp q2])
    (h2 : a.tmps.getD q undef = .pointer (some ⟨w.heap.size, 0, none⟩)) (h3 : a.tmps.getD q2 undef = .int .i64 n) (hd : a.defers = [])
    (hX : rr = (⟨f, h, p, k⟩, n)) :
    bodyPost Tryz.prog fn (TAns w rr) .ret a (w.alloc (.cells #[.int .i64 f, .string h, .string p, .string k] 37)) := by
  have hR : Row (w.alloc (.cells #[.int .i64 f, .string h, .string p, .string k] 37)) w.heap.size 37 (⟨f, h, p, k⟩ : Tgt).cells := Row.new w _ _
  have hM2 := (Mods.refl [] w).alloc (.cells #[.int .i64 f, .string h, .string p, .string k] 37)
  generalize w.alloc (.cells #[.int .i64 f, .string h, .string p, .string k] 37) = w6 at hR hM2 ⊢
  exact ret_tgt (x := ⟨f, h, p, k⟩) hres hR (Tryz.isAgg37 _) (Tryz.sizeOf37 _) h2 h3 hd (TAns.mk' hX hM2)
/-- What a walk asks of a target's block. -/
theorem Row.facts {w : World} {n : Nat} {T : TypeId} {t : Tgt} (h : Row w n T t.cells) :
    w.cell? ⟨n, 0, none⟩ = some (.int .i64 t.form) ∧ w.cell? ⟨n, 1, none⟩ = some (.string t.host) ∧ w.cell? ⟨n, 2, none⟩ = some (.string t.path) ∧ w.cell? ⟨n, 3, none⟩ = some (.string t.query) ∧
    w.frozen? ⟨n, 0, none⟩ = false ∧ w.frozen? ⟨n, 1, none⟩ = false ∧ w.frozen? ⟨n, 2, none⟩ = false ∧ w.frozen? ⟨n, 3, none⟩ = false :=
  ⟨h.cell 0, h.cell 1, h.cell 2, h.cell 3, h.free 0, h.free 1, h.free 2, h.free 3⟩
/-- The block of the result, when the world has turned by new memory alone. -/
theorem res_T {w w' : World} (h : Mods [] (w.alloc (.cells #[.int .i64 0, .string ⟨#[]⟩, .string ⟨#[]⟩, .string ⟨#[]⟩] 37)) w') : Row w' w.heap.size 37 noT.cells ∧ Mods [] w w' :=
  ⟨(Row.new w _ _).mods h (by simp), ((Mods.refl [] w).alloc _).trans h (fun _ h => nomatch h)⟩
theorem Mods.on {w w1 w2 : World} (h : Mods [] w w1) (h2 : Mods [] w1 w2) : Mods [] w w2 := h.trans h2 (fun _ h => nomatch h)
end Go.Proofs.YtgkhelbpccehcaaGreatDoor

/- A path and a query of the code (origin). Conditions: a text of at most a million bytes. -/
namespace Go.Proofs.YtgkhelbpccehcaaGreatDoor
open Go.RowKit
set_option linter.unusedVariables false
set_option linter.unusedSimpArgs false

theorem of_drewT {F : List Nat} {a w : World} (h : Mods F a.drew w) : Mods F a w := ⟨h.os, h.tape, h.output, h.size, h.block⟩
theorem cloneT (a : ByteArray) (hs : a.size ≤ 1000000) (w : World) : Calls Tryz.prog 40 #[.string a] w fun e w' => e = .returned (.string a) ∧ Mods [] w w' := by
  go_enter Tryz.func40, Tryz.ntmps40
  go_wp2_with fail
  refine (clone_shelfT a _ (by omega)).mono ?_
  rintro e w2 ⟨rfl, hd⟩
  have H := Lib.hid hd
  clear hd
  go_wp2
  go_ret
  exact ⟨rfl, .of_below H.out⟩
theorem allow_plain {c : UInt8} (h : plainB c = true) : allowB c = true := by unfold allowB; rw [h]; rfl
theorem allow_37 {c : UInt8} (h : c = 37) : allowB c = true := by subst h; decide +kernel
theorem allow_63 {c : UInt8} (h : c = 63) : allowB c = true := by subst h; decide +kernel
theorem allow_no {c : UInt8} (h : plainB c = false) (h1 : c ≠ 37) (h2 : c ≠ 63) : allowB c = false := by
  unfold allowB isC; rw [h]; simp [h1, h2]
theorem all_bad {s : ByteArray} {k : Nat} (hk : k < s.size) {p : UInt8 → Bool} (h : p s[k] = false) : s.data.toList.all p = false := by
  rw [List.all_eq_false]
  exact ⟨s[k], List.getElem_mem (by exact hk), by simp [h]⟩
theorem decA_res (l : List UInt8) (d : List UInt8) (h : decL l = some d) : decA l = (ofL d, 0) := decA_yes h
theorem bytes_eqT {a b : ByteArray} (h : a = b) : (a.toList == b.toList) = true ∧ (a.toList != b.toList) = false := by subst h; simp
theorem bytes_neT {a b : ByteArray} (h : a ≠ b) : (a.toList == b.toList) = false ∧ (a.toList != b.toList) = true := by
  have : a.toList ≠ b.toList := fun e => h (bytes_ext (by rw [← ByteArray.toList_eq, ← ByteArray.toList_eq, e]))
  simpa using this
theorem up_eq {ends s u : ByteArray} (hu : u = upA ends s) (h : u.size = s.size) : u = s := by
  apply bytes_ext
  have h1 := upA_list ends s
  rw [← hu] at h1
  rw [h1]
  exact upL_len_full (by rw [← h1]; exact h)

set_option maxRecDepth 10000 in
set_option maxHeartbeats 2000000 in
theorem origin_a (s : ByteArray) (hs : s.size ≤ 1000000) (w : World) : Calls Tryz.prog 131 #[.string s] w (TAns w (orgF 1 noB s.data.toList)) := by
  have HU := Lib.hid (fun w => upto_a s ⟨#[63]⟩ hs w)
  have hul := up_63 s
  have hus := upA_size ⟨#[63]⟩ s
  have hue := up_eq (ends := ⟨#[63]⟩) (s := s) rfl
  obtain ⟨u, hu⟩ : ∃ u, u = upA ⟨#[63]⟩ s := ⟨_, rfl⟩
  rw [← hu] at HU hul hus hue
  have HUE := Lib.hid hue
  clear hu hue
  have hu1 : u.size ≤ 1000000 := by omega
  have HUL := Lib.hid hul
  clear hul
  have HD := Lib.hid (fun w => decode_a u hu1 w)
  go_enter Tryz.func131, Tryz.ntmps131
  go_wp2
  obtain ⟨w0, hw0⟩ : ∃ w0, w0 = w.alloc (.cells #[.int .i64 0, .string ⟨#[]⟩, .string ⟨#[]⟩, .string ⟨#[]⟩] 37) := ⟨_, rfl⟩
  obtain ⟨n0, hn0⟩ : ∃ n0, n0 = w.heap.size := ⟨_, rfl⟩
  have HR0 := Lib.hid (show Row w0 n0 37 noT.cells by rw [hw0, hn0]; exact Row.new w _ _)
  have HM0 := Lib.hid (show Mods [] w w0 by rw [hw0]; exact (Mods.refl [] w).alloc _)
  have HN0 := Lib.hid (show w.heap.size ≤ n0 by omega)
  rw [← hw0, ← hn0]
  clear hw0 hn0
  go_loop [13] (fun i => ∃ (k : Nat), k ≤ s.size ∧ i = .int .i64 k ∧ (s.data.toList.take k).all allowB = true) (fun i => s.size - (intOf i).toNat)
  case atStart => exact ⟨0, Nat.zero_le _, rfl, rfl⟩
  case round =>
    obtain ⟨k, hk, rfl, hall⟩ := hrel
    have HA := Lib.hid hall
    clear hall
    by_cases hlt : k < s.size
    · cases hp : plainB s[k] with
      | true =>
        have HN := Lib.hid (take_all hlt HA.out (allow_plain hp))
        have HC := Lib.hid (fun w => hp ▸ plain_aT s[k] w)
        clear hp
        go_wp2_with (go_at_call 151; refine (HC.out _).mono ?_; rintro e w' ⟨rfl, rfl⟩)
        go_round
        case rel => exact ⟨k + 1, by omega, by go_num, HN.out⟩
        case measure => simp [intOf]; omega
      | false =>
        have HC := Lib.hid (fun w => hp ▸ plain_aT s[k] w)
        by_cases h37 : s[k] = 37
        · have HN := Lib.hid (take_all hlt HA.out (allow_37 h37))
          have e1 : ((s[k].toNat : Int) != 37) = false := by rw [h37]; rfl
          clear hp h37
          go_wp2_with (go_at_call 151; refine (HC.out _).mono ?_; rintro e w' ⟨rfl, rfl⟩)
          go_round
          case rel => exact ⟨k + 1, by omega, by go_num, HN.out⟩
          case measure => simp [intOf]; omega
        · have e1 : ((s[k].toNat : Int) != 37) = true := by have := (b_no 37 h37).2; simpa using this
          by_cases h63 : s[k] = 63
          · have HN := Lib.hid (take_all hlt HA.out (allow_63 h63))
            have e2 : ((s[k].toNat : Int) != 63) = false := by rw [h63]; rfl
            clear hp h37 h63
            go_wp2_with (go_at_call 151; refine (HC.out _).mono ?_; rintro e w' ⟨rfl, rfl⟩)
            go_round
            case rel => exact ⟨k + 1, by omega, by go_num, HN.out⟩
            case measure => simp [intOf]; omega
          · have e2 : ((s[k].toNat : Int) != 63) = true := by have := (b_no 63 h63).2; simpa using this
            have HX := Lib.hid (orgF_no (f := 1) (h := noB) (orgL_bad (all_bad hlt (allow_no hp h37 h63))))
            clear hp h37 h63
            obtain ⟨c0, c1, c2, c3, f0, f1, f2, f3⟩ := HR0.out.facts
            simp only [noT, noB] at c0 c1 c2 c3
            go_wp2_with (go_at_call 151; refine (HC.out _).mono ?_; rintro e w' ⟨rfl, rfl⟩)
            exact end_T rfl HR0.out rfl rfl rfl HX.out (HM0.out) HN0.out
    · have hal := take_end hlt HA.out
      have HAL := Lib.hid hal
      clear hal
      cases hd : decL u.data.toList with
      | none =>
        have HX := Lib.hid (orgF_no (f := 1) (h := noB) (orgL_dec HAL.out (by rw [← HUL.out]; exact hd)))
        rw [decA_no hd] at HD
        clear hd
        go_wp2_with (first
          | (go_at_call 149; refine (HU.out _).mono ?_; rintro e w' ⟨rfl, rfl⟩)
          | (go_at_call 152; refine (HD.out _).mono ?_; rintro e w1 ⟨rfl, hm⟩; have M1 := Lib.hid hm; have R1 := Lib.hid (HR0.out.mods hm (by simp)); obtain ⟨c0, c1, c2, c3, f0, f1, f2, f3⟩ := R1.out.facts; simp only [noT, noB] at c0 c1 c2 c3; clear hm))
        exact end_T rfl R1.out rfl rfl rfl HX.out (HM0.out.on M1.out) HN0.out
      | some d =>
        have hds : d.length ≤ 1000000 := by have := decL_len _ _ hd; rw [len_data] at this; omega
        rw [decA_yes hd] at HD
        have HCL := Lib.hid (fun w => clean_a (ofL d) (by rw [ofL_size]; exact hds) w)
        rw [ofL_list] at HCL
        cases hc : clnL d with
        | none =>
          have HX := Lib.hid (orgF_no (f := 1) (h := noB) (orgL_cln HAL.out (by rw [← HUL.out]; exact hd) hc))
          rw [clnA_no hc] at HCL
          clear hd hc hds
          go_wp2_with (first
            | (go_at_call 149; refine (HU.out _).mono ?_; rintro e w' ⟨rfl, rfl⟩)
            | (go_at_call 152; refine (HD.out _).mono ?_; rintro e w1 ⟨rfl, hm⟩; have M1 := Lib.hid hm; have R1 := Lib.hid (HR0.out.mods hm (by simp)); clear hm)
            | (go_at_call 153; refine (HCL.out _).mono ?_; rintro e w2 ⟨rfl, hm⟩; have M2 := Lib.hid (M1.out.on hm); have R2 := Lib.hid (R1.out.mods hm (by simp)); obtain ⟨c0, c1, c2, c3, f0, f1, f2, f3⟩ := R2.out.facts; simp only [noT, noB] at c0 c1 c2 c3; clear hm))
          exact end_T rfl R2.out rfl rfl rfl HX.out (HM0.out.on M2.out) HN0.out
        | some p =>
          have hx := orgF_yes (f := 1) (h := noB) (orgL_yes HAL.out (by rw [← HUL.out]; exact hd) hc)
          rw [← HUL.out, len_data] at hx
          rw [clnA_yes hc] at HCL
          clear hd hc hds
          go_upto_region 14 with (first
            | (go_at_call 149; refine (HU.out _).mono ?_; rintro e w' ⟨rfl, rfl⟩)
            | (go_at_call 152; refine (HD.out _).mono ?_; rintro e w1 ⟨rfl, hm⟩; have M1 := Lib.hid hm; have R1 := Lib.hid (HR0.out.mods hm (by simp)); clear hm)
            | (go_at_call 153; refine (HCL.out _).mono ?_; rintro e w2 ⟨rfl, hm⟩; have M2 := Lib.hid (M1.out.on hm); have R2 := Lib.hid (R1.out.mods hm (by simp)); clear hm))
          obtain ⟨x, hxx⟩ : ∃ x, x = ofL p := ⟨_, rfl⟩
          rw [← hxx] at hx
          rw [← hxx]
          clear hxx
          go_upto_region 15 with fail
          obtain ⟨w3, hw3⟩ : ∃ w3, w3 = w2.alloc (.cells #[.int .i64 1, .string ⟨#[]⟩, .string x, .string ⟨#[]⟩] 37) := ⟨_, rfl⟩
          obtain ⟨n1, hn1⟩ : ∃ n1, n1 = w2.heap.size := ⟨_, rfl⟩
          have hr3 : Row w3 n0 37 noT.cells := by rw [hw3]; exact R2.out.alloc _
          have ht3 : Row w3 n1 37 (⟨1, noB, x, noB⟩ : Tgt).cells := by rw [hw3, hn1]; exact Row.new w2 _ _
          have hm3 : Mods [] w w3 := by rw [hw3]; exact (HM0.out.on M2.out).alloc _
          have hne : n0 < n1 := by rw [hn1]; exact R2.out.lt
          rw [← hw3, ← hn1]
          clear hw3 hn1 M1 M2 R1 R2 HCL HD
          have HR3 := Lib.hid hr3
          have HT3 := Lib.hid ht3
          have HM3 := Lib.hid hm3
          clear hr3 ht3 hm3
          by_cases hz : u.size = s.size
          · have huse := HUE.out hz
            have e1 := (bytes_eqT huse).1
            have HX := Lib.hid (show orgF 1 noB s.data.toList = (⟨1, noB, x, noB⟩, 0) by
              rw [hx, hz, List.drop_of_length_le (by rw [len_data]; omega)]; rfl)
            clear huse hz hx
            obtain ⟨c0, c1, c2, c3, f0, f1, f2, f3⟩ := HR3.out.facts
            obtain ⟨d0, d1, d2, d3, -, -, -, -⟩ := HT3.out.facts
            simp only [noT, noB] at c0 c1 c2 c3 d0 d1 d2 d3
            go_wp2
            exact end_T rfl HR3.out rfl rfl rfl HX.out HM3.out HN0.out
          · have huse : u ≠ s := fun e => hz (by rw [e])
            have e1 := (bytes_neT huse).1
            have c4 : (0 : Int) ≤ (u.size : Int) + 1 := by omega
            have c5 : (u.size : Int) + 1 ≤ (s.size : Int) := by omega
            have hvl := ext_from s (u.size + 1)
            have hvs := ext_le s (u.size + 1) s.size
            obtain ⟨v, hv⟩ : ∃ v, v = s.extract (u.size + 1) s.size := ⟨_, rfl⟩
            rw [← hv] at hvl hvs
            have HV := Lib.hid hv
            have HX := Lib.hid (show orgF 1 noB s.data.toList = (⟨1, noB, x, v⟩, 0) by rw [hx, ← hvl, ofL_data])
            have HCL := Lib.hid (fun w => cloneT v (by omega) w)
            clear huse hz hx hvl hv
            go_upto_region 17 with (go_at_call 40; rw [← HV.out]; refine (HCL.out _).mono ?_; rintro e w4 ⟨rfl, hm⟩; have R4 := Lib.hid (HR3.out.mods hm (by simp)); have T4 := Lib.hid (HT3.out.mods hm (by simp)); have M4 := Lib.hid (HM3.out.on hm); have t3 := T4.out.cell 3; have tf := T4.out.free 3; simp only [Tgt.cells, List.getElem?_toArray, List.getElem?_cons_zero, List.getElem?_cons_succ, noB] at t3; clear hm)
            obtain ⟨w5, hw5⟩ : ∃ w5, w5 = w4.setCell ⟨n1, 3, none⟩ (.string v) := ⟨_, rfl⟩
            have hr5 : Row w5 n0 37 noT.cells := by rw [hw5]; exact R4.out.far (p := ⟨n1, 3, none⟩) (by show n0 ≠ n1; omega) (.string v)
            have ht5 : Row w5 n1 37 (⟨1, noB, x, v⟩ : Tgt).cells := by rw [hw5]; exact T4.out.set 3 (.string v)
            have hm5 : Mods [] w w5 := by rw [hw5]; exact M4.out.setCell (p := ⟨n1, 3, none⟩) (.inr (by show _ ≤ n1; have := HN0.out; omega)) _
            rw [← hw5]
            clear hw5 t3 tf R4 T4 M4 HR3 HT3 HM3
            have HR5 := Lib.hid hr5
            have HT5 := Lib.hid ht5
            have HM5 := Lib.hid hm5
            clear hr5 ht5 hm5
            obtain ⟨c0, c1, c2, c3, f0, f1, f2, f3⟩ := HR5.out.facts
            obtain ⟨d0, d1, d2, d3, -, -, -, -⟩ := HT5.out.facts
            simp only [noT, noB] at c0 c1 c2 c3 d0 d1 d2 d3
            go_wp2
            exact end_T rfl HR5.out rfl rfl rfl HX.out HM5.out HN0.out
end Go.Proofs.YtgkhelbpccehcaaGreatDoor

/- Parse of the code. Conditions: a method and a text of at most a million bytes. -/
namespace Go.Proofs.YtgkhelbpccehcaaGreatDoor
open Go.RowKit
set_option linter.unusedVariables false
set_option linter.unusedSimpArgs false

theorem lowerK (s : ByteArray) (hs : s.size ≤ 1000000) (w : World) : Calls Tryz.prog 150 #[.string s] w fun e w' => e = .returned (.string (ofL (lowL s.data.toList))) ∧ Mods [] w w' :=
  (lower_a s w (by unfold maxLen; omega)).mono fun e w' ⟨h1, h2⟩ => ⟨h1, .of_below h2⟩
theorem sameKT (a b : ByteArray) (ha : a.size ≤ 1000000) (hb : b.size ≤ 1000000) (w : World) : Calls Tryz.prog 154 #[.string a, .string b] w fun e w' => e = .returned (.bool (sameL a b)) ∧ Mods [] w w' :=
  (same_a a b w (by unfold maxLen; omega) (by unfold maxLen; omega)).mono fun e w' ⟨h1, h2⟩ => ⟨h1, .of_below h2.below⟩
def pickF (x y z : ByteArray) (j : Nat) : ByteArray := if j = 0 then x else if j = 1 then y else z
theorem join2 (x y : ByteArray) (hx : x.size ≤ 1000000) (hy : y.size ≤ 1000000) (w : World) (b : Nat) (hb : b = w.heap.size) :
    Calls Tryz.prog 155 #[.slice (some ⟨b, 0, none⟩) 2 2] (w.alloc (.cells #[.string x, .string y] 9)) fun e w' => e = .returned (.string (ofL (x.data.toList ++ y.data.toList))) ∧ Mods [] w w' := by
  subst hb
  refine (join_a w.heap.size 0 2 2 (pickF x y noB) _ (by simp) (by unfold maxLen; decide) ?_ ?_).mono ?_
  · intro j hj
    rw [Nat.zero_add]
    rcases (by omega : j = 0 ∨ j = 1) with rfl | rfl <;> simp [pickF]
  · simp only [joinF, pickF, List.length_append, len_data, List.nil_append]; simp; omega
  · rintro e w' ⟨rfl, hb⟩
    exact ⟨by simp [joinF, pickF, ofL], ((Mods.refl [] _).alloc _).on (.of_below hb)⟩
theorem join3 (x y z : ByteArray) (hx : x.size ≤ 1000000) (hy : y.size ≤ 1000000) (hz : z.size ≤ 10000000) (w : World) (b : Nat) (hb : b = w.heap.size) :
    Calls Tryz.prog 155 #[.slice (some ⟨b, 0, none⟩) 3 3] (w.alloc (.cells #[.string x, .string y, .string z] 9)) fun e w' => e = .returned (.string (ofL (x.data.toList ++ y.data.toList ++ z.data.toList))) ∧ Mods [] w w' := by
  subst hb
  refine (join_a w.heap.size 0 3 3 (pickF x y z) _ (by simp) (by unfold maxLen; decide) ?_ ?_).mono ?_
  · intro j hj
    rw [Nat.zero_add]
    rcases (by omega : j = 0 ∨ j = 1 ∨ j = 2) with rfl | rfl | rfl <;> simp [pickF]
  · simp only [joinF, pickF, List.length_append, len_data, List.nil_append]; simp; omega
  · rintro e w' ⟨rfl, hb⟩
    exact ⟨by simp [joinF, pickF, ofL], ((Mods.refl [] _).alloc _).on (.of_below hb)⟩

theorem in_58 (l : List UInt8) : (upL (isC 58) l = l) ↔ inL l 58 = false := by
  rw [upL_full]
  unfold inL
  rw [List.any_eq_false]
  constructor
  · intro h x hx; have := h x hx; simpa [isC] using this
  · intro h x hx; have := h x hx; simpa [isC] using this
theorem authL_no {l : List UInt8} (h : hostL l = false ∨ inL l 58 = false) : authL l = (noT, 8) := by
  unfold authL; rw [if_neg]; rintro ⟨h1, h2⟩; rcases h with h | h
  · rw [h] at h1; cases h1
  · rw [h] at h2; cases h2
theorem authL_yes {l : List UInt8} (h : hostL l = true) (h2 : inL l 58 = true) : authL l = (⟨3, ofL (lowL l), noB, noB⟩, 0) := by unfold authL; rw [if_pos ⟨h, h2⟩]
theorem lowA_size (l : List UInt8) : (ofL (lowL l)).size = l.length := by rw [ofL_size]; simp [lowL]

set_option maxRecDepth 10000 in
set_option maxHeartbeats 1000000 in
theorem authority_a (s : ByteArray) (hs : s.size ≤ 1000000) (w : World) : Calls Tryz.prog 129 #[.string s] w (TAns w (authL s.data.toList)) := by
  have HH := Lib.hid (fun w => host_a s w hs)
  cases hh : hostL s.data.toList with
  | false =>
    rw [hh] at HH
    have HX := Lib.hid (authL_no (.inl hh))
    clear hh
    go_enter Tryz.func129, Tryz.ntmps129
    go_wp2_with (go_at_call 148; refine (HH.out _).mono ?_; rintro e w' ⟨rfl, rfl⟩)
    exact end_N rfl rfl rfl rfl HX.out
  | true =>
    rw [hh] at HH
    have HU := Lib.hid (fun w => upto_a s ⟨#[58]⟩ hs w)
    have hul := up_58 s
    obtain ⟨u, hu⟩ : ∃ u, u = upA ⟨#[58]⟩ s := ⟨_, rfl⟩
    rw [← hu] at HU hul
    clear hu
    cases hi : inL s.data.toList 58 with
    | false =>
      have hus : u = s := bytes_ext (by rw [hul]; exact (in_58 _).2 hi)
      have e1 := (bytes_eqT hus).1
      have HX := Lib.hid (authL_no (.inr hi))
      clear hh hi hus hul
      go_enter Tryz.func129, Tryz.ntmps129
      go_wp2_with (first
        | (go_at_call 148; refine (HH.out _).mono ?_; rintro e w' ⟨rfl, rfl⟩)
        | (go_at_call 149; refine (HU.out _).mono ?_; rintro e w' ⟨rfl, rfl⟩))
      exact end_N rfl rfl rfl rfl HX.out
    | true =>
      have hus : u ≠ s := fun e => by
        have := (in_58 s.data.toList).1 (by rw [← hul, e])
        rw [hi] at this; cases this
      have e1 := (bytes_neT hus).1
      have HX := Lib.hid (authL_yes hh hi)
      have HL := Lib.hid (fun w => lowerK s hs w)
      obtain ⟨l, hl⟩ : ∃ l, l = ofL (lowL s.data.toList) := ⟨_, rfl⟩
      rw [← hl] at HX HL
      clear hh hi hus hul hl
      go_enter Tryz.func129, Tryz.ntmps129
      go_wp2_with (first
        | (go_at_call 148; refine (HH.out _).mono ?_; rintro e w' ⟨rfl, rfl⟩)
        | (go_at_call 149; refine (HU.out _).mono ?_; rintro e w' ⟨rfl, rfl⟩)
        | (go_at_call 150; refine (HL.out _).mono ?_; rintro e w1 ⟨rfl, hm⟩; have r1 := res_T hm; have R1 := Lib.hid r1; obtain ⟨c0, c1, c2, c3, f0, f1, f2, f3⟩ := r1.1.facts; simp only [noT, noB] at c0 c1 c2 c3; clear hm r1))
      exact end_T rfl R1.out.1 rfl rfl rfl HX.out R1.out.2 (Nat.le_refl _)

theorem up_end (s : ByteArray) : (upA ⟨#[47, 63]⟩ s).data.toList = hostOf s.data.toList := by
  rw [upA_list]
  have : inI (⟨#[47, 63]⟩ : ByteArray).data.toList = endB := funext fun c => by
    have := by_byte (fun c => inI [47, 63] c == endB c) (by decide +kernel) c
    simpa using this
  rw [this]; rfl
theorem absL_no {l : List UInt8} (h : hostL (hostOf l) = false) : absL l = (noT, 8) := by unfold absL; rw [if_neg (by rw [h]; simp)]
theorem absL_yes {l : List UInt8} (h : hostL (hostOf l) = true) : absL l = orgF 2 (ofL (lowL (hostOf l))) (restOf l) := by unfold absL; rw [if_pos h]
theorem orgF_cases (l : List UInt8) : (orgL l = none) ∨ ∃ p q, orgL l = some (p, q) := by
  cases h : orgL l with
  | none => exact .inl rfl
  | some x => exact .inr ⟨x.1, x.2, rfl⟩
end Go.Proofs.YtgkhelbpccehcaaGreatDoor

/- Absolute targets and Parse of the code. Conditions: a method and a text of at most a million bytes. -/
namespace Go.Proofs.YtgkhelbpccehcaaGreatDoor
open Go.RowKit
set_option linter.unusedVariables false
set_option linter.unusedSimpArgs false

set_option maxRecDepth 10000 in
set_option maxHeartbeats 400000 in
theorem absolute_a (s : ByteArray) (hs : s.size ≤ 900000) (w : World) : Calls Tryz.prog 133 #[.string s] w (TAns w (absL s.data.toList)) := by
  have HU := Lib.hid (fun w => upto_a s ⟨#[47, 63]⟩ (by omega) w)
  have hul := up_end s
  have hus := upA_size ⟨#[47, 63]⟩ s
  obtain ⟨u, hu⟩ : ∃ u, u = upA ⟨#[47, 63]⟩ s := ⟨_, rfl⟩
  rw [← hu] at HU hul hus
  clear hu
  have HUL := Lib.hid hul
  have hlen : (hostOf s.data.toList).length = u.size := by rw [← hul]; rfl
  have HH := Lib.hid (fun w => host_a u w (by omega))
  clear hul
  rw [HUL.out] at HH
  cases hh : hostL (hostOf s.data.toList) with
  | false =>
    rw [hh] at HH
    have HX := Lib.hid (absL_no hh)
    clear hh hlen
    go_enter Tryz.func133, Tryz.ntmps133
    go_wp2_with (first
      | (go_at_call 149; refine (HU.out _).mono ?_; rintro e w' ⟨rfl, rfl⟩)
      | (go_at_call 148; refine (HH.out _).mono ?_; rintro e w' ⟨rfl, rfl⟩))
    exact end_N rfl rfl rfl rfl HX.out
  | true =>
    rw [hh] at HH
    have hx := absL_yes hh
    have hvl := ext_from s u.size
    have hvs := ext_le s u.size s.size
    have c1 : (0 : Int) ≤ (u.size : Int) := by omega
    have c2 : (u.size : Int) ≤ (s.size : Int) := by omega
    obtain ⟨v, hv⟩ : ∃ v, v = s.extract u.size s.size := ⟨_, rfl⟩
    rw [← hv] at hvl hvs
    have HV := Lib.hid hv
    have HS := Lib.hid (fun w => slash_a v w (by omega))
    have hrest : restOf s.data.toList = if slashL v.data.toList = true then v.data.toList else 47 :: v.data.toList := by unfold restOf; rw [hlen, hvl]
    have HL := Lib.hid (fun w => lowerK u (by omega) w)
    rw [HUL.out] at HL
    obtain ⟨lh, hlh⟩ : ∃ lh, lh = ofL (lowL (hostOf s.data.toList)) := ⟨_, rfl⟩
    rw [← hlh] at hx HL
    clear hh hlen hlh hv hvl
    cases hsl : slashL v.data.toList with
    | false =>
      rw [hsl] at HS hrest
      rw [if_neg (by simp)] at hrest
      have HJ := Lib.hid (fun w b hb => join2 ⟨#[47]⟩ v (by decide) (by omega) w b hb)
      have hjl : (ofL ((⟨#[47]⟩ : ByteArray).data.toList ++ v.data.toList)).data.toList = restOf s.data.toList := by rw [ofL_list, hrest]; rfl
      have hjs : (ofL ((⟨#[47]⟩ : ByteArray).data.toList ++ v.data.toList)).size ≤ 1000000 := by rw [ofL_size, List.length_append, len_data, len_data]; show 1 + _ ≤ _; omega
      obtain ⟨jt, hjt⟩ : ∃ jt, jt = ofL ((⟨#[47]⟩ : ByteArray).data.toList ++ v.data.toList) := ⟨_, rfl⟩
      rw [← hjt] at HJ hjl hjs
      have HO := Lib.hid (fun w => origin_a jt hjs w)
      rw [hjl] at HO
      clear hjl hjt
      unfold TAns at HO
      clear hsl hrest
      rcases orgF_cases (restOf s.data.toList) with hc | ⟨p, q, hc⟩
      · rw [orgF_no hc] at HO
        simp only [Tgt.cells, noT, noB] at HO
        have HX := Lib.hid (hx.trans (orgF_no hc))
        clear hc hx
        go_enter Tryz.func133, Tryz.ntmps133
        go_upto_region 8 with (first
          | (go_at_call 149; refine (HU.out _).mono ?_; rintro e w' ⟨rfl, rfl⟩)
          | (go_at_call 148; refine (HH.out _).mono ?_; rintro e w' ⟨rfl, rfl⟩)
          | (go_at_call 130; (try rw [← HV.out]); refine (HS.out _).mono ?_; rintro e w' ⟨rfl, rfl⟩)
          | (go_at_call 155; (try rw [← HV.out]); refine Calls.mono (HJ.out _ _ (by simp)) ?_; rintro e w1 ⟨rfl, hm⟩; have r1 := res_T hm; have R1 := Lib.hid r1; clear hm r1)
          | (go_at_call 131; refine (HO.out _).mono ?_; rintro e w2 ⟨rfl, hm⟩; have R2 := Lib.hid (And.intro (R1.out.1.mods hm (by simp)) (R1.out.2.on hm)); clear hm))
        obtain ⟨w3, hw3⟩ : ∃ w3, w3 = w2.alloc (.cells #[.int .i64 0, .string noB, .string noB, .string noB] 37) := ⟨_, rfl⟩
        have hr3 : Row w3 w.heap.size 37 noT.cells := by rw [hw3]; exact R2.out.1.alloc _
        have hm3 : Mods [] w w3 := by rw [hw3]; exact R2.out.2.alloc _
        simp only [noB] at hw3
        rw [← hw3]
        clear hw3 R2
        have R3 := Lib.hid (And.intro hr3 hm3)
        clear hr3 hm3
        obtain ⟨c0, c1, c2, c3, f0, f1, f2, f3⟩ := R3.out.1.facts
        simp only [noT, noB] at c0 c1 c2 c3
        go_wp2
        exact end_T rfl R3.out.1 rfl rfl rfl HX.out R3.out.2 (Nat.le_refl _)
      · rw [orgF_yes hc] at HO
        have hx2 := hx.trans (orgF_yes hc)
        obtain ⟨pa, hpa⟩ : ∃ pa, pa = ofL p := ⟨_, rfl⟩
        obtain ⟨qa, hqa⟩ : ∃ qa, qa = ofL q := ⟨_, rfl⟩
        rw [← hpa, ← hqa] at HO hx2
        simp only [Tgt.cells, noB] at HO
        have HX := Lib.hid hx2
        clear hc hx hx2 hpa hqa
        go_enter Tryz.func133, Tryz.ntmps133
        go_upto_region 8 with (first
          | (go_at_call 149; refine (HU.out _).mono ?_; rintro e w' ⟨rfl, rfl⟩)
          | (go_at_call 148; refine (HH.out _).mono ?_; rintro e w' ⟨rfl, rfl⟩)
          | (go_at_call 130; (try rw [← HV.out]); refine (HS.out _).mono ?_; rintro e w' ⟨rfl, rfl⟩)
          | (go_at_call 155; (try rw [← HV.out]); refine Calls.mono (HJ.out _ _ (by simp)) ?_; rintro e w1 ⟨rfl, hm⟩; have r1 := res_T hm; have R1 := Lib.hid r1; clear hm r1)
          | (go_at_call 131; refine (HO.out _).mono ?_; rintro e w2 ⟨rfl, hm⟩; have R2 := Lib.hid (And.intro (R1.out.1.mods hm (by simp)) (R1.out.2.on hm)); clear hm))
        obtain ⟨w3, hw3⟩ : ∃ w3, w3 = w2.alloc (.cells #[.int .i64 1, .string noB, .string pa, .string qa] 37) := ⟨_, rfl⟩
        obtain ⟨n1, hn1⟩ : ∃ n1, n1 = w2.heap.size := ⟨_, rfl⟩
        obtain ⟨n0, hn0⟩ : ∃ n0, n0 = w.heap.size := ⟨_, rfl⟩
        have hr3 : Row w3 n0 37 noT.cells := by rw [hw3, hn0]; exact R2.out.1.alloc _
        have ht3 : Row w3 n1 37 (⟨1, noB, pa, qa⟩ : Tgt).cells := by rw [hw3, hn1]; exact Row.new w2 _ _
        have hm3 : Mods [] w w3 := by rw [hw3]; exact R2.out.2.alloc _
        have hne : n0 < n1 := by rw [hn1, hn0]; exact R2.out.1.lt
        have HN0 := Lib.hid (show w.heap.size ≤ n0 by omega)
        rw [← hn1, ← hn0]
        simp only [noB] at hw3 ⊢
        rw [← hw3]
        clear hw3 hn1 hn0 R2
        have HR3 := Lib.hid hr3
        have HT3 := Lib.hid ht3
        have HM3 := Lib.hid hm3
        clear hr3 ht3 hm3
        go_upto_region 11 with (go_at_call 150; refine (HL.out _).mono ?_; rintro e w4 ⟨rfl, hm⟩; have R4 := Lib.hid (HR3.out.mods hm (by simp)); have T4 := Lib.hid (HT3.out.mods hm (by simp)); have M4 := Lib.hid (HM3.out.on hm); have t0 := T4.out.cell 0; have t1 := T4.out.cell 1; have tf0 := T4.out.free 0; have tf1 := T4.out.free 1; simp only [Tgt.cells, List.getElem?_toArray, List.getElem?_cons_zero, List.getElem?_cons_succ, noB] at t0 t1; clear hm)
        obtain ⟨w5, hw5⟩ : ∃ w5, w5 = (w4.setCell ⟨n1, 0, none⟩ (.int .i64 2)).setCell ⟨n1, 1, none⟩ (.string lh) := ⟨_, rfl⟩
        have hr5 : Row w5 n0 37 noT.cells := by rw [hw5]; exact (R4.out.far (p := ⟨n1, 0, none⟩) (by show n0 ≠ n1; omega) _).far (p := ⟨n1, 1, none⟩) (by show n0 ≠ n1; omega) _
        have ht5 : Row w5 n1 37 (⟨2, lh, pa, qa⟩ : Tgt).cells := by rw [hw5]; exact (T4.out.set 0 (.int .i64 2)).set 1 (.string lh)
        have hm5 : Mods [] w w5 := by rw [hw5]; exact (M4.out.setCell (p := ⟨n1, 0, none⟩) (.inr (by show _ ≤ n1; have := HN0.out; omega)) _).setCell (p := ⟨n1, 1, none⟩) (.inr (by show _ ≤ n1; have := HN0.out; omega)) _
        rw [← hw5]
        clear hw5 t0 t1 tf0 tf1 R4 T4 M4 HR3 HT3 HM3
        have HR5 := Lib.hid hr5
        have HT5 := Lib.hid ht5
        have HM5 := Lib.hid hm5
        clear hr5 ht5 hm5
        obtain ⟨c0, c1, c2, c3, f0, f1, f2, f3⟩ := HR5.out.facts
        obtain ⟨d0, d1, d2, d3, -, -, -, -⟩ := HT5.out.facts
        simp only [noT, noB] at c0 c1 c2 c3 d0 d1 d2 d3
        go_wp2
        exact end_T rfl HR5.out rfl rfl rfl HX.out HM5.out HN0.out
    | true =>
      rw [hsl] at HS hrest
      rw [if_pos rfl] at hrest
      have HO := Lib.hid (fun w => origin_a v (by omega) w)
      rw [← hrest] at HO
      unfold TAns at HO
      clear hsl hrest
      rcases orgF_cases (restOf s.data.toList) with hc | ⟨p, q, hc⟩
      · rw [orgF_no hc] at HO
        simp only [Tgt.cells, noT, noB] at HO
        have HX := Lib.hid (hx.trans (orgF_no hc))
        clear hc hx
        go_enter Tryz.func133, Tryz.ntmps133
        go_upto_region 8 with (first
          | (go_at_call 149; refine (HU.out _).mono ?_; rintro e w' ⟨rfl, rfl⟩)
          | (go_at_call 148; refine (HH.out _).mono ?_; rintro e w' ⟨rfl, rfl⟩)
          | (go_at_call 130; (try rw [← HV.out]); refine (HS.out _).mono ?_; rintro e w' ⟨rfl, rfl⟩)
          | (go_at_call 131; (try rw [← HV.out]); refine (HO.out _).mono ?_; rintro e w2 ⟨rfl, hm⟩; have r2 := res_T hm; have R2 := Lib.hid r2; clear hm r2))
        obtain ⟨w3, hw3⟩ : ∃ w3, w3 = w2.alloc (.cells #[.int .i64 0, .string noB, .string noB, .string noB] 37) := ⟨_, rfl⟩
        have hr3 : Row w3 w.heap.size 37 noT.cells := by rw [hw3]; exact R2.out.1.alloc _
        have hm3 : Mods [] w w3 := by rw [hw3]; exact R2.out.2.alloc _
        simp only [noB] at hw3
        rw [← hw3]
        clear hw3 R2
        have R3 := Lib.hid (And.intro hr3 hm3)
        clear hr3 hm3
        obtain ⟨c0, c1, c2, c3, f0, f1, f2, f3⟩ := R3.out.1.facts
        simp only [noT, noB] at c0 c1 c2 c3
        go_wp2
        exact end_T rfl R3.out.1 rfl rfl rfl HX.out R3.out.2 (Nat.le_refl _)
      · rw [orgF_yes hc] at HO
        have hx2 := hx.trans (orgF_yes hc)
        obtain ⟨pa, hpa⟩ : ∃ pa, pa = ofL p := ⟨_, rfl⟩
        obtain ⟨qa, hqa⟩ : ∃ qa, qa = ofL q := ⟨_, rfl⟩
        rw [← hpa, ← hqa] at HO hx2
        simp only [Tgt.cells, noB] at HO
        have HX := Lib.hid hx2
        clear hc hx hx2 hpa hqa
        go_enter Tryz.func133, Tryz.ntmps133
        go_upto_region 8 with (first
          | (go_at_call 149; refine (HU.out _).mono ?_; rintro e w' ⟨rfl, rfl⟩)
          | (go_at_call 148; refine (HH.out _).mono ?_; rintro e w' ⟨rfl, rfl⟩)
          | (go_at_call 130; (try rw [← HV.out]); refine (HS.out _).mono ?_; rintro e w' ⟨rfl, rfl⟩)
          | (go_at_call 131; (try rw [← HV.out]); refine (HO.out _).mono ?_; rintro e w2 ⟨rfl, hm⟩; have r2 := res_T hm; have R2 := Lib.hid r2; clear hm r2))
        obtain ⟨w3, hw3⟩ : ∃ w3, w3 = w2.alloc (.cells #[.int .i64 1, .string noB, .string pa, .string qa] 37) := ⟨_, rfl⟩
        obtain ⟨n1, hn1⟩ : ∃ n1, n1 = w2.heap.size := ⟨_, rfl⟩
        obtain ⟨n0, hn0⟩ : ∃ n0, n0 = w.heap.size := ⟨_, rfl⟩
        have hr3 : Row w3 n0 37 noT.cells := by rw [hw3, hn0]; exact R2.out.1.alloc _
        have ht3 : Row w3 n1 37 (⟨1, noB, pa, qa⟩ : Tgt).cells := by rw [hw3, hn1]; exact Row.new w2 _ _
        have hm3 : Mods [] w w3 := by rw [hw3]; exact R2.out.2.alloc _
        have hne : n0 < n1 := by rw [hn1, hn0]; exact R2.out.1.lt
        have HN0 := Lib.hid (show w.heap.size ≤ n0 by omega)
        rw [← hn1, ← hn0]
        simp only [noB] at hw3 ⊢
        rw [← hw3]
        clear hw3 hn1 hn0 R2
        have HR3 := Lib.hid hr3
        have HT3 := Lib.hid ht3
        have HM3 := Lib.hid hm3
        clear hr3 ht3 hm3
        go_upto_region 11 with (go_at_call 150; refine (HL.out _).mono ?_; rintro e w4 ⟨rfl, hm⟩; have R4 := Lib.hid (HR3.out.mods hm (by simp)); have T4 := Lib.hid (HT3.out.mods hm (by simp)); have M4 := Lib.hid (HM3.out.on hm); have t0 := T4.out.cell 0; have t1 := T4.out.cell 1; have tf0 := T4.out.free 0; have tf1 := T4.out.free 1; simp only [Tgt.cells, List.getElem?_toArray, List.getElem?_cons_zero, List.getElem?_cons_succ, noB] at t0 t1; clear hm)
        obtain ⟨w5, hw5⟩ : ∃ w5, w5 = (w4.setCell ⟨n1, 0, none⟩ (.int .i64 2)).setCell ⟨n1, 1, none⟩ (.string lh) := ⟨_, rfl⟩
        have hr5 : Row w5 n0 37 noT.cells := by rw [hw5]; exact (R4.out.far (p := ⟨n1, 0, none⟩) (by show n0 ≠ n1; omega) _).far (p := ⟨n1, 1, none⟩) (by show n0 ≠ n1; omega) _
        have ht5 : Row w5 n1 37 (⟨2, lh, pa, qa⟩ : Tgt).cells := by rw [hw5]; exact (T4.out.set 0 (.int .i64 2)).set 1 (.string lh)
        have hm5 : Mods [] w w5 := by rw [hw5]; exact (M4.out.setCell (p := ⟨n1, 0, none⟩) (.inr (by show _ ≤ n1; have := HN0.out; omega)) _).setCell (p := ⟨n1, 1, none⟩) (.inr (by show _ ≤ n1; have := HN0.out; omega)) _
        rw [← hw5]
        clear hw5 t0 t1 tf0 tf1 R4 T4 M4 HR3 HT3 HM3
        have HR5 := Lib.hid hr5
        have HT5 := Lib.hid ht5
        have HM5 := Lib.hid hm5
        clear hr5 ht5 hm5
        obtain ⟨c0, c1, c2, c3, f0, f1, f2, f3⟩ := HR5.out.facts
        obtain ⟨d0, d1, d2, d3, -, -, -, -⟩ := HT5.out.facts
        simp only [noT, noB] at c0 c1 c2 c3 d0 d1 d2 d3
        go_wp2
        exact end_T rfl HR5.out rfl rfl rfl HX.out HM5.out HN0.out
end Go.Proofs.YtgkhelbpccehcaaGreatDoor

/- Parse of the code. Conditions: a method and a text of at most a million bytes. -/
namespace Go.Proofs.YtgkhelbpccehcaaGreatDoor
open Go.RowKit
set_option linter.unusedVariables false
set_option linter.unusedSimpArgs false

theorem schemeL_short {l : List UInt8} (h : ¬ 7 ≤ l.length) : schemeL l = false := by unfold schemeL; rw [decide_eq_false h]; rfl
theorem schemeL_long {l : List UInt8} (h : 7 ≤ l.length) : schemeL l = decide (lowL (l.take 7) = httpL) := by unfold schemeL; rw [decide_eq_true h]; rfl
theorem ext_to (s : ByteArray) (k : Nat) : (s.extract 0 k).data.toList = s.data.toList.take k := by
  rw [ByteArray.data_extract, Array.toList_extract]; rfl
set_option maxRecDepth 10000 in
theorem scheme_a (s : ByteArray) (hs : s.size ≤ 1000000) (w : World) : Calls Tryz.prog 132 #[.string s] w fun e w' => e = .returned (.bool (schemeL s.data.toList)) ∧ Mods [] w w' := by
  by_cases h7 : 7 ≤ s.size
  · have hel := ext_to s 7
    have hes := ext_le s 0 7
    obtain ⟨v, hv⟩ : ∃ v, v = s.extract 0 7 := ⟨_, rfl⟩
    rw [← hv] at hel hes
    have HV := Lib.hid hv
    have HS := Lib.hid (fun w => sameKT v ⟨#[104, 116, 116, 112, 58, 47, 47]⟩ (by omega) (by decide) w)
    have HX := Lib.hid (show schemeL s.data.toList = sameL v ⟨#[104, 116, 116, 112, 58, 47, 47]⟩ by
      rw [schemeL_long (show 7 ≤ s.data.toList.length from h7), ← hel]
      unfold sameL
      rw [show lowL (⟨#[104, 116, 116, 112, 58, 47, 47]⟩ : ByteArray).data.toList = httpL by decide +kernel])
    have c7 : (7 : Int) ≤ (s.size : Int) := by omega
    clear hel hv
    go_enter Tryz.func132, Tryz.ntmps132
    go_wp2_with (go_at_call 154; (try rw [← HV.out]); refine (HS.out _).mono ?_; rintro e w1 ⟨rfl, hm⟩; have M1 := Lib.hid hm; clear hm)
    go_ret
    exact ⟨ret_bool HX.out.symm, M1.out⟩
  · have HX := Lib.hid (schemeL_short (l := s.data.toList) h7)
    have c7 : decide ((7 : Int) ≤ (s.size : Int)) = false := by simp; omega
    go_enter Tryz.func132, Tryz.ntmps132
    go_wp2
    go_ret
    exact ⟨ret_bool HX.out.symm, Mods.refl _ _⟩
theorem text_yes {s : ByteArray} {l : List UInt8} (h : s.data.toList = l) : s.toList = l := by rw [ByteArray.toList_eq]; exact h

set_option maxRecDepth 10000 in
set_option maxHeartbeats 1000000 in
theorem tparse_a (m s : ByteArray) (w : World) (hm : m.size ≤ 1000000) (hs : s.size ≤ 900000) : Calls Tryz.prog 108 #[.string m, .string s] w (TAns w (parT m.data.toList s.data.toList)) := by
  have hlen := len_data s
  by_cases h200 : 200 < s.size
  · have HX := Lib.hid (parT_long (m := m.data.toList) (l := s.data.toList) h200)
    clear hlen
    go_enter Tryz.func108, Tryz.ntmps108
    go_wp2
    exact end_N rfl rfl rfl rfl HX.out
  · have h201 : decide (200 < s.size) = false := by simpa using h200
    have hl : ¬ 200 < s.data.toList.length := h200
    by_cases hc : m.data.toList = connectL
    · have hx := parT_con hl hc
      have e1 : (m.toList == [67, 79, 78, 78, 69, 67, 84]) = true := text_eq hc
      have HA := Lib.hid (fun w => authority_a s (by omega) w)
      unfold TAns at HA
      generalize authL s.data.toList = r at HA hx
      obtain ⟨⟨f, h, p, k⟩, n⟩ := r
      simp only [Tgt.cells] at HA
      have HX := Lib.hid hx
      clear hx hl hc hlen
      go_enter Tryz.func108, Tryz.ntmps108
      go_wp2_with (first
        | (go_at_call 129; refine (HA.out _).mono ?_; rintro e w2 ⟨rfl, hm⟩; have r2 := res_T (hm); have R2 := Lib.hid r2; obtain ⟨c0, c1, c2, c3, f0, f1, f2, f3⟩ := r2.1.facts; simp only [noT, noB] at c0 c1 c2 c3; clear hm r2))
      exact end_T rfl R2.out.1 rfl rfl rfl HX.out R2.out.2 (Nat.le_refl _)
    · have e1 : (m.toList == [67, 79, 78, 78, 69, 67, 84]) = false := text_ne hc
      by_cases ho : m.data.toList = optionsL ∧ s.data.toList = [42]
      · have HX := Lib.hid (parT_opt hl hc ho)
        have e2 : (m.toList == [79, 80, 84, 73, 79, 78, 83]) = true := text_eq ho.1
        have e3 : (s.toList == [42]) = true := text_eq ho.2
        clear hl hc ho hlen
        go_enter Tryz.func108, Tryz.ntmps108
        go_wp2
        exact end_N rfl rfl rfl rfl HX.out
      · have hopt : ((m.toList == [79, 80, 84, 73, 79, 78, 83]) = false) ∨ ((m.toList == [79, 80, 84, 73, 79, 78, 83]) = true ∧ (s.toList == [42]) = false) := by
          by_cases h1 : m.data.toList = optionsL
          · exact .inr ⟨text_eq h1, text_ne fun h2 => ho ⟨h1, h2⟩⟩
          · exact .inl (text_ne h1)
        have HS := Lib.hid (fun w => slash_a s w (by omega))
        cases hsl : slashL s.data.toList with
        | true =>
          rw [hsl] at HS
          have hx := parT_org hl hc ho hsl
          have HA := Lib.hid (fun w => origin_a s (by omega) w)
          rcases hopt with e2 | ⟨e2, e3⟩
          · unfold TAns at HA
            generalize orgF 1 noB s.data.toList = r at HA hx
            obtain ⟨⟨f, h, p, k⟩, n⟩ := r
            simp only [Tgt.cells] at HA
            have HX := Lib.hid hx
            clear hx hl hc hlen ho hsl
            go_enter Tryz.func108, Tryz.ntmps108
            go_wp2_with (first
              | (go_at_call 130; refine (HS.out _).mono ?_; rintro e w' ⟨rfl, rfl⟩)
              | (go_at_call 131; refine (HA.out _).mono ?_; rintro e w2 ⟨rfl, hm⟩; have r2 := res_T (hm); have R2 := Lib.hid r2; obtain ⟨c0, c1, c2, c3, f0, f1, f2, f3⟩ := r2.1.facts; simp only [noT, noB] at c0 c1 c2 c3; clear hm r2))
            exact end_T rfl R2.out.1 rfl rfl rfl HX.out R2.out.2 (Nat.le_refl _)
          · unfold TAns at HA
            generalize orgF 1 noB s.data.toList = r at HA hx
            obtain ⟨⟨f, h, p, k⟩, n⟩ := r
            simp only [Tgt.cells] at HA
            have HX := Lib.hid hx
            clear hx hl hc hlen ho hsl
            go_enter Tryz.func108, Tryz.ntmps108
            go_wp2_with (first
              | (go_at_call 130; refine (HS.out _).mono ?_; rintro e w' ⟨rfl, rfl⟩)
              | (go_at_call 131; refine (HA.out _).mono ?_; rintro e w2 ⟨rfl, hm⟩; have r2 := res_T (hm); have R2 := Lib.hid r2; obtain ⟨c0, c1, c2, c3, f0, f1, f2, f3⟩ := r2.1.facts; simp only [noT, noB] at c0 c1 c2 c3; clear hm r2))
            exact end_T rfl R2.out.1 rfl rfl rfl HX.out R2.out.2 (Nat.le_refl _)
        | false =>
          rw [hsl] at HS
          have HC := Lib.hid (fun w => scheme_a s (by omega) w)
          cases hsc : schemeL s.data.toList with
          | true =>
            rw [hsc] at HC
            have hx := parT_abs hl hc ho hsl hsc
            have h7 : 7 ≤ s.size := by
              rcases Nat.lt_or_ge s.size 7 with h | h
              · rw [schemeL_short (by rw [len_data]; omega)] at hsc; cases hsc
              · exact h
            have c7 : (7 : Int) ≤ (s.size : Int) := by omega
            have hvl := ext_from s 7
            have hvs := ext_le s 7 s.size
            obtain ⟨v, hv⟩ : ∃ v, v = s.extract 7 s.size := ⟨_, rfl⟩
            rw [← hv] at hvl hvs
            have HV := Lib.hid hv
            have HA := Lib.hid (fun w => absolute_a v (by omega) w)
            rw [hvl] at HA
            clear hv hvl
            rcases hopt with e2 | ⟨e2, e3⟩
            · unfold TAns at HA
              generalize absL (s.data.toList.drop 7) = r at HA hx
              obtain ⟨⟨f, h, p, k⟩, n⟩ := r
              simp only [Tgt.cells] at HA
              have HX := Lib.hid hx
              clear hx hl hc hlen ho hsl
              go_enter Tryz.func108, Tryz.ntmps108
              go_wp2_with (first
                | (go_at_call 130; refine (HS.out _).mono ?_; rintro e w' ⟨rfl, rfl⟩)
                | (go_at_call 132; refine (HC.out _).mono ?_; rintro e w1 ⟨rfl, hm⟩; have M1 := Lib.hid hm; clear hm)
                | (go_at_call 133; (try rw [← HV.out]); refine (HA.out _).mono ?_; rintro e w2 ⟨rfl, hm⟩; have r2 := res_T (M1.out.on hm); have R2 := Lib.hid r2; obtain ⟨c0, c1, c2, c3, f0, f1, f2, f3⟩ := r2.1.facts; simp only [noT, noB] at c0 c1 c2 c3; clear hm r2))
              exact end_T rfl R2.out.1 rfl rfl rfl HX.out R2.out.2 (Nat.le_refl _)
            · unfold TAns at HA
              generalize absL (s.data.toList.drop 7) = r at HA hx
              obtain ⟨⟨f, h, p, k⟩, n⟩ := r
              simp only [Tgt.cells] at HA
              have HX := Lib.hid hx
              clear hx hl hc hlen ho hsl
              go_enter Tryz.func108, Tryz.ntmps108
              go_wp2_with (first
                | (go_at_call 130; refine (HS.out _).mono ?_; rintro e w' ⟨rfl, rfl⟩)
                | (go_at_call 132; refine (HC.out _).mono ?_; rintro e w1 ⟨rfl, hm⟩; have M1 := Lib.hid hm; clear hm)
                | (go_at_call 133; (try rw [← HV.out]); refine (HA.out _).mono ?_; rintro e w2 ⟨rfl, hm⟩; have r2 := res_T (M1.out.on hm); have R2 := Lib.hid r2; obtain ⟨c0, c1, c2, c3, f0, f1, f2, f3⟩ := r2.1.facts; simp only [noT, noB] at c0 c1 c2 c3; clear hm r2))
              exact end_T rfl R2.out.1 rfl rfl rfl HX.out R2.out.2 (Nat.le_refl _)
          | false =>
            rw [hsc] at HC
            have HX := Lib.hid (parT_no hl hc ho hsl hsc)
            rcases hopt with e2 | ⟨e2, e3⟩
            · clear hl hc hlen ho hsl hsc
              go_enter Tryz.func108, Tryz.ntmps108
              go_wp2_with (first
                | (go_at_call 130; refine (HS.out _).mono ?_; rintro e w' ⟨rfl, rfl⟩)
                | (go_at_call 132; refine (HC.out _).mono ?_; rintro e w1 ⟨rfl, hm⟩; have r2 := res_T hm; have R2 := Lib.hid r2; obtain ⟨c0, c1, c2, c3, f0, f1, f2, f3⟩ := r2.1.facts; simp only [noT, noB] at c0 c1 c2 c3; clear hm r2))
              exact end_T rfl R2.out.1 rfl rfl rfl HX.out R2.out.2 (Nat.le_refl _)
            · clear hl hc hlen ho hsl hsc
              go_enter Tryz.func108, Tryz.ntmps108
              go_wp2_with (first
                | (go_at_call 130; refine (HS.out _).mono ?_; rintro e w' ⟨rfl, rfl⟩)
                | (go_at_call 132; refine (HC.out _).mono ?_; rintro e w1 ⟨rfl, hm⟩; have r2 := res_T hm; have R2 := Lib.hid r2; obtain ⟨c0, c1, c2, c3, f0, f1, f2, f3⟩ := r2.1.facts; simp only [noT, noB] at c0 c1 c2 c3; clear hm r2))
              exact end_T rfl R2.out.1 rfl rfl rfl HX.out R2.out.2 (Nat.le_refl _)
end Go.Proofs.YtgkhelbpccehcaaGreatDoor

/- Parse of the document: a path and a query. Conditions: a text of at most a million bytes. -/
namespace Go.Proofs.YtgkhelbpccehcaaGreatDoor
open Go.RowKit
set_option linter.unusedVariables false
set_option linter.unusedSimpArgs false

theorem lowerR (s : ByteArray) (hs : s.size ≤ 1000000) (w : World) : Calls Tryz.prog 99 #[.string s] w fun e w' => e = .returned (.string (ofL (lowL s.data.toList))) ∧ Mods [] w w' :=
  (lower_r s w (by omega)).mono fun e w' ⟨h1, h2⟩ => ⟨h1, .of_below h2⟩
theorem inR (m : ByteArray) (c : UInt8) (hm : m.size ≤ 1000000) (w : World) : Calls Tryz.prog 98 #[.int .u8 (c.toNat : Int), .string m] w fun e w' => e = .returned (.bool (inL m.data.toList c)) ∧ w = w' :=
  in_r c m w (by unfold maxLen; omega)
def amarks : List UInt8 := [45, 46, 95, 126, 33, 36, 38, 39, 40, 41, 42, 43, 44, 59, 61, 58, 64, 47, 37, 63]
theorem allow_r0 (c : UInt8) : allowB c = (alB c || inL amarks c) := by
  have := by_byte (fun c => allowB c == (alB c || inL amarks c)) (by decide +kernel) c
  simpa using this
set_option maxRecDepth 10000 in
theorem allowed_r (c : UInt8) (w : World) : Calls Tryz.prog 119 #[.int .u8 (c.toNat : Int)] w fun e w' => e = .returned (.bool (allowB c)) ∧ w = w' := by
  cases ha : alB c with
  | true =>
    have HX := Lib.hid (show allowB c = true by rw [allow_r0, ha]; rfl)
    have HA := Lib.hid (fun w => ha ▸ alnum_r c w)
    clear ha
    go_enter Tryz.func119, Tryz.ntmps119
    go_wp2_with (go_at_call 118; refine (HA.out _).mono ?_; rintro e w' ⟨rfl, rfl⟩)
    go_ret
    exact ⟨ret_bool HX.out.symm, rfl⟩
  | false =>
    have HX := Lib.hid (show allowB c = inL amarks c by rw [allow_r0, ha]; rfl)
    have HA := Lib.hid (fun w => ha ▸ alnum_r c w)
    have HI := Lib.hid (fun w => inR ⟨amarks.toArray⟩ c (by decide) w)
    clear ha
    go_enter Tryz.func119, Tryz.ntmps119
    go_wp2_with (first
      | (go_at_call 118; refine (HA.out _).mono ?_; rintro e w' ⟨rfl, rfl⟩)
      | (go_at_call 98; refine (HI.out _).mono ?_; rintro e w' ⟨rfl, rfl⟩))
    go_ret
    exact ⟨ret_bool HX.out.symm, rfl⟩

/-- What the document's origin answers. -/
def orgV (l : List UInt8) : ByteArray × ByteArray × Bool :=
  if l.all allowB = true then (match decL (upL (isC 63) l) with | some d => ((clnA d).1, ofL (l.drop ((upL (isC 63) l).length + 1)), (clnA d).2) | none => (noB, noB, false)) else (noB, noB, false)
theorem orgV_bad {l : List UInt8} (h : l.all allowB = false) : orgV l = (noB, noB, false) := by unfold orgV; rw [if_neg (by rw [h]; simp)]
theorem orgV_dec {l : List UInt8} (h : l.all allowB = true) (h2 : decL (upL (isC 63) l) = none) : orgV l = (noB, noB, false) := by unfold orgV; rw [if_pos h, h2]
theorem orgV_yes {l d : List UInt8} (h : l.all allowB = true) (h2 : decL (upL (isC 63) l) = some d) : orgV l = ((clnA d).1, ofL (l.drop ((upL (isC 63) l).length + 1)), (clnA d).2) := by unfold orgV; rw [if_pos h, h2]
theorem orgV_no {l : List UInt8} (h : (orgV l).2.2 = false) : orgL l = none := by
  cases ha : l.all allowB with
  | false => exact orgL_bad ha
  | true =>
    cases hd : decL (upL (isC 63) l) with
    | none => exact orgL_dec ha hd
    | some d =>
      rw [orgV_yes ha hd] at h
      cases hc : clnL d with
      | none => exact orgL_cln ha hd hc
      | some p => rw [clnA_yes hc] at h; cases h
theorem orgV_some {l : List UInt8} (h : (orgV l).2.2 = true) : orgL l = some ((orgV l).1.data.toList, (orgV l).2.1.data.toList) := by
  cases ha : l.all allowB with
  | false => rw [orgV_bad ha] at h; cases h
  | true =>
    cases hd : decL (upL (isC 63) l) with
    | none => rw [orgV_dec ha hd] at h; cases h
    | some d =>
      have e := orgV_yes ha hd
      rw [e] at h
      cases hc : clnL d with
      | none => rw [clnA_no hc] at h; cases h
      | some p => rw [e, clnA_yes hc, orgL_yes ha hd hc]; simp only [ofL_list]
theorem orgV_F {f : Int} {h : ByteArray} {l : List UInt8} (e : (orgV l).2.2 = true) : orgF f h l = (⟨f, h, (orgV l).1, (orgV l).2.1⟩, 0) := by
  rw [orgF_yes (orgV_some e), ofL_data, ofL_data]
def OAns (w : World) (l : List UInt8) (e : Ending) (w' : World) : Prop := e = .returned (.tuple #[.string (orgV l).1, .string (orgV l).2.1, .bool (orgV l).2.2]) ∧ Mods [] w w'
theorem OAns.mk' {w w' : World} {l : List UInt8} {a b : ByteArray} {c : Bool} (h : orgV l = (a, b, c)) (hm : Mods [] w w') : OAns w l (.returned (.tuple #[.string a, .string b, .bool c])) w' := by
  unfold OAns; rw [h]; exact ⟨rfl, hm⟩

set_option maxRecDepth 10000 in
set_option maxHeartbeats 1000000 in
theorem origin_r (s : ByteArray) (hs : s.size ≤ 1000000) (w : World) : Calls Tryz.prog 100 #[.string s] w (OAns w s.data.toList) := by
  have HLN := Lib.hid (len_data s)
  go_enter Tryz.func100, Tryz.ntmps100
  go_wp2
  go_loop [7] (fun i => ∃ (k : Nat), k ≤ s.size ∧ i = .int .i64 k ∧ (s.data.toList.take k).all allowB = true) (fun i => s.size - (intOf i).toNat)
  case atStart => exact ⟨0, Nat.zero_le _, rfl, rfl⟩
  case round =>
    obtain ⟨k, hk, rfl, hall⟩ := hrel
    have HA := Lib.hid hall
    clear hall
    by_cases hlt : k < s.size
    · cases hp : allowB s[k] with
      | true =>
        have HN := Lib.hid (take_all hlt HA.out hp)
        have HC := Lib.hid (fun w => hp ▸ allowed_r s[k] w)
        clear hp
        go_wp2_with (go_at_call 119; refine (HC.out _).mono ?_; rintro e w' ⟨rfl, rfl⟩)
        go_round
        case rel => exact ⟨k + 1, by omega, by go_num, HN.out⟩
        case measure => simp [intOf]; omega
      | false =>
        have HX := Lib.hid (orgV_bad (all_bad hlt hp))
        have HC := Lib.hid (fun w => hp ▸ allowed_r s[k] w)
        clear hp
        go_wp2_with (go_at_call 119; refine (HC.out _).mono ?_; rintro e w' ⟨rfl, rfl⟩)
        go_ret3
        exact OAns.mk' HX.out (Mods.refl _ _)
    · have hal := take_end hlt HA.out
      have HAL := Lib.hid hal
      clear hal HA
      go_wp2
      go_loop [5, 6, 8] (fun pa qa i => ∃ (j : Nat), j ≤ s.size ∧ i = .int .i64 j ∧ pa = .string s ∧ qa = .string ⟨#[]⟩ ∧ (s.data.toList.take j).all (fun c => !isC 63 c) = true) (fun _ _ i => s.size - (intOf i).toNat)
      case atStart => exact ⟨0, Nat.zero_le _, rfl, rfl, rfl, rfl⟩
      case round =>
        obtain ⟨j, hj, rfl, rfl, rfl, hno⟩ := hrel
        have HN := Lib.hid hno
        clear hno
        by_cases hlt2 : j < s.size
        · by_cases hc : s[j] = 63
          · have hup := upL_first (p := isC 63) hlt2 HN.out (by rw [hc]; rfl)
            have hul : (s.extract 0 j).data.toList = upL (isC 63) s.data.toList := by rw [ext_to, upL_take (isC 63) s.data.toList, hup]
            have hvl := ext_from s (j + 1)
            have hus := ext_le s 0 j
            have e1 : ((s[j].toNat : Int) == 63) = true := by rw [hc]; rfl
            have c1 : (0 : Int) ≤ (j : Int) := by omega
            have c2 : (j : Int) ≤ (s.size : Int) := by omega
            have c3 : (0 : Int) ≤ (j : Int) + 1 := by omega
            have c4 : (j : Int) + 1 ≤ (s.size : Int) := by omega
            obtain ⟨u, hu⟩ : ∃ u, u = s.extract 0 j := ⟨_, rfl⟩
            obtain ⟨v, hv⟩ : ∃ v, v = s.extract (j + 1) s.size := ⟨_, rfl⟩
            rw [← hu] at hul hus
            rw [← hv] at hvl
            have HU := Lib.hid hu
            have HV := Lib.hid hv
            have HVL := Lib.hid (show v = ofL (s.data.toList.drop ((upL (isC 63) s.data.toList).length + 1)) by rw [hup, ← hvl, ofL_data])
            have HUL := Lib.hid hul
            clear hc hup hul hvl hu hv
            have HD := Lib.hid (fun w => decode_r u (by omega) w)
            cases hd : decL u.data.toList with
            | none =>
              have HX := Lib.hid (orgV_dec HAL.out (by rw [← HUL.out]; exact hd))
              rw [decA_no hd] at HD
              clear hd
              go_wp2
              go_quiet (fail)
              rw [← HU.out, ← HV.out]
              go_wp2_with (go_at_call 120; refine (HD.out _).mono ?_; rintro e w1 ⟨rfl, hm⟩; have M1 := Lib.hid hm; clear hm)
              go_ret3
              exact OAns.mk' HX.out (((Mods.refl _ _).drewN _).on M1.out)
            | some d =>
              have hds : d.length ≤ 1000000 := by have := decL_len _ _ hd; rw [len_data] at this; omega
              have hx := orgV_yes HAL.out (by rw [← HUL.out]; exact hd)
              rw [← HVL.out] at hx
              rw [decA_yes hd] at HD
              have HCL := Lib.hid (fun w => clean_r (ofL d) (by rw [ofL_size]; exact hds) w)
              rw [ofL_list] at HCL
              generalize clnA d = cr at HCL hx
              obtain ⟨ca, cb⟩ := cr
              have HX := Lib.hid hx
              clear hd hds hx
              go_wp2
              go_quiet (fail)
              rw [← HU.out, ← HV.out]
              go_wp2_with (first
                | (go_at_call 120; refine (HD.out _).mono ?_; rintro e w1 ⟨rfl, hm⟩; have M1 := Lib.hid hm; clear hm)
                | (go_at_call 121; refine (HCL.out _).mono ?_; rintro e w2 ⟨rfl, hm⟩; have M2 := Lib.hid (M1.out.on hm); clear hm))
              go_ret3
              exact OAns.mk' HX.out (((Mods.refl _ _).drewN _).on M2.out)
          · have HN2 := Lib.hid (take_all hlt2 HN.out (show (!isC 63 s[j]) = true by unfold isC; simp [hc]))
            have e1 : ((s[j].toNat : Int) == 63) = false := by have := (b_no 63 hc).1; simpa using this
            clear hc
            go_wp2
            go_round
            case rel => exact ⟨j + 1, by omega, by go_num, rfl, rfl, HN2.out⟩
            case measure => simp [intOf]; omega
        · have hsn := take_end hlt2 HN.out
          have hup : upL (isC 63) s.data.toList = s.data.toList := upL_none hsn
          have HUL := Lib.hid hup.symm
          have HVL := Lib.hid (show (⟨#[]⟩ : ByteArray) = ofL (s.data.toList.drop ((upL (isC 63) s.data.toList).length + 1)) by rw [hup, List.drop_of_length_le (by omega)]; rfl)
          clear hsn hup
          have HD := Lib.hid (fun w => decode_r s (by omega) w)
          cases hd : decL s.data.toList with
          | none =>
            have HX := Lib.hid (orgV_dec HAL.out (by rw [← HUL.out]; exact hd))
            rw [decA_no hd] at HD
            clear hd
            go_wp2_with (go_at_call 120; refine (HD.out _).mono ?_; rintro e w1 ⟨rfl, hm⟩; have M1 := Lib.hid hm; clear hm)
            go_ret3
            exact OAns.mk' HX.out M1.out
          | some d =>
            have hds : d.length ≤ 1000000 := by have := decL_len _ _ hd; rw [len_data] at this; omega
            have hx := orgV_yes HAL.out (by rw [← HUL.out]; exact hd)
            rw [← HVL.out] at hx
            rw [decA_yes hd] at HD
            have HCL := Lib.hid (fun w => clean_r (ofL d) (by rw [ofL_size]; exact hds) w)
            rw [ofL_list] at HCL
            generalize clnA d = cr at HCL hx
            obtain ⟨ca, cb⟩ := cr
            have HX := Lib.hid hx
            clear hd hds hx
            go_wp2_with (first
              | (go_at_call 120; refine (HD.out _).mono ?_; rintro e w1 ⟨rfl, hm⟩; have M1 := Lib.hid hm; clear hm)
              | (go_at_call 121; refine (HCL.out _).mono ?_; rintro e w2 ⟨rfl, hm⟩; have M2 := Lib.hid (M1.out.on hm); clear hm))
            go_ret3
            exact OAns.mk' HX.out M2.out
end Go.Proofs.YtgkhelbpccehcaaGreatDoor
