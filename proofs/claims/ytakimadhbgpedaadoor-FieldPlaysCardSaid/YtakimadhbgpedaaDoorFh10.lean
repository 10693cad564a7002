/- Parse of the code and of the document. Conditions: a line of at most a million bytes. -/
import Derived.Test.YtakimadhbgpedaaDoorFg10
import Derived.Lib.IndexLaws
namespace Go.Proofs.YtakimadhbgpedaaDoor
open Go.RowKit
set_option linter.unusedVariables false
set_option linter.unusedSimpArgs false

/-- Where the first colon stands; -1. -/
def colon (s : ByteArray) : Int := Lib.indexByte s.data.toList 58
theorem at_list (s : ByteArray) (j : Nat) (h : j < s.size) : s.data.toList[j]? = some s[j] := by rw [List.getElem?_eq_getElem (by exact h)]; rfl
theorem colon_none {s : ByteArray} (h : ∀ j (hj : j < s.size), s[j] ≠ 58) : colon s = -1 := by
  unfold colon
  rcases Int.lt_or_le (Lib.indexByte s.data.toList 58) 0 with h1 | h1
  · have := Lib.indexByte_ge s.data.toList 58; omega
  · obtain ⟨o, ho⟩ := Int.eq_ofNat_of_zero_le h1
    have hs := (Lib.indexByte_some ho).1
    obtain ⟨hlt, e⟩ := List.getElem?_eq_some_iff.1 hs
    exact absurd e (h o hlt)
theorem colon_some {s : ByteArray} {i : Nat} (hi : i < s.size) (h : s[i] = 58) (h0 : ∀ j (hj : j < s.size), j < i → s[j] ≠ 58) : colon s = i := by
  unfold colon
  rcases Int.lt_or_le (Lib.indexByte s.data.toList 58) 0 with h1 | h1
  · have h2 := Lib.indexByte_ge s.data.toList 58
    exact absurd (by rw [at_list s i hi, h]) (Lib.indexByte_none (show Lib.indexByte s.data.toList 58 = -1 by omega) i)
  · obtain ⟨o, ho⟩ := Int.eq_ofNat_of_zero_le h1
    have hs := Lib.indexByte_some ho
    obtain ⟨hlt, e⟩ := List.getElem?_eq_some_iff.1 hs.1
    rw [ho]
    rcases Nat.lt_trichotomy o i with hoi | hoi | hoi
    · exact absurd e (h0 o hlt hoi)
    · rw [hoi]
    · exact absurd (by rw [at_list s i hi, h]) (hs.2 i hoi)
theorem colon_cases (s : ByteArray) : (colon s = -1) ∨ ∃ i : Nat, colon s = i ∧ i < s.size := by
  rcases Int.lt_or_le (colon s) 0 with h1 | h1
  · have h2 := Lib.indexByte_ge s.data.toList 58
    unfold colon at h1 ⊢
    exact .inl (by omega)
  · obtain ⟨o, ho⟩ := Int.eq_ofNat_of_zero_le h1
    obtain ⟨hlt, _⟩ := List.getElem?_eq_some_iff.1 (Lib.indexByte_some (show Lib.indexByte s.data.toList 58 = o from ho)).1
    exact .inr ⟨o, ho, hlt⟩
def fldAt (s : ByteArray) (i : Nat) : FV := (s.extract 0 i, trimA (s.extract (i + 1) s.size))
def noF : FV := (⟨#[]⟩, ⟨#[]⟩)
/-- What Parse answers. -/
def parR (s : ByteArray) : FV × Int :=
  if 256 < s.size then (noF, 9)
  else if colon s = -1 then (noF, 8)
  else if okF (fldAt s (colon s).toNat) = true then (fldAt s (colon s).toNat, 0) else (noF, 8)
theorem parR_long {s : ByteArray} (h : 256 < s.size) : parR s = (noF, 9) := by unfold parR; rw [if_pos h]
theorem parR_none {s : ByteArray} (h : ¬ 256 < s.size) (h1 : colon s = -1) : parR s = (noF, 8) := by unfold parR; rw [if_neg h, if_pos h1]
theorem parR_bad {s : ByteArray} {i : Nat} (h : ¬ 256 < s.size) (h1 : colon s = i) (h2 : okF (fldAt s i) = false) : parR s = (noF, 8) := by
  unfold parR; rw [if_neg h, if_neg (by omega), h1, Int.toNat_natCast, if_neg (by rw [h2]; simp)]
theorem parR_yes {s : ByteArray} {i : Nat} (h : ¬ 256 < s.size) (h1 : colon s = i) (h2 : okF (fldAt s i) = true) : parR s = (fldAt s i, 0) := by
  unfold parR; rw [if_neg h, if_neg (by omega), h1, Int.toNat_natCast, if_pos h2]
theorem ext_sizeF (s : ByteArray) (i j : Nat) : (s.extract i j).size ≤ s.size := by
  rw [ByteArray.size_extract]; omega
theorem fldAt_size (s : ByteArray) (i : Nat) : (fldAt s i).1.size ≤ s.size ∧ (fldAt s i).2.size ≤ s.size :=
  ⟨ext_sizeF _ _ _, Nat.le_trans (trimA_size _) (ext_sizeF _ _ _)⟩
def PAns (w : World) (s : ByteArray) (e : Ending) (w' : World) : Prop :=
  e = .returned (.tuple #[.agg #[.string (parR s).1.1, .string (parR s).1.2], .int .i64 (parR s).2]) ∧ Mods [] w w'
theorem ret_fld2 {fn : Func} {a : Act} {W : World} {R : Ending → World → Prop} {r : Nat} {x y : ByteArray} {t : TypeId} {q q2 : Tmp} {v : Value} (hres : fn.results = #[.cell q t, .tmp q2])
    (c0 : W.cell? ⟨r, 0, none⟩ = some (.string x)) (c1 : W.cell? ⟨r, 1, none⟩ = some (.string y))
    (ha : (isAgg t).run Tryd.prog W = .ok true W) (hs : (Go.sizeOf t).run Tryd.prog W = .ok 2 W)
    (h2 : a.tmps.getD q undef = .pointer (some ⟨r, 0, none⟩)) (h3 : a.tmps.getD q2 undef = v) (hd : a.defers = []) (hR : R (.returned (.tuple #[.agg #[.string x, .string y], v])) W) : bodyPost Tryd.prog fn R .ret a W := by
  refine bodyPost_ret (v := .tuple #[.agg #[.string x, .string y], v]) ?_ hd hR
  have g2 : a.tmps[q]?.getD undef = .pointer (some ⟨r, 0, none⟩) := by simpa using h2
  have g3 : a.tmps[q2]?.getD undef = v := by simpa using h3
  simp [results, hres, go_sem, g2, g3, c0, c1, ha, hs]

set_option maxRecDepth 10000 in
theorem scut_none (s : ByteArray) (h : colon s = -1) (w : World) : Calls Tryd.prog 45 #[.string s, .string { data := #[58] }] w fun e w' => e = .returned (.tuple #[.string s, .string ⟨#[]⟩, .bool false]) ∧ w = w' := by
  have HI := Lib.hid (fun w => sindex_shelf s 58 w)
  rw [show Lib.indexByte s.data.toList 58 = -1 from h] at HI
  clear h
  go_enter Tryd.func45, Tryd.ntmps45
  go_wp2_with (go_at_call 60; refine (HI.out _).mono ?_; rintro e w' ⟨rfl, rfl⟩)
  go_ret3
  exact ⟨rfl, rfl⟩
set_option maxRecDepth 10000 in
theorem scut_some (s : ByteArray) (i : Nat) (hi : i < s.size) (hs : s.size ≤ 1000000) (h : colon s = i) (w : World) : Calls Tryd.prog 45 #[.string s, .string { data := #[58] }] w fun e w' =>
    e = .returned (.tuple #[.string (s.extract 0 i), .string (s.extract (i + 1) s.size), .bool true]) ∧ Mods [] w w' := by
  have HI := Lib.hid (fun w => sindex_shelf s 58 w)
  rw [show Lib.indexByte s.data.toList 58 = i from h] at HI
  clear h
  have c1 : (0 : Int) ≤ (i : Int) := by omega
  have c2 : (i : Int) ≤ (s.size : Int) := by omega
  have c3 : (0 : Int) ≤ (i : Int) + 1 := by omega
  have c4 : (i : Int) + 1 ≤ (s.size : Int) := by omega
  go_enter Tryd.func45, Tryd.ntmps45
  go_wp2_with (go_at_call 60; refine (HI.out _).mono ?_; rintro e w' ⟨rfl, rfl⟩)
  go_quiet (fail)
  go_wp2
  go_ret3
  exact ⟨rfl, (Mods.refl _ _).drewN _⟩
theorem cut_none (s : ByteArray) (h : colon s = -1) (w : World) : Calls Tryd.prog 28 #[.string s, .string { data := #[58] }] w fun e w' => e = .returned (.tuple #[.string s, .string ⟨#[]⟩, .bool false]) ∧ Mods [] w w' := by
  have H := Lib.hid (fun w => scut_none s h w)
  clear h
  go_enter Tryd.func28, Tryd.ntmps28
  go_wp2_with (go_at_call 45; refine (H.out _).mono ?_; rintro e w' ⟨rfl, rfl⟩)
  go_ret3
  exact ⟨rfl, Mods.refl _ _⟩
theorem cut_some (s : ByteArray) (i : Nat) (hi : i < s.size) (hs : s.size ≤ 1000000) (h : colon s = i) (w : World) : Calls Tryd.prog 28 #[.string s, .string { data := #[58] }] w fun e w' =>
    e = .returned (.tuple #[.string (s.extract 0 i), .string (s.extract (i + 1) s.size), .bool true]) ∧ Mods [] w w' := by
  have H := Lib.hid (fun w => scut_some s i hi hs h w)
  clear h
  obtain ⟨x, hx⟩ : ∃ x, x = s.extract 0 i := ⟨_, rfl⟩
  obtain ⟨y, hy⟩ : ∃ y, y = s.extract (i + 1) s.size := ⟨_, rfl⟩
  rw [← hx, ← hy] at H ⊢
  clear hx hy
  go_enter Tryd.func28, Tryd.ntmps28
  go_wp2_with (go_at_call 45; refine (H.out _).mono ?_; rintro e w1 ⟨rfl, hm⟩; have M1 := Lib.hid hm; clear hm)
  go_ret3
  exact ⟨rfl, M1.out⟩
/-- The block of the result, when the world has turned by new memory alone. -/
theorem res_row {w w' : World} (h : Mods [] (w.alloc (.cells #[.string ⟨#[]⟩, .string ⟨#[]⟩] 23)) w') : Row w' w.heap.size 23 #[.string ⟨#[]⟩, .string ⟨#[]⟩] ∧ Mods [] w w' :=
  ⟨(Row.new w _ _).mods h (by simp), ((Mods.refl [] w).alloc _).trans h (fun _ h => nomatch h)⟩
theorem trim_nilK (w : World) : Calls Tryd.prog 29 #[.string { data := #[] }] w fun e w' => e = .returned (.string ⟨#[]⟩) ∧ Mods [] w w' := trimK ⟨#[]⟩ (by decide) w

set_option maxRecDepth 10000 in
set_option maxHeartbeats 1000000 in
theorem parse_a (s : ByteArray) (w : World) (hs : s.size ≤ 1000000) : Calls Tryd.prog 9 #[.string s] w (PAns w s) := by
  by_cases hl : 256 < s.size
  · have HR := Lib.hid (parR_long hl)
    go_enter Tryd.func9, Tryd.ntmps9
    go_wp2
    exact ret_fld2 rfl ((Row.new w _ _).cell 0) ((Row.new w _ _).cell 1) (Tryd.isAgg23 _) (Tryd.sizeOf23 _) rfl rfl rfl ⟨by rw [HR.out]; rfl, (Mods.refl [] w).alloc _⟩
  · rcases colon_cases s with hc | ⟨i, hc, hi⟩
    · have HR := Lib.hid (parR_none hl hc)
      have HC := Lib.hid (fun w => cut_none s hc w)
      clear hc
      go_enter Tryd.func9, Tryd.ntmps9
      go_wp2_with (first
        | (go_at_call 28; refine (HC.out _).mono ?_; rintro e w1 ⟨rfl, hm⟩; have M1 := Lib.hid hm; clear hm)
        | (go_at_call 29; refine (trim_nilK _).mono ?_; rintro e w2 ⟨rfl, hm⟩; have r2 := res_row ((M1.out.trans hm (fun _ h => nomatch h)).alloc (.cells #[.string s, .string ⟨#[]⟩] 23)); have k0 := r2.1.cell 0; have k1 := r2.1.cell 1; have f0 := r2.1.free 0; have f1 := r2.1.free 1; have R2 := Lib.hid r2; simp only [List.getElem?_toArray, List.getElem?_cons_zero, List.getElem?_cons_succ] at k0 k1; clear hm r2))
      have R3 := (R2.out.1.set 0 (.string ⟨#[]⟩)).set 1 (.string ⟨#[]⟩)
      exact ret_fld2 rfl (R3.cell 0) (R3.cell 1) (Tryd.isAgg23 _) (Tryd.sizeOf23 _) rfl rfl rfl ⟨by rw [HR.out]; rfl, (R2.out.2.setCell (.inr (Nat.le_refl _)) _).setCell (.inr (Nat.le_refl _)) _⟩
    · have HC := Lib.hid (fun w => cut_some s i hi hs hc w)
      have HT := Lib.hid (fun w => trimK (s.extract (i + 1) s.size) (Nat.le_trans (ext_sizeF _ _ _) hs) w)
      have hz := fldAt_size s i
      have HP := Lib.hid (show (s.extract 0 i, trimA (s.extract (i + 1) s.size)) = fldAt s i from rfl)
      have HB := Lib.hid (fun h2 => parR_bad hl hc h2)
      have HY := Lib.hid (fun h2 => parR_yes hl hc h2)
      rw [← HP.out] at hz HB HY
      simp only at hz
      obtain ⟨x, hx⟩ : ∃ x, x = s.extract 0 i := ⟨_, rfl⟩
      obtain ⟨y0, hy0⟩ : ∃ y, y = s.extract (i + 1) s.size := ⟨_, rfl⟩
      rw [← hx] at hz HC HB HY
      rw [← hy0] at hz HC HT HB HY
      obtain ⟨y, hy⟩ : ∃ y, y = trimA y0 := ⟨_, rfl⟩
      rw [← hy] at hz HT HB HY
      clear hx hy0 hy hc HP
      have hx1 : x.size ≤ 1000000 := Nat.le_trans hz.1 hs
      have hy1 : y.size ≤ 1000000 := Nat.le_trans hz.2 hs
      clear hz
      cases hok : okF (x, y) with
      | false =>
        have HR := Lib.hid (HB.out hok)
        have HI := Lib.hid (fun w => isfK (x, y) hok hx1 hy1 w)
        clear hok HB HY
        go_enter Tryd.func9, Tryd.ntmps9
        go_wp2_with (first
          | (go_at_call 28; refine (HC.out _).mono ?_; rintro e w1 ⟨rfl, hm⟩; have M1 := Lib.hid hm; clear hm)
          | (go_at_call 29; refine (HT.out _).mono ?_; rintro e w2 ⟨rfl, hm⟩; have M2 := Lib.hid (M1.out.trans hm (fun _ h => nomatch h)); clear hm)
          | (go_at_call 30; refine (HI.out _).mono ?_; rintro e w3 ⟨rfl, hm⟩; have r2 := res_row ((M2.out.alloc (.cells #[.string x, .string y] 23)).trans hm (fun _ h => nomatch h)); have k0 := r2.1.cell 0; have k1 := r2.1.cell 1; have f0 := r2.1.free 0; have f1 := r2.1.free 1; have R2 := Lib.hid r2; simp only [List.getElem?_toArray, List.getElem?_cons_zero, List.getElem?_cons_succ] at k0 k1; clear hm r2))
        have R3 := (R2.out.1.set 0 (.string ⟨#[]⟩)).set 1 (.string ⟨#[]⟩)
        exact ret_fld2 rfl (R3.cell 0) (R3.cell 1) (Tryd.isAgg23 _) (Tryd.sizeOf23 _) rfl rfl rfl ⟨by rw [HR.out]; rfl, (R2.out.2.setCell (.inr (Nat.le_refl _)) _).setCell (.inr (Nat.le_refl _)) _⟩
      | true =>
        have HR := Lib.hid (HY.out hok)
        have HI := Lib.hid (fun w => isfK (x, y) hok hx1 hy1 w)
        have HCP := Lib.hid (fun w => copied_a (x, y) w hx1 hy1)
        clear hok HB HY
        go_enter Tryd.func9, Tryd.ntmps9
        go_wp2_with (first
          | (go_at_call 28; refine (HC.out _).mono ?_; rintro e w1 ⟨rfl, hm⟩; have M1 := Lib.hid hm; clear hm)
          | (go_at_call 29; refine (HT.out _).mono ?_; rintro e w2 ⟨rfl, hm⟩; have M2 := Lib.hid (M1.out.trans hm (fun _ h => nomatch h)); clear hm)
          | (go_at_call 30; refine (HI.out _).mono ?_; rintro e w3 ⟨rfl, hm⟩; have M3 := Lib.hid ((M2.out.alloc (.cells #[.string x, .string y] 23)).trans hm (fun _ h => nomatch h)); have r3 := (Row.new w2 23 #[.string x, .string y]).mods hm (by simp); have b0 := r3.cell 0; have b1 := r3.cell 1; simp only [List.getElem?_toArray, List.getElem?_cons_zero, List.getElem?_cons_succ] at b0 b1; clear hm r3)
          | (go_at_call 31; refine (HCP.out _).mono ?_; rintro e w4 ⟨rfl, hm⟩; have r2 := res_row (M3.out.trans hm (fun _ h => nomatch h)); have k0 := r2.1.cell 0; have k1 := r2.1.cell 1; have f0 := r2.1.free 0; have f1 := r2.1.free 1; have R2 := Lib.hid r2; simp only [List.getElem?_toArray, List.getElem?_cons_zero, List.getElem?_cons_succ] at k0 k1; clear hm r2))
        have R3 := (R2.out.1.set 0 (.string x)).set 1 (.string y)
        exact ret_fld2 rfl (R3.cell 0) (R3.cell 1) (Tryd.isAgg23 _) (Tryd.sizeOf23 _) rfl rfl rfl ⟨by rw [HR.out]; rfl, (R2.out.2.setCell (.inr (Nat.le_refl _)) _).setCell (.inr (Nat.le_refl _)) _⟩

set_option maxRecDepth 10000 in
set_option maxHeartbeats 1000000 in
theorem parse_r (s : ByteArray) (w : World) (hs : s.size ≤ 1000000) : Calls Tryd.prog 10 #[.string s] w (PAns w s) := by
  by_cases hl : 256 < s.size
  · have HR := Lib.hid (parR_long hl)
    go_enter Tryd.func10, Tryd.ntmps10
    go_wp2
    exact ret_fld2 rfl ((Row.new w _ _).cell 0) ((Row.new w _ _).cell 1) (Tryd.isAgg23 _) (Tryd.sizeOf23 _) rfl rfl rfl ⟨by rw [HR.out]; rfl, (Mods.refl [] w).alloc _⟩
  · have HL := Lib.hid hl
    go_enter Tryd.func10, Tryd.ntmps10
    go_wp2
    clear hl
    go_loopw [4] (fun i wr => ∃ (k : Nat), k ≤ s.size ∧ i = .int .i64 k ∧ wr = w.alloc (.cells #[.string ⟨#[]⟩, .string ⟨#[]⟩] 23) ∧ ∀ j (hj : j < s.size), j < k → s[j] ≠ 58) (fun i _ => s.size - (intOf i).toNat)
    case atStart => exact ⟨0, Nat.zero_le _, rfl, rfl, fun j _ h => absurd h (Nat.not_lt_zero _)⟩
    case round =>
      obtain ⟨k, hk, rfl, rfl, hno⟩ := hrel
      have HN := Lib.hid hno
      clear hno
      by_cases hlt : k < s.size
      · by_cases h58 : s[k] = 58
        · have hc := colon_some hlt h58 HN.out
          have hb58 : ((s[k].toNat : Int) == 58) = true := by rw [h58]; rfl
          have HT := Lib.hid (fun w => trimR (s.extract (k + 1) s.size) (Nat.le_trans (ext_sizeF _ _ _) hs) w)
          have hz := fldAt_size s k
          have HP := Lib.hid (show (s.extract 0 k, trimA (s.extract (k + 1) s.size)) = fldAt s k from rfl)
          have HB := Lib.hid (fun h2 => parR_bad HL.out hc h2)
          have HY := Lib.hid (fun h2 => parR_yes HL.out hc h2)
          rw [← HP.out] at hz HB HY
          simp only at hz
          have c1 : (0 : Int) ≤ (k : Int) := by omega
          have c2 : (k : Int) ≤ (s.size : Int) := by omega
          have c3 : (0 : Int) ≤ (k : Int) + 1 := by omega
          have c4 : (k : Int) + 1 ≤ (s.size : Int) := by omega
          have hwr : IntKind.i64.wrap ((k : Int) + 1) = (k : Int) + 1 := by rw [IntKind.wrap_i64]; omega
          clear h58 hc
          go_wp2_with fail
          go_region_held3 (fun _ => True) (exact trivial) ((go_at_call 32; refine (HT.out _).mono ?_; rintro e w2 ⟨rfl, rfl⟩))
          all_goals
            obtain ⟨x, hx⟩ : ∃ x, x = s.extract 0 k := ⟨_, rfl⟩
            obtain ⟨y, hy⟩ : ∃ y, y = trimA (s.extract (k + 1) s.size) := ⟨_, rfl⟩
            rw [← hx, ← hy] at hz HB HY
            rw [← hx, ← hy]
            clear hx hy HT HP
            have hx1 : x.size ≤ 1000000 := Nat.le_trans hz.1 hs
            have hy1 : y.size ≤ 1000000 := Nat.le_trans hz.2 hs
            obtain ⟨W0, hW0⟩ : ∃ W0, W0 = ((w.alloc (.cells #[.string ⟨#[]⟩, .string ⟨#[]⟩] 23)).alloc (.cells #[.string x, .string y] 23)).drew := ⟨_, rfl⟩
            have q0 : Row W0 (w.heap.size + 1) 23 #[.string x, .string y] := by
              rw [hW0]; have := Row.new (w.alloc (.cells #[.string ⟨#[]⟩, .string ⟨#[]⟩] 23)) 23 #[.string x, .string y]; rw [World.size_alloc] at this; exact this
            have q1 := res_row (show Mods [] (w.alloc (.cells #[.string ⟨#[]⟩, .string ⟨#[]⟩] 23)) W0 by rw [hW0]; exact ((Mods.refl [] _).alloc _).drew)
            rw [← hW0]
            have a0 := q0.cell 0
            have a1 := q0.cell 1
            simp only [List.getElem?_toArray, List.getElem?_cons_zero, List.getElem?_cons_succ] at a0 a1
            have Q0 := Lib.hid q0
            have Q1 := Lib.hid q1
            clear hW0 q0 q1 hz
            cases hok : okF (x, y) with
            | false =>
              have HR := Lib.hid (HB.out hok)
              have HI := Lib.hid (fun w => isfR (x, y) hok hx1 hy1 w)
              clear hok HB HY
              go_wp2_with (go_at_call 27; refine (HI.out _).mono ?_; rintro e w3 ⟨rfl, hm⟩; have r2 := Q1.out.1.mods hm (by simp); have m2 := Q1.out.2.trans hm (fun _ h => nomatch h); have k0 := r2.cell 0; have k1 := r2.cell 1; have f0 := r2.free 0; have f1 := r2.free 1; have R2 := Lib.hid r2; have M2 := Lib.hid m2; simp only [List.getElem?_toArray, List.getElem?_cons_zero, List.getElem?_cons_succ] at k0 k1; clear hm r2 m2)
              have R3 := (R2.out.set 0 (.string ⟨#[]⟩)).set 1 (.string ⟨#[]⟩)
              exact ret_fld2 rfl (R3.cell 0) (R3.cell 1) (Tryd.isAgg23 _) (Tryd.sizeOf23 _) rfl rfl rfl ⟨by rw [HR.out]; rfl, (M2.out.setCell (.inr (Nat.le_refl _)) _).setCell (.inr (Nat.le_refl _)) _⟩
            | true =>
              have HR := Lib.hid (HY.out hok)
              have HI := Lib.hid (fun w => isfR (x, y) hok hx1 hy1 w)
              clear hok HB HY
              go_wp2_with (go_at_call 27; refine (HI.out _).mono ?_; rintro e w3 ⟨rfl, hm⟩; have r2 := Q1.out.1.mods hm (by simp); have r3 := Q0.out.mods hm (by simp); have m2 := Q1.out.2.trans hm (fun _ h => nomatch h); have k0 := r2.cell 0; have k1 := r2.cell 1; have f0 := r2.free 0; have f1 := r2.free 1; have b0 := r3.cell 0; have b1 := r3.cell 1; have R2 := Lib.hid r2; have M2 := Lib.hid m2; simp only [List.getElem?_toArray, List.getElem?_cons_zero, List.getElem?_cons_succ] at k0 k1 b0 b1; clear hm r2 r3 m2)
              have R3 := (R2.out.set 0 (.string x)).set 1 (.string y)
              exact ret_fld2 rfl (R3.cell 0) (R3.cell 1) (Tryd.isAgg23 _) (Tryd.sizeOf23 _) rfl rfl rfl ⟨by rw [HR.out]; rfl, (M2.out.setCell (.inr (Nat.le_refl _)) _).setCell (.inr (Nat.le_refl _)) _⟩
        · have hb58 : ((s[k].toNat : Int) == 58) = false := by
            rw [beq_eq_false_iff_ne]; intro e
            exact h58 (UInt8.toNat_inj.1 (by show s[k].toNat = 58; omega))
          have HNK := Lib.hid (show ∀ j (hj : j < s.size), j < k + 1 → s[j] ≠ 58 from fun j hj hjk => by
            by_cases e : j = k
            · subst e; exact h58
            · exact HN.out j hj (by omega))
          clear h58
          go_wp2
          go_roundw
          case rel => exact ⟨k + 1, by omega, by go_num, trivial, HNK.out⟩
          case measure => simp [intOf]; omega
      · have HR := Lib.hid (parR_none HL.out (colon_none fun j hj => HN.out j hj (by omega)))
        go_wp2
        exact ret_fld2 rfl ((Row.new w _ _).cell 0) ((Row.new w _ _).cell 1) (Tryd.isAgg23 _) (Tryd.sizeOf23 _) rfl rfl rfl ⟨by rw [HR.out]; rfl, (Mods.refl [] w).alloc _⟩
end Go.Proofs.YtakimadhbgpedaaDoor
