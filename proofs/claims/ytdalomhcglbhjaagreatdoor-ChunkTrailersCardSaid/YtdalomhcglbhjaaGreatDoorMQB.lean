/- Parse of the code and of the document. Conditions: a line of at most a million bytes. -/
import Derived.Test.YtdalomhcglbhjaaGreatDoorMQA
import Derived.Lib.IndexLaws
import Derived.Test.YtdalomhcglbhjaaGreatDoorLowerR
import Derived.Test.YtdalomhcglbhjaaGreatDoorTokR
import Derived.Test.YtdalomhcglbhjaaGreatDoorLiM
import Derived.Test.YtdalomhcglbhjaaGreatDoorDigits
import Derived.Test.YtdalomhcglbhjaaGreatDoorPd9
import Derived.Test.YtdalomhcglbhjaaGreatDoorGa9
import Derived.Test.YtdalomhcglbhjaaGreatDoorMem
import Derived.Maps.AppendAt
import Derived.Lib.AppendStr
namespace Go.Proofs.YtdalomhcglbhjaaGreatDoor
open Go.RowKit
set_option linter.unusedVariables false
set_option linter.unusedSimpArgs false

/-- Where the first colon stands; -1. -/
def colon (s : ByteArray) : Int := Lib.indexByte s.data.toList 58
theorem at_list (s : ByteArray) (j : Nat) (h : j < s.size) : s.data.toList[j]? = some s[j] := by rw [List.getElem?_eq_getElem (by exact h)]; rfl
theorem colon_none {s : ByteArray} (h : ∀ j (hj : j < s.size), s[j] ≠ 58) : colon s = -1 := by
  unfold colon
  rcases Int.lt_or_le (Lib.indexByte s.data.toList 58) 0 with h1 | h1
  · have := Lib.indexByte_ge s.data.toList 58; omega
  · obtain ⟨o, ho⟩ := Int.eq_ofNat_of_zero_le h1
    have hs := (Lib.indexByte_some ho).1
    obtain ⟨hlt, e⟩ := List.getElem?_eq_some_iff.1 hs
    exact absurd e (h o hlt)
theorem colon_some {s : ByteArray} {i : Nat} (hi : i < s.size) (h : s[i] = 58) (h0 : ∀ j (hj : j < s.size), j < i → s[j] ≠ 58) : colon s = i := by
  unfold colon
  rcases Int.lt_or_le (Lib.indexByte s.data.toList 58) 0 with h1 | h1
  · have h2 := Lib.indexByte_ge s.data.toList 58
    exact absurd (by rw [at_list s i hi, h]) (Lib.indexByte_none (show Lib.indexByte s.data.toList 58 = -1 by omega) i)
  · obtain ⟨o, ho⟩ := Int.eq_ofNat_of_zero_le h1
    have hs := Lib.indexByte_some ho
    obtain ⟨hlt, e⟩ := List.getElem?_eq_some_iff.1 hs.1
    rw [ho]
    rcases Nat.lt_trichotomy o i with hoi | hoi | hoi
    · exact absurd e (h0 o hlt hoi)
    · rw [hoi]
    · exact absurd (by rw [at_list s i hi, h]) (hs.2 i hoi)
theorem colon_cases (s : ByteArray) : (colon s = -1) ∨ ∃ i : Nat, colon s = i ∧ i < s.size := by
  rcases Int.lt_or_le (colon s) 0 with h1 | h1
  · have h2 := Lib.indexByte_ge s.data.toList 58
    unfold colon at h1 ⊢
    exact .inl (by omega)
  · obtain ⟨o, ho⟩ := Int.eq_ofNat_of_zero_le h1
    obtain ⟨hlt, _⟩ := List.getElem?_eq_some_iff.1 (Lib.indexByte_some (show Lib.indexByte s.data.toList 58 = o from ho)).1
    exact .inr ⟨o, ho, hlt⟩
def fldAt (s : ByteArray) (i : Nat) : FV := (s.extract 0 i, trimA (s.extract (i + 1) s.size))
def noF : FV := (⟨#[]⟩, ⟨#[]⟩)
/-- What Parse answers. -/
def parR (s : ByteArray) : FV × Int :=
  if 256 < s.size then (noF, 9)
  else if colon s = -1 then (noF, 8)
  else if okF (fldAt s (colon s).toNat) = true then (fldAt s (colon s).toNat, 0) else (noF, 8)
theorem parR_long {s : ByteArray} (h : 256 < s.size) : parR s = (noF, 9) := by unfold parR; rw [if_pos h]
theorem parR_none {s : ByteArray} (h : ¬ 256 < s.size) (h1 : colon s = -1) : parR s = (noF, 8) := by unfold parR; rw [if_neg h, if_pos h1]
theorem parR_bad {s : ByteArray} {i : Nat} (h : ¬ 256 < s.size) (h1 : colon s = i) (h2 : okF (fldAt s i) = false) : parR s = (noF, 8) := by
  unfold parR; rw [if_neg h, if_neg (by omega), h1, Int.toNat_natCast, if_neg (by rw [h2]; simp)]
theorem parR_yes {s : ByteArray} {i : Nat} (h : ¬ 256 < s.size) (h1 : colon s = i) (h2 : okF (fldAt s i) = true) : parR s = (fldAt s i, 0) := by
  unfold parR; rw [if_neg h, if_neg (by omega), h1, Int.toNat_natCast, if_pos h2]
theorem ext_sizeF (s : ByteArray) (i j : Nat) : (s.extract i j).size ≤ s.size := by
  rw [ByteArray.size_extract]; omega
theorem fldAt_size (s : ByteArray) (i : Nat) : (fldAt s i).1.size ≤ s.size ∧ (fldAt s i).2.size ≤ s.size :=
  ⟨ext_sizeF _ _ _, Nat.le_trans (trimA_size _) (ext_sizeF _ _ _)⟩
def FPAns (w : World) (s : ByteArray) (e : Ending) (w' : World) : Prop :=
  e = .returned (.tuple #[.agg #[.string (parR s).1.1, .string (parR s).1.2], .int .i64 (parR s).2]) ∧ Mods [] w w'
theorem ret_fld2 {fn : Func} {a : Act} {W : World} {R : Ending → World → Prop} {r : Nat} {x y : ByteArray} {t : TypeId} {q q2 : Tmp} {v : Value} (hres : fn.results = #[.cell q t, .tmp q2])
    (c0 : W.cell? ⟨r, 0, none⟩ = some (.string x)) (c1 : W.cell? ⟨r, 1, none⟩ = some (.string y))
    (ha : (isAgg t).run Tryz.prog W = .ok true W) (hs : (Go.sizeOf t).run Tryz.prog W = .ok 2 W)
    (h2 : a.tmps.getD q undef = .pointer (some ⟨r, 0, none⟩)) (h3 : a.tmps.getD q2 undef = v) (hd : a.defers = []) (hR : R (.returned (.tuple #[.agg #[.string x, .string y], v])) W) : bodyPost Tryz.prog fn R .ret a W := by
  refine bodyPost_ret (v := .tuple #[.agg #[.string x, .string y], v]) ?_ hd hR
  have g2 : a.tmps[q]?.getD undef = .pointer (some ⟨r, 0, none⟩) := by simpa using h2
  have g3 : a.tmps[q2]?.getD undef = v := by simpa using h3
  simp [results, hres, go_sem, g2, g3, c0, c1, ha, hs]

set_option maxRecDepth 10000 in
theorem scut_none (s : ByteArray) (h : colon s = -1) (w : World) : Calls Tryz.prog 84 #[.string s, .string { data := #[58] }] w fun e w' => e = .returned (.tuple #[.string s, .string ⟨#[]⟩, .bool false]) ∧ w = w' := by
  have HI := Lib.hid (fun w => sindex_shelf s 58 w)
  rw [show Lib.indexByte s.data.toList 58 = -1 from h] at HI
  clear h
  go_enter Tryz.func84, Tryz.ntmps84
  go_wp2_with (go_at_call 101; refine (HI.out _).mono ?_; rintro e w' ⟨rfl, rfl⟩)
  go_ret3
  exact ⟨rfl, rfl⟩
set_option maxRecDepth 10000 in
theorem scut_some (s : ByteArray) (i : Nat) (hi : i < s.size) (hs : s.size ≤ 1000000) (h : colon s = i) (w : World) : Calls Tryz.prog 84 #[.string s, .string { data := #[58] }] w fun e w' =>
    e = .returned (.tuple #[.string (s.extract 0 i), .string (s.extract (i + 1) s.size), .bool true]) ∧ Mods [] w w' := by
  have HI := Lib.hid (fun w => sindex_shelf s 58 w)
  rw [show Lib.indexByte s.data.toList 58 = i from h] at HI
  clear h
  have c1 : (0 : Int) ≤ (i : Int) := by omega
  have c2 : (i : Int) ≤ (s.size : Int) := by omega
  have c3 : (0 : Int) ≤ (i : Int) + 1 := by omega
  have c4 : (i : Int) + 1 ≤ (s.size : Int) := by omega
  go_enter Tryz.func84, Tryz.ntmps84
  go_wp2_with (go_at_call 101; refine (HI.out _).mono ?_; rintro e w' ⟨rfl, rfl⟩)
  go_quiet (fail)
  go_wp2
  go_ret3
  exact ⟨rfl, (Mods.refl _ _).drewN _⟩
theorem cut_none (s : ByteArray) (h : colon s = -1) (w : World) : Calls Tryz.prog 71 #[.string s, .string { data := #[58] }] w fun e w' => e = .returned (.tuple #[.string s, .string ⟨#[]⟩, .bool false]) ∧ Mods [] w w' := by
  have H := Lib.hid (fun w => scut_none s h w)
  clear h
  go_enter Tryz.func71, Tryz.ntmps71
  go_wp2_with (go_at_call 84; refine (H.out _).mono ?_; rintro e w' ⟨rfl, rfl⟩)
  go_ret3
  exact ⟨rfl, Mods.refl _ _⟩
theorem cut_some (s : ByteArray) (i : Nat) (hi : i < s.size) (hs : s.size ≤ 1000000) (h : colon s = i) (w : World) : Calls Tryz.prog 71 #[.string s, .string { data := #[58] }] w fun e w' =>
    e = .returned (.tuple #[.string (s.extract 0 i), .string (s.extract (i + 1) s.size), .bool true]) ∧ Mods [] w w' := by
  have H := Lib.hid (fun w => scut_some s i hi hs h w)
  clear h
  obtain ⟨x, hx⟩ : ∃ x, x = s.extract 0 i := ⟨_, rfl⟩
  obtain ⟨y, hy⟩ : ∃ y, y = s.extract (i + 1) s.size := ⟨_, rfl⟩
  rw [← hx, ← hy] at H ⊢
  clear hx hy
  go_enter Tryz.func71, Tryz.ntmps71
  go_wp2_with (go_at_call 84; refine (H.out _).mono ?_; rintro e w1 ⟨rfl, hm⟩; have M1 := Lib.hid hm; clear hm)
  go_ret3
  exact ⟨rfl, M1.out⟩
/-- The block of the result, when the world has turned by new memory alone. -/
theorem res_row {w w' : World} (h : Mods [] (w.alloc (.cells #[.string ⟨#[]⟩, .string ⟨#[]⟩] 40)) w') : Row w' w.heap.size 40 #[.string ⟨#[]⟩, .string ⟨#[]⟩] ∧ Mods [] w w' :=
  ⟨(Row.new w _ _).mods h (by simp), ((Mods.refl [] w).alloc _).trans h (fun _ h => nomatch h)⟩
theorem trim_nilK (w : World) : Calls Tryz.prog 61 #[.string { data := #[] }] w fun e w' => e = .returned (.string ⟨#[]⟩) ∧ Mods [] w w' := trimK ⟨#[]⟩ (by decide) w

set_option maxRecDepth 10000 in
set_option maxHeartbeats 1000000 in
theorem fparse_a (s : ByteArray) (w : World) (hs : s.size ≤ 1000000) : Calls Tryz.prog 53 #[.string s] w (FPAns w s) := by
  by_cases hl : 256 < s.size
  · have HR := Lib.hid (parR_long hl)
    go_enter Tryz.func53, Tryz.ntmps53
    go_wp2
    exact ret_fld2 rfl ((Row.new w _ _).cell 0) ((Row.new w _ _).cell 1) (Tryz.isAgg40 _) (Tryz.sizeOf40 _) rfl rfl rfl ⟨by rw [HR.out]; rfl, (Mods.refl [] w).alloc _⟩
  · rcases colon_cases s with hc | ⟨i, hc, hi⟩
    · have HR := Lib.hid (parR_none hl hc)
      have HC := Lib.hid (fun w => cut_none s hc w)
      clear hc
      go_enter Tryz.func53, Tryz.ntmps53
      go_wp2_with (first
        | (go_at_call 71; refine (HC.out _).mono ?_; rintro e w1 ⟨rfl, hm⟩; have M1 := Lib.hid hm; clear hm)
        | (go_at_call 61; refine (trim_nilK _).mono ?_; rintro e w2 ⟨rfl, hm⟩; have r2 := res_row ((M1.out.trans hm (fun _ h => nomatch h)).alloc (.cells #[.string s, .string ⟨#[]⟩] 40)); have k0 := r2.1.cell 0; have k1 := r2.1.cell 1; have f0 := r2.1.free 0; have f1 := r2.1.free 1; have R2 := Lib.hid r2; simp only [List.getElem?_toArray, List.getElem?_cons_zero, List.getElem?_cons_succ] at k0 k1; clear hm r2))
      have R3 := (R2.out.1.set 0 (.string ⟨#[]⟩)).set 1 (.string ⟨#[]⟩)
      exact ret_fld2 rfl (R3.cell 0) (R3.cell 1) (Tryz.isAgg40 _) (Tryz.sizeOf40 _) rfl rfl rfl ⟨by rw [HR.out]; rfl, (R2.out.2.setCell (.inr (Nat.le_refl _)) _).setCell (.inr (Nat.le_refl _)) _⟩
    · have HC := Lib.hid (fun w => cut_some s i hi hs hc w)
      have HT := Lib.hid (fun w => trimK (s.extract (i + 1) s.size) (Nat.le_trans (ext_sizeF _ _ _) hs) w)
      have hz := fldAt_size s i
      have HP := Lib.hid (show (s.extract 0 i, trimA (s.extract (i + 1) s.size)) = fldAt s i from rfl)
      have HB := Lib.hid (fun h2 => parR_bad hl hc h2)
      have HY := Lib.hid (fun h2 => parR_yes hl hc h2)
      rw [← HP.out] at hz HB HY
      simp only at hz
      obtain ⟨x, hx⟩ : ∃ x, x = s.extract 0 i := ⟨_, rfl⟩
      obtain ⟨y0, hy0⟩ : ∃ y, y = s.extract (i + 1) s.size := ⟨_, rfl⟩
      rw [← hx] at hz HC HB HY
      rw [← hy0] at hz HC HT HB HY
      obtain ⟨y, hy⟩ : ∃ y, y = trimA y0 := ⟨_, rfl⟩
      rw [← hy] at hz HT HB HY
      clear hx hy0 hy hc HP
      have hx1 : x.size ≤ 1000000 := Nat.le_trans hz.1 hs
      have hy1 : y.size ≤ 1000000 := Nat.le_trans hz.2 hs
      clear hz
      cases hok : okF (x, y) with
      | false =>
        have HR := Lib.hid (HB.out hok)
        have HI := Lib.hid (fun w => isfK (x, y) hok hx1 hy1 w)
        clear hok HB HY
        go_enter Tryz.func53, Tryz.ntmps53
        go_wp2_with (first
          | (go_at_call 71; refine (HC.out _).mono ?_; rintro e w1 ⟨rfl, hm⟩; have M1 := Lib.hid hm; clear hm)
          | (go_at_call 61; refine (HT.out _).mono ?_; rintro e w2 ⟨rfl, hm⟩; have M2 := Lib.hid (M1.out.trans hm (fun _ h => nomatch h)); clear hm)
          | (go_at_call 46; refine (HI.out _).mono ?_; rintro e w3 ⟨rfl, hm⟩; have r2 := res_row ((M2.out.alloc (.cells #[.string x, .string y] 40)).trans hm (fun _ h => nomatch h)); have k0 := r2.1.cell 0; have k1 := r2.1.cell 1; have f0 := r2.1.free 0; have f1 := r2.1.free 1; have R2 := Lib.hid r2; simp only [List.getElem?_toArray, List.getElem?_cons_zero, List.getElem?_cons_succ] at k0 k1; clear hm r2))
        have R3 := (R2.out.1.set 0 (.string ⟨#[]⟩)).set 1 (.string ⟨#[]⟩)
        exact ret_fld2 rfl (R3.cell 0) (R3.cell 1) (Tryz.isAgg40 _) (Tryz.sizeOf40 _) rfl rfl rfl ⟨by rw [HR.out]; rfl, (R2.out.2.setCell (.inr (Nat.le_refl _)) _).setCell (.inr (Nat.le_refl _)) _⟩
      | true =>
        have HR := Lib.hid (HY.out hok)
        have HI := Lib.hid (fun w => isfK (x, y) hok hx1 hy1 w)
        have HCP := Lib.hid (fun w => copied_a (x, y) w hx1 hy1)
        clear hok HB HY
        go_enter Tryz.func53, Tryz.ntmps53
        go_wp2_with (first
          | (go_at_call 71; refine (HC.out _).mono ?_; rintro e w1 ⟨rfl, hm⟩; have M1 := Lib.hid hm; clear hm)
          | (go_at_call 61; refine (HT.out _).mono ?_; rintro e w2 ⟨rfl, hm⟩; have M2 := Lib.hid (M1.out.trans hm (fun _ h => nomatch h)); clear hm)
          | (go_at_call 46; refine (HI.out _).mono ?_; rintro e w3 ⟨rfl, hm⟩; have M3 := Lib.hid ((M2.out.alloc (.cells #[.string x, .string y] 40)).trans hm (fun _ h => nomatch h)); have r3 := (Row.new w2 40 #[.string x, .string y]).mods hm (by simp); have b0 := r3.cell 0; have b1 := r3.cell 1; simp only [List.getElem?_toArray, List.getElem?_cons_zero, List.getElem?_cons_succ] at b0 b1; clear hm r3)
          | (go_at_call 34; refine (HCP.out _).mono ?_; rintro e w4 ⟨rfl, hm⟩; have r2 := res_row (M3.out.trans hm (fun _ h => nomatch h)); have k0 := r2.1.cell 0; have k1 := r2.1.cell 1; have f0 := r2.1.free 0; have f1 := r2.1.free 1; have R2 := Lib.hid r2; simp only [List.getElem?_toArray, List.getElem?_cons_zero, List.getElem?_cons_succ] at k0 k1; clear hm r2))
        have R3 := (R2.out.1.set 0 (.string x)).set 1 (.string y)
        exact ret_fld2 rfl (R3.cell 0) (R3.cell 1) (Tryz.isAgg40 _) (Tryz.sizeOf40 _) rfl rfl rfl ⟨by rw [HR.out]; rfl, (R2.out.2.setCell (.inr (Nat.le_refl _)) _).setCell (.inr (Nat.le_refl _)) _⟩

set_option maxRecDepth 10000 in
set_option maxHeartbeats 1000000 in
theorem fparse_r (s : ByteArray) (w : World) (hs : s.size ≤ 1000000) : Calls Tryz.prog 45 #[.string s] w (FPAns w s) := by
  by_cases hl : 256 < s.size
  · have HR := Lib.hid (parR_long hl)
    go_enter Tryz.func45, Tryz.ntmps45
    go_wp2
    exact ret_fld2 rfl ((Row.new w _ _).cell 0) ((Row.new w _ _).cell 1) (Tryz.isAgg40 _) (Tryz.sizeOf40 _) rfl rfl rfl ⟨by rw [HR.out]; rfl, (Mods.refl [] w).alloc _⟩
  · have HL := Lib.hid hl
    go_enter Tryz.func45, Tryz.ntmps45
    go_wp2
    clear hl
    go_loopw [4] (fun i wr => ∃ (k : Nat), k ≤ s.size ∧ i = .int .i64 k ∧ wr = w.alloc (.cells #[.string ⟨#[]⟩, .string ⟨#[]⟩] 40) ∧ ∀ j (hj : j < s.size), j < k → s[j] ≠ 58) (fun i _ => s.size - (intOf i).toNat)
    case atStart => exact ⟨0, Nat.zero_le _, rfl, rfl, fun j _ h => absurd h (Nat.not_lt_zero _)⟩
    case round =>
      obtain ⟨k, hk, rfl, rfl, hno⟩ := hrel
      have HN := Lib.hid hno
      clear hno
      by_cases hlt : k < s.size
      · by_cases h58 : s[k] = 58
        · have hc := colon_some hlt h58 HN.out
          have hb58 : ((s[k].toNat : Int) == 58) = true := by rw [h58]; rfl
          have HT := Lib.hid (fun w => trimR (s.extract (k + 1) s.size) (Nat.le_trans (ext_sizeF _ _ _) hs) w)
          have hz := fldAt_size s k
          have HP := Lib.hid (show (s.extract 0 k, trimA (s.extract (k + 1) s.size)) = fldAt s k from rfl)
          have HB := Lib.hid (fun h2 => parR_bad HL.out hc h2)
          have HY := Lib.hid (fun h2 => parR_yes HL.out hc h2)
          rw [← HP.out] at hz HB HY
          simp only at hz
          have c1 : (0 : Int) ≤ (k : Int) := by omega
          have c2 : (k : Int) ≤ (s.size : Int) := by omega
          have c3 : (0 : Int) ≤ (k : Int) + 1 := by omega
          have c4 : (k : Int) + 1 ≤ (s.size : Int) := by omega
          have hwr : IntKind.i64.wrap ((k : Int) + 1) = (k : Int) + 1 := by rw [IntKind.wrap_i64]; omega
          clear h58 hc
          go_wp2_with fail
          go_region_held3 (fun _ => True) (exact trivial) ((go_at_call 25; refine (HT.out _).mono ?_; rintro e w2 ⟨rfl, rfl⟩))
          all_goals
            obtain ⟨x, hx⟩ : ∃ x, x = s.extract 0 k := ⟨_, rfl⟩
            obtain ⟨y, hy⟩ : ∃ y, y = trimA (s.extract (k + 1) s.size) := ⟨_, rfl⟩
            rw [← hx, ← hy] at hz HB HY
            rw [← hx, ← hy]
            clear hx hy HT HP
            have hx1 : x.size ≤ 1000000 := Nat.le_trans hz.1 hs
            have hy1 : y.size ≤ 1000000 := Nat.le_trans hz.2 hs
            obtain ⟨W0, hW0⟩ : ∃ W0, W0 = ((w.alloc (.cells #[.string ⟨#[]⟩, .string ⟨#[]⟩] 40)).alloc (.cells #[.string x, .string y] 40)).drew := ⟨_, rfl⟩
            have q0 : Row W0 (w.heap.size + 1) 40 #[.string x, .string y] := by
              rw [hW0]; have := Row.new (w.alloc (.cells #[.string ⟨#[]⟩, .string ⟨#[]⟩] 40)) 40 #[.string x, .string y]; rw [World.size_alloc] at this; exact this
            have q1 := res_row (show Mods [] (w.alloc (.cells #[.string ⟨#[]⟩, .string ⟨#[]⟩] 40)) W0 by rw [hW0]; exact ((Mods.refl [] _).alloc _).drew)
            rw [← hW0]
            have a0 := q0.cell 0
            have a1 := q0.cell 1
            simp only [List.getElem?_toArray, List.getElem?_cons_zero, List.getElem?_cons_succ] at a0 a1
            have Q0 := Lib.hid q0
            have Q1 := Lib.hid q1
            clear hW0 q0 q1 hz
            cases hok : okF (x, y) with
            | false =>
              have HR := Lib.hid (HB.out hok)
              have HI := Lib.hid (fun w => isfR (x, y) hok hx1 hy1 w)
              clear hok HB HY
              go_wp2_with (go_at_call 16; refine (HI.out _).mono ?_; rintro e w3 ⟨rfl, hm⟩; have r2 := Q1.out.1.mods hm (by simp); have m2 := Q1.out.2.trans hm (fun _ h => nomatch h); have k0 := r2.cell 0; have k1 := r2.cell 1; have f0 := r2.free 0; have f1 := r2.free 1; have R2 := Lib.hid r2; have M2 := Lib.hid m2; simp only [List.getElem?_toArray, List.getElem?_cons_zero, List.getElem?_cons_succ] at k0 k1; clear hm r2 m2)
              have R3 := (R2.out.set 0 (.string ⟨#[]⟩)).set 1 (.string ⟨#[]⟩)
              exact ret_fld2 rfl (R3.cell 0) (R3.cell 1) (Tryz.isAgg40 _) (Tryz.sizeOf40 _) rfl rfl rfl ⟨by rw [HR.out]; rfl, (M2.out.setCell (.inr (Nat.le_refl _)) _).setCell (.inr (Nat.le_refl _)) _⟩
            | true =>
              have HR := Lib.hid (HY.out hok)
              have HI := Lib.hid (fun w => isfR (x, y) hok hx1 hy1 w)
              clear hok HB HY
              go_wp2_with (go_at_call 16; refine (HI.out _).mono ?_; rintro e w3 ⟨rfl, hm⟩; have r2 := Q1.out.1.mods hm (by simp); have r3 := Q0.out.mods hm (by simp); have m2 := Q1.out.2.trans hm (fun _ h => nomatch h); have k0 := r2.cell 0; have k1 := r2.cell 1; have f0 := r2.free 0; have f1 := r2.free 1; have b0 := r3.cell 0; have b1 := r3.cell 1; have R2 := Lib.hid r2; have M2 := Lib.hid m2; simp only [List.getElem?_toArray, List.getElem?_cons_zero, List.getElem?_cons_succ] at k0 k1 b0 b1; clear hm r2 r3 m2)
              have R3 := (R2.out.set 0 (.string x)).set 1 (.string y)
              exact ret_fld2 rfl (R3.cell 0) (R3.cell 1) (Tryz.isAgg40 _) (Tryz.sizeOf40 _) rfl rfl rfl ⟨by rw [HR.out]; rfl, (M2.out.setCell (.inr (Nat.le_refl _)) _).setCell (.inr (Nat.le_refl _)) _⟩
        · have hb58 : ((s[k].toNat : Int) == 58) = false := by
            rw [beq_eq_false_iff_ne]; intro e
            exact h58 (UInt8.toNat_inj.1 (by show s[k].toNat = 58; omega))
          have HNK := Lib.hid (show ∀ j (hj : j < s.size), j < k + 1 → s[j] ≠ 58 from fun j hj hjk => by
            by_cases e : j = k
            · subst e; exact h58
            · exact HN.out j hj (by omega))
          clear h58
          go_wp2
          go_roundw
          case rel => exact ⟨k + 1, by omega, by go_num, trivial, HNK.out⟩
          case measure => simp [intOf]; omega
      · have HR := Lib.hid (parR_none HL.out (colon_none fun j hj => HN.out j hj (by omega)))
        go_wp2
        exact ret_fld2 rfl ((Row.new w _ _).cell 0) ((Row.new w _ _).cell 1) (Tryz.isAgg40 _) (Tryz.sizeOf40 _) rfl rfl rfl ⟨by rw [HR.out]; rfl, (Mods.refl [] w).alloc _⟩
end Go.Proofs.YtdalomhcglbhjaaGreatDoor

/- The law's texts and fields, the document's Same, the law's known line. Conditions: as each says. -/
namespace Go.Proofs.YtdalomhcglbhjaaGreatDoor
open Go.RowKit
set_option linter.unusedVariables false
set_option linter.unusedSimpArgs false

theorem bytes_eqB {a b : ByteArray} (h : a = b) : (a.toList == b.toList) = true ∧ (a.toList != b.toList) = false := by rw [h]; simp
theorem bytes_neB {a b : ByteArray} (h : a ≠ b) : (a.toList == b.toList) = false ∧ (a.toList != b.toList) = true := by
  have := bytes_neF h
  simpa using this



theorem sameL_iff (a b : ByteArray) : sameL a b = ((⟨(lowL a.data.toList).toArray⟩ : ByteArray).toList == (⟨(lowL b.data.toList).toArray⟩ : ByteArray).toList) := by
  unfold sameL
  rw [ByteArray.toList_eq, ByteArray.toList_eq, Bool.eq_iff_iff, decide_eq_true_iff, beq_iff_eq]

def kHost : ByteArray := ⟨#[72, 111, 115, 116]⟩
def kA : ByteArray := ⟨#[97]⟩
def kB : ByteArray := ⟨#[98]⟩
def khost : ByteArray := ⟨#[104, 79, 83, 84]⟩
def khost2 : ByteArray := ⟨#[104, 111, 115, 116]⟩
theorem k1_ans : parR ⟨#[72, 111, 115, 116, 58, 32, 32, 97, 32]⟩ = ((kHost, kA), 0) := by decide +kernel
theorem k2_ans : parR ⟨#[97, 32, 98, 58, 32, 99]⟩ = (noF, 8) := by decide +kernel
theorem k3_ans : addF [] [(kHost, kA), (khost, kB)] = [(kHost, kA), (khost, kB)] := by decide +kernel
theorem k4_ans : getF [(kHost, kA), (khost, kB)] khost2 = ⟨#[97, 44, 32, 98]⟩ := by decide +kernel

theorem k1_par (w : World) : Calls Tryz.prog 53 #[.string { data := #[72, 111, 115, 116, 58, 32, 32, 97, 32] }] w fun e w' => e = .returned (.tuple #[.agg #[.string kHost, .string kA], .int .i64 0]) ∧ Mods [] w w' := by
  have h := fparse_a ⟨#[72, 111, 115, 116, 58, 32, 32, 97, 32]⟩ w (by decide)
  unfold FPAns at h
  rw [k1_ans] at h
  exact h
theorem k2_par (w : World) : Calls Tryz.prog 53 #[.string { data := #[97, 32, 98, 58, 32, 99] }] w fun e w' => e = .returned (.tuple #[.agg #[.string ⟨#[]⟩, .string ⟨#[]⟩], .int .i64 8]) ∧ Mods [] w w' := by
  have h := fparse_a ⟨#[97, 32, 98, 58, 32, 99]⟩ w (by decide)
  unfold FPAns at h
  rw [k2_ans] at h
  exact h
theorem k3_of (w : World) (b : Nat) (hb : b = w.heap.size) : Calls Tryz.prog 20 #[.slice (some ⟨b, 0, none⟩) 2 2] (w.alloc (.cells #[.string kHost, .string kA, .string khost, .string kB] 40)) fun e w' =>
    ∃ g u, e = .returned (ptr g) ∧ Fld 56 w' g u [(kHost, kA), (khost, kB)] ∧ Mods [] w w' := by
  subst hb
  have h := of_a (.slice (some ⟨w.heap.size, 0, none⟩) 2 2) [(kHost, kA), (khost, kB)] (w.alloc (.cells #[.string kHost, .string kA, .string khost, .string kB] 40)) (FsAt.new w 40 [(kHost, kA), (khost, kB)] (by decide) 2) (by decide)
    (by intro p hp; simp only [List.mem_cons, List.mem_nil_iff, or_false] at hp; rcases hp with rfl | rfl <;> decide)
  rw [k3_ans] at h
  exact h.mono fun e w' ⟨g, u, h1, h2⟩ => ⟨g, u, h1, h2.fld, ((Mods.refl [] w).alloc _).trans h2.mods (fun _ h => nomatch h)⟩
end Go.Proofs.YtdalomhcglbhjaaGreatDoor

/- Plain functions of chapter 11: hosts, percents, parts of paths, targets. No program. -/
namespace Go.Proofs.YtdalomhcglbhjaaGreatDoor
open Go.RowKit
set_option linter.unusedVariables false

/-- Bytes as a text. -/
def ofL (l : List UInt8) : ByteArray := ⟨l.toArray⟩
theorem ofL_list (l : List UInt8) : (ofL l).data.toList = l := by simp [ofL]
theorem ofL_size (l : List UInt8) : (ofL l).size = l.length := by show l.toArray.size = _; simp
theorem ofL_data (s : ByteArray) : ofL s.data.toList = s := by cases s; rfl
theorem ofL_inj {a b : List UInt8} (h : ofL a = ofL b) : a = b := by rw [← ofL_list a, h, ofL_list]
theorem bytes_ext {a b : ByteArray} (h : a.data.toList = b.data.toList) : a = b := by rw [← ofL_data a, h, ofL_data]

theorem take_len (s : ByteArray) {k : Nat} (h : k ≤ s.size) : (s.data.toList.take k).length = k := by rw [List.length_take, len_data]; omega
/-! What stands ahead of a byte. -/
/-- What stands ahead of the first byte of a kind. -/
def upL (p : UInt8 → Bool) (l : List UInt8) : List UInt8 := l.takeWhile fun c => !p c
theorem upL_nil (p : UInt8 → Bool) : upL p [] = [] := rfl
theorem upL_len (p : UInt8 → Bool) : ∀ l : List UInt8, (upL p l).length ≤ l.length
  | [] => Nat.le_refl _
  | c :: r => by
    unfold upL; rw [List.takeWhile_cons]
    split
    · have := upL_len p r; unfold upL at this; simp only [List.length_cons]; omega
    · simp
theorem upL_take (p : UInt8 → Bool) : ∀ l : List UInt8, upL p l = l.take (upL p l).length
  | [] => rfl
  | c :: r => by
    unfold upL; rw [List.takeWhile_cons]
    split
    · have := upL_take p r; unfold upL at this
      rw [List.length_cons, List.take_succ_cons, ← this]
    · simp
theorem upL_no (p : UInt8 → Bool) (l : List UInt8) : ∀ x ∈ upL p l, p x = false := by
  induction l with
  | nil => intro x h; cases h
  | cons c r ih =>
    intro x h
    unfold upL at h; rw [List.takeWhile_cons] at h
    split at h
    · rename_i hc
      rcases List.mem_cons.1 h with rfl | h
      · simpa using hc
      · exact ih x h
    · cases h
/-- Where it ends: at the end, or at such a byte. -/
theorem upL_end (p : UInt8 → Bool) : ∀ (l : List UInt8), (upL p l).length < l.length → ∃ c, l[(upL p l).length]? = some c ∧ p c = true
  | [], h => absurd h (Nat.not_lt_zero _)
  | c :: r, h => by
    by_cases hc : p c = true
    · have e : upL p (c :: r) = [] := by unfold upL; rw [List.takeWhile_cons]; simp [hc]
      rw [e]; exact ⟨c, rfl, hc⟩
    · have e : upL p (c :: r) = c :: upL p r := by unfold upL; rw [List.takeWhile_cons]; simp [hc]
      rw [e] at h ⊢
      obtain ⟨d, hd, hp⟩ := upL_end p r (by simpa using h)
      exact ⟨d, by simpa using hd, hp⟩
theorem upL_all {p : UInt8 → Bool} : ∀ {l : List UInt8}, (∀ x ∈ l, p x = false) → upL p l = l
  | [], _ => rfl
  | c :: r, h => by
    unfold upL; rw [List.takeWhile_cons, if_pos (by simp [h c (by simp)])]
    exact congrArg _ (upL_all fun x hx => h x (by simp [hx]))
theorem upL_at {p : UInt8 → Bool} {a : List UInt8} {c : UInt8} {b : List UInt8} (h : ∀ x ∈ a, p x = false) (hc : p c = true) : upL p (a ++ c :: b) = a := by
  induction a with
  | nil => unfold upL; rw [List.nil_append, List.takeWhile_cons]; simp [hc]
  | cons d r ih =>
    unfold upL; rw [List.cons_append, List.takeWhile_cons, if_pos (by simp [h d (by simp)])]
    exact congrArg _ (ih fun x hx => h x (by simp [hx]))
theorem upL_full {p : UInt8 → Bool} {l : List UInt8} : (upL p l = l) ↔ ∀ x ∈ l, p x = false :=
  ⟨fun h => h ▸ upL_no p l, upL_all⟩
theorem upL_drop (p : UInt8 → Bool) (l : List UInt8) : l = upL p l ++ l.drop (upL p l).length := by
  conv => lhs; rw [← List.take_append_drop (upL p l).length l, ← upL_take]
theorem upL_len_full {p : UInt8 → Bool} {l : List UInt8} (h : (upL p l).length = l.length) : upL p l = l := by
  have := upL_take p l; rw [h, List.take_length] at this; exact this

/-! Hosts. -/
def nameB (c : UInt8) : Bool := alB c || inL [45, 46] c
def nameL (l : List UInt8) : Bool := l.all nameB && !l.isEmpty && decide (l.length ≤ 100)
def portL (l : List UInt8) : Bool := (numB 10 15 l).2 && decide (l.length ≤ 5) && decide ((numB 10 15 l).1 ≤ 65535)
def isC (d c : UInt8) : Bool := c == d
/-- Whether a text is a host. -/
def hostL (l : List UInt8) : Bool := nameL (upL (isC 58) l) && (decide ((upL (isC 58) l).length = l.length) || portL (l.drop ((upL (isC 58) l).length + 1)))
/-- What stands ahead of the first byte that is none of a name. -/
def nmL (l : List UInt8) : List UInt8 := upL (fun c => !nameB c) l
theorem name_58 : nameB 58 = false := by decide +kernel
theorem host_split {l : List UInt8} (h : hostL l = true) : upL (isC 58) l = nmL l := by
  unfold hostL at h
  rw [Bool.and_eq_true] at h
  have hn := h.1
  unfold nameL at hn
  rw [Bool.and_eq_true, Bool.and_eq_true] at hn
  have hall := List.all_eq_true.1 hn.1.1
  rcases Nat.lt_or_ge (upL (isC 58) l).length l.length with hlt | hge
  · obtain ⟨c, hc, hp⟩ := upL_end (isC 58) l hlt
    have hd : l.drop (upL (isC 58) l).length = c :: l.drop ((upL (isC 58) l).length + 1) := by
      obtain ⟨h1, h2⟩ := List.getElem?_eq_some_iff.1 hc
      rw [List.drop_eq_getElem_cons h1, h2]
    have he : l = upL (isC 58) l ++ c :: l.drop ((upL (isC 58) l).length + 1) := by rw [← hd]; exact upL_drop _ _
    have : nmL (upL (isC 58) l ++ c :: l.drop ((upL (isC 58) l).length + 1)) = upL (isC 58) l := upL_at (fun x hx => by simp [hall x hx]) (by
      have : c = 58 := by simpa [isC] using hp
      rw [this]; simp [name_58])
    rw [← he] at this; exact this.symm
  · have := upL_len_full (p := isC 58) (l := l) (Nat.le_antisymm (upL_len _ _) hge)
    rw [this] at hall ⊢
    exact (upL_all fun x hx => by simp [hall x hx]).symm
theorem nm_name (l : List UInt8) : (nmL l).all nameB = true := by
  rw [List.all_eq_true]; intro x hx
  have := upL_no _ _ x hx
  simpa using this
theorem nm_no58 (l : List UInt8) : ∀ x ∈ nmL l, isC 58 x = false := by
  intro x hx
  have h1 := List.all_eq_true.1 (nm_name l) x hx
  cases h2 : isC 58 x with
  | false => rfl
  | true =>
    have : x = 58 := by simpa [isC] using h2
    rw [this, name_58] at h1; cases h1
theorem host_short {l : List UInt8} (h : (nmL l).length < 1 ∨ 100 < (nmL l).length) : hostL l = false := by
  cases hh : hostL l with
  | false => rfl
  | true =>
    have e := host_split hh
    unfold hostL nameL at hh
    simp only [Bool.and_eq_true, e] at hh
    obtain ⟨⟨⟨_, h1⟩, h2⟩, _⟩ := hh
    have h2 := of_decide_eq_true h2
    have h1 : nmL l ≠ [] := by simpa using h1
    have := List.length_pos_iff.2 h1
    omega
theorem host_bare {l : List UInt8} (h1 : 1 ≤ (nmL l).length) (h2 : (nmL l).length ≤ 100) (h3 : (nmL l).length = l.length) : hostL l = true := by
  have e : nmL l = l := upL_len_full h3
  have e2 : upL (isC 58) l = l := upL_all fun x hx => nm_no58 l x (by rw [e]; exact hx)
  have hall := nm_name l
  rw [e] at h1 h2 hall
  unfold hostL nameL
  rw [e2, hall, decide_eq_true h2]
  have : l.isEmpty = false := by cases l with | nil => simp at h1 | cons => rfl
  simp [this]
theorem host_else {l : List UInt8} {c : UInt8} (hc : l[(nmL l).length]? = some c) (h : c ≠ 58) : hostL l = false := by
  cases hh : hostL l with
  | false => rfl
  | true =>
    have e := host_split hh
    have hlt := (List.getElem?_eq_some_iff.1 hc).1
    obtain ⟨d, hd, hp⟩ := upL_end (isC 58) l (by rw [e]; exact hlt)
    rw [e, hc] at hd
    injection hd with hd
    have : d = 58 := by simpa [isC] using hp
    exact absurd (hd.trans this) h
theorem host_port {l : List UInt8} (h1 : 1 ≤ (nmL l).length) (h2 : (nmL l).length ≤ 100) (hc : l[(nmL l).length]? = some 58) : hostL l = portL (l.drop ((nmL l).length + 1)) := by
  obtain ⟨hlt, hat⟩ := List.getElem?_eq_some_iff.1 hc
  have hd : l.drop (nmL l).length = 58 :: l.drop ((nmL l).length + 1) := by rw [List.drop_eq_getElem_cons hlt, hat]
  have he : l = nmL l ++ 58 :: l.drop ((nmL l).length + 1) := by rw [← hd]; exact upL_drop _ _
  have e2 : upL (isC 58) l = nmL l := by
    have := upL_at (p := isC 58) (a := nmL l) (c := 58) (b := l.drop ((nmL l).length + 1)) (nm_no58 l) rfl
    rw [← he] at this; exact this
  have hall := nm_name l
  unfold hostL nameL
  rw [e2, hall, decide_eq_true h2, decide_eq_false (by omega)]
  have : (nmL l).isEmpty = false := by cases hn : nmL l with | nil => rw [hn] at h1; simp at h1 | cons => rfl
  simp [this]
theorem port_long {l : List UInt8} (h : 5 < l.length) : portL l = false := by unfold portL; rw [decide_eq_false (show ¬ l.length ≤ 5 by omega)]; simp
theorem port_short {l : List UInt8} (h : l.length ≤ 5) : portL l = ((numB 10 15 l).2 && decide ((numB 10 15 l).1 ≤ 65535)) := by unfold portL; rw [decide_eq_true h]; simp

/-! Percents. -/
/-- The byte of two digits; 0: it is none. -/
def hxB (a b : UInt8) : UInt8 := if digB a = 16 ∨ digB b = 16 then 0 else UInt8.ofNat ((digB a).toNat * 16 + (digB b).toNat)
def hexL : List UInt8 → UInt8
  | a :: b :: _ => hxB a b
  | _ => 0
/-- A text with its percents. -/
def decL : List UInt8 → Option (List UInt8)
  | [] => some []
  | [c] => if c = 37 then none else some [c]
  | [c, d] => if c = 37 then none else (decL [d]).map (c :: ·)
  | c :: a :: b :: r => if c = 37 then (if hxB a b = 0 then none else (decL r).map (hxB a b :: ·)) else (decL (a :: b :: r)).map (c :: ·)
theorem decL_nil : decL [] = some [] := by simp [decL]
theorem decL_plain {c : UInt8} {l : List UInt8} (h : c ≠ 37) : decL (c :: l) = (decL l).map (c :: ·) := by
  match l with
  | [] => simp only [decL, if_neg h, Option.map_some]
  | [d] => simp only [decL, if_neg h]
  | a :: b :: r => rw [decL, if_neg h]
theorem decL_hex {a b : UInt8} {r : List UInt8} (h : hxB a b ≠ 0) : decL (37 :: a :: b :: r) = (decL r).map (hxB a b :: ·) := by rw [decL, if_pos rfl, if_neg h]
theorem decL_bad {l : List UInt8} (h : hexL l = 0) : decL (37 :: l) = none := by
  match l with
  | [] => rw [decL, if_pos rfl]
  | [_] => rw [decL, if_pos rfl]
  | a :: b :: r => rw [decL, if_pos rfl, if_pos (show hxB a b = 0 from h)]
theorem decL_len : ∀ (l : List UInt8) (d : List UInt8), decL l = some d → d.length ≤ l.length
  | [], d, h => by simp [decL] at h; subst h; simp
  | c :: l, d, h => by
    by_cases hc : c = 37
    · subst hc
      match l, h with
      | [], h => rw [decL_bad rfl] at h; cases h
      | [_], h => rw [decL_bad rfl] at h; cases h
      | a :: b :: r, h =>
        by_cases hz : hxB a b = 0
        · rw [decL_bad (show hexL (a :: b :: r) = 0 from hz)] at h; cases h
        · rw [decL_hex hz] at h
          cases hr : decL r with
          | none => rw [hr] at h; cases h
          | some x =>
            rw [hr] at h; simp at h; subst h
            have := decL_len r x hr
            simp only [List.length_cons]; omega
    · rw [decL_plain hc] at h
      cases hr : decL l with
      | none => rw [hr] at h; cases h
      | some x =>
        rw [hr] at h; simp at h; subst h
        have := decL_len l x hr
        simp only [List.length_cons]; omega
/-- What the rest gives behind what is there. -/
def decT (acc l : List UInt8) : Option (List UInt8) := (decL l).map (acc ++ ·)
theorem decT_nil (acc : List UInt8) : decT acc [] = some acc := by simp [decT, decL_nil]
theorem decT_start (l : List UInt8) : decT [] l = decL l := by unfold decT; cases decL l <;> simp
theorem decT_plain {acc l : List UInt8} {c : UInt8} (h : c ≠ 37) : decT acc (c :: l) = decT (acc ++ [c]) l := by
  unfold decT; rw [decL_plain h]; cases decL l <;> simp
theorem decT_hex {acc r : List UInt8} {a b : UInt8} (h : hxB a b ≠ 0) : decT acc (37 :: a :: b :: r) = decT (acc ++ [hxB a b]) r := by
  unfold decT; rw [decL_hex h]; cases decL r <;> simp
theorem decT_bad {acc l : List UInt8} (h : hexL l = 0) : decT acc (37 :: l) = none := by unfold decT; rw [decL_bad h]; rfl

/-! Parts of paths. -/
def splitAt : List UInt8 → List UInt8 → List (List UInt8)
  | cur, [] => [cur]
  | cur, c :: r => if c = 47 then cur :: splitAt [] r else splitAt (cur ++ [c]) r
/-- The parts of a text, at each slash. -/
def splitS (l : List UInt8) : List (List UInt8) := splitAt [] l
/-- The parts that a slash ends. -/
def cutS : List UInt8 → List UInt8 → List (List UInt8)
  | cur, [] => []
  | cur, c :: r => if c = 47 then cur :: cutS [] r else cutS (cur ++ [c]) r
theorem cutS_split : ∀ (l cur : List UInt8), cutS cur (l ++ [47]) = splitAt cur l
  | [], cur => by simp [cutS, splitAt]
  | c :: r, cur => by
    simp only [List.cons_append, cutS, splitAt]
    by_cases h : c = 47
    · rw [if_pos h, if_pos h, cutS_split]
    · rw [if_neg h, if_neg h, cutS_split]
theorem splitAt_no : ∀ (l cur : List UInt8), (∀ x ∈ l, x ≠ 47) → splitAt cur l = [cur ++ l]
  | [], cur, _ => by simp [splitAt]
  | c :: r, cur, h => by
    simp only [splitAt]
    rw [if_neg (h c (by simp)), splitAt_no r _ (fun x hx => h x (by simp [hx]))]
    simp
theorem splitAt_at : ∀ (a b cur : List UInt8), (∀ x ∈ a, x ≠ 47) → splitAt cur (a ++ 47 :: b) = (cur ++ a) :: splitS b
  | [], b, cur, _ => by simp [splitAt, splitS]
  | c :: r, b, cur, h => by
    simp only [List.cons_append, splitAt]
    rw [if_neg (h c (by simp)), splitAt_at r b _ (fun x hx => h x (by simp [hx]))]
    simp
theorem splitS_no {l : List UInt8} (h : ∀ x ∈ l, x ≠ 47) : splitS l = [l] := splitAt_no l [] h
theorem splitS_at {a b : List UInt8} (h : ∀ x ∈ a, x ≠ 47) : splitS (a ++ 47 :: b) = a :: splitS b := splitAt_at a b [] h
theorem splitAt_ne : ∀ (l cur : List UInt8), splitAt cur l ≠ []
  | [], cur => by simp [splitAt]
  | c :: r, cur => by
    simp only [splitAt]; split
    · simp
    · exact splitAt_ne r _
theorem splitS_ne (l : List UInt8) : splitS l ≠ [] := splitAt_ne l []
/-- Whether a part never stays. -/
def dotsL (p : List UInt8) : Bool := decide (p = [] ∨ p = [46] ∨ p = [46, 46])
/-- What is left of parts; none: they lead out. -/
def clnS : List (List UInt8) → List (List UInt8) → Option (List (List UInt8))
  | st, [] => some st
  | st, p :: r => if p = [46, 46] then (if st = [] then none else clnS st.dropLast r) else if dotsL p = true then clnS st r else clnS (st ++ [p]) r
theorem clnS_nil (st : List (List UInt8)) : clnS st [] = some st := rfl
theorem clnS_out (r : List (List UInt8)) : clnS [] ([46, 46] :: r) = none := by simp [clnS]
theorem clnS_up {st : List (List UInt8)} (h : st ≠ []) (r : List (List UInt8)) : clnS st ([46, 46] :: r) = clnS st.dropLast r := by simp [clnS, h]
theorem clnS_dot {p : List UInt8} (h : p ≠ [46, 46]) (hd : dotsL p = true) (st r : List (List UInt8)) : clnS st (p :: r) = clnS st r := by simp [clnS, h, hd]
theorem clnS_part {p : List UInt8} (hd : dotsL p = false) (st r : List (List UInt8)) : clnS st (p :: r) = clnS (st ++ [p]) r := by
  have h : p ≠ [46, 46] := by intro e; subst e; revert hd; decide
  simp [clnS, h, hd]
/-- Parts, each with a slash ahead. -/
def joinS : List (List UInt8) → List UInt8
  | [] => []
  | p :: r => 47 :: p ++ joinS r
theorem joinS_snoc : ∀ (st : List (List UInt8)) (p : List UInt8), joinS (st ++ [p]) = joinS st ++ 47 :: p
  | [], p => by simp [joinS]
  | q :: r, p => by simp [joinS, joinS_snoc r p]
def lastP (ps : List (List UInt8)) : List UInt8 := ps.getLastD []
theorem lastP_cons (p : List UInt8) {r : List (List UInt8)} (h : r ≠ []) : lastP (p :: r) = lastP r := by
  unfold lastP
  cases r with
  | nil => exact absurd rfl h
  | cons q r => simp [List.getLastD]
theorem lastP_snoc (a : List (List UInt8)) (p : List UInt8) : lastP (a ++ [p]) = p := by simp [lastP]
/-- The end that a path has. -/
def tailP (p : List UInt8) : List UInt8 := if dotsL p = true then [47] else []
def slashL (l : List UInt8) : Bool := match l with | 47 :: _ => true | _ => false
/-- A path without dots. -/
def clnL (l : List UInt8) : Option (List UInt8) := if slashL l = true then (clnS [] (splitS l.tail)).map fun st => joinS st ++ tailP (lastP (splitS l.tail)) else none
theorem clnL_no {l : List UInt8} (h : slashL l = false) : clnL l = none := by unfold clnL; rw [h]; rfl
theorem clnL_yes {l : List UInt8} (h : slashL l = true) : clnL l = (clnS [] (splitS l.tail)).map fun st => joinS st ++ tailP (lastP (splitS l.tail)) := by unfold clnL; rw [if_pos h]
/-- The last part of parts that leave nothing never stays. -/
theorem clnS_last : ∀ (ps st : List (List UInt8)), clnS st ps = some [] → ps ≠ [] → dotsL (lastP ps) = true := by
  intro ps
  induction ps with
  | nil => intro st _ h; exact absurd rfl h
  | cons p r ih =>
    intro st h _
    by_cases hr : r = []
    · subst hr
      show dotsL p = true
      cases hd : dotsL p with
      | true => rfl
      | false => rw [clnS_part hd, clnS_nil] at h; simp at h
    · rw [lastP_cons p hr]
      by_cases h2 : p = [46, 46]
      · subst h2
        by_cases hs : st = []
        · subst hs; rw [clnS_out] at h; cases h
        · rw [clnS_up hs] at h; exact ih _ h hr
      · cases hd : dotsL p with
        | true => rw [clnS_dot h2 hd] at h; exact ih _ h hr
        | false => rw [clnS_part hd] at h; exact ih _ h hr
/-- What is left are ordinary parts without a slash. -/
def OrdS (st : List (List UInt8)) : Prop := ∀ p ∈ st, dotsL p = false ∧ ∀ x ∈ p, x ≠ 47
theorem OrdS.drop {st : List (List UInt8)} (h : OrdS st) : OrdS st.dropLast := fun p hp => h p (List.dropLast_subset st hp)
theorem OrdS.snoc {st : List (List UInt8)} (h : OrdS st) {p : List UInt8} (h1 : dotsL p = false) (h2 : ∀ x ∈ p, x ≠ 47) : OrdS (st ++ [p]) := fun q hq => by
  rcases List.mem_append.1 hq with hq | hq
  · exact h q hq
  · simp at hq; subst hq; exact ⟨h1, h2⟩
theorem clnS_ord : ∀ (ps st r : List (List UInt8)), OrdS st → (∀ p ∈ ps, ∀ x ∈ p, x ≠ 47) → clnS st ps = some r → OrdS r := by
  intro ps
  induction ps with
  | nil => intro st r hs _ h; simp [clnS] at h; subst h; exact hs
  | cons p q ih =>
    intro st r hs hp h
    have hq : ∀ p ∈ q, ∀ x ∈ p, x ≠ 47 := fun p' hp' => hp p' (by simp [hp'])
    by_cases h2 : p = [46, 46]
    · subst h2
      by_cases he : st = []
      · subst he; rw [clnS_out] at h; cases h
      · rw [clnS_up he] at h; exact ih _ _ hs.drop hq h
    · cases hd : dotsL p with
      | true => rw [clnS_dot h2 hd] at h; exact ih _ _ hs hq h
      | false => rw [clnS_part hd] at h; exact ih _ _ (hs.snoc hd (hp p (by simp))) hq h
theorem splitAt_parts : ∀ (l cur : List UInt8), (∀ x ∈ cur, x ≠ 47) → ∀ p ∈ splitAt cur l, ∀ x ∈ p, x ≠ 47
  | [], cur, h, p, hp => by simp [splitAt] at hp; subst hp; exact h
  | c :: r, cur, h, p, hp => by
    simp only [splitAt] at hp
    by_cases hc : c = 47
    · rw [if_pos hc] at hp
      rcases List.mem_cons.1 hp with rfl | hp
      · exact h
      · exact splitAt_parts r [] (fun x hx => by cases hx) p hp
    · rw [if_neg hc] at hp
      exact splitAt_parts r _ (fun x hx => by
        rcases List.mem_append.1 hx with hx | hx
        · exact h x hx
        · simp at hx; subst hx; exact hc) p hp
theorem splitS_parts (l : List UInt8) : ∀ p ∈ splitS l, ∀ x ∈ p, x ≠ 47 := splitAt_parts l [] (fun x hx => by cases hx)
end Go.Proofs.YtdalomhcglbhjaaGreatDoor

/- How a request goes on: plain functions of chapter 12. No program. -/
namespace Go.Proofs.YtdalomhcglbhjaaGreatDoor
open Go.RowKit
set_option linter.unusedVariables false

def nHost : ByteArray := ⟨#[72, 111, 115, 116]⟩
def nTE : ByteArray := ⟨#[84, 114, 97, 110, 115, 102, 101, 114, 45, 69, 110, 99, 111, 100, 105, 110, 103]⟩
def nCL : ByteArray := ⟨#[67, 111, 110, 116, 101, 110, 116, 45, 76, 101, 110, 103, 116, 104]⟩
def nCon : ByteArray := ⟨#[67, 111, 110, 110, 101, 99, 116, 105, 111, 110]⟩
def nExp : ByteArray := ⟨#[69, 120, 112, 101, 99, 116]⟩
def chunkedL : List UInt8 := [99, 104, 117, 110, 107, 101, 100]
def closeL : List UInt8 := [99, 108, 111, 115, 101]
def keepL : List UInt8 := [107, 101, 101, 112, 45, 97, 108, 105, 118, 101]
def contB : ByteArray := ⟨#[49, 48, 48, 45, 99, 111, 110, 116, 105, 110, 117, 101]⟩
/-- How a request goes on. -/
structure HowP where
  kind : Int
  length : Int
  close : Bool
  expect : Bool
def noH : HowP := ⟨0, 0, false, false⟩
/-- The minor version that counts. -/
def minN (m : Int) : Int := if 1 ≤ m then 1 else 0
def hostOk (m : Int) (vs : List ByteArray) : Bool :=
  match vs with
  | [] => decide (m ≠ 1)
  | [v] => decide (v.data.toList = []) || hostL v.data.toList
  | _ => false
/-- The status of a coding; 0: it is chunked alone. -/
def codS (m : Int) (cl te : List ByteArray) : Int :=
  if m = 0 ∨ cl ≠ [] then 400
  else match toksO te with
    | none => 400
    | some L => if L.getLastD [] ≠ chunkedL then 400 else if L.length = 1 then 0 else if chunkedL ∈ L.dropLast then 400 else 501
/-- The one number that some tokens are. -/
def lenN : List (List UInt8) → Option Int
  | [] => none
  | x :: r => if (numB 10 15 x).2 = true ∧ r.all (fun y => (numB 10 15 y).2 && (numB 10 15 y).1 == (numB 10 15 x).1) = true then some (numB 10 15 x).1 else none
def lenS (cl : List ByteArray) : Int × Int :=
  match toksO cl with
  | none => (0, 400)
  | some L => match lenN L with
    | none => (0, 400)
    | some n => if 2048 < n then (0, 413) else (n, 0)
/-- Kind, length, status. -/
def bodyS (m : Int) (S : List FV) : Int × Int × Int :=
  if valsF S nTE ≠ [] then (2, 0, codS m (valsF S nCL) (valsF S nTE))
  else if valsF S nCL ≠ [] then (1, (lenS (valsF S nCL)).1, (lenS (valsF S nCL)).2)
  else (0, 0, 0)
def closeS (m : Int) (con : List ByteArray) : Bool := hasL closeL con || (decide (m = 0) && !hasL keepL con)
/-- What Of answers, the minor version being 0 or 1. -/
def frmN (m : Int) (S : List FV) : HowP × Int :=
  if hostOk m (valsF S nHost) = false then (noH, 400)
  else if (bodyS m S).2.2 ≠ 0 then (noH, (bodyS m S).2.2)
  else if toksO (valsF S nCon) = none then (noH, 400)
  else if m = 1 ∧ valsF S nExp ≠ [] then
    (if sameL (getF S nExp) contB = true then (⟨(bodyS m S).1, (bodyS m S).2.1, closeS m (valsF S nCon), decide ((bodyS m S).1 = 2 ∨ 0 < (bodyS m S).2.1)⟩, 0) else (noH, 417))
  else (⟨(bodyS m S).1, (bodyS m S).2.1, closeS m (valsF S nCon), false⟩, 0)
def frm (m : Int) (S : List FV) : HowP × Int := frmN (minN m) S
theorem minN_01 (m : Int) : minN m = 0 ∨ minN m = 1 := by unfold minN; split <;> simp
theorem minN_max (m : Int) : minN m = max 0 (min 1 m) := by unfold minN; split <;> omega
theorem frm_host {m : Int} {S : List FV} (h : hostOk m (valsF S nHost) = false) : frmN m S = (noH, 400) := by unfold frmN; rw [if_pos h]
theorem frm_body {m : Int} {S : List FV} (h : hostOk m (valsF S nHost) = true) (h2 : (bodyS m S).2.2 ≠ 0) : frmN m S = (noH, (bodyS m S).2.2) := by unfold frmN; rw [if_neg (by rw [h]; simp), if_pos h2]
theorem frm_con {m : Int} {S : List FV} (h : hostOk m (valsF S nHost) = true) (h2 : (bodyS m S).2.2 = 0) (h3 : toksO (valsF S nCon) = none) : frmN m S = (noH, 400) := by
  unfold frmN; rw [if_neg (by rw [h]; simp), if_neg (by rw [h2]; simp), if_pos h3]
theorem frm_plain {m : Int} {S : List FV} (h : hostOk m (valsF S nHost) = true) (h2 : (bodyS m S).2.2 = 0) (h3 : toksO (valsF S nCon) ≠ none) (h4 : ¬ (m = 1 ∧ valsF S nExp ≠ [])) :
    frmN m S = (⟨(bodyS m S).1, (bodyS m S).2.1, closeS m (valsF S nCon), false⟩, 0) := by
  unfold frmN; rw [if_neg (by rw [h]; simp), if_neg (by rw [h2]; simp), if_neg h3, if_neg h4]
theorem frm_417 {m : Int} {S : List FV} (h : hostOk m (valsF S nHost) = true) (h2 : (bodyS m S).2.2 = 0) (h3 : toksO (valsF S nCon) ≠ none) (h4 : m = 1 ∧ valsF S nExp ≠ []) (h5 : sameL (getF S nExp) contB = false) : frmN m S = (noH, 417) := by
  unfold frmN; rw [if_neg (by rw [h]; simp), if_neg (by rw [h2]; simp), if_neg h3, if_pos h4, if_neg (by rw [h5]; simp)]
theorem frm_exp {m : Int} {S : List FV} (h : hostOk m (valsF S nHost) = true) (h2 : (bodyS m S).2.2 = 0) (h3 : toksO (valsF S nCon) ≠ none) (h4 : m = 1 ∧ valsF S nExp ≠ []) (h5 : sameL (getF S nExp) contB = true) :
    frmN m S = (⟨(bodyS m S).1, (bodyS m S).2.1, closeS m (valsF S nCon), decide ((bodyS m S).1 = 2 ∨ 0 < (bodyS m S).2.1)⟩, 0) := by
  unfold frmN; rw [if_neg (by rw [h]; simp), if_neg (by rw [h2]; simp), if_neg h3, if_pos h4, if_pos h5]

/-! Fields of one name. -/
def oneN (n : ByteArray) (vs : List ByteArray) : List FV := vs.map fun v => (n, v)
theorem vals_one (n x : ByteArray) (vs : List ByteArray) : valsF (oneN n vs) x = if sameL n x = true then vs else [] := by
  unfold valsF namedF oneN
  by_cases h : sameL n x = true
  · rw [if_pos h]
    induction vs with
    | nil => rfl
    | cons v r ih => simp only [List.map_cons, List.filter_cons, h, if_true]; rw [ih]
  · rw [if_neg h]
    induction vs with
    | nil => rfl
    | cons v r ih => simp only [List.map_cons, List.filter_cons, h]; exact ih
theorem vals_app (S T : List FV) (x : ByteArray) : valsF (S ++ T) x = valsF S x ++ valsF T x := by
  unfold valsF namedF; rw [List.filter_append, List.map_append]
end Go.Proofs.YtdalomhcglbhjaaGreatDoor

/- Hosts and words of Connection, as chapter 12's laws make them. No program. -/
namespace Go.Proofs.YtdalomhcglbhjaaGreatDoor
open Go.RowKit
set_option linter.unusedVariables false

/-! Hosts. -/
def kHOST : ByteArray := ⟨#[104, 79, 83, 84]⟩
def allH (k : Nat) : ByteArray := if k = 0 then ⟨#[97]⟩ else if k = 1 then ⟨#[65, 46, 98, 58, 56, 48]⟩ else if k = 2 then ⟨#[]⟩ else if k = 3 then ⟨#[97, 32, 98]⟩ else if k = 4 then ⟨#[97, 58]⟩ else ⟨#[97, 47]⟩
theorem host_one : ∀ k : Fin 6, (decide ((allH k.1).data.toList = []) || hostL (allH k.1).data.toList) = decide (k.1 < 3) := by decide +kernel
theorem h_same : sameL kHOST nHost = true ∧ sameL kHOST nTE = false ∧ sameL kHOST nCL = false ∧ sameL kHOST nCon = false ∧ sameL kHOST nExp = false := by decide +kernel
theorem toks_nil : toksO [] = some [] := by decide +kernel
theorem close_nil (m : Int) : closeS m [] = decide (m = 0) := by unfold closeS hasL; rw [toks_nil]; simp
theorem hosts_law (m : Int) (ks : List Nat) (hk : ∀ k ∈ ks, k < 6) :
    frmN m (oneN kHOST (ks.map allH)) = if 1 < ks.length ∨ ks.any (fun k => decide (3 ≤ k)) = true ∨ (ks = [] ∧ m = 1) then (noH, 400) else (⟨0, 0, decide (m = 0), false⟩, 0) := by
  obtain ⟨s1, s2, s3, s4, s5⟩ := h_same
  have v1 := vals_one kHOST nHost (ks.map allH)
  have v2 := vals_one kHOST nTE (ks.map allH)
  have v3 := vals_one kHOST nCL (ks.map allH)
  have v4 := vals_one kHOST nCon (ks.map allH)
  have v5 := vals_one kHOST nExp (ks.map allH)
  rw [s1, if_pos rfl] at v1
  rw [s2, if_neg (by simp)] at v2
  rw [s3, if_neg (by simp)] at v3
  rw [s4, if_neg (by simp)] at v4
  rw [s5, if_neg (by simp)] at v5
  have hb : bodyS m (oneN kHOST (ks.map allH)) = (0, 0, 0) := by unfold bodyS; rw [v2, v3]; simp
  have good : hostOk m (ks.map allH) = true → frmN m (oneN kHOST (ks.map allH)) = (⟨0, 0, decide (m = 0), false⟩, 0) := fun h => by
    rw [frm_plain (by rw [v1]; exact h) (by rw [hb]) (by rw [v4, toks_nil]; simp) (by rw [v5]; simp), hb, v4, close_nil]
  have bad : hostOk m (ks.map allH) = false → frmN m (oneN kHOST (ks.map allH)) = (noH, 400) := fun h => frm_host (by rw [v1]; exact h)
  match ks, hk with
  | [], _ =>
    by_cases hm : m = 1
    · rw [if_pos (.inr (.inr ⟨rfl, hm⟩))]
      exact bad (by show decide (m ≠ 1) = false; simp [hm])
    · have hno : ¬ (1 < ([] : List Nat).length ∨ ([] : List Nat).any (fun k => decide (3 ≤ k)) = true ∨ (([] : List Nat) = [] ∧ m = 1)) := by
        rintro (h | h | h)
        · simp at h
        · simp at h
        · exact hm h.2
      rw [if_neg hno]
      exact good (by show decide (m ≠ 1) = true; simp [hm])
  | [k], hk =>
    have hk6 := hk k (by simp)
    have h1 := host_one ⟨k, hk6⟩
    by_cases h3 : 3 ≤ k
    · rw [if_pos (.inr (.inl (by simp [h3])))]
      exact bad (h1.trans (by simp; omega))
    · have hno : ¬ (1 < [k].length ∨ [k].any (fun k => decide (3 ≤ k)) = true ∨ ([k] = [] ∧ m = 1)) := by
        rintro (h | h | h)
        · simp at h
        · simp at h; omega
        · simp at h
      rw [if_neg hno]
      exact good (h1.trans (by simp; omega))
  | k :: j :: r, _ =>
    rw [if_pos (.inl (by simp))]
    exact bad rfl

/-! Words of Connection. -/
def allW (k : Nat) : ByteArray := if k = 0 then ⟨#[99, 108, 111, 115, 101]⟩ else if k = 1 then ⟨#[67, 76, 79, 83, 69]⟩ else if k = 2 then ⟨#[107, 101, 101, 112, 45, 97, 108, 105, 118, 101]⟩ else if k = 3 then ⟨#[75, 101, 101, 112, 45, 65, 108, 105, 118, 101]⟩ else if k = 4 then ⟨#[120]⟩ else ⟨#[]⟩
def tokW (k : Nat) : List (List UInt8) := if k < 2 then [closeL] else if k < 4 then [keepL] else if k = 4 then [[120]] else []
theorem word_one : ∀ k : Fin 6, tokO (splitC (allW k.1).data.toList) = some (tokW k.1) := by decide +kernel
theorem word_close : ∀ k : Fin 6, (tokW k.1).any (fun x => x == lowL closeL) = decide (k.1 < 2) := by decide +kernel
theorem word_keep : ∀ k : Fin 6, (tokW k.1).any (fun x => x == lowL keepL) = decide (k.1 = 2 ∨ k.1 = 3) := by decide +kernel
theorem words_toks : ∀ ks : List Nat, (∀ k ∈ ks, k < 6) → toksO (ks.map allW) = some (ks.flatMap tokW)
  | [], _ => toks_nil
  | k :: r, h => by
    have ih := words_toks r (fun x hx => h x (by simp [hx]))
    have h1 := word_one ⟨k, h k (by simp)⟩
    unfold toksO partsO at ih ⊢
    rw [List.map_cons, List.flatMap_cons, tokO_append, h1, ih]
    simp
theorem any_flat (p : List UInt8 → Bool) (q : Nat → Bool) : ∀ ks : List Nat, (∀ k ∈ ks, (tokW k).any p = q k) → (ks.flatMap tokW).any p = ks.any q
  | [], _ => rfl
  | k :: r, h => by
    rw [List.flatMap_cons, List.any_append, List.any_cons, h k (by simp), any_flat p q r (fun x hx => h x (by simp [hx]))]
theorem close_words (m : Int) (ks : List Nat) (hk : ∀ k ∈ ks, k < 6) :
    closeS m (ks.map allW) = (ks.any (fun k => decide (k < 2)) || (decide (m = 0) && !ks.any (fun k => decide (k = 2 ∨ k = 3)))) := by
  unfold closeS hasL
  rw [words_toks ks hk]
  simp only
  rw [any_flat _ (fun k => decide (k < 2)) ks (fun k h => word_close ⟨k, hk k h⟩), any_flat _ (fun k => decide (k = 2 ∨ k = 3)) ks (fun k h => word_keep ⟨k, hk k h⟩)]
def hostA : FV := (nHost, ⟨#[97]⟩)
theorem n_same : sameL nHost nHost = true ∧ sameL nHost nTE = false ∧ sameL nHost nCL = false ∧ sameL nHost nCon = false ∧ sameL nHost nExp = false := by decide +kernel
theorem c_same : sameL nCon nHost = false ∧ sameL nCon nTE = false ∧ sameL nCon nCL = false ∧ sameL nCon nCon = true ∧ sameL nCon nExp = false := by decide +kernel
theorem closes_law (m : Int) (ks : List Nat) (hk : ∀ k ∈ ks, k < 6) :
    frmN m (oneN nHost [⟨#[97]⟩] ++ oneN nCon (ks.map allW)) = (⟨0, 0, ks.any (fun k => decide (k < 2)) || (decide (m = 0) && !ks.any (fun k => decide (k = 2 ∨ k = 3))), false⟩, 0) := by
  obtain ⟨s1, s2, s3, s4, s5⟩ := n_same
  obtain ⟨t1, t2, t3, t4, t5⟩ := c_same
  have v1 : valsF (oneN nHost [⟨#[97]⟩] ++ oneN nCon (ks.map allW)) nHost = [⟨#[97]⟩] := by rw [vals_app, vals_one, vals_one, s1, t1]; simp
  have v2 : valsF (oneN nHost [⟨#[97]⟩] ++ oneN nCon (ks.map allW)) nTE = [] := by rw [vals_app, vals_one, vals_one, s2, t2]; simp
  have v3 : valsF (oneN nHost [⟨#[97]⟩] ++ oneN nCon (ks.map allW)) nCL = [] := by rw [vals_app, vals_one, vals_one, s3, t3]; simp
  have v4 : valsF (oneN nHost [⟨#[97]⟩] ++ oneN nCon (ks.map allW)) nCon = ks.map allW := by rw [vals_app, vals_one, vals_one, s4, t4]; simp
  have v5 : valsF (oneN nHost [⟨#[97]⟩] ++ oneN nCon (ks.map allW)) nExp = [] := by rw [vals_app, vals_one, vals_one, s5, t5]; simp
  have hb : bodyS m (oneN nHost [⟨#[97]⟩] ++ oneN nCon (ks.map allW)) = (0, 0, 0) := by unfold bodyS; rw [v2, v3]; simp
  rw [frm_plain (by rw [v1]; exact host_one ⟨0, by decide⟩) (by rw [hb]) (by rw [v4, words_toks ks hk]; simp) (by rw [v5]; simp), hb, v4, close_words m ks hk]
end Go.Proofs.YtdalomhcglbhjaaGreatDoor

/- Lengths, as chapter 12's laws make them. No program. -/
namespace Go.Proofs.YtdalomhcglbhjaaGreatDoor
open Go.RowKit
set_option linter.unusedVariables false

def isD (c : UInt8) : Bool := decide (48 ≤ c.toNat) && decide (c.toNat ≤ 57)
theorem dgt_d (d : Nat) (h : d < 10) : isD (dgt d) = true := by
  have := List.all_eq_true.1 (show (List.range 10).all (fun d => isD (dgt d)) = true by decide +kernel) d (by rw [List.mem_range]; exact h)
  exact this
theorem digs_d (u : Nat) : (digs 10 u).all isD = true := by
  induction u using Nat.strongRecOn with
  | ind u ih =>
    by_cases h : u < 10
    · rw [digs_low h]; simp [dgt_d u h]
    · rw [digs_high (by omega) (by decide), List.all_append, ih (u / 10) (by omega)]; simp [dgt_d (u % 10) (by omega)]
theorem d_tok (c : UInt8) (h : isD c = true) : tokB c = true := by
  have := by_byte (fun c => !isD c || tokB c) (by decide +kernel) c
  rw [h] at this; simpa using this
theorem d_low (c : UInt8) (h : isD c = true) : lowB c = c := by
  have := by_byte (fun c => !isD c || lowB c == c) (by decide +kernel) c
  rw [h] at this; simpa using this
theorem d_44 (c : UInt8) (h : isD c = true) : c ≠ 44 := by rintro rfl; revert h; decide
theorem d_lowL {l : List UInt8} (h : l.all isD = true) : lowL l = l := by
  unfold lowL
  have := List.all_eq_true.1 h
  induction l with
  | nil => rfl
  | cons c r ih => rw [List.map_cons, d_low c (this c (by simp)), ih (by rw [List.all_cons, Bool.and_eq_true] at h; exact h.2) (fun x hx => this x (by simp [hx]))]
theorem d_tokL {l : List UInt8} (h : l.all isD = true) (h0 : l ≠ []) : tokL l = true := by
  unfold tokL
  rw [show l.all tokB = true from List.all_eq_true.2 fun x hx => d_tok x (List.all_eq_true.1 h x hx)]
  cases l with
  | nil => exact absurd rfl h0
  | cons c r => rfl
theorem d_split {l : List UInt8} (h : l.all isD = true) : splitC l = [l] := by
  show splitAcc [] l = _
  rw [splitAcc_no l [] (fun x hx => d_44 x (List.all_eq_true.1 h x hx))]; rfl
theorem d_blk (c : UInt8) (h : isD c = true) : blk c = false := by
  have := by_byte (fun c => !isD c || !blk c) (by decide +kernel) c
  rw [h] at this; simpa using this
theorem d_trim {l : List UInt8} (h : l.all isD = true) (h0 : l ≠ []) : trimL l = l := by
  rw [trimL_eq]
  have h1 : tlL l = l := by
    cases l with
    | nil => rfl
    | cons c r => exact tl_cons_no (d_blk c (List.all_eq_true.1 h c (by simp)))
  rw [h1]
  have e := List.dropLast_concat_getLast h0
  rw [← e]
  exact trL_snoc_no _ _ (d_blk _ (List.all_eq_true.1 h _ (List.getLast_mem h0)))
def decB (n : Nat) : ByteArray := ofL (digs 10 n)
theorem dec_tok (n : Nat) : tokO (splitC (decB n).data.toList) = some [digs 10 n] := by
  have h := digs_d n
  have h0 := digs_pos 10 n
  unfold decB
  rw [ofL_list, d_split h, tokO_one]
  unfold tokP
  rw [d_trim h h0, if_neg h0, if_pos (d_tokL h h0), d_lowL h]
theorem dec_toks : ∀ ns : List Nat, toksO (ns.map decB) = some (ns.map fun n => digs 10 n)
  | [] => toks_nil
  | n :: r => by
    have ih := dec_toks r
    unfold toksO partsO at ih ⊢
    rw [List.map_cons, List.flatMap_cons, tokO_append, dec_tok, ih]
    rfl
theorem dec_num (n : Nat) (h : n ≤ 4095) : numB 10 15 (digs 10 n) = ((n : Int), true) := numB_digs 10 (by decide) (by decide) 14 n (Nat.lt_of_le_of_lt h (by decide))
theorem dec_lenN (n : Nat) (r : List Nat) (hn : ∀ x ∈ n :: r, x ≤ 4095) : lenN ((n :: r).map fun n => digs 10 n) = if r.all (fun x => decide (x = n)) = true then some (n : Int) else none := by
  have h0 := dec_num n (hn n (by simp))
  have ha : (r.map fun n => digs 10 n).all (fun y => (numB 10 15 y).2 && (numB 10 15 y).1 == (numB 10 15 (digs 10 n)).1) = r.all (fun x => decide (x = n)) := by
    rw [List.all_map, h0]
    have hr : ∀ x ∈ r, x ≤ 4095 := fun x hx => hn x (by simp [hx])
    clear hn h0
    induction r with
    | nil => rfl
    | cons x r ih =>
      rw [List.all_cons, List.all_cons, ih (fun y hy => hr y (by simp [hy]))]
      congr 1
      show ((numB 10 15 (digs 10 x)).2 && (numB 10 15 (digs 10 x)).1 == (n : Int)) = _
      rw [dec_num x (hr x (by simp))]
      simp only [Bool.true_and]
      rw [Bool.eq_iff_iff, beq_iff_eq, decide_eq_true_iff]
      omega
  rw [List.map_cons]
  simp only [lenN]
  rw [ha, h0]
  simp
theorem lenS_none {cl : List ByteArray} {L : List (List UInt8)} (h : toksO cl = some L) (h2 : lenN L = none) : lenS cl = (0, 400) := by unfold lenS; rw [h]; simp only; rw [h2]
theorem lenS_some {cl : List ByteArray} {L : List (List UInt8)} {n : Int} (h : toksO cl = some L) (h2 : lenN L = some n) : lenS cl = if 2048 < n then (0, 413) else (n, 0) := by unfold lenS; rw [h]; simp only; rw [h2]
def chunkedB : ByteArray := ⟨#[99, 104, 117, 110, 107, 101, 100]⟩
theorem te_toks : toksO [chunkedB] = some [chunkedL] := by decide +kernel
theorem l_same : sameL nCL nHost = false ∧ sameL nCL nTE = false ∧ sameL nCL nCL = true ∧ sameL nCL nCon = false ∧ sameL nCL nExp = false := by decide +kernel
theorem e_same : sameL nTE nHost = false ∧ sameL nTE nTE = true ∧ sameL nTE nCL = false ∧ sameL nTE nCon = false ∧ sameL nTE nExp = false := by decide +kernel
/-- The fields of the law on lengths. -/
def lenF (ns : List Nat) (te : List ByteArray) : List FV := oneN nHost [⟨#[97]⟩] ++ oneN nCL (ns.map decB) ++ oneN nTE te
theorem len_vals (ns : List Nat) (te : List ByteArray) : valsF (lenF ns te) nHost = [⟨#[97]⟩] ∧ valsF (lenF ns te) nTE = te ∧ valsF (lenF ns te) nCL = ns.map decB ∧ valsF (lenF ns te) nCon = [] ∧ valsF (lenF ns te) nExp = [] := by
  obtain ⟨s1, s2, s3, s4, s5⟩ := n_same
  obtain ⟨t1, t2, t3, t4, t5⟩ := l_same
  obtain ⟨u1, u2, u3, u4, u5⟩ := e_same
  unfold lenF
  refine ⟨?_, ?_, ?_, ?_, ?_⟩
  · rw [vals_app, vals_app, vals_one, vals_one, vals_one, s1, t1, u1]; simp
  · rw [vals_app, vals_app, vals_one, vals_one, vals_one, s2, t2, u2]; simp
  · rw [vals_app, vals_app, vals_one, vals_one, vals_one, s3, t3, u3]; simp
  · rw [vals_app, vals_app, vals_one, vals_one, vals_one, s4, t4, u4]; simp
  · rw [vals_app, vals_app, vals_one, vals_one, vals_one, s5, t5, u5]; simp
theorem host_a1 (m : Int) : hostOk m [⟨#[97]⟩] = true := host_one ⟨0, by decide⟩
/-- What the document asks of lengths: the status, the kind, the length. -/
def lenR (m : Int) (ns : List Nat) (coded : Bool) : HowP × Int :=
  if coded = true then (if ns ≠ [] ∨ m = 0 then (noH, 400) else (⟨2, 0, decide (m = 0), false⟩, 0))
  else match ns with
    | [] => (⟨0, 0, decide (m = 0), false⟩, 0)
    | n :: r => if r.all (fun x => decide (x = n)) = true then (if 2048 < (n : Int) then (noH, 413) else (⟨1, n, decide (m = 0), false⟩, 0)) else (noH, 400)
theorem lengths_law (m : Int) (ns : List Nat) (coded : Bool) (hn : ∀ n ∈ ns, n ≤ 4095) : frmN m (lenF ns (if coded = true then [chunkedB] else [])) = lenR m ns coded := by
  obtain ⟨v1, v2, v3, v4, v5⟩ := len_vals ns (if coded = true then [chunkedB] else [])
  have hh : hostOk m (valsF (lenF ns (if coded = true then [chunkedB] else [])) nHost) = true := by rw [v1]; exact host_a1 m
  have ht : toksO (valsF (lenF ns (if coded = true then [chunkedB] else [])) nCon) ≠ none := by rw [v4, toks_nil]; simp
  have hx : ¬ (m = 1 ∧ valsF (lenF ns (if coded = true then [chunkedB] else [])) nExp ≠ []) := by rw [v5]; simp
  have fin : ∀ k l, bodyS m (lenF ns (if coded = true then [chunkedB] else [])) = (k, l, 0) → frmN m (lenF ns (if coded = true then [chunkedB] else [])) = (⟨k, l, decide (m = 0), false⟩, 0) := fun k l h => by
    rw [frm_plain hh (by rw [h]) ht hx, h, v4, close_nil]
  have bad : ∀ k l s, s ≠ 0 → bodyS m (lenF ns (if coded = true then [chunkedB] else [])) = (k, l, s) → frmN m (lenF ns (if coded = true then [chunkedB] else [])) = (noH, s) := fun k l s hs h => by
    rw [frm_body hh (by rw [h]; exact hs), h]
  unfold lenR
  cases coded with
  | true =>
    rw [if_pos rfl]
    have hb : bodyS m (lenF ns (if true = true then [chunkedB] else [])) = (2, 0, codS m (ns.map decB) [chunkedB]) := by
      unfold bodyS; rw [v2, v3]; simp
    by_cases hc : ns ≠ [] ∨ m = 0
    · rw [if_pos hc]
      refine bad 2 0 400 (by decide) ?_
      rw [hb]; unfold codS
      rw [if_pos (by rcases hc with h | h; exact .inr (by simpa using h); exact .inl h)]
    · rw [if_neg hc]
      have h1 : ns = [] := Classical.byContradiction fun h => hc (.inl h)
      have h2 : ¬ m = 0 := fun h => hc (.inr h)
      refine fin 2 0 ?_
      rw [hb]; unfold codS
      rw [if_neg (by rw [h1]; simp [h2]), te_toks]
      rfl
  | false =>
    rw [if_neg (by simp)]
    cases ns with
    | nil => exact fin 0 0 (by unfold bodyS; rw [v2, v3]; simp)
    | cons n r =>
      have hb : bodyS m (lenF (n :: r) (if false = true then [chunkedB] else [])) = (1, (lenS ((n :: r).map decB)).1, (lenS ((n :: r).map decB)).2) := by
        unfold bodyS; rw [v2, v3]; simp
      have hq := dec_lenN n r hn
      by_cases hs : r.all (fun x => decide (x = n)) = true
      · rw [if_pos hs] at hq
        have hl := lenS_some (dec_toks (n :: r)) hq
        simp only [hs, if_true]
        by_cases hm : 2048 < (n : Int)
        · rw [if_pos hm] at hl
          rw [if_pos hm]
          exact bad 1 0 413 (by decide) (by rw [hb, hl])
        · rw [if_neg hm] at hl
          rw [if_neg hm]
          exact fin 1 n (by rw [hb, hl])
      · rw [if_neg hs] at hq
        have hl := lenS_none (dec_toks (n :: r)) hq
        simp only [hs]
        exact bad 1 0 400 (by decide) (by rw [hb, hl])
end Go.Proofs.YtdalomhcglbhjaaGreatDoor

/- A field that is written as a line with a colon and blanks is parsed as it is. No program but for what Parse answers. -/
namespace Go.Proofs.YtdalomhcglbhjaaGreatDoor
open Go.RowKit
set_option linter.unusedVariables false
set_option linter.unusedSimpArgs false

theorem bytes_injL {a b : ByteArray} (h : a.data.toList = b.data.toList) : a = b := by
  cases a with | mk a => cases b with | mk b => congr 1; exact Array.toList_inj.1 h
def spL (n : Nat) : ByteArray := ⟨Array.replicate n 32⟩
theorem spL_size (n : Nat) : (spL n).size = n := by show (Array.replicate n (32 : UInt8)).size = n; simp
theorem app_listL (a b : ByteArray) : (a ++ b).data.toList = a.data.toList ++ b.data.toList := by simp [ByteArray.data_append]
theorem app_sizeL (a b : ByteArray) : (a ++ b).size = a.size + b.size := by
  have := congrArg List.length (app_listL a b)
  rw [List.length_append] at this; exact this
theorem tl_spL (n : Nat) (l : List UInt8) : tlL (List.replicate n 32 ++ l) = tlL l := by
  induction n with
  | zero => rfl
  | succ n ih => rw [List.replicate_succ, List.cons_append, tl_cons_yes (by decide), ih]
theorem trim_aheadL (s : ByteArray) (k : Nat) : trimA (spL k ++ s) = trimA s := by
  apply bytes_injL
  show trimL (spL k ++ s).data.toList = trimL s.data.toList
  rw [app_listL, trimL_eq, trimL_eq]
  have e1 : (spL k).data.toList = List.replicate k 32 := by simp [spL]
  rw [e1, tl_spL]
theorem colon_tokL {l : List UInt8} (h : tokL l = true) : (58 : UInt8) ∉ l := by
  intro hm
  unfold tokL at h
  rw [Bool.and_eq_true] at h
  have := List.all_eq_true.1 h.1 58 hm
  revert this
  decide +kernel
/-- The line. -/
def lineK (n v : ByteArray) (k : Nat) : ByteArray := n ++ (⟨#[58]⟩ ++ spL k) ++ v
theorem lineK_size (n v : ByteArray) (k : Nat) : (lineK n v k).size = n.size + (1 + k) + v.size := by
  unfold lineK; rw [app_sizeL, app_sizeL, app_sizeL, spL_size]; rfl
theorem lineK_list (n v : ByteArray) (k : Nat) : (lineK n v k).data.toList = n.data.toList ++ 58 :: (spL k ++ v).data.toList := by
  unfold lineK; simp only [app_listL, List.append_assoc]; rfl
theorem get_listL (s : ByteArray) (j : Nat) (h : j < s.size) : s[j] = s.data.toList[j]'(by exact h) := rfl
theorem lineK_colon {n v : ByteArray} (k : Nat) (h : tokL n.data.toList = true) : colon (lineK n v k) = n.size := by
  have hl : n.data.toList.length = n.size := rfl
  refine colon_some (by rw [lineK_size]; omega) ?_ (fun j hj hjn => ?_)
  · rw [get_listL]
    simp only [lineK_list]
    rw [List.getElem_append_right (by omega)]; simp [hl]
  · rw [get_listL]
    simp only [lineK_list]
    rw [List.getElem_append_left (by omega)]
    intro he
    exact colon_tokL h (he ▸ List.getElem_mem _)
theorem lineK_fld {n v : ByteArray} (k : Nat) (h : okF (n, v) = true) : fldAt (lineK n v k) n.size = (n, v) := by
  have hv : trimA v = v := by
    unfold okF at h
    rw [Bool.and_eq_true] at h
    exact of_decide_eq_true h.2
  have hl : n.data.toList.length = n.size := rfl
  unfold fldAt
  have e1 : (lineK n v k).extract 0 n.size = n := by
    apply bytes_injL
    rw [ByteArray.data_extract, Array.toList_extract, List.extract_eq_take_drop]
    simp only [Nat.sub_zero, List.drop_zero]
    rw [lineK_list, ← hl, List.take_left]
  have e2 : (lineK n v k).extract (n.size + 1) (lineK n v k).size = spL k ++ v := by
    apply bytes_injL
    rw [ByteArray.data_extract, Array.toList_extract, List.extract_eq_take_drop]
    have hz : (lineK n v k).size = (lineK n v k).data.toList.length := rfl
    rw [List.take_of_length_le (by rw [List.length_drop, ← hz]; omega), lineK_list, ← hl, List.drop_append]
    simp
  rw [e1, e2, trim_aheadL, hv]
theorem lineK_par {n v : ByteArray} (k : Nat) (h : okF (n, v) = true) (hs : (lineK n v k).size ≤ 256) : parR (lineK n v k) = ((n, v), 0) := by
  have ht : tokL n.data.toList = true := by
    unfold okF at h
    rw [Bool.and_eq_true, Bool.and_eq_true] at h
    exact h.1.1
  have hf := lineK_fld k h
  rw [parR_yes (i := n.size) (by omega) (lineK_colon k ht) (by rw [hf]; exact h), hf]
end Go.Proofs.YtdalomhcglbhjaaGreatDoor

/- A body in chunks, byte by byte: plain functions of chapter 14. No program but for what Parse answers. -/
namespace Go.Proofs.YtdalomhcglbhjaaGreatDoor
open Go.RowKit
set_option linter.unusedVariables false
set_option linter.unusedSimpArgs false

/-- Where a reader is: 0 a size line, 1 data, 2 what stands behind data, 3 a trailer. -/
structure ChP where
  state : Nat
  line : List UInt8
  left : Nat
  ends : Nat
  body : List UInt8
  trail : List FV
  whole : Bool
  status : Int
def newC : ChP := ⟨0, [], 0, 0, [], [], false, 0⟩
def isHx (c : UInt8) : Bool := decide (digB c < 16)
def hxs (s : List UInt8) : List UInt8 := s.takeWhile isHx
def hxn (s : List UInt8) : Nat := (numB 16 12 (hxs s)).1.toNat
/-- A size line. -/
def sizeP (r : ChP) (s : List UInt8) : ChP :=
  if (hxs s).length < 1 ∨ 6 < (hxs s).length then { r with status := 400 }
  else if parsL (s.drop (hxs s).length) = none then { r with status := 400 }
  else if 2048 < r.body.length + hxn s then { r with status := 413 }
  else if hxn s = 0 then { r with state := 3 }
  else { r with state := 1, left := hxn s }
/-- A trailer, or the empty line. -/
def trailP (r : ChP) (s : List UInt8) : ChP :=
  if s = [] then { r with whole := true }
  else if (parR (ofL s)).2 ≠ 0 then { r with status := 400 }
  else if r.trail.length = 8 ∨ 512 < r.ends + (s.length + 2) then { r with status := 431 }
  else { r with ends := r.ends + (s.length + 2), trail := r.trail ++ [(parR (ofL s)).1] }
def dataP (r : ChP) (c : UInt8) : ChP := { r with body := r.body ++ [c], left := r.left - 1, state := if r.left = 1 then 2 else 1, line := if r.left = 1 then [] else r.line }
def crlfP (r : ChP) (c : UInt8) : ChP :=
  if r.line = [] then (if c = 13 then { r with line := [13] } else { r with status := 400 })
  else (if c = 10 then { r with line := [], state := 0 } else { r with status := 400 })
/-- The bytes of a line that count. -/
def cntL (l : List UInt8) (c : UInt8) : Nat := if c = 13 then l.length else l.length + 1
def endP (r : ChP) : ChP :=
  if r.line.getLast? = some 13 then (if r.state = 0 then sizeP { r with line := [] } r.line.dropLast else trailP { r with line := [] } r.line.dropLast) else { r with status := 400 }
def growP (r : ChP) (c : UInt8) : ChP :=
  if r.state = 0 ∧ 64 < cntL r.line c then { r with status := 400 }
  else if r.state ≠ 0 ∧ (256 < cntL r.line c ∨ 512 < r.ends + cntL r.line c) then { r with status := 431 }
  else { r with line := r.line ++ [c] }
def oneP (r : ChP) (c : UInt8) : ChP :=
  if r.state = 1 then dataP r c else if r.state = 2 then crlfP r c else if c = 10 then endP r else growP r c
def doneC (r : ChP) : Bool := r.whole || decide (r.status ≠ 0)
/-- What a reader is behind bytes; how many it took. -/
def feedP : ChP → List UInt8 → ChP × Nat
  | r, [] => (r, 0)
  | r, c :: l => if doneC r = true then (r, 0) else ((feedP (oneP r c) l).1, (feedP (oneP r c) l).2 + 1)
theorem feed_nil (r : ChP) : feedP r [] = (r, 0) := rfl
theorem feed_done {r : ChP} (h : doneC r = true) : ∀ l, feedP r l = (r, 0)
  | [] => rfl
  | c :: l => by rw [feedP, if_pos h]
theorem feed_cons {r : ChP} (h : doneC r = false) (c : UInt8) (l : List UInt8) : feedP r (c :: l) = ((feedP (oneP r c) l).1, (feedP (oneP r c) l).2 + 1) := by rw [feedP, if_neg (by rw [h]; simp)]
theorem feed_le : ∀ (l : List UInt8) (r : ChP), (feedP r l).2 ≤ l.length
  | [], r => Nat.le_refl _
  | c :: l, r => by
    cases h : doneC r with
    | true => rw [feed_done h]; exact Nat.zero_le _
    | false => rw [feed_cons h]; have := feed_le l (oneP r c); simp only [List.length_cons]; omega
/-- Fewer bytes are taken than there are just where it was whole or refused. -/
theorem feed_lt : ∀ (l : List UInt8) (r : ChP), (feedP r l).2 < l.length → doneC (feedP r l).1 = true
  | [], r, h => absurd h (Nat.lt_irrefl _)
  | c :: l, r, h => by
    cases hd : doneC r with
    | true => rw [feed_done hd]; exact hd
    | false =>
      rw [feed_cons hd] at h ⊢
      exact feed_lt l (oneP r c) (by simp only [List.length_cons] at h; omega)
/-- However the bytes are parted. -/
theorem feed_app : ∀ (a b : List UInt8) (r : ChP), feedP r (a ++ b) = ((feedP (feedP r a).1 b).1, (feedP r a).2 + (feedP (feedP r a).1 b).2)
  | [], b, r => by rw [feed_nil, List.nil_append, Nat.zero_add]
  | c :: a, b, r => by
    cases h : doneC r with
    | true => rw [feed_done h, feed_done h]; show (r, 0) = ((feedP r b).1, 0 + (feedP r b).2); rw [feed_done h]; rfl
    | false =>
      rw [List.cons_append, feed_cons h, feed_cons h, feed_app a b (oneP r c)]
      show ((feedP (feedP (oneP r c) a).1 b).1, (feedP (oneP r c) a).2 + (feedP (feedP (oneP r c) a).1 b).2 + 1) = ((feedP (feedP (oneP r c) a).1 b).1, (feedP (oneP r c) a).2 + 1 + (feedP (feedP (oneP r c) a).1 b).2)
      congr 1
      omega
theorem feed_cut (a b : List UInt8) (r : ChP) : (feedP r (a ++ b)).1 = (feedP (feedP r a).1 b).1 := by rw [feed_app]

/-! Ways that end nowhere. -/
/-- All of some bytes are taken, and the reader goes on. -/
def Goes (r : ChP) (l : List UInt8) (r' : ChP) : Prop := feedP r l = (r', l.length)
theorem Goes.nil (r : ChP) : Goes r [] r := rfl
theorem Goes.cons {r r' : ChP} {c : UInt8} {l : List UInt8} (h : doneC r = false) (hl : Goes (oneP r c) l r') : Goes r (c :: l) r' := by
  unfold Goes at *
  rw [feed_cons h, hl]; rfl
theorem Goes.app {r r1 r2 : ChP} {a b : List UInt8} (h1 : Goes r a r1) (h2 : Goes r1 b r2) : Goes r (a ++ b) r2 := by
  unfold Goes at *
  rw [feed_app, h1, List.length_append]
  show ((feedP r1 b).1, a.length + (feedP r1 b).2) = _
  rw [h2]
theorem Goes.more {r r1 : ChP} {a : List UInt8} (h : Goes r a r1) (b : List UInt8) : feedP r (a ++ b) = ((feedP r1 b).1, a.length + (feedP r1 b).2) := by
  rw [feed_app]
  unfold Goes at h
  rw [h]
theorem Goes.done {r r1 : ChP} {a : List UInt8} (h : Goes r a r1) (hd : doneC r1 = true) (b : List UInt8) : feedP r (a ++ b) = (r1, a.length) := by
  rw [h.more, feed_done hd]; rfl

/-! Data. -/
theorem data_goes {r : ChP} : ∀ (p : List UInt8) (b : List UInt8) (ln : List UInt8), p ≠ [] → r.whole = false → r.status = 0 →
    Goes { r with state := 1, left := p.length, body := b, line := ln } p { r with state := 2, left := 0, body := b ++ p, line := [] }
  | [], _, _, h, _, _ => absurd rfl h
  | [c], b, ln, _, h1, h2 => by
    refine Goes.cons (by unfold doneC; simp [h1, h2]) ?_
    exact Goes.nil _
  | c :: d :: p, b, ln, _, h1, h2 => by
    refine Goes.cons (by unfold doneC; simp [h1, h2]) ?_
    have ih := data_goes (r := r) (d :: p) (b ++ [c]) ln (by simp) h1 h2
    rw [List.append_assoc] at ih
    have e : oneP { r with state := 1, left := (c :: d :: p).length, body := b, line := ln } c = { r with state := 1, left := (d :: p).length, body := b ++ [c], line := ln } := by
      unfold oneP
      rw [if_pos rfl]
      unfold dataP
      simp
    rw [e]
    exact ih
theorem crlf_goes {r : ChP} (h1 : r.whole = false) (h2 : r.status = 0) : Goes { r with state := 2, line := [] } [13, 10] { r with state := 0, line := [] } := by
  refine Goes.cons (by unfold doneC; simp [h1, h2]) (Goes.cons ?_ ?_)
  · show doneC { r with state := 2, line := [13] } = false
    unfold doneC; simp [h1, h2]
  · exact Goes.nil _

/-! Lines. -/
/-- Bytes without an end of line, fewer than may be. -/
theorem line_goes {r : ChP} (hs : r.state = 0 ∨ r.state = 3) (h1 : r.whole = false) (h2 : r.status = 0) : ∀ (l ln : List UInt8), (∀ x ∈ l, x ≠ 10) →
    (r.state = 0 → ln.length + l.length ≤ 64) → (r.state = 3 → ln.length + l.length ≤ 256 ∧ r.ends + (ln.length + l.length) ≤ 512) →
    Goes { r with line := ln } l { r with line := ln ++ l }
  | [], ln, _, _, _ => by rw [List.append_nil]; exact Goes.nil _
  | c :: l, ln, h, h64, h256 => by
    refine Goes.cons (by unfold doneC; simp [h1, h2]) ?_
    have hc : cntL ln c ≤ ln.length + 1 := by unfold cntL; split <;> omega
    have e : oneP { r with line := ln } c = { r with line := ln ++ [c] } := by
      unfold oneP
      have hn := h c (by simp)
      rcases hs with hs | hs
      · have := h64 hs
        simp only [List.length_cons] at this
        rw [if_neg (by show ¬ r.state = 1; omega), if_neg (by show ¬ r.state = 2; omega), if_neg hn]
        unfold growP
        rw [if_neg (by rintro ⟨_, h⟩; exact absurd h (by show ¬ 64 < cntL ln c; omega)), if_neg (by rintro ⟨h, _⟩; exact h hs)]
      · have := h256 hs
        simp only [List.length_cons] at this
        rw [if_neg (by show ¬ r.state = 1; omega), if_neg (by show ¬ r.state = 2; omega), if_neg hn]
        unfold growP
        rw [if_neg (by rintro ⟨h, _⟩; exact absurd (hs.symm.trans h) (by decide)), if_neg]
        rintro ⟨_, h | h⟩
        · exact absurd h (by show ¬ 256 < cntL ln c; omega)
        · exact absurd h (by show ¬ 512 < r.ends + cntL ln c; omega)
    rw [e]
    have ih := line_goes hs h1 h2 l (ln ++ [c]) (fun x hx => h x (by simp [hx])) (fun hz => by have := h64 hz; simp only [List.length_cons, List.length_append, List.length_nil] at *; omega) (fun hz => by have := h256 hz; simp only [List.length_cons, List.length_append, List.length_nil] at *; omega)
    rw [List.append_assoc] at ih
    exact ih
/-- A carriage return counts for nothing yet. -/
theorem cr_goes {r : ChP} (hs : r.state = 0 ∨ r.state = 3) (h1 : r.whole = false) (h2 : r.status = 0) (h64 : r.state = 0 → r.line.length ≤ 64) (h256 : r.state = 3 → r.line.length ≤ 256 ∧ r.ends + r.line.length ≤ 512) : Goes r [13] { r with line := r.line ++ [13] } := by
  refine Goes.cons (by unfold doneC; simp [h1, h2]) ?_
  have e : oneP r 13 = { r with line := r.line ++ [13] } := by
    unfold oneP
    rw [if_neg (by omega), if_neg (by omega), if_neg (by decide)]
    unfold growP
    have hc : cntL r.line 13 = r.line.length := by unfold cntL; rw [if_pos rfl]
    rw [hc]
    rw [if_neg (by rintro ⟨h, h3⟩; have := h64 h; omega), if_neg]
    rintro ⟨h, h3⟩
    rcases hs with hs | hs
    · exact h hs
    · have := h256 hs; omega
  rw [e]
  exact Goes.nil _
theorem lf_goes {r : ChP} {l : List UInt8} (hs : r.state = 0 ∨ r.state = 3) (h1 : r.whole = false) (h2 : r.status = 0) : Goes { r with line := l ++ [13] } [10] (if r.state = 0 then sizeP { r with line := [] } l else trailP { r with line := [] } l) := by
  refine Goes.cons (by unfold doneC; simp [h1, h2]) ?_
  have e : oneP { r with line := l ++ [13] } 10 = if r.state = 0 then sizeP { r with line := [] } l else trailP { r with line := [] } l := by
    unfold oneP
    rw [if_neg (by show ¬ r.state = 1; omega), if_neg (by show ¬ r.state = 2; omega), if_pos rfl]
    unfold endP
    rw [if_pos (by show (l ++ [13]).getLast? = some 13; simp)]
    show (if r.state = 0 then sizeP _ (l ++ [13]).dropLast else trailP _ (l ++ [13]).dropLast) = _
    rw [List.dropLast_concat]
  rw [e]
  exact Goes.nil _
/-- A whole line. -/
theorem whole_line {r : ChP} {l : List UInt8} (hs : r.state = 0 ∨ r.state = 3) (h1 : r.whole = false) (h2 : r.status = 0) (hl : r.line = []) (h10 : ∀ x ∈ l, x ≠ 10) (h64 : r.state = 0 → l.length ≤ 64) (h256 : r.state = 3 → l.length ≤ 256 ∧ r.ends + l.length ≤ 512) :
    Goes r (l ++ [13, 10]) (if r.state = 0 then sizeP r l else trailP r l) := by
  have e0 : r = { r with line := [] } := by cases r; simp only at hl; rw [hl]
  have g1 : Goes r l { r with line := l } := by
    have h := line_goes hs h1 h2 l [] h10 (by simpa using h64) (by simpa using h256)
    rw [List.nil_append, ← e0] at h
    exact h
  have g2 := cr_goes (r := { r with line := l }) hs h1 h2 h64 h256
  have g3 := lf_goes (r := r) (l := l) hs h1 h2
  rw [← e0] at g3
  have g4 := (g1.app g2).app g3
  rw [List.append_assoc] at g4
  exact g4
end Go.Proofs.YtdalomhcglbhjaaGreatDoor

/- Rows of bytes: read wherever they begin, and an object's own. No text of the program. -/
namespace Go.Proofs.YtdalomhcglbhjaaGreatDoor
open Go.RowKit
set_option linter.unusedVariables false
set_option linter.unusedSimpArgs false

/-- Bytes lie behind a slice, wherever it begins. -/
def BsAt (W : World) (v : Value) (l : List UInt8) : Prop :=
  (l = [] ∧ ∃ a cap, v = .slice a 0 cap) ∨
  ∃ (b off cap : Nat), v = .slice (some ⟨b, off, none⟩) l.length cap ∧ 0 < l.length ∧ b < W.heap.size ∧ l.length ≤ cap ∧ cap ≤ 9223372036854775807 ∧ ∀ j (h : j < l.length), W.cell? ⟨b, off + j, none⟩ = some (.int .u8 (l[j].toNat : Int))
/-- Bytes of an object's own, from their row's head on. -/
def BRow (w : World) (v : Value) (l : List UInt8) : Prop := w.ownsRow 0 5 1 v l.length (bys l)
theorem bys_at (l : List UInt8) (j : Nat) (h : j < l.length) : (bys l)[j]? = some (.int .u8 (l[j].toNat : Int)) := by simp [bys, h]
theorem bys_append (a b : List UInt8) : bys (a ++ b) = bys a ++ bys b := by simp [bys]
theorem bys_one (l : List UInt8) : ∀ u ∈ bys l, u.oneCell' = true := by
  intro u hu
  simp only [bys, List.mem_map] at hu
  obtain ⟨c, _, rfl⟩ := hu
  rfl
section
variable {W W' w w' : World} {v : Value} {l : List UInt8} {F : List Nat} {base : Nat}
theorem BsAt.mods (h : BsAt W v l) (hm : Mods F W W') (hn : ∀ k ∈ v.ownBlock.toList, k ∉ F) : BsAt W' v l := by
  rcases h with h | ⟨b, off, cap, rfl, h0, hlt, h1, h2, hc⟩
  · exact .inl h
  · have hb : b ∉ F := hn b (by simp [Value.ownBlock])
    exact .inr ⟨b, off, cap, rfl, h0, Nat.lt_of_lt_of_le hlt hm.size, h1, h2, fun j hj => cell_mods (hc j hj) hm hb⟩
theorem BsAt.low (h : BsAt W v l) (hm : Mods [] W W') : BsAt W' v l := h.mods hm (by simp)
theorem BsAt.same (h : BsAt W v l) (e : W'.heap = W.heap) : BsAt W' v l := by
  rcases h with h | ⟨b, off, cap, rfl, h0, hlt, h1, h2, hc⟩
  · exact .inl h
  · exact .inr ⟨b, off, cap, rfl, h0, by rw [e]; exact hlt, h1, h2, fun j hj => (World.cell?_of_block (by rw [e])).trans (hc j hj)⟩
theorem BsAt.len (h : BsAt W v l) : ∃ a cap, v = .slice a l.length cap := by
  rcases h with ⟨rfl, a, cap, rfl⟩ | ⟨b, off, cap, rfl, _⟩
  · exact ⟨a, cap, rfl⟩
  · exact ⟨_, cap, rfl⟩
theorem BsAt.lt (h : BsAt W v l) (h0 : 0 < l.length) : ∀ k ∈ v.ownBlock.toList, k < W.heap.size := by
  rcases h with ⟨rfl, _⟩ | ⟨b, off, cap, rfl, _, hlt, _⟩
  · cases h0
  · intro k hk
    have : k = b := by simpa [Value.ownBlock, eq_comm] using hk
    subst this; exact hlt
theorem BsAt.of_row (h : W.ownsRow base 5 1 v l.length (bys l)) : BsAt W v l := by
  rcases h.2 with ⟨rfl, h1⟩ | ⟨g, cap, cur, rfl, hb, hg, hn, hm, hc, ht⟩
  · exact .inl ⟨List.eq_nil_of_length_eq_zero h1, _, _, rfl⟩
  · by_cases h0 : l.length = 0
    · obtain rfl : l = [] := List.eq_nil_of_length_eq_zero h0
      exact .inl ⟨rfl, _, _, rfl⟩
    · refine .inr ⟨g, 0, cap, rfl, by omega, (Array.getElem?_eq_some_iff.1 hg).1, hn, by unfold maxLen at hm; omega, fun j hj => ?_⟩
      have e : cur.toList[j]? = some (.int .u8 (l[j].toNat : Int)) := by
        have h1 : (cur.toList.take (l.length * 1))[j]? = (bys l)[j]? := by rw [ht]
        rw [List.getElem?_take, if_pos (by omega), bys_at l j hj] at h1
        exact h1
      have e2 : cur[j]? = some (.int .u8 (l[j].toNat : Int)) := by rw [← Array.getElem?_toList]; exact e
      rw [Nat.zero_add]
      exact (cell_of_row W g j cur _ (0, 0) hg).trans e2
theorem BsAt.new (W : World) (l : List UInt8) (h0 : 0 < l.length) (h : l.length ≤ 1000000000) : BsAt (W.alloc (.cells (bys l).toArray 5)) (.slice (some ⟨W.heap.size, 0, none⟩) l.length l.length) l := by
  refine .inr ⟨_, 0, _, rfl, h0, by simp, Nat.le_refl _, by omega, fun j hj => ?_⟩
  rw [(Row.new W _ (bys l).toArray).cell, Nat.zero_add, List.getElem?_toArray]
  exact bys_at l j hj
/-- The first k of them. -/
theorem BsAt.to {A : Option Addr} {n c : Nat} (h : BsAt W (.slice A n c) l) (k : Nat) (hk : k ≤ n) : BsAt W (.slice A k c) (l.take k) := by
  rcases h with ⟨rfl, a, cap, hv⟩ | ⟨b, off, cap, hv, h0, hlt, h1, h2, hc⟩
  · injection hv with e1 e2 e3
    subst e1 e2 e3
    obtain rfl : k = 0 := by omega
    exact .inl ⟨rfl, _, _, rfl⟩
  · injection hv with e1 e2 e3
    subst e1 e2 e3
    by_cases hk0 : k = 0
    · subst hk0; exact .inl ⟨by simp, _, _, rfl⟩
    · have hl : (l.take k).length = k := by rw [List.length_take]; omega
      refine .inr ⟨b, off, c, by rw [hl], by omega, hlt, by rw [hl]; omega, h2, fun j hj => ?_⟩
      rw [List.getElem_take]
      exact hc j (by omega)
/-- What stands behind the first k. -/
theorem BsAt.from' {A : Option Addr} {n c : Nat} (h : BsAt W (.slice A n c) l) (k : Nat) (hk : k ≤ n) {A2 : Option Addr} (hA : A2 = if c = k then A else Option.map (fun x => x.add k) A) (n2 c2 : Nat) (hn : n2 = n - k) (hc2 : c2 = c - k) : BsAt W (.slice A2 n2 c2) (l.drop k) := by
  subst hA hn hc2
  rcases h with ⟨rfl, a, cap, hv⟩ | ⟨b, off, cap, hv, h0, hlt, h1, h2, hc⟩
  · injection hv with e1 e2 e3
    subst e1 e2 e3
    obtain rfl : k = 0 := by omega
    exact .inl ⟨rfl, _, _, rfl⟩
  · injection hv with e1 e2 e3
    subst e1 e2 e3
    by_cases hkn : k = l.length
    · subst hkn
      exact .inl ⟨by simp, _, _, by rw [Nat.sub_self]⟩
    · have hne : c ≠ k := by omega
      rw [if_neg hne]
      refine .inr ⟨b, off + k, c - k, by rw [List.length_drop, Option.map_some, add_none], by rw [List.length_drop]; omega, hlt, by rw [List.length_drop]; omega, by omega, fun j hj => ?_⟩
      rw [List.length_drop] at hj
      rw [List.getElem_drop, Nat.add_assoc]
      exact hc (k + j) (by omega)
/-- Bytes turned into a text. -/
theorem BsAt.text (h : BsAt W v l) : (convert 22 9 v).run Tryz.prog W = .ok (.string (ofL l)) W := by
  rcases h with ⟨rfl, a, cap, rfl⟩ | ⟨b, off, cap, rfl, h0, hlt, h1, h2, hc⟩
  · cases a with
    | none => exact run_convert_bytes_nil W 22 5 Tryz.underlying22 Tryz.underlying5 0 cap 9 Tryz.underlying9
    | some a => exact run_convert_bytes_back W 22 9 5 a cap [] Tryz.underlying22 Tryz.underlying5 Tryz.underlying9 (fun j hj => absurd hj (Nat.not_lt_zero _))
  · exact run_convert_bytes_back W 22 9 5 ⟨b, off, none⟩ cap l Tryz.underlying22 Tryz.underlying5 Tryz.underlying9 fun j hj => by
      rw [add_none]; exact hc j hj

theorem BRow.nil (w : World) : BRow w (.slice none 0 0) [] := World.ownsRow_nil _ _ _ _
theorem BRow.mods (h : BRow w v l) (hm : Mods F w w') (hn : ∀ k ∈ v.ownBlock.toList, k ∉ F) : BRow w' v l := own_mods h hm hn
theorem BRow.low (h : BRow w v l) (hm : Mods [] w w') : BRow w' v l := h.mods hm (by simp)
theorem BRow.lt (h : BRow w v l) : ∀ k ∈ v.ownBlock.toList, k < w.heap.size := own_lt h
theorem BRow.form (h : BRow w v l) : ∃ a c, v = .slice a l.length c ∧ l.length ≤ c ∧ c ≤ maxLen := own_slice h
theorem BRow.at (h : BRow w v l) : BsAt w v l := BsAt.of_row h
theorem BRow.cut0 {A : Option Addr} {n c : Nat} (h : BRow w (.slice A n c) l) : BRow w (.slice A 0 c) [] := by
  obtain ⟨h1, h2⟩ := h
  rcases h2 with ⟨hv, h0⟩ | ⟨g, cap, cur, hv, hb, hg, hn, hm, hc, ht⟩
  · injection hv with e1 e2 e3
    subst e1 e2 e3
    exact BRow.nil w
  · injection hv with e1 e2 e3
    subst e1 e2 e3
    exact ⟨rfl, .inr ⟨g, c, cur, rfl, hb, hg, by simp, hm, hc, by simp [bys]⟩⟩
end
theorem cut0_block (A : Option Addr) (n c m d : Nat) : (Value.slice A n c).ownBlock = (Value.slice A m d).ownBlock := by cases A <;> rfl
/-- One byte more behind a row. -/
theorem app_row {w : World} {u : Value} {l : List UInt8} (h : BRow w u l) (hl : l.length ≤ 1000000) (c : UInt8) :
    ∃ (b c' : Nat) (w' : World), (Builtin.append_ #[22, 22] 22 #[u, .slice (some ⟨w.heap.size, 0, none⟩) 1 1]).run Tryz.prog (w.alloc (.cells #[.int .u8 (c.toNat : Int)] 5)) = .ok (.slice (some ⟨b, 0, none⟩) (l.length + 1) c') w' ∧
      BRow w' (.slice (some ⟨b, 0, none⟩) (l.length + 1) c') (l ++ [c]) ∧ Mods u.ownBlock.toList w w' ∧ (some b = u.ownBlock ∨ w.heap.size ≤ b) := by
  obtain ⟨i0, hi, hz0, hz1, hz2⟩ := info_parts infoU8
  obtain ⟨v', w5, hrun, hown', hgrow, -, hbl⟩ := run_append_own_at (P := Tryz.prog) (w := w.alloc (.cells #[.int .u8 (c.toNat : Int)] 5)) 0 22 22 5 i0 (.int .u8 0) 1 1 Tryz.underlying22 hi hz0 hz1 hz2 rfl (by decide)
    u l.length (bys l) (h.low ((Mods.refl [] w).alloc _)) ⟨w.heap.size, 0, none⟩ 1 1 [.int .u8 (c.toNat : Int)] rfl (cells_new w [.int .u8 (c.toNat : Int)] _) (by simp [Value.oneCell']) (by unfold maxLen; omega) (by omega) (Nat.zero_le _)
  obtain ⟨b, c', rfl⟩ := ownsRow_succ hown'
  refine ⟨b, c', w5, hrun, ?_, ((Mods.refl _ w).alloc _).grown hgrow (fun k e => .inl (by rw [e]; simp)), ?_⟩
  · unfold BRow
    rw [List.length_append, bys_append]; exact hown'
  · rcases hbl with h | h
    · exact .inl h
    · have : b = w.heap.size + 1 := by simpa [Value.ownBlock] using h
      exact .inr (by omega)
end Go.Proofs.YtdalomhcglbhjaaGreatDoor

/- append of rows and of texts onto bytes that a function gathers. No text of the program. -/
namespace Go.Proofs.YtdalomhcglbhjaaGreatDoor
open Go.RowKit
set_option linter.unusedVariables false
set_option linter.unusedSimpArgs false

/-- append, by how it runs. -/
theorem wpList_run_app2 {P : Program} {ops : Array Oper} {rest : List Oper} {o : Oper} {a : Act} {w w' : World} {Q : Exit → Act → World → Prop} (hgd : o.guard = none) (s x : Operand) (t t2 : TypeId)
    (ho : o.op = .call { callee := .builtin .append, args := #[s, x], argTypes := #[t, t2] }) {v u v' : Value} (hs : a.eval s = v) (hx : a.eval x = u)
    (hr : (Builtin.append_ #[t, t2] o.type #[v, u]).run P w = .ok v' w') (h : wpList P ops Q rest (a.put o.dst v') w') : wpList P ops Q (o :: rest) a w := by
  refine wpList_plain hgd fun K hK => ?_
  unfold Oper.wp
  simp [execOp, ho, resolve, invoke, builtin, hs, hx, hr, Result.andThen]
  exact hK _ _ h
theorem step_run_appB {P : Program} {ops : Array Oper} {o : Oper} {a : Act} {w w' : World} {K : Act → World → Prop} {Q : Exit → Act → World → Prop} {E : Prop} (hgd : o.guard = none) {s x : Operand} {t t2 : TypeId} {v u v' : Value}
    (ho : o.op = .call { callee := .builtin .append, args := #[s, x], argTypes := #[t, t2] }) (hs : a.eval s = v) (hx : a.eval x = u)
    (hr : (Builtin.append_ #[t, t2] o.type #[v, u]).run P w = .ok v' w') (hK : K (a.put o.dst v') w') : if Region.wanted o (yielded ops a.tmps) = true then Oper.wp P o a w K Q else E := by
  have hw : Region.wanted o (yielded ops a.tmps) = true := by simp [Region.wanted, hgd]
  rw [if_pos hw]
  unfold Oper.wp
  simp [execOp, ho, resolve, invoke, builtin, hs, hx, hr, Result.andThen]
  exact hK
/-- append of nothing. -/
theorem run_app_none {w : World} {n c : Nat} {a A : Option Addr} {k : Nat} (hle : n ≤ c) : (Builtin.append_ #[22, 22] 22 #[.slice a n c, .slice A 0 k]).run Tryz.prog w = .ok (.slice a n c) w := by
  obtain ⟨i0, hi, hz0, hz1, hz2⟩ := info_parts infoU8
  have ht := Tryz.underlying22
  cases a <;> cases A <;> simp [Builtin.append_, run_underlying ht, sizeOf, typeInfo, hi, Builtin.lenOf, Builtin.firstCells, loadCells, loadCellsFrom, hle, storeCells]
/-- append of a row of bytes. -/
theorem app_bs {w0 w : World} {l m : List UInt8} {v u : Value} (h : GB w0 l v w) (hb : BsAt w u m) (hroom : l.length + m.length ≤ 1000000000) :
    ∃ (a : Option Addr) (n c : Nat) (w' : World), (Builtin.append_ #[22, 22] 22 #[v, u]).run Tryz.prog w = .ok (.slice a n c) w' ∧ GB w0 (l ++ m) (.slice a n c) w' := by
  obtain ⟨i0, hi, hz0, hz1, hz2⟩ := info_parts infoU8
  rcases hb with ⟨rfl, A, k, rfl⟩ | ⟨b, off, cap, rfl, h0, hlt, h1, h2, hc⟩
  · obtain ⟨a, c, hv⟩ := h.form
    have hle : l.length ≤ c := by
      rcases h.row.2 with ⟨e, h3⟩ | ⟨g, cap, cur, e, _, _, h3, _⟩
      · omega
      · rw [hv] at e; injection e with _ _ e3; omega
    subst hv
    exact ⟨a, l.length, c, w, run_app_none hle, by simpa using h⟩
  · obtain ⟨v', w5, hrun, hown', hgrow, -, hbl⟩ := run_append_own_at (P := Tryz.prog) (w := w) w0.heap.size 22 22 5 i0 (.int .u8 0) 1 1 Tryz.underlying22 hi hz0 hz1 hz2 rfl (by decide)
      v l.length (bys l) h.row ⟨b, off, none⟩ m.length cap (bys m) (by rw [bys_len, Nat.mul_one]) (fun j x hj => by
        rw [add_none]
        have hj2 : j < m.length := by have := (List.getElem?_eq_some_iff.1 hj).1; rw [bys_len] at this; exact this
        rw [bys_at m j hj2] at hj
        rw [hc j hj2]; exact hj) (bys_one m) (by unfold maxLen; omega) (by omega) h.low.size
    have hg : GB w0 (l ++ m) v' w5 := by
      refine ⟨?_, h.low.grown hgrow h.low.size fun k e => (h.row.lt k e).1⟩
      rw [List.length_append, bys_append]; exact hown'
    obtain ⟨a, c, rfl⟩ := hg.form
    exact ⟨a, _, c, w5, hrun, hg⟩
/-- append of a text. -/
theorem app_str {w0 w : World} {l : List UInt8} {v : Value} (h : GB w0 l v w) (s : ByteArray) (hroom : l.length + s.size ≤ 1000000000) :
    ∃ (a : Option Addr) (n c : Nat) (w' : World), (Builtin.append_ #[22, 9] 22 #[v, .string s]).run Tryz.prog w = .ok (.slice a n c) w' ∧ GB w0 (l ++ s.data.toList) (.slice a n c) w' := by
  obtain ⟨i0, hi, hz0, hz1, hz2⟩ := info_parts infoU8
  obtain ⟨v', w5, hrun, hown', hgrow, hnil⟩ := Lib.run_append_own_string (P := Tryz.prog) w w0.heap.size 22 9 22 5 i0 Tryz.underlying22 Tryz.underlying9 hi hz0 hz1 hz2
    v l.length (bys l) h.row s (by unfold maxLen; omega) (by omega) h.low.size
  have hg : GB w0 (l ++ s.data.toList) v' w5 := by
    refine ⟨?_, h.low.grown hgrow h.low.size fun k e => (h.row.lt k e).1⟩
    rw [List.length_append, show bys (l ++ s.data.toList) = bys l ++ Lib.strCells s by rw [bys_append]; rfl, len_data]; exact hown'
  obtain ⟨a, c, rfl⟩ := hg.form
  exact ⟨a, _, c, w5, hrun, hg⟩
theorem gb_nilB (w : World) : GB w [] (.slice none 0 0) w := ⟨World.ownsRow_nil _ _ _ _, Below.refl _ _⟩
theorem gb_madeB (w : World) : GB w [] (.slice (some ⟨w.heap.size, 0, none⟩) 0 0) (w.alloc (.cells #[] 5)) :=
  ⟨World.ownsRow_made w #[] 0 (Nat.le_refl _) (by unfold maxLen; omega) (by simp), (Below.refl _ w).alloc (Nat.le_refl _) _⟩
theorem GB.at {w0 w : World} {l : List UInt8} {v : Value} (h : GB w0 l v w) : BsAt w v l := BsAt.of_row h.row
theorem GB.own {w0 w : World} {l : List UInt8} {v : Value} (h : GB w0 l v w) : BRow w v l := own_base (w' := w) h.row (Nat.zero_le _)
theorem GB.mods {w0 w : World} {l : List UInt8} {v : Value} (h : GB w0 l v w) : Mods [] w0 w := Mods.of_below h.low
theorem GB.news {w0 w : World} {l : List UInt8} {v : Value} (h : GB w0 l v w) : ∀ k ∈ v.ownBlock.toList, w0.heap.size ≤ k := by
  intro k hk
  exact (h.row.lt k (by simpa using hk)).1
theorem GB.on {w0 w w' : World} {l : List UInt8} {v : Value} (h : GB w0 l v w) (hm : Mods [] w w') : GB w0 l v w' := h.below hm.below
theorem GB.since {w0 w1 w : World} {l : List UInt8} {v : Value} (h : GB w1 l v w) (hm : Mods [] w0 w1) : GB w0 l v w :=
  ⟨own_base (w' := w) h.row hm.size, (hm.trans (Mods.of_below (F := []) h.low) (fun _ h => nomatch h)).below⟩
end Go.Proofs.YtdalomhcglbhjaaGreatDoor

/- What chapter 14's laws ask of a reader of chunks, in plain terms. No program but for what Parse answers. -/
namespace Go.Proofs.YtdalomhcglbhjaaGreatDoor
open Go.RowKit
set_option linter.unusedVariables false
set_option linter.unusedSimpArgs false

/-! Digits. -/
theorem dgt_hx (d : Nat) (h : d < 16) : isHx (dgt d) = true :=
  List.all_eq_true.1 (show (List.range 16).all (fun d => isHx (dgt d)) = true by decide +kernel) d (by rw [List.mem_range]; exact h)
theorem digs_hx (u : Nat) : (digs 16 u).all isHx = true := by
  induction u using Nat.strongRecOn with
  | ind u ih =>
    by_cases h : u < 16
    · rw [digs_low h]; simp [dgt_hx u h]
    · rw [digs_high (by omega) (by decide), List.all_append, ih (u / 16) (by omega)]; simp [dgt_hx (u % 16) (by omega)]
theorem hx_10 {l : List UInt8} (h : l.all isHx = true) : ∀ x ∈ l, x ≠ 10 := fun x hx e => by
  subst e
  have := List.all_eq_true.1 h 10 hx
  revert this; decide
theorem hxs_all {l : List UInt8} (h : l.all isHx = true) : hxs l = l := by
  unfold hxs
  induction l with
  | nil => rfl
  | cons c r ih =>
    rw [List.all_cons, Bool.and_eq_true] at h
    rw [List.takeWhile_cons, if_pos h.1, ih h.2]
theorem pars_nil : parsL [] = some [] := pars_end rfl
/-- A size line of a number. -/
theorem size_num {r : ChP} {n : Nat} (hn : n ≤ 4095) : sizeP r (digs 16 n) = if 2048 < r.body.length + n then { r with status := 413 } else if n = 0 then { r with state := 3 } else { r with state := 1, left := n } := by
  have h := digs_hx n
  have h0 := digs_pos 16 n
  have hl := digs_le 16 (by decide) 2 n (by omega)
  have hx := hxs_all h
  have hv : hxn (digs 16 n) = n := by
    unfold hxn
    have hq : numB 16 12 (digs 16 n) = ((n : Int), true) := numB_digs 16 (by decide) (by decide) 11 n (Nat.lt_of_le_of_lt hn (by decide))
    rw [hx, hq]
    simp
  have hpos := List.length_pos_iff.2 h0
  unfold sizeP
  rw [hx, hv, if_neg (by omega), List.drop_length, pars_nil, if_neg (by simp)]

/-! Chunks. -/
def chunkC (p : List UInt8) : List UInt8 := if p = [] then [] else digs 16 p.length ++ [13, 10] ++ p ++ [13, 10]
def endC : List UInt8 := [48, 13, 10, 13, 10]
def encC (ps : List (List UInt8)) : List UInt8 := ps.flatMap chunkC ++ endC
/-- Ready for a size line, some data being there. -/
def RdC (b : List UInt8) : ChP := { newC with body := b }
theorem size_goes (b : List UInt8) {n : Nat} (hn : n ≤ 4095) : Goes (RdC b) (digs 16 n ++ [13, 10]) (if 2048 < b.length + n then { RdC b with status := 413 } else if n = 0 then { RdC b with state := 3 } else { RdC b with state := 1, left := n }) := by
  have h := whole_line (r := RdC b) (l := digs 16 n) (.inl rfl) rfl rfl rfl (hx_10 (digs_hx n)) (fun _ => by have := digs_le 16 (by decide) 2 n (by omega); omega) (fun h => by cases h)
  rw [if_pos (show (RdC b).state = 0 from rfl), size_num hn] at h
  exact h
theorem part_goes {b p : List UInt8} (h0 : p ≠ []) (hp : p.length ≤ 4095) (hb : b.length + p.length ≤ 2048) : Goes (RdC b) (chunkC p) (RdC (b ++ p)) := by
  have hpos := List.length_pos_iff.2 h0
  have g1 := size_goes b hp
  rw [if_neg (by omega), if_neg (by omega)] at g1
  have g2 := data_goes (r := RdC b) p b [] h0 rfl rfl
  have g3 := crlf_goes (r := { RdC b with left := 0, body := b ++ p }) rfl rfl
  unfold chunkC
  rw [if_neg h0]
  exact (g1.app g2).app g3
theorem parts_goes : ∀ (ps : List (List UInt8)) (b : List UInt8), (∀ p ∈ ps, p.length ≤ 4095) → b.length + ps.flatten.length ≤ 2048 → Goes (RdC b) (ps.flatMap chunkC) (RdC (b ++ ps.flatten))
  | [], b, _, _ => by rw [List.flatten_nil, List.append_nil]; exact Goes.nil _
  | p :: ps, b, h, hb => by
    rw [List.flatten_cons, List.length_append] at hb
    rw [List.flatMap_cons, List.flatten_cons, ← List.append_assoc]
    by_cases h0 : p = []
    · subst h0
      rw [List.append_nil]
      have := parts_goes ps b (fun q hq => h q (by simp [hq])) (by simpa using hb)
      exact (Goes.nil _).app this
    · exact (part_goes h0 (h p (by simp)) (by omega)).app (parts_goes ps (b ++ p) (fun q hq => h q (by simp [hq])) (by rw [List.length_append]; omega))
theorem zero_goes (b : List UInt8) (hb : b.length ≤ 2048) : Goes (RdC b) [48, 13, 10] { RdC b with state := 3 } := by
  have g := size_goes b (n := 0) (by omega)
  rw [if_neg (by omega), if_pos rfl, digs_low (by decide)] at g
  exact g
theorem empty_goes {r : ChP} (hs : r.state = 3) (h1 : r.whole = false) (h2 : r.status = 0) (hl : r.line = []) (he : r.ends ≤ 512) : Goes r [13, 10] { r with whole := true } := by
  have g := whole_line (r := r) (l := []) (.inr hs) h1 h2 hl (fun x hx => nomatch hx) (fun h => by rw [hs] at h; cases h) (fun _ => ⟨by decide, by simpa using he⟩)
  rw [if_neg (by rw [hs]; decide)] at g
  exact g
/-- Read, chunks are the body, all of them taken and nothing behind them. -/
theorem enc_feed (ps : List (List UInt8)) (m : List UInt8) (h : ∀ p ∈ ps, p.length ≤ 4095) (hb : ps.flatten.length ≤ 2048) : feedP newC (encC ps ++ m) = ({ RdC ps.flatten with state := 3, whole := true }, (encC ps).length) := by
  have g1 := parts_goes ps [] h (by simpa using hb)
  rw [List.nil_append] at g1
  have g2 := zero_goes ps.flatten hb
  have g3 := empty_goes (r := { RdC ps.flatten with state := 3 }) rfl rfl rfl rfl (show (0 : Nat) ≤ 512 by decide)
  have g := (g1.app g2).app g3
  have e : ps.flatMap chunkC ++ [48, 13, 10] ++ [13, 10] = encC ps := by unfold encC endC; rw [List.append_assoc]; rfl
  rw [e] at g
  exact g.done rfl m
/-- More than may be: refused. -/
theorem enc_much : ∀ (ps : List (List UInt8)) (b m : List UInt8), (∀ p ∈ ps, p.length ≤ 4095) → b.length ≤ 2048 → 2048 < b.length + ps.flatten.length →
    (feedP (RdC b) (ps.flatMap chunkC ++ m)).1.status = 413 ∧ (feedP (RdC b) (ps.flatMap chunkC ++ m)).1.whole = false
  | [], b, m, _, hb, h => by simp at h; omega
  | p :: ps, b, m, h, hb, hm => by
    rw [List.flatten_cons, List.length_append] at hm
    rw [List.flatMap_cons, List.append_assoc]
    by_cases h0 : p = []
    · subst h0
      exact enc_much ps b m (fun q hq => h q (by simp [hq])) hb (by simpa using hm)
    · by_cases hp : b.length + p.length ≤ 2048
      · rw [(part_goes h0 (h p (by simp)) hp).more]
        exact enc_much ps (b ++ p) m (fun q hq => h q (by simp [hq])) (by rw [List.length_append]; omega) (by rw [List.length_append]; omega)
      · have g := size_goes b (h p (by simp))
        rw [if_pos (by omega)] at g
        unfold chunkC
        rw [if_neg h0, List.append_assoc, List.append_assoc, g.done rfl]
        exact ⟨rfl, rfl⟩

/-! Trailers. -/
def fldC (p : FV) : List UInt8 := (lineK p.1 p.2 1).data.toList ++ [13, 10]
def TrC (b : List UInt8) (S : List FV) (e : Nat) : ChP := { RdC b with state := 3, trail := S, ends := e }
theorem ok_10 {p : FV} (h : okF p = true) : ∀ x ∈ (lineK p.1 p.2 1).data.toList, x ≠ 10 := fun x hx e => by
  subst e
  unfold okF at h
  rw [Bool.and_eq_true, Bool.and_eq_true] at h
  obtain ⟨⟨h1, h2⟩, _⟩ := h
  rw [lineK_list, app_listL] at hx
  rcases List.mem_append.1 hx with hx | hx
  · unfold tokL at h1
    rw [Bool.and_eq_true] at h1
    have := List.all_eq_true.1 h1.1 10 hx
    revert this; decide +kernel
  · rcases List.mem_cons.1 hx with hx | hx
    · revert hx; decide
    · rcases List.mem_append.1 hx with hx | hx
      · have : (10 : UInt8) = 32 := by
          have e1 : (spL 1).data.toList = [32] := rfl
          rw [e1] at hx; simp at hx
        revert this; decide
      · unfold valL at h2
        have := List.all_eq_true.1 h2 10 hx
        revert this; decide +kernel
theorem fldC_len (p : FV) : (fldC p).length = p.1.size + p.2.size + 4 := by
  unfold fldC
  rw [List.length_append]
  have : (lineK p.1 p.2 1).data.toList.length = (lineK p.1 p.2 1).size := rfl
  rw [this, lineK_size]; simp; omega
theorem trail_line (b : List UInt8) (S : List FV) (e : Nat) {p : FV} (h : okF p = true) (hp : p.1.size + p.2.size ≤ 100) (he : e + (fldC p).length ≤ 512) :
    Goes (TrC b S e) (fldC p) (if S.length = 8 then { TrC b S e with status := 431 } else TrC b (S ++ [p]) (e + (fldC p).length)) := by
  have hz : (lineK p.1 p.2 1).data.toList.length = p.1.size + p.2.size + 2 := by
    have : (lineK p.1 p.2 1).data.toList.length = (lineK p.1 p.2 1).size := rfl
    rw [this, lineK_size]; omega
  rw [fldC_len] at he ⊢
  have g := whole_line (r := TrC b S e) (l := (lineK p.1 p.2 1).data.toList) (.inr rfl) rfl rfl rfl (ok_10 h) (fun h => by cases h) (fun _ => ⟨by omega, by show e + _ ≤ 512; omega⟩)
  rw [if_neg (show ¬ (TrC b S e).state = 0 from fun h => by cases h)] at g
  have hpar : parR (ofL (lineK p.1 p.2 1).data.toList) = (p, 0) := by
    rw [ofL_data]
    exact lineK_par 1 h (by have : (lineK p.1 p.2 1).data.toList.length = (lineK p.1 p.2 1).size := rfl
                            omega)
  have hne : (lineK p.1 p.2 1).data.toList ≠ [] := by intro h0; rw [h0] at hz; simp at hz
  have e1 : trailP (TrC b S e) (lineK p.1 p.2 1).data.toList = if S.length = 8 then { TrC b S e with status := 431 } else TrC b (S ++ [p]) (e + (p.1.size + p.2.size + 4)) := by
    unfold trailP
    rw [if_neg hne, hpar, if_neg (by simp), hz]
    by_cases h8 : S.length = 8
    · rw [if_pos (.inl h8), if_pos h8]
    · rw [if_neg (by rintro (h | h); exact h8 h; exact absurd h (by show ¬ 512 < e + _; omega)), if_neg h8]
      show ChP.mk _ _ _ (e + (p.1.size + p.2.size + 2 + 2)) _ _ _ _ = _
      rw [show e + (p.1.size + p.2.size + 2 + 2) = e + (p.1.size + p.2.size + 4) by omega]
      rfl
  rw [e1] at g
  exact g
def fldsC (l : List FV) : List UInt8 := l.flatMap fldC
theorem trails_goes (b : List UInt8) : ∀ (l S : List FV) (e : Nat), (∀ p ∈ l, okF p = true ∧ p.1.size + p.2.size ≤ 100) → S.length + l.length ≤ 8 → e + (fldsC l).length ≤ 512 → Goes (TrC b S e) (fldsC l) (TrC b (S ++ l) (e + (fldsC l).length))
  | [], S, e, _, _, _ => by rw [List.append_nil]; exact Goes.nil _
  | p :: l, S, e, h, h8, he => by
    have hp := h p (by simp)
    rw [List.length_cons] at h8
    have hl : (fldsC (p :: l)).length = (fldC p).length + (fldsC l).length := by unfold fldsC; rw [List.flatMap_cons, List.length_append]
    rw [hl] at he ⊢
    have g1 := trail_line b S e hp.1 hp.2 (by omega)
    rw [if_neg (by omega)] at g1
    have g2 := trails_goes b l (S ++ [p]) (e + (fldC p).length) (fun q hq => h q (by simp [hq])) (by rw [List.length_append]; simp; omega) (by omega)
    rw [List.append_assoc, Nat.add_assoc] at g2
    exact g1.app g2
/-- Up to eight trailers are told. -/
theorem trails_law (body : List UInt8) (l : List FV) (hb : body.length ≤ 1000) (h : ∀ p ∈ l, okF p = true ∧ p.1.size + p.2.size ≤ 100) (he : (fldsC l).length ≤ 512) (h8 : l.length ≤ 8) :
    feedP newC (chunkC body ++ [48, 13, 10] ++ fldsC l ++ [13, 10]) = ({ TrC body l (fldsC l).length with whole := true }, (chunkC body ++ [48, 13, 10] ++ fldsC l ++ [13, 10]).length) := by
  have g1 := parts_goes [body] [] (fun p hp => by have : p = body := by simpa using hp
                                                  subst this; omega) (by simp; omega)
  rw [List.flatMap_cons, List.flatMap_nil, List.append_nil, List.nil_append, List.flatten_cons, List.flatten_nil, List.append_nil] at g1
  have g2 := zero_goes body (by omega)
  have g3 := trails_goes body l [] 0 h (by simpa using h8) (by omega)
  rw [Nat.zero_add, List.nil_append] at g3
  have g4 := empty_goes (r := TrC body l (fldsC l).length) rfl rfl rfl rfl he
  exact ((g1.app g2).app g3).app g4
/-- The ninth is refused. -/
theorem trails_many (body : List UInt8) (l m : List FV) (p : FV) (rest : List UInt8) (hb : body.length ≤ 1000) (h : ∀ q ∈ l, okF q = true ∧ q.1.size + q.2.size ≤ 100) (hp : okF p = true ∧ p.1.size + p.2.size ≤ 100) (he : (fldsC l).length + (fldC p).length ≤ 512) (h8 : l.length = 8) :
    (feedP newC (chunkC body ++ [48, 13, 10] ++ fldsC l ++ fldC p ++ rest)).1 = { TrC body l (fldsC l).length with status := 431 } := by
  have g1 := parts_goes [body] [] (fun p hp => by have : p = body := by simpa using hp
                                                  subst this; omega) (by simp; omega)
  rw [List.flatMap_cons, List.flatMap_nil, List.append_nil, List.nil_append, List.flatten_cons, List.flatten_nil, List.append_nil] at g1
  have g2 := zero_goes body (by omega)
  have g3 := trails_goes body l [] 0 h (by simp; omega) (by omega)
  rw [Nat.zero_add, List.nil_append] at g3
  have g4 := trail_line body l (fldsC l).length hp.1 hp.2 (by omega)
  rw [if_pos h8] at g4
  have g := ((g1.app g2).app g3).app g4
  have hd := g.done rfl rest
  exact congrArg Prod.fst hd

/-! The bytes that the laws know. -/
def knC : List UInt8 := [51, 59, 97, 61, 98, 13, 10, 97, 98, 99, 13, 10, 48, 13, 10, 13, 10, 120]
theorem knC_feed : (feedP newC knC).2 = 17 ∧ (feedP newC knC).1.whole = true ∧ (feedP newC knC).1.status = 0 ∧ (feedP newC knC).1.body = [97, 98, 99] := by decide +kernel
theorem knC_enc : encC [[97], []] = [49, 13, 10, 97, 13, 10, 48, 13, 10, 13, 10] := by decide +kernel
end Go.Proofs.YtdalomhcglbhjaaGreatDoor
