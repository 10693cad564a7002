/- Get, Has and All of the code; the library's IndexFunc and ContainsFunc with the code's closures. Conditions: texts of at most a million bytes, 24 fields. -/
import Derived.Test.YtjoineomkdiekaaGreatDoorFc10
import Derived.Test.YtjoineomkdiekaaGreatDoorSh10
namespace Go.Proofs.YtjoineomkdiekaaGreatDoor
open Go.RowKit
set_option linter.unusedVariables false
set_option linter.unusedSimpArgs false

/-- The first place at which p holds; -1. -/
def idxI {α : Type} (p : α → Bool) (l : List α) : Int := match l.findIdx? p with | none => -1 | some i => (i : Int)
theorem idxI_none {α : Type} {p : α → Bool} {l : List α} (h : ∀ j (hj : j < l.length), p l[j] = false) : idxI p l = -1 := by
  unfold idxI
  rw [List.findIdx?_eq_none_iff.2 (fun x hx => by obtain ⟨j, hj, rfl⟩ := List.mem_iff_getElem.1 hx; exact h j hj)]
theorem idxI_some {α : Type} {p : α → Bool} {l : List α} {i : Nat} (hi : i < l.length) (h : p l[i] = true) (h0 : ∀ j (hj : j < l.length), j < i → p l[j] = false) : idxI p l = i := by
  unfold idxI
  rw [show l.findIdx? p = some i from List.findIdx?_eq_some_iff_getElem.2 ⟨hi, h, fun j hj => by simp [h0 j (by omega) hj]⟩]
theorem idxI_any {α : Type} (p : α → Bool) (l : List α) : decide (0 ≤ idxI p l) = l.any p := by
  unfold idxI
  cases h : l.findIdx? p with
  | none =>
    rw [List.findIdx?_eq_none_iff] at h
    rw [show l.any p = false from by rw [List.any_eq_false]; intro x hx; simp [h x hx]]; rfl
  | some i =>
    obtain ⟨hi, hp, _⟩ := List.findIdx?_eq_some_iff_getElem.1 h
    rw [show l.any p = true from List.any_eq_true.2 ⟨_, List.getElem_mem hi, hp⟩]
    simp only [decide_eq_true_eq]; omega
theorem idxI_range {α : Type} (p : α → Bool) (l : List α) : -1 ≤ idxI p l ∧ idxI p l < l.length + 1 := by
  unfold idxI
  cases h : l.findIdx? p with
  | none => simp; omega
  | some i => obtain ⟨hi, _⟩ := List.findIdx?_eq_some_iff_getElem.1 h; simp only; omega

theorem get_a {g : Nat} {v : Value} {S : List FV} (n : ByteArray) (w : World) (h : Fld 81 w g v S) (hn : n.size ≤ 1000000) :
    Calls Tryz.prog 109 #[ptr g, .string n] w fun e w' => e = .returned (.string (getF S n)) ∧ Mods [] w w' := by
  have HV := Lib.hid (vals_a n w h hn)
  have hl := valsF_len S n
  have hl2 := h.len
  have HSM := Lib.hid (valsF_small h.small n)
  clear h
  unfold ptr at *
  by_cases h0 : (valsF S n).length = 0
  · have HE := Lib.hid (show getF S n = ⟨#[]⟩ by unfold getF getL; rw [List.eq_nil_of_length_eq_zero h0]; rfl)
    rw [h0] at HV
    clear h0 hl hl2
    go_enter Tryz.func109, Tryz.ntmps109
    go_wp2_with (first
      | (go_at_call 103; refine HV.out.mono ?_; rintro e w1 ⟨u, rfl, hG⟩; obtain ⟨a, c, rfl⟩ := hG.form; have M1 := Lib.hid hG.low; clear hG)
      | (go_at_call 133; refine (join_none _ _ _ _).mono ?_; rintro e w2 ⟨rfl, rfl⟩))
    go_ret
    exact ⟨by rw [HE.out]; rfl, M1.out⟩
  · go_enter Tryz.func109, Tryz.ntmps109
    go_wp2_with (go_at_call 103; refine HV.out.mono ?_; rintro e w1 ⟨u, rfl, hG⟩)
    rcases SsAt.of_row hG.row with ⟨h1, _⟩ | ⟨b, off, cap, rfl, -, hcap, hb, hc⟩
    · exact absurd (congrArg List.length h1) h0
    have hj := join_shelf b off cap (valsF S n) sepF w1 (fun j x hx => by obtain ⟨hj, rfl⟩ := List.getElem?_eq_some_iff.1 hx; exact hc j hj) hb (by omega) hcap (by
      have := join_bound _ HSM.out; have := Nat.mul_le_mul_right 1000002 (show (valsF S n).length ≤ 24 by omega); omega)
    have HJ := Lib.hid hj
    have M1 := Lib.hid hG.low
    clear hj hG hc h0
    go_wp2_with fail
    refine HJ.out.mono ?_
    rintro e w2 ⟨rfl, hm⟩
    have M2 := Lib.hid (M1.out.trans (.of_below hm) (F2 := []) (fun _ h => nomatch h))
    clear hm
    go_wp2
    go_ret
    exact ⟨rfl, M2.out⟩

set_option maxRecDepth 10000 in
theorem index_h (B : Nat) (p : FV → Bool) (v : Value) (S : List FV) (w : World) (hA : FsAt w v S) (hl : S.length ≤ 1000000)
    (hp : ∀ (W : World) (x : FV), x ∈ S → Mods [] w W → Calls Tryz.prog 38 #[.agg #[.string x.1, .string x.2], ptr B] W fun e w' => e = .returned (.bool (p x)) ∧ Mods [] W w') :
    Calls Tryz.prog 54 #[v, .func (.func 38) #[] #[ptr B]] w fun e w' => e = .returned (.int .i64 (idxI p S)) ∧ Mods [] w w' := by
  unfold ptr at *
  have HP := Lib.hid hp
  rcases hA with ⟨rfl, a, cap, rfl⟩ | ⟨b, off, cap, rfl, -, hb, hc⟩
  · go_enter Tryz.func54, Tryz.ntmps54
    go_wp2
    refine wp_loop_rounds 1 ?_
    rw [rounds_succ]
    go_wp2
    go_ret
    exact ⟨rfl, Mods.refl _ _⟩
  · have HC := Lib.hid hc
    clear hc hp
    go_enter Tryz.func54, Tryz.ntmps54
    go_wp2
    go_loopw [5, 8] (fun _ i wr => ∃ (k : Nat), k ≤ S.length ∧ i = .int .i64 k ∧ Mods [] w wr ∧ ∀ j (hj : j < S.length), j < k → p S[j] = false) (fun _ i _ => S.length - (intOf i).toNat)
    case atStart => exact ⟨0, Nat.zero_le _, rfl, Mods.refl _ _, fun j _ h => absurd h (Nat.not_lt_zero _)⟩
    case round =>
      obtain ⟨k, hk, rfl, hm, hno⟩ := hrel
      have HM := Lib.hid hm
      have HN := Lib.hid hno
      clear hm hno
      by_cases hlt : k < S.length
      · have c0 : wr.cell? ⟨b, off + k * 2, none⟩ = some (.string S[k].1) := cell_mods (HC.out k hlt).1 HM.out (by simp)
        have c1 : wr.cell? ⟨b, off + k * 2 + 1, none⟩ = some (.string S[k].2) := cell_mods (HC.out k hlt).2 HM.out (by simp)
        have HX := Lib.hid (fun W hW => HP.out W S[k] (List.getElem_mem hlt) hW)
        obtain ⟨x, hx⟩ : ∃ x, x = S[k] := ⟨_, rfl⟩
        have HXE := Lib.hid hx
        rw [← hx] at HX c0 c1
        clear hx
        cases hpx : p x with
        | true =>
          have HI := Lib.hid (idxI_some hlt (by rw [← HXE.out]; exact hpx) HN.out)
          rw [hpx] at HX
          clear hpx
          go_wp2_with (go_at_call 38; refine (HX.out _ HM.out).mono ?_; rintro e w1 ⟨rfl, hm⟩; have M1 := Lib.hid (HM.out.trans hm (fun _ h => nomatch h)); clear hm)
          go_ret
          exact ⟨by rw [HI.out]; rfl, M1.out⟩
        | false =>
          have HF := Lib.hid (show p S[k] = false by rw [← HXE.out]; exact hpx)
          rw [hpx] at HX
          clear hpx
          go_wp2_with (go_at_call 38; refine (HX.out _ HM.out).mono ?_; rintro e w1 ⟨rfl, hm⟩; have M1 := Lib.hid (HM.out.trans hm (fun _ h => nomatch h)); clear hm)
          go_roundw
          case rel =>
            refine ⟨k + 1, by omega, by go_num, M1.out, fun j hj hjk => ?_⟩
            by_cases e : j = k
            · subst e; exact HF.out
            · exact HN.out j hj (by omega)
          case measure => simp [intOf]; omega
      · obtain rfl : k = S.length := by omega
        have HI := Lib.hid (idxI_none fun j hj => HN.out j hj hj)
        go_wp2
        go_ret
        exact ⟨by rw [HI.out]; rfl, HM.out⟩



theorem contains_f (B : Nat) (p : FV → Bool) (v : Value) (S : List FV) (w : World) (hA : FsAt w v S) (hl : S.length ≤ 1000000)
    (hp : ∀ (W : World) (x : FV), x ∈ S → Mods [] w W → Calls Tryz.prog 38 #[.agg #[.string x.1, .string x.2], ptr B] W fun e w' => e = .returned (.bool (p x)) ∧ Mods [] W w') :
    Calls Tryz.prog 37 #[v, .func (.func 38) #[] #[ptr B]] w fun e w' => e = .returned (.bool (S.any p)) ∧ Mods [] w w' := by
  have HI := Lib.hid (index_h B p v S w hA hl hp)
  have HA := Lib.hid (idxI_any p S)
  clear hp
  obtain ⟨a, c, rfl⟩ := hA.len
  unfold ptr at *
  go_enter Tryz.func37, Tryz.ntmps37
  go_wp2_with (go_at_call 54; refine HI.out.mono ?_; rintro e w1 ⟨rfl, hm⟩; have M1 := Lib.hid hm; clear hm)
  go_ret
  exact ⟨by rw [← HA.out]; rfl, M1.out⟩


theorem same_any (a b : ByteArray) (ha : a.size ≤ 1000000) (hb : b.size ≤ 1000000) (w : World) : Calls Tryz.prog 39 #[.string a, .string b] w fun e w' => e = .returned (.bool (sameL a b)) ∧ Mods [] w w' := sameK a b rfl ha hb w
set_option maxRecDepth 10000 in
theorem has_clo (x : FV) (n : ByteArray) (B : Nat) (w : World) (hB : w.cell? ⟨B, 0, none⟩ = some (.string n)) (hx : x.1.size ≤ 1000000) (hn : n.size ≤ 1000000) :
    Calls Tryz.prog 38 #[.agg #[.string x.1, .string x.2], ptr B] w fun e w' => e = .returned (.bool (sameL x.1 n)) ∧ Mods [] w w' := by
  obtain ⟨a, b⟩ := x
  simp only at hx
  have hc := cell_alloc hB (.cells #[.string a, .string b] 49)
  have HS := Lib.hid (fun w => same_any a n hx hn w)
  unfold ptr
  go_enter Tryz.func38, Tryz.ntmps38
  go_wp2_with (go_at_call 39; refine (HS.out _).mono ?_; rintro e w1 ⟨rfl, hm⟩; have M1 := Lib.hid (((Mods.refl [] w).alloc _).trans hm (fun _ h => nomatch h)); clear hm)
  go_ret
  exact ⟨rfl, M1.out⟩

set_option maxRecDepth 10000 in
theorem fhas_a {g : Nat} {v : Value} {S : List FV} (n : ByteArray) (w : World) (h : Fld 81 w g v S) (hn : n.size ≤ 1000000) :
    Calls Tryz.prog 19 #[ptr g, .string n] w fun e w' => e = .returned (.bool (hasF S n)) ∧ Mods [] w w' := by
  have h1 := h.low ((Mods.refl [] w).alloc (.cells #[.string n] 9))
  have hK := kept_a _ h1
  have hC := contains_f w.heap.size (fun x => sameL x.1 n) v S _ h1.fs (by have := h.len; omega) (fun W x hx hm => has_clo x n w.heap.size W (cell_mods ((Row.new w 9 #[.string n]).cell 0) hm (by simp)) (h.small x hx).1 hn)
  have HC := Lib.hid hC
  have HK := Lib.hid hK
  obtain ⟨a, c, rfl⟩ := h.form
  clear hC hK h1 h
  unfold ptr at *
  go_enter Tryz.func19, Tryz.ntmps19
  go_wp2_with (first
    | (go_at_call 34; refine HK.out.mono ?_; rintro e w' ⟨rfl, rfl⟩)
    | (go_at_call 37; refine HC.out.mono ?_; rintro e w1 ⟨rfl, hm⟩; have M1 := Lib.hid (((Mods.refl [] w).alloc _).trans hm (fun _ h => nomatch h)); clear hm))
  go_ret
  exact ⟨rfl, M1.out⟩
theorem has_nil (n : ByteArray) (w : World) (hn : n.size ≤ 1000000) : Calls Tryz.prog 19 #[.pointer none, .string n] w fun e w' => e = .returned (.bool false) ∧ Mods [] w w' := by
  have hC := fun w0 => contains_f w.heap.size (fun x => sameL x.1 n) (.slice none 0 0) [] w0 (.inl ⟨rfl, _, _, rfl⟩) (by simp) (fun W x hx hm => nomatch hx)
  have HC := Lib.hid hC
  clear hC
  unfold ptr at *
  go_enter Tryz.func19, Tryz.ntmps19
  go_wp2_with (first
    | (go_at_call 34; refine (kept_nil _).mono ?_; rintro e w' ⟨rfl, rfl⟩)
    | (go_at_call 37; refine (HC.out _).mono ?_; rintro e w1 ⟨rfl, hm⟩; have M1 := Lib.hid (((Mods.refl [] w).alloc _).trans hm (fun _ h => nomatch h)); clear hm))
  go_ret
  exact ⟨rfl, M1.out⟩
end Go.Proofs.YtjoineomkdiekaaGreatDoor
