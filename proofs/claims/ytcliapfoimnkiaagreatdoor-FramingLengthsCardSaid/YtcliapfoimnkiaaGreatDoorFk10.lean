/- Values, Get and Drop of the document. Conditions: texts of at most a million bytes, 24 fields. -/
import Derived.Test.YtcliapfoimnkiaaGreatDoorFj10
namespace Go.Proofs.YtcliapfoimnkiaaGreatDoor
open Go.RowKit
set_option linter.unusedVariables false
set_option linter.unusedSimpArgs false

set_option maxRecDepth 10000 in
theorem rvals {g : Nat} {v : Value} {S : List FV} (n : ByteArray) (w : World) (h : Fld 48 w g v S) (hn : n.size ≤ 1000000) :
    Calls Tryz.prog 17 #[ptr g, .string n] w fun e w' => ∃ u, e = .returned u ∧ Gt w 9 1 (valsF S n).length (encS (valsF S n)) u w' := by
  have hl := h.len
  have HF := Lib.hid h.fs
  have HS := Lib.hid h.small
  have HC0 := Lib.hid (fun (w' : World) (hm : Mods [] w w') => cell_mods h.cell hm (by simp))
  have hc0 := h.cell
  unfold ptr
  by_cases h0 : S.length = 0
  · obtain rfl : S = [] := List.eq_nil_of_length_eq_zero h0
    obtain ⟨a, c, rfl⟩ := h.form
    clear h h0
    simp only [List.length_nil] at hc0
    go_enter Tryz.func17, Tryz.ntmps17
    go_wp2
    refine wp_loop_rounds 1 ?_
    rw [rounds_succ]
    go_wp2
    go_ret
    exact ⟨_, rfl, Gt.nil _ _ _⟩
  · rcases HF.out with ⟨rfl, _⟩ | ⟨b, off, cap, rfl, -, hb, hc⟩
    · exact absurd rfl h0
    have HC := Lib.hid hc
    clear h hc h0 hc0
    go_enter Tryz.func17, Tryz.ntmps17
    go_wp2
    go_loopw [5, 6] (fun u i wr => ∃ (k : Nat), k ≤ S.length ∧ i = .int .i64 k ∧ Gt w 9 1 (valsF (S.take k) n).length (encS (valsF (S.take k) n)) u wr) (fun _ i _ => S.length - (intOf i).toNat)
    case atStart => exact ⟨0, Nat.zero_le _, rfl, Gt.nil _ _ _⟩
    case round =>
      obtain ⟨k, hk, rfl, hG⟩ := hrel
      have HG := Lib.hid hG
      have q0 := HC0.out wr hG.low
      clear hG
      by_cases hlt : k < S.length
      · have c0 : wr.cell? ⟨b, off + k * 2, none⟩ = some (.string S[k].1) := cell_mods (HC.out k hlt).1 HG.out.low (by simp)
        have c1 : wr.cell? ⟨b, off + k * 2 + 1, none⟩ = some (.string S[k].2) := cell_mods (HC.out k hlt).2 HG.out.low (by simp)
        have HT := Lib.hid (valsF_snoc (S.take k) S[k] n)
        have HTK := Lib.hid (List.take_succ_eq_append_getElem hlt)
        have hs1 := (HS.out.at k hlt).1
        have hs2 := (HS.out.at k hlt).2
        have HLN := Lib.hid (valsF_len (S.take k) n)
        obtain ⟨x, hx⟩ : ∃ x, x = S[k].1 := ⟨_, rfl⟩
        obtain ⟨y, hy⟩ : ∃ y, y = S[k].2 := ⟨_, rfl⟩
        rw [← hx] at c0 HT hs1
        rw [← hy] at c1 HT hs2
        clear hx hy
        cases hsm : sameL x n with
        | true =>
          have HSM := Lib.hid (fun w => same_r x n hsm hs1 hn w)
          rw [hsm, if_pos rfl] at HT
          clear hsm
          obtain ⟨va, vc, rfl⟩ := HG.out.form
          have hroom : (valsF (S.take k) n).length + 1 ≤ 1000000 := by have := HLN.out; rw [List.length_take] at this; omega
          go_wp2_with (first
            | (go_at_call 22; refine (HSM.out _).mono ?_; rintro e w1 ⟨rfl, hm⟩; have q1 := cell_mods q0 hm (by simp); have d1 := cell_mods c1 hm (by simp); obtain ⟨g5, n5, c5, w3, hrun, hG5⟩ := (HG.out.mods hm).app Tryz.underlying50 infoSt rfl (by decide) hroom (by decide) [.string y] rfl (by simp [Value.oneCell']); have HG5 := Lib.hid hG5; clear hm hG5)
            | (at_builtin; refine wpList_run_appF rfl (.tmp 26) (.tmp 35) 50 rfl rfl rfl hrun ?_))
          go_roundw
          case rel => exact ⟨k + 1, by omega, by go_num, by rw [HTK.out, HT.out, List.length_append, show encS (valsF (S.take k) n ++ [y]) = encS (valsF (S.take k) n) ++ [.string y] by simp [encS]]; exact HG5.out⟩
          case measure => simp [intOf]; omega
        | false =>
          have HSM := Lib.hid (fun w => same_r x n hsm hs1 hn w)
          rw [hsm, if_neg (by simp), List.append_nil] at HT
          clear hsm
          go_wp2_with (go_at_call 22; refine (HSM.out _).mono ?_; rintro e w1 ⟨rfl, hm⟩; have HG1 := Lib.hid (HG.out.mods hm); clear hm)
          go_roundw
          case rel => exact ⟨k + 1, by omega, by go_num, by rw [HTK.out, HT.out]; exact HG1.out⟩
          case measure => simp [intOf]; omega
      · obtain rfl : k = S.length := by omega
        obtain ⟨va, vc, hv⟩ := HG.out.form
        have HE := HG.out
        rw [List.take_length] at HE
        have HE := Lib.hid HE
        go_wp2
        go_ret
        exact ⟨_, rfl, HE.out⟩

theorem get_zero {S : List FV} {n : ByteArray} (h : valsF S n = []) : getF S n = ⟨#[]⟩ := by unfold getF getL; rw [h]; rfl
/-- The text behind k values. -/
def joinK (l : List ByteArray) (k : Nat) : List UInt8 := Lib.join ((l.take k).map (·.data.toList)) sepF.data.toList
theorem joinK_step (l : List ByteArray) (k : Nat) (h : k < l.length) : joinK l (k + 1) = joinK l k ++ (if k = 0 then [] else [44, 32]) ++ l[k].data.toList := by
  unfold joinK
  rw [List.take_succ_eq_append_getElem h, List.map_append, List.map_cons, List.map_nil, join_snoc]
  by_cases h0 : k = 0
  · subst h0; simp
  · rw [if_neg (fun e => by have := congrArg List.length e; rw [List.length_map, List.length_take] at this; simp only [List.length_nil] at this; omega), if_neg h0]
    show _ ++ (sepF.data.toList ++ _) = _
    rw [← List.append_assoc]; rfl
theorem joinK_len {l : List ByteArray} (h : SmallS l) (k : Nat) : (joinK l k).length ≤ l.length * 1000002 := join_take h k
set_option maxRecDepth 10000 in
theorem rget {g : Nat} {v : Value} {S : List FV} (n : ByteArray) (w : World) (h : Fld 48 w g v S) (hn : n.size ≤ 1000000) :
    Calls Tryz.prog 23 #[ptr g, .string n] w fun e w' => e = .returned (.string (getF S n)) ∧ Mods [] w w' := by
  have HV := Lib.hid (rvals n w h hn)
  have hl := valsF_len S n
  have hl2 := h.len
  have HSM := Lib.hid (valsF_small h.small n)
  have HGE := Lib.hid (show getL S n = joinK (valsF S n) (valsF S n).length by unfold getL joinK; rw [List.take_length])
  obtain ⟨L, hL⟩ : ∃ L, L = valsF S n := ⟨_, rfl⟩
  rw [← hL] at HV hl HSM HGE
  clear h
  unfold ptr at *
  have HZ := Lib.hid (fun (h : valsF S n = []) => get_zero h)
  rw [← hL] at HZ
  clear hL
  by_cases h0 : L.length = 0
  · obtain rfl : L = [] := List.eq_nil_of_length_eq_zero h0
    have HE := Lib.hid (HZ.out rfl)
    simp only [List.length_nil] at HV
    clear h0 hl hl2
    go_enter Tryz.func23, Tryz.ntmps23
    go_wp2_with (go_at_call 17; refine HV.out.mono ?_; rintro e w1 ⟨u, rfl, hG⟩; obtain ⟨a, c, rfl⟩ := hG.form; have M1 := Lib.hid hG.low; clear hG)
    refine wp_loop_rounds 1 ?_
    rw [rounds_succ]
    go_wp2
    go_ret
    exact ⟨by rw [HE.out]; rfl, M1.out⟩
  · go_enter Tryz.func23, Tryz.ntmps23
    go_wp2_with (go_at_call 17; refine HV.out.mono ?_; rintro e w1 ⟨u, rfl, hG⟩)
    rcases SsAt.of_row hG.row with ⟨h1, _⟩ | ⟨b, off, cap, rfl, -, hcap, hb, hc⟩
    · exact absurd (congrArg List.length h1) h0
    have M1 := Lib.hid hG.low
    have HC := Lib.hid hc
    clear hG hc h0
    go_wp2
    go_loopw [6, 7] (fun t i wr => ∃ (k : Nat) (s : ByteArray), k ≤ L.length ∧ t = .string s ∧ i = .int .i64 k ∧ s.data.toList = joinK L k ∧ wr = w1) (fun _ i _ => L.length - (intOf i).toNat)
    case atStart => exact ⟨0, ⟨#[]⟩, Nat.zero_le _, rfl, rfl, rfl, rfl⟩
    case round =>
      obtain ⟨k, s, hk, rfl, rfl, hs, rfl⟩ := hrel
      have hsz : s.size ≤ 24 * 1000002 := by
        have h1 := joinK_len HSM.out k
        rw [← hs] at h1
        have h2 : s.data.toList.length = s.size := rfl
        have h3 := Nat.mul_le_mul_right 1000002 (show L.length ≤ 24 by omega)
        omega
      have HJ := Lib.hid hs
      clear hs
      by_cases hlt : k < L.length
      · have c0 := HC.out k hlt
        have hy := HSM.out L[k] (List.getElem_mem hlt)
        have HST := Lib.hid (joinK_step L k hlt)
        obtain ⟨y, hy0⟩ : ∃ y, y = L[k] := ⟨_, rfl⟩
        rw [← hy0] at c0 hy HST
        clear hy0
        by_cases h0 : k = 0
        · subst h0
          rw [if_pos rfl, List.append_nil] at HST
          simp only [Nat.add_zero] at c0
          go_wp2
          go_roundw
          case rel => exact ⟨1, s ++ y, by omega, rfl, rfl, by rw [HST.out, ByteArray.data_append, Array.toList_append, HJ.out], trivial⟩
          case measure => simp [intOf]; omega
        · rw [if_neg h0] at HST
          have hk0 : (0 : Int) < (k : Int) := by omega
          clear h0
          go_wp2
          go_roundw
          case rel => exact ⟨k + 1, s ++ ⟨#[44, 32]⟩ ++ y, by omega, rfl, by go_num, by rw [HST.out, ByteArray.data_append, ByteArray.data_append, Array.toList_append, Array.toList_append, HJ.out], trivial⟩
          case measure => simp [intOf]; omega
      · obtain rfl : k = L.length := by omega
        have HE := Lib.hid (show s = getF S n from Go.WideShapes.bytes_inj (by rw [HJ.out]; show _ = getL S n; rw [HGE.out]))
        go_wp2
        go_ret
        exact ⟨by rw [← HE.out]; rfl, M1.out⟩
end Go.Proofs.YtcliapfoimnkiaaGreatDoor
