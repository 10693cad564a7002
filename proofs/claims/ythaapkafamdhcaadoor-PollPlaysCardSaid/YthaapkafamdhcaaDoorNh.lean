/- What Write of the program's net does. -/
import Derived.Test.YthaapkafamdhcaaDoorNg
namespace Go.Proofs.YthaapkafamdhcaaDoor
open Go.RowKit
set_option maxRecDepth 10000
set_option linter.unusedVariables false
set_option linter.unusedSimpArgs false

theorem write_nil (w : World) (c : Int) (v : Value) : Calls Tryd.prog 43 #[.pointer none, .int .i64 c, v] w fun e w' => e = .returned (.tuple #[.int .i64 0, .int .i64 1]) ∧ w = w' := by
  go_enter Tryd.func43, Tryd.ntmps43
  go_wp2_with fail
  refine (ours_nil w c).mono ?_
  rintro e w' ⟨rfl, rfl⟩
  go_wp2
  go_ret2
  exact ⟨rfl, rfl⟩
theorem Cn.write_nil (s : Cn) : s.write [] = s := by
  cases s
  simp [Cn.write]
set_option maxHeartbeats 1000000 in
theorem write_any (w : World) (g m : Nat) (F : List Nat) (S : Nt) (c : Int) (A : Option Addr) (n cp : Nat) (l : List Int) (h : NetA w g F S m) (hm : m + l.length ≤ 900000000) (hl : At w F A l) (hn : n = l.length) (hc1 : n ≤ cp) (hc2 : cp ≤ maxLen) :
    Calls Tryd.prog 43 #[.pointer (some ⟨g, 0, none⟩), .int .i64 c, .slice A n cp] w fun e w' =>
      e = .returned (.tuple #[.int .i64 (S.writeK c l : Nat), .int .i64 (S.writeE c l)]) ∧ Hid (NetTo w w' g F (S.write c l) (m + l.length)) := by
  subst hn
  have HN0 := Lib.hid (NetTo.same (h.more (n := m + l.length) (by omega) hm) (Mods.refl [] w))
  have bad : S.writeE c l ≠ 0 → S.writeK c l = 0 ∧ S.write c l = S := fun this => ⟨by unfold Nt.writeK; rw [if_neg this], by unfold Nt.write; rw [if_neg this]⟩
  by_cases he : S.e2 c = 0
  · have hE : S.writeE c l = if (S.get c).sht then 6 else if l.length = 0 then 0 else if (S.get c).win = 0 then 4 else 0 := by unfold Nt.writeE; rw [if_pos he]
    obtain ⟨i, s, rfl, hs, hi, hg, hb, ho, hfi⟩ := Nt.e2_zero he
    rw [hg] at hE
    obtain ⟨vc, X, rfl, h⟩ := h
    obtain ⟨x, hx⟩ := h.cs.at1 hs
    have hc := h.cs.at_ i x s hx hs
    have HT := Lib.hid (ours_at w g m i vc X S x s h hx hs hb ho hfi)
    have c4 := hc.row.cell 4
    have c6 := hc.row.cell 6
    simp only [KP] at c4 c6
    cases hsh : s.sht with
    | true =>
      rw [hsh] at hE c4
      have he6 : S.writeE i l = 6 := hE
      rw [(bad (by rw [he6]; decide)).1, (bad (by rw [he6]; decide)).2, he6]
      clear h bad hE he6 hs hg hb ho hc hx he hsh hl
      go_enter Tryd.func43, Tryd.ntmps43
      go_wp2_with fail
      refine HT.out.mono ?_
      rintro e w' ⟨rfl, rfl⟩
      go_wp2
      go_ret2
      exact ⟨rfl, HN0⟩
    | false =>
      rw [hsh] at hE c4
      by_cases h0 : l.length = 0
      · have he0 : S.writeE i l = 0 := by rw [hE, if_pos h0]; rfl
        have hnil : l = [] := List.eq_nil_of_length_eq_zero h0
        subst hnil
        rw [show S.writeK i [] = 0 by unfold Nt.writeK; split <;> simp, show S.write i [] = S by unfold Nt.write; rw [if_pos he0, hg, List.take_nil, Cn.write_nil]; exact upd_same hs, he0]
        clear h bad hE he0 hs hg hb ho hc hx he hsh hl h0
        go_enter Tryd.func43, Tryd.ntmps43
        go_wp2_with fail
        refine HT.out.mono ?_
        rintro e w' ⟨rfl, rfl⟩
        go_wp2
        go_ret2
        exact ⟨rfl, HN0⟩
      · rw [if_neg h0] at hE
        by_cases hw : s.win = 0
        · rw [if_pos hw] at hE
          rw [hw] at c6
          have he4 : S.writeE i l = 4 := hE
          rw [(bad (by rw [he4]; decide)).1, (bad (by rw [he4]; decide)).2, he4]
          clear h bad hE he4 hs hg hb ho hc hx he hsh hl
          go_enter Tryd.func43, Tryd.ntmps43
          go_wp2_with fail
          refine HT.out.mono ?_
          rintro e w' ⟨rfl, rfl⟩
          go_wp2
          go_ret2
          exact ⟨rfl, HN0⟩
        · rw [if_neg hw] at hE
          have he0 : S.writeE i l = 0 := hE
          have hf := h.ok.at_ hs
          obtain ⟨k, hk⟩ : ∃ k, k = min l.length s.win.toNat := ⟨_, rfl⟩
          have hK : S.writeK i l = k := by unfold Nt.writeK; rw [if_pos he0, hg, hk]
          have htl : (l.take k).length = k := by rw [List.length_take]; omega
          have hwr : s.write (l.take k) = { s with out := s.out ++ l.take k, win := s.win - k } := by unfold Cn.write; rw [htl]
          rw [hK, show S.write i l = S.upd i { s with out := s.out ++ l.take k, win := s.win - k } by unfold Nt.write; rw [if_pos he0, hg, hK, hwr], he0]
          have HN := Lib.hid (fun (w' : World) (hq : CnTo KP w w' x { s with out := s.out ++ l.take k, win := s.win - k }) => h.toC hx hs hq (h.ok.upd (n := m + l.length) (by omega) hm (by simp only [List.length_append, htl]; omega) fun hq => h.ok.op i s hs hq) rfl)
          obtain ⟨Ao, co, hv, hv1, hv2⟩ := (hc.own 2).slice
          rw [bv_length] at hv hv1
          change x.v 2 = .slice Ao s.out.length co at hv
          have c8 := hc.row.cell 8
          simp only [KP] at c8
          replace c8 : w.cell? ⟨x.b, 8, none⟩ = some (.slice Ao s.out.length co) := by rw [← hv]; exact c8
          have HO := Lib.hid (show Own w 5 (.slice Ao s.out.length co) (bv s.out) by rw [← hv]; exact hc.own 2)
          have HV := Lib.hid hv
          have HH := Lib.hid hc
          have HAT := Lib.hid ((hl.sub (G := x.ft) fun b hb => .inl (ft_sub hx b hb)).take k)
          have HR := Lib.hid hl.range
          have HTK := Lib.hid htl
          have HBD := Lib.hid (show (bv s.out).length + k ≤ 1000000000 by rw [bv_length]; omega)
          have hmn : ∀ p q : Int, p = (l.length : Int) → q = s.win → (if q < p then q else p) = (k : Int) := by
            intro p q h2 h3; subst h2 h3; split <;> omega
          have hmn := hmn _ _ rfl rfl
          obtain ⟨i0, hi0, hz, hsz, hby⟩ := info_parts u8_info3
          have HI := Lib.hid (And.intro hi0 (And.intro hz (And.intro hsz (show i0.bytes ≤ 8 by omega))))
          unfold maxLen at hc2
          have k1 : k ≤ l.length := by omega
          have k2 : k ≤ cp := by omega
          have k3 : (k : Int) ≤ s.win := by omega
          have k4 : s.win ≤ 1099511627776 := by omega
          have k5 : 0 ≤ s.win := by omega
          have f0 := hc.row.free
          have hwd : decide (s.win = 0) = false := decide_eq_false hw
          clear h bad hE he0 hs hg hb ho hc hx he hsh hl hK htl hwr hk hv hv1 hv2 hi0 hz hsz hby hf HN0 hfi hi
          go_enter Tryd.func43, Tryd.ntmps43
          go_wp2_with fail
          refine HT.out.mono ?_
          rintro e w' ⟨rfl, rfl⟩
          go_wp2_with fail
          clear hmn
          go_region_law (refine step_append_own2 rfl (.tmp 47) (.tmp 50) 72 rfl 5 i0 (.int .u8 0) Tryd.underlying72 HI.out.1 HI.out.2.1 HI.out.2.2.1 HI.out.2.2.2 rfl (.slice Ao s.out.length co) (bv s.out) rfl (HO.out.keep fun _ _ => rfl) A k cp (bv (l.take k)) rfl (by rw [bv_length]; exact HTK.out.symm) (HAT.out.srcs.same rfl) (bv_one _) HBD.out ?_; intro v8 w8 HO8 HM8; obtain ⟨hr8, hq8⟩ := HH.out.app (s' := { s with out := s.out ++ l.take k }) 2 8 HO8.out HM8.out HV.out ((Mods.refl [] w).same rfl rfl rfl rfl) rfl (by intro j hj; match j, hj with | 0, _ => rfl | 1, _ => rfl | 2, h => exact absurd rfl h) rfl (fun y hy => HR.out y (List.mem_of_mem_take hy)); obtain ⟨A8, n8, c9, rfl, -, -, -⟩ := HO8.out.slice'; have HQ8 := Lib.hid hq8; have e8 : w8.cell? ⟨x.b, 8, none⟩ = some (x.v 2) := hr8.cell 8; have e6 : w8.cell? ⟨x.b, 6, none⟩ = some (.int .i64 s.win) := hr8.cell 6; have f8 : ∀ j, w8.frozen? ⟨x.b, j, none⟩ = false := hr8.free; clear hq8 hr8)
          all_goals
            go_wp2
            go_ret2
            exact ⟨rfl, Lib.hid (HN.out _ ((HQ8.out _ rfl).put 6 _ (fun _ => rfl) (cbs_all rfl rfl rfl)))⟩
  · have he1 : S.writeE c l = S.e2 c := by unfold Nt.writeE; rw [if_neg he]
    rw [(bad (by rw [he1]; exact he)).1, (bad (by rw [he1]; exact he)).2, he1]
    have HT := Lib.hid (ours_no w g m F S c h he)
    obtain ⟨e0, he0⟩ : ∃ e0, e0 = S.e2 c := ⟨_, rfl⟩
    rw [← he0] at HT he ⊢
    have hne : (e0 != 0) = true := by simpa using he
    clear h he he0 he1 bad hl
    go_enter Tryd.func43, Tryd.ntmps43
    go_wp2_with fail
    refine HT.out.mono ?_
    rintro e w' ⟨rfl, rfl⟩
    go_wp2
    go_ret2
    exact ⟨rfl, HN0⟩
end Go.Proofs.YthaapkafamdhcaaDoor
