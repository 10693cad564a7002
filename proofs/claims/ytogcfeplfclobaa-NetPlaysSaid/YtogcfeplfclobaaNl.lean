/- What Got of the program's net answers. -/
import Derived.Test.YtogcfeplfclobaaNk
namespace Go.Proofs.Ytogcfeplfclobaa
open Go.RowKit
set_option maxRecDepth 10000
set_option linter.unusedVariables false
set_option linter.unusedSimpArgs false

set_option maxHeartbeats 4000000 in
theorem got_any (w : World) (g m : Nat) (F : List Nat) (S : Nt) (c : Int) (h : NetA w g F S m) :
    Calls Try.prog 23 #[.pointer (some ⟨g, 0, none⟩), .int .i64 c] w fun e w' => ∃ v, e = .returned (.tuple #[v, .bool (S.gotE c)]) ∧ Hid (Fresh w w' v (S.gotB c)) := by
  have hn2 := eql_cnil
  cases hs : S.at? c with
  | none =>
    have HF := Lib.hid (find_no w g m F S c h (Nt.at_none hs))
    rw [show S.gotB c = [] by unfold Nt.gotB; rw [Nt.get_none hs]; rfl, show S.gotE c = false by unfold Nt.gotE; rw [hs]]
    clear h hs
    go_enter Try.func23, Try.ntmps23
    go_wp2_with fail
    refine HF.out.mono ?_
    rintro e w' ⟨rfl, rfl⟩
    go_wp2
    go_ret2
    exact ⟨_, rfl, Lib.hid (Fresh.nil _)⟩
  | some s =>
    have hge : S.gotE c = ((s.sht || s.brk) || (decide (c < S.first) && !s.opn)) := by unfold Nt.gotE; rw [hs]
    rw [show S.gotB c = s.out by unfold Nt.gotB; rw [Nt.get_some hs], hge]
    obtain ⟨i, rfl, h1, h2⟩ := Nt.at_some hs
    obtain ⟨vc, X, rfl, h⟩ := h
    obtain ⟨x, hx⟩ := h.cs.at1 h1
    have HF := Lib.hid (find_at w g m i vc X S x h hx)
    have HV := Lib.hid (fun (w' : World) (hm : Mods [] w w') => over_any w' g m i vc X S x s (h.keep fun k hk => hm.block k (h.lt k hk) (by simp)) hx h1)
    have hc := h.cs.at_ i x s hx h1
    obtain ⟨Ao, co, hv, hv1, hv2⟩ := (hc.own 2).slice
    rw [bv_length] at hv hv1
    change x.v 2 = .slice Ao s.out.length co at hv
    change s.out.length ≤ co at hv1
    have c2 := hc.row.cell 2
    have c4 := hc.row.cell 4
    have c8 := hc.row.cell 8
    simp only [KP] at c2 c4 c8
    replace c8 : w.cell? ⟨x.b, 8, none⟩ = some (.slice Ao s.out.length co) := by rw [← hv]; exact c8
    have HSR := Lib.hid (show Src w Ao (bv s.out) from (show Own w 5 (.slice Ao s.out.length co) (bv s.out) by rw [← hv]; exact hc.own 2).src)
    have HR := Lib.hid (hc.rng 2 : ∀ y ∈ s.out, 0 ≤ y ∧ y ≤ 255)
    have HB := Lib.hid (show s.out.length ≤ co ∧ co ≤ maxLen ∧ s.out.length ≤ 1000000000 from ⟨hv1, hv2, by have := h.ok.at_ h1; have := h.ok.mm; omega⟩)
    have HCC := Lib.hid (fun (v0 : World) (b : Nat) (hm : Mods [] w v0) (hb : v0.cell? ⟨b, 0, none⟩ = some (.slice Ao s.out.length co)) => concatB_row v0 b Ao s.out.length co s.out hb rfl (HSR.out.mods hm (by simp)) HR.out HB.out.1 HB.out.2.1 HB.out.2.2)
    obtain ⟨ov, hov⟩ : ∃ b, b = (decide ((i : Int) < S.first) && !s.opn) := ⟨_, rfl⟩
    rw [← hov] at HV ⊢
    obtain ⟨L, hL⟩ : ∃ L, L = s.out := ⟨_, rfl⟩
    rw [← hL] at c8 HCC ⊢
    obtain ⟨b4, h4⟩ : ∃ b, b = s.sht := ⟨_, rfl⟩
    obtain ⟨b2, hb2⟩ : ∃ b, b = s.brk := ⟨_, rfl⟩
    rw [← h4] at c4 ⊢
    rw [← hb2] at c2 ⊢
    have HK := Lib.hid (fun (v0 w4 : World) (v : Value) (hm : Mods [] w v0) (hf : Fresh v0 w4 v L) => Fresh.back hf hm)
    clear h hx h1 hs hc hv hv1 hv2 hge hov hL h4 hb2 HSR HR HB
    have d4 := fun o => cell_alloc c4 o
    have d2 := fun o => cell_alloc c2 o
    cases b4 <;> cases b2
    all_goals
      go_enter Try.func23, Try.ntmps23
      go_wp2_with fail
      refine HF.out.mono ?_
      rintro e w' ⟨rfl, rfl⟩
      go_wp2_with fail
    · go_region_held3 (fun w' => w'.cell? ⟨x.b, 8, none⟩ = some (.slice Ao L.length co) ∧ w'.cell? ⟨x.b, 4, none⟩ = some (.bool false) ∧ w'.cell? ⟨x.b, 2, none⟩ = some (.bool false)) (go_keep)
        (first
          | (go_at_call 58; refine Calls.mono (HCC.out _ w.heap.size ?_ ?_) ?_; exact ((Mods.refl [] w).alloc (.cells #[.slice Ao L.length co] 33)).same rfl rfl rfl rfl; exact (Row.new _ _ #[_]).cell 0; rintro e w4 ⟨v, rfl, hd⟩; have HD := Lib.hid (hd.out.back (((Mods.refl [] w).alloc (.cells #[.slice Ao L.length co] 33)).same rfl rfl rfl rfl)); have c8' := cell_mods c8 HD.out.2.1 (by simp); have c4' := cell_mods c4 HD.out.2.1 (by simp); have c2' := cell_mods c2 HD.out.2.1 (by simp); clear hd)
          | (go_at_call 60; refine Calls.mono (HV.out _ ?_) ?_; (first | exact HD.out.2.1 | exact (HD.out.2.1).same rfl rfl rfl rfl | exact (Mods.refl [] w).same rfl rfl rfl rfl); rintro e w' ⟨rfl, rfl⟩))
      all_goals
        go_wp2
        go_ret2
        exact ⟨_, rfl, HD⟩
    · first
        | (go_region_with
            (first
              | (go_at_call 58; refine Calls.mono (HCC.out _ w.heap.size ?_ ?_) ?_; exact ((Mods.refl [] w).alloc (.cells #[.slice Ao L.length co] 33)).same rfl rfl rfl rfl; exact (Row.new _ _ #[_]).cell 0; rintro e w4 ⟨v, rfl, hd⟩; have HD := Lib.hid (hd.out.back (((Mods.refl [] w).alloc (.cells #[.slice Ao L.length co] 33)).same rfl rfl rfl rfl)); have c8' := cell_mods c8 HD.out.2.1 (by simp); have c4' := cell_mods c4 HD.out.2.1 (by simp); have c2' := cell_mods c2 HD.out.2.1 (by simp); clear hd)))
        | fail
      all_goals
        go_wp2
        go_ret2
        exact ⟨_, rfl, HD⟩
    · first
        | (go_region_with
            (first
              | (go_at_call 58; refine Calls.mono (HCC.out _ w.heap.size ?_ ?_) ?_; exact ((Mods.refl [] w).alloc (.cells #[.slice Ao L.length co] 33)).same rfl rfl rfl rfl; exact (Row.new _ _ #[_]).cell 0; rintro e w4 ⟨v, rfl, hd⟩; have HD := Lib.hid (hd.out.back (((Mods.refl [] w).alloc (.cells #[.slice Ao L.length co] 33)).same rfl rfl rfl rfl)); have c8' := cell_mods c8 HD.out.2.1 (by simp); have c4' := cell_mods c4 HD.out.2.1 (by simp); have c2' := cell_mods c2 HD.out.2.1 (by simp); clear hd)))
        | fail
      all_goals
        go_wp2
        go_ret2
        exact ⟨_, rfl, HD⟩
    · first
        | (go_region_with
            (first
              | (go_at_call 58; refine Calls.mono (HCC.out _ w.heap.size ?_ ?_) ?_; exact ((Mods.refl [] w).alloc (.cells #[.slice Ao L.length co] 33)).same rfl rfl rfl rfl; exact (Row.new _ _ #[_]).cell 0; rintro e w4 ⟨v, rfl, hd⟩; have HD := Lib.hid (hd.out.back (((Mods.refl [] w).alloc (.cells #[.slice Ao L.length co] 33)).same rfl rfl rfl rfl)); have c8' := cell_mods c8 HD.out.2.1 (by simp); have c4' := cell_mods c4 HD.out.2.1 (by simp); have c2' := cell_mods c2 HD.out.2.1 (by simp); clear hd)))
        | fail
      all_goals
        go_wp2
        go_ret2
        exact ⟨_, rfl, HD⟩
end Go.Proofs.Ytogcfeplfclobaa
