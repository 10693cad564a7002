/- What Connect of the reference's net does. -/
import Derived.Test.YtogcfeplfclobaaRc
namespace Go.Proofs.Ytogcfeplfclobaa
open Go.RowKit
set_option maxRecDepth 10000
set_option linter.unusedVariables false
set_option linter.unusedSimpArgs false

set_option maxHeartbeats 1000000 in
theorem rconn_any (w : World) (g m : Nat) (F : List Nat) (S : Nt) (p : Int) (h : RefA w g F S m) :
    Calls Try.prog 35 #[.pointer (some ⟨g, 0, none⟩), .int .i64 p] w fun e w' => e = .returned (.tuple #[.int .i64 (S.connN p), .int .i64 (S.connE p)]) ∧ Hid (RefTo w w' g F (S.conn p) m) := by
  have HN0 := Lib.hid (RefTo.same h (Mods.refl [] w))
  have HS := Lib.hid (fun (w' : World) (hq : Mods [] w w') => RefTo.same h hq)
  have bad : ∀ e0 : Int, S.connE p = e0 → e0 ≠ 0 → S.connN p = 0 ∧ S.conn p = S := fun e0 h1 h2 => by
    have : ¬ S.connE p = 0 := by rw [h1]; exact h2
    exact ⟨by unfold Nt.connN; rw [if_neg this], by unfold Nt.conn; rw [if_neg this]⟩
  by_cases h1 : p < 0
  · have he : S.connE p = 1 := by unfold Nt.connE; rw [if_pos (.inl h1)]
    rw [(bad 1 he (by decide)).1, (bad 1 he (by decide)).2, he]
    clear h bad he
    go_enter Try.func35, Try.ntmps35
    go_wp2
    go_ret2
    exact ⟨rfl, HN0⟩
  by_cases h2 : 255 < p
  · have he : S.connE p = 1 := by unfold Nt.connE; rw [if_pos (.inr h2)]
    rw [(bad 1 he (by decide)).1, (bad 1 he (by decide)).2, he]
    clear h bad he
    go_enter Try.func35, Try.ntmps35
    go_wp2
    go_ret2
    exact ⟨rfl, HN0⟩
  have hE : S.connE p = if S.stop then 6 else if S.back ≤ S.wait ∨ 65536 ≤ (S.L.length : Int) then 3 else 0 := by unfold Nt.connE; rw [if_neg (by omega)]
  obtain ⟨vl, vn, X, R, rfl, h⟩ := h
  obtain ⟨A, cc, rfl, hcc, -⟩ := h.slice
  obtain ⟨An, cn, rfl, hcn, -⟩ := h.line
  have c0 := h.row.cell 0
  have c1 := h.row.cell 1
  have c2 := h.row.cell 2
  have c4 := h.row.cell 4
  have f0 := h.row.free
  have hn1 := h.ok.n1
  cases hst : S.stop with
  | true =>
    rw [hst] at c4 hE
    have he : S.connE p = 6 := hE
    rw [(bad 6 he (by decide)).1, (bad 6 he (by decide)).2, he]
    clear h bad he hE hst hcc hcn
    go_enter Try.func35, Try.ntmps35
    go_wp2
    go_ret2
    exact ⟨rfl, HN0⟩
  | false =>
    rw [hst] at c4 hE
    have hwt : S.wait = ((S.L.length - S.first : Nat) : Int) := by unfold Nt.wait; omega
    rw [hwt] at hE
    have HH := Lib.hid h
    obtain ⟨k, hk⟩ : ∃ k, k = S.L.length - S.first := ⟨_, rfl⟩
    rw [← hk] at hE c2 hcn
    have HK := Lib.hid hk
    by_cases hb : S.back ≤ (k : Int)
    · have he : S.connE p = 3 := by rw [hE]; simp [hb]
      have hd : decide (S.back ≤ (k : Int)) = true := by simpa using hb
      rw [(bad 3 he (by decide)).1, (bad 3 he (by decide)).2, he]
      clear h bad he hE hst hcc hk hcn hwt
      go_enter Try.func35, Try.ntmps35
      go_wp2_with fail
      go_quiet (fail)
      go_wp2
      go_ret2
      exact ⟨rfl, Lib.hid (HS.out _ ((Mods.refl _ _).drewN _))⟩
    · have hd : decide (S.back ≤ (k : Int)) = false := by simpa using hb
      by_cases hl : 65536 ≤ S.L.length
      · have he : S.connE p = 3 := by rw [hE]; simp; omega
        have hd2 : decide ((65536 : Int) ≤ (S.L.length : Int)) = true := by simp; omega
        rw [(bad 3 he (by decide)).1, (bad 3 he (by decide)).2, he]
        clear h bad he hE hst hcc hk hb hcn hwt
        go_enter Try.func35, Try.ntmps35
        go_wp2_with fail
        go_quiet (fail)
        go_wp2
        go_ret2
        exact ⟨rfl, Lib.hid (HS.out _ ((Mods.refl _ _).drewN _))⟩
      · have he : S.connE p = 0 := by rw [hE]; simp; omega
        have hd2 : decide ((65536 : Int) ≤ (S.L.length : Int)) = false := by simp; omega
        obtain ⟨i0, hi0, hz, hs, hby⟩ := info_parts rptr_info3
        have HI := Lib.hid (And.intro hi0 (And.intro hz (And.intro hs (show i0.bytes ≤ 8 by omega))))
        clear hi0 hz hs hby
        obtain ⟨i1, hi0, hz, hs, hby⟩ := info_parts int_info3
        have HJ := Lib.hid (And.intro hi0 (And.intro hz (And.intro hs (show i1.bytes ≤ 8 by omega))))
        rw [show S.connN p = S.L.length by unfold Nt.connN; rw [if_pos he], show S.conn p = { S with L := S.L ++ [Cn.new p] } by unfold Nt.conn; rw [if_pos he], he]
        have hlen := h.len
        have HLL := Lib.hid hlen
        have HB := Lib.hid (show (pv X).length + 1 ≤ 1000000000 by rw [pv_length]; have := h.ok.n2; omega)
        have HB2 := Lib.hid (show (iv (lineN S.first (S.L.length - S.first))).length + 1 ≤ 1000000000 by simp [iv, lineN_length]; have := h.ok.n2; omega)
        have HL := Lib.hid (show S.L.length < 65536 by omega)
        have HP := Lib.hid (And.intro (show 0 ≤ p by omega) (show p ≤ 255 by omega))
        have hpl := wrap_len (n := S.L.length) rfl h.ok.n2
        clear h bad he hE hst hcc hk hb hi0 hz hs hby hlen hcn hwt
        go_enter Try.func35, Try.ntmps35
        go_wp2_with fail
        go_quiet (fail)
        go_wp2_with (at_builtin; refine wpList_append_own2 _ rfl (.tmp 38) (.tmp 42) 39 rfl 90 i0 (.pointer none) Try.underlying39 HI.out.1 HI.out.2.1 HI.out.2.2.1 HI.out.2.2.2 rfl (.slice A S.L.length cc) (pv X) rfl (HH.out.ptr.mods ((((Mods.refl [] w).drewN nq).alloc _).alloc _) (by simp)) (some ⟨w.heap.size + 1, 0, none⟩) 1 1 [.pointer (some ⟨w.heap.size, 0, none⟩)] rfl rfl (Src.at_one _ _ _ _ (by simp)) (by simp [Value.oneCell']) HB.out ?_; intro v8 w8 HO8 HM8; obtain ⟨A8, n8, p8, rfl, hn8, -, -⟩ := HO8.out.slice'; have hn9 : n8 = S.L.length + 1 := (by rw [hn8, List.length_append, pv_length, HLL.out]; rfl); clear hn8; subst hn9; obtain ⟨hr8, hq8⟩ := rconn1 (p := p) HH.out ((Mods.refl [] w).drewN nq) rfl rfl HO8.out HM8.out; have HQ8 := Lib.hid hq8; have c8 := hr8.cell 1; have f8 := hr8.free; clear hq8 hr8)
        obtain ⟨w9, hw9, HM9⟩ : ∃ w9, w9 = w8.setCell ⟨g, 1, none⟩ (.slice A8 (S.L.length + 1) p8) ∧ Hid (RMid w w9 g m (.slice A S.L.length cc) (.slice An (S.L.length - S.first) cn) X R S p (.slice A8 (S.L.length + 1) p8) (X ++ [⟨(w.drewN nq).heap.size, fun _ => .slice none 0 0⟩])) := ⟨_, rfl, Lib.hid (HQ8.out _ rfl)⟩
        rw [← hw9]
        clear hw9 HQ8 c8 f8 HO8 HM8 c0 c1 c2 c4 f0
        have d1 := HM9.out.row.cell 1
        have d5 := HM9.out.row.cell 5
        have d2 : w9.cell? ⟨g, 2, none⟩ = some (.slice An k cn) := by rw [HK.out]; exact HM9.out.row.cell 2
        have fz := HM9.out.row.free
        have HNU := Lib.hid (show Own w9 3 (.slice An k cn) (iv (lineN S.first (S.L.length - S.first))) by rw [HK.out]; exact HM9.out.num)
        have z1 := fun o => cell_alloc d1 o
        have z2 := fun o => cell_alloc d2 o
        go_wp2_with fail
        have hwr : IntKind.i64.wrap (S.L.length : Int) = (S.L.length : Int) := wrap_small (by omega) (by have := HL.out; omega)
        go_region_law (refine step_append_own2 rfl (.tmp 50) (.tmp 57) 40 rfl 3 i1 (.int .i64 0) Try.underlying40 HJ.out.1 HJ.out.2.1 HJ.out.2.2.1 HJ.out.2.2.2 rfl (.slice An k cn) (iv (lineN S.first (S.L.length - S.first))) rfl ((HNU.out.alloc (.cells #[.int .i64 (S.L.length : Nat)] 3)).keep fun _ _ => rfl) (some ⟨w9.heap.size, 0, none⟩) 1 1 [.int .i64 (S.L.length : Nat)] rfl rfl ((Src.one w9 _ _).same rfl) (by simp [Value.oneCell']) HB2.out ?_; intro vA wA HOA HMA; obtain ⟨hrA, hqA⟩ := rconn2 (a := (S.L.length : Nat) + 1) HH.out HM9.out HOA.out HMA.out (by rw [HK.out]) (((Mods.refl [] w9).alloc (.cells #[.int .i64 (S.L.length : Nat)] 3)).same rfl rfl rfl rfl) HP.out.1 HP.out.2 HL.out rfl; obtain ⟨AA, nA, pA, rfl, -, -, -⟩ := HOA.out.slice'; have HQA := Lib.hid hqA; have cA := hrA.cell 2; have cB := hrA.cell 5; have cC := hrA.cell 1; have fA := hrA.free; clear hqA hrA)
        all_goals
          go_wp2
          go_ret2
          exact ⟨rfl, Lib.hid (HQA.out _ rfl)⟩
end Go.Proofs.Ytogcfeplfclobaa
