/- What Close of the reference's net does. -/
import Derived.Test.YtogcfeplfclobaaRk
import Derived.Test.YtogcfeplfclobaaNo
import Derived.Deep.RegionHeld3
import Derived.BigRegion
namespace Go.Proofs.Ytogcfeplfclobaa
open Go.RowKit
set_option maxRecDepth 10000
set_option linter.unusedVariables false
set_option linter.unusedSimpArgs false

theorem RefTo.trans {w w1 w2 : World} {g n : Nat} {F F1 : List Nat} {S : Nt} (hm : Mods F w w1) (hf : ∀ k ∈ F1, k ∈ F ∨ w.heap.size ≤ k) (h : RefTo w1 w2 g F1 S n) : RefTo w w2 g F S n := by
  obtain ⟨F', h1, h2, h3⟩ := h
  refine ⟨F', h1, hm.trans h2 hf, fun k hk => ?_⟩
  rcases h3 k hk with h | h
  · exact hf k h
  · exact .inr (Nat.le_trans hm.size h)
/-- One is closed. -/
theorem Ag.shut_ {f i : Nat} {r : Rn} (h : Ag f i r) (hi : i < f) : Ag f i { r with c := { r.c with opn := false, inn := [] } } :=
  ⟨h.wts, fun hq => by simp [hi] at hq, h.was⟩
theorem upd_inn_ok {S : Nt} {m i : Nat} {s : Cn} (h : S.Ok m) (hs : S.L[i]? = some s) : (S.upd i { s with opn := false, inn := [] }).Ok m :=
  h.upd (Nat.le_refl m) h.mm (by have := h.at_ hs; simp only; simp; omega) fun hq => by simp at hq
set_option maxHeartbeats 2000000 in
theorem rclose_any (w : World) (g m k c : Nat) (F : List Nat) (S : Nt) (A : Option Addr) (l : List Int) (h : RefA w g F S m) (hl : NumsAt w F A l) (hk : k = l.length) (hl2 : l.length ≤ 1000000) :
    Calls Try.prog 47 #[.pointer (some ⟨g, 0, none⟩), .slice A k c] w fun e w' => e = .returned (.int .i64 (S.closeN l : Nat)) ∧ Hid (RefTo w w' g F (S.close l) m) := by
  subst hk
  have HL := Lib.hid hl
  have HH := Lib.hid h
  clear hl h
  go_enter Try.func47, Try.ntmps47
  go_wp2
  go_loopw [5, 6] (fun n i wr => ∃ j : Nat, j ≤ l.length ∧ i = .int .i64 j ∧ n = .int .i64 (S.closeN (l.take j) : Nat) ∧ Hid (RefTo w wr g F (S.close (l.take j)) m)) (fun _ i _ => l.length - (intOf i).toNat)
  case atStart => exact ⟨0, Nat.zero_le _, rfl, rfl, Lib.hid (RefTo.same HH.out (Mods.refl _ _))⟩
  case round =>
    obtain ⟨j, hj, rfl, rfl, hd⟩ := hrel
    have hcl := Nt.closeN_le S (l.take j)
    rw [List.length_take] at hcl
    obtain ⟨q, hq⟩ : ∃ q, q = S.closeN (l.take j) := ⟨_, rfl⟩
    rw [← hq] at hcl ⊢
    obtain ⟨S1, hS1⟩ : ∃ S1, S1 = S.close (l.take j) := ⟨_, rfl⟩
    rw [← hS1] at hd
    by_cases hlt : j < l.length
    · obtain ⟨F1, hA, hM, hF1⟩ := hd.out
      obtain ⟨lb, lo, rfl, hb0, hbF, cc⟩ := HL.out j l[j] (List.getElem?_eq_getElem hlt)
      replace cc := cell_mods cc hM hbF
      have hsn : l.take (j + 1) = l.take j ++ [l[j]] := List.take_succ_eq_append_getElem hlt
      have HSC := Lib.hid (show S.close (l.take (j + 1)) = S1.close1 l[j] by rw [hsn, Nt.close_snoc, ← hS1])
      have HSN := Lib.hid (show S.closeN (l.take (j + 1)) = q + if S1.isO l[j] then 1 else 0 by rw [hsn, Nt.closeN_snoc, ← hS1, ← hq])
      obtain ⟨y, hy⟩ : ∃ y, y = l[j] := ⟨_, rfl⟩
      rw [← hy] at cc HSC HSN
      have HTR := Lib.hid (fun (w2 : World) (S2 : Nt) (hto : RefTo wr w2 g F1 S2 m) => RefTo.trans hM hF1 hto)
      have HSM := Lib.hid (fun (w2 : World) (hm2 : Mods [] wr w2) => RefTo.same hA hm2)
      have hbF1 : lb ∉ F1 := fun hk => (hF1 lb hk).elim hbF fun h2 => by omega
      clear hd hy hq hS1 hsn hb0 hbF
      cases hs : S1.at? y with
      | none =>
        have hio : S1.isO y = false := by unfold Nt.isO; rw [Nt.get_none hs]; rfl
        have HS1 := Lib.hid (show S.close (l.take (j + 1)) = S1 by rw [HSC.out]; unfold Nt.close1; rw [hio]; rfl)
        have HN1 := Lib.hid (show S.closeN (l.take (j + 1)) = q by rw [HSN.out, hio]; rfl)
        have hcc := Nt.at_none hs
        obtain ⟨vl, vn, X, R, rfl, hA⟩ := hA
        obtain ⟨A1, c2, rfl, -, -⟩ := hA.slice
        have c1 := hA.row.cell 1
        clear hA hM hF1 hs hio hbF1
        by_cases h0 : 0 ≤ y
        · have hd0 : decide (0 ≤ y) = true := by simpa using h0
          have hd1 : decide (y < (S1.L.length : Int)) = false := by simp; omega
          clear hcc
          go_wp2_with fail
          go_quiet (fail)
          go_wp2
          go_roundw
          case rel => exact ⟨j + 1, by omega, by go_num, by rw [HN1.out], Lib.hid (by rw [HS1.out]; exact HTR.out _ _ (HSM.out _ ((Mods.refl _ _).drewN _)))⟩
          case measure => simp [intOf]; omega
        · have hd0 : decide (0 ≤ y) = false := by simpa using h0
          clear hcc h0
          go_wp2_with fail
          go_quiet (fail)
          go_wp2
          go_roundw
          case rel => exact ⟨j + 1, by omega, by go_num, by rw [HN1.out], Lib.hid (by rw [HS1.out]; exact HTR.out _ _ (HSM.out _ ((Mods.refl _ _).drewN _)))⟩
          case measure => simp [intOf]; omega
      | some s =>
        have hg := Nt.get_some hs
        obtain ⟨i, rfl, h1, h2⟩ := Nt.at_some hs
        obtain ⟨vl, vn, X, R, rfl, hA⟩ := hA
        obtain ⟨x, r, hx, hr, rfl, hc, ha⟩ := hA.at_ h1
        obtain ⟨A1, c2, rfl, -, -⟩ := hA.slice
        obtain ⟨b, o, rfl, ci⟩ := hA.cell hx
        have c1 := hA.row.cell 1
        have d2 : wr.cell? ⟨x.b, 2, none⟩ = some (.bool r.c.opn) := hc.row.cell 2
        have fx := hc.row.free
        have hd0 : decide (0 ≤ (i : Int)) = true := by simp
        have hd1 : decide (i < S1.L.length) = true := by simpa using h2
        have hk2 : (i : Int) < (S1.L.length : Int) := by omega
        have hle := hA.ok.n2
        cases ho : r.c.opn with
        | false =>
          rw [ho] at d2
          have hio : S1.isO i = false := by unfold Nt.isO; rw [hg]; exact ho
          have HS1 := Lib.hid (show S.close (l.take (j + 1)) = S1 by rw [HSC.out]; unfold Nt.close1; rw [hio]; rfl)
          have HN1 := Lib.hid (show S.closeN (l.take (j + 1)) = q by rw [HSN.out, hio]; rfl)
          clear hA hM hF1 hs hio hc hx hr h1 hg ho ha hbF1
          go_wp2_with fail
          go_quiet (fail)
          go_wp2
          go_roundw
          case rel => exact ⟨j + 1, by omega, by go_num, by rw [HN1.out], Lib.hid (by rw [HS1.out]; exact HTR.out _ _ (HSM.out _ ((Mods.refl _ _).drewN _)))⟩
          case measure => simp [intOf]; omega
        | true =>
          rw [ho] at d2
          have hio : S1.isO i = true := by unfold Nt.isO; rw [hg]; exact ho
          have HS1 := Lib.hid (show S.close (l.take (j + 1)) = S1.upd i { r.c with opn := false, inn := [] } by rw [HSC.out]; unfold Nt.close1; rw [hio, hg]; rfl)
          have HN1 := Lib.hid (show S.closeN (l.take (j + 1)) = q + 1 by rw [HSN.out, hio]; rfl)
          have HN := Lib.hid (fun (w' : World) (hq : CnTo KR wr w' x { r with c := { r.c with opn := false, inn := [] } }) => hA.toC hx hr hq (ha.shut_ (hA.ok.op i _ h1 ho)) (upd_inn_ok hA.ok h1))
          have HC := Lib.hid hc
          have hxf : x.b ∈ fts X := mem_fts.2 ⟨_, x, hx, (x.mem_ft _).2 (.inl rfl)⟩
          have e1 : ¬ g = x.b := fun e => hA.g_fts (by rw [e]; exact hxf)
          have e2 : ¬ b = x.b := fun e => hA.vl_fts b (by simp [Value.ownBlock]) (by rw [e]; exact hxf)
          have e5 : ¬ lb = x.b := fun e => hbF1 (by rw [e]; exact mem_rfoot.2 (.inr (.inr (.inr hxf))))
          have e3 : ¬ x.b = g := fun e => e1 e.symm
          have e4 : ¬ x.b = b := fun e => e2 e.symm
          have e6 : ¬ x.b = lb := fun e => e5 e.symm
          clear hA hM hF1 hs hio hc hx hr h1 hg ho ha hbF1 hxf
          go_wp2_with fail
          go_quiet (fail)
          go_wp2
          go_region_held3 (fun w' => w'.cell? ⟨g, 1, none⟩ = some (.slice (some ⟨b, o, none⟩) S1.L.length c2) ∧ w'.cell? ⟨b, o + i, none⟩ = some (.pointer (some ⟨x.b, 0, none⟩)) ∧ w'.cell? ⟨lb, lo + j, none⟩ = some (.int .i64 (i : Int))) (go_keep) (fail)
          go_wp2
          go_roundw
          case rel => exact ⟨j + 1, by omega, by go_num, by rw [HN1.out]; go_num, Lib.hid (by rw [HS1.out]; exact HTR.out _ _ (by first | exact HN.out _ (CnTo.put ((CnTo.refl HC.out).quiet ((Mods.refl _ _).drewN _)) 2 (.bool false) (fun _ => rfl) (rbs_all rfl rfl rfl)) | exact (HN.out _ (CnTo.put ((CnTo.refl HC.out).quiet ((Mods.refl _ _).drewN _)) 2 (.bool false) (fun _ => rfl) (rbs_all rfl rfl rfl))).quiet ((Mods.refl _ _).drew) | exact (HN.out _ (CnTo.put ((CnTo.refl HC.out).quiet (((Mods.refl _ _).drewN _).drew)) 2 (.bool false) (fun _ => rfl) (rbs_all rfl rfl rfl))).quiet ((Mods.refl _ _).drew)))⟩
          case measure => simp [intOf]; omega
    · have HK := Lib.hid (show l.take j = l from List.take_of_length_le (by omega))
      rw [HK.out] at hq hS1
      have HE := Lib.hid (show q = S.closeN l from hq)
      have HE2 := Lib.hid (show S1 = S.close l from hS1)
      clear hq hS1
      go_wp2
      go_ret
      rw [← HE.out, ← HE2.out]
      exact ⟨rfl, hd⟩
end Go.Proofs.Ytogcfeplfclobaa
