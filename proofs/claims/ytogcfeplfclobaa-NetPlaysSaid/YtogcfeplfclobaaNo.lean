/- What Close, Stop of the program's net do. -/
import Derived.Test.YtogcfeplfclobaaNh
namespace Go.Proofs.Ytogcfeplfclobaa
open Go.RowKit
set_option maxRecDepth 10000
set_option linter.unusedVariables false
set_option linter.unusedSimpArgs false

theorem Nt.close_snoc (S : Nt) (l : List Int) (c : Int) : S.close (l ++ [c]) = (S.close l).close1 c := by simp [Nt.close, List.foldl_append]
theorem Nt.closeN_snoc (S : Nt) (l : List Int) (c : Int) : S.closeN (l ++ [c]) = S.closeN l + if (S.close l).isO c then 1 else 0 := by
  induction l generalizing S with
  | nil =>
    show (if S.isO c then 1 else 0) + 0 = 0 + if S.isO c then 1 else 0
    omega
  | cons a l ih =>
    have e : S.close (a :: l) = (S.close1 a).close l := rfl
    rw [List.cons_append, e]
    simp only [Nt.closeN]
    rw [ih]
    omega
theorem Nt.closeN_le (S : Nt) (l : List Int) : S.closeN l ≤ l.length := by
  induction l generalizing S with
  | nil => simp [Nt.closeN]
  | cons a l ih =>
    simp only [Nt.closeN, List.length_cons]
    have := ih (S.close1 a)
    split <;> omega
theorem set_self {α : Type} {X : List α} {i : Nat} {x : α} (h : X[i]? = some x) : X.set i x = X := by
  apply List.ext_getElem?
  intro j
  rw [List.getElem?_set]
  split
  · subst j
    split
    · exact h.symm
    · rw [List.getElem?_eq_none (by omega)]
  · rfl
/-- One is closed: the stores of it. -/
theorem close_of {w1 : World} {g m i : Nat} {vc : Value} {X : List Cb} {S : Nt} {x : Cb} {s : Cn} {b : Int} (h : NetF w1 g vc X S m) (hx : X[i]? = some x) (hs : S.L[i]? = some s) (ho : s.opn = true) (hb : b = ((opens S.L : Nat) : Int) - 1) :
    NetTo w1 (((w1.setCell ⟨x.b, 1, none⟩ (.bool false)).setCell ⟨x.b, 5, none⟩ (.slice none 0 0)).setCell ⟨g, 5, none⟩ (.int .i64 b)) g (nfoot g vc X) (S.upd i { s with opn := false, inn := [] }) m := by
  have hc := h.cs.at_ _ x s hx hs
  have hlt := (List.getElem?_eq_some_iff.1 hs).1
  have hgx : g ∉ x.ft := fun hk => h.cs.row h.row (by decide) (by decide) (mem_fts.2 ⟨_, x, hx, hk⟩)
  have hgb : g ≠ x.b := fun e => hgx ((x.mem_ft g).2 (.inl e))
  have hxb : x.b ∈ x.ft := (x.mem_ft _).2 (.inl rfl)
  have hq : CnTo KP w1 ((w1.setCell ⟨x.b, 1, none⟩ (.bool false)).setCell ⟨x.b, 5, none⟩ (.slice none 0 0)) x { s with opn := false, inn := [] } := by
    refine CnTo.nil (s := { s with opn := false }) (CnTo.put (CnTo.refl hc) 1 (.bool false) (fun _ => rfl) (cbs_all rfl rfl rfl)) 0 5 (fun _ => rfl) ?_ rfl
    intro j hj
    match j, hj with
    | 1, _ => rfl
    | 2, _ => rfl
  obtain ⟨x', h1, h2, h3, h4⟩ := hq
  have hgx' : g ∉ x'.ft := fun hk => (h4 g hk).elim hgx fun hk => by have := h.row.lt; omega
  have h5 : CnA KP (((w1.setCell ⟨x.b, 1, none⟩ (.bool false)).setCell ⟨x.b, 5, none⟩ (.slice none 0 0)).setCell ⟨g, 5, none⟩ (.int .i64 b)) x' { s with opn := false, inn := [] } :=
    h1.keep fun k hk => heap_setCell_other _ ⟨g, 5, none⟩ k _ (fun e => hgx' (by have : k = g := e; rw [← this]; exact hk))
  have hM : Mods (g :: x.ft) w1 (((w1.setCell ⟨x.b, 1, none⟩ (.bool false)).setCell ⟨x.b, 5, none⟩ (.slice none 0 0)).setCell ⟨g, 5, none⟩ (.int .i64 b)) :=
    (h3.more fun k hk => .inl (List.mem_cons_of_mem _ hk)).setCell (.inl (by simp)) _
  have hoff := opens_off (s' := { s with opn := false, inn := [] }) hs ho rfl
  have hrow : Row (((w1.setCell ⟨x.b, 1, none⟩ (.bool false)).setCell ⟨x.b, 5, none⟩ (.slice none 0 0)).setCell ⟨g, 5, none⟩ (.int .i64 b)) g 74 #[.int .i64 S.back, .bool S.stop, .int .i64 S.fail, vc, .int .i64 S.first, .int .i64 (opens (S.upd i { s with opn := false, inn := [] }).L : Nat)] := by
    have := ((h.row.far (p := ⟨x.b, 1, none⟩) hgb (.bool false)).far (p := ⟨x.b, 5, none⟩) hgb (.slice none 0 0)).set 5 (.int .i64 b)
    have e : b = ((opens (S.upd i { s with opn := false, inn := [] }).L : Nat) : Int) := by
      simp only [Nt.upd, Int.toNat_natCast]
      omega
    rw [← e]
    simpa using this
  have hf := h.ok.at_ hs
  have hok : (S.upd i { s with opn := false, inn := [] }).Ok m := h.ok.upd (Nat.le_refl _) h.ok.mm (by simp only [List.length_nil]; omega) (fun hq => by simp at hq)
  refine ⟨_, ⟨vc, _, rfl, h.turn2 (S' := S.upd i { s with opn := false, inn := [] }) hx hs h5 h2 hM h4 hrow (by simp [Nt.upd]) hok⟩, hM.more (F2 := nfoot g vc X) fun k hk => .inl ?_, fun k hk => ?_⟩
  · rcases List.mem_cons.1 hk with rfl | hk
    · simp [nfoot]
    · exact ft_sub hx k hk
  · simp only [nfoot, List.mem_cons, List.mem_append] at hk ⊢
    rcases hk with hk | hk | hk
    · exact .inl (.inl hk)
    · exact .inl (.inr (.inl hk))
    · rcases fts_set hx h4 k hk with h | h
      · exact .inl (.inr (.inr h))
      · exact .inr h
theorem NetTo.trans {w w1 w2 : World} {g n : Nat} {F F1 : List Nat} {S : Nt} (hm : Mods F w w1) (hf : ∀ k ∈ F1, k ∈ F ∨ w.heap.size ≤ k) (h : NetTo w1 w2 g F1 S n) : NetTo w w2 g F S n := by
  obtain ⟨F', h1, h2, h3⟩ := h
  refine ⟨F', h1, hm.trans h2 hf, fun k hk => ?_⟩
  rcases h3 k hk with h | h
  · exact hf k h
  · exact .inr (Nat.le_trans hm.size h)
theorem close_nil (w : World) (k c : Nat) (A : Option Addr) (l : List Int) (hl : NumsAt w [] A l) (hk : k = l.length) (hl2 : l.length ≤ 1000000) :
    Calls Try.prog 30 #[.pointer none, .slice A k c] w fun e w' => e = .returned (.int .i64 0) ∧ w = w' := by
  subst hk
  have HL := Lib.hid hl
  have hn := neq_cnil
  clear hl
  go_enter Try.func30, Try.ntmps30
  go_wp2
  go_loop [5, 7, 8, 11] (fun n y x i => ∃ j : Nat, j ≤ l.length ∧ i = .int .i64 j ∧ n = .int .i64 0) (fun _ _ _ i => l.length - (intOf i).toNat)
  case atStart => exact ⟨0, Nat.zero_le _, rfl, rfl⟩
  case round =>
    obtain ⟨j, hj, rfl, rfl⟩ := hrel
    by_cases hlt : j < l.length
    · obtain ⟨b, o, rfl, _, hb, cc⟩ := HL.out j l[j] (List.getElem?_eq_getElem hlt)
      obtain ⟨x, hx⟩ : ∃ x, x = l[j] := ⟨_, rfl⟩
      rw [← hx] at cc
      clear hx
      go_wp2_with fail
      refine (find_nil _ _).mono ?_
      rintro e w' ⟨rfl, rfl⟩
      go_wp2
      go_round
      case rel => exact ⟨j + 1, by omega, by go_num, rfl⟩
      case measure => simp [intOf]; omega
    · go_wp2
      go_ret
      exact ⟨rfl, rfl⟩
set_option maxHeartbeats 1000000 in
theorem close_any (w : World) (g m k c : Nat) (F : List Nat) (S : Nt) (A : Option Addr) (l : List Int) (h : NetA w g F S m) (hl : NumsAt w F A l) (hk : k = l.length) (hl2 : l.length ≤ 1000000) :
    Calls Try.prog 30 #[.pointer (some ⟨g, 0, none⟩), .slice A k c] w fun e w' => e = .returned (.int .i64 (S.closeN l : Nat)) ∧ Hid (NetTo w w' g F (S.close l) m) := by
  subst hk
  have HL := Lib.hid hl
  have HH := Lib.hid h
  have hn := neq_cnil
  clear hl h
  go_enter Try.func30, Try.ntmps30
  go_wp2
  go_loopw [5, 7, 8, 11] (fun n y x i wr => ∃ j : Nat, j ≤ l.length ∧ i = .int .i64 j ∧ n = .int .i64 (S.closeN (l.take j) : Nat) ∧ Hid (NetTo w wr g F (S.close (l.take j)) m)) (fun _ _ _ i _ => l.length - (intOf i).toNat)
  case atStart => exact ⟨0, Nat.zero_le _, rfl, rfl, Lib.hid (NetTo.same HH.out (Mods.refl _ _))⟩
  case round =>
    obtain ⟨j, hj, rfl, rfl, hd⟩ := hrel
    have hcl := Nt.closeN_le S (l.take j)
    rw [List.length_take] at hcl
    obtain ⟨q, hq⟩ : ∃ q, q = S.closeN (l.take j) := ⟨_, rfl⟩
    rw [← hq] at hcl ⊢
    obtain ⟨S1, hS1⟩ : ∃ S1, S1 = S.close (l.take j) := ⟨_, rfl⟩
    rw [← hS1] at hd
    by_cases hlt : j < l.length
    · obtain ⟨F1, hA, hM, hF1⟩ := hd.out
      obtain ⟨b, o, rfl, _, hb, cc⟩ := HL.out.mods hM j l[j] (List.getElem?_eq_getElem hlt)
      have hsn : l.take (j + 1) = l.take j ++ [l[j]] := List.take_succ_eq_append_getElem hlt
      have HSC := Lib.hid (show S.close (l.take (j + 1)) = S1.close1 l[j] by rw [hsn, Nt.close_snoc, ← hS1])
      have HSN := Lib.hid (show S.closeN (l.take (j + 1)) = q + if S1.isO l[j] then 1 else 0 by rw [hsn, Nt.closeN_snoc, ← hS1, ← hq])
      obtain ⟨y, hy⟩ : ∃ y, y = l[j] := ⟨_, rfl⟩
      rw [← hy] at cc HSC HSN
      have HTR := Lib.hid (fun (w2 : World) (S2 : Nt) (hto : NetTo wr w2 g F1 S2 m) => NetTo.trans hM hF1 hto)
      have HSM := Lib.hid (fun (w2 : World) (hm2 : Mods [] wr w2) => NetTo.same hA hm2)
      clear hd hy hq hS1 hsn hb
      cases hs : S1.at? y with
      | none =>
        have HF := Lib.hid (find_no wr g m F1 S1 y hA (Nt.at_none hs))
        have hio : S1.isO y = false := by unfold Nt.isO; rw [Nt.get_none hs]; rfl
        have HS1 := Lib.hid (show S.close (l.take (j + 1)) = S1 by rw [HSC.out]; unfold Nt.close1; rw [hio]; rfl)
        have HN1 := Lib.hid (show S.closeN (l.take (j + 1)) = q by rw [HSN.out, hio]; rfl)
        clear hA hM hF1 hs hio
        go_wp2_with fail
        refine HF.out.mono ?_
        rintro e w' ⟨rfl, rfl⟩
        go_wp2
        go_roundw
        case rel => exact ⟨j + 1, by omega, by go_num, by rw [HN1.out], Lib.hid (by rw [HS1.out]; exact HTR.out _ _ (HSM.out _ (Mods.refl _ _)))⟩
        case measure => simp [intOf]; omega
      | some s =>
        have hg := Nt.get_some hs
        obtain ⟨i, rfl, h1, h2⟩ := Nt.at_some hs
        obtain ⟨vc, X, rfl, hA⟩ := hA
        obtain ⟨x, hx⟩ := hA.cs.at1 h1
        have HF := Lib.hid (find_at wr g m i vc X S1 x hA hx)
        have hc := hA.cs.at_ i x s hx h1
        have c1 := hc.row.cell 1
        have c5 := hc.row.cell 5
        simp only [KP] at c1 c5
        have fx := hc.row.free
        cases ho : s.opn with
        | false =>
          rw [ho] at c1
          have hio : S1.isO i = false := by unfold Nt.isO; rw [hg]; exact ho
          have HS1 := Lib.hid (show S.close (l.take (j + 1)) = S1 by rw [HSC.out]; unfold Nt.close1; rw [hio]; rfl)
          have HN1 := Lib.hid (show S.closeN (l.take (j + 1)) = q by rw [HSN.out, hio]; rfl)
          clear hA hM hF1 hs hio hc hx h1 hg ho
          go_wp2_with fail
          refine HF.out.mono ?_
          rintro e w' ⟨rfl, rfl⟩
          go_wp2
          go_roundw
          case rel => exact ⟨j + 1, by omega, by go_num, by rw [HN1.out], Lib.hid (by rw [HS1.out]; exact HTR.out _ _ (HSM.out _ (Mods.refl _ _)))⟩
          case measure => simp [intOf]; omega
        | true =>
          rw [ho] at c1
          have hio : S1.isO i = true := by unfold Nt.isO; rw [hg]; exact ho
          have HS1 := Lib.hid (show S.close (l.take (j + 1)) = S1.upd i { s with opn := false, inn := [] } by rw [HSC.out]; unfold Nt.close1; rw [hio, hg]; rfl)
          have HN1 := Lib.hid (show S.closeN (l.take (j + 1)) = q + 1 by rw [HSN.out, hio]; rfl)
          have HCO := Lib.hid (close_of (b := ((opens S1.L : Nat) : Int) - 1) hA hx h1 ho rfl)
          have g5 := hA.row.cell 5
          have fg := hA.row.free
          have hgx : g ∉ x.ft := fun hk => hA.cs.row hA.row (by decide) (by decide) (mem_fts.2 ⟨_, x, hx, hk⟩)
          have hgb : g ≠ x.b := fun e => hgx ((x.mem_ft g).2 (.inl e))
          have hgb2 : x.b ≠ g := hgb.symm
          have hop := opens_le S1.L
          have hl5 := hA.ok.n2
          clear hA hM hF1 hs hio hc hx h1 hg ho hgx
          go_wp2_with fail
          refine HF.out.mono ?_
          rintro e w' ⟨rfl, rfl⟩
          go_wp2
          go_roundw
          case rel => exact ⟨j + 1, by omega, by go_num, by rw [HN1.out]; go_num, Lib.hid (by rw [HS1.out]; exact HTR.out _ _ HCO.out)⟩
          case measure => simp [intOf]; omega
    · have HK := Lib.hid (show l.take j = l from List.take_of_length_le (by omega))
      rw [HK.out] at hq hS1
      have HE := Lib.hid (show q = S.closeN l from hq)
      have HE2 := Lib.hid (show S1 = S.close l from hS1)
      clear hq hS1
      go_wp2
      go_ret
      rw [← HE.out, ← HE2.out]
      exact ⟨rfl, hd⟩
end Go.Proofs.Ytogcfeplfclobaa
