/- What Close, Stop of the program's net do. -/
import Derived.Test.YthaapkafamdhcaaDoorNh
import Derived.Test.YthaapkafamdhcaaDoorNg
namespace Go.Proofs.YthaapkafamdhcaaDoor
open Go.RowKit
set_option maxRecDepth 10000
set_option linter.unusedVariables false
set_option linter.unusedSimpArgs false

theorem Nt.close_snoc (S : Nt) (l : List Int) (c : Int) : S.close (l ++ [c]) = (S.close l).close1 c := by simp [Nt.close, List.foldl_append]
theorem Nt.closeN_snoc (S : Nt) (l : List Int) (c : Int) : S.closeN (l ++ [c]) = S.closeN l + if (S.close l).isO c then 1 else 0 := by
  induction l generalizing S with
  | nil =>
    show (if S.isO c then 1 else 0) + 0 = 0 + if S.isO c then 1 else 0
    omega
  | cons a l ih =>
    have e : S.close (a :: l) = (S.close1 a).close l := rfl
    rw [List.cons_append, e]
    simp only [Nt.closeN]
    rw [ih]
    omega
theorem Nt.closeN_le (S : Nt) (l : List Int) : S.closeN l ≤ l.length := by
  induction l generalizing S with
  | nil => simp [Nt.closeN]
  | cons a l ih =>
    simp only [Nt.closeN, List.length_cons]
    have := ih (S.close1 a)
    split <;> omega
theorem set_self {α : Type} {X : List α} {i : Nat} {x : α} (h : X[i]? = some x) : X.set i x = X := by
  apply List.ext_getElem?
  intro j
  rw [List.getElem?_set]
  split
  · subst j
    split
    · exact h.symm
    · rw [List.getElem?_eq_none (by omega)]
  · rfl
/-- One is closed: the stores of it. -/
theorem close_of {w1 : World} {g m i : Nat} {vc : Value} {X : List Cb} {S : Nt} {x : Cb} {s : Cn} {b : Int} (h : NetF w1 g vc X S m) (hx : X[i]? = some x) (hs : S.L[i]? = some s) (ho : s.opn = true) (hb : b = ((opens S.L : Nat) : Int) - 1) :
    NetTo w1 (((w1.setCell ⟨x.b, 1, none⟩ (.bool false)).setCell ⟨x.b, 5, none⟩ (.slice none 0 0)).setCell ⟨g, 5, none⟩ (.int .i64 b)) g (nfoot g vc X) (S.upd i { s with opn := false, inn := [] }) m := by
  have hc := h.cs.at_ _ x s hx hs
  have hlt := (List.getElem?_eq_some_iff.1 hs).1
  have hgx : g ∉ x.ft := fun hk => h.cs.row h.row (by decide) (by decide) (mem_fts.2 ⟨_, x, hx, hk⟩)
  have hgb : g ≠ x.b := fun e => hgx ((x.mem_ft g).2 (.inl e))
  have hxb : x.b ∈ x.ft := (x.mem_ft _).2 (.inl rfl)
  have hq : CnTo KP w1 ((w1.setCell ⟨x.b, 1, none⟩ (.bool false)).setCell ⟨x.b, 5, none⟩ (.slice none 0 0)) x { s with opn := false, inn := [] } := by
    refine CnTo.nil (s := { s with opn := false }) (CnTo.put (CnTo.refl hc) 1 (.bool false) (fun _ => rfl) (cbs_all rfl rfl rfl)) 0 5 (fun _ => rfl) ?_ rfl
    intro j hj
    match j, hj with
    | 1, _ => rfl
    | 2, _ => rfl
  obtain ⟨x', h1, h2, h3, h4⟩ := hq
  have hgx' : g ∉ x'.ft := fun hk => (h4 g hk).elim hgx fun hk => by have := h.row.lt; omega
  have h5 : CnA KP (((w1.setCell ⟨x.b, 1, none⟩ (.bool false)).setCell ⟨x.b, 5, none⟩ (.slice none 0 0)).setCell ⟨g, 5, none⟩ (.int .i64 b)) x' { s with opn := false, inn := [] } :=
    h1.keep fun k hk => heap_setCell_other _ ⟨g, 5, none⟩ k _ (fun e => hgx' (by have : k = g := e; rw [← this]; exact hk))
  have hM : Mods (g :: x.ft) w1 (((w1.setCell ⟨x.b, 1, none⟩ (.bool false)).setCell ⟨x.b, 5, none⟩ (.slice none 0 0)).setCell ⟨g, 5, none⟩ (.int .i64 b)) :=
    (h3.more fun k hk => .inl (List.mem_cons_of_mem _ hk)).setCell (.inl (by simp)) _
  have hoff := opens_off (s' := { s with opn := false, inn := [] }) hs ho rfl
  have hrow : Row (((w1.setCell ⟨x.b, 1, none⟩ (.bool false)).setCell ⟨x.b, 5, none⟩ (.slice none 0 0)).setCell ⟨g, 5, none⟩ (.int .i64 b)) g 86 #[.int .i64 S.back, .bool S.stop, .int .i64 S.fail, vc, .int .i64 S.first, .int .i64 (opens (S.upd i { s with opn := false, inn := [] }).L : Nat)] := by
    have := ((h.row.far (p := ⟨x.b, 1, none⟩) hgb (.bool false)).far (p := ⟨x.b, 5, none⟩) hgb (.slice none 0 0)).set 5 (.int .i64 b)
    have e : b = ((opens (S.upd i { s with opn := false, inn := [] }).L : Nat) : Int) := by
      simp only [Nt.upd, Int.toNat_natCast]
      omega
    rw [← e]
    simpa using this
  have hf := h.ok.at_ hs
  have hok : (S.upd i { s with opn := false, inn := [] }).Ok m := h.ok.upd (Nat.le_refl _) h.ok.mm (by simp only [List.length_nil]; omega) (fun hq => by simp at hq)
  refine ⟨_, ⟨vc, _, rfl, h.turn2 (S' := S.upd i { s with opn := false, inn := [] }) hx hs h5 h2 hM h4 hrow (by simp [Nt.upd]) hok⟩, hM.more (F2 := nfoot g vc X) fun k hk => .inl ?_, fun k hk => ?_⟩
  · rcases List.mem_cons.1 hk with rfl | hk
    · simp [nfoot]
    · exact ft_sub hx k hk
  · simp only [nfoot, List.mem_cons, List.mem_append] at hk ⊢
    rcases hk with hk | hk | hk
    · exact .inl (.inl hk)
    · exact .inl (.inr (.inl hk))
    · rcases fts_set hx h4 k hk with h | h
      · exact .inl (.inr (.inr h))
      · exact .inr h
theorem NetTo.trans {w w1 w2 : World} {g n : Nat} {F F1 : List Nat} {S : Nt} (hm : Mods F w w1) (hf : ∀ k ∈ F1, k ∈ F ∨ w.heap.size ≤ k) (h : NetTo w1 w2 g F1 S n) : NetTo w w2 g F S n := by
  obtain ⟨F', h1, h2, h3⟩ := h
  refine ⟨F', h1, hm.trans h2 hf, fun k hk => ?_⟩
  rcases h3 k hk with h | h
  · exact hf k h
  · exact .inr (Nat.le_trans hm.size h)
theorem close_nil (w : World) (k c : Nat) (A : Option Addr) (l : List Int) (hl : NumsAt w [] A l) (hk : k = l.length) (hl2 : l.length ≤ 1000000) :
    Calls Tryd.prog 40 #[.pointer none, .slice A k c] w fun e w' => e = .returned (.int .i64 0) ∧ w = w' := by
  subst hk
  have HL := Lib.hid hl
  have hn := neq_cnil
  clear hl
  go_enter Tryd.func40, Tryd.ntmps40
  go_wp2
  go_loop [5, 7, 8, 11] (fun n y x i => ∃ j : Nat, j ≤ l.length ∧ i = .int .i64 j ∧ n = .int .i64 0) (fun _ _ _ i => l.length - (intOf i).toNat)
  case atStart => exact ⟨0, Nat.zero_le _, rfl, rfl⟩
  case round =>
    obtain ⟨j, hj, rfl, rfl⟩ := hrel
    by_cases hlt : j < l.length
    · obtain ⟨b, o, rfl, _, hb, cc⟩ := HL.out j l[j] (List.getElem?_eq_getElem hlt)
      obtain ⟨x, hx⟩ : ∃ x, x = l[j] := ⟨_, rfl⟩
      rw [← hx] at cc
      clear hx
      go_wp2_with fail
      refine (find_nil _ _).mono ?_
      rintro e w' ⟨rfl, rfl⟩
      go_wp2
      go_round
      case rel => exact ⟨j + 1, by omega, by go_num, rfl⟩
      case measure => simp [intOf]; omega
    · go_wp2
      go_ret
      exact ⟨rfl, rfl⟩
set_option maxHeartbeats 1000000 in
theorem close_any (w : World) (g m k c : Nat) (F : List Nat) (S : Nt) (A : Option Addr) (l : List Int) (h : NetA w g F S m) (hl : NumsAt w F A l) (hk : k = l.length) (hl2 : l.length ≤ 1000000) :
    Calls Tryd.prog 40 #[.pointer (some ⟨g, 0, none⟩), .slice A k c] w fun e w' => e = .returned (.int .i64 (S.closeN l : Nat)) ∧ Hid (NetTo w w' g F (S.close l) m) := by
  subst hk
  have HL := Lib.hid hl
  have HH := Lib.hid h
  have hn := neq_cnil
  clear hl h
  go_enter Tryd.func40, Tryd.ntmps40
  go_wp2
  go_loopw [5, 7, 8, 11] (fun n y x i wr => ∃ j : Nat, j ≤ l.length ∧ i = .int .i64 j ∧ n = .int .i64 (S.closeN (l.take j) : Nat) ∧ Hid (NetTo w wr g F (S.close (l.take j)) m)) (fun _ _ _ i _ => l.length - (intOf i).toNat)
  case atStart => exact ⟨0, Nat.zero_le _, rfl, rfl, Lib.hid (NetTo.same HH.out (Mods.refl _ _))⟩
  case round =>
    obtain ⟨j, hj, rfl, rfl, hd⟩ := hrel
    have hcl := Nt.closeN_le S (l.take j)
    rw [List.length_take] at hcl
    obtain ⟨q, hq⟩ : ∃ q, q = S.closeN (l.take j) := ⟨_, rfl⟩
    rw [← hq] at hcl ⊢
    obtain ⟨S1, hS1⟩ : ∃ S1, S1 = S.close (l.take j) := ⟨_, rfl⟩
    rw [← hS1] at hd
    by_cases hlt : j < l.length
    · obtain ⟨F1, hA, hM, hF1⟩ := hd.out
      obtain ⟨b, o, rfl, _, hb, cc⟩ := HL.out.mods hM j l[j] (List.getElem?_eq_getElem hlt)
      have hsn : l.take (j + 1) = l.take j ++ [l[j]] := List.take_succ_eq_append_getElem hlt
      have HSC := Lib.hid (show S.close (l.take (j + 1)) = S1.close1 l[j] by rw [hsn, Nt.close_snoc, ← hS1])
      have HSN := Lib.hid (show S.closeN (l.take (j + 1)) = q + if S1.isO l[j] then 1 else 0 by rw [hsn, Nt.closeN_snoc, ← hS1, ← hq])
      obtain ⟨y, hy⟩ : ∃ y, y = l[j] := ⟨_, rfl⟩
      rw [← hy] at cc HSC HSN
      have HTR := Lib.hid (fun (w2 : World) (S2 : Nt) (hto : NetTo wr w2 g F1 S2 m) => NetTo.trans hM hF1 hto)
      have HSM := Lib.hid (fun (w2 : World) (hm2 : Mods [] wr w2) => NetTo.same hA hm2)
      clear hd hy hq hS1 hsn hb
      cases hs : S1.at? y with
      | none =>
        have HF := Lib.hid (find_no wr g m F1 S1 y hA (Nt.at_none hs))
        have hio : S1.isO y = false := by unfold Nt.isO; rw [Nt.get_none hs]; rfl
        have HS1 := Lib.hid (show S.close (l.take (j + 1)) = S1 by rw [HSC.out]; unfold Nt.close1; rw [hio]; rfl)
        have HN1 := Lib.hid (show S.closeN (l.take (j + 1)) = q by rw [HSN.out, hio]; rfl)
        clear hA hM hF1 hs hio
        go_wp2_with fail
        refine HF.out.mono ?_
        rintro e w' ⟨rfl, rfl⟩
        go_wp2
        go_roundw
        case rel => exact ⟨j + 1, by omega, by go_num, by rw [HN1.out], Lib.hid (by rw [HS1.out]; exact HTR.out _ _ (HSM.out _ (Mods.refl _ _)))⟩
        case measure => simp [intOf]; omega
      | some s =>
        have hg := Nt.get_some hs
        obtain ⟨i, rfl, h1, h2⟩ := Nt.at_some hs
        obtain ⟨vc, X, rfl, hA⟩ := hA
        obtain ⟨x, hx⟩ := hA.cs.at1 h1
        have HF := Lib.hid (find_at wr g m i vc X S1 x hA hx)
        have hc := hA.cs.at_ i x s hx h1
        have c1 := hc.row.cell 1
        have c5 := hc.row.cell 5
        simp only [KP] at c1 c5
        have fx := hc.row.free
        cases ho : s.opn with
        | false =>
          rw [ho] at c1
          have hio : S1.isO i = false := by unfold Nt.isO; rw [hg]; exact ho
          have HS1 := Lib.hid (show S.close (l.take (j + 1)) = S1 by rw [HSC.out]; unfold Nt.close1; rw [hio]; rfl)
          have HN1 := Lib.hid (show S.closeN (l.take (j + 1)) = q by rw [HSN.out, hio]; rfl)
          clear hA hM hF1 hs hio hc hx h1 hg ho
          go_wp2_with fail
          refine HF.out.mono ?_
          rintro e w' ⟨rfl, rfl⟩
          go_wp2
          go_roundw
          case rel => exact ⟨j + 1, by omega, by go_num, by rw [HN1.out], Lib.hid (by rw [HS1.out]; exact HTR.out _ _ (HSM.out _ (Mods.refl _ _)))⟩
          case measure => simp [intOf]; omega
        | true =>
          rw [ho] at c1
          have hio : S1.isO i = true := by unfold Nt.isO; rw [hg]; exact ho
          have HS1 := Lib.hid (show S.close (l.take (j + 1)) = S1.upd i { s with opn := false, inn := [] } by rw [HSC.out]; unfold Nt.close1; rw [hio, hg]; rfl)
          have HN1 := Lib.hid (show S.closeN (l.take (j + 1)) = q + 1 by rw [HSN.out, hio]; rfl)
          have HCO := Lib.hid (close_of (b := ((opens S1.L : Nat) : Int) - 1) hA hx h1 ho rfl)
          have g5 := hA.row.cell 5
          have fg := hA.row.free
          have hgx : g ∉ x.ft := fun hk => hA.cs.row hA.row (by decide) (by decide) (mem_fts.2 ⟨_, x, hx, hk⟩)
          have hgb : g ≠ x.b := fun e => hgx ((x.mem_ft g).2 (.inl e))
          have hgb2 : x.b ≠ g := hgb.symm
          have hop := opens_le S1.L
          have hl5 := hA.ok.n2
          clear hA hM hF1 hs hio hc hx h1 hg ho hgx
          go_wp2_with fail
          refine HF.out.mono ?_
          rintro e w' ⟨rfl, rfl⟩
          go_wp2
          go_roundw
          case rel => exact ⟨j + 1, by omega, by go_num, by rw [HN1.out]; go_num, Lib.hid (by rw [HS1.out]; exact HTR.out _ _ HCO.out)⟩
          case measure => simp [intOf]; omega
    · have HK := Lib.hid (show l.take j = l from List.take_of_length_le (by omega))
      rw [HK.out] at hq hS1
      have HE := Lib.hid (show q = S.closeN l from hq)
      have HE2 := Lib.hid (show S1 = S.close l from hS1)
      clear hq hS1
      go_wp2
      go_ret
      rw [← HE.out, ← HE2.out]
      exact ⟨rfl, hd⟩
end Go.Proofs.YthaapkafamdhcaaDoor

/- What Stop of the program's net does. -/
namespace Go.Proofs.YthaapkafamdhcaaDoor
open Go.RowKit
set_option maxRecDepth 10000
set_option linter.unusedVariables false
set_option linter.unusedSimpArgs false

/-- The first k of those who wait are broken. -/
def brkTo (S : Nt) (k : Nat) : Nt := { S with stop := true, L := S.L.take S.first ++ ((S.L.drop S.first).take k).map Cn.break_ ++ (S.L.drop S.first).drop k }
theorem brkTo_len (S : Nt) (k : Nat) : (brkTo S k).L.length = S.L.length := by
  simp only [brkTo, List.length_append, List.length_map, List.length_take, List.length_drop]
  omega
theorem brkTo_zero (S : Nt) : brkTo S 0 = { S with stop := true } := by
  simp [brkTo]
theorem brkTo_at (S : Nt) (k : Nat) {s : Cn} (h1 : S.first ≤ S.L.length) (hs : S.L[S.first + k]? = some s) : (brkTo S k).L[S.first + k]? = some s := by
  have hlt := (List.getElem?_eq_some_iff.1 hs).1
  have hl : (S.L.take S.first ++ ((S.L.drop S.first).take k).map Cn.break_).length = S.first + k := by
    simp only [List.length_append, List.length_map, List.length_take, List.length_drop]; omega
  simp only [brkTo]
  rw [List.getElem?_append_right (by omega), hl, Nat.sub_self, List.getElem?_drop, List.getElem?_drop]
  simpa using hs
theorem brkTo_succ (S : Nt) (k : Nat) {s : Cn} (h1 : S.first ≤ S.L.length) (hs : S.L[S.first + k]? = some s) : brkTo S (k + 1) = (brkTo S k).upd ((S.first + k : Nat) : Int) s.break_ := by
  have hlt := (List.getElem?_eq_some_iff.1 hs).1
  have hl : (S.L.take S.first ++ ((S.L.drop S.first).take k).map Cn.break_).length = S.first + k := by
    simp only [List.length_append, List.length_map, List.length_take, List.length_drop]; omega
  have hd : (S.L.drop S.first)[k]? = some s := by rw [List.getElem?_drop]; exact hs
  have hk : k < (S.L.drop S.first).length := by rw [List.length_drop]; omega
  have hs' : (S.L.drop S.first)[k] = s := by rw [List.getElem?_eq_getElem hk] at hd; injection hd
  unfold Nt.upd
  simp only [brkTo, Int.toNat_natCast]
  congr 1
  rw [List.take_succ_eq_append_getElem hk, hs', List.map_append, List.set_append_right _ _ (by omega), hl, Nat.sub_self, List.drop_eq_getElem_cons hk, hs', List.set_cons_zero]
  simp
theorem brkTo_all (S : Nt) (h1 : S.first ≤ S.L.length) : { brkTo S (S.L.length - S.first) with first := S.L.length } = S.stopped := by
  have e : (S.L.drop S.first).length = S.L.length - S.first := List.length_drop
  simp only [brkTo, Nt.stopped]
  rw [← e, List.take_length, List.drop_length]
  simp
theorem stop_nil (w : World) : Calls Tryd.prog 47 #[.pointer none] w fun e w' => e = .returned (.tuple #[]) ∧ w = w' := by
  have hn := eql_nnil
  go_enter Tryd.func47, Tryd.ntmps47
  go_wp2
  refine bodyPost_ret (results_none rfl _ _ _) rfl ?_
  exact ⟨rfl, rfl⟩
/-- What is kept while those who wait are broken. -/
def StopAt (w wr : World) (g m : Nat) (vc : Value) (X : List Cb) (S : Nt) (k : Nat) : Prop :=
  ∃ X', NetF wr g vc X' (brkTo S k) m ∧ pv X' = pv X ∧ Mods (nfoot g vc X) w wr ∧ ∀ b ∈ fts X', b ∈ fts X ∨ w.heap.size ≤ b
theorem stop_quiet {w wr w2 : World} {g m : Nat} {vc : Value} {X : List Cb} {S : Nt} {k : Nat} (h : StopAt w wr g m vc X S k) (hm : Mods [] wr w2) : StopAt w w2 g m vc X S k := by
  obtain ⟨X', h1, h2, h3, h4⟩ := h
  exact ⟨X', h1.keep fun b hb => hm.block b (h1.lt b hb) (by simp), h2, h3.trans hm (by simp), h4⟩
theorem stop_step {w wr : World} {g m n f cc k : Nat} {A B : Option Addr} {X : List Cb} {S : Nt} (h : StopAt w wr g m (.slice A n cc) X S k) (hn : n = S.L.length) (hf : f = S.first) (hB : B = (if cc = f then A else Option.map (fun x => x.add f) A)) (hk : k < n - f) (hc : n ≤ cc) :
    ∃ (b o : Nat) (x : Cb), (B = some ⟨b, o, none⟩ ∧ wr.cell? ⟨b, o + k, none⟩ = some (.pointer (some ⟨x.b, 0, none⟩))) ∧
      Calls Tryd.prog 71 #[.pointer (some ⟨x.b, 0, none⟩)] wr (fun e w' => e = .returned (.tuple #[]) ∧ Hid (CnTo KP wr w' x ((S.L.getD (f + k) none_).break_))) ∧
      ∀ w2, CnTo KP wr w2 x ((S.L.getD (f + k) none_).break_) → StopAt w w2 g m (.slice A n cc) X S (k + 1) := by
  subst hn hf
  obtain ⟨X', hA, hpv, hM, hfts⟩ := h
  have hlt : S.first + k < S.L.length := by omega
  obtain ⟨s, hs⟩ : ∃ s, S.L[S.first + k]? = some s := ⟨_, List.getElem?_eq_getElem hlt⟩
  have hgd : S.L.getD (S.first + k) none_ = s := by rw [List.getD_eq_getElem?_getD, hs]; rfl
  rw [hgd]
  have hn1 : S.first ≤ S.L.length := by omega
  have hs2 := brkTo_at S k hn1 hs
  obtain ⟨x, hx⟩ := hA.cs.at1 hs2
  have hcut := hA.ptr.cut S.first hn1
  rw [← hB] at hcut
  obtain ⟨b, o, hBe, hcell⟩ := hcut.src k (.pointer (some ⟨x.b, 0, none⟩)) (by rw [List.getElem?_drop]; exact pv_at hx)
  have hcn := hA.cs.at_ _ x s hx hs2
  refine ⟨b, o, x, ⟨hBe, hcell⟩, break_any wr x s hcn, fun w2 hq => ?_⟩
  obtain ⟨x2, q1, q2, q3, q4⟩ := hq
  have hsf := hA.ok.at_ hs2
  have hok : ((brkTo S k).upd ((S.first + k : Nat) : Int) s.break_).Ok m := hA.ok.upd (Nat.le_refl _) hA.ok.mm (by simp only [Cn.break_, List.length_nil]; omega) (fun hq => hA.ok.op _ s hs2 hq)
  have ht := hA.turn hx hs2 q1 q2 q3 q4 hok rfl
  rw [← brkTo_succ S k hn1 hs] at ht
  refine ⟨_, ht, by rw [pv_set hx q2]; exact hpv, hM.trans q3 fun b hb => ?_, fun b hb => ?_⟩
  · rcases hfts b (mem_fts.2 ⟨_, x, hx, hb⟩) with h | h
    · left
      simp only [nfoot, List.mem_cons, List.mem_append]
      exact .inr (.inr h)
    · exact .inr h
  · rcases fts_set hx q4 b hb with h | h
    · exact hfts b h
    · exact .inr (Nat.le_trans hM.size h)
theorem stop_end {w wr : World} {g m n f : Nat} {vc : Value} {X X' : List Cb} {S : Nt} (hA : NetF wr g vc X' (brkTo S (n - f)) m) (hM : Mods (nfoot g vc X) w wr) (hfts : ∀ b ∈ fts X', b ∈ fts X ∨ w.heap.size ≤ b) (hn : n = S.L.length) (hf : f = S.first) (h1 : f ≤ n) :
    NetTo w (wr.setCell ⟨g, 4, none⟩ (.int .i64 (n : Nat))) g (nfoot g vc X) S.stopped m := by
  subst hn hf
  have hl := brkTo_len S (S.L.length - S.first)
  have hN := hA.put (S' := { brkTo S (S.L.length - S.first) with first := S.L.length }) 4 (.int .i64 (S.L.length : Nat)) (by
    have := hA.row.set 4 (.int .i64 (S.L.length : Nat))
    simpa using this) rfl ⟨hA.ok.b1, hA.ok.b2, hA.ok.f1, hA.ok.f2, by simp only; omega, hA.ok.n2, hA.ok.cn, fun j s hj hop => by
      have h2 := hA.ok.op j s hj hop
      have h3 : (brkTo S (S.L.length - S.first)).first = S.first := rfl
      simp only
      omega, hA.ok.mm⟩
  rw [brkTo_all S h1] at hN
  refine ⟨_, ⟨vc, X', rfl, hN⟩, hM.setCell (.inl (by simp [nfoot])) _, fun k hk => ?_⟩
  simp only [nfoot, List.mem_cons, List.mem_append] at hk ⊢
  rcases hk with hk | hk | hk
  · exact .inl (.inl hk)
  · exact .inl (.inr (.inl hk))
  · rcases hfts k hk with h | h
    · exact .inl (.inr (.inr h))
    · exact .inr h
set_option maxHeartbeats 1000000 in
theorem stop_any (w : World) (g m : Nat) (F : List Nat) (S : Nt) (h : NetA w g F S m) :
    Calls Tryd.prog 47 #[.pointer (some ⟨g, 0, none⟩)] w fun e w' => e = .returned (.tuple #[]) ∧ Hid (NetTo w w' g F S.stopped m) := by
  obtain ⟨vc, X, rfl, h⟩ := h
  obtain ⟨A, cc, rfl, hcc1, hcc2⟩ := h.slice
  have hn := eql_nnil
  have c1 := h.row.cell 1
  have c3 := h.row.cell 3
  have c4 := h.row.cell 4
  have f0 := h.row.free
  have h1 := h.ok.n1
  have h2 := h.ok.n2
  unfold maxLen at hcc2
  have HH := Lib.hid h
  obtain ⟨B, hB⟩ : ∃ B, B = (if cc = S.first then A else Option.map (fun x => x.add S.first) A) := ⟨_, rfl⟩
  have hoff := hB.symm
  have HB := Lib.hid hB
  have HSZ := Lib.hid (show Hid (StopAt w (w.setCell ⟨g, 1, none⟩ (.bool true)) g m (.slice A S.L.length cc) X S 0) from Lib.hid ⟨X, by
    rw [brkTo_zero]
    refine h.put 1 _ ?_ rfl ⟨h.ok.b1, h.ok.b2, h.ok.f1, h.ok.f2, h.ok.n1, h.ok.n2, h.ok.cn, h.ok.op, h.ok.mm⟩
    have := h.row.set 1 (.bool true)
    simpa using this, rfl, (Mods.refl _ _).setCell (.inl (by simp [nfoot])) _, fun b hb => .inl hb⟩)
  obtain ⟨n, hn0⟩ : ∃ n, n = S.L.length := ⟨_, rfl⟩
  obtain ⟨f, hf0⟩ : ∃ f, f = S.first := ⟨_, rfl⟩
  rw [← hn0] at c3 HSZ hcc1 h1 h2 HH ⊢
  rw [← hf0] at c4 hoff HB h1
  have HN := Lib.hid hn0
  have HFF := Lib.hid hf0
  clear h hB hn0 hf0
  go_enter Tryd.func47, Tryd.ntmps47
  go_wp2_with fail
  go_quiet (fail)
  go_wp2_with fail
  go_loopw [3, 19] (fun y i wr => ∃ k : Nat, k ≤ n - f ∧ i = .int .i64 k ∧ Hid (StopAt w wr g m (.slice A n cc) X S k)) (fun _ i _ => (n - f) - (intOf i).toNat)
  case atStart => exact ⟨0, Nat.zero_le _, rfl, Lib.hid (stop_quiet HSZ.out.out ((Mods.refl _ _).drewN _))⟩
  case round =>
    obtain ⟨k, hk, rfl, hd⟩ := hrel
    by_cases hlt : k < n - f
    · obtain ⟨b, o, x, hcell, HB2, HS2⟩ := stop_step (B := B) hd.out HN.out HFF.out HB.out hlt hcc1
      obtain ⟨rfl, hcell⟩ := hcell
      have HBR := Lib.hid HB2
      have HST := Lib.hid HS2
      clear hd HB2 HS2 hoff
      go_wp2_with fail
      refine HBR.out.mono ?_
      rintro e w2 ⟨rfl, hq⟩
      have HT := Lib.hid (HST.out _ hq.out)
      clear hq
      go_wp2
      go_roundw
      case rel => exact ⟨k + 1, by omega, by go_num, HT⟩
      case measure => simp [intOf]; omega
    · have hkn : k = n - f := by omega
      subst hkn
      obtain ⟨X', hA, hpv, hM, hfts⟩ := hd.out
      have d3 : wr.cell? ⟨g, 3, none⟩ = some (.slice A n cc) := hA.row.cell 3
      have d4 := hA.row.cell 4
      have fr := hA.row.free
      have HE := Lib.hid (stop_end hA hM hfts HN.out HFF.out h1)
      clear hd hA hpv hM hfts hoff c1 c3 c4 f0
      go_wp2
      go_end0
      exact ⟨rfl, HE⟩
end Go.Proofs.YthaapkafamdhcaaDoor

/- The reference's net in memory, over the same plain network, and what New, theirs, ours, breaks of it do. -/
namespace Go.Proofs.YthaapkafamdhcaaDoor
open Go.RowKit
set_option maxRecDepth 10000
set_option linter.unusedVariables false
set_option linter.unusedSimpArgs false

/-- The reference's connection: the plain one, and what it keeps beside. -/
structure Rn where
  c : Cn
  wts : Bool
  was : Bool
  inn : List Int
def rbs (r : Rn) (i : Fin 3) : List Int := match i with | 0 => r.inn | 1 => r.c.tak | 2 => r.c.out
def KR : Kd Rn := ⟨146, fun x r => #[.int .i64 r.c.peer, .bool r.wts, .bool r.c.opn, .bool r.was, .bool r.c.brk, .bool r.c.hlv, .bool r.c.sht, x.v 0, x.v 2, x.v 1, .int .i64 r.c.win, .int .i64 r.c.mr, .int .i64 r.c.mw], rbs, by decide⟩
/-- What is kept beside agrees with the plain one; f: the first who waits. -/
structure Ag (f i : Nat) (r : Rn) : Prop where
  wts : r.wts = decide (f ≤ i)
  inn : (decide (i < f) && !r.c.opn) = false → r.inn = r.c.inn
  was : r.c.brk = false → r.was = decide (i < f)
/-- Numbers f, f + 1, .. -/
def lineN (f n : Nat) : List Int := (List.range' f n).map fun (i : Nat) => (i : Int)
theorem lineN_length (f n : Nat) : (lineN f n).length = n := by simp [lineN]
theorem lineN_succ (f n : Nat) : lineN f (n + 1) = (f : Int) :: lineN (f + 1) n := by simp [lineN, List.range'_succ]
theorem lineN_snoc (f n : Nat) : lineN f n ++ [((f + n : Nat) : Int)] = lineN f (n + 1) := by
  unfold lineN
  rw [List.range'_concat]
  simp
theorem lineN_at (f n i : Nat) (h : i < n) : (lineN f n)[i]? = some ((f + i : Nat) : Int) := by
  unfold lineN
  rw [List.getElem?_map, List.getElem?_range' h]
  simp
/-- The net behind pointer g. -/
structure RefF (w : World) (g : Nat) (vl vn : Value) (X : List Cb) (R : List Rn) (S : Nt) (m : Nat) : Prop where
  row : Row w g 89 #[.int .i64 S.back, vl, vn, .int .i64 S.fail, .bool S.stop, .int .i64 (S.L.length : Nat)]
  ptr : Own w 147 vl (pv X)
  num : Own w 3 vn (iv (lineN S.first (S.L.length - S.first)))
  cs : Cs KR w X R
  ag : R.map (·.c) = S.L
  st : ∀ (i : Nat) (r : Rn), R[i]? = some r → Ag S.first i r
  ok : S.Ok m
def rfoot (g : Nat) (vl vn : Value) (X : List Cb) : List Nat := g :: (vl.ownBlock.toList ++ (vn.ownBlock.toList ++ fts X))
def RefA (w : World) (g : Nat) (F : List Nat) (S : Nt) (m : Nat) : Prop := ∃ vl vn X R, F = rfoot g vl vn X ∧ RefF w g vl vn X R S m
theorem mem_rfoot {g k : Nat} {vl vn : Value} {X : List Cb} : k ∈ rfoot g vl vn X ↔ k = g ∨ k ∈ vl.ownBlock.toList ∨ k ∈ vn.ownBlock.toList ∨ k ∈ fts X := by simp only [rfoot, List.mem_cons, List.mem_append]
section
variable {w w' : World} {g m n i : Nat} {vl vn : Value} {X : List Cb} {R : List Rn} {S : Nt} {F : List Nat} {x x' : Cb} {r r' : Rn}
theorem RefF.keep (h : RefF w g vl vn X R S m) (e : ∀ k ∈ rfoot g vl vn X, w'.heap[k]? = w.heap[k]?) : RefF w' g vl vn X R S m :=
  ⟨h.row.keep (e _ (mem_rfoot.2 (.inl rfl))), h.ptr.keep (fun k hk => e k (mem_rfoot.2 (.inr (.inl hk)))), h.num.keep (fun k hk => e k (mem_rfoot.2 (.inr (.inr (.inl hk))))), h.cs.keep (fun k hk => e k (mem_rfoot.2 (.inr (.inr (.inr hk))))), h.ag, h.st, h.ok⟩
theorem RefF.lt (h : RefF w g vl vn X R S m) : ∀ k ∈ rfoot g vl vn X, k < w.heap.size := by
  intro k hk
  rcases mem_rfoot.1 hk with rfl | hk | hk | hk
  · exact h.row.lt
  · exact h.ptr.lt k hk
  · exact h.num.lt k hk
  · exact h.cs.lt k hk
theorem RefA.keep (h : RefA w g F S m) (e : ∀ k ∈ F, w'.heap[k]? = w.heap[k]?) : RefA w' g F S m := by
  obtain ⟨vl, vn, X, R, rfl, h⟩ := h
  exact ⟨vl, vn, X, R, rfl, h.keep e⟩
theorem RefA.lt (h : RefA w g F S m) : ∀ k ∈ F, k < w.heap.size := by
  obtain ⟨vl, vn, X, R, rfl, h⟩ := h
  exact h.lt
theorem RefA.mods {G : List Nat} (h : RefA w g F S m) (hm : Mods G w w') (hd : ∀ k ∈ F, k ∉ G) : RefA w' g F S m :=
  h.keep fun k hk => hm.block k (h.lt k hk) (hd k hk)
theorem RefA.quiet (h : RefA w g F S m) (hm : Mods [] w w') : RefA w' g F S m := h.mods hm (by simp)
theorem RefA.ok (h : RefA w g F S m) : S.Ok m := by obtain ⟨vl, vn, X, R, rfl, h⟩ := h; exact h.ok
theorem RefA.more (h : RefA w g F S m) (hmn : m ≤ n) (hn : n ≤ 900000000) : RefA w g F S n := by
  obtain ⟨vl, vn, X, R, rfl, h⟩ := h
  exact ⟨vl, vn, X, R, rfl, h.row, h.ptr, h.num, h.cs, h.ag, h.st, h.ok.more hmn hn⟩
theorem RefF.len (h : RefF w g vl vn X R S m) : X.length = S.L.length := by rw [h.cs.len, ← h.ag, List.length_map]
theorem RefF.slice (h : RefF w g vl vn X R S m) : ∃ A c, vl = .slice A S.L.length c ∧ S.L.length ≤ c ∧ c ≤ maxLen := by
  obtain ⟨A, c, rfl, h1, h2⟩ := h.ptr.slice
  rw [pv_length, h.len] at *
  exact ⟨A, c, rfl, h1, h2⟩
theorem RefF.line (h : RefF w g vl vn X R S m) : ∃ A c, vn = .slice A (S.L.length - S.first) c ∧ S.L.length - S.first ≤ c ∧ c ≤ maxLen := by
  obtain ⟨A, c, rfl, h1, h2⟩ := h.num.slice
  rw [show (iv (lineN S.first (S.L.length - S.first))).length = S.L.length - S.first by simp [iv, lineN_length]] at *
  exact ⟨A, c, rfl, h1, h2⟩
theorem RefF.cell {A : Option Addr} {n c : Nat} (h : RefF w g (.slice A n c) vn X R S m) (hx : X[i]? = some x) : ∃ b o, A = some ⟨b, o, none⟩ ∧ w.cell? ⟨b, o + i, none⟩ = some (.pointer (some ⟨x.b, 0, none⟩)) :=
  h.ptr.src i _ (pv_at hx)
theorem RefF.at_ (h : RefF w g vl vn X R S m) {s : Cn} (hs : S.L[i]? = some s) : ∃ x r, X[i]? = some x ∧ R[i]? = some r ∧ r.c = s ∧ CnA KR w x r ∧ Ag S.first i r := by
  rw [← h.ag, List.getElem?_map] at hs
  cases hr : R[i]? with
  | none => rw [hr] at hs; cases hs
  | some r =>
    rw [hr] at hs
    injection hs with hs
    obtain ⟨x, hx⟩ := h.cs.at1 hr
    exact ⟨x, r, hx, rfl, hs, h.cs.at_ i x r hx hr, h.st i r hr⟩
theorem RefF.g_fts (h : RefF w g vl vn X R S m) : g ∉ fts X := h.cs.row h.row (by decide) (by decide)
theorem RefF.vl_fts (h : RefF w g vl vn X R S m) : ∀ k ∈ vl.ownBlock.toList, k ∉ fts X := h.cs.slice h.ptr (by decide) (by decide)
theorem RefF.vn_fts (h : RefF w g vl vn X R S m) : ∀ k ∈ vn.ownBlock.toList, k ∉ fts X := h.cs.slice h.num (by decide) (by decide)
theorem map_set_c (R : List Rn) (i : Nat) (r : Rn) : (R.set i r).map (·.c) = (R.map (·.c)).set i r.c := by rw [List.map_set]
/-- One connection has turned. -/
theorem RefF.turn (h : RefF w g vl vn X R S m) (hx : X[i]? = some x) (hr : R[i]? = some r) (hc : CnA KR w' x' r') (hb : x'.b = x.b) (hm : Mods x.ft w w') (hf : ∀ k ∈ x'.ft, k ∈ x.ft ∨ w.heap.size ≤ k)
    (ha : Ag S.first i r') (hk : (S.upd i r'.c).Ok n) : RefF w' g vl vn (X.set i x') (R.set i r') (S.upd i r'.c) n := by
  have hsub : ∀ k ∈ x.ft, k ∈ fts X := fun k hk => mem_fts.2 ⟨i, x, hx, hk⟩
  have hrow : Row w' g _ _ := h.row.mods hm fun hk => h.g_fts (hsub _ hk)
  refine ⟨?_, ?_, ?_, h.cs.turn hx hc hm hf, ?_, fun j r2 hj => ?_, hk⟩
  · simp only [Nt.upd, Int.toNat_natCast, List.length_set]
    exact hrow
  · rw [pv_set hx hb]
    exact h.ptr.mods hm fun k hk hk2 => h.vl_fts k hk (hsub k hk2)
  · simp only [Nt.upd, Int.toNat_natCast, List.length_set]
    exact h.num.mods hm fun k hk hk2 => h.vn_fts k hk (hsub k hk2)
  · rw [map_set_c, h.ag]
    simp [Nt.upd]
  · rw [List.getElem?_set] at hj
    split at hj
    · split at hj
      · injection hj with hj
        subst hj
        rename_i e _
        rw [← e]
        exact ha
      · cases hj
    · exact h.st j r2 hj
/-- What a call leaves. -/
def RefTo (w w' : World) (g : Nat) (F : List Nat) (S : Nt) (m : Nat) : Prop := ∃ F', RefA w' g F' S m ∧ Mods F w w' ∧ ∀ k ∈ F', k ∈ F ∨ w.heap.size ≤ k
theorem ft_rsub (hx : X[i]? = some x) : ∀ k ∈ x.ft, k ∈ rfoot g vl vn X := fun k hk => mem_rfoot.2 (.inr (.inr (.inr (mem_fts.2 ⟨i, x, hx, hk⟩))))
theorem rfoot_set (hx : X[i]? = some x) {n : Nat} (hf : ∀ k ∈ x'.ft, k ∈ x.ft ∨ n ≤ k) : ∀ k ∈ rfoot g vl vn (X.set i x'), k ∈ rfoot g vl vn X ∨ n ≤ k := fun k hk => by
  rcases mem_rfoot.1 hk with h | h | h | h
  · exact .inl (mem_rfoot.2 (.inl h))
  · exact .inl (mem_rfoot.2 (.inr (.inl h)))
  · exact .inl (mem_rfoot.2 (.inr (.inr (.inl h))))
  · rcases fts_set hx hf k h with h | h
    · exact .inl (mem_rfoot.2 (.inr (.inr (.inr h))))
    · exact .inr h
theorem RefF.toC (h : RefF w g vl vn X R S m) (hx : X[i]? = some x) (hr : R[i]? = some r) (hc : CnTo KR w w' x r') (ha : Ag S.first i r') (hk : (S.upd i r'.c).Ok n) : RefTo w w' g (rfoot g vl vn X) (S.upd i r'.c) n := by
  obtain ⟨x', h1, h2, h3, h4⟩ := hc
  exact ⟨_, ⟨vl, vn, _, _, rfl, h.turn hx hr h1 h2 h3 h4 ha hk⟩, h3.more fun k hk => .inl (ft_rsub hx k hk), rfoot_set hx h4⟩
theorem RefTo.same (h : RefA w g F S m) (hm : Mods [] w w') : RefTo w w' g F S m := ⟨F, h.quiet hm, hm.more (by simp), fun k hk => .inl hk⟩
theorem RefTo.quiet {w1 : World} (h : RefTo w w1 g F S m) (hm : Mods [] w1 w') : RefTo w w' g F S m := by
  obtain ⟨F', h1, h2, h3⟩ := h
  exact ⟨F', h1.quiet hm, h2.trans hm (by simp), h3⟩
end
theorem rbs_all {P : Fin 3 → Prop} (h0 : P 0) (h1 : P 1) (h2 : P 2) : ∀ j, P j := fun j => by match j with | 0 => exact h0 | 1 => exact h1 | 2 => exact h2
theorem eql_rnil (p : Option Addr) (w : World) : (binOp .eql 31 (.pointer p) (.pointer none)).run Tryd.prog w = .ok (.bool p.isNone) w :=
  run_eql_pointer_nil _ _ _ (by kernel_rfl)
theorem rnew_no (b : Int) (w : World) (h : b < 1 ∨ 64 < b) : Calls Tryd.prog 10 #[.int .i64 b] w fun e w' => e = .returned (.tuple #[.pointer none, .int .i64 1]) ∧ w = w' := by
  by_cases h1 : b < 1
  · go_enter Tryd.func10, Tryd.ntmps10
    go_wp2
    go_ret2
    exact ⟨rfl, rfl⟩
  · have h2 : 64 < b := by omega
    clear h
    go_enter Tryd.func10, Tryd.ntmps10
    go_wp2
    go_ret2
    exact ⟨rfl, rfl⟩
theorem rnew_any (b : Int) (w : World) (h1 : 1 ≤ b) (h2 : b ≤ 64) : Calls Tryd.prog 10 #[.int .i64 b] w fun e w' =>
    e = .returned (.tuple #[.pointer (some ⟨w.heap.size, 0, none⟩), .int .i64 0]) ∧ RefA w' w.heap.size [w.heap.size] (Nt.new b) 0 ∧ Mods [] w w' := by
  go_enter Tryd.func10, Tryd.ntmps10
  go_wp2
  go_ret2
  refine ⟨rfl, ⟨.slice none 0 0, .slice none 0 0, [], [], rfl, ?_, Own.nil _ _, Own.nil _ _, Cs.nil _, rfl, by simp, ⟨h1, h2, by simp [Nt.new], by simp [Nt.new], by simp [Nt.new], by simp [Nt.new], by simp [Nt.new], by simp [Nt.new], by simp⟩⟩, (Mods.refl _ _).alloc _⟩
  exact Row.new w _ _
theorem breaks_any (w : World) (x : Cb) (r : Rn) (h : CnA KR w x r) :
    Calls Tryd.prog 72 #[.pointer (some ⟨x.b, 0, none⟩)] w fun e w' => e = .returned (.tuple #[]) ∧ Hid (CnTo KR w w' x { r with c := r.c.break_, inn := [] }) := by
  have c4 := h.row.cell 4
  have c7 := h.row.cell 7
  have c10 := h.row.cell 10
  simp only [KR] at c4 c7 c10
  have f0 := h.row.free
  have HH := Lib.hid h
  clear h
  go_enter Tryd.func72, Tryd.ntmps72
  go_wp2
  go_end0
  refine ⟨rfl, Lib.hid ?_⟩
  refine CnTo.put (s := { r with c := { r.c with brk := true }, inn := [] }) (CnTo.nil (s := { r with c := { r.c with brk := true } }) (CnTo.put (CnTo.refl HH.out) 4 (.bool true) (fun _ => rfl) (rbs_all rfl rfl rfl)) 0 7 (fun _ => rfl) ?_ rfl) 10 (.int .i64 0) (fun _ => rfl) (rbs_all rfl rfl rfl)
  intro j hj
  match j, hj with
  | 1, _ => rfl
  | 2, _ => rfl
end Go.Proofs.YthaapkafamdhcaaDoor

/- What theirs, ours of the reference's net answer; Half, Reset, Shut. -/
namespace Go.Proofs.YthaapkafamdhcaaDoor
open Go.RowKit
set_option maxRecDepth 10000
set_option linter.unusedVariables false
set_option linter.unusedSimpArgs false

theorem rtheirs_no (w : World) (g m : Nat) (F : List Nat) (S : Nt) (c : Int) (h : RefA w g F S m) (he : S.e1 c ≠ 0) :
    Calls Tryd.prog 70 #[.pointer (some ⟨g, 0, none⟩), .int .i64 c] w fun e w' => e = .returned (.tuple #[.pointer none, .int .i64 (S.e1 c)]) ∧ w = w' := by
  cases hs : S.at? c with
  | none =>
    have h2 : S.e1 c = 2 := by unfold Nt.e1; rw [hs]
    rw [h2]
    have hcc := Nt.at_none hs
    clear he hs h2
    obtain ⟨vl, vn, X, R, rfl, h⟩ := h
    obtain ⟨A, cc, rfl, -, -⟩ := h.slice
    have c1 := h.row.cell 1
    clear h
    by_cases h0 : c < 0
    · clear hcc
      go_enter Tryd.func70, Tryd.ntmps70
      go_wp2
      go_ret2
      exact ⟨rfl, rfl⟩
    · have h1 : (S.L.length : Int) ≤ c := by omega
      have h3 : decide ((S.L.length : Int) ≤ c) = true := by simpa using h1
      clear hcc
      go_enter Tryd.func70, Tryd.ntmps70
      go_wp2
      go_ret2
      exact ⟨rfl, rfl⟩
  | some s =>
    obtain ⟨i, rfl, h1, h2⟩ := Nt.at_some hs
    obtain ⟨vl, vn, X, R, rfl, h⟩ := h
    obtain ⟨x, r, hx, hr, rfl, hc, ha⟩ := h.at_ h1
    obtain ⟨A, cc, rfl, -, -⟩ := h.slice
    obtain ⟨b, o, rfl, ci⟩ := h.cell hx
    have c1 := h.row.cell 1
    have hl := h.ok.n2
    have d1 := hc.row.cell 1
    have d2 := hc.row.cell 2
    have d4 := hc.row.cell 4
    simp only [KR] at d1 d2 d4
    rw [ha.wts] at d1
    have hi2 : decide ((S.L.length : Int) ≤ (i : Int)) = false := by simp; omega
    have hi3 : decide ((i : Int) < 0) = false := by simp
    have hk1 : (0 : Int) ≤ (i : Int) := by omega
    have hk2 : (i : Int) < (S.L.length : Int) := by omega
    have he2 : S.e1 i = if r.c.brk then 5 else if decide ((i : Int) < S.first) && !r.c.opn then 6 else 0 := by unfold Nt.e1; rw [hs]
    clear h hx hr hs hc ha h1 h2
    cases hb : r.c.brk with
    | true =>
      rw [hb] at he2 d4
      rw [he2]
      clear he he2 hb
      simp only [if_true]
      go_enter Tryd.func70, Tryd.ntmps70
      go_wp2
      go_ret2
      exact ⟨rfl, rfl⟩
    | false =>
      rw [hb] at he2 d4
      by_cases hw : i < S.first
      · have hd1 : decide ((i : Int) < (S.first : Int)) = true := by simp; omega
        have hd2 : decide (S.first ≤ i) = false := by simp; omega
        rw [hd1] at he2
        rw [hd2] at d1
        cases ho : r.c.opn with
        | true => rw [ho] at he2; exact absurd he2 he
        | false =>
          rw [ho] at he2 d2
          rw [he2]
          clear he he2 hb ho hd1 hd2 hw
          simp only [Bool.false_eq_true, if_false, Bool.not_false, Bool.and_self, if_true]
          go_enter Tryd.func70, Tryd.ntmps70
          go_wp2
          go_ret2
          exact ⟨rfl, rfl⟩
      · have hd1 : decide ((i : Int) < (S.first : Int)) = false := by simp; omega
        rw [hd1] at he2
        exact absurd he2 he
theorem rtheirs_at (w : World) (g m i : Nat) (vl vn : Value) (X : List Cb) (R : List Rn) (S : Nt) (x : Cb) (r : Rn) (h : RefF w g vl vn X R S m) (hx : X[i]? = some x) (hr : R[i]? = some r) (hb : r.c.brk = false) (ho : (decide ((i : Int) < S.first) && !r.c.opn) = false) :
    Calls Tryd.prog 70 #[.pointer (some ⟨g, 0, none⟩), .int .i64 i] w fun e w' => e = .returned (.tuple #[.pointer (some ⟨x.b, 0, none⟩), .int .i64 0]) ∧ w = w' := by
  have hc := h.cs.at_ i x r hx hr
  have ha := h.st i r hr
  have h2 : i < S.L.length := by rw [← h.len]; exact (List.getElem?_eq_some_iff.1 hx).1
  obtain ⟨A, cc, rfl, -, -⟩ := h.slice
  obtain ⟨b, o, rfl, ci⟩ := h.cell hx
  have c1 := h.row.cell 1
  have hl := h.ok.n2
  have d1 := hc.row.cell 1
  have d2 := hc.row.cell 2
  have d4 := hc.row.cell 4
  simp only [KR] at d1 d2 d4
  rw [ha.wts] at d1
  rw [hb] at d4
  have hi2 : decide ((S.L.length : Int) ≤ (i : Int)) = false := by simp; omega
  have hi3 : decide ((i : Int) < 0) = false := by simp
  have hk1 : (0 : Int) ≤ (i : Int) := by omega
  have hk2 : (i : Int) < (S.L.length : Int) := by omega
  clear h hx hr hc ha h2 hb
  by_cases hw : i < S.first
  · have hd1 : decide ((i : Int) < (S.first : Int)) = true := by simp; omega
    have hd2 : decide (S.first ≤ i) = false := by simp; omega
    rw [hd1] at ho
    rw [hd2] at d1
    have ho : r.c.opn = true := by cases h : r.c.opn with
      | true => rfl
      | false => rw [h] at ho; cases ho
    rw [ho] at d2
    clear hd1 hd2 hw
    go_enter Tryd.func70, Tryd.ntmps70
    go_wp2
    go_ret2
    exact ⟨rfl, rfl⟩
  · have hd2 : decide (S.first ≤ i) = true := by simp; omega
    rw [hd2] at d1
    clear hd2 hw ho
    go_enter Tryd.func70, Tryd.ntmps70
    go_wp2
    go_ret2
    exact ⟨rfl, rfl⟩
theorem rours_no (w : World) (g m : Nat) (F : List Nat) (S : Nt) (c : Int) (h : RefA w g F S m) (he : S.e2 c ≠ 0) :
    Calls Tryd.prog 74 #[.pointer (some ⟨g, 0, none⟩), .int .i64 c] w fun e w' => e = .returned (.tuple #[.pointer none, .int .i64 (S.e2 c)]) ∧ w = w' := by
  cases hs : S.at? c with
  | none =>
    have h2 : S.e2 c = 2 := by unfold Nt.e2; rw [hs]
    rw [h2]
    have hcc := Nt.at_none hs
    clear he hs h2
    obtain ⟨vl, vn, X, R, rfl, h⟩ := h
    obtain ⟨A, cc, rfl, -, -⟩ := h.slice
    have c1 := h.row.cell 1
    clear h
    by_cases h0 : c < 0
    · clear hcc
      go_enter Tryd.func74, Tryd.ntmps74
      go_wp2
      go_ret2
      exact ⟨rfl, rfl⟩
    · have h1 : (S.L.length : Int) ≤ c := by omega
      have h3 : decide ((S.L.length : Int) ≤ c) = true := by simpa using h1
      clear hcc
      go_enter Tryd.func74, Tryd.ntmps74
      go_wp2
      go_ret2
      exact ⟨rfl, rfl⟩
  | some s =>
    obtain ⟨i, rfl, h1, h2⟩ := Nt.at_some hs
    obtain ⟨vl, vn, X, R, rfl, h⟩ := h
    obtain ⟨x, r, hx, hr, rfl, hc, ha⟩ := h.at_ h1
    obtain ⟨A, cc, rfl, -, -⟩ := h.slice
    obtain ⟨b, o, rfl, ci⟩ := h.cell hx
    have c1 := h.row.cell 1
    have hl := h.ok.n2
    have d1 := hc.row.cell 1
    have d2 := hc.row.cell 2
    have d4 := hc.row.cell 4
    simp only [KR] at d1 d2 d4
    rw [ha.wts] at d1
    have hi2 : decide ((S.L.length : Int) ≤ (i : Int)) = false := by simp; omega
    have hi3 : decide ((i : Int) < 0) = false := by simp
    have hk1 : (0 : Int) ≤ (i : Int) := by omega
    have hk2 : (i : Int) < (S.L.length : Int) := by omega
    have he2 : S.e2 i = if (S.first : Int) ≤ (i : Int) then 2 else if r.c.opn then (if r.c.brk then 5 else 0) else 6 := by unfold Nt.e2; rw [hs]
    clear h hx hr hs hc ha h1 h2
    by_cases hw : S.first ≤ i
    · have hd2 : decide (S.first ≤ i) = true := by simpa using hw
      rw [hd2] at d1
      rw [if_pos (by omega)] at he2
      rw [he2]
      clear he he2 hd2 d2 d4
      go_enter Tryd.func74, Tryd.ntmps74
      go_wp2
      go_ret2
      exact ⟨rfl, rfl⟩
    · have hd2 : decide (S.first ≤ i) = false := by simp; omega
      rw [hd2] at d1
      rw [if_neg (by omega)] at he2
      clear hd2
      cases ho : r.c.opn with
      | false =>
        rw [ho] at he2 d2
        rw [he2]
        clear he he2 ho
        simp only [Bool.false_eq_true, if_false]
        go_enter Tryd.func74, Tryd.ntmps74
        go_wp2
        go_ret2
        exact ⟨rfl, rfl⟩
      | true =>
        rw [ho] at he2 d2
        cases hb : r.c.brk with
        | false => rw [hb] at he2; exact absurd he2 he
        | true =>
          rw [hb] at he2 d4
          rw [he2]
          clear he he2 ho hb
          simp only [if_true]
          go_enter Tryd.func74, Tryd.ntmps74
          go_wp2
          go_ret2
          exact ⟨rfl, rfl⟩
theorem rours_at (w : World) (g m i : Nat) (vl vn : Value) (X : List Cb) (R : List Rn) (S : Nt) (x : Cb) (r : Rn) (h : RefF w g vl vn X R S m) (hx : X[i]? = some x) (hr : R[i]? = some r) (hb : r.c.brk = false) (ho : r.c.opn = true) (hi : i < S.first) :
    Calls Tryd.prog 74 #[.pointer (some ⟨g, 0, none⟩), .int .i64 i] w fun e w' => e = .returned (.tuple #[.pointer (some ⟨x.b, 0, none⟩), .int .i64 0]) ∧ w = w' := by
  have hc := h.cs.at_ i x r hx hr
  have ha := h.st i r hr
  have h2 : i < S.L.length := by rw [← h.len]; exact (List.getElem?_eq_some_iff.1 hx).1
  obtain ⟨A, cc, rfl, -, -⟩ := h.slice
  obtain ⟨b, o, rfl, ci⟩ := h.cell hx
  have c1 := h.row.cell 1
  have hl := h.ok.n2
  have d1 := hc.row.cell 1
  have d2 := hc.row.cell 2
  have d4 := hc.row.cell 4
  simp only [KR] at d1 d2 d4
  have hd2 : decide (S.first ≤ i) = false := by simp; omega
  rw [ha.wts, hd2] at d1
  rw [hb] at d4
  rw [ho] at d2
  have hi2 : decide ((S.L.length : Int) ≤ (i : Int)) = false := by simp; omega
  have hi3 : decide ((i : Int) < 0) = false := by simp
  have hk1 : (0 : Int) ≤ (i : Int) := by omega
  have hk2 : (i : Int) < (S.L.length : Int) := by omega
  clear h hx hr hc ha h2 hb ho hi hd2
  go_enter Tryd.func74, Tryd.ntmps74
  go_wp2
  go_ret2
  exact ⟨rfl, rfl⟩
theorem Ag.same {f i : Nat} {r r' : Rn} (h : Ag f i r) (h1 : r'.wts = r.wts) (h2 : r'.was = r.was) (h3 : r'.c.opn = r.c.opn) (h4 : r'.c.brk = r.c.brk ∨ r'.c.brk = true) (h5 : r.inn = r.c.inn → r'.inn = r'.c.inn) : Ag f i r' :=
  ⟨h1.trans h.wts, fun hq => h5 (h.inn (by rw [← h3]; exact hq)), fun hq => by
    rcases h4 with e | e
    · rw [h2]; exact h.was (by rw [← e]; exact hq)
    · rw [e] at hq; cases hq⟩
theorem rhalf_any (w : World) (g m : Nat) (F : List Nat) (S : Nt) (c : Int) (h : RefA w g F S m) (hm : m + 1 ≤ 900000000) :
    Calls Tryd.prog 39 #[.pointer (some ⟨g, 0, none⟩), .int .i64 c] w fun e w' => e = .returned (.int .i64 (S.e1 c)) ∧ Hid (RefTo w w' g F (S.half c) (m + 1)) := by
  by_cases he : S.e1 c = 0
  · rw [show S.half c = S.upd c (S.get c).half by unfold Nt.half; rw [if_pos he], he]
    obtain ⟨i, s, rfl, hs, hi, hg, hb, ho⟩ := Nt.e1_zero he
    rw [hg]
    obtain ⟨vl, vn, X, R, rfl, h⟩ := h
    obtain ⟨x, r, hx, hr, rfl, hc, ha⟩ := h.at_ hs
    have HT := Lib.hid (rtheirs_at w g m i vl vn X R S x r h hx hr hb ho)
    have c5 := hc.row.cell 5
    have c11 := hc.row.cell 11
    simp only [KR] at c5 c11
    have f0 := hc.row.free
    have hf := h.ok.at_ hs
    have HN := Lib.hid (fun (w' : World) (hq : CnTo KR w w' x { r with c := r.c.half }) => h.toC hx hr hq (ha.same rfl rfl rfl (.inl rfl) id) (h.ok.upd (n := m + 1) (by omega) hm (by simp only [Cn.half]; split <;> omega) fun hq => h.ok.op i _ hs hq))
    have HH := Lib.hid hc
    have hmr : r.c.mr ≤ 900000000 := by omega
    clear h hx hs hg hb ho hc hf he hi hr ha
    cases hv : r.c.hlv with
    | true =>
      rw [hv] at c5
      have HE := Lib.hid (show r.c.half = { r.c with hlv := true } by simp [Cn.half, hv])
      rw [HE.out] at HN
      clear hv
      go_enter Tryd.func39, Tryd.ntmps39
      go_wp2_with fail
      refine HT.out.mono ?_
      rintro e w' ⟨rfl, rfl⟩
      go_wp2
      go_ret
      rw [HE.out]
      exact ⟨rfl, Lib.hid (HN.out _ (CnTo.put (CnTo.refl HH.out) 5 (.bool true) (fun _ => rfl) (rbs_all rfl rfl rfl)))⟩
    | false =>
      rw [hv] at c5
      have HE := Lib.hid (show r.c.half = { r.c with hlv := true, mr := r.c.mr + 1 } by simp [Cn.half, hv])
      rw [HE.out] at HN
      clear hv
      go_enter Tryd.func39, Tryd.ntmps39
      go_wp2_with fail
      refine HT.out.mono ?_
      rintro e w' ⟨rfl, rfl⟩
      go_wp2
      go_ret
      rw [HE.out]
      exact ⟨rfl, Lib.hid (HN.out _ (CnTo.put (s := { r with c := { r.c with mr := r.c.mr + 1 } }) (CnTo.put (CnTo.refl HH.out) 11 _ (fun _ => rfl) (rbs_all rfl rfl rfl)) 5 (.bool true) (fun _ => rfl) (rbs_all rfl rfl rfl)))⟩
  · rw [show S.half c = S by unfold Nt.half; rw [if_neg he]]
    have HT := Lib.hid (rtheirs_no w g m F S c h he)
    have HN := Lib.hid (RefTo.same (h.more (n := m + 1) (by omega) (by first | exact hm | exact h.ok.mm)) (Mods.refl [] w))
    obtain ⟨e0, he0⟩ : ∃ e0, e0 = S.e1 c := ⟨_, rfl⟩
    rw [← he0] at HT he ⊢
    have hne : (e0 != 0) = true := by simpa using he
    clear h he he0
    go_enter Tryd.func39, Tryd.ntmps39
    go_wp2_with fail
    refine HT.out.mono ?_
    rintro e w' ⟨rfl, rfl⟩
    go_wp2
    go_ret
    exact ⟨rfl, HN⟩
theorem rreset_any (w : World) (g m : Nat) (F : List Nat) (S : Nt) (c : Int) (h : RefA w g F S m) (hm : m + 1 ≤ 900000000) :
    Calls Tryd.prog 37 #[.pointer (some ⟨g, 0, none⟩), .int .i64 c] w fun e w' => e = .returned (.int .i64 (S.e1 c)) ∧ Hid (RefTo w w' g F (S.reset c) (m + 1)) := by
  by_cases he : S.e1 c = 0
  · rw [show S.reset c = S.upd c (S.get c).reset by unfold Nt.reset; rw [if_pos he], he]
    obtain ⟨i, s, rfl, hs, hi, hg, hb, ho⟩ := Nt.e1_zero he
    rw [hg]
    obtain ⟨vl, vn, X, R, rfl, h⟩ := h
    obtain ⟨x, r, hx, hr, rfl, hc, ha⟩ := h.at_ hs
    have HT := Lib.hid (rtheirs_at w g m i vl vn X R S x r h hx hr hb ho)
    have HB := Lib.hid (breaks_any w x r hc)
    have hf := h.ok.at_ hs
    have HN := Lib.hid (fun (w' : World) (hq : CnTo KR w w' x { r with c := r.c.reset, inn := [] }) => h.toC hx hr hq (ha.same rfl rfl rfl (.inr rfl) (fun _ => rfl)) (h.ok.upd (n := m + 1) (by omega) hm (by simp only [Cn.reset, Cn.break_]; simp; omega) fun hq => h.ok.op i _ hs hq))
    have hmr : r.c.mr ≤ 900000000 := by omega
    have hmw : r.c.mw ≤ 900000000 := by omega
    clear h hx hs hg hb ho hc hf he hi hr ha
    go_enter Tryd.func37, Tryd.ntmps37
    go_wp2_with fail
    refine HT.out.mono ?_
    rintro e w' ⟨rfl, rfl⟩
    go_wp2_with fail
    refine HB.out.mono ?_
    rintro e w1 ⟨rfl, hq⟩
    have HQ := Lib.hid hq.out
    obtain ⟨x1, h1, h2, -, -⟩ := hq.out
    have c11 := h1.row.cell 11
    have c12 := h1.row.cell 12
    rw [h2] at c11 c12
    simp only [KR, Cn.break_] at c11 c12
    have f0 := h1.row.free
    rw [h2] at f0
    clear h1 h2 hq
    go_wp2
    go_ret
    refine ⟨rfl, Lib.hid (HN.out _ ?_)⟩
    exact CnTo.put (s := { r with c := { r.c.break_ with mr := r.c.mr + 1 }, inn := [] }) (CnTo.put HQ.out 11 _ (fun _ => rfl) (rbs_all rfl rfl rfl)) 12 _ (fun _ => rfl) (rbs_all rfl rfl rfl)
  · rw [show S.reset c = S by unfold Nt.reset; rw [if_neg he]]
    have HT := Lib.hid (rtheirs_no w g m F S c h he)
    have HN := Lib.hid (RefTo.same (h.more (n := m + 1) (by omega) (by first | exact hm | exact h.ok.mm)) (Mods.refl [] w))
    obtain ⟨e0, he0⟩ : ∃ e0, e0 = S.e1 c := ⟨_, rfl⟩
    rw [← he0] at HT he ⊢
    have hne : (e0 != 0) = true := by simpa using he
    clear h he he0
    go_enter Tryd.func37, Tryd.ntmps37
    go_wp2_with fail
    refine HT.out.mono ?_
    rintro e w' ⟨rfl, rfl⟩
    go_wp2
    go_ret
    exact ⟨rfl, HN⟩
theorem rshut_any (w : World) (g m : Nat) (F : List Nat) (S : Nt) (c : Int) (h : RefA w g F S m) :
    Calls Tryd.prog 46 #[.pointer (some ⟨g, 0, none⟩), .int .i64 c] w fun e w' => e = .returned (.int .i64 (S.e2 c)) ∧ Hid (RefTo w w' g F (S.shut c) m) := by
  by_cases he : S.e2 c = 0
  · rw [show S.shut c = S.upd c { S.get c with sht := true } by unfold Nt.shut; rw [if_pos he], he]
    obtain ⟨i, s, rfl, hs, hi, hg, hb, ho, hfi⟩ := Nt.e2_zero he
    rw [hg]
    obtain ⟨vl, vn, X, R, rfl, h⟩ := h
    obtain ⟨x, r, hx, hr, rfl, hc, ha⟩ := h.at_ hs
    have HT := Lib.hid (rours_at w g m i vl vn X R S x r h hx hr hb ho hfi)
    have hf := h.ok.at_ hs
    have HN := Lib.hid (fun (w' : World) (hq : CnTo KR w w' x { r with c := { r.c with sht := true } }) => h.toC hx hr hq (ha.same rfl rfl rfl (.inl rfl) id) (h.ok.upd (n := m) (by omega) h.ok.mm hf fun hq => h.ok.op i _ hs hq))
    have c6 := hc.row.cell 6
    simp only [KR] at c6
    have f0 := hc.row.free
    have HH := Lib.hid hc
    clear h hx hs hg hb ho hc hf he hi hr ha
    go_enter Tryd.func46, Tryd.ntmps46
    go_wp2_with fail
    refine HT.out.mono ?_
    rintro e w' ⟨rfl, rfl⟩
    go_wp2
    go_ret
    exact ⟨rfl, Lib.hid (HN.out _ (CnTo.put (CnTo.refl HH.out) 6 (.bool true) (fun _ => rfl) (rbs_all rfl rfl rfl)))⟩
  · rw [show S.shut c = S by unfold Nt.shut; rw [if_neg he]]
    have HT := Lib.hid (rours_no w g m F S c h he)
    have HN := Lib.hid (RefTo.same (h.more (n := m) (by omega) (by first | exact hm | exact h.ok.mm)) (Mods.refl [] w))
    obtain ⟨e0, he0⟩ : ∃ e0, e0 = S.e2 c := ⟨_, rfl⟩
    rw [← he0] at HT he ⊢
    have hne : (e0 == 0) = false := by simpa using he
    clear h he he0
    go_enter Tryd.func46, Tryd.ntmps46
    go_wp2_with fail
    refine HT.out.mono ?_
    rintro e w' ⟨rfl, rfl⟩
    go_wp2
    go_ret
    exact ⟨rfl, HN⟩
end Go.Proofs.YthaapkafamdhcaaDoor

/- What Open, Connect of the reference's net do. -/
namespace Go.Proofs.YthaapkafamdhcaaDoor
open Go.RowKit
set_option maxRecDepth 10000
set_option linter.unusedVariables false
set_option linter.unusedSimpArgs false

theorem ropen_any (w : World) (g m : Nat) (F : List Nat) (S : Nt) (c n : Int) (h : RefA w g F S m) (hm : m + 1 ≤ 900000000) :
    Calls Tryd.prog 35 #[.pointer (some ⟨g, 0, none⟩), .int .i64 c, .int .i64 n] w fun e w' => e = .returned (.int .i64 (S.openE c n)) ∧ Hid (RefTo w w' g F (S.open_ c n) (m + 1)) := by
  have HN0 := Lib.hid (RefTo.same (h.more (n := m + 1) (by omega) hm) (Mods.refl [] w))
  by_cases hn : n < 0
  · have he : S.openE c n = 1 := by unfold Nt.openE; rw [if_pos hn]
    rw [show S.open_ c n = S by unfold Nt.open_; rw [he]; rfl, he]
    clear h he
    go_enter Tryd.func35, Tryd.ntmps35
    go_wp2
    go_ret
    exact ⟨rfl, HN0⟩
  have he1 : S.openE c n = S.e1 c := by unfold Nt.openE; rw [if_neg hn]
  rw [he1]
  by_cases he : S.e1 c = 0
  · rw [show S.open_ c n = S.upd c ((S.get c).open_ n) by unfold Nt.open_; rw [he1, if_pos he], he]
    obtain ⟨i, s, rfl, hs, hi, hg, hb, ho⟩ := Nt.e1_zero he
    rw [hg]
    obtain ⟨vl, vn, X, R, rfl, h⟩ := h
    obtain ⟨x, r, hx, hr, rfl, hc, ha⟩ := h.at_ hs
    have HT := Lib.hid (rtheirs_at w g m i vl vn X R S x r h hx hr hb ho)
    have hf := h.ok.at_ hs
    have HN := Lib.hid (fun (w' : World) (hq : CnTo KR w w' x { r with c := r.c.open_ n }) => h.toC hx hr hq (ha.same rfl rfl rfl (.inl rfl) id) (h.ok.upd (n := m + 1) (by omega) hm (by simp only [Cn.open_]; split <;> omega) fun hq => h.ok.op i _ hs hq))
    have c10 := hc.row.cell 10
    have c12 := hc.row.cell 12
    simp only [KR] at c10 c12
    have f0 := hc.row.free
    have HH := Lib.hid hc
    have hmw : r.c.mw ≤ 900000000 := by omega
    have hw1 : 0 ≤ r.c.win := by omega
    have hw2 : r.c.win ≤ 1099511627776 := by omega
    obtain ⟨u, hu⟩ : ∃ u, u = r.c.win + min n (1099511627776 - r.c.win) := ⟨_, rfl⟩
    have HU := Lib.hid hu
    have hmn : r.c.win + (if 1099511627776 - r.c.win < n then 1099511627776 - r.c.win else n) = u := by subst hu; split <;> omega
    clear h hx hs hg hb ho hc hf he hi he1 hu hr ha
    by_cases h0 : 0 < n
    · have HE := Lib.hid (show r.c.open_ n = { r.c with win := u, mw := r.c.mw + 1 } by simp [Cn.open_, h0, HU.out])
      rw [HE.out] at HN
      go_enter Tryd.func35, Tryd.ntmps35
      go_wp2_with fail
      refine HT.out.mono ?_
      rintro e w' ⟨rfl, rfl⟩
      go_wp2_with fail
      go_region
      all_goals go_wp2
      all_goals
        go_ret
        rw [HE.out]
        refine ⟨rfl, Lib.hid (HN.out _ ?_)⟩
        exact CnTo.put (s := { r with c := { r.c with win := u } }) (CnTo.put ((CnTo.refl HH.out).quiet ((Mods.refl _ _).drew)) 10 (.int .i64 u) (fun _ => rfl) (rbs_all rfl rfl rfl)) 12 (.int .i64 ((r.c.mw : Int) + 1)) (fun _ => rfl) (rbs_all rfl rfl rfl)
    · have hnn : n = 0 := by omega
      subst hnn
      have HE := Lib.hid (show r.c.open_ 0 = { r.c with win := u } by simp [Cn.open_, HU.out])
      rw [HE.out] at HN
      clear h0
      go_enter Tryd.func35, Tryd.ntmps35
      go_wp2_with fail
      refine HT.out.mono ?_
      rintro e w' ⟨rfl, rfl⟩
      go_wp2_with fail
      go_region
      all_goals go_wp2
      all_goals
        go_ret
        rw [HE.out]
        refine ⟨rfl, Lib.hid (HN.out _ ?_)⟩
        rw [show u = r.c.win by have := HU.out; omega]
        exact CnTo.put (s' := r) ((CnTo.refl HH.out).quiet ((Mods.refl _ _).drew)) 10 (.int .i64 r.c.win) (fun _ => rfl) (rbs_all rfl rfl rfl)
  · rw [show S.open_ c n = S by unfold Nt.open_; rw [he1, if_neg he]]
    have HT := Lib.hid (rtheirs_no w g m F S c h he)
    obtain ⟨e0, he0⟩ : ∃ e0, e0 = S.e1 c := ⟨_, rfl⟩
    rw [← he0] at HT he ⊢
    have hne : (e0 != 0) = true := by simpa using he
    clear h he he0 he1
    go_enter Tryd.func35, Tryd.ntmps35
    go_wp2_with fail
    refine HT.out.mono ?_
    rintro e w' ⟨rfl, rfl⟩
    go_wp2
    go_ret
    exact ⟨rfl, HN0⟩
theorem rptr_info3 : (Tryd.prog.info? 147).map (fun i => (i.zero, i.size, i.bytes)) = some (some (.pointer none), 1, 8) := by kernel_rfl
theorem int_info3 : (Tryd.prog.info? 3).map (fun i => (i.zero, i.size, i.bytes)) = some (some (.int .i64 0), 1, 8) := by kernel_rfl
def rnew (p : Int) : Rn := ⟨Cn.new p, true, false, []⟩
theorem rnew_conn (w : World) (p : Int) : CnA KR (w.alloc (.cells #[.int .i64 p, .bool true, .bool false, .bool false, .bool false, .bool false, .bool false, .slice none 0 0, .slice none 0 0, .slice none 0 0, .int .i64 0, .int .i64 0, .int .i64 0] 146)) ⟨w.heap.size, fun _ => .slice none 0 0⟩ (rnew p) :=
  ⟨Row.new w _ _, rbs_all (Own.nil _ _) (Own.nil _ _) (Own.nil _ _), fun i j _ k hk => by simp [Value.ownBlock] at hk, rbs_all (by simp [KR, rbs, rnew, Cn.new]) (by simp [KR, rbs, rnew, Cn.new]) (by simp [KR, rbs, rnew, Cn.new])⟩
/-- A connection is new, its pointer appended and stored; the line is as it was. -/
structure RMid (w w1 : World) (g m : Nat) (vl vn : Value) (X : List Cb) (R : List Rn) (S : Nt) (p : Int) (v8 : Value) (X' : List Cb) : Prop where
  row : Row w1 g 89 #[.int .i64 S.back, v8, vn, .int .i64 S.fail, .bool S.stop, .int .i64 (S.L.length : Nat)]
  ptr : Own w1 147 v8 (pv X')
  num : Own w1 3 vn (iv (lineN S.first (S.L.length - S.first)))
  cs : Cs KR w1 X' (R ++ [rnew p])
  mods : Mods (rfoot g vl vn X) w w1
  sub : ∀ k, k ∈ v8.ownBlock.toList ∨ k ∈ fts X' → k ∈ rfoot g vl vn X ∨ w.heap.size ≤ k
theorem rconn1 {w w1 w2 w8 : World} {g m : Nat} {vl vn v8 : Value} {X : List Cb} {R : List Rn} {S : Nt} {p : Int} (h : RefF w g vl vn X R S m) (hw : Mods [] w w1) (hs : w1.heap.size = w.heap.size)
    (h2 : w2 = (w1.alloc (.cells #[.int .i64 p, .bool true, .bool false, .bool false, .bool false, .bool false, .bool false, .slice none 0 0, .slice none 0 0, .slice none 0 0, .int .i64 0, .int .i64 0, .int .i64 0] 146)).alloc (.cells #[.pointer (some ⟨w1.heap.size, 0, none⟩)] 147))
    (ho : Own w8 147 v8 (pv X ++ [.pointer (some ⟨w1.heap.size, 0, none⟩)])) (hm : Mods vl.ownBlock.toList w2 w8 ∧ (v8.ownBlock = vl.ownBlock ∨ v8.ownBlock = some w2.heap.size)) :
    Row w8 g 89 #[.int .i64 S.back, vl, vn, .int .i64 S.fail, .bool S.stop, .int .i64 (S.L.length : Nat)] ∧ ∀ w9, w9 = w8.setCell ⟨g, 1, none⟩ v8 → RMid w w9 g m vl vn X R S p v8 (X ++ [⟨w1.heap.size, fun _ => .slice none 0 0⟩]) := by
  have hsz : w2.heap.size = w.heap.size + 2 := by rw [h2]; simp; omega
  have hq2 : Mods [] w w2 := by rw [h2]; exact (hw.alloc _).alloc _
  have hF2 := h.keep (w' := w2) fun k hk => hq2.block k (h.lt k hk) (by simp)
  have hvc : ∀ k ∈ vl.ownBlock.toList, k ≠ g := h.ptr.ne_row h.row (by decide)
  have hr8 : Row w8 g _ _ := hF2.row.mods hm.1 fun hk => hvc _ hk rfl
  have hcn : CnA KR w2 ⟨w1.heap.size, fun _ => .slice none 0 0⟩ (rnew p) := by
    rw [h2]; exact (rnew_conn w1 p).mods ((Mods.refl [] _).alloc _) (by simp)
  have hft : (⟨w1.heap.size, fun _ => .slice none 0 0⟩ : Cb).ft = [w1.heap.size] := rfl
  have hcs8 : Cs KR w8 X R := hF2.cs.mods hm.1 fun k hk hk2 => h.vl_fts k hk2 hk
  have hnum8 : Own w8 3 vn (iv (lineN S.first (S.L.length - S.first))) := hF2.num.mods hm.1 fun k hk hk2 => h.num.ne h.ptr (by decide) k hk hk2
  have hcn8 : CnA KR w8 ⟨w1.heap.size, fun _ => .slice none 0 0⟩ (rnew p) := hcn.mods hm.1 fun k hk hk2 => by
    rw [hft] at hk
    simp at hk
    have := h.ptr.lt k hk2
    omega
  have hgl := h.row.lt
  have hcs8' : Cs KR w8 (X ++ [⟨w1.heap.size, fun _ => .slice none 0 0⟩]) (R ++ [rnew p]) := h.cs.snoc hcn8 hcs8 (by rw [hft]; simp; omega)
  refine ⟨hr8, fun w9 e9 => ?_⟩
  subst e9
  refine ⟨?_, ?_, ?_, ?_, ?_, fun k hk => ?_⟩
  · have := hr8.set 1 v8
    simpa using this
  · rw [pv_snoc]
    exact ho.keep fun k hk => heap_setCell_other w8 ⟨g, 1, none⟩ k v8 (ho.ne_row hr8 (by decide) k hk)
  · exact hnum8.keep fun k hk => heap_setCell_other w8 ⟨g, 1, none⟩ k v8 (hnum8.ne_row hr8 (by decide) k hk)
  · refine hcs8'.keep fun k hk => heap_setCell_other w8 ⟨g, 1, none⟩ k v8 fun e => ?_
    have e : k = g := e
    subst e
    rw [fts_snoc, hft] at hk
    rcases List.mem_append.1 hk with hk | hk
    · exact h.g_fts hk
    · simp at hk; omega
  · refine (((hq2.more (by simp)).trans hm.1 (F1 := rfoot g vl vn X) fun k hk => .inl (mem_rfoot.2 (.inr (.inl hk))))).setCell (.inl (mem_rfoot.2 (.inl rfl))) _
  · rcases hk with hk | hk
    · rcases hm.2 with e | e
      · rw [e] at hk; exact .inl (mem_rfoot.2 (.inr (.inl hk)))
      · rw [e] at hk; simp at hk; right; omega
    · rw [fts_snoc, hft] at hk
      rcases List.mem_append.1 hk with hk | hk
      · exact .inl (mem_rfoot.2 (.inr (.inr (.inr hk))))
      · simp at hk; right; omega
theorem rconn2 {w w1 wx w2 : World} {g m : Nat} {vl vn v8 v9 v0 : Value} {X X' : List Cb} {R : List Rn} {S : Nt} {p a : Int} (h : RefF w g vl vn X R S m) (hM : RMid w w1 g m vl vn X R S p v8 X')
    (ho : Own w2 3 v9 (iv (lineN S.first (S.L.length - S.first)) ++ [.int .i64 (S.L.length : Nat)])) (hm : Mods v0.ownBlock.toList wx w2 ∧ (v9.ownBlock = v0.ownBlock ∨ v9.ownBlock = some wx.heap.size)) (hv0 : vn = v0) (hX : Mods [] w1 wx)
    (hp1 : 0 ≤ p) (hp2 : p ≤ 255) (hl : S.L.length < 65536) (ha : a = (S.L.length : Nat) + 1) :
    Row w2 g 89 #[.int .i64 S.back, v8, vn, .int .i64 S.fail, .bool S.stop, .int .i64 (S.L.length : Nat)] ∧ ∀ w9, w9 = (w2.setCell ⟨g, 2, none⟩ v9).setCell ⟨g, 5, none⟩ (.int .i64 a) → RefTo w w9 g (rfoot g vl vn X) { S with L := S.L ++ [Cn.new p] } m := by
  subst ha hv0
  have n1 := h.ok.n1
  have hng : ∀ k ∈ vn.ownBlock.toList, k ≠ g := h.num.ne_row h.row (by decide)
  have hr2 : Row w2 g _ _ := (hM.row.mods hX (by simp)).mods hm.1 fun hk => hng _ hk rfl
  have hp2' : Own w2 147 v8 (pv X') := (hM.ptr.mods hX (by simp)).mods hm.1 fun k hk hk2 => hM.ptr.ne hM.num (by decide) k hk hk2
  have hc2 : Cs KR w2 X' (R ++ [rnew p]) := (hM.cs.mods hX (by simp)).mods hm.1 fun k hk hk2 => hM.cs.slice hM.num (by decide) (by decide) k hk2 hk
  have hg2 : g ∉ fts X' := hc2.row hr2 (by decide) (by decide)
  have far : ∀ (k : Nat) (u z : Value), k ≠ g → ((w2.setCell ⟨g, 2, none⟩ u).setCell ⟨g, 5, none⟩ z).heap[k]? = w2.heap[k]? := fun k u z hk =>
    (heap_setCell_other _ ⟨g, 5, none⟩ k z hk).trans (heap_setCell_other w2 ⟨g, 2, none⟩ k u hk)
  refine ⟨hr2, fun w9 e9 => ?_⟩
  subst e9
  have hXs := hX.size
  have hMs := hM.mods.size
  refine ⟨rfoot g v8 v9 X', ⟨v8, v9, X', R ++ [rnew p], rfl, ⟨?_, ?_, ?_, ?_, ?_, fun i r hi => ?_, ?_⟩⟩, ?_, fun k hk => ?_⟩
  · have := (hr2.set 2 v9).set 5 (.int .i64 ((S.L.length : Nat) + 1))
    rw [List.length_append]
    simpa using this
  · exact hp2'.keep fun k hk => far k _ _ (hp2'.ne_row hr2 (by decide) k hk)
  · have e : iv (lineN S.first (S.L.length - S.first)) ++ [.int .i64 (S.L.length : Nat)] = iv (lineN S.first ((S.L ++ [Cn.new p]).length - S.first)) := by
      rw [show (S.L ++ [Cn.new p]).length - S.first = (S.L.length - S.first) + 1 by simp; omega, ← lineN_snoc, show S.first + (S.L.length - S.first) = S.L.length by omega]
      simp [iv]
    rw [e] at ho
    exact ho.keep fun k hk => far k _ _ (ho.ne_row hr2 (by decide) k hk)
  · exact hc2.keep fun k hk => far k _ _ fun e => hg2 (by rw [← e]; exact hk)
  · rw [List.map_append, h.ag]; rfl
  · by_cases hi2 : i < R.length
    · rw [List.getElem?_append_left hi2] at hi
      exact h.st i r hi
    · rw [List.getElem?_append_right (by omega)] at hi
      have hlen : R.length = S.L.length := by rw [← h.ag, List.length_map]
      have := List.mem_of_getElem? hi
      simp at this
      subst this
      exact ⟨by simp [rnew]; omega, fun _ => rfl, fun _ => by simp [rnew]; omega⟩
  · refine ⟨h.ok.b1, h.ok.b2, h.ok.f1, h.ok.f2, by simp; omega, by simp; omega, fun s hs => ?_, fun i s hi hop => ?_, h.ok.mm⟩
    · rcases List.mem_append.1 hs with hs | hs
      · exact h.ok.cn s hs
      · simp at hs; subst hs; simp [Cn.new]; omega
    · by_cases hi2 : i < S.L.length
      · rw [List.getElem?_append_left hi2] at hi
        exact h.ok.op i s hi hop
      · rw [List.getElem?_append_right (by omega)] at hi
        have := List.mem_of_getElem? hi
        simp at this; subst this
        simp [Cn.new] at hop
  · refine ((((hM.mods.trans hX (by simp)).trans hm.1 (fun k hk => .inl (mem_rfoot.2 (.inr (.inr (.inl hk))))))).setCell (.inl (mem_rfoot.2 (.inl rfl))) _).setCell (.inl (mem_rfoot.2 (.inl rfl))) _
  · rcases mem_rfoot.1 hk with h1 | h1 | h1 | h1
    · exact .inl (mem_rfoot.2 (.inl h1))
    · exact hM.sub k (.inl h1)
    · rcases hm.2 with e | e
      · rw [e] at h1; exact .inl (mem_rfoot.2 (.inr (.inr (.inl h1))))
      · rw [e] at h1; simp at h1; right; omega
    · exact hM.sub k (.inr h1)
end Go.Proofs.YthaapkafamdhcaaDoor

/- What Connect of the reference's net does. -/
namespace Go.Proofs.YthaapkafamdhcaaDoor
open Go.RowKit
set_option maxRecDepth 10000
set_option linter.unusedVariables false
set_option linter.unusedSimpArgs false

set_option maxHeartbeats 1000000 in
theorem rconn_any (w : World) (g m : Nat) (F : List Nat) (S : Nt) (p : Int) (h : RefA w g F S m) :
    Calls Tryd.prog 32 #[.pointer (some ⟨g, 0, none⟩), .int .i64 p] w fun e w' => e = .returned (.tuple #[.int .i64 (S.connN p), .int .i64 (S.connE p)]) ∧ Hid (RefTo w w' g F (S.conn p) m) := by
  have HN0 := Lib.hid (RefTo.same h (Mods.refl [] w))
  have HS := Lib.hid (fun (w' : World) (hq : Mods [] w w') => RefTo.same h hq)
  have bad : ∀ e0 : Int, S.connE p = e0 → e0 ≠ 0 → S.connN p = 0 ∧ S.conn p = S := fun e0 h1 h2 => by
    have : ¬ S.connE p = 0 := by rw [h1]; exact h2
    exact ⟨by unfold Nt.connN; rw [if_neg this], by unfold Nt.conn; rw [if_neg this]⟩
  by_cases h1 : p < 0
  · have he : S.connE p = 1 := by unfold Nt.connE; rw [if_pos (.inl h1)]
    rw [(bad 1 he (by decide)).1, (bad 1 he (by decide)).2, he]
    clear h bad he
    go_enter Tryd.func32, Tryd.ntmps32
    go_wp2
    go_ret2
    exact ⟨rfl, HN0⟩
  by_cases h2 : 255 < p
  · have he : S.connE p = 1 := by unfold Nt.connE; rw [if_pos (.inr h2)]
    rw [(bad 1 he (by decide)).1, (bad 1 he (by decide)).2, he]
    clear h bad he
    go_enter Tryd.func32, Tryd.ntmps32
    go_wp2
    go_ret2
    exact ⟨rfl, HN0⟩
  have hE : S.connE p = if S.stop then 6 else if S.back ≤ S.wait ∨ 65536 ≤ (S.L.length : Int) then 3 else 0 := by unfold Nt.connE; rw [if_neg (by omega)]
  obtain ⟨vl, vn, X, R, rfl, h⟩ := h
  obtain ⟨A, cc, rfl, hcc, -⟩ := h.slice
  obtain ⟨An, cn, rfl, hcn, -⟩ := h.line
  have c0 := h.row.cell 0
  have c1 := h.row.cell 1
  have c2 := h.row.cell 2
  have c4 := h.row.cell 4
  have f0 := h.row.free
  have hn1 := h.ok.n1
  cases hst : S.stop with
  | true =>
    rw [hst] at c4 hE
    have he : S.connE p = 6 := hE
    rw [(bad 6 he (by decide)).1, (bad 6 he (by decide)).2, he]
    clear h bad he hE hst hcc hcn
    go_enter Tryd.func32, Tryd.ntmps32
    go_wp2
    go_ret2
    exact ⟨rfl, HN0⟩
  | false =>
    rw [hst] at c4 hE
    have hwt : S.wait = ((S.L.length - S.first : Nat) : Int) := by unfold Nt.wait; omega
    rw [hwt] at hE
    have HH := Lib.hid h
    obtain ⟨k, hk⟩ : ∃ k, k = S.L.length - S.first := ⟨_, rfl⟩
    rw [← hk] at hE c2 hcn
    have HK := Lib.hid hk
    by_cases hb : S.back ≤ (k : Int)
    · have he : S.connE p = 3 := by rw [hE]; simp [hb]
      have hd : decide (S.back ≤ (k : Int)) = true := by simpa using hb
      rw [(bad 3 he (by decide)).1, (bad 3 he (by decide)).2, he]
      clear h bad he hE hst hcc hk hcn hwt
      go_enter Tryd.func32, Tryd.ntmps32
      go_wp2_with fail
      go_quiet (fail)
      go_wp2
      go_ret2
      exact ⟨rfl, Lib.hid (HS.out _ ((Mods.refl _ _).drewN _))⟩
    · have hd : decide (S.back ≤ (k : Int)) = false := by simpa using hb
      by_cases hl : 65536 ≤ S.L.length
      · have he : S.connE p = 3 := by rw [hE]; simp; omega
        have hd2 : decide ((65536 : Int) ≤ (S.L.length : Int)) = true := by simp; omega
        rw [(bad 3 he (by decide)).1, (bad 3 he (by decide)).2, he]
        clear h bad he hE hst hcc hk hb hcn hwt
        go_enter Tryd.func32, Tryd.ntmps32
        go_wp2_with fail
        go_quiet (fail)
        go_wp2
        go_ret2
        exact ⟨rfl, Lib.hid (HS.out _ ((Mods.refl _ _).drewN _))⟩
      · have he : S.connE p = 0 := by rw [hE]; simp; omega
        have hd2 : decide ((65536 : Int) ≤ (S.L.length : Int)) = false := by simp; omega
        obtain ⟨i0, hi0, hz, hs, hby⟩ := info_parts rptr_info3
        have HI := Lib.hid (And.intro hi0 (And.intro hz (And.intro hs (show i0.bytes ≤ 8 by omega))))
        clear hi0 hz hs hby
        obtain ⟨i1, hi0, hz, hs, hby⟩ := info_parts int_info3
        have HJ := Lib.hid (And.intro hi0 (And.intro hz (And.intro hs (show i1.bytes ≤ 8 by omega))))
        rw [show S.connN p = S.L.length by unfold Nt.connN; rw [if_pos he], show S.conn p = { S with L := S.L ++ [Cn.new p] } by unfold Nt.conn; rw [if_pos he], he]
        have hlen := h.len
        have HLL := Lib.hid hlen
        have HB := Lib.hid (show (pv X).length + 1 ≤ 1000000000 by rw [pv_length]; have := h.ok.n2; omega)
        have HB2 := Lib.hid (show (iv (lineN S.first (S.L.length - S.first))).length + 1 ≤ 1000000000 by simp [iv, lineN_length]; have := h.ok.n2; omega)
        have HL := Lib.hid (show S.L.length < 65536 by omega)
        have HP := Lib.hid (And.intro (show 0 ≤ p by omega) (show p ≤ 255 by omega))
        have hpl := wrap_len (n := S.L.length) rfl h.ok.n2
        clear h bad he hE hst hcc hk hb hi0 hz hs hby hlen hcn hwt
        go_enter Tryd.func32, Tryd.ntmps32
        go_wp2_with fail
        go_quiet (fail)
        go_wp2_with (at_builtin; refine wpList_append_own2 _ rfl (.tmp 38) (.tmp 42) 87 rfl 147 i0 (.pointer none) Tryd.underlying87 HI.out.1 HI.out.2.1 HI.out.2.2.1 HI.out.2.2.2 rfl (.slice A S.L.length cc) (pv X) rfl (HH.out.ptr.mods ((((Mods.refl [] w).drewN nq).alloc _).alloc _) (by simp)) (some ⟨w.heap.size + 1, 0, none⟩) 1 1 [.pointer (some ⟨w.heap.size, 0, none⟩)] rfl rfl (Src.at_one _ _ _ _ (by simp)) (by simp [Value.oneCell']) HB.out ?_; intro v8 w8 HO8 HM8; obtain ⟨A8, n8, p8, rfl, hn8, -, -⟩ := HO8.out.slice'; have hn9 : n8 = S.L.length + 1 := (by rw [hn8, List.length_append, pv_length, HLL.out]; rfl); clear hn8; subst hn9; obtain ⟨hr8, hq8⟩ := rconn1 (p := p) HH.out ((Mods.refl [] w).drewN nq) rfl rfl HO8.out HM8.out; have HQ8 := Lib.hid hq8; have c8 := hr8.cell 1; have f8 := hr8.free; clear hq8 hr8)
        obtain ⟨w9, hw9, HM9⟩ : ∃ w9, w9 = w8.setCell ⟨g, 1, none⟩ (.slice A8 (S.L.length + 1) p8) ∧ Hid (RMid w w9 g m (.slice A S.L.length cc) (.slice An (S.L.length - S.first) cn) X R S p (.slice A8 (S.L.length + 1) p8) (X ++ [⟨(w.drewN nq).heap.size, fun _ => .slice none 0 0⟩])) := ⟨_, rfl, Lib.hid (HQ8.out _ rfl)⟩
        rw [← hw9]
        clear hw9 HQ8 c8 f8 HO8 HM8 c0 c1 c2 c4 f0
        have d1 := HM9.out.row.cell 1
        have d5 := HM9.out.row.cell 5
        have d2 : w9.cell? ⟨g, 2, none⟩ = some (.slice An k cn) := by rw [HK.out]; exact HM9.out.row.cell 2
        have fz := HM9.out.row.free
        have HNU := Lib.hid (show Own w9 3 (.slice An k cn) (iv (lineN S.first (S.L.length - S.first))) by rw [HK.out]; exact HM9.out.num)
        have z1 := fun o => cell_alloc d1 o
        have z2 := fun o => cell_alloc d2 o
        go_wp2_with fail
        have hwr : IntKind.i64.wrap (S.L.length : Int) = (S.L.length : Int) := wrap_small (by omega) (by have := HL.out; omega)
        go_region_law (refine step_append_own2 rfl (.tmp 50) (.tmp 57) 23 rfl 3 i1 (.int .i64 0) Tryd.underlying23 HJ.out.1 HJ.out.2.1 HJ.out.2.2.1 HJ.out.2.2.2 rfl (.slice An k cn) (iv (lineN S.first (S.L.length - S.first))) rfl ((HNU.out.alloc (.cells #[.int .i64 (S.L.length : Nat)] 3)).keep fun _ _ => rfl) (some ⟨w9.heap.size, 0, none⟩) 1 1 [.int .i64 (S.L.length : Nat)] rfl rfl ((Src.one w9 _ _).same rfl) (by simp [Value.oneCell']) HB2.out ?_; intro vA wA HOA HMA; obtain ⟨hrA, hqA⟩ := rconn2 (a := (S.L.length : Nat) + 1) HH.out HM9.out HOA.out HMA.out (by rw [HK.out]) (((Mods.refl [] w9).alloc (.cells #[.int .i64 (S.L.length : Nat)] 3)).same rfl rfl rfl rfl) HP.out.1 HP.out.2 HL.out rfl; obtain ⟨AA, nA, pA, rfl, -, -, -⟩ := HOA.out.slice'; have HQA := Lib.hid hqA; have cA := hrA.cell 2; have cB := hrA.cell 5; have cC := hrA.cell 1; have fA := hrA.free; clear hqA hrA)
        all_goals
          go_wp2
          go_ret2
          exact ⟨rfl, Lib.hid (HQA.out _ rfl)⟩
end Go.Proofs.YthaapkafamdhcaaDoor
