/- What Accept of the reference's net does. -/
import Derived.Test.YtogcfeplfclobaaRd
import Derived.Deep.RegionHeld3
import Derived.BigRegion
namespace Go.Proofs.Ytogcfeplfclobaa
open Go.RowKit
set_option maxRecDepth 10000
set_option linter.unusedVariables false
set_option linter.unusedSimpArgs false

theorem Src.keep0 {w w' : World} {A : Option Addr} {xs : List Value} (h : Src w A xs) (hm : Mods [] w w') : Src w' A xs := fun j u hu => by
  obtain ⟨b, o, e, hc⟩ := h j u hu
  exact ⟨b, o, e, cell_mods hc hm (by simp)⟩
theorem own_lit0i (w : World) : Own (w.alloc (.cells #[] 3)) 3 (.slice (some ⟨w.heap.size, 0, none⟩) 0 0) [] := Own.of_row (World.ownsRow_lit w #[] 0 (Nat.zero_le _) (by unfold maxLen; omega) rfl)
/-- The line is another one: the first who waits is gone of it. -/
structure AMid (w w1 : World) (g m : Nat) (vl vn : Value) (X : List Cb) (R : List Rn) (S : Nt) (v9 : Value) : Prop where
  row : Row w1 g 42 #[.int .i64 S.back, vl, v9, .int .i64 S.fail, .bool S.stop, .int .i64 (S.L.length : Nat)]
  ptr : Own w1 90 vl (pv X)
  num : Own w1 3 v9 (iv (lineN (S.first + 1) (S.L.length - (S.first + 1))))
  cs : Cs KR w1 X R
  mods : Mods (rfoot g vl vn X) w w1
  sub : ∀ k ∈ v9.ownBlock.toList, k ∈ rfoot g vl vn X ∨ w.heap.size ≤ k
theorem racc1 {w w8 : World} {g m : Nat} {vl vn v9 : Value} {X : List Cb} {R : List Rn} {S : Nt} (h : RefF w g vl vn X R S m)
    (ho : Own w8 3 v9 ([] ++ iv (lineN (S.first + 1) (S.L.length - (S.first + 1))))) (hm : Mods (Value.slice (some ⟨w.heap.size, 0, none⟩) 0 0).ownBlock.toList (w.alloc (.cells #[] 3)) w8 ∧ (v9.ownBlock = (Value.slice (some ⟨w.heap.size, 0, none⟩) 0 0).ownBlock ∨ v9.ownBlock = some (w.alloc (.cells #[] 3)).heap.size)) :
    Row w8 g 42 #[.int .i64 S.back, vl, vn, .int .i64 S.fail, .bool S.stop, .int .i64 (S.L.length : Nat)] ∧ ∀ w9, w9 = w8.setCell ⟨g, 2, none⟩ v9 → AMid w w9 g m vl vn X R S v9 := by
  have hq : Mods [] w w8 := ((Mods.refl [] w).alloc _).trans hm.1 (fun k hk => .inr (by simp [Value.ownBlock] at hk; omega))
  have hv : ∀ k ∈ v9.ownBlock.toList, w.heap.size ≤ k := fun k hk => by
    rcases hm.2 with e | e
    · rw [e] at hk; simp [Value.ownBlock] at hk; omega
    · rw [e] at hk; simp at hk; omega
  have h8 := h.keep (w' := w8) fun k hk => hq.block k (h.lt k hk) (by simp)
  refine ⟨h8.row, fun w9 e9 => ?_⟩
  subst e9
  refine ⟨?_, ?_, ?_, ?_, Mods.setCell (F := rfoot g vl vn X) (hq.more (by simp)) (p := ⟨g, 2, none⟩) (.inl (mem_rfoot.2 (.inl rfl))) v9, fun k hk => .inr (hv k hk)⟩
  · have := h8.row.set 2 v9
    simpa using this
  · exact h8.ptr.keep fun k hk => heap_setCell_other w8 ⟨g, 2, none⟩ k v9 (h8.ptr.ne_row h8.row (by decide) k hk)
  · rw [List.nil_append] at ho
    exact ho.keep fun k hk => heap_setCell_other w8 ⟨g, 2, none⟩ k v9 (ho.ne_row h8.row (by decide) k hk)
  · exact h8.cs.keep fun k hk => heap_setCell_other w8 ⟨g, 2, none⟩ k v9 (fun e => h8.g_fts (by have : k = g := e; rw [← this]; exact hk))
theorem racc2 {w w1 w2 : World} {g m : Nat} {vl vn v9 : Value} {X : List Cb} {R : List Rn} {S : Nt} {x : Cb} {r : Rn} (h : RefF w g vl vn X R S m) (hM : AMid w w1 g m vl vn X R S v9) (hx : X[S.first]? = some x) (hr : R[S.first]? = some r)
    (hc : CnTo KR w1 w2 x { r with c := { r.c with opn := true }, wts := false, was := true }) : RefTo w w2 g (rfoot g vl vn X) { S with first := S.first + 1, L := S.L.set S.first { r.c with opn := true } } m := by
  obtain ⟨x', h1, h2, h3, h4⟩ := hc
  have hlt : S.first < S.L.length := by rw [← h.len]; exact (List.getElem?_eq_some_iff.1 hx).1
  have hg1 : g ∉ fts X := h.g_fts
  have hsub : ∀ k ∈ x.ft, k ∈ fts X := fun k hk => mem_fts.2 ⟨_, x, hx, hk⟩
  have hrow : Row w2 g _ _ := hM.row.mods h3 fun hk => hg1 (hsub _ hk)
  have ha := h.st _ r hr
  have hrc : S.L[S.first]? = some r.c := by rw [← h.ag, List.getElem?_map, hr]; rfl
  have hin : r.inn = r.c.inn := ha.inn (by simp)
  refine ⟨rfoot g vl v9 (X.set S.first x'), ⟨vl, v9, X.set S.first x', R.set S.first { r with c := { r.c with opn := true }, wts := false, was := true }, rfl, ⟨?_, ?_, ?_, hM.cs.turn hx h1 h3 h4, ?_, fun j r2 hj => ?_, ?_⟩⟩, hM.mods.trans h3 fun k hk => .inl (ft_rsub hx k hk), fun k hk => ?_⟩
  · simp only [List.length_set]
    exact hrow
  · rw [pv_set hx h2]
    exact hM.ptr.mods h3 fun k hk hk2 => h.vl_fts k hk (hsub k hk2)
  · simp only [List.length_set]
    exact hM.num.mods h3 fun k hk hk2 => hM.cs.slice hM.num (by decide) (by decide) k hk (hsub k hk2)
  · rw [map_set_c, h.ag]
  · rw [List.getElem?_set] at hj
    by_cases hjf : S.first = j
    · subst hjf
      rw [if_pos rfl] at hj
      split at hj
      · injection hj with hj
        subst hj
        exact ⟨by simp, fun _ => hin, fun _ => by simp⟩
      · cases hj
    · rw [if_neg hjf] at hj
      have hs := h.st j r2 hj
      refine ⟨by rw [hs.wts]; simp; omega, fun hq => ?_, fun hq => by rw [hs.was hq]; simp; omega⟩
      refine hs.inn ?_
      rw [← hq]
      congr 1
      simp; omega
  · refine ⟨h.ok.b1, h.ok.b2, h.ok.f1, h.ok.f2, by simp; omega, by simpa using h.ok.n2, fun t ht => ?_, fun j t hj hop => ?_, h.ok.mm⟩
    · rcases List.mem_or_eq_of_mem_set ht with h5 | rfl
      · exact h.ok.cn t h5
      · exact h.ok.cn r.c (List.mem_of_getElem? hrc)
    · simp only at hj ⊢
      rw [List.getElem?_set] at hj
      split at hj
      · omega
      · have := h.ok.op j t hj hop; omega
  · rcases mem_rfoot.1 hk with h5 | h5 | h5 | h5
    · exact .inl (mem_rfoot.2 (.inl h5))
    · exact .inl (mem_rfoot.2 (.inr (.inl h5)))
    · exact hM.sub k h5
    · rcases fts_set hx h4 k h5 with h6 | h6
      · exact .inl (mem_rfoot.2 (.inr (.inr (.inr h6))))
      · exact .inr (Nat.le_trans hM.mods.size h6)
theorem iv_lineN_drop (f n : Nat) : (iv (lineN f (n + 1))).drop 1 = iv (lineN (f + 1) n) := by rw [lineN_succ]; rfl
set_option maxHeartbeats 2000000 in
theorem racc_any (w : World) (g m : Nat) (F : List Nat) (S : Nt) (h : RefA w g F S m) :
    Calls Try.prog 43 #[.pointer (some ⟨g, 0, none⟩)] w fun e w' => e = .returned (.tuple #[.int .i64 S.accC, .int .i64 S.accP, .int .i64 S.accE]) ∧ Hid (RefTo w w' g F S.acc m) := by
  have HS := Lib.hid (fun (w' : World) (hq : Mods [] w w') => RefTo.same h hq)
  have bad : S.accE ≠ 0 → S.accC = 0 ∧ S.accP = 0 := fun this => ⟨by unfold Nt.accC; rw [if_neg this], by unfold Nt.accP; rw [if_neg this]⟩
  obtain ⟨vl, vn, X, R, rfl, h⟩ := h
  obtain ⟨A, cc, rfl, hcc, -⟩ := h.slice
  obtain ⟨An, cn, rfl, hcn, hcm⟩ := h.line
  have c1 := h.row.cell 1
  have c2 := h.row.cell 2
  have c3 := h.row.cell 3
  have c4 := h.row.cell 4
  have f0 := h.row.free
  have hn1 := h.ok.n1
  cases hst : S.stop with
  | true =>
    rw [hst] at c4
    have he : S.accE = 6 := by unfold Nt.accE; rw [hst]; rfl
    rw [(bad (by rw [he]; decide)).1, (bad (by rw [he]; decide)).2, show S.acc = S by unfold Nt.acc; rw [he]; rfl, he]
    clear h bad he hst hcc hcn hcm
    go_enter Try.func43, Try.ntmps43
    go_wp2
    go_ret3
    exact ⟨rfl, Lib.hid (HS.out _ (Mods.refl _ _))⟩
  | false =>
    rw [hst] at c4
    have hwt : S.wait = ((S.L.length - S.first : Nat) : Int) := by unfold Nt.wait; omega
    have hE : S.accE = if ((S.L.length - S.first : Nat) : Int) = 0 then 2 else if 0 < S.fail then 7 else 0 := by unfold Nt.accE; rw [hst, hwt]; rfl
    have HH := Lib.hid h
    obtain ⟨k, hk⟩ : ∃ k, k = S.L.length - S.first := ⟨_, rfl⟩
    rw [← hk] at hE c2 hcn
    have HK := Lib.hid hk
    by_cases h0 : k = 0
    · have he : S.accE = 2 := by rw [hE, if_pos (by omega)]
      rw [(bad (by rw [he]; decide)).1, (bad (by rw [he]; decide)).2, show S.acc = S by unfold Nt.acc; rw [he]; rfl, he]
      subst h0
      clear h bad he hst hcc hE hk hwt hcn hcm
      go_enter Try.func43, Try.ntmps43
      go_wp2
      go_ret3
      exact ⟨rfl, Lib.hid (HS.out _ (Mods.refl _ _))⟩
    · have hkd : ((k : Int) == 0) = false := by simpa using h0
      by_cases hf : 0 < S.fail
      · have he : S.accE = 7 := by rw [hE, if_neg (by omega), if_pos hf]
        rw [(bad (by rw [he]; decide)).1, (bad (by rw [he]; decide)).2, show S.acc = { S with fail := S.fail - 1 } by unfold Nt.acc; rw [he]; rfl, he]
        have hf2 := h.ok.f2
        clear h bad he hst hcc hE hk hwt hcn hcm
        go_enter Try.func43, Try.ntmps43
        go_wp2
        go_ret3
        refine ⟨rfl, Lib.hid ⟨_, ⟨_, _, X, R, rfl, ⟨?_, HH.out.ptr.keep fun k hk => heap_setCell_other w ⟨g, 3, none⟩ k _ (HH.out.ptr.ne_row HH.out.row (by decide) k hk), HH.out.num.keep fun k hk => heap_setCell_other w ⟨g, 3, none⟩ k _ (HH.out.num.ne_row HH.out.row (by decide) k hk), HH.out.cs.keep fun k hk => heap_setCell_other w ⟨g, 3, none⟩ k _ (fun e => HH.out.g_fts (by have : k = g := e; rw [← this]; exact hk)), HH.out.ag, HH.out.st, ⟨HH.out.ok.b1, HH.out.ok.b2, by simp only; omega, by simp only; omega, HH.out.ok.n1, HH.out.ok.n2, HH.out.ok.cn, HH.out.ok.op, HH.out.ok.mm⟩⟩⟩, Mods.setCell (F := rfoot g (.slice A S.L.length cc) (.slice An (S.L.length - S.first) cn) X) (Mods.refl _ w) (p := ⟨g, 3, none⟩) (.inl (mem_rfoot.2 (.inl rfl))) _, fun k hk => .inl hk⟩⟩
        have := HH.out.row.set 3 (.int .i64 (S.fail - 1))
        simpa using this
      · have he : S.accE = 0 := by rw [hE, if_neg (by omega), if_neg hf]
        have hlt : S.first < S.L.length := by omega
        obtain ⟨s, hs⟩ : ∃ s, S.L[S.first]? = some s := ⟨_, List.getElem?_eq_getElem hlt⟩
        obtain ⟨x, r, hx, hr, rfl, hc, ha⟩ := h.at_ hs
        have hg : S.get S.first = r.c := by unfold Nt.get; rw [Nt.at_nat, hs]; rfl
        rw [show S.accC = S.first by unfold Nt.accC; rw [if_pos he], show S.accP = r.c.peer by unfold Nt.accP; rw [if_pos he, hg], show S.acc = { S with first := S.first + 1, L := S.L.set S.first { r.c with opn := true } } by unfold Nt.acc; rw [if_pos he, hg], he]
        obtain ⟨b, o, rfl, ci⟩ := h.cell hx
        have hnum : Own w 3 (.slice An k cn) (iv (lineN S.first k)) := by rw [hk]; exact h.num
        obtain ⟨k', rfl⟩ : ∃ k', k = k' + 1 := ⟨k - 1, by omega⟩
        obtain ⟨nb, no, rfl, cz⟩ := hnum.src 0 (.int .i64 (S.first : Nat)) (by rw [lineN_succ]; rfl)
        rw [Nat.add_zero] at cz
        have hcut := hnum.cut 1 (by omega)
        rw [iv_lineN_drop] at hcut
        obtain ⟨B, hB⟩ : ∃ B : Option Addr, B = (if cn = 1 then some ⟨nb, no, none⟩ else some ⟨nb, no + 1, none⟩) := ⟨_, rfl⟩
        replace hcut : Own w 3 (.slice B (k' + 1 - 1) (cn - 1)) (iv (lineN (S.first + 1) k')) := by rw [hB]; exact hcut
        have HCS := Lib.hid hcut.src
        have hoff := hB.symm
        have HX := Lib.hid hx
        have HR := Lib.hid hr
        have HK9 := Lib.hid (show k' ≤ 65536 by have := h.ok.n2; omega)
        have HKK := Lib.hid (show S.L.length - (S.first + 1) = k' by omega)
        have a1 := fun o => cell_alloc c1 o
        have a2 := fun o => cell_alloc c2 o
        obtain ⟨i1, hi0, hz, hsz, hby⟩ := info_parts int_info3
        have HJ := Lib.hid (And.intro hi0 (And.intro hz (And.intro hsz (show i1.bytes ≤ 8 by omega))))
        unfold maxLen at hcm
        clear h bad he hst hcc hE hk hwt hg hx hs hr hc ha hnum hcut hB hi0 hz hsz hby
        go_enter Try.func43, Try.ntmps43
        go_wp2_with (at_builtin; (refine wpList_append_own2 _ rfl (.tmp 35) (.tmp 40) 40 rfl 3 i1 (.int .i64 0) Try.underlying40 HJ.out.1 HJ.out.2.1 HJ.out.2.2.1 HJ.out.2.2.2 rfl (.slice (some ⟨w.heap.size, 0, none⟩) 0 0) [] rfl (own_lit0i w) B k' (cn - 1) (iv (lineN (S.first + 1) k')) rfl (by simp [iv, lineN_length]) (Src.keep0 HCS.out ((Mods.refl [] w).alloc _)) (by intro u hu; obtain ⟨_, _, rfl⟩ := List.mem_map.1 hu; rfl) (by have := HK9.out; simp; omega) ?_; intro v8 w8 HO8 HM8; have HQ8 := Lib.hid (racc1 HH.out (by rw [HKK.out]; exact HO8.out) HM8.out); obtain ⟨A8, n8, p8, rfl, -, -, -⟩ := HO8.out.slice'; have e2 : w8.cell? ⟨g, 2, none⟩ = some (.slice (some ⟨nb, no, none⟩) (k' + 1) cn) := (by rw [HK.out]; exact HQ8.out.1.cell 2); have f8 := HQ8.out.1.free))
        obtain ⟨w9, hw9, HM9⟩ : ∃ w9, w9 = w8.setCell ⟨g, 2, none⟩ (.slice A8 n8 p8) ∧ Hid (AMid w w9 g m (.slice (some ⟨b, o, none⟩) S.L.length cc) (.slice (some ⟨nb, no, none⟩) (S.L.length - S.first) cn) X R S (.slice A8 n8 p8)) := ⟨_, rfl, Lib.hid (HQ8.out.2 _ rfl)⟩
        rw [← hw9]
        clear hw9 HQ8 e2 f8 HO8 HM8 c1 c2 c3 c4 f0 ci cz a1 a2 hoff HCS
        have d1 : w9.cell? ⟨g, 1, none⟩ = some (.slice (some ⟨b, o, none⟩) S.L.length cc) := HM9.out.row.cell 1
        have p1 : w9.cell? ⟨b, o + S.first, none⟩ = some (.pointer (some ⟨x.b, 0, none⟩)) := by
          obtain ⟨b', o', e, hc⟩ := HM9.out.ptr.src S.first _ (pv_at HX.out)
          cases e
          exact hc
        have HC := Lib.hid (HM9.out.cs.at_ S.first x r HX.out HR.out)
        have q0 : w9.cell? ⟨x.b, 0, none⟩ = some (.int .i64 r.c.peer) := HC.out.row.cell 0
        have q1 : w9.cell? ⟨x.b, 1, none⟩ = some (.bool r.wts) := HC.out.row.cell 1
        have q2 : w9.cell? ⟨x.b, 2, none⟩ = some (.bool r.c.opn) := HC.out.row.cell 2
        have q3 : w9.cell? ⟨x.b, 3, none⟩ = some (.bool r.was) := HC.out.row.cell 3
        have fx := HC.out.row.free
        have e1 : ¬ g = x.b := fun e => HH.out.g_fts (by rw [e]; exact mem_fts.2 ⟨_, x, HX.out, (x.mem_ft _).2 (.inl rfl)⟩)
        have e2 : ¬ b = x.b := fun e => HH.out.vl_fts b (by simp [Value.ownBlock]) (by rw [e]; exact mem_fts.2 ⟨_, x, HX.out, (x.mem_ft _).2 (.inl rfl)⟩)
        have e3 : ¬ x.b = g := fun e => e1 e.symm
        have e4 : ¬ x.b = b := fun e => e2 e.symm
        go_region_held3 (fun w' => w'.cell? ⟨g, 1, none⟩ = some (.slice (some ⟨b, o, none⟩) S.L.length cc) ∧ w'.cell? ⟨b, o + S.first, none⟩ = some (.pointer (some ⟨x.b, 0, none⟩))) (go_keep) (fail)
        obtain ⟨wA, hwA, HA, g1, g2, g3⟩ : ∃ wA, wA = (((w9.setCell ⟨x.b, 1, none⟩ (.bool false)).setCell ⟨x.b, 2, none⟩ (.bool true)).setCell ⟨x.b, 3, none⟩ (.bool true)).drew ∧ Hid (RefTo w wA g (rfoot g (.slice (some ⟨b, o, none⟩) S.L.length cc) (.slice (some ⟨nb, no, none⟩) (S.L.length - S.first) cn) X) { S with first := S.first + 1, L := S.L.set S.first { r.c with opn := true } } m) ∧ wA.cell? ⟨g, 1, none⟩ = some (.slice (some ⟨b, o, none⟩) S.L.length cc) ∧ wA.cell? ⟨b, o + S.first, none⟩ = some (.pointer (some ⟨x.b, 0, none⟩)) ∧ wA.cell? ⟨x.b, 0, none⟩ = some (.int .i64 r.c.peer) := by
          have hc : CnTo KR w9 _ x _ := CnTo.put (s' := { r with c := { r.c with opn := true }, wts := false, was := true }) (CnTo.put (s' := { r with c := { r.c with opn := true }, wts := false }) (CnTo.put (s' := { r with wts := false }) (CnTo.refl HC.out) 1 (.bool false) (fun _ => rfl) (rbs_all rfl rfl rfl)) 2 (.bool true) (fun _ => rfl) (rbs_all rfl rfl rfl)) 3 (.bool true) (fun _ => rfl) (rbs_all rfl rfl rfl)
          have hm : Mods [x.b] w9 (((w9.setCell ⟨x.b, 1, none⟩ (.bool false)).setCell ⟨x.b, 2, none⟩ (.bool true)).setCell ⟨x.b, 3, none⟩ (.bool true)) := Mods.setCell (Mods.setCell (Mods.setCell (Mods.refl _ w9) (p := ⟨x.b, 1, none⟩) (.inl (by simp)) _) (p := ⟨x.b, 2, none⟩) (.inl (by simp)) _) (p := ⟨x.b, 3, none⟩) (.inl (by simp)) _
          refine ⟨_, rfl, Lib.hid ((racc2 HH.out HM9.out HX.out HR.out hc).quiet (Mods.refl _ _).drew), ?_, ?_, ?_⟩
          · exact cell_mods d1 hm.drew (by simpa using e1)
          · exact cell_mods p1 hm.drew (by simpa using e2)
          · obtain ⟨x', h1, h2, -, -⟩ := hc
            have := h1.row.cell 0
            rw [h2] at this
            exact this
        rw [← hwA]
        clear hwA d1 p1 q0 q1 q2 q3 fx
        go_wp2_with fail
        go_quiet (fail)
        go_wp2
        go_ret3
        exact ⟨rfl, Lib.hid (HA.out.quiet ((Mods.refl _ _).drewN _))⟩
end Go.Proofs.Ytogcfeplfclobaa
