/- What Stop of the reference's net does. -/
import Derived.Test.YtogcfeplfclobaaRl
import Derived.Test.YtogcfeplfclobaaNq
import Derived.Deep.RegionHeld3
import Derived.BigRegion
namespace Go.Proofs.Ytogcfeplfclobaa
open Go.RowKit
set_option maxRecDepth 10000
set_option linter.unusedVariables false
set_option linter.unusedSimpArgs false

/-- The first k of those who wait are broken, and wait no more; the line stands yet. -/
structure RSm (w : World) (g : Nat) (vl vn : Value) (X : List Cb) (R : List Rn) (S : Nt) (k m : Nat) : Prop where
  row : Row w g 42 #[.int .i64 S.back, vl, vn, .int .i64 S.fail, .bool true, .int .i64 (S.L.length : Nat)]
  ptr : Own w 90 vl (pv X)
  num : Own w 3 vn (iv (lineN S.first (S.L.length - S.first)))
  cs : Cs KR w X R
  ag : R.map (·.c) = (brkTo S k).L
  st : ∀ (i : Nat) (r : Rn), R[i]? = some r → Ag (S.first + k) i r
  ok : (brkTo S k).Ok m
def RStop (w wr : World) (g m : Nat) (vl vn : Value) (X : List Cb) (S : Nt) (k : Nat) : Prop :=
  ∃ X' R', RSm wr g vl vn X' R' S k m ∧ pv X' = pv X ∧ Mods (rfoot g vl vn X) w wr ∧ ∀ b ∈ fts X', b ∈ fts X ∨ w.heap.size ≤ b
theorem rstop_quiet {w wr w2 : World} {g m : Nat} {vl vn : Value} {X : List Cb} {S : Nt} {k : Nat} (h : RStop w wr g m vl vn X S k) (hm : Mods [] wr w2) : RStop w w2 g m vl vn X S k := by
  obtain ⟨X', R', h1, h2, h3, h4⟩ := h
  exact ⟨X', R', ⟨h1.row.mods hm (by simp), h1.ptr.mods hm (by simp), h1.num.mods hm (by simp), h1.cs.keep fun b hb => hm.block b (h1.cs.lt b hb) (by simp), h1.ag, h1.st, h1.ok⟩, h2, h3.trans hm (by simp), h4⟩
theorem rstop_step {w wr : World} {g m n f nl cc cn k : Nat} {A An : Option Addr} {X : List Cb} {S : Nt} (h : RStop w wr g m (.slice A n cc) (.slice An nl cn) X S k) (hn : n = S.L.length) (hf : f = S.first) (hl : nl = n - f) (hk : k < nl) {p : Nat} (hp : p = f + k) :
    ∃ (b o nb no : Nat) (x : Cb) (r : Rn), (A = some ⟨b, o, none⟩ ∧ An = some ⟨nb, no, none⟩) ∧
      (∀ w1, Mods x.ft wr w1 → w1.cell? ⟨g, 1, none⟩ = some (.slice A n cc) ∧ w1.cell? ⟨g, 2, none⟩ = some (.slice An nl cn) ∧ w1.cell? ⟨nb, no + k, none⟩ = some (.int .i64 (p : Int)) ∧ w1.cell? ⟨b, o + p, none⟩ = some (.pointer (some ⟨x.b, 0, none⟩))) ∧
      (¬ g = x.b ∧ ¬ b = x.b ∧ ¬ nb = x.b) ∧
      (∀ w1, Mods [] wr w1 → Calls Try.prog 64 #[.pointer (some ⟨x.b, 0, none⟩)] w1 (fun e w' => e = .returned (.tuple #[]) ∧ Hid (CnTo KR wr w' x { r with c := r.c.break_, inn := [] }))) ∧
      ∀ w2, CnTo KR wr w2 x { r with c := r.c.break_, inn := [], wts := false } → RStop w w2 g m (.slice A n cc) (.slice An nl cn) X S (k + 1) := by
  subst hn hf hl hp
  obtain ⟨X', R', hA, hpv, hM, hfts⟩ := h
  have hlt : S.first + k < S.L.length := by omega
  obtain ⟨s, hs⟩ : ∃ s, S.L[S.first + k]? = some s := ⟨_, List.getElem?_eq_getElem hlt⟩
  have hn1 : S.first ≤ S.L.length := by omega
  have hs2 := brkTo_at S k hn1 hs
  have hs3 := hs2
  rw [← hA.ag, List.getElem?_map] at hs3
  cases hr : R'[S.first + k]? with
  | none => rw [hr] at hs3; cases hs3
  | some r =>
    rw [hr] at hs3
    injection hs3 with hs3
    simp only at hs3
    subst hs3
    obtain ⟨x, hx⟩ := hA.cs.at1 hr
    obtain ⟨b, o, hb, hcell⟩ := hA.ptr.src (S.first + k) _ (pv_at hx)
    obtain ⟨nb, no, hnb, hnc⟩ := hA.num.src k (.int .i64 ((S.first + k : Nat) : Int)) (by
      simp only [iv, List.getElem?_map]
      rw [lineN_at _ _ _ hk]
      rfl)
    have hcn := hA.cs.at_ _ x r hx hr
    have hsub : ∀ j ∈ x.ft, j ∈ fts X' := fun j hj => mem_fts.2 ⟨_, x, hx, hj⟩
    have hxb : x.b ∈ x.ft := (x.mem_ft _).2 (.inl rfl)
    have hg : g ∉ fts X' := hA.cs.row hA.row (by decide) (by decide)
    have hvl : ∀ j ∈ (Value.slice A S.L.length cc).ownBlock.toList, j ∉ fts X' := hA.cs.slice hA.ptr (by decide) (by decide)
    have hvn : ∀ j ∈ (Value.slice An (S.L.length - S.first) cn).ownBlock.toList, j ∉ fts X' := hA.cs.slice hA.num (by decide) (by decide)
    have hbx : b ∉ fts X' := hvl b (by rw [hb]; simp [Value.ownBlock])
    have hnx : nb ∉ fts X' := hvn nb (by rw [hnb]; simp [Value.ownBlock])
    refine ⟨b, o, nb, no, x, r, ⟨hb, hnb⟩, fun w1 hm => ⟨cell_mods (hA.row.cell 1) hm fun hk => hg (hsub _ hk), cell_mods (hA.row.cell 2) hm fun hk => hg (hsub _ hk), cell_mods hnc hm fun hk => hnx (hsub _ hk), cell_mods hcell hm fun hk => hbx (hsub _ hk)⟩, ⟨fun e => hg (hsub _ (by rw [e]; exact hxb)), fun e => hbx (hsub _ (by rw [e]; exact hxb)), fun e => hnx (hsub _ (by rw [e]; exact hxb))⟩, fun w1 hm => (breaks_any w1 x r (hcn.mods hm (by simp))).mono ?_, fun w2 hq => ?_⟩
    · rintro e w' ⟨he, hq⟩
      exact ⟨he, Lib.hid (CnTo.trans rfl (hm.more (by simp)) (fun j hj => .inl hj) hq.out)⟩
    · obtain ⟨x2, q1, q2, q3, q4⟩ := hq
      have hsf := hA.ok.at_ hs2
      have hok : ((brkTo S k).upd ((S.first + k : Nat) : Int) r.c.break_).Ok m := hA.ok.upd (Nat.le_refl _) hA.ok.mm (by simp only [Cn.break_, List.length_nil]; omega) (fun hq => hA.ok.op _ r.c hs2 hq)
      have hbs := brkTo_succ S k hn1 hs
      have hrs := hA.st _ r hr
      refine ⟨X'.set (S.first + k) x2, R'.set (S.first + k) { r with c := r.c.break_, inn := [], wts := false }, ⟨hA.row.mods q3 fun hk => hg (hsub _ hk), ?_, hA.num.mods q3 fun j hj hj2 => hvn j hj (hsub j hj2), hA.cs.turn hx q1 q3 q4, ?_, fun j r2 hj => ?_, by rw [hbs]; exact hok⟩, by rw [pv_set hx q2]; exact hpv, hM.trans q3 fun j hj => ?_, fun j hj => ?_⟩
      · rw [pv_set hx q2]
        exact hA.ptr.mods q3 fun j hj hj2 => hvl j hj (hsub j hj2)
      · rw [map_set_c, hA.ag, hbs]
        show (brkTo S k).L.set (S.first + k) r.c.break_ = (brkTo S k).L.set ((S.first + k : Nat) : Int).toNat r.c.break_
        rw [Int.toNat_natCast]
      · rw [List.getElem?_set] at hj
        by_cases hjf : S.first + k = j
        · subst hjf
          rw [if_pos rfl] at hj
          split at hj
          · injection hj with hj
            subst hj
            exact ⟨by simp, fun _ => rfl, fun hq => by simp [Cn.break_] at hq⟩
          · cases hj
        · rw [if_neg hjf] at hj
          have hs := hA.st j r2 hj
          refine ⟨by rw [hs.wts]; simp; omega, fun hq => ?_, fun hq => by rw [hs.was hq]; simp; omega⟩
          refine hs.inn ?_
          rw [← hq]
          congr 1
          simp; omega
      · rcases hfts j (hsub j hj) with h | h
        · exact .inl (mem_rfoot.2 (.inr (.inr (.inr h))))
        · exact .inr h
      · rcases fts_set hx q4 j hj with h | h
        · exact hfts j h
        · exact .inr (Nat.le_trans hM.size h)
theorem rstop_end {w wr : World} {g m n f nl cc cn : Nat} {A An : Option Addr} {X : List Cb} {S : Nt} (h : RStop w wr g m (.slice A n cc) (.slice An nl cn) X S nl) (hn : n = S.L.length) (hf : f = S.first) (hl : nl = n - f) (h1 : f ≤ n) :
    RefTo w (wr.setCell ⟨g, 2, none⟩ (.slice none 0 0)) g (rfoot g (.slice A n cc) (.slice An nl cn) X) S.stopped m := by
  subst hn hf hl
  obtain ⟨X', R', hA, hpv, hM, hfts⟩ := h
  have hg : g ∉ fts X' := hA.cs.row hA.row (by decide) (by decide)
  have hlen := brkTo_len S (S.L.length - S.first)
  have hst := brkTo_all S h1
  have hL : S.stopped.L = (brkTo S (S.L.length - S.first)).L := by rw [← hst]
  have hF : S.stopped.first = S.L.length := by rw [← hst]
  have hll : S.stopped.L.length = S.L.length := by rw [hL, hlen]
  refine ⟨rfoot g (.slice A S.L.length cc) (.slice none 0 0) X', ⟨_, _, X', R', rfl, ⟨?_, ?_, ?_, ?_, ?_, ?_, ?_⟩⟩, Mods.setCell (F := rfoot g (.slice A S.L.length cc) (.slice An (S.L.length - S.first) cn) X) hM (p := ⟨g, 2, none⟩) (.inl (mem_rfoot.2 (.inl rfl))) _, fun k hk => ?_⟩
  · rw [hll]
    have h9 : Row (wr.setCell ⟨g, 2, none⟩ (.slice none 0 0)) g 42 #[.int .i64 S.back, .slice A S.L.length cc, .slice none 0 0, .int .i64 S.fail, .bool true, .int .i64 (S.L.length : Nat)] := by
      have := hA.row.set 2 (.slice none 0 0)
      simpa using this
    exact h9
  · exact hA.ptr.keep fun k hk => heap_setCell_other wr ⟨g, 2, none⟩ k _ (hA.ptr.ne_row hA.row (by decide) k hk)
  · rw [hll, hF, Nat.sub_self]
    exact Own.nil _ _
  · exact hA.cs.keep fun k hk => heap_setCell_other wr ⟨g, 2, none⟩ k _ (fun e => hg (by have : k = g := e; rw [← this]; exact hk))
  · rw [hL]; exact hA.ag
  · intro i r hr
    have := hA.st i r hr
    rw [hF]
    rw [show S.first + (S.L.length - S.first) = S.L.length by omega] at this
    exact this
  · refine ⟨hA.ok.b1, hA.ok.b2, hA.ok.f1, hA.ok.f2, by rw [hF, hll]; exact Nat.le_refl _, by rw [hll, ← hlen]; exact hA.ok.n2, by rw [hL]; exact hA.ok.cn, fun j s hj hop => ?_, hA.ok.mm⟩
    rw [hL] at hj
    have h2 := hA.ok.op j s hj hop
    have h3 : (brkTo S (S.L.length - S.first)).first = S.first := rfl
    rw [hF]
    omega
  · rcases mem_rfoot.1 hk with h5 | h5 | h5 | h5
    · exact .inl (mem_rfoot.2 (.inl h5))
    · exact .inl (mem_rfoot.2 (.inr (.inl h5)))
    · simp [Value.ownBlock] at h5
    · rcases hfts k h5 with h6 | h6
      · exact .inl (mem_rfoot.2 (.inr (.inr (.inr h6))))
      · exact .inr h6
set_option maxHeartbeats 2000000 in
theorem rstop_any (w : World) (g m : Nat) (F : List Nat) (S : Nt) (h : RefA w g F S m) :
    Calls Try.prog 48 #[.pointer (some ⟨g, 0, none⟩)] w fun e w' => e = .returned (.tuple #[]) ∧ Hid (RefTo w w' g F S.stopped m) := by
  obtain ⟨vl, vn, X, R, rfl, h⟩ := h
  obtain ⟨A, cc, rfl, -, -⟩ := h.slice
  obtain ⟨An, cn, rfl, -, -⟩ := h.line
  have c4 := h.row.cell 4
  have f0 := h.row.free
  have h1 := h.ok.n1
  have h2 := h.ok.n2
  have HSZ := Lib.hid (show RStop w (w.setCell ⟨g, 4, none⟩ (.bool true)) g m (.slice A S.L.length cc) (.slice An (S.L.length - S.first) cn) X S 0 from ⟨X, R, by
    refine ⟨?_, h.ptr.keep fun k hk => heap_setCell_other w ⟨g, 4, none⟩ k _ (h.ptr.ne_row h.row (by decide) k hk), h.num.keep fun k hk => heap_setCell_other w ⟨g, 4, none⟩ k _ (h.num.ne_row h.row (by decide) k hk), h.cs.keep fun k hk => heap_setCell_other w ⟨g, 4, none⟩ k _ (fun e => h.g_fts (by have : k = g := e; rw [← this]; exact hk)), ?_, h.st, ?_⟩
    · have := h.row.set 4 (.bool true)
      simpa using this
    · rw [brkTo_zero]; exact h.ag
    · rw [brkTo_zero]; exact ⟨h.ok.b1, h.ok.b2, h.ok.f1, h.ok.f2, h.ok.n1, h.ok.n2, h.ok.cn, h.ok.op, h.ok.mm⟩, rfl, Mods.setCell (F := rfoot g (.slice A S.L.length cc) (.slice An (S.L.length - S.first) cn) X) (Mods.refl _ w) (p := ⟨g, 4, none⟩) (.inl (mem_rfoot.2 (.inl rfl))) _, fun b hb => .inl hb⟩)
  obtain ⟨n, hn0⟩ : ∃ n, n = S.L.length := ⟨_, rfl⟩
  obtain ⟨f, hf0⟩ : ∃ f, f = S.first := ⟨_, rfl⟩
  obtain ⟨nl, hl0⟩ : ∃ nl, nl = n - f := ⟨_, rfl⟩
  rw [← hn0, ← hf0, ← hl0] at HSZ ⊢
  rw [← hn0] at h1 h2
  rw [← hf0] at h1
  have HN := Lib.hid hn0
  have HFF := Lib.hid hf0
  have HNL := Lib.hid hl0
  have hnl : nl ≤ 65536 := by omega
  clear h hn0 hf0 hl0
  go_enter Try.func48, Try.ntmps48
  go_wp2_with fail
  go_loopw [2] (fun i wr => ∃ k : Nat, k ≤ nl ∧ i = .int .i64 k ∧ Hid (RStop w wr g m (.slice A n cc) (.slice An nl cn) X S k)) (fun i _ => nl - (intOf i).toNat)
  case atStart => exact ⟨0, Nat.zero_le _, rfl, HSZ⟩
  case round =>
    obtain ⟨k, hk, rfl, hd⟩ := hrel
    obtain ⟨X', R', hA, -, -, -⟩ := hd.out
    have d2 : wr.cell? ⟨g, 2, none⟩ = some (.slice An nl cn) := by rw [HNL.out, HN.out, HFF.out]; have := hA.row.cell 2; rw [HNL.out, HN.out, HFF.out] at this; exact this
    have fr := hA.row.free
    clear hA
    by_cases hlt : k < nl
    · obtain ⟨p, hp⟩ : ∃ p, p = f + k := ⟨_, rfl⟩
      obtain ⟨b, o, nb, no, x, r, ⟨rfl, rfl⟩, hcs, ⟨e1, e2, e3⟩, HB2, HS2⟩ := rstop_step hd.out HN.out HFF.out HNL.out hlt hp
      obtain ⟨z1, z2, z3, z4⟩ := hcs wr (Mods.refl _ _)
      have hik : p < n := by have := HNL.out; omega
      clear hp
      have HCS := Lib.hid hcs
      have HBR := Lib.hid HB2
      have HST := Lib.hid HS2
      clear hd HB2 HS2 hcs c4 f0 d2
      go_wp2_with fail
      go_region_with (go_at_call 64; refine (HBR.out _ (by first | exact Mods.refl _ _ | exact (Mods.refl [] wr).same rfl rfl rfl rfl)).mono ?_; rintro e w2 ⟨rfl, hq⟩)
      all_goals
        have HQ := Lib.hid hq.out
        have hmm := hq.out
        clear hq
        obtain ⟨x2, q1, q2, q3, q4⟩ := hmm
        obtain ⟨y1, y2, y3, y4⟩ := HCS.out _ q3
        have c1 := q1.row.cell 1
        have fx := q1.row.free
        rw [q2] at c1 fx
        simp only [KR] at c1
        clear q1 q2 q3 q4 z1 z2 z3 z4
        have e4 : ¬ x.b = g := fun e => e1 e.symm
        have e5 : ¬ x.b = b := fun e => e2 e.symm
        have e6 : ¬ x.b = nb := fun e => e3 e.symm
        go_wp2_with fail
        go_region_held3 (fun w' => w'.cell? ⟨g, 1, none⟩ = some (.slice (some ⟨b, o, none⟩) n cc) ∧ w'.cell? ⟨g, 2, none⟩ = some (.slice (some ⟨nb, no, none⟩) nl cn) ∧ w'.cell? ⟨nb, no + k, none⟩ = some (.int .i64 (p : Int)) ∧ w'.cell? ⟨b, o + p, none⟩ = some (.pointer (some ⟨x.b, 0, none⟩))) (go_keep) (fail)
        go_wp2
        go_roundw
        case rel => exact ⟨k + 1, by omega, by go_num, Lib.hid (rstop_quiet (HST.out _ (CnTo.put HQ.out 1 (.bool false) (fun _ => rfl) (rbs_all rfl rfl rfl))) ((Mods.refl [] _).same rfl rfl rfl rfl))⟩
        case measure => simp [intOf]; omega
    · have hkn : k = nl := by omega
      subst hkn
      have HE := Lib.hid (rstop_end hd.out HN.out HFF.out HNL.out h1)
      clear hd c4 f0
      go_wp2
      go_end0
      exact ⟨rfl, HE⟩
end Go.Proofs.Ytogcfeplfclobaa
