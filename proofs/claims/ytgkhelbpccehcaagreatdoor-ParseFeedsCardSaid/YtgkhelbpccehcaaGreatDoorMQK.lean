/- What chapter 15's laws ask of plain parsers, one by one. No program but for what Parse answers. -/
import Derived.Test.YtgkhelbpccehcaaGreatDoorMQJ
import Derived.Test.YtgkhelbpccehcaaGreatDoorMQI
import Derived.Test.YtgkhelbpccehcaaGreatDoorMQA
import Derived.Test.YtgkhelbpccehcaaGreatDoorMQB
import Derived.Deep.RegionHeld3
import Derived.BigRegion
import Derived.Deep.DeepCutAuto
import Derived.Deep.CutBlock
import Derived.BigQuiet
import Derived.Test.YtgkhelbpccehcaaGreatDoorMQG
import Derived.Test.YtgkhelbpccehcaaGreatDoorMQH
namespace Go.Proofs.YtgkhelbpccehcaaGreatDoor
open Go.RowKit
set_option linter.unusedVariables false
set_option linter.unusedSimpArgs false

/-! Cuts. -/
/-! Long lines. -/
/-! Bodies with a length. -/
/-- What is taken: the request, and what is left. -/
theorem take_w {P : PrP} (h : P.phase = 3) : takeR P = ({ P with phase := 0 }, rqOf P, 0) := by unfold takeR; rw [if_pos h]
end Go.Proofs.YtgkhelbpccehcaaGreatDoor

/- Requests in memory. No text of the program. -/
namespace Go.Proofs.YtgkhelbpccehcaaGreatDoor
open Go.RowKit
set_option linter.unusedVariables false
set_option linter.unusedSimpArgs false

/-- A request's cells; a request as a value. -/
def reqCells (r : RqP) (vf vb : Value) : Array Value := #[.string r.meth, .int .i64 r.tgt.form, .string r.tgt.host, .string r.tgt.path, .string r.tgt.query, .int .i64 r.minor, vf, vb, .bool r.close, .bool r.expect]
def reqV (r : RqP) (vf vb : Value) : Value := .agg (reqCells r vf vb)
def setQ (w : World) (r : Nat) (x0 x1 x2 x3 x4 x5 x6 x7 x8 x9 : Value) : World := ((((((((((w.setCell ⟨r, 0, none⟩ x0).setCell ⟨r, 1, none⟩ x1).setCell ⟨r, 2, none⟩ x2).setCell ⟨r, 3, none⟩ x3).setCell ⟨r, 4, none⟩ x4).setCell ⟨r, 5, none⟩ x5).setCell ⟨r, 6, none⟩ x6).setCell ⟨r, 7, none⟩ x7).setCell ⟨r, 8, none⟩ x8).setCell ⟨r, 9, none⟩ x9)
theorem Mods.setQ {w w' : World} {F : List Nat} {r : Nat} {x0 x1 x2 x3 x4 x5 x6 x7 x8 x9 : Value} (hm : Mods F w w') (h : r ∈ F ∨ w.heap.size ≤ r) : Mods F w (setQ w' r x0 x1 x2 x3 x4 x5 x6 x7 x8 x9) :=
  ((((((((((hm.setCell h _).setCell h _).setCell h _).setCell h _).setCell h _).setCell h _).setCell h _).setCell h _).setCell h _).setCell h _)
theorem Row.setQ {w : World} {r : Nat} {t : TypeId} {a0 a1 a2 a3 a4 a5 a6 a7 a8 a9 : Value} (h : Row w r t #[a0, a1, a2, a3, a4, a5, a6, a7, a8, a9]) (x0 x1 x2 x3 x4 x5 x6 x7 x8 x9 : Value) : Row (setQ w r x0 x1 x2 x3 x4 x5 x6 x7 x8 x9) r t #[x0, x1, x2, x3, x4, x5, x6, x7, x8, x9] := by
  unfold Go.Proofs.YtgkhelbpccehcaaGreatDoor.setQ
  have h0 : Row (w.setCell ⟨r, 0, none⟩ x0) r t #[x0, a1, a2, a3, a4, a5, a6, a7, a8, a9] := h.set 0 _
  generalize w.setCell ⟨r, 0, none⟩ x0 = w0 at h0 ⊢
  have h1 : Row (w0.setCell ⟨r, 1, none⟩ x1) r t #[x0, x1, a2, a3, a4, a5, a6, a7, a8, a9] := h0.set 1 _
  generalize w0.setCell ⟨r, 1, none⟩ x1 = w1 at h1 ⊢
  have h2 : Row (w1.setCell ⟨r, 2, none⟩ x2) r t #[x0, x1, x2, a3, a4, a5, a6, a7, a8, a9] := h1.set 2 _
  generalize w1.setCell ⟨r, 2, none⟩ x2 = w2 at h2 ⊢
  have h3 : Row (w2.setCell ⟨r, 3, none⟩ x3) r t #[x0, x1, x2, x3, a4, a5, a6, a7, a8, a9] := h2.set 3 _
  generalize w2.setCell ⟨r, 3, none⟩ x3 = w3 at h3 ⊢
  have h4 : Row (w3.setCell ⟨r, 4, none⟩ x4) r t #[x0, x1, x2, x3, x4, a5, a6, a7, a8, a9] := h3.set 4 _
  generalize w3.setCell ⟨r, 4, none⟩ x4 = w4 at h4 ⊢
  have h5 : Row (w4.setCell ⟨r, 5, none⟩ x5) r t #[x0, x1, x2, x3, x4, x5, a6, a7, a8, a9] := h4.set 5 _
  generalize w4.setCell ⟨r, 5, none⟩ x5 = w5 at h5 ⊢
  have h6 : Row (w5.setCell ⟨r, 6, none⟩ x6) r t #[x0, x1, x2, x3, x4, x5, x6, a7, a8, a9] := h5.set 6 _
  generalize w5.setCell ⟨r, 6, none⟩ x6 = w6 at h6 ⊢
  have h7 : Row (w6.setCell ⟨r, 7, none⟩ x7) r t #[x0, x1, x2, x3, x4, x5, x6, x7, a8, a9] := h6.set 7 _
  generalize w6.setCell ⟨r, 7, none⟩ x7 = w7 at h7 ⊢
  have h8 : Row (w7.setCell ⟨r, 8, none⟩ x8) r t #[x0, x1, x2, x3, x4, x5, x6, x7, x8, a9] := h7.set 8 _
  generalize w7.setCell ⟨r, 8, none⟩ x8 = w8 at h8 ⊢
  have h9 : Row (w8.setCell ⟨r, 9, none⟩ x9) r t #[x0, x1, x2, x3, x4, x5, x6, x7, x8, x9] := h8.set 9 _
  exact h9
theorem Row.ten {w : World} {r : Nat} {t : TypeId} {a0 a1 a2 a3 a4 a5 a6 a7 a8 a9 : Value} (h : Row w r t #[a0, a1, a2, a3, a4, a5, a6, a7, a8, a9]) : w.cell? ⟨r, 0, none⟩ = some a0 ∧ w.cell? ⟨r, 1, none⟩ = some a1 ∧ w.cell? ⟨r, 2, none⟩ = some a2 ∧ w.cell? ⟨r, 3, none⟩ = some a3 ∧ w.cell? ⟨r, 4, none⟩ = some a4 ∧ w.cell? ⟨r, 5, none⟩ = some a5 ∧ w.cell? ⟨r, 6, none⟩ = some a6 ∧ w.cell? ⟨r, 7, none⟩ = some a7 ∧ w.cell? ⟨r, 8, none⟩ = some a8 ∧ w.cell? ⟨r, 9, none⟩ = some a9 :=
  ⟨h.cell 0, h.cell 1, h.cell 2, h.cell 3, h.cell 4, h.cell 5, h.cell 6, h.cell 7, h.cell 8, h.cell 9⟩
theorem Row.tenF {w : World} {r : Nat} {t : TypeId} {cs : Array Value} (h : Row w r t cs) : w.frozen? ⟨r, 0, none⟩ = false ∧ w.frozen? ⟨r, 1, none⟩ = false ∧ w.frozen? ⟨r, 2, none⟩ = false ∧ w.frozen? ⟨r, 3, none⟩ = false ∧ w.frozen? ⟨r, 4, none⟩ = false ∧ w.frozen? ⟨r, 5, none⟩ = false ∧ w.frozen? ⟨r, 6, none⟩ = false ∧ w.frozen? ⟨r, 7, none⟩ = false ∧ w.frozen? ⟨r, 8, none⟩ = false ∧ w.frozen? ⟨r, 9, none⟩ = false :=
  ⟨h.free 0, h.free 1, h.free 2, h.free 3, h.free 4, h.free 5, h.free 6, h.free 7, h.free 8, h.free 9⟩
/-- The first six cells, as Start's answer is stored. -/
def setS (w : World) (r : Nat) (x0 x1 x2 x3 x4 x5 : Value) : World := ((((((w.setCell ⟨r, 0, none⟩ x0).setCell ⟨r, 1, none⟩ x1).setCell ⟨r, 2, none⟩ x2).setCell ⟨r, 3, none⟩ x3).setCell ⟨r, 4, none⟩ x4).setCell ⟨r, 5, none⟩ x5)
theorem Mods.setS {w w' : World} {F : List Nat} {r : Nat} {x0 x1 x2 x3 x4 x5 : Value} (hm : Mods F w w') (h : r ∈ F ∨ w.heap.size ≤ r) : Mods F w (setS w' r x0 x1 x2 x3 x4 x5) := ((((((hm.setCell h _).setCell h _).setCell h _).setCell h _).setCell h _).setCell h _)
theorem Row.setS {w : World} {r : Nat} {t : TypeId} {a0 a1 a2 a3 a4 a5 a6 a7 a8 a9 : Value} (h : Row w r t #[a0, a1, a2, a3, a4, a5, a6, a7, a8, a9]) (x0 x1 x2 x3 x4 x5 : Value) : Row (setS w r x0 x1 x2 x3 x4 x5) r t #[x0, x1, x2, x3, x4, x5, a6, a7, a8, a9] := by
  unfold Go.Proofs.YtgkhelbpccehcaaGreatDoor.setS
  have h0 : Row (w.setCell ⟨r, 0, none⟩ x0) r t #[x0, a1, a2, a3, a4, a5, a6, a7, a8, a9] := h.set 0 _
  generalize w.setCell ⟨r, 0, none⟩ x0 = w0 at h0 ⊢
  have h1 : Row (w0.setCell ⟨r, 1, none⟩ x1) r t #[x0, x1, a2, a3, a4, a5, a6, a7, a8, a9] := h0.set 1 _
  generalize w0.setCell ⟨r, 1, none⟩ x1 = w1 at h1 ⊢
  have h2 : Row (w1.setCell ⟨r, 2, none⟩ x2) r t #[x0, x1, x2, a3, a4, a5, a6, a7, a8, a9] := h1.set 2 _
  generalize w1.setCell ⟨r, 2, none⟩ x2 = w2 at h2 ⊢
  have h3 : Row (w2.setCell ⟨r, 3, none⟩ x3) r t #[x0, x1, x2, x3, a4, a5, a6, a7, a8, a9] := h2.set 3 _
  generalize w2.setCell ⟨r, 3, none⟩ x3 = w3 at h3 ⊢
  have h4 : Row (w3.setCell ⟨r, 4, none⟩ x4) r t #[x0, x1, x2, x3, x4, a5, a6, a7, a8, a9] := h3.set 4 _
  generalize w3.setCell ⟨r, 4, none⟩ x4 = w4 at h4 ⊢
  exact h4.set 5 _
/-- The end of a function that answers a request and one more thing. -/
theorem end_R {fn : Func} {a : Act} {W : World} {R : Ending → World → Prop} {r : Nat} {a0 a1 a2 a3 a4 a5 a6 a7 a8 a9 u : Value} {q q2 : Tmp} (hres : fn.results = #[.cell q 40, .tmp q2])
    (hrow : Row W r 40 #[a0, a1, a2, a3, a4, a5, a6, a7, a8, a9]) (h1 : a.tmps.getD q undef = .pointer (some ⟨r, 0, none⟩)) (h2 : a.tmps.getD q2 undef = u) (hd : a.defers = []) (hR : R (.returned (.tuple #[.agg #[a0, a1, a2, a3, a4, a5, a6, a7, a8, a9], u])) W) : bodyPost Tryz.prog fn R .ret a W := by
  refine bodyPost_ret (v := .tuple #[.agg #[a0, a1, a2, a3, a4, a5, a6, a7, a8, a9], u]) ?_ hd hR
  have g1 : a.tmps[q]?.getD undef = .pointer (some ⟨r, 0, none⟩) := by simpa using h1
  have g2 : a.tmps[q2]?.getD undef = u := by simpa using h2
  obtain ⟨c0, c1, c2, c3, c4, c5, c6, c7, c8, c9⟩ := hrow.ten
  have ha := Tryz.isAgg40 W
  have hs := Tryz.sizeOf40 W
  simp [results, hres, go_sem, g1, g2, c0, c1, c2, c3, c4, c5, c6, c7, c8, c9, ha, hs]
end Go.Proofs.YtgkhelbpccehcaaGreatDoor

/- The code's parser: Take. Conditions: none. -/
namespace Go.Proofs.YtgkhelbpccehcaaGreatDoor
open Go.RowKit
set_option linter.unusedVariables false
set_option linter.unusedSimpArgs false

/-- What Take leaves: the request, the parser. -/
def TookR (F : List Nat) (w : World) (g : Nat) (P : PrP) (vf vb : Value) (w' : World) : Prop :=
  FsAt w' vf (takeR P).2.1.fields ∧ BsAt w' vb (takeR P).2.1.body ∧ (∃ F', PaA F' w' g (takeR P).1 ∧ Grew F F' w w' ∧ ∀ k, k ∈ vf.ownBlock.toList ∨ k ∈ vb.ownBlock.toList → (k ∈ F ∨ w.heap.size ≤ k) ∧ k ∉ F' ∧ k < w'.heap.size)
def zReq : Array Value := reqCells noRq (.slice none 0 0) (.slice none 0 0)
/-- What stands behind the first half of Take: the new request's block q, its fields' row. -/
def Tk3 (W0 wx : World) (q FB : Nat) (S : List FV) (bv : Value) : Prop :=
  Row wx q 40 (reqCells noRq (.slice (some ⟨FB, 0, none⟩) S.length S.length) bv) ∧ Mods [] W0 wx ∧ W0.heap.size ≤ q ∧ FsAt wx (.slice (some ⟨FB, 0, none⟩) S.length S.length) S ∧ W0.heap.size ≤ FB ∧ FB ≠ q ∧ FB < wx.heap.size
theorem tk3_late {W0 w2 : World} {FB : Nat} {S : List FV} {bv : Value} (hg : Gt W0.drew 81 2 S.length (encF S) (.slice (some ⟨FB, 0, none⟩) S.length S.length) w2) : Tk3 W0 (w2.alloc (.cells (reqCells noRq (.slice (some ⟨FB, 0, none⟩) S.length S.length) bv) 40)) w2.heap.size FB S bv := by
  have m2 : Mods [] W0 w2 := (Mods.refl [] W0).drew.trans hg.low (fun _ h => nomatch h)
  have hn := hg.row.lt FB (by simp [Value.ownBlock])
  have hs : W0.drew.heap.size = W0.heap.size := rfl
  have hz : w2.heap.size < (w2.alloc (.cells (reqCells noRq (.slice (some ⟨FB, 0, none⟩) S.length S.length) bv) 40)).heap.size := by rw [World.size_alloc]; omega
  exact ⟨Row.new _ _ _, m2.alloc _, m2.size, (FsAt.of_row (own_base (w' := w2) hg.row (Nat.zero_le _))).low ((Mods.refl [] w2).alloc _), by omega, by omega, by omega⟩
theorem tk3_early {W0 w2 : World} {FB : Nat} {S : List FV} {bv : Value} (hg : Gt (W0.alloc (.cells zReq 40)).drew 81 2 S.length (encF S) (.slice (some ⟨FB, 0, none⟩) S.length S.length) w2) :
    Tk3 W0 (setQ w2 W0.heap.size (.string noB) (.int .i64 0) (.string noB) (.string noB) (.string noB) (.int .i64 0) (.slice (some ⟨FB, 0, none⟩) S.length S.length) bv (.bool false) (.bool false)) W0.heap.size FB S bv := by
  have m1 : Mods [] W0 (W0.alloc (.cells zReq 40)).drew := ((Mods.refl [] W0).alloc _).drew
  have r2 : Row w2 W0.heap.size 40 zReq := ((Row.new W0 40 zReq).mods ((Mods.refl [] _).drew) (by simp)).mods hg.low (by simp)
  have hn := hg.row.lt FB (by simp [Value.ownBlock])
  have hs : (W0.alloc (.cells zReq 40)).drew.heap.size = W0.heap.size + 1 := World.size_alloc _ _
  have mq : Mods [W0.heap.size] w2 (setQ w2 W0.heap.size (.string noB) (.int .i64 0) (.string noB) (.string noB) (.string noB) (.int .i64 0) (.slice (some ⟨FB, 0, none⟩) S.length S.length) bv (.bool false) (.bool false)) := Mods.setQ (Mods.refl _ w2) (.inl (by simp))
  refine ⟨Row.setQ r2 _ _ _ _ _ _ _ _ _ _, Mods.setQ (m1.trans hg.low (fun _ h => nomatch h)) (.inr (Nat.le_refl _)), Nat.le_refl _, (FsAt.of_row (own_base (w' := w2) hg.row (Nat.zero_le _))).mods mq (fun k hk e => ?_), by omega, by omega, Nat.lt_of_lt_of_le hn.2 mq.size⟩
  rw [List.mem_singleton] at e
  have : k = FB := by simpa [Value.ownBlock, eq_comm] using hk
  omega
theorem taken_no {F : List Nat} {w w' : World} {g : Nat} {P : PrP} (a : PaA F w g P) (h : P.phase ≠ 3) (hm : Mods [] w w') : TookR F w g P (.slice none 0 0) (.slice none 0 0) w' := by
  have e : takeR P = (P, noRq, 4) := by unfold takeR; rw [if_neg h]
  unfold TookR
  rw [e]
  exact ⟨.inl ⟨rfl, _, _, rfl⟩, .inl ⟨rfl, _, _, rfl⟩, F, a.low hm, Grew.of_low hm, fun k hk => by simp [Value.ownBlock] at hk⟩
set_option maxRecDepth 10000 in
set_option maxHeartbeats 20000000 in
theorem takerq_p {F : List Nat} {w : World} {g : Nat} {P : PrP} (a : PaA F w g P) :
    Calls Tryz.prog 14 #[ptr g] w fun z w' => ∃ vf vb, z = .returned (.tuple #[reqV (takeR P).2.1 vf vb, .int .i64 (takeR P).2.2]) ∧ Hid (TookR F w g P vf vb w') := by
  have HA := Lib.hid a
  obtain ⟨vl, vb, hv, cv, FH, FC, L, B, cm, lf, c, rfl, r⟩ := a.ex
  have o := a.ok
  have c0 : w.cell? ⟨g, 0, none⟩ = some (.int .i64 (P.phase : Nat)) := c.row.cell 0
  have hglt := c.row.lt
  have m0 : Mods [] w (w.alloc (.cells zReq 40)) := (Mods.refl [] w).alloc _
  have r0 := Row.new w 40 zReq
  unfold ptr
  by_cases h3 : P.phase = 3
  · have hr : B = P.body ∧ ∃ hb, hv = ptr hb ∧ HdA FH w hb P.head := by
      rcases r with ⟨p, -⟩ | ⟨p, -⟩ | ⟨p, -⟩ | ⟨p, -⟩ | ⟨-, e, q⟩ | p
      · omega
      · omega
      · omega
      · omega
      · exact ⟨e, q⟩
      · omega
    obtain ⟨rfl, hb, rfl, ha⟩ := hr
    have HTK := Lib.hid (show takeR P = ({ P with phase := 0 }, rqOf P, 0) by unfold takeR; rw [if_pos h3])
    have HTO := Lib.hid o.take
    have HST := Lib.hid (o.st (by omega))
    have hhow := o.how (.inr h3)
    obtain ⟨g1, v1, st1, e1, z1, hc, hFH, -⟩ := ha.ex
    obtain ⟨ob, oc, rfl, -, -⟩ := c.body.form
    -- the world with the result's block
    have k0 := PM.low c m0
    have a0 := ha.low m0
    have hc0 := hc.low m0
    have d3 : (w.alloc (.cells zReq 40)).cell? ⟨g, 3, none⟩ = some (ptr hb) := k0.row.cell 3
    have d7 : (w.alloc (.cells zReq 40)).cell? ⟨g, 7, none⟩ = some (.slice ob P.body.length oc) := k0.row.cell 7
    have dh : (w.alloc (.cells zReq 40)).cell? ⟨hb, 0, none⟩ = some (ptr g1) := hc0.facts.1
    have d0 : (w.alloc (.cells zReq 40)).cell? ⟨g, 0, none⟩ = some (.int .i64 3) := by have := k0.row.cell 0; rw [h3] at this; exact this
    obtain ⟨rb, hrb⟩ : ∃ rb, rb = w.heap.size := ⟨_, rfl⟩
    obtain ⟨W0, hW0⟩ : ∃ W0, W0 = w.alloc (.cells zReq 40) := ⟨_, rfl⟩
    rw [← hrb, ← hW0] at r0
    rw [← hW0] at m0 k0 a0 hc0 d3 d7 dh d0
    have HAL := Lib.hid (fun W' (hm : Mods [] W0 W') => all_a W' (hc0.fld.low hm))
    have HRB := Lib.hid hrb
    have K := Lib.hid c
    have HH := Lib.hid ha
    have M0 := Lib.hid m0
    have R0 := Lib.hid r0
    have HHW := Lib.hid hhow
    obtain ⟨nb, hnb⟩ : ∃ nb, nb = P.body.length := ⟨_, rfl⟩
    obtain ⟨ns, hns⟩ : ∃ ns, ns = P.head.S.length := ⟨_, rfl⟩
    rw [← hnb] at d7
    have HNB := Lib.hid hnb
    have HNS := Lib.hid hns
    rw [← hns] at HAL
    unfold ptr at d3 dh HAL
    clear a r o c c0 r0 m0 k0 a0 hc0 hc hFH ha h3 hhow hrb hnb hns
    go_enter Tryz.func14, Tryz.ntmps14
    go_upto_region 1 with fail
    change Code.wp _ _ _ _ (w.alloc (.cells zReq 40))
    rw [← hW0, ← HRB.out]
    clear hW0
    go_upto_region 3 with fail
    have MA := Lib.hid (show Mods [] W0 (W0.alloc (.cells zReq 40)) from (Mods.refl [] W0).alloc _)
    have RA := Lib.hid (Row.new W0 40 zReq)
    have HC1 := Lib.hid (show Calls Tryz.prog 27 #[.pointer (some ⟨g1, 0, none⟩)] W0.drew fun e w' => ∃ v, e = .returned v ∧ (∃ FB, v = .slice (some ⟨FB, 0, none⟩) ns ns ∧ Gt W0.drew 81 2 ns (encF P.head.S) (.slice (some ⟨FB, 0, none⟩) ns ns) w') from (HAL.out _ (Mods.refl [] W0).drew).mono fun e w' ⟨FB, h1, h2⟩ => ⟨_, h1, FB, rfl, h2⟩)
    have HC2 := Lib.hid (show Calls Tryz.prog 27 #[.pointer (some ⟨g1, 0, none⟩)] (W0.alloc (.cells zReq 40)).drew fun e w' => ∃ v, e = .returned v ∧ (∃ FB, v = .slice (some ⟨FB, 0, none⟩) ns ns ∧ Gt (W0.alloc (.cells zReq 40)).drew 81 2 ns (encF P.head.S) (.slice (some ⟨FB, 0, none⟩) ns ns) w') from (HAL.out _ MA.out.drew).mono fun e w' ⟨FB, h1, h2⟩ => ⟨_, h1, FB, rfl, h2⟩)
    clear HAL
    have d3a := fun o => cell_alloc d3 o
    have d7a := fun o => cell_alloc d7 o
    have dha := fun o => cell_alloc dh o
    go_cut [4] (fun v wx => ∃ q FB, v = .pointer (some ⟨q, 0, none⟩) ∧ Hid (Tk3 W0 wx q FB P.head.S (.slice ob nb oc)))
    case first =>
     go_region_law (first
      | (refine step_call1 rfl 27 (.tmp 22) 63 (.pointer (some ⟨g1, 0, none⟩)) rfl rfl (enters_of Tryz.func27 (by kernel_rfl) rfl) _ HC1.out ?_; rintro _ w2 ⟨FB, rfl, hg⟩; have HB1 := Lib.hid hg; have m2 : Mods [] W0 w2 := (Mods.refl [] W0).drew.trans hg.low (fun _ h => nomatch h); have d3' := cell_mods d3 m2 (by simp); have d7' := cell_mods d7 m2 (by simp); have dh' := cell_mods dh m2 (by simp); have d7b := fun o => cell_alloc d7' o; clear hg m2)
      | (refine step_call1 rfl 27 (.tmp 22) 63 (.pointer (some ⟨g1, 0, none⟩)) rfl rfl (enters_of Tryz.func27 (by kernel_rfl) rfl) _ HC2.out ?_; rintro _ w2 ⟨FB, rfl, hg⟩; have HB2 := Lib.hid hg; have m2 : Mods [] W0 w2 := MA.out.drew.trans hg.low (fun _ h => nomatch h); have d3' := cell_mods d3 m2 (by simp); have d7' := cell_mods d7 m2 (by simp); have dh' := cell_mods dh m2 (by simp); have R2 := Lib.hid (show Row w2 W0.heap.size 40 #[.string noB, .int .i64 0, .string noB, .string noB, .string noB, .int .i64 0, .slice none 0 0, .slice none 0 0, .bool false, .bool false] from (RA.out.mods ((Mods.refl [] _).drew) (by simp)).mods hg.low (by simp)); obtain ⟨t0, t1, t2, t3, t4, t5, t6, t7, t8, t9⟩ := R2.out.ten; obtain ⟨f0, f1, f2, f3, f4, f5, f6, f7, f8, f9⟩ := R2.out.tenF; clear hg m2))
     all_goals
      go_wp2
      go_meet
      case rel =>
        obtain rfl := HNS.out
        first
        | (have q9 := tk3_late (bv := .slice ob nb oc) HB1.out; exact ⟨_, FB, rfl, Lib.hid q9⟩)
        | (have q9 := tk3_early (bv := .slice ob nb oc) HB2.out; exact ⟨_, FB, rfl, Lib.hid q9⟩)
    case rest =>
      obtain ⟨q, FB, rfl, hpre⟩ := hcut
      obtain ⟨wa, rfl⟩ : ∃ wa : World, wa = wc := ⟨_, rfl⟩
      have T3 := Lib.hid hpre.out
      clear hpre HC1 HC2 d3a d7a dha d0 dh d3 d7 MA RA
      have hqw : w.heap.size ≤ q := by have h1 := M0.out.size; have h2 := T3.out.2.2.1; omega
      have M3 := Lib.hid (show Mods [] w wa from M0.out.trans T3.out.2.1 (fun _ h => nomatch h))
      have HQW := Lib.hid hqw
      have HRQ := Lib.hid (show rb ≠ q by have h2 := T3.out.2.2.1; have h3 := R0.out.lt; omega)
      have d3 : wa.cell? ⟨g, 3, none⟩ = some (ptr hb) := (PM.low K.out M3.out).row.cell 3
      have hsa := start_a (HH.out.low M3.out)
      simp only [Tgt.cells] at hsa
      have HSA := Lib.hid hsa
      unfold ptr at HSA d3
      clear hsa
      obtain ⟨xm, hxm⟩ : ∃ x, x = P.head.meth := ⟨_, rfl⟩
      obtain ⟨xf, hxf⟩ : ∃ x, x = P.head.tgt.form := ⟨_, rfl⟩
      obtain ⟨xh, hxh⟩ : ∃ x, x = P.head.tgt.host := ⟨_, rfl⟩
      obtain ⟨xp, hxp⟩ : ∃ x, x = P.head.tgt.path := ⟨_, rfl⟩
      obtain ⟨xq, hxq⟩ : ∃ x, x = P.head.tgt.query := ⟨_, rfl⟩
      obtain ⟨xn, hxn⟩ : ∃ x, x = P.head.minor := ⟨_, rfl⟩
      rw [← hxm, ← hxf, ← hxh, ← hxp, ← hxq, ← hxn] at HSA
      have HXS := Lib.hid (And.intro hxm (And.intro hxf (And.intro hxh (And.intro hxp (And.intro hxq hxn)))))
      clear hxm hxf hxh hxp hxq hxn hqw
      go_upto_region 5 with (go_at_call 28; refine HSA.out.mono ?_; rintro z w4 ⟨rfl, hm⟩; have M4 := Lib.hid hm; have Q4 := Lib.hid (show Row w4 q 40 #[.string noB, .int .i64 0, .string noB, .string noB, .string noB, .int .i64 0, .slice (some ⟨FB, 0, none⟩) P.head.S.length P.head.S.length, .slice ob nb oc, .bool false, .bool false] from T3.out.1.mods hm (by simp)); obtain ⟨t0, t1, t2, t3, t4, t5, t6, t7, t8, t9⟩ := Q4.out.ten; obtain ⟨f0, f1, f2, f3, f4, f5, f6, f7, f8, f9⟩ := Q4.out.tenF; have e3 := cell_mods d3 hm (by simp); clear hm)
      have q5 := Row.setS Q4.out (.string xm) (.int .i64 xf) (.string xh) (.string xp) (.string xq) (.int .i64 xn)
      have m5 := Mods.setS (r := q) (x0 := .string xm) (x1 := .int .i64 xf) (x2 := .string xh) (x3 := .string xp) (x4 := .string xq) (x5 := .int .i64 xn) (M3.out.trans M4.out (fun _ h => nomatch h)) (.inr HQW.out)
      have n5 := Mods.setS (F := [q]) (r := q) (x0 := .string xm) (x1 := .int .i64 xf) (x2 := .string xh) (x3 := .string xp) (x4 := .string xq) (x5 := .int .i64 xn) (M4.out.more (fun _ h => nomatch h)) (.inl (by simp))
      obtain ⟨W4, hW4⟩ : ∃ W4, W4 = setS w4 q (.string xm) (.int .i64 xf) (.string xh) (.string xp) (.string xq) (.int .i64 xn) := ⟨_, rfl⟩
      rw [← hW4] at q5 m5 n5
      unfold setS at hW4
      rw [← hW4]
      clear hW4 t0 t1 t2 t3 t4 t5 t6 t7 t8 t9 f0 f1 f2 f3 f4 f5 f6 f7 f8 f9 e3 d3
      have Q5 := Lib.hid q5
      have M5 := Lib.hid m5
      have N5 := Lib.hid n5
      have d3 : W4.cell? ⟨g, 3, none⟩ = some (ptr hb) := (PM.low K.out M5.out).row.cell 3
      have hha := how_a (HH.out.low M5.out)
      rw [HHW.out] at hha
      unfold howV at hha
      have HHA := Lib.hid hha
      unfold ptr at HHA d3
      clear hha q5 m5 n5
      obtain ⟨ykd, hyk⟩ : ∃ x, x = P.how.kind := ⟨_, rfl⟩
      obtain ⟨yln, hyl⟩ : ∃ x, x = P.how.length := ⟨_, rfl⟩
      obtain ⟨ycl, hyc⟩ : ∃ x, x = P.how.close := ⟨_, rfl⟩
      obtain ⟨yxp, hyx⟩ : ∃ x, x = P.how.expect := ⟨_, rfl⟩
      rw [← hyk, ← hyl, ← hyc, ← hyx] at HHA
      have HYS := Lib.hid (And.intro hyc hyx)
      clear hyk hyl hyc hyx
      go_upto_region 6 with (go_at_call 29; refine HHA.out.mono ?_; rintro z w5 ⟨rfl, hm⟩; have M6 := Lib.hid hm; clear hm)
      have m7 : Mods [] w (w5.alloc (.cells #[.int .i64 ykd, .int .i64 yln, .bool ycl, .bool yxp] 65)) := (M5.out.trans M6.out (fun _ h => nomatch h)).alloc _
      have n7 : Mods [] W4 (w5.alloc (.cells #[.int .i64 ykd, .int .i64 yln, .bool ycl, .bool yxp] 65)) := M6.out.alloc _
      have r7 := Row.new w5 65 #[.int .i64 ykd, .int .i64 yln, .bool ycl, .bool yxp]
      have hq5 : q < w5.heap.size := Nat.lt_of_lt_of_le Q5.out.lt M6.out.size
      obtain ⟨hq, hhq⟩ : ∃ hq, hq = w5.heap.size := ⟨_, rfl⟩
      obtain ⟨W5, hW5⟩ : ∃ W5, W5 = w5.alloc (.cells #[.int .i64 ykd, .int .i64 yln, .bool ycl, .bool yxp] 65) := ⟨_, rfl⟩
      rw [← hhq, ← hW5] at r7
      rw [← hW5] at m7 n7 ⊢
      rw [← hhq] at hq5 ⊢
      clear hW5 hhq d3
      have q7 := Q5.out.mods n7 (by simp)
      obtain ⟨t0, t1, t2, t3, t4, t5, t6, t7, t8, t9⟩ := q7.ten
      have f8 := q7.free 8
      have f9 := q7.free 9
      have h2 : W5.cell? ⟨hq, 2, none⟩ = some (.bool ycl) := r7.cell 2
      have h3 : W5.cell? ⟨hq, 3, none⟩ = some (.bool yxp) := r7.cell 3
      have nq1 : ¬ hq = q := by omega
      have nq2 : ¬ q = hq := by omega
      have Q7 := Lib.hid q7
      have M7 := Lib.hid m7
      have N7 := Lib.hid n7
      clear q7 m7 n7 r7 t0 t1 t2 t3 t4 t5 t6 t7 hq5
      go_region
      all_goals
        have q8 := (Q7.out.set 8 (.bool ycl)).set 9 (.bool yxp)
        have m8 : Mods [] w (((W5.setCell ⟨q, 8, none⟩ (.bool ycl)).setCell ⟨q, 9, none⟩ (.bool yxp)).drew) := ((M7.out.setCell (.inr HQW.out) _).setCell (.inr HQW.out) _).drew
        have n8 : Mods [q] W4 (((W5.setCell ⟨q, 8, none⟩ (.bool ycl)).setCell ⟨q, 9, none⟩ (.bool yxp)).drew) := (((N7.out.more (fun _ h => nomatch h)).setCell (.inl (by simp)) _).setCell (.inl (by simp)) _).drew
        replace q8 : Row (((W5.setCell ⟨q, 8, none⟩ (.bool ycl)).setCell ⟨q, 9, none⟩ (.bool yxp)).drew) q 40 #[.string xm, .int .i64 xf, .string xh, .string xp, .string xq, .int .i64 xn, .slice (some ⟨FB, 0, none⟩) P.head.S.length P.head.S.length, .slice ob nb oc, .bool ycl, .bool yxp] := q8.mods ((Mods.refl [] _).drew) (by simp)
        obtain ⟨W6, hW6⟩ : ∃ W6, W6 = (((W5.setCell ⟨q, 8, none⟩ (.bool ycl)).setCell ⟨q, 9, none⟩ (.bool yxp)).drew) := ⟨_, rfl⟩
        rw [← hW6] at q8 m8 n8 ⊢
        clear hW6 t8 t9 f8 f9 h2 h3 nq1 nq2
        have Q8 := Lib.hid q8
        have M8 := Lib.hid m8
        have N8 := Lib.hid n8
        have k8 := PM.low K.out m8
        obtain ⟨p0, p1, p2, p3, p4, p5, p6, p7⟩ := PaM.facts k8
        have g0 := k8.row.free 0
        have g1' := k8.row.free 1
        have g2 := k8.row.free 2
        have g3 := k8.row.free 3
        have g4 := k8.row.free 4
        have g5 := k8.row.free 5
        have g6 := k8.row.free 6
        have g7 := k8.row.free 7
        have K8 := Lib.hid k8
        clear q8 m8 n8 k8
        go_upto_region 8 with fail
        obtain ⟨k9, g9⟩ := PaM.clear K8.out 0 0
        have n9 : Mods [q, g] W4 (setP W6 g 0 0) := Mods.setP (N8.out.more (fun k hk => .inl (by simp at hk; simp [hk]))) (.inl (by simp)) 0 0
        have m9 : Mods [g] w (setP W6 g 0 0) := Mods.setP (M8.out.more (fun _ h => nomatch h)) (.inl (by simp)) 0 0
        have mg : Mods [g] W6 (setP W6 g 0 0) := Mods.setP (Mods.refl [g] W6) (.inl (by simp)) 0 0
        have hgq : q ≠ g := by have := HQW.out; omega
        have hrg : rb ≠ g := by have := HRB.out; omega
        have q9 := Q8.out.mods mg (by simpa using hgq)
        obtain ⟨W7, hW7⟩ : ∃ W7, W7 = setP W6 g 0 0 := ⟨_, rfl⟩
        rw [← hW7] at k9 g9 n9 m9 q9
        unfold setP at hW7
        rw [← hW7]
        clear hW7 mg p0 p1 p2 p3 p4 p5 p6 p7 g0 g1' g2 g3 g4 g5 g6 g7
        have M09 : Mods [q, g] W0 W7 := ((T3.out.2.1.more (fun _ h => nomatch h)).trans (N5.out.more (fun k hk => .inl (by simp at hk; simp [hk]))) (fun k hk => .inl hk)).trans n9 (fun k hk => .inl hk)
        have r9 : Row W7 rb 40 #[.string noB, .int .i64 0, .string noB, .string noB, .string noB, .int .i64 0, .slice none 0 0, .slice none 0 0, .bool false, .bool false] := R0.out.mods M09 (by simp; exact ⟨HRQ.out, hrg⟩)
        obtain ⟨t0, t1, t2, t3, t4, t5, t6, t7, t8, t9⟩ := q9.ten
        obtain ⟨s0, s1, s2, s3, s4, s5, s6, s7, s8, s9⟩ := r9.ten
        obtain ⟨f0, f1, f2, f3, f4, f5, f6, f7, f8, f9⟩ := r9.tenF
        have R9 := Lib.hid r9
        have K9 := Lib.hid k9
        have G9 := Lib.hid ((Grew.of_low M8.out).trans g9)
        have M9 := Lib.hid m9
        have N9 := Lib.hid n9
        have HNE := Lib.hid (And.intro hgq hrg)
        clear q9 r9 k9 g9 m9 n9 M09 hgq hrg
        go_wp2
        have r10 := Row.setQ R9.out (.string xm) (.int .i64 xf) (.string xh) (.string xp) (.string xq) (.int .i64 xn) (.slice (some ⟨FB, 0, none⟩) P.head.S.length P.head.S.length) (.slice ob nb oc) (.bool ycl) (.bool yxp)
        have mr : Mods [rb] W7 (setQ W7 rb (.string xm) (.int .i64 xf) (.string xh) (.string xp) (.string xq) (.int .i64 xn) (.slice (some ⟨FB, 0, none⟩) P.head.S.length P.head.S.length) (.slice ob nb oc) (.bool ycl) (.bool yxp)) := Mods.setQ (Mods.refl [rb] W7) (.inl (by simp))
        change bodyPost _ _ _ _ _ (setQ W7 rb (.string xm) (.int .i64 xf) (.string xh) (.string xp) (.string xq) (.int .i64 xn) (.slice (some ⟨FB, 0, none⟩) P.head.S.length P.head.S.length) (.slice ob nb oc) (.bool ycl) (.bool yxp))
        generalize setQ W7 rb (.string xm) (.int .i64 xf) (.string xh) (.string xp) (.string xq) (.int .i64 xn) (.slice (some ⟨FB, 0, none⟩) P.head.S.length P.head.S.length) (.slice ob nb oc) (.bool ycl) (.bool yxp) = W8 at r10 mr ⊢
        refine end_R rfl r10 rfl rfl rfl ?_
        obtain ⟨x1, x2, x3, x4, x5, x6⟩ := HXS.out
        obtain ⟨y1, y2⟩ := HYS.out
        obtain ⟨ez1, ez2, ez3, ez4, ez5, ez6, ez7⟩ := T3.out
        have hwr := HRB.out
        have hrr := R0.out.lt
        refine ⟨.slice (some ⟨FB, 0, none⟩) P.head.S.length P.head.S.length, .slice ob nb oc, ?_, Lib.hid ?_⟩
        · rw [HTK.out, x1, x2, x3, x4, x5, x6, y1, y2]; rfl
        · have hto := HTO.out
          unfold TookR
          rw [HTK.out] at hto ⊢
          have hfn : ∀ k ∈ (Value.slice (some ⟨FB, 0, none⟩) P.head.S.length P.head.S.length).ownBlock.toList, k = FB := fun k hk => by simpa [Value.ownBlock, eq_comm] using hk
          have hng : FB ≠ g := by omega
          have mw : Mods [g] w W8 := M9.out.trans (mr.more (fun k hk => .inl hk)) (fun k hk => by rw [List.mem_singleton] at hk; exact .inr (by omega))
          have hob : (Value.slice ob nb oc).ownBlock = (Value.slice ob P.body.length oc).ownBlock := cut0_block ob nb oc _ _
          have k10 := PM.mods K9.out mr (fun k hk => by simp [Value.ownBlock] at hk; rw [hk]; simp; exact fun e => HNE.out.2 e.symm)
          refine ⟨ez4.mods (F := [rb, q, g]) ((N5.out.more (fun k hk => .inl (by simp at hk; simp [hk]))).trans ((N9.out.more (fun k hk => .inl (by simp at hk ⊢; rcases hk with h | h <;> simp [h]))).trans (mr.more (fun k hk => .inl (by simp at hk; simp [hk]))) (fun k hk => .inl hk)) (fun k hk => .inl hk)) (fun k hk => by rw [hfn k hk]; simp; omega), ?_, _, pa_mk hto (ph := 0) (st := 0) rfl HST.out k10 (.inl ⟨rfl, rfl, rfl, rfl, rfl, rfl⟩), ⟨mw.more (fun k hk => .inl (by simp at hk; simp [hk])), G9.out.news⟩, ?_⟩
          · have hb9 := K.out.body.at.mods mw (fun k hk => by simpa using K.out.ne_b k hk)
            rw [← HNB.out] at hb9
            exact hb9
          · rintro k (hk | hk)
            · rw [hfn k hk]
              have e1 := M0.out.size
              have e2 := N5.out.size
              have e3 := N9.out.size
              have e4 := mr.size
              exact ⟨.inr (by omega), by simp [Value.ownBlock]; exact hng, by omega⟩
            · rw [hob] at hk
              have e1 := K.out.body.lt k hk
              have e2 := mw.size
              exact ⟨.inl (by simp only [List.mem_cons, List.mem_append]; exact .inr (.inr (.inl hk))), by simp [Value.ownBlock]; exact K.out.ne_b k hk, by omega⟩
  · have HE := Lib.hid (show takeR P = (P, noRq, 4) by unfold takeR; rw [if_neg h3])
    have hne : ((P.phase : Int) != 3) = true := by rw [bne_iff_ne]; omega
    have H3 := Lib.hid h3
    have d0 := fun o => cell_alloc c0 o
    obtain ⟨rb, hrb⟩ : ∃ rb, rb = w.heap.size := ⟨_, rfl⟩
    obtain ⟨W0, hW0⟩ : ∃ W0, W0 = w.alloc (.cells zReq 40) := ⟨_, rfl⟩
    have d0 : W0.cell? ⟨g, 0, none⟩ = some (.int .i64 (P.phase : Nat)) := by rw [hW0]; exact cell_alloc c0 _
    rw [← hrb, ← hW0] at r0
    rw [← hW0] at m0
    have HRB := Lib.hid hrb
    have M0 := Lib.hid m0
    have R0 := Lib.hid r0
    clear a r o c c0 r0 m0 h3 hrb
    generalize P.phase = ph at d0 hne
    go_enter Tryz.func14, Tryz.ntmps14
    go_upto_region 1 with fail
    change Code.wp _ _ _ _ (w.alloc (.cells zReq 40))
    rw [← hW0, ← HRB.out]
    clear hW0
    obtain ⟨t0, t1, t2, t3, t4, t5, t6, t7, t8, t9⟩ := Row.ten (show Row W0 rb 40 #[.string noB, .int .i64 0, .string noB, .string noB, .string noB, .int .i64 0, .slice none 0 0, .slice none 0 0, .bool false, .bool false] from R0.out)
    obtain ⟨f0, f1, f2, f3, f4, f5, f6, f7, f8, f9⟩ := R0.out.tenF
    go_wp2
    have hR := Row.setQ (show Row W0 rb 40 #[.string noB, .int .i64 0, .string noB, .string noB, .string noB, .int .i64 0, .slice none 0 0, .slice none 0 0, .bool false, .bool false] from R0.out) (.string noB) (.int .i64 0) (.string noB) (.string noB) (.string noB) (.int .i64 0) (.slice none 0 0) (.slice none 0 0) (.bool false) (.bool false)
    have hM : Mods [] w _ := Mods.setQ M0.out (.inr (by rw [HRB.out]; exact Nat.le_refl _)) (x0 := .string noB) (x1 := .int .i64 0) (x2 := .string noB) (x3 := .string noB) (x4 := .string noB) (x5 := .int .i64 0) (x6 := .slice none 0 0) (x7 := .slice none 0 0) (x8 := .bool false) (x9 := .bool false) (r := rb)
    refine end_R rfl hR rfl rfl rfl ?_
    exact ⟨_, _, by rw [HE.out]; rfl, Lib.hid (taken_no HA.out H3.out hM)⟩
end Go.Proofs.YtgkhelbpccehcaaGreatDoor

/- What stage 15's laws compare requests with, and the request that they know. Conditions: rows of at most a million bytes. -/
namespace Go.Proofs.YtgkhelbpccehcaaGreatDoor
open Go.RowKit
set_option linter.unusedVariables false
set_option linter.unusedSimpArgs false

theorem eql_tgt (f : Int) (h p k : ByteArray) (w : World) : (binOp .eql 37 (.agg #[.int .i64 f, .string h, .string p, .string k]) (.agg #[.int .i64 f, .string h, .string p, .string k])).run Tryz.prog w = .ok (.bool true) w := by
  have u3 := Tryz.underlying3
  have a3 := Tryz.isAgg3
  have z3 := Tryz.sizeOf3
  have u9 := Tryz.underlying9
  have a9 := Tryz.isAgg9
  have z9 := Tryz.sizeOf9
  have hS : Tryz.prog.underlying 37 = some (.struct (Tryz.prog.fieldsOf 37)) := by kernel_rfl
  have hp : Tryz.prog.stoodInHeld 37 = false := by kernel_rfl
  rw [run_eql_struct, show (10000 : Nat) = 9999 + 1 from rfl, run_equalIn_agg w 9999 37 _ _ hS hp]
  simp only [Program.fieldsOf, Tryz.underlying37]
  go_simp
theorem eqg_tgt : Tryz.prog.eqGuardType Tryz.prog.depth 37 = false := by kernel_rfl
set_option maxRecDepth 10000 in
set_option maxHeartbeats 4000000 in
theorem request_l (r : RqP) (va vb ua ub : Value) (w : World) (h1 : FsAt w va r.fields) (h2 : FsAt w ua r.fields) (h3 : BsAt w vb r.body) (h4 : BsAt w ub r.body) (hl : r.fields.length ≤ 1000000) :
    Calls Tryz.prog 16 #[reqV r va vb, reqV r ua ub] w fun z w' => z = .returned (.bool true) ∧ Mods [] w w' := by
  have m1 : Mods [] w (w.alloc (.cells (reqCells r va vb) 40)) := (Mods.refl [] w).alloc _
  have m2 : Mods [] w ((w.alloc (.cells (reqCells r va vb) 40)).alloc (.cells (reqCells r ua ub) 40)) := m1.alloc _
  have r1 : Row ((w.alloc (.cells (reqCells r va vb) 40)).alloc (.cells (reqCells r ua ub) 40)) w.heap.size 40 (reqCells r va vb) := (Row.new w 40 (reqCells r va vb)).mods ((Mods.refl [] _).alloc _) (by simp)
  have r2 := Row.new (w.alloc (.cells (reqCells r va vb) 40)) 40 (reqCells r ua ub)
  rw [World.size_alloc] at r2
  obtain ⟨a1, n1, rfl⟩ := h3.len
  obtain ⟨a2, n2, rfl⟩ := h4.len
  obtain ⟨a3, n3, rfl⟩ := h1.len
  obtain ⟨a4, n4, rfl⟩ := h2.len
  have hf1 := h1.low m2
  have hf2 := h2.low m2
  have hb1 := h3.low m2
  have hb2 := h4.low m2
  unfold reqV
  obtain ⟨W, hW⟩ : ∃ W, W = ((w.alloc (.cells (reqCells r (.slice a3 r.fields.length n3) (.slice a1 r.body.length n1)) 40)).alloc (.cells (reqCells r (.slice a4 r.fields.length n4) (.slice a2 r.body.length n2)) 40)) := ⟨_, rfl⟩
  rw [← hW] at m2 r1 r2 hf1 hf2 hb1 hb2
  have HFS := Lib.hid (fun W' (hd : Mods [] W W') => fields_l15 r.fields r.fields _ _ W' (hf1.low hd) (hf2.low hd) hl hl)
  rw [decide_eq_true (rfl : r.fields = r.fields)] at HFS
  have HSM := Lib.hid (fun W' (hd : Mods [] W W') => same_l15 r.body r.body _ _ W' (hb1.low hd) (hb2.low hd) (r := true) (decide_eq_true rfl))
  obtain ⟨p, hp⟩ : ∃ p, p = w.heap.size := ⟨_, rfl⟩
  rw [← hp] at r1 r2
  have R1 := Lib.hid r1
  have R2 := Lib.hid r2
  have M2 := Lib.hid m2
  obtain ⟨md, tg, mi, fs, bd, cl, xp⟩ := r
  obtain ⟨tf, th, tp, tq⟩ := tg
  simp only [reqCells] at R1 R2 hW ⊢
  simp only at HFS HSM
  obtain ⟨nf, hnf⟩ : ∃ n, n = fs.length := ⟨_, rfl⟩
  obtain ⟨nb, hnb⟩ : ∃ n, n = bd.length := ⟨_, rfl⟩
  rw [← hnf] at HFS R1 R2
  rw [← hnb] at HSM R1 R2
  rw [← hnf, ← hnb] at hW ⊢
  have hqt := fun w => eql_tgt tf th tp tq w
  have hgt := eqg_tgt
  have hmm : (md.toList == md.toList) = true := by simp
  have hii : (mi == mi) = true := by simp
  clear m1 m2 r1 r2 h1 h2 h3 h4 hf1 hf2 hb1 hb2 hl hnf hnb
  obtain ⟨s0, s1, s2, s3, s4, s5, s6, s7, s8, s9⟩ := R1.out.ten
  obtain ⟨t0, t1, t2, t3, t4, t5, t6, t7, t8, t9⟩ := R2.out.ten
  go_enter Tryz.func16, Tryz.ntmps16
  go_upto_region 1 with fail
  rw [← hW, ← hp]
  clear hW hp
  go_wp2_with (first
    | (go_at_call 30; refine (HFS.out _ (Mods.refl [] W)).mono ?_; rintro z w1 ⟨rfl, hd⟩; have M3 := Lib.hid hd.mods15; have D3 := Lib.hid hd; obtain ⟨q1, rfl⟩ := hd)
    | (go_at_call 23; refine (HSM.out _ M3.out).mono ?_; rintro z w2 ⟨rfl, hd⟩; have M4 := Lib.hid (M3.out.trans hd.mods15 (fun _ h => nomatch h)); obtain ⟨q2, rfl⟩ := hd))
  go_ret
  exact ⟨rfl, M2.out.trans ((Mods.refl [] W).drewN _) (fun _ h => nomatch h)⟩
def knA : List UInt8 := [71, 69, 84, 32, 47, 32, 72, 84, 84, 80, 47, 49, 46, 48, 13, 10]
def knB : List UInt8 := [13, 10, 71, 69, 84]
theorem own_apart {F : List Nat} {m b off n c : Nat} (h : ∀ k ∈ F, k < m) (hb : m ≤ b) : ∀ k ∈ (Value.slice (some ⟨b, off, none⟩) n c).ownBlock.toList, k ∉ F := fun k hk hF => by
  have h1 := h k hF
  have h2 : k = b := by simpa [Value.ownBlock, eq_comm] using hk
  omega
theorem psap_two {W : World} {a1 a2 : Option Addr} {c1 c2 : Nat} {A B : List UInt8} {F : List Nat} (h1 : BsAt W (.slice a1 A.length c1) A) (h2 : BsAt W (.slice a2 B.length c2) B) (hF : ∀ k ∈ F, k < W.heap.size) (n1 : 0 < A.length → ∀ k ∈ (Value.slice a1 A.length c1).ownBlock.toList, k ∉ F) (n2 : 0 < B.length → ∀ k ∈ (Value.slice a2 B.length c2).ownBlock.toList, k ∉ F) :
    PsAp (W.alloc (.cells #[.slice a1 A.length c1, .slice a2 B.length c2] 22)) (.slice (some ⟨W.heap.size, 0, none⟩) 2 2) [A, B] F := by
  have hr := Row.new W 22 #[.slice a1 A.length c1, .slice a2 B.length c2]
  have m := (Mods.refl [] W).alloc (.cells #[.slice a1 A.length c1, .slice a2 B.length c2] 22)
  refine .inr ⟨W.heap.size, 0, 2, rfl, by simp, hr.lt, fun e => by have := hF _ e; omega, fun j hj => ?_⟩
  have hj2 : j = 0 ∨ j = 1 := by simp only [List.length_cons, List.length_nil] at hj; omega
  rcases hj2 with rfl | rfl
  · exact ⟨_, hr.cell 0, h1.low m, n1⟩
  · exact ⟨_, hr.cell 1, h2.low m, n2⟩
set_option maxRecDepth 10000 in
set_option maxHeartbeats 4000000 in
theorem known_15 (w : World) : Calls Tryz.prog 18 #[] w fun z w' => z = .returned (.bool true) ∧ Mods [] w w' := by
  have HN := Lib.hid (new_p w)
  unfold ptr at HN
  go_enter Tryz.func18, Tryz.ntmps18
  go_upto_region 2 with (go_at_call 9; refine HN.out.mono ?_; rintro z w1 ⟨g, F, rfl, hk⟩; have HA := Lib.hid hk.out; clear hk)
  have hcv1 : (convert 22 22 (.slice (some ⟨w1.heap.size, 0, none⟩) 16 16)).run Tryz.prog (w1.alloc (.cells #[.int .u8 71, .int .u8 69, .int .u8 84, .int .u8 32, .int .u8 47, .int .u8 32, .int .u8 72, .int .u8 84, .int .u8 84, .int .u8 80, .int .u8 47, .int .u8 49, .int .u8 46, .int .u8 48, .int .u8 13, .int .u8 10] 5)) = .ok (.slice (some ⟨w1.heap.size, 0, none⟩) 16 16) (w1.alloc (.cells #[.int .u8 71, .int .u8 69, .int .u8 84, .int .u8 32, .int .u8 47, .int .u8 32, .int .u8 72, .int .u8 84, .int .u8 84, .int .u8 80, .int .u8 47, .int .u8 49, .int .u8 46, .int .u8 48, .int .u8 13, .int .u8 10] 5 (16, 17))) := conv_lit w1 #[.int .u8 71, .int .u8 69, .int .u8 84, .int .u8 32, .int .u8 47, .int .u8 32, .int .u8 72, .int .u8 84, .int .u8 84, .int .u8 80, .int .u8 47, .int .u8 49, .int .u8 46, .int .u8 48, .int .u8 13, .int .u8 10] 16 16 _ rfl
  have m1 : Mods [] w1 (w1.alloc (.cells #[.int .u8 71, .int .u8 69, .int .u8 84, .int .u8 32, .int .u8 47, .int .u8 32, .int .u8 72, .int .u8 84, .int .u8 84, .int .u8 80, .int .u8 47, .int .u8 49, .int .u8 46, .int .u8 48, .int .u8 13, .int .u8 10] 5 (16, 17))) := (Mods.refl [] w1).alloc _
  have b1 : BsAt (w1.alloc (.cells #[.int .u8 71, .int .u8 69, .int .u8 84, .int .u8 32, .int .u8 47, .int .u8 32, .int .u8 72, .int .u8 84, .int .u8 84, .int .u8 80, .int .u8 47, .int .u8 49, .int .u8 46, .int .u8 48, .int .u8 13, .int .u8 10] 5 (16, 17))) (.slice (some ⟨w1.heap.size, 0, none⟩) 16 16) knA := lit_at w1 knA (16, 17) (by decide) (by decide)
  obtain ⟨W1, hW1⟩ : ∃ W1, W1 = w1.alloc (.cells #[.int .u8 71, .int .u8 69, .int .u8 84, .int .u8 32, .int .u8 47, .int .u8 32, .int .u8 72, .int .u8 84, .int .u8 84, .int .u8 80, .int .u8 47, .int .u8 49, .int .u8 46, .int .u8 48, .int .u8 13, .int .u8 10] 5 (16, 17)) := ⟨_, rfl⟩
  rw [← hW1] at b1
  rw [← hW1] at m1
  have hsz : W1.heap.size = w1.heap.size + 1 := by rw [hW1]; exact World.size_alloc _ _
  have hcv2 : (convert 22 22 (.slice (some ⟨W1.heap.size, 0, none⟩) 5 5)).run Tryz.prog (W1.alloc (.cells #[.int .u8 13, .int .u8 10, .int .u8 71, .int .u8 69, .int .u8 84] 5)) = .ok (.slice (some ⟨W1.heap.size, 0, none⟩) 5 5) (W1.alloc (.cells #[.int .u8 13, .int .u8 10, .int .u8 71, .int .u8 69, .int .u8 84] 5 (5, 6))) := conv_lit W1 #[.int .u8 13, .int .u8 10, .int .u8 71, .int .u8 69, .int .u8 84] 5 5 _ rfl
  have m2 : Mods [] W1 (W1.alloc (.cells #[.int .u8 13, .int .u8 10, .int .u8 71, .int .u8 69, .int .u8 84] 5 (5, 6))) := (Mods.refl [] W1).alloc _
  have b2 : BsAt (W1.alloc (.cells #[.int .u8 13, .int .u8 10, .int .u8 71, .int .u8 69, .int .u8 84] 5 (5, 6))) (.slice (some ⟨W1.heap.size, 0, none⟩) 5 5) knB := lit_at W1 knB (5, 6) (by decide) (by decide)
  obtain ⟨W2, hW2⟩ : ∃ W2, W2 = W1.alloc (.cells #[.int .u8 13, .int .u8 10, .int .u8 71, .int .u8 69, .int .u8 84] 5 (5, 6)) := ⟨_, rfl⟩
  rw [← hW2] at b2
  rw [← hW2] at m2
  have a2 := (HA.out.1.low m1).low m2
  have hlt := HA.out.1.lt
  have hps : PsAp (W2.alloc (.cells #[.slice (some ⟨w1.heap.size, 0, none⟩) 16 16, .slice (some ⟨W1.heap.size, 0, none⟩) 5 5] 22)) (.slice (some ⟨W2.heap.size, 0, none⟩) 2 2) [knA, knB] F := psap_two (A := knA) (B := knB) (F := F) (b1.low m2) b2 a2.lt (fun _ => own_apart hlt (by omega)) (fun _ => own_apart hlt (by omega))
  have m3 := (Mods.refl [] W2).alloc (.cells #[.slice (some ⟨w1.heap.size, 0, none⟩) 16 16, .slice (some ⟨W1.heap.size, 0, none⟩) 5 5] 22)
  have hfd := feedr_p _ [knA, knB] hps (a2.low m3) (by decide) (by decide)
  rw [show [knA, knB].flatten = knR from rfl] at hfd
  obtain ⟨e1, e2, e3, e4, e5⟩ := knR_feed
  obtain ⟨R, n, hr⟩ : ∃ R n, feedR newR knR = (R, n) := ⟨_, _, rfl⟩
  rw [hr] at hfd e1 e2 e3 e4 e5
  simp only at hfd e1 e2 e3 e4 e5
  subst e1
  have HFD := Lib.hid hfd
  have HE := Lib.hid (And.intro e2 (And.intro e3 (And.intro e4 e5)))
  have M3 := Lib.hid (((HA.out.2.1.trans m1 (fun _ h => nomatch h)).trans m2 (fun _ h => nomatch h)).trans m3 (fun _ h => nomatch h))
  have HFN := Lib.hid HA.out.2.2
  unfold ptr at HFD
  rw [← hW1] at hcv1
  rw [← hW2] at hcv2
  clear hW1 hW2 m1 b1 m2 b2 m3 hps a2 hlt hfd hr e2 e3 e4 e5 hsz HN
  go_upto_region 3 with (go_at_call 11; refine HFD.out.mono ?_; rintro z w2 ⟨rfl, hk⟩; have HQ := Lib.hid hk.out; clear hk)
  clear hcv1 hcv2 HFD
  obtain ⟨F2, a2, hg2⟩ := HQ.out
  have m4 : Mods [] w w2 := M3.out.trans hg2.mods (fun k hk => .inr (HFN.out k hk))
  have htk := takerq_p a2
  rw [take_w HE.out.1] at htk
  have HTK := Lib.hid htk
  have M4 := Lib.hid m4
  have HF2 := Lib.hid (show ∀ k ∈ F2, w.heap.size ≤ k from fun k hk => by
    rcases hg2.news k hk with h | h
    · exact HFN.out k h
    · have := M3.out.size; omega)
  have HRQ := Lib.hid (take_w HE.out.1)
  unfold ptr reqV reqCells at HTK
  clear a2 hg2 m4 htk
  obtain ⟨rq, hrq⟩ : ∃ rq, rq = rqOf R := ⟨_, rfl⟩
  have HRE := Lib.hid (show rq.close = true ∧ rq.minor = 0 ∧ rq.tgt.path = ⟨#[47]⟩ by rw [hrq]; exact HE.out.2)
  simp only at HTK
  rw [← hrq] at HTK
  clear hrq
  obtain ⟨q1, q2, q3, q4, q5, q6, q7⟩ := rq
  obtain ⟨t1, t2, t3, t4⟩ := q2
  obtain ⟨rfl, rfl, rfl⟩ := HRE.out
  simp only at HTK
  go_upto_region 4 with (go_at_call 14; refine HTK.out.mono ?_; rintro z w3 ⟨vf, vb, rfl, hk⟩; have HTR := Lib.hid hk.out; obtain ⟨fa, fc, rfl⟩ := hk.out.1.len; obtain ⟨bA, bC, rfl⟩ := hk.out.2.1.len; clear hk)
  obtain ⟨-, -, F3, a3, hg3, -⟩ := HTR.out
  have m5 : Mods [] w w3 := M4.out.trans hg3.mods (fun k hk => .inr (HF2.out k hk))
  have hph := fun W' (hm : Mods [] w3 W') => phase_p (a3.low hm)
  rw [HRQ.out] at hph
  have M5 := Lib.hid m5
  have HPH := Lib.hid hph
  unfold ptr at HPH
  clear hph a3 hg3 m5
  go_wp2_with (go_at_call 19; refine (HPH.out _ ((Mods.refl [] w3).alloc _)).mono ?_; rintro z w4 ⟨rfl, rfl⟩)
  go_ret
  exact ⟨rfl, M5.out.alloc _⟩
end Go.Proofs.YtgkhelbpccehcaaGreatDoor

/- The document's parser in memory, over a plain one. No program but for the types' numbers. -/
namespace Go.Proofs.YtgkhelbpccehcaaGreatDoor
open Go.RowKit
set_option linter.unusedVariables false
set_option linter.unusedSimpArgs false

def pxCells (ph st : Int) (hv : Value) (h : HowP) (bv cv : Value) (cm : Bool) (vl : Value) : Array Value :=
  #[.int .i64 ph, .int .i64 st, hv, vl, .int .i64 h.kind, .int .i64 h.length, .bool h.close, .bool h.expect, bv, cv, .bool cm]
abbrev PxM (g : Nat) (vl vb hv bv cv : Value) (FH FC : List Nat) (w : World) (ph st : Int) (L B : List UInt8) (h : HowP) (cm : Bool) : Prop := PM 32 (fun vl _ => pxCells ph st hv h bv cv cm vl) g vl vb FH FC w L B
theorem PxM.facts {g : Nat} {vl vb hv bv cv : Value} {FH FC : List Nat} {w : World} {ph st : Int} {L B : List UInt8} {h : HowP} {cm : Bool} (c : PxM g vl vb hv bv cv FH FC w ph st L B h cm) :
    w.cell? ⟨g, 0, none⟩ = some (.int .i64 ph) ∧ w.cell? ⟨g, 1, none⟩ = some (.int .i64 st) ∧ w.cell? ⟨g, 2, none⟩ = some hv ∧ w.cell? ⟨g, 3, none⟩ = some vl ∧ w.cell? ⟨g, 4, none⟩ = some (.int .i64 h.kind) ∧ w.cell? ⟨g, 5, none⟩ = some (.int .i64 h.length) ∧
    w.cell? ⟨g, 6, none⟩ = some (.bool h.close) ∧ w.cell? ⟨g, 7, none⟩ = some (.bool h.expect) ∧ w.cell? ⟨g, 8, none⟩ = some bv ∧ w.cell? ⟨g, 9, none⟩ = some cv ∧ w.cell? ⟨g, 10, none⟩ = some (.bool cm) :=
  ⟨c.row.cell 0, c.row.cell 1, c.row.cell 2, c.row.cell 3, c.row.cell 4, c.row.cell 5, c.row.cell 6, c.row.cell 7, c.row.cell 8, c.row.cell 9, c.row.cell 10⟩
/-! What stands in it, by where it is. -/
def RxHead (w : World) (P : PrP) (L : List UInt8) (hv : Value) (FH : List Nat) : Prop := P.phase = 1 ∧ L = P.line ∧ ∃ hb, hv = ptr hb ∧ HdR FH w hb P.head
def RxLen (w : World) (P : PrP) (B : List UInt8) (h : HowP) (cm : Bool) (hv bv vb : Value) (FH : List Nat) : Prop :=
  P.phase = 2 ∧ P.how.kind = 1 ∧ B = P.body ∧ bv = vb ∧ cm = P.came ∧ h = P.how ∧ ∃ hb, hv = ptr hb ∧ HdR FH w hb P.head
def RxChk (w : World) (P : PrP) (h : HowP) (cm : Bool) (hv cv : Value) (FH FC : List Nat) : Prop :=
  P.phase = 2 ∧ P.how.kind = 2 ∧ cm = P.came ∧ h = P.how ∧ (∃ cb, cv = ptr cb ∧ CkR FC w cb P.ch) ∧ ∃ hb, hv = ptr hb ∧ HdR FH w hb P.head
def RxWhole (w : World) (P : PrP) (B : List UInt8) (h : HowP) (hv bv vb : Value) (FH : List Nat) : Prop := P.phase = 3 ∧ B = P.body ∧ bv = vb ∧ h = P.how ∧ ∃ hb, hv = ptr hb ∧ HdR FH w hb P.head
def RelPx (w : World) (P : PrP) (L B : List UInt8) (h : HowP) (cm : Bool) (hv bv cv vb : Value) (FH FC : List Nat) : Prop :=
  P.phase = 0 ∨ RxHead w P L hv FH ∨ RxLen w P B h cm hv bv vb FH ∨ RxChk w P h cm hv cv FH FC ∨ RxWhole w P B h hv bv vb FH ∨ P.phase = 4
theorem RelPx.mods {w w' : World} {P : PrP} {L B : List UInt8} {h : HowP} {cm : Bool} {hv bv cv vb : Value} {FH FC F : List Nat} (r : RelPx w P L B h cm hv bv cv vb FH FC) (hm : Mods F w w') (h1 : ∀ k ∈ FH, k ∉ F) (h2 : ∀ k ∈ FC, k ∉ F) : RelPx w' P L B h cm hv bv cv vb FH FC := by
  rcases r with r | ⟨a, b, hb, e, q⟩ | ⟨a, b, c, d, e, f, hb, e2, q⟩ | ⟨a, b, c, d, ⟨cb, e, e2⟩, hb, f, q⟩ | ⟨a, b, c, d, hb, e, q⟩ | r
  · exact .inl r
  · exact .inr (.inl ⟨a, b, hb, e, q.mods hm h1⟩)
  · exact .inr (.inr (.inl ⟨a, b, c, d, e, f, hb, e2, q.mods hm h1⟩))
  · exact .inr (.inr (.inr (.inl ⟨a, b, c, d, ⟨cb, e, e2.mods hm h2⟩, hb, f, q.mods hm h1⟩)))
  · exact .inr (.inr (.inr (.inr (.inl ⟨a, b, c, d, hb, e, q.mods hm h1⟩))))
  · exact .inr (.inr (.inr (.inr (.inr r))))
/-- The document's parser, as a law holds it: F are its blocks. -/
structure PaR (F : List Nat) (w : World) (g : Nat) (P : PrP) : Prop where
  ex : ∃ vl vb hv bv cv FH FC L B h cm, PxM g vl vb hv bv cv FH FC w P.phase P.status L B h cm ∧ F = pab g vl vb FH FC ∧ RelPx w P L B h cm hv bv cv vb FH FC ∧ ∃ x y z, bv = .slice x y z
  ok : PrOk P
theorem PaR.mods {F G : List Nat} {w w' : World} {g : Nat} {P : PrP} (a : PaR F w g P) (hm : Mods G w w') (hF : ∀ k ∈ F, k ∉ G) : PaR F w' g P := by
  obtain ⟨vl, vb, hv, bv, cv, FH, FC, L, B, h, cm, c, rfl, r, hbv⟩ := a.ex
  exact ⟨⟨vl, vb, hv, bv, cv, FH, FC, L, B, h, cm, c.mods hm hF, rfl, r.mods hm (fun k hk => hF k (by simp [hk])) (fun k hk => hF k (by simp [hk])), hbv⟩, a.ok⟩
theorem PaR.low {F : List Nat} {w w' : World} {g : Nat} {P : PrP} (a : PaR F w g P) (hm : Mods [] w w') : PaR F w' g P := a.mods hm (by simp)
theorem PaR.lt {F : List Nat} {w : World} {g : Nat} {P : PrP} (a : PaR F w g P) : ∀ k ∈ F, k < w.heap.size := by
  obtain ⟨vl, vb, hv, bv, cv, FH, FC, L, B, h, cm, c, rfl, r, -⟩ := a.ex
  exact c.lt
/-- What a call leaves: the parser, what has turned. -/
def FedQ (F : List Nat) (w : World) (g : Nat) (P : PrP) (w' : World) : Prop := ∃ F', PaR F' w' g P ∧ Grew F F' w w'
theorem FedQ.low {F : List Nat} {w w' w2 : World} {g : Nat} {P : PrP} (h : FedQ F w g P w') (hm : Mods [] w' w2) : FedQ F w g P w2 := by
  obtain ⟨F', a, hg⟩ := h
  exact ⟨F', a.low hm, hg.low hm⟩
theorem FedQ.trans {F F1 : List Nat} {w w1 w2 : World} {g : Nat} {P : PrP} (h0 : Grew F F1 w w1) (h : FedQ F1 w1 g P w2) : FedQ F w g P w2 := by
  obtain ⟨F', a, hg⟩ := h
  exact ⟨F', a, h0.trans hg⟩
theorem FedQ.refl {F : List Nat} {w : World} {g : Nat} {P : PrP} (h : PaR F w g P) : FedQ F w g P w := ⟨F, h, Grew.refl F w⟩
/-- It is refused, whatever else stands in it. -/
theorem px_bad {g : Nat} {vl vb hv bv cv : Value} {FH FC : List Nat} {w : World} {L B : List UInt8} {h : HowP} {cm : Bool} {P : PrP} (o : PrOk P) (hs : P.phase = 4) (c : PxM g vl vb hv bv cv FH FC w 4 P.status L B h cm) (hbv : ∃ x y z, bv = .slice x y z := by exact ⟨_, _, _, rfl⟩) : PaR (pab g vl vb FH FC) w g P :=
  ⟨⟨_, _, _, _, _, _, _, _, _, _, _, (by rw [hs]; exact c), rfl, .inr (.inr (.inr (.inr (.inr hs)))), hbv⟩, o⟩
theorem px_new (w : World) : PaR (pab w.heap.size (.slice none 0 0) (.slice none 0 0) [] []) (w.alloc (.cells (pxCells 0 0 (.pointer none) noH (.slice none 0 0) (.pointer none) false (.slice none 0 0)) 32)) w.heap.size newR :=
  ⟨⟨.slice none 0 0, .slice none 0 0, .pointer none, .slice none 0 0, .pointer none, [], [], [], [], noH, false,
    ⟨Row.new _ _ _, BRow.nil _, BRow.nil _, fun k hk => (by simp [Value.ownBlock] at hk), fun k hk => (nomatch hk), fun k hk => (nomatch hk), by decide⟩, rfl, .inl rfl, _, _, _, rfl⟩, newR_ok⟩
end Go.Proofs.YtgkhelbpccehcaaGreatDoor

/- The document's parser: refused, the end of a head, a byte of a body. Conditions: none. -/
namespace Go.Proofs.YtgkhelbpccehcaaGreatDoor
open Go.RowKit
set_option linter.unusedVariables false
set_option linter.unusedSimpArgs false

theorem hdR_new (w : World) : HdR [w.heap.size] (w.alloc (.cells (.slice none 0 0 :: refCells 0 0 newH).toArray 74)) w.heap.size newH :=
  ⟨⟨.slice none 0 0, 0, 0, ⟨Row.new _ _ _, World.ownsRow_nil _ _ _ _, by decide, (fun p hp => nomatch hp)⟩, rfl, fun _ _ => ⟨rfl, rfl⟩⟩, newH_ok⟩
theorem ckR_new (w : World) : CkR [w.heap.size] (w.alloc (.cells (rfCells 0 0 0 false 0 (.slice none 0 0) (.slice none 0 0) (.slice none 0 0)) 90)) w.heap.size newC :=
  ⟨⟨.slice none 0 0, .slice none 0 0, .slice none 0 0, [], 0, 0, 0, ⟨Row.new _ _ _, BRow.nil _, BRow.nil _, World.ownsRow_nil _ _ _ _, fun k hk => by simp [Value.ownBlock] at hk⟩, rfl, fun _ => ⟨rfl, rfl, fun _ => rfl, rfl⟩⟩, newC_ok⟩
theorem px_mk {w : World} {g : Nat} {P : PrP} {vl vb hv bv cv : Value} {FH FC : List Nat} {ph st : Int} {L B : List UInt8} {h : HowP} {cm : Bool} (o : PrOk P) (h1 : (P.phase : Int) = ph) (h2 : P.status = st) (c : PxM g vl vb hv bv cv FH FC w ph st L B h cm) (r : RelPx w P L B h cm hv bv cv vb FH FC) (hbv : ∃ x y z, bv = .slice x y z := by exact ⟨_, _, _, rfl⟩) : PaR (pab g vl vb FH FC) w g P := by
  subst h1 h2
  exact ⟨⟨_, _, _, _, _, _, _, _, _, _, _, c, rfl, r, hbv⟩, o⟩
/-- The body's row is no longer held. -/
theorem PM.noB {t : TypeId} {c0 : Value → Array Value} {g : Nat} {vl vb : Value} {FH FC : List Nat} {w : World} {L B : List UInt8} (c : PM t (fun vl _ => c0 vl) g vl vb FH FC w L B) : PM t (fun vl _ => c0 vl) g vl (.slice none 0 0) FH FC w L [] :=
  ⟨c.row, c.line, BRow.nil w, fun k _ => by simp [Value.ownBlock], fun k hk => ⟨(c.hd k hk).1, (c.hd k hk).2.1, (c.hd k hk).2.2.1, by simp [Value.ownBlock], (c.hd k hk).2.2.2.2⟩, fun k hk => ⟨(c.ck k hk).1, (c.ck k hk).2.1, (c.ck k hk).2.2.1, by simp [Value.ownBlock]⟩, c.ty⟩
/-- A head, a reader of new blocks. -/
theorem PM.fresh {t : TypeId} {cs : Value → Value → Array Value} {g : Nat} {vl vb : Value} {FH FC FH' FC' : List Nat} {w w' : World} {L B : List UInt8} (c : PM t cs g vl vb FH FC w L B) (hm : Mods [g] w w') (hr : Row w' g t (cs vl vb)) (hh : ∀ k ∈ FH', k ∈ FH ∨ w.heap.size ≤ k) (hc : ∀ k ∈ FC', w.heap.size ≤ k)
    (hd : ∀ k ∈ FH', k ∉ FC') (h1 : ∀ k ∈ FH', k < w'.heap.size) (h2 : ∀ k ∈ FC', k < w'.heap.size) : PM t cs g vl vb FH' FC' w' L B ∧ Grew (pab g vl vb FH FC) (pab g vl vb FH' FC') w w' := by
  have hl := c.row.lt
  refine ⟨⟨hr, c.line.mods hm (fun k hk => by simpa using c.ne_l k hk), c.body.mods hm (fun k hk => by simpa using c.ne_b k hk), c.apart, fun k hk => ⟨h1 k hk, ?_⟩, fun k hk => ⟨h2 k hk, ?_⟩, c.ty⟩, ⟨hm.more (fun k hk => .inl (by rw [List.mem_singleton] at hk; rw [hk]; simp)), fun k hk => ?_⟩⟩
  · rcases hh k hk with e | e
    · exact ⟨(c.hd k e).2.1, (c.hd k e).2.2.1, (c.hd k e).2.2.2.1, hd k hk⟩
    · exact ⟨fun e2 => by omega, fun e2 => by have := c.line.lt k e2; omega, fun e2 => by have := c.body.lt k e2; omega, hd k hk⟩
  · have e := hc k hk
    exact ⟨fun e2 => by omega, fun e2 => by have := c.line.lt k e2; omega, fun e2 => by have := c.body.lt k e2; omega⟩
  · simp only [List.mem_cons, List.mem_append] at hk ⊢
    rcases hk with hk | hk | hk | hk | hk
    · exact .inl (.inl hk)
    · exact .inl (.inr (.inl hk))
    · exact .inl (.inr (.inr (.inl hk)))
    · rcases hh k hk with e | e
      · exact .inl (.inr (.inr (.inr (.inl e))))
      · exact .inr e
    · exact .inr (hc k hk)
set_option maxRecDepth 10000 in
theorem bad_x {g : Nat} {vl vb hv bv cv : Value} {FH FC : List Nat} {w : World} {ph st : Int} {L B : List UInt8} {h : HowP} {cm : Bool} (c : PxM g vl vb hv bv cv FH FC w ph st L B h cm) (n : Int) :
    Calls Tryz.prog 34 #[ptr g, .int .i64 n] w fun z w' => z = .returned (.tuple #[]) ∧ w' = (w.setCell ⟨g, 0, none⟩ (.int .i64 4)).setCell ⟨g, 1, none⟩ (.int .i64 n) := by
  have c0 : w.cell? ⟨g, 0, none⟩ = some (.int .i64 ph) := c.row.cell 0
  have c1 : w.cell? ⟨g, 1, none⟩ = some (.int .i64 st) := c.row.cell 1
  have f0 := c.row.free 0
  have f1 := c.row.free 1
  clear c
  unfold ptr
  go_enter Tryz.func34, Tryz.ntmps34
  go_wp2
  go_end0
  exact ⟨rfl, rfl⟩
theorem px_refused {P : PrP} {g : Nat} {vl vb hv bv cv : Value} {FH FC : List Nat} {w w' : World} {ph st : Int} {L B : List UInt8} {h : HowP} {cm : Bool} {n : Int} (c : PxM g vl vb hv bv cv FH FC w ph st L B h cm) (o : PrOk (badR P n)) (hw : w' = (w.setCell ⟨g, 0, none⟩ (.int .i64 4)).setCell ⟨g, 1, none⟩ (.int .i64 n)) (hbv : ∃ x y z, bv = .slice x y z := by exact ⟨_, _, _, rfl⟩) : FedQ (pab g vl vb FH FC) w g (badR P n) w' := by
  subst hw
  have k0 := PM.set (cs' := fun vl _ => pxCells 4 st hv h bv cv cm vl) c 0 (.int .i64 4) rfl
  have k1 := PM.set (cs' := fun vl _ => pxCells 4 n hv h bv cv cm vl) k0 1 (.int .i64 n) rfl
  exact ⟨_, px_bad o rfl k1 hbv, (PM.set_grew c 0 _).trans (PM.set_grew k0 1 _)⟩
set_option maxRecDepth 10000 in
set_option maxHeartbeats 2000000 in
theorem begins_x {P : PrP} {g hb : Nat} {vl vb bv cv : Value} {FH FC : List Nat} {w : World} {H : HdP} {L B : List UInt8} {h : HowP} {cm : Bool} (o : PrOk P) (h1 : P.phase = 1) (c : PxM g vl vb (ptr hb) bv cv FH FC w 1 0 L B h cm) (hbv : ∃ x y z, bv = .slice x y z) (a : HdR FH w hb H) (hw : HowOk H.how) :
    Calls Tryz.prog 36 #[ptr g] w fun z w' => z = .returned (.tuple #[]) ∧ Hid (FedQ (pab g vl vb FH FC) w g (begR P H) w') := by
  have hst : P.status = 0 := o.st (by omega)
  have OB := Lib.hid (o.beg a.ok hw hst)
  obtain ⟨bx, bn, bc, rfl⟩ := hbv
  obtain ⟨c0, c1, c2, c3, c4, c5, c6, c7, c8, c9, c10⟩ := PxM.facts c
  have f0 := c.row.free 0
  have f4 := c.row.free 4
  have f5 := c.row.free 5
  have f6 := c.row.free 6
  have f7 := c.row.free 7
  have f8 := c.row.free 8
  have f9 := c.row.free 9
  have f10 := c.row.free 10
  obtain ⟨v, z, e, hx, hFH, -⟩ := a.ex
  obtain ⟨-, -, -, -, -, -, -, h7, h8, h9, h10, -⟩ := hx.facts
  have hgb : g ≠ hb := fun e => (c.hd hb (by rw [hFH]; simp)).2.1 e.symm
  have hbg : hb ≠ g := fun e => hgb e.symm
  have K := Lib.hid c
  have HH := Lib.hid a
  have HST := Lib.hid hst
  have HGB := Lib.hid hgb
  unfold ptr at *
  obtain ⟨q, hq⟩ : ∃ q, q = H.how := ⟨_, rfl⟩
  rw [← hq] at h7 h8 h9 h10 hw
  have HQ := Lib.hid hq
  clear hq c a o h1 hst hx hFH
  obtain ⟨hk0, hl0, hcl0, hx0⟩ := h
  obtain ⟨kd, ln, cl, xp⟩ := q
  simp only [HowOk] at hw h7 h8 h9 h10 c4 c5 c6 c7
  have hcase : (kd = 0) ∨ (kd = 1 ∧ ln = 0) ∨ (kd = 1 ∧ ¬ ln = 0) ∨ (kd = 2) := by omega
  go_enter Tryz.func36, Tryz.ntmps36
  go_upto_region 3 with fail
  have r0 : Row w g 32 #[.int .i64 1, .int .i64 0, ptr hb, vl, .int .i64 hk0, .int .i64 hl0, .bool hcl0, .bool hx0, .slice bx bn bc, cv, .bool cm] := K.out.row
  have r1 : Row (w.setCell ⟨g, 4, none⟩ (.int .i64 kd)) g 32 #[.int .i64 1, .int .i64 0, ptr hb, vl, .int .i64 kd, .int .i64 hl0, .bool hcl0, .bool hx0, .slice bx bn bc, cv, .bool cm] := r0.set 4 _
  have r2 : Row ((w.setCell ⟨g, 4, none⟩ (.int .i64 kd)).setCell ⟨g, 5, none⟩ (.int .i64 ln)) g 32 #[.int .i64 1, .int .i64 0, ptr hb, vl, .int .i64 kd, .int .i64 ln, .bool hcl0, .bool hx0, .slice bx bn bc, cv, .bool cm] := r1.set 5 _
  have r3 : Row (((w.setCell ⟨g, 4, none⟩ (.int .i64 kd)).setCell ⟨g, 5, none⟩ (.int .i64 ln)).setCell ⟨g, 6, none⟩ (.bool cl)) g 32 #[.int .i64 1, .int .i64 0, ptr hb, vl, .int .i64 kd, .int .i64 ln, .bool cl, .bool hx0, .slice bx bn bc, cv, .bool cm] := r2.set 6 _
  have r4 : Row ((((w.setCell ⟨g, 4, none⟩ (.int .i64 kd)).setCell ⟨g, 5, none⟩ (.int .i64 ln)).setCell ⟨g, 6, none⟩ (.bool cl)).setCell ⟨g, 7, none⟩ (.bool xp)) g 32 #[.int .i64 1, .int .i64 0, ptr hb, vl, .int .i64 kd, .int .i64 ln, .bool cl, .bool xp, .slice bx bn bc, cv, .bool cm] := r3.set 7 _
  have r5 : Row (((((w.setCell ⟨g, 4, none⟩ (.int .i64 kd)).setCell ⟨g, 5, none⟩ (.int .i64 ln)).setCell ⟨g, 6, none⟩ (.bool cl)).setCell ⟨g, 7, none⟩ (.bool xp)).setCell ⟨g, 8, none⟩ (.slice none 0 0)) g 32 #[.int .i64 1, .int .i64 0, ptr hb, vl, .int .i64 kd, .int .i64 ln, .bool cl, .bool xp, .slice none 0 0, cv, .bool cm] := r4.set 8 _
  have r6 : Row ((((((w.setCell ⟨g, 4, none⟩ (.int .i64 kd)).setCell ⟨g, 5, none⟩ (.int .i64 ln)).setCell ⟨g, 6, none⟩ (.bool cl)).setCell ⟨g, 7, none⟩ (.bool xp)).setCell ⟨g, 8, none⟩ (.slice none 0 0)).setCell ⟨g, 10, none⟩ (.bool false)) g 32 #[.int .i64 1, .int .i64 0, ptr hb, vl, .int .i64 kd, .int .i64 ln, .bool cl, .bool xp, .slice none 0 0, cv, .bool false] := r5.set 10 _
  have m1 : Mods [g] w ((((((w.setCell ⟨g, 4, none⟩ (.int .i64 kd)).setCell ⟨g, 5, none⟩ (.int .i64 ln)).setCell ⟨g, 6, none⟩ (.bool cl)).setCell ⟨g, 7, none⟩ (.bool xp)).setCell ⟨g, 8, none⟩ (.slice none 0 0)).setCell ⟨g, 10, none⟩ (.bool false)) := ((((((Mods.refl [g] w).setCell (.inl (by simp)) _).setCell (.inl (by simp)) _).setCell (.inl (by simp)) _).setCell (.inl (by simp)) _).setCell (.inl (by simp)) _).setCell (.inl (by simp)) _
  obtain ⟨W1, hW1⟩ : ∃ W1, W1 = ((((((w.setCell ⟨g, 4, none⟩ (.int .i64 kd)).setCell ⟨g, 5, none⟩ (.int .i64 ln)).setCell ⟨g, 6, none⟩ (.bool cl)).setCell ⟨g, 7, none⟩ (.bool xp)).setCell ⟨g, 8, none⟩ (.slice none 0 0)).setCell ⟨g, 10, none⟩ (.bool false)) := ⟨_, rfl⟩
  rw [← hW1] at r6 m1
  rw [← hW1]
  clear hW1 r0 r1 r2 r3 r4 r5 c0 c1 c2 c3 c4 c5 c6 c7 c8 c9 c10 f0 f4 f5 f6 f7 f8 f9 f10 h7 h8 h9 h10
  have ra := fun o => r6.mods ((Mods.refl [] W1).alloc o) (by simp)
  have e9 := fun o => (ra o).cell 9
  have e0 := fun o => (ra o).cell 0
  have g9 := fun o => (ra o).free 9
  have g0 := fun o => (ra o).free 0
  simp only [List.getElem?_toArray, List.getElem?_cons_zero, List.getElem?_cons_succ] at e9 e0
  have R6 := Lib.hid r6
  have M1 := Lib.hid m1
  clear ra
  go_upto_region 5 with fail
  have hq := hcase
  have hkr := ckR_new W1
  have r8 : Row (W1.alloc (.cells (rfCells 0 0 0 false 0 (.slice none 0 0) (.slice none 0 0) (.slice none 0 0)) 90)) g 32 _ := R6.out.mods ((Mods.refl [] W1).alloc _) (by simp)
  have m8 : Mods [g] w (W1.alloc (.cells (rfCells 0 0 0 false 0 (.slice none 0 0) (.slice none 0 0) (.slice none 0 0)) 90)) := M1.out.alloc _
  have hsz : w.heap.size ≤ W1.heap.size := M1.out.size
  have hgl : g < W1.heap.size := R6.out.lt
  change Code.wp _ _ _ _ (((W1.alloc (.cells (rfCells 0 0 0 false 0 (.slice none 0 0) (.slice none 0 0) (.slice none 0 0)) 90)).setCell ⟨g, 9, none⟩ (ptr W1.heap.size)).setCell ⟨g, 0, none⟩ (.int .i64 2))
  obtain ⟨rb, hrb⟩ : ∃ rb, rb = W1.heap.size := ⟨_, rfl⟩
  obtain ⟨Wr, hWr⟩ : ∃ Wr, Wr = W1.alloc (.cells (rfCells 0 0 0 false 0 (.slice none 0 0) (.slice none 0 0) (.slice none 0 0)) 90) := ⟨_, rfl⟩
  rw [← hWr] at r8 m8 hkr ⊢
  rw [← hrb] at hkr ⊢
  have r9 : Row (Wr.setCell ⟨g, 9, none⟩ (ptr rb)) g 32 #[.int .i64 1, .int .i64 0, ptr hb, vl, .int .i64 kd, .int .i64 ln, .bool cl, .bool xp, .slice none 0 0, ptr rb, .bool false] := r8.set 9 _
  have r10 : Row ((Wr.setCell ⟨g, 9, none⟩ (ptr rb)).setCell ⟨g, 0, none⟩ (.int .i64 2)) g 32 #[.int .i64 2, .int .i64 0, ptr hb, vl, .int .i64 kd, .int .i64 ln, .bool cl, .bool xp, .slice none 0 0, ptr rb, .bool false] := r9.set 0 _
  have m10 : Mods [g] w ((Wr.setCell ⟨g, 9, none⟩ (ptr rb)).setCell ⟨g, 0, none⟩ (.int .i64 2)) := (m8.setCell (.inl (by simp)) _).setCell (.inl (by simp)) _
  have hk10 : CkR [rb] ((Wr.setCell ⟨g, 9, none⟩ (ptr rb)).setCell ⟨g, 0, none⟩ (.int .i64 2)) rb newC := hkr.mods (G := [g]) (((Mods.refl [g] Wr).setCell (.inl (by simp)) _).setCell (.inl (by simp)) _) (fun k hk => by rw [List.mem_singleton] at hk; simp; omega)
  obtain ⟨W2, hW2⟩ : ∃ W2, W2 = (Wr.setCell ⟨g, 9, none⟩ (ptr rb)).setCell ⟨g, 0, none⟩ (.int .i64 2) := ⟨_, rfl⟩
  rw [← hW2] at r10 m10 hk10
  rw [← hW2]
  have HRB := Lib.hid (show w.heap.size ≤ rb by omega)
  clear hW2 hWr r8 m8 r9 hkr hrb e9 e0 g9 g0 hsz hgl
  have d0 : W2.cell? ⟨g, 0, none⟩ = some (.int .i64 2) := r10.cell 0
  have d4 : W2.cell? ⟨g, 4, none⟩ = some (.int .i64 kd) := r10.cell 4
  have d5 : W2.cell? ⟨g, 5, none⟩ = some (.int .i64 ln) := r10.cell 5
  have f0 := r10.free 0
  have R10 := Lib.hid r10
  have M10 := Lib.hid m10
  have HK10 := Lib.hid hk10
  have HB := Lib.hid (fun (W3 : World) (hm : Mods [g] W2 W3) (cs' : Value → Array Value) (hr : Row W3 g 32 (cs' vl)) (FC' : List Nat) (h9 : FC' = [] ∨ FC' = [rb]) =>
    show PM 32 (fun vl _ => cs' vl) g vl (.slice none 0 0) FH FC' W3 L [] ∧ Grew (pab g vl vb FH FC) (pab g vl (.slice none 0 0) FH FC') w W3 ∧ HdR FH W3 hb H ∧ CkR [rb] W3 rb newC from by
    have mw := M10.out.trans hm (fun k hk => .inl hk)
    have hlt2 : ∀ k ∈ FC', k = rb := fun k hk => by rcases h9 with e | e <;> rw [e] at hk <;> simp at hk; exact hk
    have hrb2 := HK10.out.lt rb (by simp)
    have c9 : PM 32 (fun vl _ => cs' vl) g vl (.slice none 0 0) FH FC' W3 L [] :=
      ⟨hr, K.out.line.mods mw (fun k hk => by simpa using PM.ne_l K.out k hk), BRow.nil _, fun k _ => by simp [Value.ownBlock],
        fun k hk => ⟨Nat.lt_of_lt_of_le (K.out.hd k hk).1 mw.size, (K.out.hd k hk).2.1, (K.out.hd k hk).2.2.1, by simp [Value.ownBlock], fun e => by have h1 := hlt2 k e; have h2 := (K.out.hd k hk).1; have h3 := HRB.out; omega⟩,
        fun k hk => ⟨by rw [hlt2 k hk]; exact Nat.lt_of_lt_of_le hrb2 hm.size, by rw [hlt2 k hk]; intro e; have h2 := K.out.row.lt; have h3 := HRB.out; omega, fun e => by have h1 := hlt2 k hk; have h2 := K.out.line.lt k e; have h3 := HRB.out; omega, by simp [Value.ownBlock]⟩, K.out.ty⟩
    refine ⟨c9, ⟨mw.more (fun k hk => .inl (by rw [List.mem_singleton] at hk; rw [hk]; simp)), fun k hk => ?_⟩, HH.out.mods mw (fun k hk => by simpa using (K.out.hd k hk).2.1), HK10.out.mods hm (fun k hk => by rw [List.mem_singleton] at hk; simp; have h2 := K.out.row.lt; have h3 := HRB.out; omega)⟩
    simp only [List.mem_cons, List.mem_append, Value.ownBlock, Option.toList, List.not_mem_nil, false_or] at hk ⊢
    rcases hk with hk | hk | hk | hk
    · exact .inl (.inl hk)
    · exact .inl (.inr (.inl hk))
    · exact .inl (.inr (.inr (.inr (.inl hk))))
    · exact .inr (by have h1 := hlt2 k hk; have h3 := HRB.out; omega))
  clear r10 m10 hk10 hq
  have fin3 := Lib.hid (fun (hc : kd = 0 ∨ (kd = 1 ∧ ln = 0)) => show FedQ (pab g vl vb FH FC) w g (begR P H) (W2.setCell ⟨g, 0, none⟩ (.int .i64 3)) from by
    have hp : (begR P H).phase = 3 := by show (if _ then 3 else 2) = 3; rw [← HQ.out]; rw [if_pos hc]
    obtain ⟨c9, g9, a9, -⟩ := HB.out (W2.setCell ⟨g, 0, none⟩ (.int .i64 3)) ((Mods.refl [g] W2).setCell (.inl (by simp)) _) (pxCells 3 0 (ptr hb) ⟨kd, ln, cl, xp⟩ (.slice none 0 0) (ptr rb) false) (R10.out.set 0 (.int .i64 3)) [] (.inl rfl)
    exact ⟨_, px_mk (bv := .slice none 0 0) OB.out (ph := 3) (st := 0) (by rw [hp]; rfl) HST.out c9 (.inr (.inr (.inr (.inr (.inl ⟨hp, rfl, rfl, HQ.out, hb, rfl, a9⟩))))), g9⟩)
  rcases hcase with rfl | ⟨rfl, rfl⟩ | ⟨rfl, hl0⟩ | rfl
  · go_wp2
    go_end0
    exact ⟨rfl, Lib.hid (fin3.out (by simp))⟩
  · go_wp2
    go_end0
    exact ⟨rfl, Lib.hid (fin3.out (by simp))⟩
  · have hl1 : (ln == 0) = false := by rw [beq_eq_false_iff_ne]; exact hl0
    have HL0 := Lib.hid hl0
    clear hl0 fin3
    go_wp2
    go_end0
    have hp : (begR P H).phase = 2 := by show (if _ then 3 else 2) = 2; rw [← HQ.out]; rw [if_neg (by have := HL0.out; show ¬ ((1 : Int) = 0 ∨ ((1 : Int) = 1 ∧ ln = 0)); omega)]
    obtain ⟨c9, g9, a9, -⟩ := HB.out W2 (Mods.refl _ _) (pxCells 2 0 (ptr hb) ⟨1, ln, cl, xp⟩ (.slice none 0 0) (ptr rb) false) R10.out [] (.inl rfl)
    exact ⟨rfl, Lib.hid ⟨_, px_mk (bv := .slice none 0 0) OB.out (ph := 2) (st := 0) (by rw [hp]; rfl) HST.out c9 (.inr (.inr (.inl ⟨hp, (by show H.how.kind = 1; rw [← HQ.out]), rfl, rfl, rfl, HQ.out, hb, rfl, a9⟩))), g9⟩⟩
  · clear fin3
    go_wp2
    go_end0
    have hp : (begR P H).phase = 2 := by show (if _ then 3 else 2) = 2; rw [← HQ.out]; rw [if_neg (by show ¬ ((2 : Int) = 0 ∨ ((2 : Int) = 1 ∧ ln = 0)); omega)]
    obtain ⟨c9, g9, a9, k9⟩ := HB.out W2 (Mods.refl _ _) (pxCells 2 0 (ptr hb) ⟨2, ln, cl, xp⟩ (.slice none 0 0) (ptr rb) false) R10.out [rb] (.inr rfl)
    exact ⟨rfl, Lib.hid ⟨_, px_mk (bv := .slice none 0 0) OB.out (ph := 2) (st := 0) (by rw [hp]; rfl) HST.out c9 (.inr (.inr (.inr (.inl ⟨hp, (by show H.how.kind = 2; rw [← HQ.out]), rfl, HQ.out, ⟨rb, rfl, k9⟩, hb, rfl, a9⟩)))), g9⟩⟩
theorem more_len {P : PrP} {x : UInt8} (h : P.how.kind = 1) : moreR P x = { P with came := true, body := P.body ++ [x], phase := if ((P.body.length + 1 : Nat) : Int) = P.how.length then 3 else 2 } := by unfold moreR; rw [if_pos h]
theorem more_chk {P : PrP} {x : UInt8} (h : P.how.kind = 2) : moreR P x = if (oneP P.ch x).status ≠ 0 then badR { P with came := true, ch := oneP P.ch x, body := (oneP P.ch x).body } (oneP P.ch x).status
  else { P with came := true, ch := oneP P.ch x, body := (oneP P.ch x).body, phase := if (oneP P.ch x).whole = true then 3 else 2 } := by unfold moreR; rw [if_neg (by omega)]
set_option maxRecDepth 10000 in
set_option maxHeartbeats 4000000 in
theorem more_x1 {P : PrP} {g hb : Nat} {vl vb cv : Value} {FH FC : List Nat} {w : World} {L : List UInt8} (o : PrOk P) (h2 : P.phase = 2) (hk : P.how.kind = 1) (c : PxM g vl vb (ptr hb) vb cv FH FC w 2 0 L P.body P.how P.came) (a : HdR FH w hb P.head) (x : UInt8) :
    Calls Tryz.prog 33 #[ptr g, .int .u8 (x.toNat : Int)] w fun z w' => z = .returned (.tuple #[]) ∧ Hid (FedQ (pab g vl vb FH FC) w g (moreR P x) w') := by
  have hbd : (P.body.length : Int) < P.how.length ∧ P.how.length ≤ 2048 := by
    rcases o.body h2 with ⟨_, b, d⟩ | ⟨b, _⟩
    · exact ⟨b, d⟩
    · omega
  have OM := Lib.hid (o.moreR h2 x)
  have HST := Lib.hid (o.st (by omega))
  obtain ⟨c0, c1, c2, c3, c4, c5, c6, c7, c8, c9, c10⟩ := PxM.facts c
  have f10 := c.row.free 10
  have k1 := PM.set (cs' := fun vl _ => pxCells 2 0 (ptr hb) P.how vb cv true vl) c 10 (.bool true) rfl
  have g1 := PM.set_grew c 10 (.bool true)
  have m1 : Mods [g] w (w.setCell ⟨g, 10, none⟩ (.bool true)) := (Mods.refl [g] w).setCell (.inl (by simp)) _
  have a1 := a.mods m1 (fun k hk => by simpa using (c.hd k hk).2.1)
  obtain ⟨W1, hW1⟩ : ∃ W1, W1 = w.setCell ⟨g, 10, none⟩ (.bool true) := ⟨_, rfl⟩
  rw [← hW1] at k1 g1 m1 a1
  have d4 : W1.cell? ⟨g, 4, none⟩ = some (.int .i64 P.how.kind) := k1.row.cell 4
  have d8 : W1.cell? ⟨g, 8, none⟩ = some vb := k1.row.cell 8
  rw [hk] at d4
  obtain ⟨b, c', w4, hrun, hrow, hm, hb4⟩ := app_row k1.body (by omega) x
  have hput := PM.putB (cs' := fun vl _ => pxCells 2 0 (ptr hb) P.how (.slice (some ⟨b, 0, none⟩) (P.body.length + 1) c') cv true vl) k1 hrow hm (fun k hk => by
    have hkb : k = b := by simpa [Value.ownBlock, eq_comm] using hk
    subst hkb
    rcases hb4 with h | h
    · exact .inl (by rw [← h]; simp)
    · exact .inr h) 8 rfl
  have r4 := k1.row.mods hm (fun hk => PM.ne_b k1 g hk rfl)
  have e8 : w4.cell? ⟨g, 8, none⟩ = some vb := r4.cell 8
  have q8 := r4.free 8
  have m5 : Mods (g :: vb.ownBlock.toList) W1 (w4.setCell ⟨g, 8, none⟩ (.slice (some ⟨b, 0, none⟩) (P.body.length + 1) c')) := (hm.more (fun k hk => .inl (by simp [hk]))).setCell (.inl (by simp)) _
  have a5 := a1.mods m5 (fun k hk h => by
    have h9 := k1.hd k hk
    rcases List.mem_cons.1 h with h | h
    · exact h9.2.1 h
    · exact h9.2.2.2.1 h)
  obtain ⟨W5, hW5⟩ : ∃ W5, W5 = w4.setCell ⟨g, 8, none⟩ (.slice (some ⟨b, 0, none⟩) (P.body.length + 1) c') := ⟨_, rfl⟩
  rw [← hW5] at hput a5
  have d8b : W5.cell? ⟨g, 8, none⟩ = some (.slice (some ⟨b, 0, none⟩) (P.body.length + 1) c') := hput.1.row.cell 8
  have d5b : W5.cell? ⟨g, 5, none⟩ = some (.int .i64 P.how.length) := hput.1.row.cell 5
  have d0b : W5.cell? ⟨g, 0, none⟩ = some (.int .i64 2) := hput.1.row.cell 0
  have f0b := hput.1.row.free 0
  have K5 := Lib.hid hput.1
  have G5 := Lib.hid (g1.trans hput.2)
  have A5 := Lib.hid a5
  have HE := Lib.hid (more_len (P := P) (x := x) hk)
  have HK := Lib.hid (And.intro h2 hk)
  obtain ⟨ob, oc, hvb⟩ : ∃ ob oc, vb = .slice ob P.body.length oc := by obtain ⟨x, y, h, -⟩ := c.body.form; exact ⟨x, y, h⟩
  obtain ⟨bl, hbl⟩ : ∃ bl, bl = P.body.length := ⟨_, rfl⟩
  obtain ⟨ln, hln⟩ : ∃ ln, ln = P.how.length := ⟨_, rfl⟩
  have hb48 : bl ≤ 2048 := by omega
  have HBL := Lib.hid hbl
  have HLN := Lib.hid hln
  have hcase : (((bl + 1 : Nat) : Int) == ln) = true ∨ (((bl + 1 : Nat) : Int) == ln) = false := by cases ((((bl + 1 : Nat) : Int) == ln)) <;> simp
  clear o h2 hk c a hbd k1 g1 m1 a1 hrow hm hb4 hput r4 m5 a5 c0 c1 c2 c3 c4 c5 c6 c7 c8 c9
  subst hvb
  rw [← hbl] at hrun hW5 d8 e8 d8b
  rw [← hln] at d5b
  clear hbl hln
  unfold ptr
  go_enter Tryz.func33, Tryz.ntmps33
  go_upto_region 1 with fail
  rw [← hW1]
  clear hW1 c10 f10
  go_upto_region 3 with (at_builtin; refine wpList_run_app2 rfl (.tmp 20) (.tmp 22) 22 22 rfl rfl rfl hrun ?_)
  rw [← hW5]
  clear hW5 hrun e8 q8 d8 d4
  go_quiet (fail)
  rcases hcase with hz | hz
  · simp only [Int.natCast_add, Int.natCast_one] at hz
    go_wp2
    refine bodyPost_ret (results_none rfl _ _ _) rfl ?_
    refine ⟨rfl, Lib.hid ?_⟩
    have hE := HE.out
    rw [if_pos (show ((P.body.length + 1 : Nat) : Int) = P.how.length by rw [← HBL.out, ← HLN.out]; rw [beq_iff_eq] at hz; omega)] at hE
    have o9 := OM.out
    rw [hE] at o9 ⊢
    have k5 := PM.low K5.out ((Mods.refl [] W5).drewN nq)
    have k9 := PM.set (cs' := fun vl _ => pxCells 3 0 (ptr hb) P.how (.slice (some ⟨b, 0, none⟩) (P.body.length + 1) c') cv true vl) k5 0 (.int .i64 3) rfl
    have g9 := (G5.out.low ((Mods.refl [] W5).drewN nq)).trans (PM.set_grew k5 0 (.int .i64 3))
    have a9 := (A5.out.low ((Mods.refl [] W5).drewN nq)).mods (G := [g]) (show Mods [g] (W5.drewN nq) ((W5.drewN nq).setCell ⟨g, 0, none⟩ (.int .i64 3)) from (Mods.refl [g] _).setCell (.inl (by simp)) _) (fun k hk => by simpa using (K5.out.hd k hk).2.1)
    exact ⟨_, px_mk o9 (ph := 3) (st := 0) rfl HST.out k9 (.inr (.inr (.inr (.inr (.inl ⟨rfl, rfl, rfl, rfl, hb, rfl, a9⟩))))), g9⟩
  · simp only [Int.natCast_add, Int.natCast_one] at hz
    go_wp2
    refine bodyPost_ret (results_none rfl _ _ _) rfl ?_
    refine ⟨rfl, Lib.hid ?_⟩
    have hE := HE.out
    rw [if_neg (show ¬ ((P.body.length + 1 : Nat) : Int) = P.how.length by rw [← HBL.out, ← HLN.out]; rw [beq_eq_false_iff_ne] at hz; omega)] at hE
    have o9 := OM.out
    rw [hE] at o9 ⊢
    have md := (Mods.refl [] W5).drewN nq
    exact ⟨_, px_mk o9 (ph := 2) (st := 0) rfl HST.out (PM.low K5.out md) (.inr (.inr (.inl ⟨rfl, HK.out.2, rfl, rfl, rfl, rfl, hb, rfl, A5.out.low md⟩))), G5.out.low md⟩
set_option maxRecDepth 10000 in
set_option maxHeartbeats 4000000 in
theorem more_x2 {P : PrP} {g hb cb : Nat} {vl vb bv : Value} {FH FC : List Nat} {w : World} {L B : List UInt8} (o : PrOk P) (h2 : P.phase = 2) (hk : P.how.kind = 2) (c : PxM g vl vb (ptr hb) bv (ptr cb) FH FC w 2 0 L B P.how P.came) (hbv : ∃ x y z, bv = .slice x y z) (a : HdR FH w hb P.head) (q : CkR FC w cb P.ch) (x : UInt8) :
    Calls Tryz.prog 33 #[ptr g, .int .u8 (x.toNat : Int)] w fun z w' => z = .returned (.tuple #[]) ∧ Hid (FedQ (pab g vl vb FH FC) w g (moreR P x) w') := by
  have hdc : doneC P.ch = false := by
    rcases o.body h2 with ⟨b, _⟩ | ⟨_, _, b⟩
    · omega
    · exact b
  obtain ⟨xx, xy, xz, rfl⟩ := hbv
  have OM := Lib.hid (o.moreR h2 x)
  have HST := Lib.hid (o.st (by omega))
  obtain ⟨c0, c1, c2, c3, c4, c5, c6, c7, c8, c9, c10⟩ := PxM.facts c
  have f10 := c.row.free 10
  have k1 := PM.set (cs' := fun vl _ => pxCells 2 0 (ptr hb) P.how (.slice xx xy xz) (ptr cb) true vl) c 10 (.bool true) rfl
  have g1 := PM.set_grew c 10 (.bool true)
  have m1 : Mods [g] w (w.setCell ⟨g, 10, none⟩ (.bool true)) := (Mods.refl [g] w).setCell (.inl (by simp)) _
  have a1 := a.mods m1 (fun k hk => by simpa using (c.hd k hk).2.1)
  have q1 := q.mods m1 (fun k hk => by simpa using (c.ck k hk).2.1)
  obtain ⟨W1, hW1⟩ : ∃ W1, W1 = w.setCell ⟨g, 10, none⟩ (.bool true) := ⟨_, rfl⟩
  rw [← hW1] at k1 g1 m1 a1 q1
  have d4 : W1.cell? ⟨g, 4, none⟩ = some (.int .i64 P.how.kind) := k1.row.cell 4
  have d9 : W1.cell? ⟨g, 9, none⟩ = some (ptr cb) := k1.row.cell 9
  rw [hk] at d4
  have ma : Mods [] W1 (W1.alloc (.cells #[.int .u8 (x.toNat : Int)] 5)) := (Mods.refl [] W1).alloc _
  have hfx := feed_x (.slice (some ⟨W1.heap.size, 0, none⟩) 1 1) [x] (BsAt.new W1 [x] (by simp) (by simp)) (fun _ k hk hk2 => by have := q1.lt k hk2; simp [Value.ownBlock] at hk; omega) (q1.low ma) (by simp)
  have hf1 : feedP P.ch [x] = (oneP P.ch x, 1) := by rw [feed_cons hdc, feed_nil]
  rw [hf1] at hfx
  simp only at hfx
  obtain ⟨r', hr⟩ : ∃ r', r' = oneP P.ch x := ⟨_, rfl⟩
  have hE := more_chk (x := x) hk
  rw [← hr] at hfx hE
  obtain ⟨st, hst⟩ : ∃ st, st = r'.status := ⟨_, rfl⟩
  obtain ⟨bw, hbw⟩ : ∃ bw, bw = r'.whole := ⟨_, rfl⟩
  rw [← hst, ← hbw] at hfx
  have HE := Lib.hid hE
  have HSS := Lib.hid hst
  have HBW := Lib.hid hbw
  have HFX := Lib.hid hfx
  have HK := Lib.hid (And.intro h2 hk)
  have HKA := Lib.hid (PM.low k1 ma)
  have HA := Lib.hid (a1.low ma)
  have G1 := Lib.hid (g1.low ma)
  have d9a := fun o => cell_alloc d9 o
  unfold ptr at HFX d9 d9a ⊢
  have hcase : (st != 0) = true ∨ ((st != 0) = false ∧ bw = true) ∨ ((st != 0) = false ∧ bw = false) := by
    cases bw <;> cases (st != 0) <;> simp
  clear o h2 hk c a q hdc c0 c1 c2 c3 c4 c5 c6 c7 c8 c9 k1 g1 m1 a1 q1 ma hfx hf1 hr hE hst hbw
  rcases hcase with h0 | ⟨h0, rfl⟩ | ⟨h0, rfl⟩
  all_goals
    go_enter Tryz.func33, Tryz.ntmps33
    go_upto_region 1 with fail
    rw [← hW1]
    clear hW1 c10 f10
    go_upto_region 6 with (go_at_call 45; refine HFX.out.mono ?_; rintro z w2 ⟨rfl, hk⟩; have HK2 := Lib.hid hk.out; clear hk)
    obtain ⟨FC', q2, y2⟩ := HK2.out
    obtain ⟨k2, y3⟩ := PM.newK HKA.out y2 q2.lt
    have a2 := HA.out.mods y2.mods (fun k hk h => (HKA.out.hd k hk).2.2.2.2 h)
    obtain ⟨vl', vb', vt', L', s', l', e', hx, hFC, -⟩ := q2.ex
    have e9 : w2.cell? ⟨g, 9, none⟩ = some (ptr cb) := k2.row.cell 9
    have e8 : w2.cell? ⟨g, 8, none⟩ = some (.slice xx xy xz) := k2.row.cell 8
    have q8 := k2.row.free 8
    have b0 : w2.cell? ⟨cb, 0, none⟩ = some vb' := (CkX.facts hx).1
    have hcg : ¬ cb = g := (k2.ck cb (by rw [hFC]; simp)).2.1
    have hgc : ¬ g = cb := fun e => hcg e.symm
    obtain ⟨ua, uc, rfl, -, -⟩ := hx.body.form
    have k3 := PM.set (cs' := fun vl _ => pxCells 2 0 (ptr hb) P.how (.slice ua r'.body.length uc) (ptr cb) true vl) k2 8 (.slice ua r'.body.length uc) rfl
    have g3 := PM.set_grew k2 8 (.slice ua r'.body.length uc)
    have m3 : Mods [g] w2 (w2.setCell ⟨g, 8, none⟩ (.slice ua r'.body.length uc)) := (Mods.refl [g] w2).setCell (.inl (by simp)) _
    have a3 := a2.mods m3 (fun k hk => by simpa using (k2.hd k hk).2.1)
    have q3 := q2.mods m3 (fun k hk => by simpa using (k2.ck k hk).2.1)
    have b3 := hx.body.mods m3 (fun k hk => by simpa using (k2.ck k (by rw [hFC]; simp [hk])).2.1)
    have hbF : ∀ k ∈ (Value.slice ua r'.body.length uc).ownBlock.toList, k ∈ FC' := fun k hk => by rw [hFC]; simp only [List.mem_cons, List.mem_append]; exact .inr (.inr (.inl hk))
    obtain ⟨W3, hW3⟩ : ∃ W3, W3 = w2.setCell ⟨g, 8, none⟩ (.slice ua r'.body.length uc) := ⟨_, rfl⟩
    rw [← hW3] at k3 g3 a3 q3 b3
    have d0 : W3.cell? ⟨g, 0, none⟩ = some (.int .i64 2) := k3.row.cell 0
    have f0 := k3.row.free 0
    have K3 := Lib.hid k3
    have G3 := Lib.hid ((G1.out.trans y3).trans g3)
    have A3 := Lib.hid a3
    have Q3 := Lib.hid q3
    have B3 := Lib.hid (And.intro b3 hbF)
    clear k2 y3 a2 hx hFC k3 g3 m3 a3 q3 b3 hbF q2 y2 d9a d9 d4
    unfold ptr at e9
    go_upto_region 7 with fail
    rw [← hW3]
    clear hW3 e9 e8 q8 b0 hcg hgc
  · have HRF := Lib.hid (bad_x K3.out st)
    unfold ptr at HRF
    go_wp2_with (go_at_call 34; refine HRF.out.mono ?_; rintro z w5 ⟨rfl, hk⟩; have HK5 := Lib.hid hk; clear hk)
    go_end0
    have hE := HE.out
    rw [if_pos (show r'.status ≠ 0 by rw [← HSS.out]; simpa using h0)] at hE
    have o9 := OM.out
    rw [hE] at o9 ⊢
    exact ⟨rfl, Lib.hid (FedQ.trans G3.out (px_refused K3.out o9 (by rw [← HSS.out]; exact HK5.out)))⟩
  · go_wp2
    go_end0
    have hE := HE.out
    rw [if_neg (show ¬ r'.status ≠ 0 by rw [← HSS.out]; simpa using h0), if_pos HBW.out.symm] at hE
    have o9 := OM.out
    rw [hE] at o9 ⊢
    refine ⟨rfl, Lib.hid ?_⟩
    have k9 := PM.set (cs' := fun vl _ => pxCells 3 0 (ptr hb) P.how (.slice ua r'.body.length uc) (ptr cb) true vl) K3.out 0 (.int .i64 3) rfl
    have m9 : Mods [g] W3 (W3.setCell ⟨g, 0, none⟩ (.int .i64 3)) := (Mods.refl [g] W3).setCell (.inl (by simp)) _
    have a9 := A3.out.mods m9 (fun k hk => by simpa using (K3.out.hd k hk).2.1)
    have b9 : BRow (W3.setCell ⟨g, 0, none⟩ (.int .i64 3)) (.slice ua r'.body.length uc) r'.body := B3.out.1.mods m9 (fun k hk => by simpa using (K3.out.ck k (B3.out.2 k hk)).2.1)
    have c9 : PxM g vl (.slice ua r'.body.length uc) (ptr hb) (.slice ua r'.body.length uc) (ptr cb) FH [] (W3.setCell ⟨g, 0, none⟩ (.int .i64 3)) 3 0 L r'.body P.how true :=
      ⟨k9.row, k9.line, b9, fun k hk hk2 => (K3.out.ck k (B3.out.2 k hk2)).2.2.1 hk, fun k hk => ⟨(k9.hd k hk).1, (k9.hd k hk).2.1, (k9.hd k hk).2.2.1, fun hk2 => (K3.out.hd k hk).2.2.2.2 (B3.out.2 k hk2), fun h => (nomatch h)⟩, fun k hk => (nomatch hk), k9.ty⟩
    refine ⟨_, px_mk o9 (ph := 3) (st := 0) rfl HST.out c9 (.inr (.inr (.inr (.inr (.inl ⟨rfl, rfl, rfl, rfl, hb, rfl, a9⟩))))), (G3.out.trans (PM.set_grew K3.out 0 (.int .i64 3))).less (fun k hk => ?_)⟩
    simp only [List.mem_cons, List.mem_append, List.not_mem_nil, or_false] at hk ⊢
    rcases hk with hk | hk | hk | hk
    · exact .inl hk
    · exact .inr (.inl hk)
    · exact .inr (.inr (.inr (.inr (B3.out.2 k hk))))
    · exact .inr (.inr (.inr (.inl hk)))
  · go_wp2
    go_end0
    have hE := HE.out
    rw [if_neg (show ¬ r'.status ≠ 0 by rw [← HSS.out]; simpa using h0), if_neg (show ¬ r'.whole = true by rw [← HBW.out]; simp)] at hE
    have o9 := OM.out
    rw [hE] at o9 ⊢
    exact ⟨rfl, Lib.hid ⟨_, px_mk o9 (ph := 2) (st := 0) rfl HST.out K3.out (.inr (.inr (.inr (.inl ⟨rfl, HK.out.2, rfl, rfl, ⟨cb, rfl, Q3.out⟩, hb, rfl, A3.out⟩)))), G3.out⟩⟩
end Go.Proofs.YtgkhelbpccehcaaGreatDoor

/- The document's parser: Take. Conditions: none. -/
namespace Go.Proofs.YtgkhelbpccehcaaGreatDoor
open Go.RowKit
set_option linter.unusedVariables false
set_option linter.unusedSimpArgs false

theorem row_at {w : World} {b : Nat} {t : TypeId} (h : b = w.heap.size) : Row (w.alloc (.cells #[] t)) b t #[] := by subst h; exact Row.new _ _ _
theorem row_drew {w : World} {b : Nat} {t : TypeId} {cs : Array Value} (h : Row w b t cs) : Row w.drew b t cs := h.mods ((Mods.refl [] w).drew) (by simp)
/-- append of a row that lies somewhere onto an empty literal: what it leaves. -/
theorem copy_row {W w : World} {b : Nat} {st t : TypeId} {z : Value} {size bytes : Nat} (hu : Tryz.prog.underlying st = some (.slice t))
    (hinfo : (Tryz.prog.info? t).map (fun i => (i.zero, i.size, i.bytes)) = some (some z, size, bytes)) (hz : z.cells.size = size) (h0 : 0 < size) (hby : bytes ≤ 1000)
    (hrow : Row w b t #[]) (hWb : W.heap.size ≤ b) (hWw : W.heap.size ≤ w.heap.size) {A : Option Addr} {n C : Nat} (hn : n ≤ 1000000) (news : List Value) (hl : news.length = n * size) (h1 : ∀ u ∈ news, u.oneCell' = true)
    (hsrc : n = 0 ∨ ∃ ad, A = some ad ∧ ∀ (j : Nat) u, news[j]? = some u → w.cell? (ad.add j) = some u) :
    ∃ (A' : Option Addr) (C' : Nat) (w' : World), (Builtin.append_ #[st, st] st #[.slice (some ⟨b, 0, none⟩) 0 0, .slice A n C]).run Tryz.prog w = .ok (.slice A' n C') w' ∧ w'.ownsRow W.heap.size t size (.slice A' n C') n news ∧ Mods [b] w w' ∧
      ∀ k ∈ (Value.slice A' n C').ownBlock.toList, W.heap.size ≤ k ∧ (k = b ∨ k = w.heap.size) ∧ k < w'.heap.size := by
  obtain ⟨i0, hi, hz0, hz1, hz2⟩ := info_parts hinfo
  have hown : w.ownsRow W.heap.size t size (.slice (some ⟨b, 0, none⟩) 0 0) 0 [] := ⟨by simp, .inr ⟨b, 0, #[], rfl, hWb, hrow, Nat.le_refl _, by unfold maxLen; omega, by simp, by simp⟩⟩
  have hblt := hrow.lt
  rcases hsrc with rfl | ⟨ad, rfl, hsrc⟩
  · have : news = [] := List.eq_nil_of_length_eq_zero (by omega)
    subst this
    refine ⟨some ⟨b, 0, none⟩, 0, w, ?_, hown, Mods.refl _ _, fun k hk => ?_⟩
    · cases A <;> simp [Builtin.append_, run_underlying hu, sizeOf, typeInfo, hi, Builtin.lenOf, Builtin.firstCells, loadCells, loadCellsFrom, storeCells]
    · have : k = b := by simpa [Value.ownBlock, eq_comm] using hk
      subst this
      exact ⟨hWb, .inl rfl, hblt⟩
  · obtain ⟨v', w5, hrun, hown', hgrow, -, hbl⟩ := run_append_own_at (P := Tryz.prog) (w := w) W.heap.size st st t i0 z size bytes hu hi hz0 hz1 hz2 hz h0
      (.slice (some ⟨b, 0, none⟩) 0 0) 0 [] hown ad n C news hl hsrc h1 (by unfold maxLen; omega) (by rw [Nat.zero_add]; have := Nat.mul_le_mul hn hby; omega) (by omega)
    rw [Nat.zero_add, List.nil_append] at hown'
    obtain ⟨a', c', rfl⟩ : ∃ a c, v' = .slice a n c := by
      rcases hown'.2 with ⟨hv, h0⟩ | ⟨g, cap, cur, rfl, _⟩
      · exact ⟨none, 0, by rw [hv, h0]⟩
      · exact ⟨_, _, rfl⟩
    refine ⟨a', c', w5, hrun, hown', (Mods.refl [b] w).grown hgrow (fun k e => .inl ?_), fun k hk => ⟨(hown'.lt k (by simpa using hk)).1, ?_, (hown'.lt k (by simpa using hk)).2⟩⟩
    · have : k = b := by simpa [Value.ownBlock, eq_comm] using e
      rw [this]; simp
    · rcases hbl with e | e
      · rw [e] at hk; exact .inl (by simpa [Value.ownBlock, eq_comm] using hk)
      · rw [e] at hk; exact .inr (by simpa [eq_comm] using hk)
theorem src_bytes {w : World} {A : Option Addr} {n C : Nat} {l : List UInt8} (hn : n = l.length) (h : BsAt w (.slice A n C) l) : n = 0 ∨ ∃ ad, A = some ad ∧ ∀ (j : Nat) u, (bys l)[j]? = some u → w.cell? (ad.add j) = some u := by
  subst hn
  rcases h with ⟨rfl, _⟩ | ⟨b, off, cap, hv, h0, hlt, h1, h2, hc⟩
  · exact .inl rfl
  · injection hv with e1 e2 e3
    refine .inr ⟨_, e1, fun j u hj => ?_⟩
    have hj2 : j < l.length := by have := (List.getElem?_eq_some_iff.1 hj).1; rw [bys_len] at this; exact this
    rw [bys_at l j hj2] at hj
    rw [add_noneF, hc j hj2]; exact hj
theorem src_fields {w : World} {A : Option Addr} {n C : Nat} {l : List FV} (hn : n = l.length) (h : FsAt w (.slice A n C) l) : n = 0 ∨ ∃ ad, A = some ad ∧ ∀ (j : Nat) u, (encF l)[j]? = some u → w.cell? (ad.add j) = some u := by
  subst hn
  rcases h with ⟨rfl, _⟩ | ⟨b, off, cap, hv, h0, hb, hc⟩
  · exact .inl rfl
  · injection hv with e1 e2 e3
    refine .inr ⟨_, e1, fun j u hj => ?_⟩
    rw [add_noneF]
    have hjl : j < l.length * 2 := by rw [← encF_len]; exact (List.getElem?_eq_some_iff.1 hj).1
    obtain ⟨q, hq⟩ : ∃ q, j = q * 2 ∨ j = q * 2 + 1 := ⟨j / 2, by omega⟩
    have hh : q < l.length := by omega
    have e := encF_at l q hh
    have hcc := hc q hh
    rcases hq with rfl | rfl
    · rw [e.1] at hj
      rw [← hj]
      exact hcc.1
    · rw [e.2] at hj
      rw [← hj, ← Nat.add_assoc]
      exact hcc.2
theorem step_copyF {W w : World} {ops : Array Oper} {o : Oper} {a : Act} {K : Act → World → Prop} {Q : Exit → Act → World → Prop} {E : Prop} (hgd : o.guard = none) {s x : Operand}
    (ho : o.op = .call { callee := .builtin .append, args := #[s, x], argTypes := #[38, 38] }) (hty : o.type = 38) {b n C : Nat} {A : Option Addr}
    (hs : a.eval s = .slice (some ⟨b, 0, none⟩) 0 0) (hx : a.eval x = .slice A n C) (hrow : Row w b 81 #[]) (hWb : W.heap.size ≤ b) (hm : Mods [] W w) {S : List FV} (hn : n = S.length) (hF : FsAt W (.slice A n C) S) (hl : n ≤ 1000000)
    (hK : ∀ A' C' w', FsAt w' (.slice A' n C') S → (∀ k ∈ (Value.slice A' n C').ownBlock.toList, W.heap.size ≤ k ∧ (k = b ∨ k = w.heap.size) ∧ k < w'.heap.size) → Mods [b] w w' → Mods [] W w' → K (a.put o.dst (.slice A' n C')) w') :
    if Region.wanted o (yielded ops a.tmps) = true then Oper.wp Tryz.prog o a w K Q else E := by
  obtain ⟨A', C', w', hr, h1, h2, h3⟩ := copy_row (W := W) (w := w) (st := 38) Tryz.underlying38 infoFl rfl (by decide) (by decide) hrow hWb hm.size (A := A) (C := C) hl (encF S) (by rw [hn]; exact encF_len S) (encF_one S) (src_fields hn (hF.low hm))
  have hr2 : (Builtin.append_ #[38, 38] o.type #[.slice (some ⟨b, 0, none⟩) 0 0, .slice A n C]).run Tryz.prog w = .ok (.slice A' n C') w' := by rw [hty]; exact hr
  refine step_run_appB hgd ho hs hx hr2 (hK A' C' w' ?_ h3 h2 (hm.trans h2 (fun k hk => .inr (by rw [List.mem_singleton] at hk; omega))))
  subst hn
  exact FsAt.of_row h1
theorem step_copyB {W w : World} {ops : Array Oper} {o : Oper} {a : Act} {K : Act → World → Prop} {Q : Exit → Act → World → Prop} {E : Prop} (hgd : o.guard = none) {s x : Operand}
    (ho : o.op = .call { callee := .builtin .append, args := #[s, x], argTypes := #[22, 22] }) (hty : o.type = 22) {b n C : Nat} {A : Option Addr}
    (hs : a.eval s = .slice (some ⟨b, 0, none⟩) 0 0) (hx : a.eval x = .slice A n C) (hrow : Row w b 5 #[]) (hWb : W.heap.size ≤ b) (hm : Mods [] W w) {S : List UInt8} (hn : n = S.length) (hF : BsAt W (.slice A n C) S) (hl : n ≤ 1000000)
    (hK : ∀ A' C' w', BsAt w' (.slice A' n C') S → (∀ k ∈ (Value.slice A' n C').ownBlock.toList, W.heap.size ≤ k ∧ (k = b ∨ k = w.heap.size) ∧ k < w'.heap.size) → Mods [b] w w' → Mods [] W w' → K (a.put o.dst (.slice A' n C')) w') :
    if Region.wanted o (yielded ops a.tmps) = true then Oper.wp Tryz.prog o a w K Q else E := by
  obtain ⟨A', C', w', hr, h1, h2, h3⟩ := copy_row (W := W) (w := w) (st := 22) Tryz.underlying22 infoU8 rfl (by decide) (by decide) hrow hWb hm.size (A := A) (C := C) hl (bys S) (by rw [hn, bys_len, Nat.mul_one]) (bys_one S) (src_bytes hn (hF.low hm))
  have hr2 : (Builtin.append_ #[22, 22] o.type #[.slice (some ⟨b, 0, none⟩) 0 0, .slice A n C]).run Tryz.prog w = .ok (.slice A' n C') w' := by rw [hty]; exact hr
  refine step_run_appB hgd ho hs hx hr2 (hK A' C' w' ?_ h3 h2 (hm.trans h2 (fun k hk => .inr (by rw [List.mem_singleton] at hk; omega))))
  subst hn
  exact BsAt.of_row h1
/-- What Take leaves: the request, the parser. -/
def TookQ (F : List Nat) (w : World) (g : Nat) (P : PrP) (vf vb : Value) (w' : World) : Prop :=
  FsAt w' vf (takeR P).2.1.fields ∧ BsAt w' vb (takeR P).2.1.body ∧ (∃ F', PaR F' w' g (takeR P).1 ∧ Grew F F' w w' ∧ ∀ k, k ∈ vf.ownBlock.toList ∨ k ∈ vb.ownBlock.toList → (k ∈ F ∨ w.heap.size ≤ k) ∧ k ∉ F' ∧ k < w'.heap.size)
theorem taken_xno {F : List Nat} {w w' : World} {g : Nat} {P : PrP} (a : PaR F w g P) (h : P.phase ≠ 3) (hm : Mods [] w w') : TookQ F w g P (.slice none 0 0) (.slice none 0 0) w' := by
  have e : takeR P = (P, noRq, 4) := by unfold takeR; rw [if_neg h]
  unfold TookQ
  rw [e]
  exact ⟨.inl ⟨rfl, _, _, rfl⟩, .inl ⟨rfl, _, _, rfl⟩, F, a.low hm, Grew.of_low hm, fun k hk => by simp [Value.ownBlock] at hk⟩
set_option maxRecDepth 10000 in
set_option maxHeartbeats 20000000 in
theorem takerq_x {F : List Nat} {w : World} {g : Nat} {P : PrP} (a : PaR F w g P) :
    Calls Tryz.prog 15 #[ptr g] w fun z w' => ∃ vf vb, z = .returned (.tuple #[reqV (takeR P).2.1 vf vb, .int .i64 (takeR P).2.2]) ∧ Hid (TookQ F w g P vf vb w') := by
  have HA := Lib.hid a
  obtain ⟨vl, vb, hv, bv, cv, FH, FC, L, B, h, cm, c, rfl, r, hbv⟩ := a.ex
  have o := a.ok
  have c0 : w.cell? ⟨g, 0, none⟩ = some (.int .i64 (P.phase : Nat)) := c.row.cell 0
  have m0 : Mods [] w (w.alloc (.cells zReq 40)) := (Mods.refl [] w).alloc _
  have r0 := Row.new w 40 zReq
  unfold ptr
  by_cases h3 : P.phase = 3
  · have hr : B = P.body ∧ bv = vb ∧ h = P.how ∧ ∃ hb, hv = ptr hb ∧ HdR FH w hb P.head := by
      rcases r with p | ⟨p, -⟩ | ⟨p, -⟩ | ⟨p, -⟩ | ⟨-, q⟩ | p
      · omega
      · omega
      · omega
      · omega
      · exact q
      · omega
    obtain ⟨rfl, rfl, rfl, hb, rfl, ha⟩ := hr
    have HTK := Lib.hid (show takeR P = ({ P with phase := 0 }, rqOf P, 0) by unfold takeR; rw [if_pos h3])
    have HTO := Lib.hid o.take
    have hst := o.st (by omega)
    have HST := Lib.hid hst
    have hlen := a.ok.head.len
    have hbl := a.ok.blen h3
    obtain ⟨v1, z1, e1, hx, hFH, -⟩ := ha.ex
    obtain ⟨ob, oc, rfl, -, -⟩ := c.body.form
    obtain ⟨fa, fc, rfl⟩ := (FldE.fs hx).len
    have hhb : hb ≠ g := (c.hd hb (by rw [hFH]; simp)).2.1
    have hff : ∀ k ∈ (Value.slice fa P.head.S.length fc).ownBlock.toList, k ≠ g := fun k hk => (c.hd k (by rw [hFH]; simp [hk])).2.1
    have k0 := PM.low c m0
    rw [h3, hst] at k0
    have d0 : (w.alloc (.cells zReq 40)).cell? ⟨g, 0, none⟩ = some (.int .i64 3) := k0.row.cell 0
    have d2 : (w.alloc (.cells zReq 40)).cell? ⟨g, 2, none⟩ = some (ptr hb) := k0.row.cell 2
    have f0 := k0.row.free 0
    have k1 := PM.set (cs' := fun vl _ => pxCells 0 0 (ptr hb) P.how (.slice ob P.body.length oc) cv cm vl) k0 0 (.int .i64 0) rfl
    obtain ⟨rb, hrb⟩ : ∃ rb, rb = w.heap.size := ⟨_, rfl⟩
    have hgl := c.row.lt
    have hbg : rb ≠ g := by omega
    have hhl := ha.lt hb (by rw [hFH]; simp)
    have y1 : ¬ rb = g := by omega
    have y2 : ¬ g = rb := by omega
    have y3 : ¬ rb = hb := by omega
    have y4 : ¬ hb = rb := by omega
    obtain ⟨W0, hW0⟩ : ∃ W0, W0 = w.alloc (.cells zReq 40) := ⟨_, rfl⟩
    rw [← hrb, ← hW0] at r0
    rw [← hW0] at m0 d0 d2 f0 k1
    have m1 : Mods [g] W0 (W0.setCell ⟨g, 0, none⟩ (.int .i64 0)) := (Mods.refl [g] W0).setCell (.inl (by simp)) _
    have mw : Mods [g] w (W0.setCell ⟨g, 0, none⟩ (.int .i64 0)) := (m0.more (fun _ h => nomatch h)).trans m1 (fun k hk => .inl hk)
    obtain ⟨W, hW⟩ : ∃ W, W = W0.setCell ⟨g, 0, none⟩ (.int .i64 0) := ⟨_, rfl⟩
    rw [← hW] at k1 m1 mw
    have hx1 : HdX hb (.slice fa P.head.S.length fc) W P.head z1 e1 := FldE.mods hx mw (by simpa using hhb) (fun k hk => by simpa using hff k hk)
    obtain ⟨eh0, eh1, eh2, eh3, eh4, eh5, eh6, -⟩ := hx1.facts
    have eg8 : W.cell? ⟨g, 8, none⟩ = some (.slice ob P.body.length oc) := k1.row.cell 8
    have eg6 : W.cell? ⟨g, 6, none⟩ = some (.bool P.how.close) := k1.row.cell 6
    have eg7 : W.cell? ⟨g, 7, none⟩ = some (.bool P.how.expect) := k1.row.cell 7
    have rw1 := r0.mods m1 (by simpa using hbg)
    have hfs := FldE.fs hx1
    have hbs := k1.body.at
    obtain ⟨ns, hns⟩ : ∃ n, n = P.head.S.length := ⟨_, rfl⟩
    obtain ⟨nb, hnb⟩ : ∃ n, n = P.body.length := ⟨_, rfl⟩
    rw [← hns] at eh0 hfs hlen
    rw [← hnb] at eg8 hbs hbl
    have HNS := Lib.hid hns
    have HNB := Lib.hid hnb
    have HFS := Lib.hid hfs
    have HBS := Lib.hid hbs
    have RW := Lib.hid rw1
    have K1 := Lib.hid k1
    have MW := Lib.hid mw
    have HRB := Lib.hid hrb
    obtain ⟨xm, hxm⟩ : ∃ x, x = P.head.meth := ⟨_, rfl⟩
    obtain ⟨xf, hxf⟩ : ∃ x, x = P.head.tgt.form := ⟨_, rfl⟩
    obtain ⟨xh, hxh⟩ : ∃ x, x = P.head.tgt.host := ⟨_, rfl⟩
    obtain ⟨xp, hxp⟩ : ∃ x, x = P.head.tgt.path := ⟨_, rfl⟩
    obtain ⟨xq, hxq⟩ : ∃ x, x = P.head.tgt.query := ⟨_, rfl⟩
    obtain ⟨xn, hxn⟩ : ∃ x, x = P.head.minor := ⟨_, rfl⟩
    obtain ⟨ycl, hyc⟩ : ∃ x, x = P.how.close := ⟨_, rfl⟩
    obtain ⟨yxp, hyx⟩ : ∃ x, x = P.how.expect := ⟨_, rfl⟩
    rw [← hxm] at eh1
    rw [← hxf] at eh2
    rw [← hxh] at eh3
    rw [← hxp] at eh4
    rw [← hxq] at eh5
    rw [← hxn] at eh6
    rw [← hyc] at eg6
    rw [← hyx] at eg7
    have HXS := Lib.hid (And.intro hxm (And.intro hxf (And.intro hxh (And.intro hxp (And.intro hxq (And.intro hxn (And.intro hyc hyx)))))))
    unfold ptr at d2
    clear a r o c c0 r0 m0 k0 k1 m1 mw hx hx1 hFH ha h3 hst hns hnb hfs hbs rw1 hxm hxf hxh hxp hxq hxn hyc hyx hff hhb hrb hgl hbg hbv hhl
    go_enter Tryz.func15, Tryz.ntmps15
    go_upto_region 1 with fail
    change Code.wp _ _ _ _ (w.alloc (.cells zReq 40))
    rw [← hW0, ← HRB.out]
    clear hW0
    go_upto_region 5 with fail
    rw [← hW]
    clear hW d0 d2 f0
    go_region_held3 (fun w' => w'.cell? ⟨hb, 0, none⟩ = some (.slice fa ns fc) ∧ w'.cell? ⟨hb, 1, none⟩ = some (.string xm) ∧ w'.cell? ⟨hb, 2, none⟩ = some (.int .i64 xf) ∧ w'.cell? ⟨hb, 3, none⟩ = some (.string xh) ∧ w'.cell? ⟨hb, 4, none⟩ = some (.string xp) ∧ w'.cell? ⟨hb, 5, none⟩ = some (.string xq) ∧ w'.cell? ⟨hb, 6, none⟩ = some (.int .i64 xn) ∧ w'.cell? ⟨g, 8, none⟩ = some (.slice ob nb oc) ∧ w'.cell? ⟨g, 6, none⟩ = some (.bool ycl) ∧ w'.cell? ⟨g, 7, none⟩ = some (.bool yxp)) (go_keep) (first
      | (refine step_copyF (W := W) rfl rfl rfl rfl rfl (by first | exact row_at (by simp) | exact Row.alloc (row_at (by simp)) _) (by first | exact Nat.le_refl _ | exact Nat.le_succ _ | exact M1.out.size | (have q := M1.out.size; simp at *; omega) | (simp; done) | (simp; omega)) (by first | exact M1.out | exact M1.out.alloc _ | exact ((Mods.refl [] W).drew).alloc _ | exact (((Mods.refl [] W).drew).alloc _).alloc _ | exact ((Mods.refl [] W).alloc _).drew | exact (((Mods.refl [] W).alloc _).alloc _).drew) HNS.out HFS.out (by omega) ?_; intro A1 C1 w1 hf hk hm hM; have FF1 := Lib.hid (And.intro hf hk); have MF1 := Lib.hid hm; have M1 := Lib.hid hM; have eh0K1 := cell_mods eh0 hM (by simp); have eh1K1 := cell_mods eh1 hM (by simp); have eh2K1 := cell_mods eh2 hM (by simp); have eh3K1 := cell_mods eh3 hM (by simp); have eh4K1 := cell_mods eh4 hM (by simp); have eh5K1 := cell_mods eh5 hM (by simp); have eh6K1 := cell_mods eh6 hM (by simp); have eg8K1 := cell_mods eg8 hM (by simp); have eg6K1 := cell_mods eg6 hM (by simp); have eg7K1 := cell_mods eg7 hM (by simp); clear hf hk hm hM)
      | (have hxx := FF1; clear hxx; refine step_copyB (W := W) rfl rfl rfl rfl rfl (by first | exact row_at (by simp) | exact Row.mods (row_drew (row_at (by simp))) MF1.out (by simp) | exact Row.mods (row_drew (Row.alloc (row_at (by simp)) _)) MF1.out (by simp)) (by first | exact Nat.le_refl _ | exact Nat.le_succ _ | exact M1.out.size | (have q := M1.out.size; simp at *; omega) | (simp; done) | (simp; omega)) (by first | exact M1.out | exact M1.out.alloc _ | exact ((Mods.refl [] W).drew).alloc _ | exact (((Mods.refl [] W).drew).alloc _).alloc _ | exact ((Mods.refl [] W).alloc _).drew | exact (((Mods.refl [] W).alloc _).alloc _).drew) HNB.out HBS.out (by omega) ?_; intro A2 C2 w2 hf hk hm hM; have LL2 := Lib.hid (And.intro hf hk); have MF2 := Lib.hid hm; have M2 := Lib.hid hM; have FF2 := Lib.hid (FF1.out.1.mods (show Mods _ w1 w2 from (by first | exact hm | exact ((Mods.refl _ w1).alloc _).trans hm (fun k hk => .inl hk))) (fun k hk e => by have q := FF1.out.2 k hk; rw [List.mem_singleton] at e; simp at q; omega)); have R2 := Lib.hid (show Row w2 rb 40 #[.string noB, .int .i64 0, .string noB, .string noB, .string noB, .int .i64 0, .slice none 0 0, .slice none 0 0, .bool false, .bool false] from RW.out.mods hM (by simp)); obtain ⟨t0, t1, t2, t3, t4, t5, t6, t7, t8, t9⟩ := R2.out.ten; obtain ⟨f0, f1, f2, f3, f4, f5, f6, f7, f8, f9⟩ := R2.out.tenF; have eh0K2 := cell_mods eh0 hM (by simp); have eh1K2 := cell_mods eh1 hM (by simp); have eh2K2 := cell_mods eh2 hM (by simp); have eh3K2 := cell_mods eh3 hM (by simp); have eh4K2 := cell_mods eh4 hM (by simp); have eh5K2 := cell_mods eh5 hM (by simp); have eh6K2 := cell_mods eh6 hM (by simp); have eg8K2 := cell_mods eg8 hM (by simp); have eg6K2 := cell_mods eg6 hM (by simp); have eg7K2 := cell_mods eg7 hM (by simp); clear hf hk hm hM))
    all_goals
      go_wp2
      have r10 := Row.setQ R2.out (.string xm) (.int .i64 xf) (.string xh) (.string xp) (.string xq) (.int .i64 xn) (.slice A1 ns C1) (.slice A2 nb C2) (.bool ycl) (.bool yxp)
      have mr : Mods [rb] w2 (setQ w2 rb (.string xm) (.int .i64 xf) (.string xh) (.string xp) (.string xq) (.int .i64 xn) (.slice A1 ns C1) (.slice A2 nb C2) (.bool ycl) (.bool yxp)) := Mods.setQ (Mods.refl [rb] w2) (.inl (by simp))
      change bodyPost _ _ _ _ _ (setQ w2 rb (.string xm) (.int .i64 xf) (.string xh) (.string xp) (.string xq) (.int .i64 xn) (.slice A1 ns C1) (.slice A2 nb C2) (.bool ycl) (.bool yxp))
      generalize setQ w2 rb (.string xm) (.int .i64 xf) (.string xh) (.string xp) (.string xq) (.int .i64 xn) (.slice A1 ns C1) (.slice A2 nb C2) (.bool ycl) (.bool yxp) = W8 at r10 mr ⊢
      refine end_R rfl r10 rfl rfl rfl ?_
      obtain ⟨x1, x2, x3, x4, x5, x6, x7, x8⟩ := HXS.out
      refine ⟨.slice A1 ns C1, .slice A2 nb C2, ?_, Lib.hid ?_⟩
      · rw [HTK.out, x1, x2, x3, x4, x5, x6, x7, x8]; rfl
      · have hto : PrOk { P with phase := 0 } := by have h9 := HTO.out; rw [HTK.out] at h9; exact h9
        unfold TookQ
        rw [HTK.out]
        have hwr := HRB.out
        have hrw := RW.out.lt
        have ew := MW.out.size
        have e2 := MF2.out.size
        have e3 := mr.size
        have h12 : w1.heap.size ≤ w2.heap.size := by first | exact e2 | (simp at e2; omega)
        have hmw := (MW.out.trans M2.out (fun _ h => nomatch h)).trans mr (fun k hk => by rw [List.mem_singleton] at hk; exact .inr (by omega))
        have hmw2 := hmw.more (F2 := pab g vl (.slice ob P.body.length oc) FH FC) (fun k hk => .inl (by rw [List.mem_singleton] at hk; rw [hk]; simp))
        have k10 := PM.mods (PM.low K1.out M2.out) mr (fun k hk => by have h9 := HA.out.lt k hk; simp; omega)
        refine ⟨FF2.out.mods mr (fun k hk => by have h9 := FF1.out.2 k hk; simp only [List.mem_singleton]; omega), LL2.out.1.mods mr (fun k hk => by have h9 := LL2.out.2 k hk; simp only [List.mem_singleton]; omega), _, px_mk hto (ph := 0) (st := 0) rfl HST.out k10 (.inl rfl), ⟨hmw2, fun k hk => .inl hk⟩, ?_⟩
        rintro k (hk | hk)
        · have h9 := FF1.out.2 k hk
          exact ⟨.inr (by omega), fun h => by have h8 := HA.out.lt k h; omega, by omega⟩
        · have h9 := LL2.out.2 k hk
          exact ⟨.inr (by omega), fun h => by have h8 := HA.out.lt k h; omega, by omega⟩
  · have HE := Lib.hid (show takeR P = (P, noRq, 4) by unfold takeR; rw [if_neg h3])
    have hne : ((P.phase : Int) != 3) = true := by rw [bne_iff_ne]; omega
    have H3 := Lib.hid h3
    obtain ⟨rb, hrb⟩ : ∃ rb, rb = w.heap.size := ⟨_, rfl⟩
    obtain ⟨W0, hW0⟩ : ∃ W0, W0 = w.alloc (.cells zReq 40) := ⟨_, rfl⟩
    have d0 : W0.cell? ⟨g, 0, none⟩ = some (.int .i64 (P.phase : Nat)) := by rw [hW0]; exact cell_alloc c0 _
    rw [← hrb, ← hW0] at r0
    rw [← hW0] at m0
    have HRB := Lib.hid hrb
    have M0 := Lib.hid m0
    have R0 := Lib.hid r0
    clear a r o c c0 r0 m0 h3 hrb hbv
    generalize P.phase = ph at d0 hne
    go_enter Tryz.func15, Tryz.ntmps15
    go_upto_region 1 with fail
    change Code.wp _ _ _ _ (w.alloc (.cells zReq 40))
    rw [← hW0, ← HRB.out]
    clear hW0
    obtain ⟨t0, t1, t2, t3, t4, t5, t6, t7, t8, t9⟩ := Row.ten (show Row W0 rb 40 #[.string noB, .int .i64 0, .string noB, .string noB, .string noB, .int .i64 0, .slice none 0 0, .slice none 0 0, .bool false, .bool false] from R0.out)
    obtain ⟨f0, f1, f2, f3, f4, f5, f6, f7, f8, f9⟩ := R0.out.tenF
    go_wp2
    have hR := Row.setQ (show Row W0 rb 40 #[.string noB, .int .i64 0, .string noB, .string noB, .string noB, .int .i64 0, .slice none 0 0, .slice none 0 0, .bool false, .bool false] from R0.out) (.string noB) (.int .i64 0) (.string noB) (.string noB) (.string noB) (.int .i64 0) (.slice none 0 0) (.slice none 0 0) (.bool false) (.bool false)
    have hM : Mods [] w _ := Mods.setQ M0.out (.inr (by rw [HRB.out]; exact Nat.le_refl _)) (x0 := .string noB) (x1 := .int .i64 0) (x2 := .string noB) (x3 := .string noB) (x4 := .string noB) (x5 := .int .i64 0) (x6 := .slice none 0 0) (x7 := .slice none 0 0) (x8 := .bool false) (x9 := .bool false) (r := rb)
    refine end_R rfl hR rfl rfl rfl ?_
    exact ⟨_, _, by rw [HE.out]; rfl, Lib.hid (taken_xno HA.out H3.out hM)⟩
end Go.Proofs.YtgkhelbpccehcaaGreatDoor
