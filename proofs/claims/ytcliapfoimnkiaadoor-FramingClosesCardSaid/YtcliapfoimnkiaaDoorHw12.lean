/- The end of a function that answers how a request goes on. Conditions: none. -/
import Derived.Test.YtcliapfoimnkiaaDoorFm12
import Derived.Test.YtcliapfoimnkiaaDoorMem
import Derived.OwnWalk
namespace Go.Proofs.YtcliapfoimnkiaaDoor
open Go.RowKit
set_option linter.unusedVariables false
set_option linter.unusedSimpArgs false

def HowP.cells (h : HowP) : Array Value := #[.int .i64 h.kind, .int .i64 h.length, .bool h.close, .bool h.expect]
def howV (h : HowP) : Value := .agg #[.int .i64 h.kind, .int .i64 h.length, .bool h.close, .bool h.expect]
def HAns (w : World) (rr : HowP × Int) (e : Ending) (w' : World) : Prop := e = .returned (.tuple #[howV rr.1, .int .i64 rr.2]) ∧ Mods [] w w'
theorem ret_how {fn : Func} {a : Act} {W : World} {R : Ending → World → Prop} {r : Nat} {h : HowP} {t : TypeId} {q q2 : Tmp} {v : Value} (hres : fn.results = #[.cell q t, .tmp q2])
    (hrow : Row W r t h.cells) (ha : (isAgg t).run Tryd.prog W = .ok true W) (hs : (Go.sizeOf t).run Tryd.prog W = .ok 4 W)
    (h2 : a.tmps.getD q undef = .pointer (some ⟨r, 0, none⟩)) (h3 : a.tmps.getD q2 undef = v) (hd : a.defers = []) (hR : R (.returned (.tuple #[howV h, v])) W) : bodyPost Tryd.prog fn R .ret a W := by
  refine bodyPost_ret (v := .tuple #[howV h, v]) ?_ hd hR
  have c0 : W.cell? ⟨r, 0, none⟩ = some (.int .i64 h.kind) := hrow.cell 0
  have c1 : W.cell? ⟨r, 1, none⟩ = some (.int .i64 h.length) := hrow.cell 1
  have c2 : W.cell? ⟨r, 2, none⟩ = some (.bool h.close) := hrow.cell 2
  have c3 : W.cell? ⟨r, 3, none⟩ = some (.bool h.expect) := hrow.cell 3
  have g2 : a.tmps[q]?.getD undef = .pointer (some ⟨r, 0, none⟩) := by simpa using h2
  have g3 : a.tmps[q2]?.getD undef = v := by simpa using h3
  simp [results, hres, go_sem, g2, g3, c0, c1, c2, c3, ha, hs, howV]
def setH (w : World) (n : Nat) (h : HowP) : World := (((w.setCell ⟨n, 0, none⟩ (.int .i64 h.kind)).setCell ⟨n, 1, none⟩ (.int .i64 h.length)).setCell ⟨n, 2, none⟩ (.bool h.close)).setCell ⟨n, 3, none⟩ (.bool h.expect)
theorem Row.putH {w : World} {n : Nat} {t : TypeId} {h0 : HowP} (h : Row w n t h0.cells) (x : HowP) : Row (setH w n x) n t x.cells := (((h.set 0 _).set 1 _).set 2 _).set 3 _
theorem Mods.putH {F : List Nat} {a w : World} (h : Mods F a w) {n : Nat} (hn : n ∈ F ∨ a.heap.size ≤ n) (x : HowP) : Mods F a (setH w n x) :=
  (((h.setCell (p := ⟨n, 0, none⟩) hn _).setCell (p := ⟨n, 1, none⟩) hn _).setCell (p := ⟨n, 2, none⟩) hn _).setCell (p := ⟨n, 3, none⟩) hn _
/-- The end of a function that has stored its result. -/
theorem end_H {fn : Func} {a : Act} {w W : World} {rr : HowP × Int} {r : Nat} {t : TypeId} {h0 : HowP} {k l : Int} {c x : Bool} {q q2 : Tmp} {n : Int} (hres : fn.results = #[.cell q t, .tmp q2])
    (hrow : Row W r t h0.cells) (ha : ∀ W, (isAgg t).run Tryd.prog W = .ok true W) (hs : ∀ W, (Go.sizeOf t).run Tryd.prog W = .ok 4 W)
    (h2 : a.tmps.getD q undef = .pointer (some ⟨r, 0, none⟩)) (h3 : a.tmps.getD q2 undef = .int .i64 n) (hd : a.defers = [])
    (hX : rr = (⟨k, l, c, x⟩, n)) (hM : Mods [] w W) (hn : w.heap.size ≤ r) :
    bodyPost Tryd.prog fn (HAns w rr) .ret a ((((W.setCell ⟨r, 0, none⟩ (.int .i64 k)).setCell ⟨r, 1, none⟩ (.int .i64 l)).setCell ⟨r, 2, none⟩ (.bool c)).setCell ⟨r, 3, none⟩ (.bool x)) := by
  have hR := hrow.putH ⟨k, l, c, x⟩
  have hM2 := hM.putH (.inr hn) ⟨k, l, c, x⟩
  change bodyPost Tryd.prog fn (HAns w rr) .ret a (setH W r ⟨k, l, c, x⟩)
  generalize setH W r ⟨k, l, c, x⟩ = w6 at hR hM2 ⊢
  exact ret_how (h := ⟨k, l, c, x⟩) hres hR (ha _) (hs _) h2 h3 hd ⟨by rw [hX], hM2⟩
/-- What a walk asks of the block. -/
theorem Row.factsH {w : World} {n : Nat} {t : TypeId} {h : HowP} (hr : Row w n t h.cells) :
    w.cell? ⟨n, 0, none⟩ = some (.int .i64 h.kind) ∧ w.cell? ⟨n, 1, none⟩ = some (.int .i64 h.length) ∧ w.cell? ⟨n, 2, none⟩ = some (.bool h.close) ∧ w.cell? ⟨n, 3, none⟩ = some (.bool h.expect) ∧
    w.frozen? ⟨n, 0, none⟩ = false ∧ w.frozen? ⟨n, 1, none⟩ = false ∧ w.frozen? ⟨n, 2, none⟩ = false ∧ w.frozen? ⟨n, 3, none⟩ = false :=
  ⟨hr.cell 0, hr.cell 1, hr.cell 2, hr.cell 3, hr.free 0, hr.free 1, hr.free 2, hr.free 3⟩
end Go.Proofs.YtcliapfoimnkiaaDoor
