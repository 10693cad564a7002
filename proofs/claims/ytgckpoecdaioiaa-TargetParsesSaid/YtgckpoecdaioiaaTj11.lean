/- Targets as plain data, and what Parse makes of a text. No program but for the type's number. -/
import Derived.Test.YtgckpoecdaioiaaTi11
namespace Go.Proofs.Ytgckpoecdaioiaa
open Go.RowKit
set_option linter.unusedVariables false
set_option linter.unusedSimpArgs false

/-- A target. -/
structure Tgt where
  form : Int
  host : ByteArray
  path : ByteArray
  query : ByteArray
def Tgt.cells (t : Tgt) : Array Value := #[.int .i64 t.form, .string t.host, .string t.path, .string t.query]
def noB : ByteArray := ⟨#[]⟩
def noT : Tgt := ⟨0, noB, noB, noB⟩
theorem Tgt.ext' {a b : Tgt} (h1 : a.form = b.form) (h2 : a.host = b.host) (h3 : a.path = b.path) (h4 : a.query = b.query) : a = b := by
  cases a; cases b; simp_all

def allowB (c : UInt8) : Bool := plainB c || isC 37 c || isC 63 c
/-- A path and a query. -/
def orgL (l : List UInt8) : Option (List UInt8 × List UInt8) :=
  if l.all allowB = true then (decL (upL (isC 63) l)).bind fun d => (clnL d).map fun p => (p, l.drop ((upL (isC 63) l).length + 1)) else none
theorem orgL_bad {l : List UInt8} (h : l.all allowB = false) : orgL l = none := by unfold orgL; rw [if_neg (by rw [h]; simp)]
theorem orgL_dec {l : List UInt8} (h : l.all allowB = true) (h2 : decL (upL (isC 63) l) = none) : orgL l = none := by unfold orgL; rw [if_pos h, h2]; rfl
theorem orgL_cln {l d : List UInt8} (h : l.all allowB = true) (h2 : decL (upL (isC 63) l) = some d) (h3 : clnL d = none) : orgL l = none := by unfold orgL; rw [if_pos h, h2]; simp [h3]
theorem orgL_yes {l d p : List UInt8} (h : l.all allowB = true) (h2 : decL (upL (isC 63) l) = some d) (h3 : clnL d = some p) : orgL l = some (p, l.drop ((upL (isC 63) l).length + 1)) := by unfold orgL; rw [if_pos h, h2]; simp [h3]
/-- What a path of some form and host is. -/
def orgF (f : Int) (h : ByteArray) (l : List UInt8) : Tgt × Int := match orgL l with | some (p, q) => (⟨f, h, ofL p, ofL q⟩, 0) | none => (noT, 8)
theorem orgF_no {f : Int} {h : ByteArray} {l : List UInt8} (e : orgL l = none) : orgF f h l = (noT, 8) := by unfold orgF; rw [e]
theorem orgF_yes {f : Int} {h : ByteArray} {l p q : List UInt8} (e : orgL l = some (p, q)) : orgF f h l = (⟨f, h, ofL p, ofL q⟩, 0) := by unfold orgF; rw [e]
def endB (c : UInt8) : Bool := isC 47 c || isC 63 c
def hostOf (l : List UInt8) : List UInt8 := upL endB l
/-- What stands behind the host, with a slash ahead. -/
def restOf (l : List UInt8) : List UInt8 := if slashL (l.drop (hostOf l).length) = true then l.drop (hostOf l).length else 47 :: l.drop (hostOf l).length
def absL (l : List UInt8) : Tgt × Int := if hostL (hostOf l) = true then orgF 2 (ofL (lowL (hostOf l))) (restOf l) else (noT, 8)
def authL (l : List UInt8) : Tgt × Int := if hostL l = true ∧ inL l 58 = true then (⟨3, ofL (lowL l), noB, noB⟩, 0) else (noT, 8)
def connectL : List UInt8 := [67, 79, 78, 78, 69, 67, 84]
def optionsL : List UInt8 := [79, 80, 84, 73, 79, 78, 83]
def getL : List UInt8 := [71, 69, 84]
def httpL : List UInt8 := [104, 116, 116, 112, 58, 47, 47]
/-- Whether a text begins with http and two slashes. -/
def schemeL (l : List UInt8) : Bool := decide (7 ≤ l.length) && decide (lowL (l.take 7) = httpL)
/-- What Parse answers. -/
def parT (m l : List UInt8) : Tgt × Int :=
  if 200 < l.length then (noT, 9)
  else if m = connectL then authL l
  else if m = optionsL ∧ l = [42] then (⟨4, noB, noB, noB⟩, 0)
  else if slashL l = true then orgF 1 noB l
  else if schemeL l = true then absL (l.drop 7)
  else (noT, 8)
theorem parT_long {m l : List UInt8} (h : 200 < l.length) : parT m l = (noT, 9) := by unfold parT; rw [if_pos h]
theorem parT_con {m l : List UInt8} (h : ¬ 200 < l.length) (h1 : m = connectL) : parT m l = authL l := by unfold parT; rw [if_neg h, if_pos h1]
theorem parT_opt {m l : List UInt8} (h : ¬ 200 < l.length) (h1 : m ≠ connectL) (h2 : m = optionsL ∧ l = [42]) : parT m l = (⟨4, noB, noB, noB⟩, 0) := by unfold parT; rw [if_neg h, if_neg h1, if_pos h2]
theorem parT_org {m l : List UInt8} (h : ¬ 200 < l.length) (h1 : m ≠ connectL) (h2 : ¬ (m = optionsL ∧ l = [42])) (h3 : slashL l = true) : parT m l = orgF 1 noB l := by unfold parT; rw [if_neg h, if_neg h1, if_neg h2, if_pos h3]
theorem parT_abs {m l : List UInt8} (h : ¬ 200 < l.length) (h1 : m ≠ connectL) (h2 : ¬ (m = optionsL ∧ l = [42])) (h3 : slashL l = false) (h4 : schemeL l = true) : parT m l = absL (l.drop 7) := by unfold parT; rw [if_neg h, if_neg h1, if_neg h2, if_neg (by rw [h3]; simp), if_pos h4]
theorem parT_no {m l : List UInt8} (h : ¬ 200 < l.length) (h1 : m ≠ connectL) (h2 : ¬ (m = optionsL ∧ l = [42])) (h3 : slashL l = false) (h4 : schemeL l = false) : parT m l = (noT, 8) := by unfold parT; rw [if_neg h, if_neg h1, if_neg h2, if_neg (by rw [h3]; simp), if_neg (by rw [h4]; simp)]

/-! A target in memory. -/
/-- What such a call answers. -/
def TAns (w : World) (r : Tgt × Int) (e : Ending) (w' : World) : Prop := e = .returned (.tuple #[.agg r.1.cells, .int .i64 r.2]) ∧ Mods [] w w'
theorem TAns.mk' {w w' : World} {r : Tgt × Int} {t : Tgt} {n : Int} (h : r = (t, n)) (hm : Mods [] w w') : TAns w r (.returned (.tuple #[.agg t.cells, .int .i64 n])) w' := by subst h; exact ⟨rfl, hm⟩
theorem ret_tgt {fn : Func} {a : Act} {W : World} {R : Ending → World → Prop} {r : Nat} {x : Tgt} {t : TypeId} {q q2 : Tmp} {v : Value} (hres : fn.results = #[.cell q t, .tmp q2])
    (hrow : Row W r t x.cells)
    (ha : (isAgg t).run Try.prog W = .ok true W) (hs : (Go.sizeOf t).run Try.prog W = .ok 4 W)
    (h2 : a.tmps.getD q undef = .pointer (some ⟨r, 0, none⟩)) (h3 : a.tmps.getD q2 undef = v) (hd : a.defers = []) (hR : R (.returned (.tuple #[.agg x.cells, v])) W) : bodyPost Try.prog fn R .ret a W := by
  refine bodyPost_ret (v := .tuple #[.agg x.cells, v]) ?_ hd hR
  have g2 : a.tmps[q]?.getD undef = .pointer (some ⟨r, 0, none⟩) := by simpa using h2
  have g3 : a.tmps[q2]?.getD undef = v := by simpa using h3
  have c0 := hrow.cell 0
  have c1 := hrow.cell 1
  have c2 := hrow.cell 2
  have c3 := hrow.cell 3
  simp only [Tgt.cells, List.getElem?_toArray, List.getElem?_cons_zero, List.getElem?_cons_succ] at c0 c1 c2 c3
  simp [results, hres, go_sem, g2, g3, c0, c1, c2, c3, ha, hs, Tgt.cells]
/-- A world in which a target was stored. -/
def setT (w : World) (n : Nat) (t : Tgt) : World := (((w.setCell ⟨n, 0, none⟩ (.int .i64 t.form)).setCell ⟨n, 1, none⟩ (.string t.host)).setCell ⟨n, 2, none⟩ (.string t.path)).setCell ⟨n, 3, none⟩ (.string t.query)
theorem Row.put {w : World} {n : Nat} {T : TypeId} {t0 : Tgt} (h : Row w n T t0.cells) (t : Tgt) : Row (setT w n t) n T t.cells := ((((h.set 0 _).set 1 _).set 2 _).set 3 _)
theorem Mods.put {F : List Nat} {a w : World} (h : Mods F a w) {n : Nat} (hn : n ∈ F ∨ a.heap.size ≤ n) (t : Tgt) : Mods F a (setT w n t) := (((h.setCell hn _).setCell hn _).setCell hn _).setCell hn _
theorem Row.farT {w : World} {n m : Nat} {T : TypeId} {cs : Array Value} (h : Row w m T cs) (hn : m ≠ n) (t : Tgt) : Row (setT w n t) m T cs := (((h.far hn _).far hn _).far hn _).far hn _
/-- The end of a function that has stored its result. -/
theorem end_T {fn : Func} {a : Act} {w W : World} {rr : Tgt × Int} {r : Nat} {t0 : Tgt} {f : Int} {h p k : ByteArray} {q q2 : Tmp} {n : Int} (hres : fn.results = #[.cell q 23, .tmp q2])
    (hrow : Row W r 23 t0.cells) (h2 : a.tmps.getD q undef = .pointer (some ⟨r, 0, none⟩)) (h3 : a.tmps.getD q2 undef = .int .i64 n) (hd : a.defers = [])
    (hX : rr = (⟨f, h, p, k⟩, n)) (hM : Mods [] w W) (hn : w.heap.size ≤ r) :
    bodyPost Try.prog fn (TAns w rr) .ret a ((((W.setCell ⟨r, 0, none⟩ (.int .i64 f)).setCell ⟨r, 1, none⟩ (.string h)).setCell ⟨r, 2, none⟩ (.string p)).setCell ⟨r, 3, none⟩ (.string k)) := by
  have hR := hrow.put ⟨f, h, p, k⟩
  have hM2 := hM.put (.inr hn) ⟨f, h, p, k⟩
  change bodyPost Try.prog fn (TAns w rr) .ret a (setT W r ⟨f, h, p, k⟩)
  generalize setT W r ⟨f, h, p, k⟩ = w6 at hR hM2 ⊢
  exact ret_tgt (x := ⟨f, h, p, k⟩) hres hR (Try.isAgg23 _) (Try.sizeOf23 _) h2 h3 hd (TAns.mk' hX hM2)
/-- The same, where nothing was called behind the making of the result's block. -/
theorem end_N {fn : Func} {a : Act} {w : World} {rr : Tgt × Int} {f : Int} {h p k : ByteArray} {q q2 : Tmp} {n : Int} (hres : fn.results = #[.cell q 23, .tmp q2])
    (h2 : a.tmps.getD q undef = .pointer (some ⟨w.heap.size, 0, none⟩)) (h3 : a.tmps.getD q2 undef = .int .i64 n) (hd : a.defers = [])
    (hX : rr = (⟨f, h, p, k⟩, n)) :
    bodyPost Try.prog fn (TAns w rr) .ret a (w.alloc (.cells #[.int .i64 f, .string h, .string p, .string k] 23)) := by
  have hR : Row (w.alloc (.cells #[.int .i64 f, .string h, .string p, .string k] 23)) w.heap.size 23 (⟨f, h, p, k⟩ : Tgt).cells := Row.new w _ _
  have hM2 := (Mods.refl [] w).alloc (.cells #[.int .i64 f, .string h, .string p, .string k] 23)
  generalize w.alloc (.cells #[.int .i64 f, .string h, .string p, .string k] 23) = w6 at hR hM2 ⊢
  exact ret_tgt (x := ⟨f, h, p, k⟩) hres hR (Try.isAgg23 _) (Try.sizeOf23 _) h2 h3 hd (TAns.mk' hX hM2)
/-- What a walk asks of a target's block. -/
theorem Row.facts {w : World} {n : Nat} {T : TypeId} {t : Tgt} (h : Row w n T t.cells) :
    w.cell? ⟨n, 0, none⟩ = some (.int .i64 t.form) ∧ w.cell? ⟨n, 1, none⟩ = some (.string t.host) ∧ w.cell? ⟨n, 2, none⟩ = some (.string t.path) ∧ w.cell? ⟨n, 3, none⟩ = some (.string t.query) ∧
    w.frozen? ⟨n, 0, none⟩ = false ∧ w.frozen? ⟨n, 1, none⟩ = false ∧ w.frozen? ⟨n, 2, none⟩ = false ∧ w.frozen? ⟨n, 3, none⟩ = false :=
  ⟨h.cell 0, h.cell 1, h.cell 2, h.cell 3, h.free 0, h.free 1, h.free 2, h.free 3⟩
/-- The block of the result, when the world has turned by new memory alone. -/
theorem res_T {w w' : World} (h : Mods [] (w.alloc (.cells #[.int .i64 0, .string ⟨#[]⟩, .string ⟨#[]⟩, .string ⟨#[]⟩] 23)) w') : Row w' w.heap.size 23 noT.cells ∧ Mods [] w w' :=
  ⟨(Row.new w _ _).mods h (by simp), ((Mods.refl [] w).alloc _).trans h (fun _ h => nomatch h)⟩
theorem Mods.on {w w1 w2 : World} (h : Mods [] w w1) (h2 : Mods [] w1 w2) : Mods [] w w2 := h.trans h2 (fun _ h => nomatch h)
end Go.Proofs.Ytgckpoecdaioiaa
