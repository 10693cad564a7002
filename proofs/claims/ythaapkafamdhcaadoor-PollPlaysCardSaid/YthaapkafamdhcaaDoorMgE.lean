/- Plain mathematics of a poller: what is watched, what is told, in which order. No text of the program. -/
import Derived.Test.YthaapkafamdhcaaDoorSlabMath
import Derived.Test.YthaapkafamdhcaaDoorNp
import Derived.Test.YthaapkafamdhcaaDoorProg
import Derived.Test.YthaapkafamdhcaaDoorMem
import Derived.Maps.OwnSet
import Derived.Test.YthaapkafamdhcaaDoorNk
import Derived.Test.YthaapkafamdhcaaDoorSlabH
import Derived.Test.YthaapkafamdhcaaDoorSlabN
import Derived.Test.YthaapkafamdhcaaDoorSlabL
import Derived.Carry
import Derived.Deep.RegionHeld3
import Derived.BigQuiet
import Derived.Deep.DeepCutAuto
import Derived.Deep.CutBlock
import Derived.Test.YthaapkafamdhcaaDoorApn
namespace Go.Proofs.YthaapkafamdhcaaDoor
set_option linter.unusedVariables false
set_option linter.unusedSimpArgs false

/-! Rows of several cells an element. -/
def fl {α : Type} (f : α → List Value) (l : List α) : List Value := l.flatMap f
section
variable {α : Type} {f : α → List Value} {k : Nat}
theorem fl_cons (x : α) (l : List α) : fl f (x :: l) = f x ++ fl f l := by simp [fl]
theorem fl_append (l m : List α) : fl f (l ++ m) = fl f l ++ fl f m := by simp [fl]
theorem fl_one (x : α) : fl f [x] = f x := by simp [fl]
theorem fl_len (hf : ∀ x, (f x).length = k) (l : List α) : (fl f l).length = l.length * k := by
  induction l with
  | nil => simp [fl]
  | cons x l ih => rw [fl_cons, List.length_append, hf, ih, List.length_cons]; rw [Nat.succ_mul]; omega
theorem fl_at (hf : ∀ x, (f x).length = k) {l : List α} {i j : Nat} {x : α} (hx : l[i]? = some x) (hj : j < k) : (fl f l)[i * k + j]? = (f x)[j]? := by
  induction l generalizing i with
  | nil => simp at hx
  | cons y l ih =>
    rw [fl_cons]
    cases i with
    | zero =>
      simp at hx; subst hx
      rw [List.getElem?_append_left (by rw [hf]; omega)]
      simp
    | succ i =>
      rw [List.getElem?_append_right (by rw [hf, Nat.succ_mul]; omega), hf, show (i + 1) * k + j - k = i * k + j by rw [Nat.succ_mul]; omega]
      exact ih (by simpa using hx)
theorem fl_set (hf : ∀ x, (f x).length = k) {l : List α} {i j : Nat} {x x' : α} {u : Value} (hx : l[i]? = some x) (hj : j < k) (h : f x' = (f x).set j u) : (fl f l).set (i * k + j) u = fl f (l.set i x') := by
  induction l generalizing i with
  | nil => simp at hx
  | cons y l ih =>
    rw [fl_cons]
    cases i with
    | zero =>
      simp at hx; subst hx
      rw [List.set_append_left _ _ (by rw [hf]; omega)]
      simp only [List.set_cons_zero, Nat.zero_mul, Nat.zero_add]
      rw [fl_cons, h]
    | succ i =>
      rw [List.set_append_right _ _ (by rw [hf, Nat.succ_mul]; omega), hf, show (i + 1) * k + j - k = i * k + j by rw [Nat.succ_mul]; omega]
      simp only [List.set_cons_succ]
      rw [fl_cons, ih (by simpa using hx)]
theorem fl_take (hf : ∀ x, (f x).length = k) (l : List α) (i : Nat) : (fl f l).take (i * k) = fl f (l.take i) := by
  induction l generalizing i with
  | nil => simp [fl]
  | cons y l ih =>
    cases i with
    | zero => simp [fl]
    | succ i =>
      rw [fl_cons, List.take_succ_cons, fl_cons, Nat.succ_mul, List.take_append, hf, List.take_of_length_le (by rw [hf]; omega), Nat.add_sub_cancel, ih]
theorem fl_drop (hf : ∀ x, (f x).length = k) (l : List α) (i : Nat) : (fl f l).drop (i * k) = fl f (l.drop i) := by
  induction l generalizing i with
  | nil => simp [fl]
  | cons y l ih =>
    cases i with
    | zero => simp
    | succ i =>
      rw [fl_cons, List.drop_succ_cons, Nat.succ_mul, List.drop_append, hf, List.drop_of_length_le (by rw [hf]; omega), Nat.add_sub_cancel, ih, List.nil_append]
end

/-! What is told. -/
structure Ev where
  s : Int
  g : Int
  c : Int
  r : Bool
  w : Bool
def Ev.cs (e : Ev) : List Value := [.int .i64 e.s, .int .i64 e.g, .int .i64 e.c, .bool e.r, .bool e.w]
theorem Ev.cs_len (e : Ev) : e.cs.length = 5 := rfl
/-- Which one of those that are left is next. -/
def pick (p : Int) (n : Nat) : Nat := (max p 0 % (n : Int)).toNat
theorem pick_lt (p : Int) {n : Nat} (h : 0 < n) : pick p n < n := by
  unfold pick
  have h1 := Int.emod_nonneg (max p 0) (b := (n : Int)) (by omega)
  have h2 := Int.emod_lt_of_pos (max p 0) (b := (n : Int)) (by omega)
  omega
theorem pick_cast (p : Int) {n : Nat} (h : 0 < n) : ((pick p n : Nat) : Int) = max p 0 % (n : Int) := by
  unfold pick
  have h1 := Int.emod_nonneg (max p 0) (b := (n : Int)) (by omega)
  omega
/-- What has been laid and what is left, when these picks have been made. -/
def ordTo : List Ev → List Int → List Ev × List Ev
  | l, [] => ([], l)
  | l, p :: ps => if l.length = 0 then ([], l) else
      match l[pick p l.length]? with
      | none => ([], l)
      | some x => (x :: (ordTo (l.eraseIdx (pick p l.length)) ps).1, (ordTo (l.eraseIdx (pick p l.length)) ps).2)
/-- The order that picks say. -/
def ord (l : List Ev) (ps : List Int) : List Ev := (ordTo l ps).1 ++ (ordTo l ps).2
theorem ord_nil (ps : List Int) : ord [] ps = [] := by cases ps <;> simp [ord, ordTo]
theorem ord_none (l : List Ev) : ord l [] = l := by simp [ord, ordTo]
theorem ord_cons {l : List Ev} {p : Int} {ps : List Int} {x : Ev} (h : 0 < l.length) (hx : l[pick p l.length]? = some x) : ord l (p :: ps) = x :: ord (l.eraseIdx (pick p l.length)) ps := by
  unfold ord
  rw [ordTo]
  rw [if_neg (by omega), hx]
  simp
theorem ordTo_snoc (l : List Ev) (ps : List Int) (p : Int) (x : Ev) (h : 0 < (ordTo l ps).2.length) (hx : (ordTo l ps).2[pick p (ordTo l ps).2.length]? = some x) :
    ordTo l (ps ++ [p]) = ((ordTo l ps).1 ++ [x], (ordTo l ps).2.eraseIdx (pick p (ordTo l ps).2.length)) := by
  induction ps generalizing l with
  | nil =>
    simp only [ordTo, List.nil_append] at h hx ⊢
    rw [if_neg (by omega), hx]
  | cons a ps ih =>
    by_cases hl : l.length = 0
    · rw [show ordTo l (a :: ps) = ([], l) by rw [ordTo, if_pos hl]] at h
      simp only at h
      omega
    · have hlt := pick_lt a (n := l.length) (by omega)
      have e : ∀ qs, ordTo l (a :: qs) = (l[pick a l.length] :: (ordTo (l.eraseIdx (pick a l.length)) qs).1, (ordTo (l.eraseIdx (pick a l.length)) qs).2) := fun qs => by
        rw [ordTo, if_neg hl, List.getElem?_eq_getElem hlt]
      rw [e] at h hx ⊢
      simp only at h hx ⊢
      rw [List.cons_append, e, ih _ h hx]
      rfl
theorem ordTo_stop (l : List Ev) (ps qs : List Int) (h : (ordTo l ps).2.length = 0) : ordTo l (ps ++ qs) = ordTo l ps := by
  induction ps generalizing l with
  | nil =>
    simp only [ordTo] at h
    cases qs with
    | nil => rfl
    | cons a qs => simp only [List.nil_append, ordTo]; rw [if_pos h]
  | cons a ps ih =>
    by_cases hl : l.length = 0
    · simp only [List.cons_append]
      rw [ordTo, if_pos hl, ordTo, if_pos hl]
    · have hlt := pick_lt a (n := l.length) (by omega)
      have e : ∀ qs, ordTo l (a :: qs) = (l[pick a l.length] :: (ordTo (l.eraseIdx (pick a l.length)) qs).1, (ordTo (l.eraseIdx (pick a l.length)) qs).2) := fun qs => by
        rw [ordTo, if_neg hl, List.getElem?_eq_getElem hlt]
      rw [e] at h
      rw [List.cons_append, e, e, ih _ h]
theorem ord_len (l : List Ev) (ps : List Int) : (ord l ps).length = l.length := by
  induction ps generalizing l with
  | nil => rw [ord_none]
  | cons p ps ih =>
    by_cases h : l.length = 0
    · have : l = [] := List.eq_nil_of_length_eq_zero h
      subst this; simp [ord_nil]
    · have hl := pick_lt p (n := l.length) (by omega)
      rw [ord_cons (by omega) (List.getElem?_eq_getElem hl), List.length_cons, ih, List.length_eraseIdx, if_pos hl]
      omega
theorem ordTo_len (l : List Ev) (ps : List Int) : (ordTo l ps).1.length + (ordTo l ps).2.length = l.length := by
  have := ord_len l ps
  unfold ord at this
  rw [List.length_append] at this
  exact this
theorem cons_eraseIdx {l : List Ev} {i : Nat} (h : i < l.length) : (l[i] :: l.eraseIdx i).Perm l := by
  rw [List.eraseIdx_eq_take_drop_succ]
  refine List.perm_middle.symm.trans ?_
  rw [← List.drop_eq_getElem_cons h, List.take_append_drop]
theorem ord_perm (l : List Ev) (ps : List Int) : (ord l ps).Perm l := by
  induction ps generalizing l with
  | nil => rw [ord_none]
  | cons p ps ih =>
    by_cases h : l.length = 0
    · have : l = [] := List.eq_nil_of_length_eq_zero h
      subst this; simp [ord_nil]
    · have hl := pick_lt p (n := l.length) (by omega)
      rw [ord_cons (by omega) (List.getElem?_eq_getElem hl)]
      refine ((ih _).cons _).trans ?_
      exact cons_eraseIdx hl

/-! What is watched. -/
structure Wch where
  rd : Bool
  wr : Bool
  eg : Bool
  tr : Nat
  tw : Nat
def Wch.cs (x : Wch) : List Value := [.bool x.eg, .bool x.rd, .int .i64 (x.tr : Int), .bool x.wr, .int .i64 (x.tw : Int)]
theorem Wch.cs_len (x : Wch) : x.cs.length = 5 := rfl
def Wch.no : Wch := ⟨false, false, false, 0, 0⟩
structure Plr where
  net : Nt
  sl : Slb
  ws : List Wch
def Slb.hasV (S : Slb) (v : Int) : Bool := (List.range S.us.length).any fun i => S.us.getD i false && decide (S.vs.getD i 0 = v)
theorem getD_lt {l : List Bool} {i : Nat} (h : l.getD i false = true) : i < l.length := by
  rcases Nat.lt_or_ge i l.length with h1 | h1
  · exact h1
  · rw [List.getD_eq_getElem?_getD, List.getElem?_eq_none h1] at h; cases h
theorem Slb.hasV_iff (S : Slb) (v : Int) : S.hasV v = true ↔ ∃ i, S.us.getD i false = true ∧ S.vs.getD i 0 = v := by
  simp only [Slb.hasV, List.any_eq_true, List.mem_range, Bool.and_eq_true, decide_eq_true_eq]
  constructor
  · rintro ⟨i, _, h1, h2⟩; exact ⟨i, h1, h2⟩
  · rintro ⟨i, h1, h2⟩; exact ⟨i, getD_lt h1, h1, h2⟩
/-- Those in use have numbers of their own. -/
def Slb.Dis (S : Slb) : Prop := ∀ i j, S.us.getD i false = true → S.us.getD j false = true → S.vs.getD i 0 = S.vs.getD j 0 → i = j
theorem getD_snoc_int (l : List Int) (j : Nat) (x : Int) : (l ++ [x]).getD j 0 = if j = l.length then x else l.getD j 0 := by
  simp only [List.getD_eq_getElem?_getD, List.getElem?_append]
  split
  · rename_i h; rw [if_neg (by omega)]
  · rename_i h
    by_cases e : j = l.length
    · subst e; simp
    · rw [if_neg e, List.getElem?_eq_none (by simp; omega), List.getElem?_eq_none (by omega)]
theorem getD_set_int' (l : List Int) (i j : Nat) (x : Int) : (l.set i x).getD j 0 = if i = j ∧ i < l.length then x else l.getD j 0 := by
  simp only [List.getD_eq_getElem?_getD, List.getElem?_set]
  by_cases h : i = j
  · subst h
    by_cases h2 : i < l.length
    · simp [h2]
    · simp [h2]
  · simp [h]
section
variable {S : Slb} {K : Nat} {v : Int}
theorem Slb.put_us (hS : S.Ok K) (v : Int) (i : Nat) : (S.put v).us.getD i false = if i = S.least then true else S.us.getD i false := by
  have := S.least_le
  unfold Slb.put
  split
  · rename_i h; simp only [getD_snoc_bool, h]
  · rename_i h
    simp only [getD_set_bool]
    by_cases e : S.least = i
    · rw [if_pos ⟨e, by omega⟩, if_pos e.symm]
    · rw [if_neg (fun h => e h.1), if_neg (fun h => e h.symm)]
theorem Slb.put_vs (hS : S.Ok K) (v : Int) (i : Nat) : (S.put v).vs.getD i 0 = if i = S.least then v else S.vs.getD i 0 := by
  have := S.least_le; have := hS.vl
  unfold Slb.put
  split
  · rename_i h; simp only [getD_snoc_int, h, hS.vl]
  · rename_i h
    simp only [getD_set_int']
    by_cases e : S.least = i
    · rw [if_pos ⟨e, by omega⟩, if_pos e.symm]
    · rw [if_neg (fun h => e h.1), if_neg (fun h => e h.symm)]
theorem Slb.put_len (S : Slb) (v : Int) : (S.put v).us.length = if S.least = S.us.length then S.us.length + 1 else S.us.length := by
  unfold Slb.put; split <;> simp
theorem Slb.put_has (hS : S.Ok K) (v z : Int) : (S.put v).hasV z = (decide (z = v) || S.hasV z) := by
  rw [Bool.eq_iff_iff, Bool.or_eq_true, Slb.hasV_iff, Slb.hasV_iff, decide_eq_true_eq]
  constructor
  · rintro ⟨i, h1, h2⟩
    rw [Slb.put_us hS] at h1
    rw [Slb.put_vs hS] at h2
    by_cases e : i = S.least
    · rw [if_pos e] at h2; exact .inl h2.symm
    · rw [if_neg e] at h1 h2; exact .inr ⟨i, h1, h2⟩
  · rintro (rfl | ⟨i, h1, h2⟩)
    · exact ⟨S.least, by rw [Slb.put_us hS, if_pos rfl], by rw [Slb.put_vs hS, if_pos rfl]⟩
    · have e : i ≠ S.least := by rintro rfl; rw [S.least_getD] at h1; cases h1
      exact ⟨i, by rw [Slb.put_us hS, if_neg e]; exact h1, by rw [Slb.put_vs hS, if_neg e]; exact h2⟩
theorem Slb.put_dis (hS : S.Ok K) (hd : S.Dis) (hv : S.hasV v = false) : (S.put v).Dis := by
  intro i j hi hj hij
  have no : ∀ i, S.us.getD i false = true → S.vs.getD i 0 ≠ v := fun i h1 h2 => by
    have := (S.hasV_iff v).2 ⟨i, h1, h2⟩
    rw [hv] at this; cases this
  rw [Slb.put_us hS] at hi hj
  rw [Slb.put_vs hS, Slb.put_vs hS] at hij
  by_cases e1 : i = S.least <;> by_cases e2 : j = S.least
  · omega
  · rw [if_neg e2] at hj; rw [if_pos e1, if_neg e2] at hij; exact absurd hij.symm (no j hj)
  · rw [if_neg e1] at hi; rw [if_neg e1, if_pos e2] at hij; exact absurd hij (no i hi)
  · rw [if_neg e1] at hi; rw [if_neg e2] at hj; rw [if_neg e1, if_neg e2] at hij
    exact hd i j hi hj hij
theorem Slb.take_us (i j : Nat) : (S.take i).us.getD j false = if i = j then false else S.us.getD j false := by
  unfold Slb.take
  simp only [getD_set_bool]
  by_cases e : i = j
  · subst e
    by_cases h : i < S.us.length
    · simp [h]
    · rw [if_neg (fun h2 => h h2.2), if_pos rfl, List.getD_eq_getElem?_getD, List.getElem?_eq_none (by omega)]; rfl
  · rw [if_neg (fun h => e h.1), if_neg e]
theorem Slb.take_has (hd : S.Dis) {i : Nat} (hi : S.us.getD i false = true) (z : Int) : (S.take i).hasV z = (S.hasV z && !decide (z = S.vs.getD i 0)) := by
  rw [Bool.eq_iff_iff, Bool.and_eq_true, Slb.hasV_iff, Slb.hasV_iff, Bool.not_eq_true', decide_eq_false_iff_not]
  constructor
  · rintro ⟨j, h1, h2⟩
    rw [Slb.take_us] at h1
    by_cases e : i = j
    · rw [if_pos e] at h1; cases h1
    · rw [if_neg e] at h1
      exact ⟨⟨j, h1, h2⟩, fun h => e (hd i j hi h1 (h.symm.trans h2.symm))⟩
  · rintro ⟨⟨j, h1, h2⟩, h3⟩
    have e : i ≠ j := by rintro rfl; exact h3 h2.symm
    exact ⟨j, by rw [Slb.take_us, if_neg e]; exact h1, h2⟩
theorem Slb.take_dis (hd : S.Dis) (i : Nat) : (S.take i).Dis := by
  intro a b ha hb hab
  rw [Slb.take_us] at ha hb
  by_cases e1 : i = a
  · rw [if_pos e1] at ha; cases ha
  · by_cases e2 : i = b
    · rw [if_pos e2] at hb; cases hb
    · rw [if_neg e1] at ha; rw [if_neg e2] at hb; exact hd a b ha hb hab
theorem Slb.take1_dis (hd : S.Dis) (h : Int × Int) : (S.take1 h).Dis := by
  unfold Slb.take1; split
  · exact Slb.take_dis hd _
  · exact hd
theorem Slb.take1_len (S : Slb) (h : Int × Int) : (S.take1 h).us.length = S.us.length := by unfold Slb.take1; split <;> simp [Slb.take]
theorem Slb.take1_lim (S : Slb) (h : Int × Int) : (S.take1 h).lim = S.lim := by unfold Slb.take1; split <;> rfl
theorem Slb.take1_cnt (S : Slb) (h : Int × Int) : (S.take1 h).cnt ≤ S.cnt := by
  unfold Slb.take1; split
  · rename_i hh
    obtain ⟨h1, h2, h3, h4⟩ := Slb.is_lt hh
    have := Slb.take_cnt h2 h3
    omega
  · exact Nat.le_refl _
theorem Slb.allTo_at {k j : Nat} {p : Int × Int} (h : (S.allTo k)[j]? = some p) : ∃ i : Nat, i < k ∧ p = ((i : Int), ((S.gs.getD i 0 : Nat) : Int)) ∧ S.us.getD i false = true := by
  induction k with
  | zero => simp [Slb.allTo] at h
  | succ k ih =>
    simp only [Slb.allTo] at h
    by_cases hj : j < (S.allTo k).length
    · rw [List.getElem?_append_left hj] at h
      obtain ⟨i, h1, h2⟩ := ih h
      exact ⟨i, by omega, h2⟩
    · rw [List.getElem?_append_right (by omega)] at h
      split at h
      · rename_i hu
        have hz : j - (S.allTo k).length = 0 := by
          rcases Nat.eq_zero_or_pos (j - (S.allTo k).length) with h0 | h0
          · exact h0
          · rw [List.getElem?_eq_none (by simp; omega)] at h; cases h
        rw [hz] at h
        simp at h
        exact ⟨k, by omega, h.symm, hu⟩
      · simp at h
theorem Slb.all_at {j : Nat} {p : Int × Int} (h : S.all[j]? = some p) : ∃ i : Nat, i < S.us.length ∧ p = ((i : Int), ((S.gs.getD i 0 : Nat) : Int)) ∧ S.us.getD i false = true ∧ S.is (i : Int) ((S.gs.getD i 0 : Nat) : Int) = true := by
  obtain ⟨i, h1, h2, h3⟩ := Slb.allTo_at h
  exact ⟨i, h1, h2, h3, by unfold Slb.is; rw [Int.toNat_natCast, h3]; simp⟩
end

/-! What a poller does. -/
def Wch.asked (x : Wch) (r w : Bool) : Wch := ⟨r, w, x.eg, 0, 0⟩
def Wch.tellR (x : Wch) (rdy : Bool) (m : Nat) : Bool := rdy && (x.rd && (!x.eg || decide (x.tr < m)))
def Wch.tellW (x : Wch) (rdy : Bool) (m : Nat) : Bool := rdy && (x.wr && (!x.eg || decide (x.tw < m)))
def Wch.put (x : Wch) (r w : Bool) (a b : Nat) : Wch := ⟨x.rd, x.wr, x.eg, if r then a else x.tr, if w then b else x.tw⟩
section
variable (P : Plr)
def Plr.id (i : Nat) : Int := P.sl.vs.getD i 0
def Plr.wch (i : Nat) : Wch := P.ws.getD i Wch.no
def Plr.watchE (c : Int) : Int := if c ≠ -1 ∧ P.net.isO c = false then 2 else if P.sl.hasV c then 11 else 0
def Plr.watch (c : Int) (r w e : Bool) : Plr :=
  if P.watchE c = 0 then ⟨P.net, P.sl.put c, if P.sl.least = P.ws.length then P.ws ++ [⟨r, w, e, 0, 0⟩] else P.ws.set P.sl.least ⟨r, w, e, 0, 0⟩⟩ else P
def Plr.watchS (c : Int) : Int := if P.watchE c = 0 then P.sl.least else 0
def Plr.watchG (c : Int) : Int := if P.watchE c = 0 then P.sl.gen else 0
def Plr.changeE (a g : Int) : Int := if P.sl.is a g then 0 else 10
def Plr.change (a g : Int) (r w : Bool) : Plr := if P.sl.is a g then { P with ws := P.ws.set a.toNat ((P.wch a.toNat).asked r w) } else P
def Plr.drop (l : List (Int × Int)) : Plr := { P with sl := P.sl.takes l }
def Plr.tR (i : Nat) : Bool := (P.wch i).tellR (P.net.readyR (P.id i)) (P.net.markR (P.id i)).toNat
def Plr.tW (i : Nat) : Bool := (P.wch i).tellW (P.net.readyW (P.id i)) (P.net.markW (P.id i)).toNat
def Plr.ev (h : Int × Int) : Ev := ⟨h.1, h.2, P.id h.1.toNat, P.tR h.1.toNat, P.tW h.1.toNat⟩
def Plr.tell (i : Nat) : Plr := { P with ws := P.ws.set i ((P.wch i).put (P.tR i) (P.tW i) (P.net.markR (P.id i)).toNat (P.net.markW (P.id i)).toNat) }
def Plr.tells (l : List (Int × Int)) : Plr := l.foldl (fun Q h => Q.tell h.1.toNat) P
def Plr.one (h : Int × Int) : List Ev := if P.tR h.1.toNat || P.tW h.1.toNat then [P.ev h] else []
end
def Plr.evs : Plr → List (Int × Int) → List Ev
  | _, [] => []
  | P, h :: l => P.one h ++ (P.tell h.1.toNat).evs l
def Plr.waited (P : Plr) : Plr := P.tells P.sl.all
def Plr.told (P : Plr) : List Ev := P.evs P.sl.all
def Plr.new (S : Nt) : Plr := ⟨S, ⟨4096, [], [], []⟩, []⟩
theorem Plr.tells_snoc (P : Plr) (l : List (Int × Int)) (h : Int × Int) : P.tells (l ++ [h]) = (P.tells l).tell h.1.toNat := by simp [Plr.tells, List.foldl_append]
theorem Plr.evs_snoc (P : Plr) (l : List (Int × Int)) (h : Int × Int) : P.evs (l ++ [h]) = P.evs l ++ (P.tells l).one h := by
  induction l generalizing P with
  | nil => simp [Plr.evs, Plr.tells]
  | cons x l ih => simp only [List.cons_append, Plr.evs, ih, List.append_assoc]; rfl
theorem Plr.evs_len (P : Plr) (l : List (Int × Int)) : (P.evs l).length ≤ l.length := by
  induction l generalizing P with
  | nil => simp [Plr.evs]
  | cons x l ih =>
    have := ih (P.tell x.1.toNat)
    have : (P.one x).length ≤ 1 := by unfold Plr.one; split <;> simp
    simp only [Plr.evs, List.length_append, List.length_cons]
    omega
theorem Plr.tells_sl (P : Plr) (l : List (Int × Int)) : (P.tells l).sl = P.sl ∧ (P.tells l).net = P.net ∧ (P.tells l).ws.length = P.ws.length := by
  induction l generalizing P with
  | nil => exact ⟨rfl, rfl, rfl⟩
  | cons x l ih =>
    obtain ⟨h1, h2, h3⟩ := ih (P.tell x.1.toNat)
    exact ⟨h1, h2, by simp [Plr.tells] at h3 ⊢; rw [h3]; simp [Plr.tell]⟩
/-- What is plainly true of a poller. K: how often a slot was used at most. -/
structure Plr.Ok (P : Plr) (K : Nat) : Prop where
  len : P.ws.length = P.sl.us.length
  lim : P.sl.lim = 4096
  dis : P.sl.Dis
  sl : P.sl.Ok K
  rng : ∀ i, -1 ≤ P.sl.vs.getD i 0 ∧ P.sl.vs.getD i 0 ≤ 65536
  tld : ∀ x ∈ P.ws, x.tr ≤ 900000000 ∧ x.tw ≤ 900000000
#print axioms ord_perm
end Go.Proofs.YthaapkafamdhcaaDoor

/- Maps with int keys in memory: a set of numbers, a table of pointers. No text of the program. -/
namespace Go.Proofs.YthaapkafamdhcaaDoor
open Go.RowKit Go.ChangeMaps Go.MapKept
open Go.Maps (Keyed)
set_option linter.unusedVariables false
set_option linter.unusedSimpArgs false

theorem kint : Keyed Tryd.prog 3 := Maps.int_keyed Tryd.underlying3
theorem key_int {a : Int} (h : -9223372036854775808 ≤ a ∧ a ≤ 9223372036854775807) : keyOf Tryd.prog 3 (.int .i64 a) = some (.int .i64 a) := Maps.keyOf_int_mk Tryd.underlying3 (by
  simpa [Lit.wf, IntKind.min, IntKind.max, IntKind.signed, IntKind.bits] using h)
theorem lit_key {a : Int} : WideAt.IsKeyLit (.int .i64 a) := by simp [WideAt.IsKeyLit]
theorem lit_ne {a b : Int} (h : a ≠ b) : (Lit.int .i64 a) ≠ Lit.int .i64 b := fun e => h (by injection e)
theorem Mods.turned {w w' : World} {b : Nat} (h : w.mapTurned w' b) : Mods [b] w w' := (Mods.refl [b] w).grown h.grown fun k hk => .inl (by injection hk with hk; simp [hk])
section
variable {w w' : World} {b n : Nat}
/-- Block b is a set of numbers of at most n. -/
def SMap (w : World) (b n : Nat) (f : Int → Bool) : Prop := ∃ D : DataW Unit, w.ownsMap Tryd.prog 3 unitElem b n D ∧ ∀ a, Maps.has D (.int .i64 a) = f a
theorem ownsMap_keep {R : Value → Option (DataW Unit × List MemPlace)} {D : DataW Unit} (h : w.ownsMap Tryd.prog 3 R b n D) (e : w'.heap[b]? = w.heap[b]?) : w'.ownsMap Tryd.prog 3 R b n D := by
  obtain ⟨es, clock, hb, r⟩ := h
  exact ⟨es, clock, e.trans hb, r⟩
theorem SMap.keep {f : Int → Bool} (h : SMap w b n f) (e : w'.heap[b]? = w.heap[b]?) : SMap w' b n f := by
  obtain ⟨D, h1, h2⟩ := h
  exact ⟨D, ownsMap_keep h1 e, h2⟩
theorem SMap.lt {f : Int → Bool} (h : SMap w b n f) : b < w.heap.size := by obtain ⟨D, h1, h2⟩ := h; exact h1.lt
theorem SMap.mono {f : Int → Bool} (h : SMap w b n f) {m : Nat} (hm : n ≤ m) : SMap w b m f := by obtain ⟨D, h1, h2⟩ := h; exact ⟨D, h1.mono hm, h2⟩
theorem SMap.same {f g : Int → Bool} (h : SMap w b n f) (e : ∀ a, f a = g a) : SMap w b n g := by obtain ⟨D, h1, h2⟩ := h; exact ⟨D, h1, fun a => (h2 a).trans (e a)⟩
theorem SMap.made (w : World) : SMap (w.alloc (.map #[] 0)) w.heap.size 0 fun _ => false := ⟨_, World.ownsMap_made w _ _ _, fun a => rfl⟩
theorem SMap.look {f : Int → Bool} (h : SMap w b n f) {a : Int} (ha : -9223372036854775808 ≤ a ∧ a ≤ 9223372036854775807) : (Instr.lookup 42 (.map (some b)) (.int .i64 a) true).run Tryd.prog w = .ok (.tuple #[.agg #[], .bool (f a)]) w := by
  obtain ⟨D, h1, h2⟩ := h
  obtain ⟨v, ps, hr, hv⟩ := h1.look_ok kint Tryd.underlying42 (z := .agg #[]) (by kernel_rfl) unitElem_mk (key_int ha)
  obtain ⟨rfl, _⟩ := unitElem_inv hv
  rw [hr, h2]
theorem SMap.put {f : Int → Bool} (h : SMap w b n f) (hn : n < maxLen) {a : Int} (ha : -9223372036854775808 ≤ a ∧ a ≤ 9223372036854775807) : ∃ w', (Instr.mapUpdate 42 (.map (some b)) (.int .i64 a) (.agg #[])).run Tryd.prog w = .ok () w' ∧ SMap w' b (n + 1) (fun z => decide (z = a) || f z) ∧ Mods [b] w w' := by
  obtain ⟨D, h1, h2⟩ := h
  obtain ⟨w', hr, h3, h4⟩ := h1.store kint Tryd.underlying42 hn (key_int ha) unitElem_mk
  refine ⟨w', hr, ⟨_, h3, fun z => ?_⟩, Mods.turned h4⟩
  by_cases e : z = a
  · subst e; rw [Maps.has_put_same h1.isMap lit_key]; simp
  · rw [Maps.has_put_other (lit_ne e), h2]; simp [e]
theorem SMap.del {f : Int → Bool} (h : SMap w b n f) {a : Int} (ha : -9223372036854775808 ≤ a ∧ a ≤ 9223372036854775807) (ty : TypeId) : ∃ w', (Builtin.delete_ #[42, 3] ty #[.map (some b), .int .i64 a]).run Tryd.prog w = .ok (.tuple #[]) w' ∧ SMap w' b n (fun z => f z && !decide (z = a)) ∧ Mods [b] w w' := by
  obtain ⟨D, h1, h2⟩ := h
  obtain ⟨w', hr, h3, h4⟩ := h1.drop kint Tryd.underlying42 (key_int ha) ty
  refine ⟨w', hr, ⟨_, h3, fun z => ?_⟩, Mods.turned h4⟩
  by_cases e : z = a
  · subst e; rw [Maps.has_del_same]; simp
  · rw [Maps.has_del_other (lit_ne e), h2]; simp [e]
end
section
variable {P : Program} {w : World} {ops : Array Oper} {rest : List Oper} {o : Oper} {a : Act} {Q : Exit → Act → World → Prop}
/-- m[k] = v at the operation. -/
theorem wpList_map_run (hg : o.guard = none) (m x v : Operand) (t : TypeId) (hop : o.op = Op.mapUpdate t m x v) (M X V : Value) (hm : a.eval m = M) (hx : a.eval x = X) (hv : a.eval v = V) {w' : World}
    (hr : (Instr.mapUpdate t M X V).run P w = .ok () w') (hK : wpList P ops Q rest (a.put o.dst undef) w') : wpList P ops Q (o :: rest) a w := by
  refine wpList_plain hg fun K' hK' => ?_
  unfold Oper.wp
  simp [execOp, hop, hm, hx, hv, hr, Result.andThen]
  exact hK' _ _ hK
/-- delete(m, k) at the operation. -/
theorem wpList_del_run (hg : o.guard = none) (m x : Operand) (t k : TypeId) (hop : o.op = Op.call { callee := Callee.builtin Builtin.delete, args := #[m, x], argTypes := #[t, k] }) (M X : Value) (hm : a.eval m = M) (hx : a.eval x = X) {w' : World}
    (hr : (Builtin.delete_ #[t, k] o.type #[M, X]).run P w = .ok (.tuple #[]) w') (hK : wpList P ops Q rest (a.put o.dst (.tuple #[])) w') : wpList P ops Q (o :: rest) a w := by
  refine wpList_plain hg fun K' hK' => ?_
  unfold Oper.wp
  simp [execOp, hop, resolve, invoke, builtin, hm, hx, hr, Result.andThen]
  exact hK' _ _ hK
end
#print axioms SMap.put
end Go.Proofs.YthaapkafamdhcaaDoor

/- The program's poller in memory: what it is made of; what New, Watched, isWatched answer. -/
namespace Go.Proofs.YthaapkafamdhcaaDoor
open Go.RowKit
set_option maxRecDepth 10000
set_option linter.unusedVariables false
set_option linter.unusedSimpArgs false

/-- What lies apart: five lists of blocks. -/
structure Ft where
  c : Fin 5 → List Nat
def Ft.all (x : Ft) : List Nat := x.c 0 ++ (x.c 1 ++ (x.c 2 ++ (x.c 3 ++ x.c 4)))
def Ft.set (x : Ft) (i : Fin 5) (l : List Nat) : Ft := ⟨fun j => if j = i then l else x.c j⟩
def Ft.Apart (x : Ft) : Prop := ∀ i j, i ≠ j → ∀ k ∈ x.c i, k ∉ x.c j
theorem Ft.mem_all {x : Ft} {k : Nat} : k ∈ x.all ↔ ∃ i, k ∈ x.c i := by
  simp only [Ft.all, List.mem_append]
  constructor
  · rintro (h | h | h | h | h)
    · exact ⟨0, h⟩
    · exact ⟨1, h⟩
    · exact ⟨2, h⟩
    · exact ⟨3, h⟩
    · exact ⟨4, h⟩
  · rintro ⟨i, h⟩
    match i, h with
    | 0, h => exact .inl h
    | 1, h => exact .inr (.inl h)
    | 2, h => exact .inr (.inr (.inl h))
    | 3, h => exact .inr (.inr (.inr (.inl h)))
    | 4, h => exact .inr (.inr (.inr (.inr h)))
theorem Ft.set_same (x : Ft) (i : Fin 5) (l : List Nat) : (x.set i l).c i = l := by simp [Ft.set]
theorem Ft.set_ne (x : Ft) {i j : Fin 5} (l : List Nat) (h : j ≠ i) : (x.set i l).c j = x.c j := by simp [Ft.set, h]
theorem Ft.Apart.set {x : Ft} {n : Nat} (h : x.Apart) (hlt : ∀ i, ∀ k ∈ x.c i, k < n) {i : Fin 5} {l : List Nat} (hl : ∀ k ∈ l, k ∈ x.c i ∨ n ≤ k) : (x.set i l).Apart := by
  intro a b hab k ha hb
  by_cases e1 : a = i
  · subst e1
    rw [Ft.set_same] at ha
    rw [Ft.set_ne _ _ (Ne.symm hab)] at hb
    rcases hl k ha with h1 | h1
    · exact h a b hab k h1 hb
    · have := hlt b k hb; omega
  · rw [Ft.set_ne _ _ e1] at ha
    by_cases e2 : b = i
    · subst e2
      rw [Ft.set_same] at hb
      rcases hl k hb with h1 | h1
      · exact h a b hab k ha h1
      · have := hlt a k ha; omega
    · rw [Ft.set_ne _ _ e2] at hb
      exact h a b hab k ha hb
theorem Ft.set_all {x : Ft} {n : Nat} {i : Fin 5} {l : List Nat} (hl : ∀ k ∈ l, k ∈ x.c i ∨ n ≤ k) : ∀ k ∈ (x.set i l).all, k ∈ x.all ∨ n ≤ k := by
  intro k hk
  obtain ⟨j, hj⟩ := Ft.mem_all.1 hk
  by_cases e : j = i
  · subst e
    rw [Ft.set_same] at hj
    rcases hl k hj with h | h
    · exact .inl (Ft.mem_all.2 ⟨j, h⟩)
    · exact .inr h
  · rw [Ft.set_ne _ _ e] at hj
    exact .inl (Ft.mem_all.2 ⟨j, hj⟩)
theorem Ft.sub (x : Ft) (i : Fin 5) : ∀ k ∈ x.c i, k ∈ x.all := fun k hk => Ft.mem_all.2 ⟨i, hk⟩

/-- The poller behind pointer p: its parts lie apart. K: how often a slot was used at most. -/
structure PolF (w : World) (x : Ft) (p g h mb : Nat) (vw : Value) (P : Plr) (m K : Nat) : Prop where
  row : Row w p 44 #[.pointer (some ⟨g, 0, none⟩), .pointer (some ⟨h, 0, none⟩), vw, .map (some mb)]
  net : NetA w g (x.c 0) P.net m
  slb : SlabA w h (x.c 1) P.sl K
  own : w.ownsRow 0 131 5 vw P.ws.length (fl Wch.cs P.ws)
  map : SMap w mb K P.sl.hasV
  c2 : x.c 2 = vw.ownBlock.toList
  c3 : x.c 3 = [mb]
  c4 : x.c 4 = [p]
  apt : x.Apart
  ok : P.Ok K
def PolA (w : World) (p g : Nat) (F : List Nat) (P : Plr) (m K : Nat) : Prop := ∃ x h mb vw, F = x.all ∧ PolF w x p g h mb vw P m K
/-- What a call leaves. -/
def PolTo (w w' : World) (p g : Nat) (F : List Nat) (P : Plr) (m K : Nat) : Prop := ∃ F', PolA w' p g F' P m K ∧ Mods F w w' ∧ ∀ k ∈ F', k ∈ F ∨ w.heap.size ≤ k
section
variable {w w' w1 : World} {x : Ft} {p g h mb m K m' K' : Nat} {vw : Value} {P P' : Plr} {F G : List Nat} {i j : Fin 5} {l : List Nat}
theorem PolF.lt (H : PolF w x p g h mb vw P m K) : ∀ i, ∀ k ∈ x.c i, k < w.heap.size := by
  intro i k hk
  match i, hk with
  | 0, hk => exact H.net.lt k hk
  | 1, hk => exact slabA_lt H.slb k hk
  | 2, hk => rw [H.c2] at hk; exact own_lt H.own k hk
  | 3, hk => rw [H.c3] at hk; simp at hk; rw [hk]; exact H.map.lt
  | 4, hk => rw [H.c4] at hk; simp at hk; rw [hk]; exact H.row.lt
theorem PolF.keep (H : PolF w x p g h mb vw P m K) (e : ∀ i, ∀ k ∈ x.c i, w'.heap[k]? = w.heap[k]?) : PolF w' x p g h mb vw P m K :=
  ⟨H.row.keep (e 4 p (by rw [H.c4]; simp)), H.net.keep (e 0), slabA_keep H.slb (e 1), own_keep H.own (by have := e 2; rw [H.c2] at this; exact this), H.map.keep (e 3 mb (by rw [H.c3]; simp)), H.c2, H.c3, H.c4, H.apt, H.ok⟩
theorem PolF.mods (H : PolF w x p g h mb vw P m K) (hm : Mods G w w') (hd : ∀ k ∈ x.all, k ∉ G) : PolF w' x p g h mb vw P m K :=
  H.keep fun i k hk => hm.block k (H.lt i k hk) (hd k (x.sub i k hk))
theorem PolF.quiet (H : PolF w x p g h mb vw P m K) (hm : Mods [] w w') : PolF w' x p g h mb vw P m K := H.mods hm (by simp)
/-- While part i turns the others stay. -/
theorem PolF.stay (H : PolF w x p g h mb vw P m K) (hm : Mods (x.c i) w w') (hij : j ≠ i) : ∀ k ∈ x.c j, w'.heap[k]? = w.heap[k]? := fun k hk => hm.block k (H.lt j k hk) fun hk2 => H.apt j i hij k hk hk2
theorem PolA.lt (H : PolA w p g F P m K) : ∀ k ∈ F, k < w.heap.size := by
  obtain ⟨x, h, mb, vw, rfl, H⟩ := H
  intro k hk
  obtain ⟨i, hi⟩ := Ft.mem_all.1 hk
  exact H.lt i k hi
theorem PolA.mods (H : PolA w p g F P m K) (hm : Mods G w w') (hd : ∀ k ∈ F, k ∉ G) : PolA w' p g F P m K := by
  obtain ⟨x, h, mb, vw, rfl, H⟩ := H
  exact ⟨x, h, mb, vw, rfl, H.mods hm hd⟩
theorem PolA.quiet (H : PolA w p g F P m K) (hm : Mods [] w w') : PolA w' p g F P m K := H.mods hm (by simp)
theorem PolA.ok (H : PolA w p g F P m K) : P.Ok K := by obtain ⟨x, h, mb, vw, rfl, H⟩ := H; exact H.ok
theorem PolA.nok (H : PolA w p g F P m K) : P.net.Ok m := by obtain ⟨x, h, mb, vw, rfl, H⟩ := H; exact H.net.ok
theorem PolA.more (H : PolA w p g F P m K) (hm : m ≤ m') (hm' : m' ≤ 900000000) : PolA w p g F P m' K := by
  obtain ⟨x, h, mb, vw, rfl, H⟩ := H
  exact ⟨x, h, mb, vw, rfl, H.row, H.net.more hm hm', H.slb, H.own, H.map, H.c2, H.c3, H.c4, H.apt, H.ok⟩
/-- The pointer to the net that is embedded. -/
theorem PolA.cell (H : PolA w p g F P m K) : w.cell? ⟨p, 0, none⟩ = some (.pointer (some ⟨g, 0, none⟩)) := by
  obtain ⟨x, h, mb, vw, rfl, H⟩ := H
  exact H.row.cell 0
theorem PolTo.same (H : PolA w p g F P m K) (hm : Mods [] w w') : PolTo w w' p g F P m K := ⟨F, H.quiet hm, hm.more (by simp), fun k hk => .inl hk⟩
theorem PolTo.quiet (H : PolTo w w1 p g F P m K) (hm : Mods [] w1 w') : PolTo w w' p g F P m K := by
  obtain ⟨F', h1, h2, h3⟩ := H
  exact ⟨F', h1.quiet hm, h2.trans hm (by simp), h3⟩
theorem PolTo.trans {F1 : List Nat} (hm : Mods F w w1) (hf : ∀ k ∈ F1, k ∈ F ∨ w.heap.size ≤ k) (H : PolTo w1 w' p g F1 P m K) : PolTo w w' p g F P m K := by
  obtain ⟨F', h1, h2, h3⟩ := H
  refine ⟨F', h1, hm.trans h2 hf, fun k hk => ?_⟩
  rcases h3 k hk with h | h
  · exact hf k h
  · exact .inr (Nat.le_trans hm.size h)
/-- The net has gone on. -/
theorem PolF.netTo {S : Nt} (H : PolF w x p g h mb vw P m K) (hn : NetTo w w' g (x.c 0) S m') : PolTo w w' p g x.all { P with net := S } m' K := by
  obtain ⟨N, h1, h2, h3⟩ := hn
  refine ⟨(x.set 0 N).all, ⟨x.set 0 N, h, mb, vw, rfl, H.row.keep (H.stay h2 (j := 4) (by decide) p (by rw [H.c4]; simp)), ?_, ?_, ?_, H.map.keep (H.stay h2 (j := 3) (by decide) mb (by rw [H.c3]; simp)), ?_, ?_, ?_, H.apt.set H.lt h3, ⟨H.ok.len, H.ok.lim, H.ok.dis, H.ok.sl, H.ok.rng, H.ok.tld⟩⟩, h2.more fun k hk => .inl (x.sub 0 k hk), Ft.set_all h3⟩
  · rw [Ft.set_same]; exact h1
  · rw [Ft.set_ne _ _ (by decide)]; exact slabA_keep H.slb (H.stay h2 (by decide))
  · exact own_keep H.own (by have := H.stay h2 (j := 2) (by decide); rw [H.c2] at this; exact this)
  · rw [Ft.set_ne _ _ (by decide)]; exact H.c2
  · rw [Ft.set_ne _ _ (by decide)]; exact H.c3
  · rw [Ft.set_ne _ _ (by decide)]; exact H.c4
/-- For a call on the net that is embedded. -/
theorem PolA.open_ (H : PolA w p g F P m K) : ∃ N, NetA w g N P.net m ∧ (∀ k ∈ N, k ∈ F) ∧ ∀ w' S m', NetTo w w' g N S m' → PolTo w w' p g F { P with net := S } m' K := by
  obtain ⟨x, h, mb, vw, rfl, H⟩ := H
  exact ⟨x.c 0, H.net, x.sub 0, fun w' S m' hn => H.netTo hn⟩
end
theorem eql_ppol (p : Option Addr) (w : World) : (binOp .eql 34 (.pointer p) (.pointer none)).run Tryd.prog w = .ok (.bool p.isNone) w :=
  run_eql_pointer_nil _ _ _ (by kernel_rfl)
theorem eql_pnet (p : Option Addr) (w : World) : (binOp .eql 27 (.pointer p) (.pointer none)).run Tryd.prog w = .ok (.bool p.isNone) w :=
  run_eql_pointer_nil _ _ _ (by kernel_rfl)
theorem pnew_nil (w : World) : Calls Tryd.prog 11 #[.pointer none] w fun e w' => e = .returned (.tuple #[.pointer none, .int .i64 1]) ∧ w = w' := by
  have hn := eql_pnet
  go_enter Tryd.func11, Tryd.ntmps11
  go_wp2
  go_ret2
  exact ⟨rfl, rfl⟩
theorem Slb.new_has (n : Nat) (z : Int) : (⟨n, [], [], []⟩ : Slb).hasV z = false := by simp [Slb.hasV]
theorem Plr.new_ok (S : Nt) : (Plr.new S).Ok 0 :=
  ⟨rfl, rfl, fun i j h => by simp [Plr.new] at h, ⟨by simp [Plr.new], by simp [Plr.new], by simp [Plr.new], rfl, rfl, by simp [Plr.new]⟩, by simp [Plr.new], by simp [Plr.new]⟩
theorem PolA.born {w w1 : World} {g m : Nat} {N : List Nat} {S : Nt} (h : NetA w g N S m) (hs : SlabA w1 w.heap.size [w.heap.size] (Slb.new 4096) 0) (hm : Mods [] w w1) (cs : Array Value)
    (hc : cs = #[.pointer (some ⟨g, 0, none⟩), .pointer (some ⟨w.heap.size, 0, none⟩), .slice none 0 0, .map (some w1.heap.size)]) :
    ∃ F, PolA ((w1.alloc (.map #[] 0)).alloc (.cells cs 44)) (w1.heap.size + 1) g F (Plr.new S) m 0 ∧ Mods [] w ((w1.alloc (.map #[] 0)).alloc (.cells cs 44)) ∧ ∀ k ∈ F, k ∈ N ∨ w.heap.size ≤ k := by
  subst hc
  have hlt := slabA_lt hs w.heap.size (by simp)
  have hq : Mods [] w1 ((w1.alloc (.map #[] 0)).alloc (.cells #[.pointer (some ⟨g, 0, none⟩), .pointer (some ⟨w.heap.size, 0, none⟩), .slice none 0 0, .map (some w1.heap.size)] 44)) := ((Mods.refl [] w1).alloc _).alloc _
  have hN := fun k hk => h.lt k hk
  refine ⟨_, ⟨⟨fun i => match i with | 0 => N | 1 => [w.heap.size] | 2 => [] | 3 => [w1.heap.size] | 4 => [w1.heap.size + 1]⟩, w.heap.size, w1.heap.size, .slice none 0 0, rfl, ?_, ?_, ?_, ?_, ?_, rfl, rfl, rfl, ?_, Plr.new_ok S⟩, hm.trans hq (by simp), ?_⟩
  · have := Row.new (w1.alloc (.map #[] 0)) 44 #[.pointer (some ⟨g, 0, none⟩), .pointer (some ⟨w.heap.size, 0, none⟩), .slice none 0 0, .map (some w1.heap.size)]
    simpa using this
  · exact h.quiet (hm.trans hq (by simp))
  · exact slabA_mods hs hq (by simp)
  · exact World.ownsRow_nil _ _ _ _
  · refine (SMap.same (SMap.made w1) fun a => ((Slb.new_has _ a).symm)).keep ?_
    exact Below.heap_alloc (w1.alloc (.map #[] 0)) _ _ (by simp)
  · intro i j hij k hi hj
    match i, j with
    | 0, 0 => exact hij rfl
    | 0, 1 => simp at hi hj; have := hN k hi; omega
    | 0, 2 => simp at hj
    | 0, 3 => simp at hi hj; have := hN k hi; omega
    | 0, 4 => simp at hi hj; have := hN k hi; omega
    | 1, 0 => simp at hi hj; have := hN k hj; omega
    | 1, 1 => exact hij rfl
    | 1, 2 => simp at hj
    | 1, 3 => simp at hi hj; omega
    | 1, 4 => simp at hi hj; omega
    | 2, _ => simp at hi
    | 3, 0 => simp at hi hj; have := hN k hj; omega
    | 3, 1 => simp at hi hj; omega
    | 3, 2 => simp at hj
    | 3, 3 => exact hij rfl
    | 3, 4 => simp at hi hj; omega
    | 4, 0 => simp at hi hj; have := hN k hj; omega
    | 4, 1 => simp at hi hj; omega
    | 4, 2 => simp at hj
    | 4, 3 => simp at hi hj; omega
    | 4, 4 => exact hij rfl
  · intro k hk
    simp only [Ft.all, List.mem_append, List.mem_cons, List.mem_nil_iff, or_false, false_or] at hk
    rcases hk with hk | hk | hk | hk
    · exact .inl hk
    · exact .inr (by omega)
    · exact .inr (by omega)
    · exact .inr (by omega)
theorem pnew_any (w : World) (g m : Nat) (N : List Nat) (S : Nt) (h : NetA w g N S m) : Calls Tryd.prog 11 #[.pointer (some ⟨g, 0, none⟩)] w fun e w' =>
    ∃ p, e = .returned (.tuple #[.pointer (some ⟨p, 0, none⟩), .int .i64 0]) ∧ Hid (∃ F, PolA w' p g F (Plr.new S) m 0 ∧ Mods [] w w' ∧ ∀ k ∈ F, k ∈ N ∨ w.heap.size ≤ k) := by
  have hn := eql_pnet
  have hmm := @run_makeMap Tryd.prog
  have HA := Lib.hid h
  clear h
  go_enter Tryd.func11, Tryd.ntmps11
  go_wp2_with fail
  refine (new_any 4096 w (by omega) (by omega)).mono ?_
  rintro e w1 ⟨rfl, hs, hm⟩
  have HS := Lib.hid hs
  have HM := Lib.hid hm
  clear hs hm
  go_wp2
  go_ret2
  exact ⟨_, rfl, Lib.hid (PolA.born HA.out HS.out HM.out _ rfl)⟩
end Go.Proofs.YthaapkafamdhcaaDoor

/- What Watched, isWatched, ask, tell of a direction, Change of the program's poller answer. -/
namespace Go.Proofs.YthaapkafamdhcaaDoor
open Go.RowKit
set_option maxRecDepth 10000
set_option linter.unusedVariables false
set_option linter.unusedSimpArgs false

theorem watched_nil (w : World) : Calls Tryd.prog 15 #[.pointer none] w fun e w' => e = .returned (.int .i64 0) ∧ w = w' := by
  have hn := eql_ppol
  go_enter Tryd.func15, Tryd.ntmps15
  go_wp2
  go_ret
  exact ⟨rfl, rfl⟩
theorem watched_any (w : World) (p g m K : Nat) (F : List Nat) (P : Plr) (h : PolA w p g F P m K) : Calls Tryd.prog 15 #[.pointer (some ⟨p, 0, none⟩)] w fun e w' => e = .returned (.int .i64 (P.sl.cnt : Nat)) ∧ w = w' := by
  have hn := eql_ppol
  obtain ⟨x, hs, mb, vw, rfl, H⟩ := h
  have c1 := H.row.cell 1
  have HH := Lib.hid H
  clear H
  go_enter Tryd.func15, Tryd.ntmps15
  go_wp2_with fail
  refine (slen_any w hs _ P.sl K HH.out.slb).mono ?_
  rintro e w1 ⟨rfl, rfl⟩
  go_wp2
  go_ret
  exact ⟨rfl, rfl⟩
theorem isw_any (w : World) (x : Ft) (p g h mb m K : Nat) (vw : Value) (P : Plr) (H : PolF w x p g h mb vw P m K) (c : Int) (hc : -9223372036854775808 ≤ c ∧ c ≤ 9223372036854775807) :
    Calls Tryd.prog 58 #[.pointer (some ⟨p, 0, none⟩), .int .i64 c] w fun e w' => e = .returned (.bool (P.sl.hasV c)) ∧ Mods [] w w' := by
  have c3 := H.row.cell 3
  have hl := H.map.look hc
  clear H hc
  go_enter Tryd.func58, Tryd.ntmps58
  go_wp2
  go_ret
  exact ⟨rfl, (Mods.refl [] w).alloc _⟩
/-! The rows of what is watched. -/
section
variable {w : World} {vb n cap i j : Nat} {ws : List Wch} {x x' : Wch} {u : Value}
def WsAt (w : World) (vb cap : Nat) (ws : List Wch) : Prop := w.ownsRow 0 131 5 (.slice (some ⟨vb, 0, none⟩) ws.length cap) ws.length (fl Wch.cs ws)
theorem at_lt {α : Type} {l : List α} {i : Nat} {x : α} (h : l[i]? = some x) : i < l.length := (List.getElem?_eq_some_iff.1 h).1
theorem WsAt.cell (h : WsAt w vb cap ws) (hx : ws[i]? = some x) (hj : j < 5) : w.cell? ⟨vb, i * 5 + j, none⟩ = x.cs[j]? := by
  have hi := at_lt hx
  rw [World.ownsRow.cellAt h (i * 5 + j) (by omega)]
  exact fl_at Wch.cs_len hx hj
theorem WsAt.free (h : WsAt w vb cap ws) (j : Nat) : w.frozen? ⟨vb, j, none⟩ = false := World.ownsRow.frozenAt h j
theorem WsAt.mods {G : List Nat} {w' : World} (h : WsAt w vb cap ws) (hm : Mods G w w') (hn : vb ∉ G) : WsAt w' vb cap ws := own_mods h hm (by simpa [Value.ownBlock] using hn)
theorem WsAt.put (h : WsAt w vb cap ws) (hx : ws[i]? = some x) (hj : j < 5) (he : x'.cs = x.cs.set j u) : WsAt (w.setCell ⟨vb, i * 5 + j, none⟩ u) vb cap (ws.set i x') := by
  have h1 := (World.ownsRow.stored h (i * 5 + j) u).1
  rw [fl_set Wch.cs_len hx hj he] at h1
  unfold WsAt
  rw [List.length_set]
  exact h1
end
theorem set_set' {α : Type} (l : List α) (i : Nat) (x y : α) : (l.set i x).set i y = l.set i y := by simp
theorem get_set' {α : Type} {l : List α} {i : Nat} {x : α} (y : α) (h : l[i]? = some x) : (l.set i y)[i]? = some y := by
  have := at_lt h
  simp [this]
theorem set_self3 {α : Type} {l : List α} {i : Nat} {x : α} (h : l[i]? = some x) : l.set i x = l := by
  apply List.ext_getElem?
  intro j
  rw [List.getElem?_set]
  split
  · rename_i e
    subst e
    rw [if_pos (at_lt h), h]
  · rfl
theorem ask_any (w : World) (vb cap i : Nat) (ws : List Wch) (x : Wch) (h : WsAt w vb cap ws) (hx : ws[i]? = some x) (r s : Bool) :
    Calls Tryd.prog 60 #[.pointer (some ⟨vb, i * 5, none⟩), .bool r, .bool s] w fun e w' => e = .returned (.tuple #[]) ∧ Hid (WsAt w' vb cap (ws.set i (x.asked r s)) ∧ Mods [vb] w w') := by
  have c1 := h.cell hx (j := 1) (by omega)
  have c2 := h.cell hx (j := 2) (by omega)
  have c3 := h.cell hx (j := 3) (by omega)
  have c4 := h.cell hx (j := 4) (by omega)
  simp only [Wch.cs] at c1 c2 c3 c4
  have f0 := h.free
  have HH := Lib.hid (And.intro h hx)
  clear h hx
  go_enter Tryd.func60, Tryd.ntmps60
  go_wp2
  go_end0
  refine ⟨rfl, Lib.hid ⟨?_, ((((Mods.refl _ w).setCell (.inl (by simp)) _).setCell (.inl (by simp)) _).setCell (.inl (by simp)) _).setCell (.inl (by simp)) _⟩⟩
  obtain ⟨h, hx⟩ := HH.out
  have g1 := get_set' (⟨r, x.wr, x.eg, x.tr, x.tw⟩ : Wch) hx
  have h1 := h.put (x' := ⟨r, x.wr, x.eg, x.tr, x.tw⟩) (u := .bool r) hx (j := 1) (by omega) rfl
  have g2 := get_set' (⟨r, x.wr, x.eg, 0, x.tw⟩ : Wch) g1
  have h2 := h1.put (x' := ⟨r, x.wr, x.eg, 0, x.tw⟩) (u := .int .i64 0) g1 (j := 2) (by omega) rfl
  have g3 := get_set' (⟨r, s, x.eg, 0, x.tw⟩ : Wch) g2
  have h3 := h2.put (x' := ⟨r, s, x.eg, 0, x.tw⟩) (u := .bool s) g2 (j := 3) (by omega) rfl
  have h4 := h3.put (x' := ⟨r, s, x.eg, 0, 0⟩) (u := .int .i64 0) g3 (j := 4) (by omega) rfl
  simp only [set_set'] at h4
  exact h4
theorem dtell_any (w : World) (b o : Nat) (a ed : Bool) (t m : Int) (c0 : w.cell? ⟨b, o, none⟩ = some (.bool a)) (c1 : w.cell? ⟨b, o + 1, none⟩ = some (.int .i64 t)) (f0 : ∀ j, w.frozen? ⟨b, j, none⟩ = false) :
    Calls Tryd.prog 78 #[.pointer (some ⟨b, o, none⟩), .int .i64 m, .bool ed] w fun e w' => e = .returned (.bool (a && (!ed || decide (t < m)))) ∧ w' = if (a && (!ed || decide (t < m))) then w.setCell ⟨b, o + 1, none⟩ (.int .i64 m) else w := by
  cases a
  · go_enter Tryd.func78, Tryd.ntmps78
    go_wp2
    go_ret
    exact ⟨rfl, rfl⟩
  · cases ed
    · go_enter Tryd.func78, Tryd.ntmps78
      go_wp2
      go_ret
      exact ⟨rfl, rfl⟩
    · by_cases hlt : t < m
      · have h1 : ¬ m ≤ t := by omega
        have HT := Lib.hid hlt
        clear hlt
        go_enter Tryd.func78, Tryd.ntmps78
        go_wp2
        go_ret
        have := HT.out
        exact ⟨by simp [this], by simp [this]⟩
      · have h1 : m ≤ t := by omega
        have HT := Lib.hid hlt
        clear hlt
        go_enter Tryd.func78, Tryd.ntmps78
        go_wp2
        go_ret
        have := HT.out
        exact ⟨by simp [this], by simp [this]⟩
/-- The read direction of watch i. -/
theorem rtell_any (w : World) (vb cap i : Nat) (ws : List Wch) (x : Wch) (h : WsAt w vb cap ws) (hx : ws[i]? = some x) (m : Nat) :
    Calls Tryd.prog 78 #[.pointer (some ⟨vb, i * 5 + 1, none⟩), .int .i64 (m : Int), .bool x.eg] w fun e w' => e = .returned (.bool (x.tellR true m)) ∧ Hid (WsAt w' vb cap (ws.set i ⟨x.rd, x.wr, x.eg, if x.tellR true m then m else x.tr, x.tw⟩) ∧ Mods [vb] w w') := by
  have c1 := h.cell hx (j := 1) (by omega)
  have c2 := h.cell hx (j := 2) (by omega)
  simp only [Wch.cs] at c1 c2
  have e : (x.rd && (!x.eg || decide ((x.tr : Int) < (m : Int)))) = x.tellR true m := by simp [Wch.tellR]
  refine (dtell_any w vb (i * 5 + 1) x.rd x.eg x.tr m c1 c2 h.free).mono fun e' w' he => ?_
  rw [e] at he
  refine ⟨he.1, Lib.hid ?_⟩
  rw [he.2]
  cases hb : x.tellR true m with
  | false =>
    simp only [Bool.false_eq_true, if_false]
    refine ⟨?_, Mods.refl _ _⟩
    rw [show (⟨x.rd, x.wr, x.eg, x.tr, x.tw⟩ : Wch) = x from rfl, set_self3 hx]
    exact h
  | true =>
    simp only [if_true]
    exact ⟨h.put hx (j := 2) (by omega) rfl, (Mods.refl _ w).setCell (.inl (by simp)) _⟩
theorem wtell_any (w : World) (vb cap i : Nat) (ws : List Wch) (x : Wch) (h : WsAt w vb cap ws) (hx : ws[i]? = some x) (m : Nat) :
    Calls Tryd.prog 78 #[.pointer (some ⟨vb, i * 5 + 3, none⟩), .int .i64 (m : Int), .bool x.eg] w fun e w' => e = .returned (.bool (x.tellW true m)) ∧ Hid (WsAt w' vb cap (ws.set i ⟨x.rd, x.wr, x.eg, x.tr, if x.tellW true m then m else x.tw⟩) ∧ Mods [vb] w w') := by
  have c1 := h.cell hx (j := 3) (by omega)
  have c2 := h.cell hx (j := 4) (by omega)
  simp only [Wch.cs] at c1 c2
  have e : (x.wr && (!x.eg || decide ((x.tw : Int) < (m : Int)))) = x.tellW true m := by simp [Wch.tellW]
  refine (dtell_any w vb (i * 5 + 3) x.wr x.eg x.tw m c1 c2 h.free).mono fun e' w' he => ?_
  rw [e] at he
  refine ⟨he.1, Lib.hid ?_⟩
  rw [he.2]
  cases hb : x.tellW true m with
  | false =>
    simp only [Bool.false_eq_true, if_false]
    refine ⟨?_, Mods.refl _ _⟩
    rw [show (⟨x.rd, x.wr, x.eg, x.tr, x.tw⟩ : Wch) = x from rfl, set_self3 hx]
    exact h
  | true =>
    simp only [if_true]
    exact ⟨h.put hx (j := 4) (by omega) rfl, (Mods.refl _ w).setCell (.inl (by simp)) _⟩
#print axioms wtell_any
end Go.Proofs.YthaapkafamdhcaaDoor

/- What Change of the program's poller answers. -/
namespace Go.Proofs.YthaapkafamdhcaaDoor
open Go.RowKit
set_option maxRecDepth 10000
set_option linter.unusedVariables false
set_option linter.unusedSimpArgs false

theorem change_nil (w : World) (a b : Int) (r s : Bool) : Calls Tryd.prog 24 #[.pointer none, .agg #[.int .i64 a, .int .i64 b], .bool r, .bool s] w fun e w' => e = .returned (.int .i64 1) ∧ Mods [] w w' := by
  have hn := eql_ppol
  go_enter Tryd.func24, Tryd.ntmps24
  go_wp2
  go_ret
  exact ⟨rfl, (Mods.refl [] w).alloc _⟩
theorem change_no (w : World) (p g m K : Nat) (F : List Nat) (P : Plr) (h : PolA w p g F P m K) (a b : Int) (r s : Bool) (ha : -9223372036854775808 ≤ a ∧ a ≤ 9223372036854775807) (hi : P.sl.is a b = false) :
    Calls Tryd.prog 24 #[.pointer (some ⟨p, 0, none⟩), .agg #[.int .i64 a, .int .i64 b], .bool r, .bool s] w fun e w' => e = .returned (.int .i64 10) ∧ Mods [] w w' := by
  have hn := eql_ppol
  obtain ⟨x, hs, mb, vw, rfl, H⟩ := h
  have c1 : (w.alloc (.cells #[.int .i64 a, .int .i64 b] 47)).cell? ⟨p, 1, none⟩ = some (.pointer (some ⟨hs, 0, none⟩)) := cell_alloc (H.row.cell 1) _
  have d0 : (w.alloc (.cells #[.int .i64 a, .int .i64 b] 47)).cell? ⟨w.heap.size, 0, none⟩ = some (.int .i64 a) := (Row.new w 47 #[.int .i64 a, .int .i64 b]).cell 0
  have d1 : (w.alloc (.cells #[.int .i64 a, .int .i64 b] 47)).cell? ⟨w.heap.size, 1, none⟩ = some (.int .i64 b) := (Row.new w 47 #[.int .i64 a, .int .i64 b]).cell 1
  have HH := Lib.hid (H.slb)
  have HB := Lib.hid ha
  have HI := Lib.hid hi
  clear H hi ha
  go_enter Tryd.func24, Tryd.ntmps24
  go_upto_region 3 with fail
  go_region_held3 (fun w' => w'.cell? ⟨p, 1, none⟩ = some (.pointer (some ⟨hs, 0, none⟩)) ∧ w'.cell? ⟨w.heap.size, 0, none⟩ = some (.int .i64 a) ∧ w'.cell? ⟨w.heap.size, 1, none⟩ = some (.int .i64 b)) (go_keep)
    ((go_at_call 65; refine Calls.mono (get_no _ hs a b (x.c 1) P.sl K HB.out.1 HB.out.2 (slabA_mods HH.out (((Mods.refl [] w).alloc _).same rfl rfl rfl rfl) (by simp)) HI.out) ?_; rintro e w1 ⟨rfl, hd⟩; have H1 := Lib.hid (of_drew hd); have c1' := cell_mods c1 (of_drew hd) (by simp); have d0' := cell_mods d0 (of_drew hd) (by simp); have d1' := cell_mods d1 (of_drew hd) (by simp); clear hd))
  all_goals go_wp2
  all_goals go_ret
  all_goals exact ⟨rfl, ((Mods.refl [] w).alloc _).trans H1.out (by simp)⟩
section
variable {w w' : World} {x : Ft} {p g h mb m K vb cap i : Nat} {vw : Value} {P : Plr} {ws : List Wch}
theorem PolF.row2 (H : PolF w x p g h mb vw P m K) (hi : i < P.ws.length) : ∃ vb cap, vw = .slice (some ⟨vb, 0, none⟩) P.ws.length cap ∧ P.ws.length ≤ cap ∧ cap ≤ maxLen ∧ WsAt w vb cap P.ws ∧ x.c 2 = [vb] := by
  obtain ⟨vb, cap, rfl, h1, h2, h3⟩ := own_some H.own (by omega)
  exact ⟨vb, cap, rfl, h2, h3, H.own, by rw [H.c2]; simp [Value.ownBlock]⟩
theorem PolF.wsAt (H : PolF w x p g h mb (.slice (some ⟨vb, 0, none⟩) P.ws.length cap) P m K) (hw : WsAt w' vb cap ws) (hm : Mods [vb] w w') (hl : ws.length = P.ws.length) (ht : ∀ y ∈ ws, y.tr ≤ 900000000 ∧ y.tw ≤ 900000000) : PolF w' x p g h mb (.slice (some ⟨vb, 0, none⟩) P.ws.length cap) { P with ws := ws } m K ∧ Mods x.all w w' := by
  have hc : x.c 2 = [vb] := by rw [H.c2]; simp [Value.ownBlock]
  rw [← hc] at hm
  refine ⟨⟨H.row.keep (H.stay hm (j := 4) (by decide) p (by rw [H.c4]; simp)), H.net.keep (H.stay hm (by decide)), slabA_keep H.slb (H.stay hm (by decide)), ?_, H.map.keep (H.stay hm (j := 3) (by decide) mb (by rw [H.c3]; simp)), H.c2, H.c3, H.c4, H.apt, ⟨hl.trans H.ok.len, H.ok.lim, H.ok.dis, H.ok.sl, H.ok.rng, ht⟩⟩, hm.more fun k hk => .inl (x.sub 2 k hk)⟩
  unfold WsAt at hw
  rw [hl] at hw ⊢
  exact hw
theorem PolF.wsTo (H : PolF w x p g h mb (.slice (some ⟨vb, 0, none⟩) P.ws.length cap) P m K) (hw : WsAt w' vb cap ws) (hm : Mods [vb] w w') (hl : ws.length = P.ws.length) (ht : ∀ y ∈ ws, y.tr ≤ 900000000 ∧ y.tw ≤ 900000000) : PolTo w w' p g x.all { P with ws := ws } m K :=
  ⟨x.all, ⟨x, h, mb, _, rfl, (H.wsAt hw hm hl ht).1⟩, (H.wsAt hw hm hl ht).2, fun k hk => .inl hk⟩
theorem Plr.Ok.wch (H : P.Ok K) (hi : i < P.ws.length) : P.ws[i]? = some (P.wch i) := by
  unfold Plr.wch
  rw [List.getD_eq_getElem?_getD, List.getElem?_eq_getElem hi]
  rfl
end
theorem mem_set_or {α : Type} {l : List α} {i : Nat} {x y : α} (h : y ∈ l.set i x) : y ∈ l ∨ y = x := (List.mem_or_eq_of_mem_set h)
theorem change_yes (w : World) (p g m K i : Nat) (F : List Nat) (P : Plr) (h : PolA w p g F P m K) (b : Int) (r s : Bool) (hi : P.sl.is i b = true) :
    Calls Tryd.prog 24 #[.pointer (some ⟨p, 0, none⟩), .agg #[.int .i64 i, .int .i64 b], .bool r, .bool s] w fun e w' => e = .returned (.int .i64 0) ∧ Hid (PolTo w w' p g F (P.change i b r s) m K) := by
  have hn := eql_ppol
  obtain ⟨x, hs, mb, vw, rfl, H⟩ := h
  obtain ⟨-, hlt, -, -⟩ := Slb.is_lt hi
  rw [Int.toNat_natCast] at hlt
  have hok := H.ok.sl
  have h4 := hok.len
  have h5 := hok.hi
  have hlw : i < P.ws.length := by rw [H.ok.len]; exact hlt
  obtain ⟨vb, cap, rfl, hcap, hmx, hW, hc2⟩ := H.row2 hlw
  have hx := H.ok.wch hlw
  have c1 : (w.alloc (.cells #[.int .i64 i, .int .i64 b] 47)).cell? ⟨p, 1, none⟩ = some (.pointer (some ⟨hs, 0, none⟩)) := cell_alloc (H.row.cell 1) _
  have c2 : (w.alloc (.cells #[.int .i64 i, .int .i64 b] 47)).cell? ⟨p, 2, none⟩ = some (.slice (some ⟨vb, 0, none⟩) P.ws.length cap) := cell_alloc (H.row.cell 2) _
  have d0 : (w.alloc (.cells #[.int .i64 i, .int .i64 b] 47)).cell? ⟨w.heap.size, 0, none⟩ = some (.int .i64 i) := (Row.new w 47 #[.int .i64 i, .int .i64 b]).cell 0
  have d1 : (w.alloc (.cells #[.int .i64 i, .int .i64 b] 47)).cell? ⟨w.heap.size, 1, none⟩ = some (.int .i64 b) := (Row.new w 47 #[.int .i64 i, .int .i64 b]).cell 1
  have N1 := Lib.hid (show p ∉ [vb] by
    intro h0
    obtain rfl := List.mem_singleton.1 h0
    exact H.apt 4 2 (by decide) p (by rw [H.c4]; simp) (by rw [hc2]; simp))
  have N2 := Lib.hid (show w.heap.size ∉ [vb] by
    intro h0
    obtain rfl := List.mem_singleton.1 h0
    exact Nat.lt_irrefl _ (H.lt 2 w.heap.size (by rw [hc2]; simp)))
  have HH := Lib.hid H
  have HI := Lib.hid hi
  have HW := Lib.hid hW
  have HC := Lib.hid (fun (wz : World) (hz : Mods [] w wz) => ask_any wz vb cap i P.ws (P.wch i) (hW.mods hz (by simp)) hx r s)
  have HL := Lib.hid (show i < 4096 by omega)
  have g1 : (i : Int) < (P.ws.length : Int) := by omega
  have g0 : (0 : Int) ≤ (i : Int) := by omega
  clear H hi hW hx hok h4 h5 hlt hlw hcap hmx hc2
  go_enter Tryd.func24, Tryd.ntmps24
  go_upto_region 3 with fail
  go_region_held3 (fun w' => w'.cell? ⟨p, 1, none⟩ = some (.pointer (some ⟨hs, 0, none⟩)) ∧ w'.cell? ⟨w.heap.size, 0, none⟩ = some (.int .i64 i) ∧ w'.cell? ⟨w.heap.size, 1, none⟩ = some (.int .i64 b)) (go_keep)
    ((go_at_call 65; refine Calls.mono (get_yes _ hs i b (x.c 1) P.sl K HL.out (slabA_mods HH.out.slb (((Mods.refl [] w).alloc _).same rfl rfl rfl rfl) (by simp)) HI.out) ?_; rintro e w1 ⟨rfl, hd⟩; have H1 := Lib.hid (of_drew hd); have c1' := cell_mods c1 (of_drew hd) (by simp); have c2' := cell_mods c2 (of_drew hd) (by simp); have d0' := cell_mods d0 (of_drew hd) (by simp); have d1' := cell_mods d1 (of_drew hd) (by simp); clear hd))
  all_goals clear c1 c2 d0 d1
  all_goals go_upto_region 6 with fail
  all_goals
    have HM := Lib.hid (((Mods.refl [] w).alloc _).trans H1.out (by simp))
    go_region_held3 (fun w' => w'.cell? ⟨p, 2, none⟩ = some (.slice (some ⟨vb, 0, none⟩) P.ws.length cap) ∧ w'.cell? ⟨w.heap.size, 0, none⟩ = some (.int .i64 i)) (go_keep)
      ((go_at_call 60; refine Calls.mono (HC.out _ ?_) ?_; exact HM.out.same rfl rfl rfl rfl; rintro e w2 ⟨rfl, hd⟩; have H2 := Lib.hid (And.intro hd.out.1 (of_drew hd.out.2)); have c2'' := cell_mods c2' H2.out.2 (N1.out); have d0'' := cell_mods d0' H2.out.2 (N2.out); clear hd))
  all_goals go_wp2
  all_goals go_ret
  all_goals
    refine ⟨rfl, Lib.hid ?_⟩
    have e : P.change i b r s = { P with ws := P.ws.set i ((P.wch i).asked r s) } := by unfold Plr.change; rw [if_pos HI.out]; rfl
    rw [e]
    refine PolTo.trans (HM.out.more (by simp)) (fun k hk => .inl hk) ((HH.out.quiet HM.out).wsTo H2.out.1 H2.out.2 (by simp) (fun y hy => ?_))
    rcases mem_set_or hy with h | h
    · exact HH.out.ok.tld y h
    · rw [h]; simp [Wch.asked]
#print axioms change_yes
end Go.Proofs.YthaapkafamdhcaaDoor

/- The program's poller while a call goes on: its parts turn one after another. -/
namespace Go.Proofs.YthaapkafamdhcaaDoor
open Go.RowKit
set_option maxRecDepth 10000
set_option linter.unusedVariables false
set_option linter.unusedSimpArgs false

/-- From w to w' the blocks F, and new ones, have turned; F' are they, or new. -/
structure Stp (w w' : World) (F F' : List Nat) : Prop where
  m : Mods F w w'
  f : ∀ k ∈ F', k ∈ F ∨ w.heap.size ≤ k
section
variable {w w' w1 w2 : World} {F F1 F2 : List Nat}
theorem Stp.trans (h1 : Stp w w1 F F1) (h2 : Stp w1 w2 F1 F2) : Stp w w2 F F2 := ⟨h1.m.trans h2.m h1.f, fun k hk => by
  rcases h2.f k hk with h | h
  · exact h1.f k h
  · exact .inr (Nat.le_trans h1.m.size h)⟩
theorem Stp.quiet (hm : Mods [] w w') : Stp w w' F F := ⟨hm.more (by simp), fun k hk => .inl hk⟩
end
/-- The poller's parts, each as it stands now. -/
structure PolG (w : World) (x : Ft) (p g h mb : Nat) (vw : Value) (P : Plr) (f : Int → Bool) (m K n : Nat) : Prop where
  row : Row w p 44 #[.pointer (some ⟨g, 0, none⟩), .pointer (some ⟨h, 0, none⟩), vw, .map (some mb)]
  net : NetA w g (x.c 0) P.net m
  slb : SlabA w h (x.c 1) P.sl K
  own : w.ownsRow 0 131 5 vw P.ws.length (fl Wch.cs P.ws)
  map : SMap w mb n f
  c2 : x.c 2 = vw.ownBlock.toList
  c3 : x.c 3 = [mb]
  c4 : x.c 4 = [p]
  apt : x.Apart
section
variable {w w' w1 : World} {x : Ft} {p g h mb m K n vb cap i : Nat} {vw : Value} {P P' : Plr} {f : Int → Bool} {us : List Wch} {F G : List Nat}
theorem PolF.toG (H : PolF w x p g h mb vw P m K) : PolG w x p g h mb vw P P.sl.hasV m K K := ⟨H.row, H.net, H.slb, H.own, H.map, H.c2, H.c3, H.c4, H.apt⟩
theorem PolG.toF (H : PolG w x p g h mb vw P f m K n) (hk : P.Ok K) (hf : ∀ a, f a = P.sl.hasV a) (hn : n ≤ K) : PolF w x p g h mb vw P m K := ⟨H.row, H.net, H.slb, H.own, (H.map.mono hn).same hf, H.c2, H.c3, H.c4, H.apt, hk⟩
theorem PolG.lt (H : PolG w x p g h mb vw P f m K n) : ∀ i, ∀ k ∈ x.c i, k < w.heap.size := by
  intro i k hk
  match i, hk with
  | 0, hk => exact H.net.lt k hk
  | 1, hk => exact slabA_lt H.slb k hk
  | 2, hk => rw [H.c2] at hk; exact own_lt H.own k hk
  | 3, hk => rw [H.c3] at hk; simp at hk; rw [hk]; exact H.map.lt
  | 4, hk => rw [H.c4] at hk; simp at hk; rw [hk]; exact H.row.lt
theorem PolG.keep (H : PolG w x p g h mb vw P f m K n) (e : ∀ i, ∀ k ∈ x.c i, w'.heap[k]? = w.heap[k]?) : PolG w' x p g h mb vw P f m K n :=
  ⟨H.row.keep (e 4 p (by rw [H.c4]; simp)), H.net.keep (e 0), slabA_keep H.slb (e 1), own_keep H.own (by have := e 2; rw [H.c2] at this; exact this), H.map.keep (e 3 mb (by rw [H.c3]; simp)), H.c2, H.c3, H.c4, H.apt⟩
theorem PolG.mods (H : PolG w x p g h mb vw P f m K n) (hm : Mods G w w') (hd : ∀ i, ∀ k ∈ x.c i, k ∉ G) : PolG w' x p g h mb vw P f m K n :=
  H.keep fun i k hk => hm.block k (H.lt i k hk) (hd i k hk)
theorem PolG.quiet (H : PolG w x p g h mb vw P f m K n) (hm : Mods [] w w') : PolG w' x p g h mb vw P f m K n := H.mods hm (by simp)
theorem PolG.stay (H : PolG w x p g h mb vw P f m K n) {i j : Fin 5} (hm : Mods (x.c i) w w') (hij : j ≠ i) : ∀ k ∈ x.c j, w'.heap[k]? = w.heap[k]? := fun k hk => hm.block k (H.lt j k hk) fun hk2 => H.apt j i hij k hk hk2
/-- The slab has turned. -/
theorem PolG.slab {B : Slb} {K' : Nat} (H : PolG w x p g h mb vw P f m K n) (hs : ∃ F', SlabA w' h F' B K' ∧ Mods (x.c 1) w w' ∧ ∀ k ∈ F', k ∈ x.c 1 ∨ w.heap.size ≤ k) : ∃ x', PolG w' x' p g h mb vw { P with sl := B } f m K' n ∧ Stp w w' x.all x'.all ∧ ∀ i, i ≠ 1 → x'.c i = x.c i := by
  obtain ⟨N, h1, h2, h3⟩ := hs
  refine ⟨x.set 1 N, ⟨H.row.keep (H.stay h2 (j := 4) (by decide) p (by rw [H.c4]; simp)), ?_, ?_, ?_, H.map.keep (H.stay h2 (j := 3) (by decide) mb (by rw [H.c3]; simp)), ?_, ?_, ?_, H.apt.set H.lt h3⟩, ⟨h2.more fun k hk => .inl (x.sub 1 k hk), Ft.set_all h3⟩, fun i hi => Ft.set_ne _ _ hi⟩
  · rw [Ft.set_ne _ _ (by decide)]; exact H.net.keep (H.stay h2 (by decide))
  · rw [Ft.set_same]; exact h1
  · exact own_keep H.own (by have := H.stay h2 (j := 2) (by decide); rw [H.c2] at this; exact this)
  · rw [Ft.set_ne _ _ (by decide)]; exact H.c2
  · rw [Ft.set_ne _ _ (by decide)]; exact H.c3
  · rw [Ft.set_ne _ _ (by decide)]; exact H.c4
/-- One watch has turned. -/
theorem PolG.put (H : PolG w x p g h mb (.slice (some ⟨vb, 0, none⟩) P.ws.length cap) P f m K n) (hw : WsAt w' vb cap us) (hm : Mods [vb] w w') (hl : us.length = P.ws.length) : PolG w' x p g h mb (.slice (some ⟨vb, 0, none⟩) P.ws.length cap) { P with ws := us } f m K n ∧ Stp w w' x.all x.all := by
  have hc : x.c 2 = [vb] := by rw [H.c2]; simp [Value.ownBlock]
  rw [← hc] at hm
  refine ⟨⟨H.row.keep (H.stay hm (j := 4) (by decide) p (by rw [H.c4]; simp)), H.net.keep (H.stay hm (by decide)), slabA_keep H.slb (H.stay hm (by decide)), ?_, H.map.keep (H.stay hm (j := 3) (by decide) mb (by rw [H.c3]; simp)), H.c2, H.c3, H.c4, H.apt⟩, ⟨hm.more fun k hk => .inl (x.sub 2 k hk), fun k hk => .inl hk⟩⟩
  unfold WsAt at hw
  rw [hl] at hw ⊢
  exact hw
/-- The set has turned. -/
theorem PolG.mapTo {f' : Int → Bool} {n' : Nat} (H : PolG w x p g h mb vw P f m K n) (hs : SMap w' mb n' f') (hm : Mods [mb] w w') : PolG w' x p g h mb vw P f' m K n' ∧ Stp w w' x.all x.all := by
  rw [← H.c3] at hm
  exact ⟨⟨H.row.keep (H.stay hm (j := 4) (by decide) p (by rw [H.c4]; simp)), H.net.keep (H.stay hm (by decide)), slabA_keep H.slb (H.stay hm (by decide)), own_keep H.own (by have := H.stay hm (j := 2) (by decide); rw [H.c2] at this; exact this), hs, H.c2, H.c3, H.c4, H.apt⟩, ⟨hm.more fun k hk => .inl (x.sub 3 k hk), fun k hk => .inl hk⟩⟩
/-- A watch has been appended, and the row stored. -/
theorem PolG.grow {v : Value} (H : PolG w x p g h mb vw P f m K n) (ho : w1.ownsRow 0 131 5 v us.length (fl Wch.cs us)) (hm : Mods vw.ownBlock.toList w w1 ∧ (v.ownBlock = vw.ownBlock ∨ ∃ k, v.ownBlock = some k ∧ w.heap.size ≤ k)) :
    ∃ x', PolG (w1.setCell ⟨p, 2, none⟩ v) x' p g h mb v { P with ws := us } f m K n ∧ Stp w (w1.setCell ⟨p, 2, none⟩ v) x.all x'.all := by
  obtain ⟨hm, hv⟩ := hm
  have hv' : ∀ k ∈ v.ownBlock.toList, k ∈ x.c 2 ∨ w.heap.size ≤ k := fun k hk => by
    rcases hv with e | ⟨j, e, hj⟩
    · rw [e] at hk; rw [H.c2]; exact .inl hk
    · rw [e] at hk; right; simp at hk; omega
  rw [← H.c2] at hm
  have hp : p ∉ x.c 2 := fun hk => H.apt 4 2 (by decide) p (by rw [H.c4]; simp) hk
  have hpl : p < w.heap.size := H.row.lt
  have far : ∀ k, k ≠ p → (w1.setCell ⟨p, 2, none⟩ v).heap[k]? = w1.heap[k]? := fun k hk => heap_setCell_other w1 ⟨p, 2, none⟩ k v hk
  have st : ∀ j : Fin 5, j ≠ 2 → j ≠ 4 → ∀ k ∈ x.c j, (w1.setCell ⟨p, 2, none⟩ v).heap[k]? = w.heap[k]? := fun j hj hj4 k hk =>
    (far k (by rintro rfl; exact H.apt 4 j (Ne.symm hj4) k (by rw [H.c4]; simp) hk)).trans (H.stay hm hj k hk)
  have hr : Row w1 p 44 _ := H.row.mods hm hp
  have hpv : ∀ k ∈ v.ownBlock.toList, k ≠ p := fun k hk e => by
    subst e
    rcases hv' k hk with h1 | h1
    · exact hp h1
    · omega
  refine ⟨x.set 2 v.ownBlock.toList, ⟨by simpa using hr.set 2 v, ?_, ?_, own_keep ho fun k hk => far k (hpv k hk), H.map.keep (st 3 (by decide) (by decide) mb (by rw [H.c3]; simp)), Ft.set_same _ _ _, ?_, ?_, H.apt.set H.lt hv'⟩, ⟨?_, Ft.set_all hv'⟩⟩
  · rw [Ft.set_ne _ _ (by decide)]; exact H.net.keep (st 0 (by decide) (by decide))
  · rw [Ft.set_ne _ _ (by decide)]; exact slabA_keep H.slb (st 1 (by decide) (by decide))
  · rw [Ft.set_ne _ _ (by decide)]; exact H.c3
  · rw [Ft.set_ne _ _ (by decide)]; exact H.c4
  · exact (hm.more fun k hk => .inl (x.sub 2 k hk)).setCell (.inl (x.sub 4 p (by rw [H.c4]; simp))) _
end
theorem SMap.ne_row {w : World} {b n p : Nat} {f : Int → Bool} {t : TypeId} {cs : Array Value} (h : SMap w b n f) (hr : Row w p t cs) : p ≠ b := by
  rintro rfl
  obtain ⟨D, ⟨es, clock, hb, r⟩, h2⟩ := h
  unfold Row at hr
  rw [hr] at hb
  cases hb
theorem wch_info : (Tryd.prog.info? 131).map (fun i => (i.zero, i.size, i.bytes)) = some (some (.agg #[.bool false, .bool false, .int .i64 0, .bool false, .int .i64 0]), 5, 40) := by kernel_rfl
/-- A handle and an error are returned. -/
theorem ret_hand2 {fn : Func} {a : Act} {W : World} {R : Ending → World → Prop} {r : Nat} {x y : Int} {v : Value} (hres : fn.results = #[.cell 10 47, .tmp 11]) (hr : Row W r 47 #[.int .i64 x, .int .i64 y])
    (h4 : a.tmps.getD 10 undef = .pointer (some ⟨r, 0, none⟩)) (h5 : a.tmps.getD 11 undef = v) (hd : a.defers = []) (hR : R (.returned (.tuple #[.agg #[.int .i64 x, .int .i64 y], v])) W) : bodyPost Tryd.prog fn R .ret a W := by
  have k0 := hr.cell 0
  have k1 := hr.cell 1
  refine bodyPost_ret (v := .tuple #[.agg #[.int .i64 x, .int .i64 y], v]) ?_ hd hR
  have g4 : a.tmps[10]?.getD undef = .pointer (some ⟨r, 0, none⟩) := by simpa using h4
  have g5 : a.tmps[11]?.getD undef = v := by simpa using h5
  have k0 : W.cell? ⟨r, 0, none⟩ = some (.int .i64 x) := k0
  have k1 : W.cell? ⟨r, 1, none⟩ = some (.int .i64 y) := k1
  simp [results, hres, go_sem, g4, g5, k0, k1]
#print axioms PolG.grow
end Go.Proofs.YthaapkafamdhcaaDoor

/- What Watch of the program's poller answers. -/
namespace Go.Proofs.YthaapkafamdhcaaDoor
open Go.RowKit
set_option maxRecDepth 10000
set_option linter.unusedVariables false
set_option linter.unusedSimpArgs false

theorem fld_opn (a b c : Bool) (d : Int) (w : World) : (Instr.field 124 (.agg #[.bool a, .bool b, .bool c, .int .i64 d]) 1).run Tryd.prog w = .ok (.bool b) w := by kernel_rfl
theorem watch_nil (w : World) (c : Int) (r s e : Bool) : Calls Tryd.prog 21 #[.pointer none, .int .i64 c, .bool r, .bool s, .bool e] w fun e w' => e = .returned (.tuple #[.agg #[.int .i64 0, .int .i64 0], .int .i64 1]) ∧ Mods [] w w' := by
  have hn := eql_ppol
  go_enter Tryd.func21, Tryd.ntmps21
  go_wp2
  exact ret_hand2 Tryd.results21 (Row.new w _ _) rfl rfl rfl ⟨rfl, (Mods.refl [] w).alloc _⟩
theorem watch_no (w : World) (p g m K : Nat) (F : List Nat) (P : Plr) (h : PolA w p g F P m K) (c : Int) (r s e : Bool) (hc : c ≠ -1) (ho : P.net.isO c = false) : Calls Tryd.prog 21 #[.pointer (some ⟨p, 0, none⟩), .int .i64 c, .bool r, .bool s, .bool e] w fun e w' => e = .returned (.tuple #[.agg #[.int .i64 0, .int .i64 0], .int .i64 2]) ∧ Mods [] w w' := by
  have hn := eql_ppol
  have hfl := fld_opn
  obtain ⟨x, hs, mb, vw, rfl, H⟩ := h
  have c0 := cell_alloc (H.row.cell 0) (.cells #[.int .i64 0, .int .i64 0] 47)
  have HN := Lib.hid (H.net.quiet ((Mods.refl [] w).alloc (.cells #[.int .i64 0, .int .i64 0] 47)))
  have HO := Lib.hid (show (P.net.get c).opn = false from ho)
  have hb : (c != -1) = true := by simpa using hc
  clear H ho hc
  go_enter Tryd.func21, Tryd.ntmps21
  go_wp2_with fail
  refine (state_any _ g m _ P.net c HN.out).mono ?_
  rw [HO.out]
  rintro e w1 ⟨rfl, hd⟩
  have R1 := Lib.hid ((Row.new w 47 #[.int .i64 0, .int .i64 0]).mods hd (by simp))
  have H1 := Lib.hid (((Mods.refl [] w).alloc _).trans hd (by simp))
  have z0 := R1.out.cell 0
  have z1 := R1.out.cell 1
  have zf := R1.out.free
  clear hd
  go_wp2
  exact ret_hand2 Tryd.results21 (x := 0) (y := 0) ((R1.out.set 0 (.int .i64 0)).set 1 (.int .i64 0)) rfl rfl rfl ⟨rfl, (H1.out.setCell (by simp) _).setCell (by simp) _⟩
theorem isO_rng {S : Nt} {m : Nat} (h : S.Ok m) {c : Int} (hc : c = -1 ∨ S.isO c = true) : -1 ≤ c ∧ c ≤ 65536 := by
  rcases hc with rfl | hc
  · omega
  · unfold Nt.isO at hc
    cases hs : S.at? c with
    | none => rw [Nt.get_none hs] at hc; cases hc
    | some s =>
      obtain ⟨i, rfl, h1, h2⟩ := Nt.at_some hs
      have := h.n2
      omega
/-- The head of Watch: somebody may be asked for. -/
theorem watch_dup (w : World) (p g m K : Nat) (F : List Nat) (P : Plr) (h : PolA w p g F P m K) (c : Int) (r s e : Bool) (hc : c = -1 ∨ P.net.isO c = true) (hv : P.sl.hasV c = true) : Calls Tryd.prog 21 #[.pointer (some ⟨p, 0, none⟩), .int .i64 c, .bool r, .bool s, .bool e] w fun e w' => e = .returned (.tuple #[.agg #[.int .i64 0, .int .i64 0], .int .i64 11]) ∧ Mods [] w w' := by
  have hn := eql_ppol
  have hfl := fld_opn
  obtain ⟨x, hs, mb, vw, rfl, H⟩ := h
  have HR := Lib.hid (isO_rng H.net.ok hc)
  have c0 : (w.alloc (.cells #[.int .i64 0, .int .i64 0] 47)).cell? ⟨p, 0, none⟩ = some (.pointer (some ⟨g, 0, none⟩)) := cell_alloc (H.row.cell 0) _
  have HH := Lib.hid H
  have HV := Lib.hid hv
  by_cases h1 : c = -1
  · have hb : (c != -1) = false := by simpa using h1
    clear H hc hv h1
    go_enter Tryd.func21, Tryd.ntmps21
    go_wp2_with fail
    refine (isw_any _ x p g hs mb m K vw P (HH.out.quiet ((Mods.refl [] w).alloc _)) c (by have := HR.out; omega)).mono ?_
    rw [HV.out]
    rintro e w1 ⟨rfl, hd⟩
    have R1 := Lib.hid ((Row.new w 47 #[.int .i64 0, .int .i64 0]).mods hd (by simp))
    have H1 := Lib.hid (((Mods.refl [] w).alloc _).trans hd (by simp))
    have z0 := R1.out.cell 0
    have z1 := R1.out.cell 1
    have zf := R1.out.free
    clear hd
    go_wp2
    exact ret_hand2 Tryd.results21 (x := 0) (y := 0) ((R1.out.set 0 (.int .i64 0)).set 1 (.int .i64 0)) rfl rfl rfl ⟨rfl, (H1.out.setCell (by simp) _).setCell (by simp) _⟩
  · have hb : (c != -1) = true := by simpa using h1
    have HO := Lib.hid (show (P.net.get c).opn = true from hc.resolve_left h1)
    clear H hc hv h1
    go_enter Tryd.func21, Tryd.ntmps21
    go_wp2_with fail
    refine (state_any _ g m _ P.net c (HH.out.net.quiet ((Mods.refl [] w).alloc _))).mono ?_
    rw [HO.out]
    rintro e w1 ⟨rfl, hd⟩
    have R1 := Lib.hid ((Row.new w 47 #[.int .i64 0, .int .i64 0]).mods hd (by simp))
    have H1 := Lib.hid (((Mods.refl [] w).alloc _).trans hd (by simp))
    clear hd
    go_wp2_with fail
    refine (isw_any _ x p g hs mb m K vw P (HH.out.quiet H1.out) c (by have := HR.out; omega)).mono ?_
    rw [HV.out]
    rintro e w2 ⟨rfl, hd⟩
    have R2 := Lib.hid (R1.out.mods hd (by simp))
    have H2 := Lib.hid (H1.out.trans hd (by simp))
    have z0 := R2.out.cell 0
    have z1 := R2.out.cell 1
    have zf := R2.out.free
    clear hd
    go_wp2
    exact ret_hand2 Tryd.results21 (x := 0) (y := 0) ((R2.out.set 0 (.int .i64 0)).set 1 (.int .i64 0)) rfl rfl rfl ⟨rfl, (H2.out.setCell (by simp) _).setCell (by simp) _⟩
end Go.Proofs.YthaapkafamdhcaaDoor

/- What Watch of the program's poller answers when it is taken. -/
namespace Go.Proofs.YthaapkafamdhcaaDoor
open Go.RowKit
set_option maxRecDepth 10000
set_option linter.unusedVariables false
set_option linter.unusedSimpArgs false

theorem Plr.Ok.watch {P : Plr} {K : Nat} (h : P.Ok K) {c : Int} {r s e : Bool} (hE : P.watchE c = 0) (hr : -1 ≤ c ∧ c ≤ 65536) (hcnt : P.sl.cnt < 4096) : (P.watch c r s e).Ok (K + 1) := by
  have hlim := h.lim
  have hl : P.sl.least ≤ P.sl.us.length := P.sl.least_le
  have hv : P.sl.hasV c = false := by
    unfold Plr.watchE at hE
    split at hE
    · cases hE
    · split at hE
      · cases hE
      · exact Bool.eq_false_iff.mpr ‹_›
  unfold Plr.watch
  rw [if_pos hE]
  refine ⟨?_, by rw [Slb.put_lim]; exact hlim, Slb.put_dis h.sl h.dis hv, Slb.put_ok h.sl (by omega) c, fun i => ?_, fun y hy => ?_⟩
  · simp only [Slb.put_len, h.len]
    split <;> simp [h.len]
  · simp only [Slb.put_vs h.sl]
    split
    · exact hr
    · exact h.rng i
  · simp only at hy
    split at hy
    · rcases List.mem_append.1 hy with h1 | h1
      · exact h.tld y h1
      · simp at h1; subst h1; simp
    · rcases mem_set_or hy with h1 | h1
      · exact h.tld y h1
      · subst h1; simp
/-- What is found when a slot has been taken: the row of watches is long enough. -/
theorem PolG.fin {w w1 w2 w' : World} {x' : Ft} {p g h mb m K vb cap : Nat} {P : Plr} {c : Int} {r s e : Bool} {us : List Wch} {y : Wch} {F : List Nat} (hok : P.Ok K) (hE : P.watchE c = 0) (hr : -1 ≤ c ∧ c ≤ 65536) (hcnt : P.sl.cnt < 4096) (hu : us = if P.sl.least = P.ws.length then P.ws ++ [Wch.no] else P.ws) (hy : us[P.sl.least]? = some y)
    (H : PolG w1 x' p g h mb (.slice (some ⟨vb, 0, none⟩) us.length cap) { P with sl := P.sl.put c, ws := us } P.sl.hasV m (K + 1) K) (hs : Stp w w1 F x'.all)
    (hw : WsAt w2 vb cap (us.set P.sl.least ⟨r, s, e, 0, 0⟩)) (hm : Mods [vb] w1 w2) (hp : SMap w' mb (K + 1) (fun z => decide (z = c) || P.sl.hasV z)) (hm2 : Mods [mb] w2 w') : PolTo w w' p g F (P.watch c r s e) m (K + 1) := by
  obtain ⟨H1, S1⟩ := PolG.put (P := { P with sl := P.sl.put c, ws := us }) (us := us.set P.sl.least ⟨r, s, e, 0, 0⟩) H hw hm (by simp)
  obtain ⟨H2, S2⟩ := H1.mapTo hp hm2
  have hO := hok.watch (r := r) (s := s) (e := e) hE hr hcnt
  have hle := P.sl.least_le
  have eW : (P.watch c r s e) = { P with sl := P.sl.put c, ws := us.set P.sl.least ⟨r, s, e, 0, 0⟩ } := by
    unfold Plr.watch
    rw [if_pos hE]
    subst hu
    split
    · rename_i h0
      rw [h0]
      simp
    · rfl
  have S := (hs.trans S1).trans S2
  rw [eW] at hO ⊢
  exact ⟨x'.all, ⟨x', h, mb, .slice (some ⟨vb, 0, none⟩) us.length cap, rfl, H2.toF hO (fun a => (Slb.put_has hok.sl c a).symm) (Nat.le_refl _)⟩, S.m, S.f⟩
theorem Row.mods2 {w wX w' : World} {p : Nat} {t : TypeId} {cs : Array Value} {F : List Nat} (h : Row w p t cs) (hm : Mods F wX w') (hq : Mods [] w wX) (hn : p ∉ F) : Row w' p t cs := (h.mods hq (by simp)).mods hm hn
/-- What stands when the row of watches is long enough. -/
structure WMid (w wv : World) (x xv : Ft) (p g hs mb vb n1 cap1 : Nat) (P : Plr) (c : Int) (us : List Wch) (m K hh : Nat) (y : Wch) : Prop where
  g : PolG wv xv p g hs mb (.slice (some ⟨vb, 0, none⟩) us.length cap1) { P with sl := P.sl.put c, ws := us } P.sl.hasV m (K + 1) K
  s : Stp (w.alloc (.cells #[.int .i64 0, .int .i64 0] 47)) wv x.all xv.all
  n : n1 = us.length
  u : us = if P.sl.least = P.ws.length then P.ws ++ [Wch.no] else P.ws
  y : us[P.sl.least]? = some y
  rh : Row wv hh 47 #[.int .i64 (P.sl.least : Nat), .int .i64 (P.sl.gen : Nat)]
  r0 : Row wv w.heap.size 47 #[.int .i64 0, .int .i64 0]
section
variable {w wv w6 w7 w8 : World} {x xv : Ft} {p g hs mb vb n1 cap1 m K hh : Nat} {P : Plr} {c : Int} {us : List Wch} {y : Wch} {r s e : Bool}
theorem WMid.ws (H : WMid w wv x xv p g hs mb vb n1 cap1 P c us m K hh y) : WsAt wv vb cap1 us := H.g.own
theorem WMid.np (H : WMid w wv x xv p g hs mb vb n1 cap1 P c us m K hh y) : p ∉ [vb] ∧ hh ∉ [vb] ∧ w.heap.size ∉ [vb] ∧ mb ∉ [vb] := by
  have h1 := own_ne_row H.g.own H.g.row (by decide) vb (by simp [Value.ownBlock])
  have h2 := own_ne_row H.g.own H.rh (by decide) vb (by simp [Value.ownBlock])
  have h3 := own_ne_row H.g.own H.r0 (by decide) vb (by simp [Value.ownBlock])
  have h4 : mb ∉ [vb] := fun hk => by
    obtain rfl := List.mem_singleton.1 hk
    exact H.g.apt 3 2 (by decide) mb (by rw [H.g.c3]; simp) (by rw [H.g.c2]; simp [Value.ownBlock])
  exact ⟨by simpa using h1.symm, by simpa using h2.symm, by simpa using h3.symm, h4⟩
theorem WMid.end_ (H : WMid w wv x xv p g hs mb vb n1 cap1 P c us m K hh y) (hlt : ∀ k ∈ x.all, k < w.heap.size) (hok : P.Ok K) (hE : P.watchE c = 0) (hr : -1 ≤ c ∧ c ≤ 65536) (hcnt : P.sl.cnt < 4096)
    (hw : WsAt w7 vb cap1 (us.set P.sl.least ⟨r, s, e, 0, 0⟩)) (hm : Mods [vb] wv w7) (hp : SMap w8 mb (K + 1) (fun z => decide (z = c) || P.sl.hasV z)) (hm2 : Mods [mb] w7 w8) {w9 : World} (hm9 : Mods [w.heap.size] w8 w9) : PolTo w w9 p g x.all (P.watch c r s e) m (K + 1) := by
  obtain ⟨F', h1, h2, h3⟩ := PolG.fin hok hE hr hcnt H.u H.y H.g H.s hw hm hp hm2
  have hn : w.heap.size ∉ F' := fun hk => by
    rcases h3 _ hk with h | h
    · exact Nat.lt_irrefl _ (hlt _ h)
    · simp at h
      omega
  refine ⟨F', h1.mods hm9 fun k hk hk2 => ?_, ?_, fun k hk => ?_⟩
  · obtain rfl := List.mem_singleton.1 hk2
    exact hn hk
  · exact ((((Mods.refl x.all w).alloc _).trans h2 fun k hk => .inl hk).trans hm9 fun k hk => by simp at hk; right; omega)
  · rcases h3 k hk with h | h
    · exact .inl h
    · right; simp at h; omega
end
theorem pairs_ne {F : List Nat} {n k : Nat} (h : k ∈ F) (hF : ∀ k ∈ F, k < n) : k ≠ n := by have := hF k h; omega
set_option maxHeartbeats 1000000 in
theorem watch_yes1 (w : World) (p g m K : Nat) (F : List Nat) (P : Plr) (h : PolA w p g F P m K) (c : Int) (r s e : Bool) (h1 : ¬ c = -1) (hc : c = -1 ∨ P.net.isO c = true) (hv : P.sl.hasV c = false) (hT : TzTab w) (hcnt : P.sl.cnt < 4096) (hK : K ≤ 4000000000000) (hn : P.sl.least = P.ws.length) :
    Calls Tryd.prog 21 #[.pointer (some ⟨p, 0, none⟩), .int .i64 c, .bool r, .bool s, .bool e] w fun e' w' => e' = .returned (.tuple #[.agg #[.int .i64 (P.sl.least : Nat), .int .i64 (P.sl.gen : Nat)], .int .i64 0]) ∧ Hid (PolTo w w' p g F (P.watch c r s e) m (K + 1)) := by
  have hnp := eql_ppol
  have hfl := fld_opn
  obtain ⟨i0, hi0, hz0, hz1, hz2⟩ := info_parts wch_info
  have HI := Lib.hid (And.intro hi0 (And.intro hz0 (And.intro hz1 hz2)))
  obtain ⟨x, hs, mb, vw, rfl, H⟩ := h
  have HR := Lib.hid (isO_rng H.net.ok hc)
  have HE := Lib.hid (show P.watchE c = 0 by
    unfold Plr.watchE
    rw [if_neg (fun h => by rcases hc with h2 | h2; exact h.1 h2; rw [h.2] at h2; cases h2), hv]
    rfl)
  have c0 : (w.alloc (.cells #[.int .i64 0, .int .i64 0] 47)).cell? ⟨p, 0, none⟩ = some (.pointer (some ⟨g, 0, none⟩)) := cell_alloc (H.row.cell 0) _
  have HH := Lib.hid H
  have HV := Lib.hid hv
  have HA0 := Lib.hid (H.quiet ((Mods.refl [] w).alloc (.cells #[.int .i64 0, .int .i64 0] 47)))
  have HT0 := Lib.hid (hT.mods ((Mods.refl [] w).alloc (.cells #[.int .i64 0, .int .i64 0] 47)) (by simp))
  have HT := Lib.hid hT
  have HC := Lib.hid hcnt
  have HK := Lib.hid hK
  have HN := Lib.hid hn
  obtain ⟨A, n, cap, rfl, hnl, hcap, hmx⟩ : ∃ A n cap, vw = .slice A n cap ∧ n = P.ws.length ∧ n ≤ cap ∧ cap ≤ maxLen := by
    obtain ⟨A, cap, e1, e2, e3⟩ := own_slice H.own
    exact ⟨A, _, cap, e1, rfl, e2, e3⟩
  have HNL := Lib.hid hnl
  have HLL := Lib.hid (show P.ws.length ≤ 4096 by rw [H.ok.len]; have := H.ok.sl.len; have := H.ok.lim; omega)
  have HLE := Lib.hid (show P.sl.least ≤ P.ws.length by rw [H.ok.len]; exact P.sl.least_le)
  have hb : (c != -1) = true := by simpa using h1
  have HO := Lib.hid (show (P.net.get c).opn = true from hc.resolve_left h1)
  clear H hc hv h1 hT hcnt hK hn hi0 hz0 hz1 hz2 hnl
  go_enter Tryd.func21, Tryd.ntmps21
  go_wp2_with fail
  refine (state_any _ g m _ P.net c (HH.out.net.quiet ((Mods.refl [] w).alloc _))).mono ?_
  rw [HO.out]
  rintro e1 w1 ⟨rfl, hd⟩
  have R1 := Lib.hid ((Row.new w 47 #[.int .i64 0, .int .i64 0]).mods hd (by simp))
  have H1 := Lib.hid hd
  clear hd
  go_wp2_with fail
  refine (isw_any _ x p g hs mb m K _ P (HA0.out.quiet H1.out) c (by have := HR.out; omega)).mono ?_
  rw [HV.out]
  rintro e1 w2 ⟨rfl, hd⟩
  have R2 := Lib.hid (R1.out.mods hd (by simp))
  have H2 := Lib.hid (H1.out.trans hd (by simp))
  have c1 : w2.cell? ⟨p, 1, none⟩ = some (.pointer (some ⟨hs, 0, none⟩)) := (HA0.out.quiet H2.out).row.cell 1
  clear hd c0 R1 H1
  go_wp2_with fail
  refine (put_any w2 hs c (x.c 1) P.sl K (HA0.out.quiet H2.out).slb (HT0.out.mods H2.out (by simp)) (by have := HH.out.ok.lim; have := HC.out; omega) HK.out).mono ?_
  rintro e1 w3 ⟨rfl, hd⟩
  obtain ⟨x3, hg3, hs3, hx3⟩ := (HA0.out.quiet H2.out).toG.slab hd.out
  have hnx : w.heap.size ∉ x.c 1 := fun hk => Nat.lt_irrefl _ (HH.out.lt 1 _ hk)
  have R3 := Lib.hid (R2.out.mods (by obtain ⟨N, q1, q2, q3⟩ := hd.out; exact q2) hnx)
  have HG3 := Lib.hid hg3
  have HS3 := Lib.hid ((Stp.quiet H2.out).trans hs3)
  have c2 : (w3.alloc (.cells #[.int .i64 (P.sl.least : Nat), .int .i64 (P.sl.gen : Nat)] 47)).cell? ⟨p, 2, none⟩ = some (.slice A n cap) := cell_alloc (hg3.row.cell 2) _
  have RH := Lib.hid (Row.new w3 47 #[.int .i64 (P.sl.least : Nat), .int .i64 (P.sl.gen : Nat)])
  have k0 : (w3.alloc (.cells #[.int .i64 (P.sl.least : Nat), .int .i64 (P.sl.gen : Nat)] 47)).cell? ⟨w3.heap.size, 0, none⟩ = some (.int .i64 (P.sl.least : Nat)) := RH.out.cell 0
  have cmp : ((P.sl.least : Int) == (n : Int)) = true := by
    have := HN.out; have := HNL.out; have := HLE.out
    simp
    omega
  have LW := Lib.hid (show w.heap.size < w3.heap.size from Nat.lt_of_lt_of_le R2.out.lt (by obtain ⟨N, q1, q2, q3⟩ := hd.out; exact q2.size))
  clear hd hg3 hs3 hx3 hnx c1 R2
  go_upto_region 10 with fail
  go_quiet (fail)
  have NP := Lib.hid (show p ∉ (Value.slice A n cap).ownBlock.toList from fun hk => HG3.out.apt 4 2 (by decide) p (by rw [HG3.out.c4]; simp) (by rw [HG3.out.c2]; exact hk))
  go_wp2_with (at_builtin; refine wpList_append_n rfl (.tmp 62) (.tmp 64) 41 rfl 131 i0 _ 5 40 Tryd.underlying41 HI.out.1 HI.out.2.1 HI.out.2.2.1 HI.out.2.2.2 rfl (by omega) (.slice A n cap) n (fl Wch.cs P.ws) rfl (by have := HG3.out.own; rw [← HNL.out] at this; exact own_mods this ((((Mods.refl [] w3).alloc _).alloc _).same rfl rfl rfl rfl) (by simp)) ⟨w3.heap.size + 1, 0, none⟩ 1 1 Wch.no.cs rfl rfl (World.news_of_block (new_at (by simp))) (by simp [Wch.cs, Wch.no, Value.oneCell']) (by have := HNL.out; have := HLL.out; unfold maxLen; omega) (by have := HNL.out; have := HLL.out; omega) ?_; intro v5 w5 HO5 HM5; have RP5 := Lib.hid (Row.mods2 HG3.out.row HM5.out.1 (by exact (((Mods.refl [] w3).alloc _).alloc _).same rfl rfl rfl rfl) NP.out); have c25 := RP5.out.cell 2; have f25 := RP5.out.free; obtain ⟨g5, cp5, rfl, hg5, hc5, hm5⟩ := own_some HO5.out (by omega))
  have HMV := Lib.hid (show ∃ xv y, WMid w (w5.setCell ⟨p, 2, none⟩ (.slice (some ⟨g5, 0, none⟩) (n + 1) cp5)) x xv p g hs mb g5 (n + 1) cp5 P c (P.ws ++ [Wch.no]) m K w3.heap.size y from by
    have hnl := HNL.out
    have hq : Mods [] w3 _ := (by exact (((Mods.refl [] w3).alloc _).alloc _).same rfl rfl rfl rfl : Mods [] w3 (((w3.alloc (.cells #[.int .i64 (P.sl.least : Nat), .int .i64 (P.sl.gen : Nat)] 47)).drewN nq).alloc (.cells Wch.no.cs.toArray 131)))
    have ho := HO5.out
    have e1 : n + 1 = (P.ws ++ [Wch.no]).length := by simp; omega
    rw [e1, ← fl_one (f := Wch.cs) Wch.no, ← fl_append] at ho
    rw [e1]
    obtain ⟨xv, hgv, hsv⟩ := (HG3.out.quiet hq).grow (us := P.ws ++ [Wch.no]) ho ⟨HM5.out.1, HM5.out.2.imp id fun h => ⟨_, h, Nat.le_refl _⟩⟩
    have hp0 : p < w.heap.size := HH.out.row.lt
    have n1 := own_ne_row HG3.out.own R3.out (by decide)
    have n2 : ∀ k ∈ (Value.slice A n cap).ownBlock.toList, k ≠ w3.heap.size := fun k hk => by have := own_lt HG3.out.own k hk; omega
    have r0 := (Row.mods2 R3.out HM5.out.1 hq (fun hk => n1 _ hk rfl)).far (p := ⟨p, 2, none⟩) (by show w.heap.size ≠ p; omega) (.slice (some ⟨g5, 0, none⟩) (P.ws ++ [Wch.no]).length cp5)
    have rh := (((RH.out.drewN nq).alloc _).mods HM5.out.1 (fun hk => n2 _ hk rfl)).far (p := ⟨p, 2, none⟩) (by show w3.heap.size ≠ p; have := LW.out; omega) (.slice (some ⟨g5, 0, none⟩) (P.ws ++ [Wch.no]).length cp5)
    exact ⟨xv, Wch.no, hgv, (HS3.out.trans (Stp.quiet hq)).trans hsv, rfl, by rw [if_pos HN.out], by rw [HN.out]; simp, rh, r0⟩)
  obtain ⟨xv, y, hmv⟩ := HMV.out
  obtain ⟨wv, hwv⟩ : ∃ wv, wv = w5.setCell ⟨p, 2, none⟩ (.slice (some ⟨g5, 0, none⟩) (n + 1) cp5) := ⟨_, rfl⟩
  rw [← hwv]
  rw [← hwv] at hmv
  have HW := Lib.hid hmv
  have q1 : (P.sl.least : Int) < (n : Int) + 1 := by have := HLE.out; have := HNL.out; omega
  clear hwv hmv HMV c25 f25 cmp k0 hg5 hc5 hm5 c2
  have b2 : wv.cell? ⟨p, 2, none⟩ = some (.slice (some ⟨g5, 0, none⟩) (n + 1) cp5) := by
    have := HW.out.g.row.cell 2
    rw [HW.out.n]
    exact this
  have b0 : wv.cell? ⟨w3.heap.size, 0, none⟩ = some (.int .i64 (P.sl.least : Nat)) := HW.out.rh.cell 0
  have y0 : wv.cell? ⟨g5, P.sl.least * 5, none⟩ = some (.bool y.eg) := HW.out.ws.cell HW.out.y (j := 0) (by omega)
  have fv : ∀ j, wv.frozen? ⟨g5, j, none⟩ = false := HW.out.ws.free
  have q0 : (0 : Int) ≤ (P.sl.least : Int) := by omega
  obtain ⟨np1, np2, np3, np4⟩ := HW.out.np
  have b2' : (wv.setCell ⟨g5, P.sl.least * 5, none⟩ (.bool e)).cell? ⟨p, 2, none⟩ = some (.slice (some ⟨g5, 0, none⟩) (n + 1) cp5) := by
    have := (HW.out.g.row.far (p := ⟨g5, P.sl.least * 5, none⟩) (fun e => np1 (by rw [e]; simp)) (.bool e)).cell 2
    rw [HW.out.n]
    exact this
  have b0' : (wv.setCell ⟨g5, P.sl.least * 5, none⟩ (.bool e)).cell? ⟨w3.heap.size, 0, none⟩ = some (.int .i64 (P.sl.least : Nat)) := (HW.out.rh.far (p := ⟨g5, P.sl.least * 5, none⟩) (fun e => np2 (by rw [e]; simp)) (.bool e)).cell 0
  have HNP := Lib.hid (And.intro np1 (And.intro np2 (And.intro np3 np4)))
  clear np1 np2 np3 np4
  go_region_held3 (fun w' => w'.cell? ⟨p, 2, none⟩ = some (.slice (some ⟨g5, 0, none⟩) (n + 1) cp5) ∧ w'.cell? ⟨w3.heap.size, 0, none⟩ = some (.int .i64 (P.sl.least : Nat))) (first | go_keep | exact ⟨b2', b0'⟩) (fail)
  go_upto_region 13 with fail
  have HB := Lib.hid (get_set' (⟨y.rd, y.wr, e, y.tr, y.tw⟩ : Wch) HW.out.y)
  have HW6 := Lib.hid (show WsAt (wv.setCell ⟨g5, P.sl.least * 5, none⟩ (.bool e)) g5 cp5 ((P.ws ++ [Wch.no]).set P.sl.least ⟨y.rd, y.wr, e, y.tr, y.tw⟩) from HW.out.ws.put HW.out.y (j := 0) (by omega) rfl)
  have HM6 := Lib.hid (show Mods [g5] wv (wv.setCell ⟨g5, P.sl.least * 5, none⟩ (.bool e)).drew from ((Mods.refl _ wv).setCell (.inl (by simp)) _).drew)
  obtain ⟨w6, hw6⟩ : ∃ w6, w6 = (wv.setCell ⟨g5, P.sl.least * 5, none⟩ (.bool e)).drew := ⟨_, rfl⟩
  have HW6' := Lib.hid (show WsAt w6 g5 cp5 ((P.ws ++ [Wch.no]).set P.sl.least ⟨y.rd, y.wr, e, y.tr, y.tw⟩) by rw [hw6]; exact HW6.out)
  have d2 : w6.cell? ⟨p, 2, none⟩ = some (.slice (some ⟨g5, 0, none⟩) (n + 1) cp5) := by rw [hw6]; exact b2'
  have d0 : w6.cell? ⟨w3.heap.size, 0, none⟩ = some (.int .i64 (P.sl.least : Nat)) := by rw [hw6]; exact b0'
  rw [← hw6]
  rw [← hw6] at HM6
  have HC6 := Lib.hid (fun (wz : World) (hz : Mods [] w6 wz) => ask_any wz g5 cp5 P.sl.least _ _ (HW6'.out.mods hz (by simp)) HB.out r s)
  clear hw6 HW6 b2 b0 y0 fv b2' b0'
  go_region_held3 (fun w' => w'.cell? ⟨p, 2, none⟩ = some (.slice (some ⟨g5, 0, none⟩) (n + 1) cp5) ∧ w'.cell? ⟨w3.heap.size, 0, none⟩ = some (.int .i64 (P.sl.least : Nat))) (go_keep)
    ((go_at_call 60; refine Calls.mono (HC6.out _ ?_) ?_; exact (Mods.refl [] w6).same rfl rfl rfl rfl; rintro e2 w7 ⟨rfl, hd⟩; have H7 := Lib.hid (And.intro hd.out.1 (of_drew hd.out.2)); have d2' := cell_mods d2 H7.out.2 HNP.out.1; have d0' := cell_mods d0 H7.out.2 HNP.out.2.1; clear hd))
  all_goals
    have HM7 := Lib.hid (HM6.out.trans H7.out.2 (fun k hk => .inl hk))
    have c3 : w7.cell? ⟨p, 3, none⟩ = some (.map (some mb)) := (HW.out.g.row.mods HM7.out HNP.out.1).cell 3
    have HP7 := Lib.hid (SMap.put (HW.out.g.map.keep (HM7.out.block mb HW.out.g.map.lt HNP.out.2.2.2)) (show K < maxLen by unfold maxLen; have := HK.out; omega) (a := c) (by have := HR.out; omega))
    obtain ⟨w8, hr8, hp8⟩ := HP7.out
    have HP8 := Lib.hid hp8
    have HR8 := Lib.hid hr8
    clear d2 d0 d2' d0' hr8 hp8 HP7
    have hx8 : Mods [mb] w7 w8 := HP8.out.2
    have g0 : w8.cell? ⟨w3.heap.size, 0, none⟩ = some (.int .i64 (P.sl.least : Nat)) := ((HW.out.rh.mods HM7.out HNP.out.2.1).mods hx8 (by simpa using HW.out.g.map.ne_row HW.out.rh)).cell 0
    have g1 : w8.cell? ⟨w3.heap.size, 1, none⟩ = some (.int .i64 (P.sl.gen : Nat)) := ((HW.out.rh.mods HM7.out HNP.out.2.1).mods hx8 (by simpa using HW.out.g.map.ne_row HW.out.rh)).cell 1
    have R8 := Lib.hid ((HW.out.r0.mods HM7.out HNP.out.2.2.1).mods hx8 (by simpa using HW.out.g.map.ne_row HW.out.r0))
    have i0 := R8.out.cell 0
    have i1 := R8.out.cell 1
    have i2 := R8.out.free
    clear hx8
    go_wp2_with (at_mapUpdate; refine wpList_map_run rfl (.tmp 90) (.tmp 91) (.tmp 92) _ rfl _ _ _ rfl rfl rfl HR8.out ?_)
    have h7 := H7.out.1
    rw [set_set'] at h7
    exact ret_hand2 Tryd.results21 ((R8.out.set 0 _).set 1 _) rfl rfl rfl ⟨rfl, Lib.hid (HW.out.end_ (fun k hk => by obtain ⟨i, hi⟩ := Ft.mem_all.1 hk; exact HH.out.lt i k hi) HH.out.ok HE.out HR.out HC.out h7 HM7.out HP8.out.1 HP8.out.2 (((Mods.refl _ w8).setCell (.inl (by simp)) _).setCell (.inl (by simp)) _))⟩
set_option maxHeartbeats 1000000 in
theorem watch_yes2 (w : World) (p g m K : Nat) (F : List Nat) (P : Plr) (h : PolA w p g F P m K) (c : Int) (r s e : Bool) (h1 : ¬ c = -1) (hc : c = -1 ∨ P.net.isO c = true) (hv : P.sl.hasV c = false) (hT : TzTab w) (hcnt : P.sl.cnt < 4096) (hK : K ≤ 4000000000000) (hn : P.sl.least ≠ P.ws.length) :
    Calls Tryd.prog 21 #[.pointer (some ⟨p, 0, none⟩), .int .i64 c, .bool r, .bool s, .bool e] w fun e' w' => e' = .returned (.tuple #[.agg #[.int .i64 (P.sl.least : Nat), .int .i64 (P.sl.gen : Nat)], .int .i64 0]) ∧ Hid (PolTo w w' p g F (P.watch c r s e) m (K + 1)) := by
  have hnp := eql_ppol
  have hfl := fld_opn
  obtain ⟨i0, hi0, hz0, hz1, hz2⟩ := info_parts wch_info
  have HI := Lib.hid (And.intro hi0 (And.intro hz0 (And.intro hz1 hz2)))
  obtain ⟨x, hs, mb, vw, rfl, H⟩ := h
  have HR := Lib.hid (isO_rng H.net.ok hc)
  have HE := Lib.hid (show P.watchE c = 0 by
    unfold Plr.watchE
    rw [if_neg (fun h => by rcases hc with h2 | h2; exact h.1 h2; rw [h.2] at h2; cases h2), hv]
    rfl)
  have c0 : (w.alloc (.cells #[.int .i64 0, .int .i64 0] 47)).cell? ⟨p, 0, none⟩ = some (.pointer (some ⟨g, 0, none⟩)) := cell_alloc (H.row.cell 0) _
  have HH := Lib.hid H
  have HV := Lib.hid hv
  have HA0 := Lib.hid (H.quiet ((Mods.refl [] w).alloc (.cells #[.int .i64 0, .int .i64 0] 47)))
  have HT0 := Lib.hid (hT.mods ((Mods.refl [] w).alloc (.cells #[.int .i64 0, .int .i64 0] 47)) (by simp))
  have HT := Lib.hid hT
  have HC := Lib.hid hcnt
  have HK := Lib.hid hK
  have HN := Lib.hid hn
  obtain ⟨A, n, cap, rfl, hnl, hcap, hmx⟩ : ∃ A n cap, vw = .slice A n cap ∧ n = P.ws.length ∧ n ≤ cap ∧ cap ≤ maxLen := by
    obtain ⟨A, cap, e1, e2, e3⟩ := own_slice H.own
    exact ⟨A, _, cap, e1, rfl, e2, e3⟩
  have HNL := Lib.hid hnl
  have HLL := Lib.hid (show P.ws.length ≤ 4096 by rw [H.ok.len]; have := H.ok.sl.len; have := H.ok.lim; omega)
  have HLE := Lib.hid (show P.sl.least ≤ P.ws.length by rw [H.ok.len]; exact P.sl.least_le)
  have hb : (c != -1) = true := by simpa using h1
  obtain ⟨vb, rfl⟩ : ∃ vb, A = some ⟨vb, 0, none⟩ := by
    obtain ⟨g', c', e', _⟩ := own_some H.own (by have := HN.out; have := HLE.out; omega)
    injection e' with e1 e2 e3
    exact ⟨g', e1⟩
  have HO := Lib.hid (show (P.net.get c).opn = true from hc.resolve_left h1)
  clear H hc hv h1 hT hcnt hK hn hi0 hz0 hz1 hz2 hnl
  go_enter Tryd.func21, Tryd.ntmps21
  go_wp2_with fail
  refine (state_any _ g m _ P.net c (HH.out.net.quiet ((Mods.refl [] w).alloc _))).mono ?_
  rw [HO.out]
  rintro e1 w1 ⟨rfl, hd⟩
  have R1 := Lib.hid ((Row.new w 47 #[.int .i64 0, .int .i64 0]).mods hd (by simp))
  have H1 := Lib.hid hd
  clear hd
  go_wp2_with fail
  refine (isw_any _ x p g hs mb m K _ P (HA0.out.quiet H1.out) c (by have := HR.out; omega)).mono ?_
  rw [HV.out]
  rintro e1 w2 ⟨rfl, hd⟩
  have R2 := Lib.hid (R1.out.mods hd (by simp))
  have H2 := Lib.hid (H1.out.trans hd (by simp))
  have c1 : w2.cell? ⟨p, 1, none⟩ = some (.pointer (some ⟨hs, 0, none⟩)) := (HA0.out.quiet H2.out).row.cell 1
  clear hd c0 R1 H1
  go_wp2_with fail
  refine (put_any w2 hs c (x.c 1) P.sl K (HA0.out.quiet H2.out).slb (HT0.out.mods H2.out (by simp)) (by have := HH.out.ok.lim; have := HC.out; omega) HK.out).mono ?_
  rintro e1 w3 ⟨rfl, hd⟩
  obtain ⟨x3, hg3, hs3, hx3⟩ := (HA0.out.quiet H2.out).toG.slab hd.out
  have hnx : w.heap.size ∉ x.c 1 := fun hk => Nat.lt_irrefl _ (HH.out.lt 1 _ hk)
  have R3 := Lib.hid (R2.out.mods (by obtain ⟨N, q1, q2, q3⟩ := hd.out; exact q2) hnx)
  have HG3 := Lib.hid hg3
  have HS3 := Lib.hid ((Stp.quiet H2.out).trans hs3)
  have c2 : (w3.alloc (.cells #[.int .i64 (P.sl.least : Nat), .int .i64 (P.sl.gen : Nat)] 47)).cell? ⟨p, 2, none⟩ = some (.slice (some ⟨vb, 0, none⟩) n cap) := cell_alloc (hg3.row.cell 2) _
  have RH := Lib.hid (Row.new w3 47 #[.int .i64 (P.sl.least : Nat), .int .i64 (P.sl.gen : Nat)])
  have k0 : (w3.alloc (.cells #[.int .i64 (P.sl.least : Nat), .int .i64 (P.sl.gen : Nat)] 47)).cell? ⟨w3.heap.size, 0, none⟩ = some (.int .i64 (P.sl.least : Nat)) := RH.out.cell 0
  have cmp : ((P.sl.least : Int) == (n : Int)) = false := by
    have := HN.out; have := HNL.out; have := HLE.out
    simp
    omega
  have LW := Lib.hid (show w.heap.size < w3.heap.size from Nat.lt_of_lt_of_le R2.out.lt (by obtain ⟨N, q1, q2, q3⟩ := hd.out; exact q2.size))
  clear hd hg3 hs3 hx3 hnx c1 R2
  go_upto_region 10 with fail
  go_quiet (fail)
  go_upto_region 12 with fail
  have HMV := Lib.hid (show ∃ xv y, WMid w ((w3.alloc (.cells #[.int .i64 (P.sl.least : Nat), .int .i64 (P.sl.gen : Nat)] 47)).drewN nq) x xv p g hs mb vb n cap P c P.ws m K w3.heap.size y from by
    have hnl := HNL.out
    have hle := HLE.out
    have hne := HN.out
    have hq : Mods [] w3 ((w3.alloc (.cells #[.int .i64 (P.sl.least : Nat), .int .i64 (P.sl.gen : Nat)] 47)).drewN nq) := (((Mods.refl [] w3).alloc _)).same rfl rfl rfl rfl
    have r0 := R3.out.mods hq (by simp)
    have hgv := HG3.out.quiet hq
    have hlt : P.sl.least < P.ws.length := by omega
    rw [hnl] at hgv ⊢
    exact ⟨x3, P.ws[P.sl.least], hgv, HS3.out.trans (Stp.quiet hq), rfl, by rw [if_neg HN.out], List.getElem?_eq_getElem hlt, RH.out.drewN nq, r0⟩)
  obtain ⟨xv, y, hmv⟩ := HMV.out
  obtain ⟨wv, hwv⟩ : ∃ wv, wv = (w3.alloc (.cells #[.int .i64 (P.sl.least : Nat), .int .i64 (P.sl.gen : Nat)] 47)).drewN nq := ⟨_, rfl⟩
  rw [← hwv]
  rw [← hwv] at hmv
  have HW := Lib.hid hmv
  have q1 : (P.sl.least : Int) < (n : Int) := by have := HLE.out; have := HNL.out; have := HN.out; omega
  clear hwv hmv HMV cmp k0 c2
  have b2 : wv.cell? ⟨p, 2, none⟩ = some (.slice (some ⟨vb, 0, none⟩) (n) cap) := by
    have := HW.out.g.row.cell 2
    rw [HW.out.n]
    exact this
  have b0 : wv.cell? ⟨w3.heap.size, 0, none⟩ = some (.int .i64 (P.sl.least : Nat)) := HW.out.rh.cell 0
  have y0 : wv.cell? ⟨vb, P.sl.least * 5, none⟩ = some (.bool y.eg) := HW.out.ws.cell HW.out.y (j := 0) (by omega)
  have fv : ∀ j, wv.frozen? ⟨vb, j, none⟩ = false := HW.out.ws.free
  have q0 : (0 : Int) ≤ (P.sl.least : Int) := by omega
  obtain ⟨np1, np2, np3, np4⟩ := HW.out.np
  have b2' : (wv.setCell ⟨vb, P.sl.least * 5, none⟩ (.bool e)).cell? ⟨p, 2, none⟩ = some (.slice (some ⟨vb, 0, none⟩) (n) cap) := by
    have := (HW.out.g.row.far (p := ⟨vb, P.sl.least * 5, none⟩) (fun e => np1 (by rw [e]; simp)) (.bool e)).cell 2
    rw [HW.out.n]
    exact this
  have b0' : (wv.setCell ⟨vb, P.sl.least * 5, none⟩ (.bool e)).cell? ⟨w3.heap.size, 0, none⟩ = some (.int .i64 (P.sl.least : Nat)) := (HW.out.rh.far (p := ⟨vb, P.sl.least * 5, none⟩) (fun e => np2 (by rw [e]; simp)) (.bool e)).cell 0
  have HNP := Lib.hid (And.intro np1 (And.intro np2 (And.intro np3 np4)))
  clear np1 np2 np3 np4
  go_region_held3 (fun w' => w'.cell? ⟨p, 2, none⟩ = some (.slice (some ⟨vb, 0, none⟩) (n) cap) ∧ w'.cell? ⟨w3.heap.size, 0, none⟩ = some (.int .i64 (P.sl.least : Nat))) (first | go_keep | exact ⟨b2', b0'⟩) (fail)
  go_upto_region 13 with fail
  have HB := Lib.hid (get_set' (⟨y.rd, y.wr, e, y.tr, y.tw⟩ : Wch) HW.out.y)
  have HW6 := Lib.hid (show WsAt (wv.setCell ⟨vb, P.sl.least * 5, none⟩ (.bool e)) vb cap ((P.ws).set P.sl.least ⟨y.rd, y.wr, e, y.tr, y.tw⟩) from HW.out.ws.put HW.out.y (j := 0) (by omega) rfl)
  have HM6 := Lib.hid (show Mods [vb] wv (wv.setCell ⟨vb, P.sl.least * 5, none⟩ (.bool e)).drew from ((Mods.refl _ wv).setCell (.inl (by simp)) _).drew)
  obtain ⟨w6, hw6⟩ : ∃ w6, w6 = (wv.setCell ⟨vb, P.sl.least * 5, none⟩ (.bool e)).drew := ⟨_, rfl⟩
  have HW6' := Lib.hid (show WsAt w6 vb cap ((P.ws).set P.sl.least ⟨y.rd, y.wr, e, y.tr, y.tw⟩) by rw [hw6]; exact HW6.out)
  have d2 : w6.cell? ⟨p, 2, none⟩ = some (.slice (some ⟨vb, 0, none⟩) (n) cap) := by rw [hw6]; exact b2'
  have d0 : w6.cell? ⟨w3.heap.size, 0, none⟩ = some (.int .i64 (P.sl.least : Nat)) := by rw [hw6]; exact b0'
  rw [← hw6]
  rw [← hw6] at HM6
  have HC6 := Lib.hid (fun (wz : World) (hz : Mods [] w6 wz) => ask_any wz vb cap P.sl.least _ _ (HW6'.out.mods hz (by simp)) HB.out r s)
  clear hw6 HW6 b2 b0 y0 fv b2' b0'
  go_region_held3 (fun w' => w'.cell? ⟨p, 2, none⟩ = some (.slice (some ⟨vb, 0, none⟩) (n) cap) ∧ w'.cell? ⟨w3.heap.size, 0, none⟩ = some (.int .i64 (P.sl.least : Nat))) (go_keep)
    ((go_at_call 60; refine Calls.mono (HC6.out _ ?_) ?_; exact (Mods.refl [] w6).same rfl rfl rfl rfl; rintro e2 w7 ⟨rfl, hd⟩; have H7 := Lib.hid (And.intro hd.out.1 (of_drew hd.out.2)); have d2' := cell_mods d2 H7.out.2 HNP.out.1; have d0' := cell_mods d0 H7.out.2 HNP.out.2.1; clear hd))
  all_goals
    have HM7 := Lib.hid (HM6.out.trans H7.out.2 (fun k hk => .inl hk))
    have c3 : w7.cell? ⟨p, 3, none⟩ = some (.map (some mb)) := (HW.out.g.row.mods HM7.out HNP.out.1).cell 3
    have HP7 := Lib.hid (SMap.put (HW.out.g.map.keep (HM7.out.block mb HW.out.g.map.lt HNP.out.2.2.2)) (show K < maxLen by unfold maxLen; have := HK.out; omega) (a := c) (by have := HR.out; omega))
    obtain ⟨w8, hr8, hp8⟩ := HP7.out
    have HP8 := Lib.hid hp8
    have HR8 := Lib.hid hr8
    clear d2 d0 d2' d0' hr8 hp8 HP7
    have hx8 : Mods [mb] w7 w8 := HP8.out.2
    have g0 : w8.cell? ⟨w3.heap.size, 0, none⟩ = some (.int .i64 (P.sl.least : Nat)) := ((HW.out.rh.mods HM7.out HNP.out.2.1).mods hx8 (by simpa using HW.out.g.map.ne_row HW.out.rh)).cell 0
    have g1 : w8.cell? ⟨w3.heap.size, 1, none⟩ = some (.int .i64 (P.sl.gen : Nat)) := ((HW.out.rh.mods HM7.out HNP.out.2.1).mods hx8 (by simpa using HW.out.g.map.ne_row HW.out.rh)).cell 1
    have R8 := Lib.hid ((HW.out.r0.mods HM7.out HNP.out.2.2.1).mods hx8 (by simpa using HW.out.g.map.ne_row HW.out.r0))
    have i0 := R8.out.cell 0
    have i1 := R8.out.cell 1
    have i2 := R8.out.free
    clear hx8
    go_wp2_with (at_mapUpdate; refine wpList_map_run rfl (.tmp 90) (.tmp 91) (.tmp 92) _ rfl _ _ _ rfl rfl rfl HR8.out ?_)
    have h7 := H7.out.1
    rw [set_set'] at h7
    exact ret_hand2 Tryd.results21 ((R8.out.set 0 _).set 1 _) rfl rfl rfl ⟨rfl, Lib.hid (HW.out.end_ (fun k hk => by obtain ⟨i, hi⟩ := Ft.mem_all.1 hk; exact HH.out.lt i k hi) HH.out.ok HE.out HR.out HC.out h7 HM7.out HP8.out.1 HP8.out.2 (((Mods.refl _ w8).setCell (.inl (by simp)) _).setCell (.inl (by simp)) _))⟩
set_option maxHeartbeats 1000000 in
theorem watch_yes3 (w : World) (p g m K : Nat) (F : List Nat) (P : Plr) (h : PolA w p g F P m K) (c : Int) (r s e : Bool) (h1 : c = -1) (hc : c = -1 ∨ P.net.isO c = true) (hv : P.sl.hasV c = false) (hT : TzTab w) (hcnt : P.sl.cnt < 4096) (hK : K ≤ 4000000000000) (hn : P.sl.least = P.ws.length) :
    Calls Tryd.prog 21 #[.pointer (some ⟨p, 0, none⟩), .int .i64 c, .bool r, .bool s, .bool e] w fun e' w' => e' = .returned (.tuple #[.agg #[.int .i64 (P.sl.least : Nat), .int .i64 (P.sl.gen : Nat)], .int .i64 0]) ∧ Hid (PolTo w w' p g F (P.watch c r s e) m (K + 1)) := by
  have hnp := eql_ppol
  have hfl := fld_opn
  obtain ⟨i0, hi0, hz0, hz1, hz2⟩ := info_parts wch_info
  have HI := Lib.hid (And.intro hi0 (And.intro hz0 (And.intro hz1 hz2)))
  obtain ⟨x, hs, mb, vw, rfl, H⟩ := h
  have HR := Lib.hid (isO_rng H.net.ok hc)
  have HE := Lib.hid (show P.watchE c = 0 by
    unfold Plr.watchE
    rw [if_neg (fun h => by rcases hc with h2 | h2; exact h.1 h2; rw [h.2] at h2; cases h2), hv]
    rfl)
  have c0 : (w.alloc (.cells #[.int .i64 0, .int .i64 0] 47)).cell? ⟨p, 0, none⟩ = some (.pointer (some ⟨g, 0, none⟩)) := cell_alloc (H.row.cell 0) _
  have HH := Lib.hid H
  have HV := Lib.hid hv
  have HA0 := Lib.hid (H.quiet ((Mods.refl [] w).alloc (.cells #[.int .i64 0, .int .i64 0] 47)))
  have HT0 := Lib.hid (hT.mods ((Mods.refl [] w).alloc (.cells #[.int .i64 0, .int .i64 0] 47)) (by simp))
  have HT := Lib.hid hT
  have HC := Lib.hid hcnt
  have HK := Lib.hid hK
  have HN := Lib.hid hn
  obtain ⟨A, n, cap, rfl, hnl, hcap, hmx⟩ : ∃ A n cap, vw = .slice A n cap ∧ n = P.ws.length ∧ n ≤ cap ∧ cap ≤ maxLen := by
    obtain ⟨A, cap, e1, e2, e3⟩ := own_slice H.own
    exact ⟨A, _, cap, e1, rfl, e2, e3⟩
  have HNL := Lib.hid hnl
  have HLL := Lib.hid (show P.ws.length ≤ 4096 by rw [H.ok.len]; have := H.ok.sl.len; have := H.ok.lim; omega)
  have HLE := Lib.hid (show P.sl.least ≤ P.ws.length by rw [H.ok.len]; exact P.sl.least_le)
  have hb : (c != -1) = false := by simpa using h1
  clear H hc hv h1 hT hcnt hK hn hi0 hz0 hz1 hz2 hnl
  go_enter Tryd.func21, Tryd.ntmps21
  go_wp2_with fail
  have H1 := Lib.hid (Mods.refl [] (w.alloc (.cells #[.int .i64 0, .int .i64 0] 47)))
  have R1 := Lib.hid (Row.new w 47 #[.int .i64 0, .int .i64 0])
  refine (isw_any _ x p g hs mb m K _ P (HA0.out.quiet H1.out) c (by have := HR.out; omega)).mono ?_
  rw [HV.out]
  rintro e1 w2 ⟨rfl, hd⟩
  have R2 := Lib.hid (R1.out.mods hd (by simp))
  have H2 := Lib.hid (H1.out.trans hd (by simp))
  have c1 : w2.cell? ⟨p, 1, none⟩ = some (.pointer (some ⟨hs, 0, none⟩)) := (HA0.out.quiet H2.out).row.cell 1
  clear hd c0 R1 H1
  go_wp2_with fail
  refine (put_any w2 hs c (x.c 1) P.sl K (HA0.out.quiet H2.out).slb (HT0.out.mods H2.out (by simp)) (by have := HH.out.ok.lim; have := HC.out; omega) HK.out).mono ?_
  rintro e1 w3 ⟨rfl, hd⟩
  obtain ⟨x3, hg3, hs3, hx3⟩ := (HA0.out.quiet H2.out).toG.slab hd.out
  have hnx : w.heap.size ∉ x.c 1 := fun hk => Nat.lt_irrefl _ (HH.out.lt 1 _ hk)
  have R3 := Lib.hid (R2.out.mods (by obtain ⟨N, q1, q2, q3⟩ := hd.out; exact q2) hnx)
  have HG3 := Lib.hid hg3
  have HS3 := Lib.hid ((Stp.quiet H2.out).trans hs3)
  have c2 : (w3.alloc (.cells #[.int .i64 (P.sl.least : Nat), .int .i64 (P.sl.gen : Nat)] 47)).cell? ⟨p, 2, none⟩ = some (.slice A n cap) := cell_alloc (hg3.row.cell 2) _
  have RH := Lib.hid (Row.new w3 47 #[.int .i64 (P.sl.least : Nat), .int .i64 (P.sl.gen : Nat)])
  have k0 : (w3.alloc (.cells #[.int .i64 (P.sl.least : Nat), .int .i64 (P.sl.gen : Nat)] 47)).cell? ⟨w3.heap.size, 0, none⟩ = some (.int .i64 (P.sl.least : Nat)) := RH.out.cell 0
  have cmp : ((P.sl.least : Int) == (n : Int)) = true := by
    have := HN.out; have := HNL.out; have := HLE.out
    simp
    omega
  have LW := Lib.hid (show w.heap.size < w3.heap.size from Nat.lt_of_lt_of_le R2.out.lt (by obtain ⟨N, q1, q2, q3⟩ := hd.out; exact q2.size))
  clear hd hg3 hs3 hx3 hnx c1 R2
  go_upto_region 10 with fail
  go_quiet (fail)
  have NP := Lib.hid (show p ∉ (Value.slice A n cap).ownBlock.toList from fun hk => HG3.out.apt 4 2 (by decide) p (by rw [HG3.out.c4]; simp) (by rw [HG3.out.c2]; exact hk))
  go_wp2_with (at_builtin; refine wpList_append_n rfl (.tmp 62) (.tmp 64) 41 rfl 131 i0 _ 5 40 Tryd.underlying41 HI.out.1 HI.out.2.1 HI.out.2.2.1 HI.out.2.2.2 rfl (by omega) (.slice A n cap) n (fl Wch.cs P.ws) rfl (by have := HG3.out.own; rw [← HNL.out] at this; exact own_mods this ((((Mods.refl [] w3).alloc _).alloc _).same rfl rfl rfl rfl) (by simp)) ⟨w3.heap.size + 1, 0, none⟩ 1 1 Wch.no.cs rfl rfl (World.news_of_block (new_at (by simp))) (by simp [Wch.cs, Wch.no, Value.oneCell']) (by have := HNL.out; have := HLL.out; unfold maxLen; omega) (by have := HNL.out; have := HLL.out; omega) ?_; intro v5 w5 HO5 HM5; have RP5 := Lib.hid (Row.mods2 HG3.out.row HM5.out.1 (by exact (((Mods.refl [] w3).alloc _).alloc _).same rfl rfl rfl rfl) NP.out); have c25 := RP5.out.cell 2; have f25 := RP5.out.free; obtain ⟨g5, cp5, rfl, hg5, hc5, hm5⟩ := own_some HO5.out (by omega))
  have HMV := Lib.hid (show ∃ xv y, WMid w (w5.setCell ⟨p, 2, none⟩ (.slice (some ⟨g5, 0, none⟩) (n + 1) cp5)) x xv p g hs mb g5 (n + 1) cp5 P c (P.ws ++ [Wch.no]) m K w3.heap.size y from by
    have hnl := HNL.out
    have hq : Mods [] w3 _ := (by exact (((Mods.refl [] w3).alloc _).alloc _).same rfl rfl rfl rfl : Mods [] w3 (((w3.alloc (.cells #[.int .i64 (P.sl.least : Nat), .int .i64 (P.sl.gen : Nat)] 47)).drewN nq).alloc (.cells Wch.no.cs.toArray 131)))
    have ho := HO5.out
    have e1 : n + 1 = (P.ws ++ [Wch.no]).length := by simp; omega
    rw [e1, ← fl_one (f := Wch.cs) Wch.no, ← fl_append] at ho
    rw [e1]
    obtain ⟨xv, hgv, hsv⟩ := (HG3.out.quiet hq).grow (us := P.ws ++ [Wch.no]) ho ⟨HM5.out.1, HM5.out.2.imp id fun h => ⟨_, h, Nat.le_refl _⟩⟩
    have hp0 : p < w.heap.size := HH.out.row.lt
    have n1 := own_ne_row HG3.out.own R3.out (by decide)
    have n2 : ∀ k ∈ (Value.slice A n cap).ownBlock.toList, k ≠ w3.heap.size := fun k hk => by have := own_lt HG3.out.own k hk; omega
    have r0 := (Row.mods2 R3.out HM5.out.1 hq (fun hk => n1 _ hk rfl)).far (p := ⟨p, 2, none⟩) (by show w.heap.size ≠ p; omega) (.slice (some ⟨g5, 0, none⟩) (P.ws ++ [Wch.no]).length cp5)
    have rh := (((RH.out.drewN nq).alloc _).mods HM5.out.1 (fun hk => n2 _ hk rfl)).far (p := ⟨p, 2, none⟩) (by show w3.heap.size ≠ p; have := LW.out; omega) (.slice (some ⟨g5, 0, none⟩) (P.ws ++ [Wch.no]).length cp5)
    exact ⟨xv, Wch.no, hgv, (HS3.out.trans (Stp.quiet hq)).trans hsv, rfl, by rw [if_pos HN.out], by rw [HN.out]; simp, rh, r0⟩)
  obtain ⟨xv, y, hmv⟩ := HMV.out
  obtain ⟨wv, hwv⟩ : ∃ wv, wv = w5.setCell ⟨p, 2, none⟩ (.slice (some ⟨g5, 0, none⟩) (n + 1) cp5) := ⟨_, rfl⟩
  rw [← hwv]
  rw [← hwv] at hmv
  have HW := Lib.hid hmv
  have q1 : (P.sl.least : Int) < (n : Int) + 1 := by have := HLE.out; have := HNL.out; omega
  clear hwv hmv HMV c25 f25 cmp k0 hg5 hc5 hm5 c2
  have b2 : wv.cell? ⟨p, 2, none⟩ = some (.slice (some ⟨g5, 0, none⟩) (n + 1) cp5) := by
    have := HW.out.g.row.cell 2
    rw [HW.out.n]
    exact this
  have b0 : wv.cell? ⟨w3.heap.size, 0, none⟩ = some (.int .i64 (P.sl.least : Nat)) := HW.out.rh.cell 0
  have y0 : wv.cell? ⟨g5, P.sl.least * 5, none⟩ = some (.bool y.eg) := HW.out.ws.cell HW.out.y (j := 0) (by omega)
  have fv : ∀ j, wv.frozen? ⟨g5, j, none⟩ = false := HW.out.ws.free
  have q0 : (0 : Int) ≤ (P.sl.least : Int) := by omega
  obtain ⟨np1, np2, np3, np4⟩ := HW.out.np
  have b2' : (wv.setCell ⟨g5, P.sl.least * 5, none⟩ (.bool e)).cell? ⟨p, 2, none⟩ = some (.slice (some ⟨g5, 0, none⟩) (n + 1) cp5) := by
    have := (HW.out.g.row.far (p := ⟨g5, P.sl.least * 5, none⟩) (fun e => np1 (by rw [e]; simp)) (.bool e)).cell 2
    rw [HW.out.n]
    exact this
  have b0' : (wv.setCell ⟨g5, P.sl.least * 5, none⟩ (.bool e)).cell? ⟨w3.heap.size, 0, none⟩ = some (.int .i64 (P.sl.least : Nat)) := (HW.out.rh.far (p := ⟨g5, P.sl.least * 5, none⟩) (fun e => np2 (by rw [e]; simp)) (.bool e)).cell 0
  have HNP := Lib.hid (And.intro np1 (And.intro np2 (And.intro np3 np4)))
  clear np1 np2 np3 np4
  go_region_held3 (fun w' => w'.cell? ⟨p, 2, none⟩ = some (.slice (some ⟨g5, 0, none⟩) (n + 1) cp5) ∧ w'.cell? ⟨w3.heap.size, 0, none⟩ = some (.int .i64 (P.sl.least : Nat))) (first | go_keep | exact ⟨b2', b0'⟩) (fail)
  go_upto_region 13 with fail
  have HB := Lib.hid (get_set' (⟨y.rd, y.wr, e, y.tr, y.tw⟩ : Wch) HW.out.y)
  have HW6 := Lib.hid (show WsAt (wv.setCell ⟨g5, P.sl.least * 5, none⟩ (.bool e)) g5 cp5 ((P.ws ++ [Wch.no]).set P.sl.least ⟨y.rd, y.wr, e, y.tr, y.tw⟩) from HW.out.ws.put HW.out.y (j := 0) (by omega) rfl)
  have HM6 := Lib.hid (show Mods [g5] wv (wv.setCell ⟨g5, P.sl.least * 5, none⟩ (.bool e)).drew from ((Mods.refl _ wv).setCell (.inl (by simp)) _).drew)
  obtain ⟨w6, hw6⟩ : ∃ w6, w6 = (wv.setCell ⟨g5, P.sl.least * 5, none⟩ (.bool e)).drew := ⟨_, rfl⟩
  have HW6' := Lib.hid (show WsAt w6 g5 cp5 ((P.ws ++ [Wch.no]).set P.sl.least ⟨y.rd, y.wr, e, y.tr, y.tw⟩) by rw [hw6]; exact HW6.out)
  have d2 : w6.cell? ⟨p, 2, none⟩ = some (.slice (some ⟨g5, 0, none⟩) (n + 1) cp5) := by rw [hw6]; exact b2'
  have d0 : w6.cell? ⟨w3.heap.size, 0, none⟩ = some (.int .i64 (P.sl.least : Nat)) := by rw [hw6]; exact b0'
  rw [← hw6]
  rw [← hw6] at HM6
  have HC6 := Lib.hid (fun (wz : World) (hz : Mods [] w6 wz) => ask_any wz g5 cp5 P.sl.least _ _ (HW6'.out.mods hz (by simp)) HB.out r s)
  clear hw6 HW6 b2 b0 y0 fv b2' b0'
  go_region_held3 (fun w' => w'.cell? ⟨p, 2, none⟩ = some (.slice (some ⟨g5, 0, none⟩) (n + 1) cp5) ∧ w'.cell? ⟨w3.heap.size, 0, none⟩ = some (.int .i64 (P.sl.least : Nat))) (go_keep)
    ((go_at_call 60; refine Calls.mono (HC6.out _ ?_) ?_; exact (Mods.refl [] w6).same rfl rfl rfl rfl; rintro e2 w7 ⟨rfl, hd⟩; have H7 := Lib.hid (And.intro hd.out.1 (of_drew hd.out.2)); have d2' := cell_mods d2 H7.out.2 HNP.out.1; have d0' := cell_mods d0 H7.out.2 HNP.out.2.1; clear hd))
  all_goals
    have HM7 := Lib.hid (HM6.out.trans H7.out.2 (fun k hk => .inl hk))
    have c3 : w7.cell? ⟨p, 3, none⟩ = some (.map (some mb)) := (HW.out.g.row.mods HM7.out HNP.out.1).cell 3
    have HP7 := Lib.hid (SMap.put (HW.out.g.map.keep (HM7.out.block mb HW.out.g.map.lt HNP.out.2.2.2)) (show K < maxLen by unfold maxLen; have := HK.out; omega) (a := c) (by have := HR.out; omega))
    obtain ⟨w8, hr8, hp8⟩ := HP7.out
    have HP8 := Lib.hid hp8
    have HR8 := Lib.hid hr8
    clear d2 d0 d2' d0' hr8 hp8 HP7
    have hx8 : Mods [mb] w7 w8 := HP8.out.2
    have g0 : w8.cell? ⟨w3.heap.size, 0, none⟩ = some (.int .i64 (P.sl.least : Nat)) := ((HW.out.rh.mods HM7.out HNP.out.2.1).mods hx8 (by simpa using HW.out.g.map.ne_row HW.out.rh)).cell 0
    have g1 : w8.cell? ⟨w3.heap.size, 1, none⟩ = some (.int .i64 (P.sl.gen : Nat)) := ((HW.out.rh.mods HM7.out HNP.out.2.1).mods hx8 (by simpa using HW.out.g.map.ne_row HW.out.rh)).cell 1
    have R8 := Lib.hid ((HW.out.r0.mods HM7.out HNP.out.2.2.1).mods hx8 (by simpa using HW.out.g.map.ne_row HW.out.r0))
    have i0 := R8.out.cell 0
    have i1 := R8.out.cell 1
    have i2 := R8.out.free
    clear hx8
    go_wp2_with (at_mapUpdate; refine wpList_map_run rfl (.tmp 90) (.tmp 91) (.tmp 92) _ rfl _ _ _ rfl rfl rfl HR8.out ?_)
    have h7 := H7.out.1
    rw [set_set'] at h7
    exact ret_hand2 Tryd.results21 ((R8.out.set 0 _).set 1 _) rfl rfl rfl ⟨rfl, Lib.hid (HW.out.end_ (fun k hk => by obtain ⟨i, hi⟩ := Ft.mem_all.1 hk; exact HH.out.lt i k hi) HH.out.ok HE.out HR.out HC.out h7 HM7.out HP8.out.1 HP8.out.2 (((Mods.refl _ w8).setCell (.inl (by simp)) _).setCell (.inl (by simp)) _))⟩
set_option maxHeartbeats 1000000 in
theorem watch_yes4 (w : World) (p g m K : Nat) (F : List Nat) (P : Plr) (h : PolA w p g F P m K) (c : Int) (r s e : Bool) (h1 : c = -1) (hc : c = -1 ∨ P.net.isO c = true) (hv : P.sl.hasV c = false) (hT : TzTab w) (hcnt : P.sl.cnt < 4096) (hK : K ≤ 4000000000000) (hn : P.sl.least ≠ P.ws.length) :
    Calls Tryd.prog 21 #[.pointer (some ⟨p, 0, none⟩), .int .i64 c, .bool r, .bool s, .bool e] w fun e' w' => e' = .returned (.tuple #[.agg #[.int .i64 (P.sl.least : Nat), .int .i64 (P.sl.gen : Nat)], .int .i64 0]) ∧ Hid (PolTo w w' p g F (P.watch c r s e) m (K + 1)) := by
  have hnp := eql_ppol
  have hfl := fld_opn
  obtain ⟨i0, hi0, hz0, hz1, hz2⟩ := info_parts wch_info
  have HI := Lib.hid (And.intro hi0 (And.intro hz0 (And.intro hz1 hz2)))
  obtain ⟨x, hs, mb, vw, rfl, H⟩ := h
  have HR := Lib.hid (isO_rng H.net.ok hc)
  have HE := Lib.hid (show P.watchE c = 0 by
    unfold Plr.watchE
    rw [if_neg (fun h => by rcases hc with h2 | h2; exact h.1 h2; rw [h.2] at h2; cases h2), hv]
    rfl)
  have c0 : (w.alloc (.cells #[.int .i64 0, .int .i64 0] 47)).cell? ⟨p, 0, none⟩ = some (.pointer (some ⟨g, 0, none⟩)) := cell_alloc (H.row.cell 0) _
  have HH := Lib.hid H
  have HV := Lib.hid hv
  have HA0 := Lib.hid (H.quiet ((Mods.refl [] w).alloc (.cells #[.int .i64 0, .int .i64 0] 47)))
  have HT0 := Lib.hid (hT.mods ((Mods.refl [] w).alloc (.cells #[.int .i64 0, .int .i64 0] 47)) (by simp))
  have HT := Lib.hid hT
  have HC := Lib.hid hcnt
  have HK := Lib.hid hK
  have HN := Lib.hid hn
  obtain ⟨A, n, cap, rfl, hnl, hcap, hmx⟩ : ∃ A n cap, vw = .slice A n cap ∧ n = P.ws.length ∧ n ≤ cap ∧ cap ≤ maxLen := by
    obtain ⟨A, cap, e1, e2, e3⟩ := own_slice H.own
    exact ⟨A, _, cap, e1, rfl, e2, e3⟩
  have HNL := Lib.hid hnl
  have HLL := Lib.hid (show P.ws.length ≤ 4096 by rw [H.ok.len]; have := H.ok.sl.len; have := H.ok.lim; omega)
  have HLE := Lib.hid (show P.sl.least ≤ P.ws.length by rw [H.ok.len]; exact P.sl.least_le)
  have hb : (c != -1) = false := by simpa using h1
  obtain ⟨vb, rfl⟩ : ∃ vb, A = some ⟨vb, 0, none⟩ := by
    obtain ⟨g', c', e', _⟩ := own_some H.own (by have := HN.out; have := HLE.out; omega)
    injection e' with e1 e2 e3
    exact ⟨g', e1⟩
  clear H hc hv h1 hT hcnt hK hn hi0 hz0 hz1 hz2 hnl
  go_enter Tryd.func21, Tryd.ntmps21
  go_wp2_with fail
  have H1 := Lib.hid (Mods.refl [] (w.alloc (.cells #[.int .i64 0, .int .i64 0] 47)))
  have R1 := Lib.hid (Row.new w 47 #[.int .i64 0, .int .i64 0])
  refine (isw_any _ x p g hs mb m K _ P (HA0.out.quiet H1.out) c (by have := HR.out; omega)).mono ?_
  rw [HV.out]
  rintro e1 w2 ⟨rfl, hd⟩
  have R2 := Lib.hid (R1.out.mods hd (by simp))
  have H2 := Lib.hid (H1.out.trans hd (by simp))
  have c1 : w2.cell? ⟨p, 1, none⟩ = some (.pointer (some ⟨hs, 0, none⟩)) := (HA0.out.quiet H2.out).row.cell 1
  clear hd c0 R1 H1
  go_wp2_with fail
  refine (put_any w2 hs c (x.c 1) P.sl K (HA0.out.quiet H2.out).slb (HT0.out.mods H2.out (by simp)) (by have := HH.out.ok.lim; have := HC.out; omega) HK.out).mono ?_
  rintro e1 w3 ⟨rfl, hd⟩
  obtain ⟨x3, hg3, hs3, hx3⟩ := (HA0.out.quiet H2.out).toG.slab hd.out
  have hnx : w.heap.size ∉ x.c 1 := fun hk => Nat.lt_irrefl _ (HH.out.lt 1 _ hk)
  have R3 := Lib.hid (R2.out.mods (by obtain ⟨N, q1, q2, q3⟩ := hd.out; exact q2) hnx)
  have HG3 := Lib.hid hg3
  have HS3 := Lib.hid ((Stp.quiet H2.out).trans hs3)
  have c2 : (w3.alloc (.cells #[.int .i64 (P.sl.least : Nat), .int .i64 (P.sl.gen : Nat)] 47)).cell? ⟨p, 2, none⟩ = some (.slice (some ⟨vb, 0, none⟩) n cap) := cell_alloc (hg3.row.cell 2) _
  have RH := Lib.hid (Row.new w3 47 #[.int .i64 (P.sl.least : Nat), .int .i64 (P.sl.gen : Nat)])
  have k0 : (w3.alloc (.cells #[.int .i64 (P.sl.least : Nat), .int .i64 (P.sl.gen : Nat)] 47)).cell? ⟨w3.heap.size, 0, none⟩ = some (.int .i64 (P.sl.least : Nat)) := RH.out.cell 0
  have cmp : ((P.sl.least : Int) == (n : Int)) = false := by
    have := HN.out; have := HNL.out; have := HLE.out
    simp
    omega
  have LW := Lib.hid (show w.heap.size < w3.heap.size from Nat.lt_of_lt_of_le R2.out.lt (by obtain ⟨N, q1, q2, q3⟩ := hd.out; exact q2.size))
  clear hd hg3 hs3 hx3 hnx c1 R2
  go_upto_region 10 with fail
  go_quiet (fail)
  go_upto_region 12 with fail
  have HMV := Lib.hid (show ∃ xv y, WMid w ((w3.alloc (.cells #[.int .i64 (P.sl.least : Nat), .int .i64 (P.sl.gen : Nat)] 47)).drewN nq) x xv p g hs mb vb n cap P c P.ws m K w3.heap.size y from by
    have hnl := HNL.out
    have hle := HLE.out
    have hne := HN.out
    have hq : Mods [] w3 ((w3.alloc (.cells #[.int .i64 (P.sl.least : Nat), .int .i64 (P.sl.gen : Nat)] 47)).drewN nq) := (((Mods.refl [] w3).alloc _)).same rfl rfl rfl rfl
    have r0 := R3.out.mods hq (by simp)
    have hgv := HG3.out.quiet hq
    have hlt : P.sl.least < P.ws.length := by omega
    rw [hnl] at hgv ⊢
    exact ⟨x3, P.ws[P.sl.least], hgv, HS3.out.trans (Stp.quiet hq), rfl, by rw [if_neg HN.out], List.getElem?_eq_getElem hlt, RH.out.drewN nq, r0⟩)
  obtain ⟨xv, y, hmv⟩ := HMV.out
  obtain ⟨wv, hwv⟩ : ∃ wv, wv = (w3.alloc (.cells #[.int .i64 (P.sl.least : Nat), .int .i64 (P.sl.gen : Nat)] 47)).drewN nq := ⟨_, rfl⟩
  rw [← hwv]
  rw [← hwv] at hmv
  have HW := Lib.hid hmv
  have q1 : (P.sl.least : Int) < (n : Int) := by have := HLE.out; have := HNL.out; have := HN.out; omega
  clear hwv hmv HMV cmp k0 c2
  have b2 : wv.cell? ⟨p, 2, none⟩ = some (.slice (some ⟨vb, 0, none⟩) (n) cap) := by
    have := HW.out.g.row.cell 2
    rw [HW.out.n]
    exact this
  have b0 : wv.cell? ⟨w3.heap.size, 0, none⟩ = some (.int .i64 (P.sl.least : Nat)) := HW.out.rh.cell 0
  have y0 : wv.cell? ⟨vb, P.sl.least * 5, none⟩ = some (.bool y.eg) := HW.out.ws.cell HW.out.y (j := 0) (by omega)
  have fv : ∀ j, wv.frozen? ⟨vb, j, none⟩ = false := HW.out.ws.free
  have q0 : (0 : Int) ≤ (P.sl.least : Int) := by omega
  obtain ⟨np1, np2, np3, np4⟩ := HW.out.np
  have b2' : (wv.setCell ⟨vb, P.sl.least * 5, none⟩ (.bool e)).cell? ⟨p, 2, none⟩ = some (.slice (some ⟨vb, 0, none⟩) (n) cap) := by
    have := (HW.out.g.row.far (p := ⟨vb, P.sl.least * 5, none⟩) (fun e => np1 (by rw [e]; simp)) (.bool e)).cell 2
    rw [HW.out.n]
    exact this
  have b0' : (wv.setCell ⟨vb, P.sl.least * 5, none⟩ (.bool e)).cell? ⟨w3.heap.size, 0, none⟩ = some (.int .i64 (P.sl.least : Nat)) := (HW.out.rh.far (p := ⟨vb, P.sl.least * 5, none⟩) (fun e => np2 (by rw [e]; simp)) (.bool e)).cell 0
  have HNP := Lib.hid (And.intro np1 (And.intro np2 (And.intro np3 np4)))
  clear np1 np2 np3 np4
  go_region_held3 (fun w' => w'.cell? ⟨p, 2, none⟩ = some (.slice (some ⟨vb, 0, none⟩) (n) cap) ∧ w'.cell? ⟨w3.heap.size, 0, none⟩ = some (.int .i64 (P.sl.least : Nat))) (first | go_keep | exact ⟨b2', b0'⟩) (fail)
  go_upto_region 13 with fail
  have HB := Lib.hid (get_set' (⟨y.rd, y.wr, e, y.tr, y.tw⟩ : Wch) HW.out.y)
  have HW6 := Lib.hid (show WsAt (wv.setCell ⟨vb, P.sl.least * 5, none⟩ (.bool e)) vb cap ((P.ws).set P.sl.least ⟨y.rd, y.wr, e, y.tr, y.tw⟩) from HW.out.ws.put HW.out.y (j := 0) (by omega) rfl)
  have HM6 := Lib.hid (show Mods [vb] wv (wv.setCell ⟨vb, P.sl.least * 5, none⟩ (.bool e)).drew from ((Mods.refl _ wv).setCell (.inl (by simp)) _).drew)
  obtain ⟨w6, hw6⟩ : ∃ w6, w6 = (wv.setCell ⟨vb, P.sl.least * 5, none⟩ (.bool e)).drew := ⟨_, rfl⟩
  have HW6' := Lib.hid (show WsAt w6 vb cap ((P.ws).set P.sl.least ⟨y.rd, y.wr, e, y.tr, y.tw⟩) by rw [hw6]; exact HW6.out)
  have d2 : w6.cell? ⟨p, 2, none⟩ = some (.slice (some ⟨vb, 0, none⟩) (n) cap) := by rw [hw6]; exact b2'
  have d0 : w6.cell? ⟨w3.heap.size, 0, none⟩ = some (.int .i64 (P.sl.least : Nat)) := by rw [hw6]; exact b0'
  rw [← hw6]
  rw [← hw6] at HM6
  have HC6 := Lib.hid (fun (wz : World) (hz : Mods [] w6 wz) => ask_any wz vb cap P.sl.least _ _ (HW6'.out.mods hz (by simp)) HB.out r s)
  clear hw6 HW6 b2 b0 y0 fv b2' b0'
  go_region_held3 (fun w' => w'.cell? ⟨p, 2, none⟩ = some (.slice (some ⟨vb, 0, none⟩) (n) cap) ∧ w'.cell? ⟨w3.heap.size, 0, none⟩ = some (.int .i64 (P.sl.least : Nat))) (go_keep)
    ((go_at_call 60; refine Calls.mono (HC6.out _ ?_) ?_; exact (Mods.refl [] w6).same rfl rfl rfl rfl; rintro e2 w7 ⟨rfl, hd⟩; have H7 := Lib.hid (And.intro hd.out.1 (of_drew hd.out.2)); have d2' := cell_mods d2 H7.out.2 HNP.out.1; have d0' := cell_mods d0 H7.out.2 HNP.out.2.1; clear hd))
  all_goals
    have HM7 := Lib.hid (HM6.out.trans H7.out.2 (fun k hk => .inl hk))
    have c3 : w7.cell? ⟨p, 3, none⟩ = some (.map (some mb)) := (HW.out.g.row.mods HM7.out HNP.out.1).cell 3
    have HP7 := Lib.hid (SMap.put (HW.out.g.map.keep (HM7.out.block mb HW.out.g.map.lt HNP.out.2.2.2)) (show K < maxLen by unfold maxLen; have := HK.out; omega) (a := c) (by have := HR.out; omega))
    obtain ⟨w8, hr8, hp8⟩ := HP7.out
    have HP8 := Lib.hid hp8
    have HR8 := Lib.hid hr8
    clear d2 d0 d2' d0' hr8 hp8 HP7
    have hx8 : Mods [mb] w7 w8 := HP8.out.2
    have g0 : w8.cell? ⟨w3.heap.size, 0, none⟩ = some (.int .i64 (P.sl.least : Nat)) := ((HW.out.rh.mods HM7.out HNP.out.2.1).mods hx8 (by simpa using HW.out.g.map.ne_row HW.out.rh)).cell 0
    have g1 : w8.cell? ⟨w3.heap.size, 1, none⟩ = some (.int .i64 (P.sl.gen : Nat)) := ((HW.out.rh.mods HM7.out HNP.out.2.1).mods hx8 (by simpa using HW.out.g.map.ne_row HW.out.rh)).cell 1
    have R8 := Lib.hid ((HW.out.r0.mods HM7.out HNP.out.2.2.1).mods hx8 (by simpa using HW.out.g.map.ne_row HW.out.r0))
    have i0 := R8.out.cell 0
    have i1 := R8.out.cell 1
    have i2 := R8.out.free
    clear hx8
    go_wp2_with (at_mapUpdate; refine wpList_map_run rfl (.tmp 90) (.tmp 91) (.tmp 92) _ rfl _ _ _ rfl rfl rfl HR8.out ?_)
    have h7 := H7.out.1
    rw [set_set'] at h7
    exact ret_hand2 Tryd.results21 ((R8.out.set 0 _).set 1 _) rfl rfl rfl ⟨rfl, Lib.hid (HW.out.end_ (fun k hk => by obtain ⟨i, hi⟩ := Ft.mem_all.1 hk; exact HH.out.lt i k hi) HH.out.ok HE.out HR.out HC.out h7 HM7.out HP8.out.1 HP8.out.2 (((Mods.refl _ w8).setCell (.inl (by simp)) _).setCell (.inl (by simp)) _))⟩
/-- Somebody is asked for. -/
theorem watch_yes (w : World) (p g m K : Nat) (F : List Nat) (P : Plr) (h : PolA w p g F P m K) (c : Int) (r s e : Bool) (hc : c = -1 ∨ P.net.isO c = true) (hv : P.sl.hasV c = false) (hT : TzTab w) (hcnt : P.sl.cnt < 4096) (hK : K ≤ 4000000000000) :
    Calls Tryd.prog 21 #[.pointer (some ⟨p, 0, none⟩), .int .i64 c, .bool r, .bool s, .bool e] w fun e' w' => e' = .returned (.tuple #[.agg #[.int .i64 (P.sl.least : Nat), .int .i64 (P.sl.gen : Nat)], .int .i64 0]) ∧ Hid (PolTo w w' p g F (P.watch c r s e) m (K + 1)) := by
  by_cases h1 : c = -1
  · by_cases hn : P.sl.least = P.ws.length
    · exact watch_yes3 w p g m K F P h c r s e h1 hc hv hT hcnt hK hn
    · exact watch_yes4 w p g m K F P h c r s e h1 hc hv hT hcnt hK hn
  · by_cases hn : P.sl.least = P.ws.length
    · exact watch_yes1 w p g m K F P h c r s e h1 hc hv hT hcnt hK hn
    · exact watch_yes2 w p g m K F P h c r s e h1 hc hv hT hcnt hK hn
#print axioms watch_yes
end Go.Proofs.YthaapkafamdhcaaDoor

/- What Drop of the program's poller answers. -/
namespace Go.Proofs.YthaapkafamdhcaaDoor
open Go.RowKit
set_option maxRecDepth 10000
set_option linter.unusedVariables false
set_option linter.unusedSimpArgs false

theorem Slb.take1_vs (S : Slb) (h : Int × Int) : (S.take1 h).vs = S.vs := by unfold Slb.take1; split <;> rfl
theorem Plr.Ok.drop1 {P : Plr} {K : Nat} (H : P.Ok K) (h : Int × Int) : ({ P with sl := P.sl.take1 h } : Plr).Ok K :=
  ⟨by simp only [Slb.take1_len]; exact H.len, by rw [Slb.take1_lim]; exact H.lim, Slb.take1_dis H.dis h, Slb.take1_ok H.sl h, by simp only [Slb.take1_vs]; exact H.rng, H.tld⟩
theorem Plr.Ok.drop {P : Plr} {K : Nat} (H : P.Ok K) (l : List (Int × Int)) : (P.drop l).Ok K := by
  unfold Plr.drop Slb.takes
  induction l generalizing P with
  | nil => exact H
  | cons x l ih => exact ih (H.drop1 x)
theorem Pairs.take {w : World} {b : Nat} {l : List (Int × Int)} (h : Pairs w b l) (k : Nat) : Pairs w b (l.take k) := fun j p hp => by
  rw [List.getElem?_take] at hp
  split at hp
  · exact h j p hp
  · cases hp
theorem of_drew2 {F : List Nat} {a w : World} {o : Obj} (h : Mods F (a.alloc o).drew w) : Mods F a w := ((Mods.refl F a).alloc o).trans (of_drew h) fun k hk => .inl hk
/-- One handle has been dropped: the set, then the slab. -/
theorem PolF.dropped {w1 w2 w4 : World} {o : Obj} {x : Ft} {p g h mb m K i : Nat} {vw : Value} {P : Plr} {b : Int} (H : PolF w1 x p g h mb vw P m K) (his : P.sl.is i b = true) (hd : SMap w2 mb K (fun z => P.sl.hasV z && !decide (z = P.sl.vs.getD i 0)) ∧ Mods [mb] w1 w2) 
    (hs : SlabA w4 h (x.c 1) (P.sl.take1 ((i : Int), b)) K) (hm : Mods (x.c 1) (w2.alloc o).drew w4) : ∃ x', PolF w4 x' p g h mb vw { P with sl := P.sl.take1 ((i : Int), b) } m K ∧ Stp w1 w4 x.all x'.all := by
  have hq : Mods [] w2 (w2.alloc o).drew := ((Mods.refl [] w2).alloc o).drew
  obtain ⟨h1, s1⟩ := H.toG.mapTo hd.1 hd.2
  obtain ⟨x', h2, s2, -⟩ := (h1.quiet hq).slab ⟨x.c 1, hs, hm, fun k hk => .inl hk⟩
  refine ⟨x', h2.toF (H.ok.drop1 _) (fun a => ?_) (Nat.le_refl _), (s1.trans (Stp.quiet hq)).trans s2⟩
  obtain ⟨-, -, hu, -⟩ := Slb.is_lt his
  rw [Int.toNat_natCast] at hu
  have e : P.sl.take1 ((i : Int), b) = P.sl.take i := by unfold Slb.take1; simp only [his, if_true]; rfl
  simp only [e]
  exact (Slb.take_has H.ok.dis hu a).symm
set_option maxHeartbeats 1000000 in
theorem drop_any (w : World) (p g m K hb cc : Nat) (F : List Nat) (P : Plr) (l : List (Int × Int)) (h : PolA w p g F P m K) (hl : l.length ≤ 1000) (hp : Pairs w hb l) (hbF : hb ∉ F) (hb0 : hb < w.heap.size) :
    Calls Tryd.prog 25 #[.pointer (some ⟨p, 0, none⟩), .slice (some ⟨hb, 0, none⟩) l.length cc] w fun e w' => e = .returned (.int .i64 (P.sl.taken l : Nat)) ∧ Hid (PolTo w w' p g F (P.drop l) m K) := by
  have hnp := eql_ppol
  obtain ⟨x, hs, mb, vw, rfl, H⟩ := h
  have HH := Lib.hid H
  have HP := Lib.hid hp
  have HT := Lib.hid (fun k => P.sl.taken_le (l.take k))
  clear H hp
  go_enter Tryd.func25, Tryd.ntmps25
  go_wp2
  go_loopw [5, 7, 8, 9, 14] (fun n a b c i wr => ∃ k : Nat, k ≤ l.length ∧ i = .int .i64 k ∧ n = .int .i64 (P.sl.taken (l.take k) : Nat) ∧ Hid (∃ x', PolF wr x' p g hs mb vw (P.drop (l.take k)) m K ∧ Stp w wr x.all x'.all)) (fun _ _ _ _ i _ => l.length - (intOf i).toNat)
  case atStart => exact ⟨0, by omega, rfl, by simp [Slb.taken], Lib.hid ⟨x, HH.out, Stp.quiet (Mods.refl _ _)⟩⟩
  case round =>
    obtain ⟨k, hk, rfl, rfl, hr⟩ := hrel
    by_cases hlt : k < l.length
    · obtain ⟨x1, h1, s1⟩ := hr.out
      have hbx : hb ∉ x1.all := fun h => by
        rcases s1.f _ h with h | h
        · exact hbF h
        · omega
      have ht := HT.out k
      have htl : (l.take k).length ≤ 1000 := by simp; omega
      have hq := List.getElem?_eq_getElem hlt
      have hnx := take_next l k hlt
      generalize l[k] = q at hq hnx
      obtain ⟨a, b⟩ := q
      obtain ⟨p1, p2, ⟨p3, p4⟩, p5, p6⟩ := (HP.out.mods s1.m hbF) k (a, b) hq
      have hT1 : P.sl.taken (l.take (k + 1)) = P.sl.taken (l.take k) + ((P.drop (l.take k)).sl.is a b).toNat := by rw [hnx, Slb.taken_snoc]; rfl
      have hS1 : P.drop (l.take (k + 1)) = { P.drop (l.take k) with sl := (P.drop (l.take k)).sl.take1 (a, b) } := by
        simp only [Plr.drop, hnx, Slb.takes_snoc]
      generalize hP2 : P.drop (l.take k) = P2 at *
      generalize P.sl.taken (l.take k) = mm at *
      have c1 : (wr.alloc (.cells #[.int .i64 a, .int .i64 b] 47)).cell? ⟨p, 1, none⟩ = some (.pointer (some ⟨hs, 0, none⟩)) := cell_alloc (h1.row.cell 1) _
      have d0 : (wr.alloc (.cells #[.int .i64 a, .int .i64 b] 47)).cell? ⟨wr.heap.size, 0, none⟩ = some (.int .i64 a) := (Row.new wr 47 #[.int .i64 a, .int .i64 b]).cell 0
      have d1 : (wr.alloc (.cells #[.int .i64 a, .int .i64 b] 47)).cell? ⟨wr.heap.size, 1, none⟩ = some (.int .i64 b) := (Row.new wr 47 #[.int .i64 a, .int .i64 b]).cell 1
      have H1 := Lib.hid h1
      have S1 := Lib.hid s1
      cases his : P2.sl.is a b
      · have HS := Lib.hid his
        have HT1 := Lib.hid (show P.sl.taken (l.take (k + 1)) = mm by rw [hT1, his]; rfl)
        have HS1 := Lib.hid (show P.drop (l.take (k + 1)) = P2 by rw [hS1]; unfold Slb.take1; rw [if_neg (by rw [his]; simp)])
        have HB := Lib.hid (And.intro p3 p4)
        have ht2 : mm ≤ 1000 := by omega
        clear hr h1 s1 hbx hq hnx hT1 hS1 hP2 his p3 p4 p5 p6 ht htl
        go_upto_region 7 with fail
        go_region_held3 (fun w' => w'.cell? ⟨p, 1, none⟩ = some (.pointer (some ⟨hs, 0, none⟩)) ∧ w'.cell? ⟨wr.heap.size, 0, none⟩ = some (.int .i64 a) ∧ w'.cell? ⟨wr.heap.size, 1, none⟩ = some (.int .i64 b)) (go_keep)
          ((go_at_call 65; refine Calls.mono (get_no _ hs a b (x1.c 1) P2.sl K HB.out.1 HB.out.2 (slabA_mods H1.out.slb (((Mods.refl [] wr).alloc _).same rfl rfl rfl rfl) (by simp)) HS.out) ?_; rintro e w1 ⟨rfl, hd⟩; have G1 := Lib.hid (of_drew hd); have c1' := cell_mods c1 (of_drew hd) (by simp); have d0' := cell_mods d0 (of_drew hd) (by simp); have d1' := cell_mods d1 (of_drew hd) (by simp); clear hd))
        all_goals go_wp2
        all_goals go_roundw
        all_goals first
          | exact ⟨k + 1, by omega, by go_num, by rw [HT1.out], Lib.hid ⟨x1, by rw [HS1.out]; exact H1.out.quiet (((Mods.refl [] wr).alloc _).trans G1.out (by simp)), S1.out.trans (Stp.quiet (((Mods.refl [] wr).alloc _).trans G1.out (by simp)))⟩⟩
          | (simp [intOf]; omega)
      · obtain ⟨i0, hi, hu, -⟩ := Slb.is_lt his
        obtain ⟨i, rfl⟩ := Int.eq_ofNat_of_zero_le i0
        rw [Int.toNat_natCast] at hi hu
        have h4 := h1.ok.sl.len
        have h5 := h1.ok.sl.hi
        have HIL := Lib.hid (show i < 4096 by omega)
        have HBB := Lib.hid (And.intro p5 p6)
        have NS := Lib.hid (show p ∉ x1.c 1 ∧ wr.heap.size ∉ x1.c 1 from ⟨fun hk => h1.apt 4 1 (by decide) p (by rw [h1.c4]; simp) hk, fun hk => Nat.lt_irrefl _ (h1.lt 1 _ hk)⟩)
        have HS := Lib.hid his
        have HT1 := Lib.hid (show P.sl.taken (l.take (k + 1)) = mm + 1 by rw [hT1, his]; rfl)
        have HS1 := Lib.hid hS1
        have ht2 : mm ≤ 1000 := by omega
        obtain ⟨z, hz⟩ : ∃ z, P2.sl.vs.getD i 0 = z := ⟨_, rfl⟩
        have HZ := Lib.hid hz
        have HRZ := Lib.hid (show -1 ≤ z ∧ z ≤ 65536 by rw [← hz]; exact h1.ok.rng i)
        have HGT := get_yes (wr.alloc (.cells #[.int .i64 i, .int .i64 b] 47)).drew hs i b (x1.c 1) P2.sl K HIL.out (slabA_mods h1.slb (((Mods.refl [] wr).alloc _).same rfl rfl rfl rfl) (by simp)) his
        rw [hz] at HGT
        have HGG := Lib.hid HGT
        clear hr h1 s1 hbx hq hnx hT1 hS1 hP2 his p3 p4 p5 p6 ht htl hi hu h4 h5 hz HGT i0
        go_upto_region 7 with fail
        go_region_held3 (fun w' => w'.cell? ⟨p, 1, none⟩ = some (.pointer (some ⟨hs, 0, none⟩)) ∧ w'.cell? ⟨wr.heap.size, 0, none⟩ = some (.int .i64 (i : Nat)) ∧ w'.cell? ⟨wr.heap.size, 1, none⟩ = some (.int .i64 b)) (go_keep)
          ((go_at_call 65; refine Calls.mono HGG.out ?_; rintro e w1 ⟨rfl, hd⟩; have G1 := Lib.hid (of_drew hd); have c1' := cell_mods c1 (of_drew hd) (by simp); have d0' := cell_mods d0 (of_drew hd) (by simp); have d1' := cell_mods d1 (of_drew hd) (by simp); clear hd))
        all_goals
          have GW := Lib.hid (((Mods.refl [] wr).alloc _).trans G1.out (by simp))
          have H1w := Lib.hid (H1.out.quiet GW.out)
          have c3 : w1.cell? ⟨p, 3, none⟩ = some (.map (some mb)) := H1w.out.row.cell 3
          have HD := Lib.hid (SMap.del H1w.out.map (a := z) (by have := HRZ.out; omega) 0)
          obtain ⟨w2, hr2, hp2⟩ := HD.out
          have HR2 := Lib.hid hr2
          have HP2 := Lib.hid hp2
          have NM := Lib.hid (show wr.heap.size ≠ mb ∧ p ≠ mb from ⟨fun e => by have := H1.out.map.lt; omega, H1.out.map.ne_row H1.out.row⟩)
          have m1 := cell_mods c1' hp2.2 (by simpa using NM.out.2)
          have m2 := cell_mods d0' hp2.2 (by simpa using NM.out.1)
          have m3 := cell_mods d1' hp2.2 (by simpa using NM.out.1)
          clear c1 d0 d1 c1' d0' d1' hr2 hp2 HD
          go_upto_region 10 with (at_delete; refine wpList_del_run rfl (.tmp 32) (.tmp 33) _ _ rfl _ _ rfl rfl HR2.out ?_)
        all_goals
          have hq2 : Mods [mb] wr w2 := (GW.out.more (by simp)).trans HP2.out.2 (fun k hk => .inl hk)
          have hz2 : wr.heap.size < w2.heap.size := Nat.lt_of_lt_of_le (World.block_lt_of_cell? w2 _ m2) (Nat.le_refl _)
          have hsl : ∀ k ∈ x1.c 1, k < w2.heap.size := fun k hk => Nat.lt_of_lt_of_le (H1.out.lt 1 k hk) (by omega)
          have hsa : SlabA w2 hs (x1.c 1) P2.sl K := slabA_mods H1.out.slb hq2 (fun k hk hk2 => H1.out.apt 1 3 (by decide) k hk (by rw [H1.out.c3]; exact hk2))
          have htk := stake_any (w2.alloc (.cells #[.int .i64 i, .int .i64 b] 47)).drew hs w2.heap.size 1 [((i : Int), b)] (x1.c 1) P2.sl K (slabA_mods hsa (((Mods.refl [] w2).alloc _).same rfl rfl rfl rfl) (by simp)) (by simp) (pairs_row (Row.new w2 47 _) rfl (by
            intro q hq
            simp at hq
            subst hq
            have := HIL.out; have := HBB.out
            exact ⟨⟨by simp only []; omega, by simp only []; omega⟩, HBB.out⟩)) (fun hk => Nat.lt_irrefl _ (hsl _ hk))
          rw [show ((P2.sl.taken [((i : Int), b)] : Nat) : Int) = 1 by simp [Slb.taken, HS.out]] at htk
          have HTK := Lib.hid htk
          have hwr : IntKind.i64.wrap ((mm : Int) + 1) = (mm : Int) + 1 := wrap_small (by omega) (by omega)
          clear hq2 hz2 hsl hsa htk
          go_region_held3 (fun w' => w'.cell? ⟨p, 1, none⟩ = some (.pointer (some ⟨hs, 0, none⟩)) ∧ w'.cell? ⟨wr.heap.size, 0, none⟩ = some (.int .i64 (i : Nat)) ∧ w'.cell? ⟨wr.heap.size, 1, none⟩ = some (.int .i64 b)) (go_keep)
            ((go_at_call 66; refine Calls.mono HTK.out ?_; rintro e w3 ⟨rfl, hs3, hm3⟩; have HX := Lib.hid (PolF.dropped H1w.out HS.out (by rw [HZ.out]; exact HP2.out) hs3 hm3); have m1b := cell_mods m1 (of_drew2 hm3) NS.out.1; have m2b := cell_mods m2 (of_drew2 hm3) NS.out.2; have m3b := cell_mods m3 (of_drew2 hm3) NS.out.2; clear hs3 hm3))
        all_goals go_wp2
        all_goals go_roundw
        all_goals first
          | exact ⟨k + 1, by omega, by go_num, by rw [HT1.out]; first | rfl | go_num, Lib.hid (by
              rw [HS1.out]
              obtain ⟨x2, hx2, hs2⟩ := HX.out
              exact ⟨x2, hx2, (S1.out.trans (Stp.quiet GW.out)).trans hs2⟩)⟩
          | (simp [intOf]; omega)
    · have e : k = l.length := by omega
      subst e
      have HZ := Lib.hid hr.out
      clear hr
      have e : l.take l.length = l := List.take_length
      rw [e] at HZ ⊢
      go_wp2
      go_ret
      refine ⟨rfl, Lib.hid ?_⟩
      obtain ⟨x1, h1, s1⟩ := HZ.out
      exact ⟨x1.all, ⟨x1, hs, mb, vw, rfl, h1⟩, s1.m, s1.f⟩
#print axioms drop_any
end Go.Proofs.YthaapkafamdhcaaDoor
