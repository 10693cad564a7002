/- The code's Tokens answers the tokens of its values in small letters, or that they are no such lists. Conditions: values of at most a million bytes in all. -/
import Derived.Test.YtgkhelbpccehcaaGreatDoorSp9
import Derived.Maps.AppendAt
import Derived.Maps.OwnIn
import Derived.RangeFuncBox
namespace Go.Proofs.YtgkhelbpccehcaaGreatDoor
open Go.RowKit Go.Shelf
attribute [local go_sem] Oper.semAt_some
set_option linter.unusedVariables false

/-- A slice of texts as a walk sees it. -/
def StrsAt (W : World) (v : Value) (ts : List ByteArray) : Prop :=
  (ts = [] ∧ ∃ a cap, v = .slice a 0 cap) ∨
  ∃ (b off cap : Nat), v = .slice (some ⟨b, off, none⟩) ts.length cap ∧ 0 < ts.length ∧ b < W.heap.size ∧ ∀ j (h : j < ts.length), W.cell? ⟨b, off + j, none⟩ = some (.string ts[j])
/-- What Tokens answers: new memory, nothing that lay has turned. -/
def TokAns (w : World) (ts : List ByteArray) (e : Ending) (w' : World) : Prop :=
  Below w.heap.size w w' ∧
  match toksO ts with
  | some L => ∃ v, e = .returned (.tuple #[v, .bool true]) ∧ w'.ownsRow w.heap.size 9 1 v L.length (strs9 L)
  | none => e = .returned (.tuple #[.slice none 0 0, .bool false])
theorem infoS : (Tryz.prog.info? 9).map (fun i => (i.zero, i.size, i.bytes)) = some (some (.string ByteArray.empty), 1, 16) := by kernel_rfl

theorem keeps_below {W W' : World} (h : Below W.heap.size W W') : KeepsOthers W W' := ⟨h.size, fun k o hk _ => (h.block k (Array.getElem?_eq_some_iff.1 hk).1).trans hk⟩
theorem box3_below {b : Nat} {W W' : World} (h : Below W.heap.size W W') (hb : b + 3 ≤ W.heap.size) : Box3 b W W' := fun k _ _ => h.block k (by omega)
theorem boxed_below {B b : Nat} {t : TypeId} {v : Value} {W W' : World} (h : Boxed W b t v) (hb : Below B W W') (hB : b < B) : Boxed W' b t v := (hb.block b hB).trans h

/-- The function's own variables: the two results, the tokens; what it has gathered; what lay ahead of it. -/
structure Hold (w : World) (L : List (List UInt8)) (v : Value) (W : World) : Prop where
  r0 : Boxed W w.heap.size 112 (.slice none 0 0)
  r1 : Boxed W (w.heap.size + 1) 4 (.bool false)
  bx : Boxed W (w.heap.size + 2) 112 v
  row : W.ownsRow w.heap.size 9 1 v L.length (strs9 L)
  low : Below w.heap.size w W
theorem Hold.size {w W : World} {L : List (List UInt8)} {v : Value} (h : Hold w L v W) : w.heap.size + 3 ≤ W.heap.size := h.bx.lt
theorem Hold.below {w W W' : World} {L : List (List UInt8)} {v : Value} (h : Hold w L v W) (hb : Below W.heap.size W W') : Hold w L v W' :=
  ⟨boxed_below h.r0 hb h.r0.lt, boxed_below h.r1 hb h.r1.lt, boxed_below h.bx hb h.bx.lt,
    h.row.kept (row := none) ⟨hb.os, hb.tape, hb.output, hb.size, fun k hk _ => hb.block k hk⟩ (by rcases h.row.2 with ⟨rfl, _⟩ | ⟨g, cap, cur, rfl, _⟩ <;> simp [Value.ownBlock]), h.low.trans (hb.mono h.low.size)⟩
/-- A turn of one block that is none of these. -/
theorem Hold.turn {w W W' : World} {L : List (List UInt8)} {v : Value} {row : Option Nat} (h : Hold w L v W) (hg : W.grownBy W' row)
    (hr : ∀ r, row = some r → w.heap.size + 3 ≤ r ∧ v.ownBlock ≠ some r) : Hold w L v W' := by
  have h0 : ∀ k, k < w.heap.size + 3 → some k ≠ row := fun k hk e => by have := (hr k e.symm).1; omega
  refine ⟨h.r0.kept hg (h0 _ (by omega)), h.r1.kept hg (h0 _ (by omega)), h.bx.kept hg (h0 _ (by omega)), h.row.kept hg ?_, h.low.grown hg h.low.size (fun k e => by have := (hr k e).1; omega)⟩
  cases hv : v.ownBlock with
  | none => exact .inl rfl
  | some g => exact .inr fun e => (hr g e.symm).2 hv
/-- What a round finds: the parts that have come, what was gathered of them, the marks of the loops ahead. -/
def Rnd (w : World) (done : List (List UInt8)) (ds : List Deferred) (b : Nat) (pre : List ByteArray) (W : World) : Prop :=
  (∃ L v, tokO (done ++ pre.map fun t => t.data.toList) = some L ∧ Hold w L v W ∧ ∀ j, b ≤ j → j < b + 3 → v.ownBlock ≠ some j) ∧ Marks w.heap.size ds W ∧ b + 3 ≤ W.heap.size
/-- What a round leaves behind where a part is no token. -/
def Out (w : World) (done : List (List UInt8)) (ds : List Deferred) (c : Code) (pre : List ByteArray) (W : World) : Prop :=
  c = .ret ∧ tokO (done ++ pre.map fun t => t.data.toList) = none ∧ Boxed W w.heap.size 112 (.slice none 0 0) ∧ Boxed W (w.heap.size + 1) 4 (.bool false) ∧ Below w.heap.size w W ∧ Marks w.heap.size ds W
theorem marks_turn {B b : Nat} {W W' : World} {row : Option Nat} {ds : List Deferred} (h : Marks B ds W) (hg : W.grownBy W' row) (hds : ∀ d ∈ ds, ∀ k, d.target = .collected k → k < b)
    (hr : ∀ r, row = some r → b ≤ r) : Marks B ds W' :=
  h.kept fun d hd k hk hw => (hg.block k (Array.getElem?_eq_some_iff.1 hw).1 (fun e => by have := hds d hd k hk; have := hr k e.symm; omega)).trans hw
theorem marks_keeps {B : Nat} {W W' : World} {ds : List Deferred} (h : Marks B ds W) (hk : KeepsOthers W W') : Marks B ds W' :=
  h.kept fun d hd k hk' hw => hk.same k _ hw rfl
theorem rnd_firm {w : World} {done : List (List UInt8)} {ds : List Deferred} {b B : Nat} (hb : w.heap.size + 3 ≤ b) (hB : b < B) (hds : ∀ d ∈ ds, ∀ k, d.target = .collected k → k < b) : Firm b B (Rnd w done ds b) := by
  rintro s W W' row ⟨⟨L, v, ht, hh, hv⟩, hm, hsz⟩ hg hr
  refine ⟨⟨L, v, ht, hh.turn hg fun r e => ?_, hv⟩, marks_turn hm hg hds fun r e => by rcases hr r e with rfl | ⟨h, _⟩ <;> omega, Nat.le_trans hsz hg.size⟩
  rcases hr r e with rfl | ⟨h, o, ho, hc⟩
  · exact ⟨hb, hv _ (Nat.le_refl _) (by omega)⟩
  · refine ⟨by omega, fun e2 => ?_⟩
    rcases hh.row.2 with ⟨rfl, _⟩ | ⟨g, cap, cur, rfl, _, hgb, _⟩
    · simp [Value.ownBlock] at e2
    · obtain rfl : g = r := by simpa [Value.ownBlock] using e2
      rw [hgb] at ho; cases ho; cases hc
theorem out_firm {w : World} {done : List (List UInt8)} {ds : List Deferred} {b B : Nat} (hb : w.heap.size + 3 ≤ b) (hB : b < B) (hds : ∀ d ∈ ds, ∀ k, d.target = .collected k → k < b) (c : Code) : Firm b B (Out w done ds c) := by
  rintro s W W' row ⟨hc, ht, h0, h1, hl, hm⟩ hg hr
  have hr' : ∀ r, row = some r → b ≤ r := fun r e => by rcases hr r e with rfl | ⟨h, _⟩ <;> omega
  have hne : ∀ k, k < b → some k ≠ row := fun k hk e => by have := hr' k e.symm; omega
  exact ⟨hc, ht, h0.kept hg (hne _ (by omega)), h1.kept hg (hne _ (by omega)), hl.grown hg hl.size (fun k e => by have := hr' k e; omega), marks_turn hm hg hds hr'⟩
theorem map_snoc (pre : List ByteArray) (x : ByteArray) (done : List (List UInt8)) : done ++ (pre ++ [x]).map (fun t => t.data.toList) = (done ++ pre.map fun t => t.data.toList) ++ [x.data.toList] := by simp
theorem parts_map (s : ByteArray) : (partsB s).map (fun t => t.data.toList) = splitC s.data.toList := by
  unfold partsB; rw [List.map_map]
  exact (List.map_congr_left (fun l _ => ba_list l)).trans (List.map_id _)
theorem splitAcc_mem : ∀ (l cur : List UInt8) (p : List UInt8), p ∈ splitAcc cur l → p.length ≤ cur.length + l.length
  | [], cur, p, h => by simp [splitAcc] at h; subst h; simp
  | c :: r, cur, p, h => by
    simp only [splitAcc] at h
    split at h
    · rw [List.mem_cons] at h
      rcases h with rfl | h
      · simp only [List.length_cons]; omega
      · have := splitAcc_mem r [] p h; simp only [List.length_cons, List.length_nil] at *; omega
    · have := splitAcc_mem r _ p h; simp only [List.length_append, List.length_cons, List.length_nil] at *; omega
theorem partsB_mem {s x : ByteArray} (h : x ∈ partsB s) : x.size ≤ s.size := by
  unfold partsB at h
  obtain ⟨p, hp, rfl⟩ := List.mem_map.1 h
  have := splitAcc_mem s.data.toList [] p hp
  have e : (ba p).size = p.length := rfl
  have e2 : s.data.toList.length = s.size := rfl
  simp only [List.length_nil] at this; omega
theorem more_room {ts : List ByteArray} {k : Nat} (hk : k < ts.length) {pre post : List ByteArray} {x : ByteArray} {L : List (List UInt8)} (hp : partsB ts[k] = pre ++ x :: post)
    (hL : tokO (partsO (ts.take k) ++ pre.map fun t => t.data.toList) = some L) : L.length + 1 ≤ sizes ts := by
  have h1 := tokO_len hL
  have h2 := partsO_len ts
  have h3 := congrArg List.length (partsO_take ts k hk)
  have h4 := congrArg List.length hp
  unfold partsB at h4
  simp only [List.length_append, List.length_map, List.length_cons] at h1 h3 h4
  omega
theorem row_cells {base size n : Nat} {e : TypeId} {v : Value} {xs : List Value} {W W' : World} (h : W.ownsRow base e size v n xs) (hc : ∀ (k : Nat) (o : Obj), W.heap[k]? = some o → o.isCells = true → W'.heap[k]? = some o) : W'.ownsRow base e size v n xs := by
  refine ⟨h.1, ?_⟩
  rcases h.2 with hn | ⟨g, cap, cur, rfl, hb, hg, rest⟩
  · exact .inl hn
  · exact .inr ⟨g, cap, cur, rfl, hb, hc _ _ hg rfl, rest⟩
theorem results_cells {fn : Func} {p q : Tmp} {ty uy : TypeId} (h : fn.results = #[.cell p ty, .cell q uy]) {tmps : Array Value} {P : Program} {w : World} {a b n c : Nat} {A : Option Addr} {t : Bool}
    (hp : tmps.getD p undef = .pointer (some ⟨a, 0, none⟩)) (hq : tmps.getD q undef = .pointer (some ⟨b, 0, none⟩)) (hu : Boxed w a ty (.slice A n c)) (hv : Boxed w b uy (.bool t))
    (ha : (isAgg ty).run P w = .ok false w) (ha2 : (isAgg uy).run P w = .ok false w) :
    (results fn tmps).run P w = .ok (.tuple #[.slice A n c, .bool t]) w := by
  have hc := hu.cell
  have hc2 := hv.cell
  simp only [Array.getD_eq_getD_getElem?] at hp hq
  simp [results, h, go_sem, hp, hq, hc, hc2, ha, ha2]
end Go.Proofs.YtgkhelbpccehcaaGreatDoor
