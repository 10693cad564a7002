/- append onto bytes of the call's own, the source nil, empty or not. No text of the program. -/
import Derived.Test.YthaapkafamdhcaaDoorBy
import Derived.Maps.AppendAt
import Derived.OwnWalk
namespace Go.Proofs.YthaapkafamdhcaaDoor
open Go.RowKit

theorem bv_append (l m : List Int) : bv (l ++ m) = bv l ++ bv m := by simp [bv]
section
variable {P : Program} (w : World)
theorem run_append_bytes (t ty e : TypeId) (i : TypeInfo) (z : Value) (ht : P.underlying t = some (.slice e)) (hi : P.info? e = some i) (hz : i.zero = some z) (hs : i.size = 1) (hb : i.bytes = 1) (hzs : z.cells.size = 1)
    (v : Value) (n : Nat) (xs : List Int) (hown : w.ownsRow 0 e 1 v n (bv xs)) (F : List Nat) (A : Option Addr) (m c : Nat) (l : List Int) (hm : m = l.length) (ha : At w F A l) (hl : n + l.length ≤ 1000000000) :
    ∃ v' w', (Builtin.append_ #[t, t] ty #[v, .slice A m c]).run P w = .ok v' w' ∧ w'.ownsRow 0 e 1 v' (n + m) (bv (xs ++ l)) ∧ w.grownBy w' v.ownBlock ∧
      (v'.ownBlock = v.ownBlock ∨ v'.ownBlock = some w.heap.size) := by
  subst hm
  cases A with
  | none =>
    have h0 : l = [] := by
      cases l with
      | nil => rfl
      | cons x l => obtain ⟨b, o, e, _⟩ := ha 0 x rfl; cases e
    subst h0
    refine ⟨v, w, ?_, by simpa using hown, World.grownBy.refl w _, .inl rfl⟩
    rcases hown.2 with ⟨rfl, rfl⟩ | ⟨g, cap, cur, rfl, _, _, hnc, _⟩
    · simp [Builtin.append_, run_underlying ht, sizeOf, typeInfo, hi, Builtin.lenOf, Builtin.firstCells]
    · simp [Builtin.append_, run_underlying ht, sizeOf, typeInfo, hi, Builtin.lenOf, Builtin.firstCells, hnc, storeCells]
  | some ad =>
    obtain ⟨v', w', hr, h2, h3, _, h5⟩ := run_append_own_at (P := P) w 0 t ty e i z 1 1 ht hi hz hs hb hzs (by decide) v n (bv xs) hown ad l.length c (bv l) (by rw [bv_length]; omega)
      (fun j u hu => by
        have hp : 0 < l.length := by have := (List.getElem?_eq_some_iff.1 hu).1; rw [bv_length] at this; omega
        obtain ⟨ad', e, h⟩ := ha.src hp
        injection e with e
        subst e
        exact h j u hu) (bv_one l) (by unfold maxLen; omega) (by omega) (Nat.zero_le _)
    exact ⟨v', w', hr, by rw [bv_append]; exact h2, h3, h5⟩
/-- For the walk. -/
theorem wpList_append_bytes {ops : Array Oper} {rest : List Oper} {o : Oper} {a : Act} {Q : Exit → Act → World → Prop} (hgd : o.guard = none) (s x : Operand) (t : TypeId)
    (ho : o.op = .call { callee := .builtin .append, args := #[s, x], argTypes := #[t, t] })
    (e : TypeId) (i : TypeInfo) (z : Value) (ht : P.underlying t = some (.slice e)) (hi : P.info? e = some i) (hz : i.zero = some z) (hs : i.size = 1) (hb : i.bytes = 1) (hzs : z.cells.size = 1)
    (v : Value) (n : Nat) (xs : List Int) (hsv : a.eval s = v) (hown : w.ownsRow 0 e 1 v n (bv xs)) (F : List Nat) (A : Option Addr) (m c : Nat) (l : List Int) (hx : a.eval x = .slice A m c) (hm : m = l.length) (ha : At w F A l) (hl : n + l.length ≤ 1000000000)
    (h : ∀ v' w', Hid (w'.ownsRow 0 e 1 v' (n + m) (bv (xs ++ l))) → Hid (Mods v.ownBlock.toList w w' ∧ (v'.ownBlock = v.ownBlock ∨ v'.ownBlock = some w.heap.size)) → wpList P ops Q rest (a.put o.dst v') w') : wpList P ops Q (o :: rest) a w := by
  refine wpList_plain hgd fun K hK => ?_
  obtain ⟨v', w', hr, h2, h3, h5⟩ := run_append_bytes (P := P) w t o.type e i z ht hi hz hs hb hzs v n xs hown F A m c l hm ha hl
  unfold Oper.wp execOp
  simp only [ho, resolve, invoke, builtin, Sem.run_bind, Sem.run_pure, Result.andThen_ok, List.map_toArray, List.map_cons, List.map_nil, hsv, hx, hr]
  exact hK _ _ (h v' w' (Lib.hid h2) (Lib.hid ⟨(Mods.refl _ _).grown h3 (fun k hk => .inl (by rw [hk]; simp)), h5⟩))
end
/-- The bytes that a literal has laid. -/
theorem At.lit (w : World) (F : List Nat) (t : TypeId) (l : List Int) (hF : w.heap.size ∉ F) (hr : ∀ x ∈ l, 0 ≤ x ∧ x ≤ 255) : At (w.alloc (.cells (bv l).toArray t)) F (some ⟨w.heap.size, 0, none⟩) l := fun i x hx => by
  refine ⟨w.heap.size, 0, rfl, by simp, hF, ?_, hr x (List.mem_of_getElem? hx)⟩
  rw [Nat.zero_add, (Row.new w t _).cell i, List.getElem?_toArray]
  exact (bv_at l i _).2 ⟨x, hx, rfl⟩
#print axioms wpList_append_bytes
end Go.Proofs.YthaapkafamdhcaaDoor
