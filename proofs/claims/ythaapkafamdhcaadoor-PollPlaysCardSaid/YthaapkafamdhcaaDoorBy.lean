/- Words for bytes in memory: where a slice's bytes lie, and what a copy makes of a row. No text of the program. -/
import Derived.Test.YthaapkafamdhcaaDoorMem
import Derived.Laws.CopyOwn
namespace Go.Proofs.YthaapkafamdhcaaDoor
open Go.RowKit

theorem ret_i64 {a b : Int} (h : a = b) : Ending.returned (.int .i64 a) = .returned (.int .i64 b) := by rw [h]
theorem ret_bool {a b : Bool} (h : a = b) : Ending.returned (.bool a) = .returned (.bool b) := by rw [h]
/-- n, not below 0 and not above c. -/
def clamp (n : Int) (c : Nat) : Nat := min n.toNat c
theorem clamp_le (n : Int) (c : Nat) : clamp n c ≤ c := by unfold clamp; omega
theorem of_drew {F : List Nat} {a w : World} (h : Mods F a.drew w) : Mods F a w := ⟨h.os, h.tape, h.output, h.size, h.block⟩
theorem of_drewN {F : List Nat} {a w : World} {n : Nat} (h : Mods F (a.drewN n) w) : Mods F a w := ⟨h.os, h.tape, h.output, h.size, h.block⟩
/-- The ways of max(0, min(n, c)). -/
theorem clamp_ways (n : Int) (c : Nat) : (n ≤ 0 ∧ clamp n c = 0) ∨ (0 < n ∧ n ≤ c ∧ 0 < clamp n c ∧ (clamp n c : Int) = n) ∨ (0 < c ∧ (c : Int) < n ∧ clamp n c = c) ∨ (c = 0 ∧ 0 < n ∧ clamp n c = 0) := by unfold clamp; omega
theorem cell_mods2 {F : List Nat} {w w' : World} {p : Addr} {u : Value} (hm : Mods F w w') (hn : p.block ∉ F) (h : w.cell? p = some u) : w'.cell? p = some u := cell_mods h hm hn
/-- A block that is new needs no word. -/
theorem Mods.drop {w w' : World} (h : Mods [w.heap.size] w w') : Mods [] w w' := h.more fun k hk => .inr (by simp at hk; omega)
/-- From A on lie the bytes l, in a block that is not of F. -/
def At (w : World) (F : List Nat) (A : Option Addr) (l : List Int) : Prop :=
  ∀ i x, l[i]? = some x → ∃ b o, A = some ⟨b, o, none⟩ ∧ b < w.heap.size ∧ b ∉ F ∧ w.cell? ⟨b, o + i, none⟩ = some (.int .u8 x) ∧ 0 ≤ x ∧ x ≤ 255
/-- The bytes as cells. -/
def bv (l : List Int) : List Value := l.map (.int .u8)
theorem bv_length (l : List Int) : (bv l).length = l.length := by simp [bv]
theorem bv_at (l : List Int) (i : Nat) (u : Value) : (bv l)[i]? = some u ↔ ∃ x, l[i]? = some x ∧ u = .int .u8 x := by
  simp only [bv, List.getElem?_map]
  cases l[i]? with
  | none => simp
  | some x => simp [eq_comm]
theorem bv_one (l : List Int) : ∀ v ∈ bv l, v.oneCell' = true := by
  intro v hv
  obtain ⟨x, _, rfl⟩ := List.mem_map.1 hv
  rfl
section
variable {w w' : World} {F G : List Nat} {A : Option Addr} {l : List Int}
theorem At.nil (w : World) (F : List Nat) (A : Option Addr) : At w F A [] := fun i x h => by simp at h
theorem At.mods (h : At w F A l) (hm : Mods F w w') : At w' F A l := fun i x hx => by
  obtain ⟨b, o, e, hb, hF, hc, hr⟩ := h i x hx
  exact ⟨b, o, e, Nat.lt_of_lt_of_le hb hm.size, hF, cell_mods hc hm hF, hr⟩
theorem At.sub (h : At w F A l) (hs : ∀ k ∈ G, k ∈ F ∨ w.heap.size ≤ k) : At w G A l := fun i x hx => by
  obtain ⟨b, o, e, hb, hF, hc, hr⟩ := h i x hx
  refine ⟨b, o, e, hb, fun hg => ?_, hc, hr⟩
  rcases hs b hg with h | h
  · exact hF h
  · omega
theorem At.take (h : At w F A l) (k : Nat) : At w F A (l.take k) := fun i x hx => by
  rw [List.getElem?_take] at hx
  split at hx
  · exact h i x hx
  · cases hx
theorem At.drop (h : At w F A l) (k : Nat) {B : Option Addr} (hB : ∀ b o, A = some ⟨b, o, none⟩ → k < l.length → B = some ⟨b, o + k, none⟩) : At w F B (l.drop k) := fun i x hx => by
  rw [List.getElem?_drop] at hx
  obtain ⟨b, o, e, hb, hF, hc, hr⟩ := h (k + i) x hx
  have hl : k + i < l.length := (List.getElem?_eq_some_iff.1 hx).1
  exact ⟨b, o + k, hB b o e (by omega), hb, hF, by rw [show o + k + i = o + (k + i) by omega]; exact hc, hr⟩
theorem At.range (h : At w F A l) : ∀ x ∈ l, 0 ≤ x ∧ x ≤ 255 := fun x hx => by
  obtain ⟨i, hi, e⟩ := List.mem_iff_getElem.1 hx
  obtain ⟨_, _, _, _, _, _, hr⟩ := h i x (by rw [List.getElem?_eq_getElem hi, e])
  exact hr
/-- For a law that asks the cells by an address. -/
theorem At.src (h : At w F A l) (hp : 0 < l.length) : ∃ ad, A = some ad ∧ ∀ j v, (bv l)[j]? = some v → w.cell? (ad.add j) = some v := by
  obtain ⟨b, o, e, _⟩ := h 0 (l[0]'hp) (List.getElem?_eq_getElem hp)
  refine ⟨⟨b, o, none⟩, e, fun j v hv => ?_⟩
  obtain ⟨x, hx, rfl⟩ := (bv_at l j v).1 hv
  obtain ⟨b', o', e', _, _, hc, _⟩ := h j x hx
  rw [e] at e'
  injection e' with e'
  injection e' with e1 e2
  subst e1 e2
  have : (⟨b, o, none⟩ : Addr).add j = ⟨b, o + j, none⟩ := by unfold Addr.add; split <;> simp_all
  rw [this]; exact hc
/-- A cut of a slice: the rest of its bytes, or none. -/
theorem At.cut (h : At w F A l) (k : Nat) {sp : Option Addr} (hs : sp = A.map (·.add k) ∨ l.length ≤ k) : At w F sp (l.drop k) := by
  rcases hs with rfl | hs
  · refine h.drop k fun b o e _ => ?_
    subst e
    have : (⟨b, o, none⟩ : Addr).add k = ⟨b, o + k, none⟩ := by unfold Addr.add; split <;> simp_all
    simp [this]
  · rw [List.drop_of_length_le hs]; exact At.nil _ _ _
theorem At.cutIf (h : At w F A l) (k c : Nat) (hc : l.length ≤ c) : At w F (if c = k then A else Option.map (fun x => x.add k) A) (l.drop k) := by
  by_cases e : c = k
  · rw [if_pos e]; exact h.cut k (.inr (by omega))
  · rw [if_neg e]; exact h.cut k (.inl rfl)
/-- A row of the call's own holds its bytes. -/
theorem At.of_own {n c : Nat} {e : TypeId} (h : w.ownsRow 0 e 1 (.slice A n c) n (bv l)) (hF : ∀ k ∈ (Value.slice A n c).ownBlock.toList, k ∉ F) (hr : ∀ x ∈ l, 0 ≤ x ∧ x ≤ 255) : At w F A l := fun i x hx => by
  have hl : n = l.length := by have := h.1; rw [bv_length] at this; omega
  have hi : i < l.length := (List.getElem?_eq_some_iff.1 hx).1
  obtain ⟨g, cap, hv, hg, _⟩ := own_some h (by omega)
  injection hv with e1 _ _
  subst e1
  refine ⟨g, 0, rfl, hg, hF g (by simp [Value.ownBlock]), ?_, hr x (List.mem_of_getElem? hx)⟩
  rw [Nat.zero_add, h.cellAt i (by omega)]
  exact (bv_at l i _).2 ⟨x, hx, rfl⟩
end

/-! What stands where behind a splice. -/
theorem splice_at {α : Type} (L : List α) (off : Nat) (cs : List α) (h : off + cs.length ≤ L.length) (j : Nat) :
    (splice L off cs)[j]? = if off ≤ j ∧ j < off + cs.length then cs[j - off]? else L[j]? := by
  unfold splice
  rw [List.getElem?_append, List.length_take, Nat.min_eq_left (by omega)]
  by_cases h1 : j < off
  · rw [if_pos h1, if_neg (by omega), List.getElem?_take, if_pos h1]
  · rw [if_neg h1, List.getElem?_append]
    by_cases h2 : j - off < cs.length
    · rw [if_pos h2, if_pos (by omega)]
    · rw [if_neg h2, if_neg (by omega), List.getElem?_drop]
      congr 1; omega
theorem setRow_mods (w : World) (g : Nat) (cs : Array Value) : Mods [g] w (w.setRow g cs) :=
  ⟨rfl, rfl, rfl, by simp [World.setRow], fun k hk hn => setRow_other w g k cs (by simpa using hn)⟩
/-- A copy into a row that is known whole: the row behind it, and that nothing else has turned. -/
theorem wpList_copy_row {P : Program} {w : World} {ops : Array Oper} {rest : List Oper} {o : Oper} {a : Act} {Q : Exit → Act → World → Prop} (hgd : o.guard = none) (d s : Operand) (dT sT : TypeId)
    (ho : o.op = .call { callee := .builtin .copy, args := #[d, s], argTypes := #[dT, sT] }) (elem : TypeId) (hu : P.underlying dT = some (.slice elem)) (hsz : (P.info? elem).map (·.size) = some 1)
    (dp sp : Option Addr) (dLen dCap sLen sCap : Nat) (hd : a.eval d = .slice dp dLen dCap) (hs : a.eval s = .slice sp sLen sCap)
    (g off : Nat) (cur : List Value) (t : TypeId) (hg : Row w g t cur.toArray) (cs : List Value) (hn : cs.length = Nat.min sLen dLen)
    (hpos : 0 < cs.length → dp = some ⟨g, off, none⟩ ∧ ∃ ad, sp = some ad ∧ ∀ j v, cs[j]? = some v → w.cell? (ad.add j) = some v)
    (hfit : off + cs.length ≤ cur.length) (h1 : ∀ v ∈ cs, v.oneCell' = true)
    (h : ∀ w', Hid (Row w' g t (splice cur off cs).toArray) → Hid (Mods [g] w w') → wpList P ops Q rest (a.put o.dst (goInt cs.length)) w') :
    wpList P ops Q (o :: rest) a w := by
  by_cases h0 : cs.length = 0
  · obtain rfl : cs = [] := List.eq_nil_of_length_eq_zero h0
    refine wpList_copy_nothing hgd d s dT sT ho elem hu hsz dp sp dLen dCap sLen sCap hd hs (by simpa using hn.symm) ?_
    exact h w (Lib.hid (by simpa [splice] using hg)) (Lib.hid (Mods.refl _ _))
  · obtain ⟨rfl, ad, rfl, hsrc⟩ := hpos (by omega)
    refine wpList_copy_own hgd d s dT sT ho elem hu hsz g off dLen dCap ad sLen sCap hd hs cur.toArray t hg cs hn hsrc (by simpa using hfit) h1 ?_
    exact h _ (Lib.hid (by simpa [splice, Row] using setRow_heap w g _ _ t _ hg)) (Lib.hid (setRow_mods w g _))
/-- Where byte i of a ring lies. -/
def pl (N f i : Nat) : Nat := if N ≤ f + i then f + i - N else f + i
theorem pl_lt {N f i : Nat} (hf : f < N) (hi : i ≤ N) : pl N f i < N := by unfold pl; split <;> omega
theorem pl_pl {N f i j : Nat} (hf : f < N) (hj : i + j ≤ N) : pl N (pl N f i) j = pl N f (i + j) := by unfold pl; split <;> split <;> split <;> omega
/-- A ring's bytes behind two copies. -/
theorem ring_splice (N f : Nat) (L l : List Int) (cs : List Value) (n k p : Nat) (hc : cs.length = N) (hf : f < N) (hp : p = pl N f L.length) (hn : n + L.length ≤ N) (hl : n ≤ l.length) (hk : k = min n (N - p))
    (h : ∀ i x, L[i]? = some x → cs[pl N f i]? = some (.int .u8 x)) :
    ∀ i x, (L ++ l.take n)[i]? = some x → (splice (splice cs p (bv (l.take k))) 0 (bv ((l.take n).drop k)))[pl N f i]? = some (.int .u8 x) := by
  intro i x hx
  have hplt : p < N := by rw [hp]; exact pl_lt hf (by omega)
  have l1 : (bv (l.take k)).length = k := by rw [bv_length, List.length_take]; omega
  have l2 : (bv ((l.take n).drop k)).length = n - k := by rw [bv_length, List.length_drop, List.length_take]; omega
  have l3 : (splice cs p (bv (l.take k))).length = N := by rw [length_splice _ _ _ (by omega)]; exact hc
  rw [splice_at _ _ _ (by omega), splice_at _ _ _ (by omega), l1, l2]
  by_cases hi : i < L.length
  · rw [List.getElem?_append_left hi] at hx
    have := h i x hx
    have e : pl N f i < N := pl_lt hf (by omega)
    rw [if_neg (by unfold pl at *; split at hp <;> split <;> omega), if_neg (by unfold pl at *; split at hp <;> split <;> omega)]
    exact this
  · rw [List.getElem?_append_right (by omega), List.getElem?_take] at hx
    split at hx
    case isFalse => cases hx
    case isTrue hj =>
      obtain ⟨j, rfl⟩ : ∃ j, i = L.length + j := ⟨i - L.length, by omega⟩
      rw [Nat.add_sub_cancel_left] at hx hj
      by_cases hjk : j < k
      · have e : pl N f (L.length + j) = p + j := by unfold pl at *; split at hp <;> split <;> omega
        rw [e, if_neg (by omega), if_pos (by omega), show p + j - p = j by omega]
        exact (bv_at _ _ _).2 ⟨x, by rw [List.getElem?_take, if_pos hjk]; exact hx, rfl⟩
      · have e : pl N f (L.length + j) = j - k := by unfold pl at *; split at hp <;> split <;> omega
        rw [e, if_pos (by omega)]
        exact (bv_at _ _ _).2 ⟨x, by rw [List.getElem?_drop, List.getElem?_take, if_pos (by omega), show k + (j - k - 0) = j by omega]; exact hx, rfl⟩
#print axioms ring_splice
end Go.Proofs.YthaapkafamdhcaaDoor
