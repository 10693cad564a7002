/- A slice of the call's own that may begin inside its row: append onto it, cuts of it. No text of the program. -/
import Derived.Test.YthaapkafamdhcaaDoorBy
import Derived.Maps.AppendAt
namespace Go.Proofs.YthaapkafamdhcaaDoor
open Go.RowKit

/-- Where the cells of a slice are read. -/
def Src (w : World) (A : Option Addr) (xs : List Value) : Prop := ∀ j u, xs[j]? = some u → ∃ b o, A = some ⟨b, o, none⟩ ∧ w.cell? ⟨b, o + j, none⟩ = some u
/-- The slice v holds xs, one cell each, in a block of its own kind that nobody has frozen, from wherever on. -/
def Own (w : World) (e : TypeId) (v : Value) (xs : List Value) : Prop :=
  (v = .slice none 0 0 ∧ xs = []) ∨
  ∃ g off cap cur, v = .slice (some ⟨g, off, none⟩) xs.length cap ∧ w.heap[g]? = some (.cells cur e (0, 0)) ∧ xs.length ≤ cap ∧ cap ≤ maxLen ∧ off + cap ≤ cur.size ∧ ∀ i u, xs[i]? = some u → cur[off + i]? = some u
section
variable {w w' : World} {e : TypeId} {v : Value} {xs : List Value}
theorem Own.nil (w : World) (e : TypeId) : Own w e (.slice none 0 0) [] := .inl ⟨rfl, rfl⟩
theorem Own.of_row {n : Nat} (h : w.ownsRow 0 e 1 v n xs) : Own w e v xs := by
  have hn : xs.length = n := by have := h.1; omega
  subst hn
  rcases h.2 with ⟨rfl, h0⟩ | ⟨g, cap, cur, rfl, _, hg, h1, h2, h3, h4⟩
  · exact .inl ⟨rfl, List.eq_nil_of_length_eq_zero h0⟩
  · refine .inr ⟨g, 0, cap, cur, rfl, hg, h1, h2, by omega, fun i u hu => ?_⟩
    rw [← h4, List.getElem?_take] at hu
    split at hu
    · rw [Nat.zero_add, ← Array.getElem?_toList]; exact hu
    · cases hu
theorem Own.keep (h : Own w e v xs) (hk : ∀ k ∈ v.ownBlock.toList, w'.heap[k]? = w.heap[k]?) : Own w' e v xs := by
  rcases h with h | ⟨g, off, cap, cur, rfl, hg, r⟩
  · exact .inl h
  · exact .inr ⟨g, off, cap, cur, rfl, (hk g (by simp [Value.ownBlock])).trans hg, r⟩
theorem Own.lt (h : Own w e v xs) : ∀ k ∈ v.ownBlock.toList, k < w.heap.size := by
  rcases h with ⟨rfl, _⟩ | ⟨g, off, cap, cur, rfl, hg, r⟩
  · intro k hk; simp [Value.ownBlock] at hk
  · intro k hk
    have : k = g := by simpa [Value.ownBlock, eq_comm] using hk
    subst this
    exact (Array.getElem?_eq_some_iff.1 hg).1
theorem Own.mods {F : List Nat} (h : Own w e v xs) (hm : Mods F w w') (hn : ∀ k ∈ v.ownBlock.toList, k ∉ F) : Own w' e v xs :=
  h.keep fun k hk => hm.block k (h.lt k hk) (hn k hk)
theorem Own.alloc (h : Own w e v xs) (o : Obj) : Own (w.alloc o) e v xs := h.mods ((Mods.refl [] _).alloc o) (by simp)
/-- A block of another kind is not the slice's. -/
theorem Own.ne_row {g : Nat} {t : TypeId} {cs : Array Value} (h : Own w e v xs) (hg : Row w g t cs) (hne : e ≠ t) : ∀ k ∈ v.ownBlock.toList, k ≠ g := by
  rcases h with ⟨rfl, _⟩ | ⟨g', off, cap, cur, rfl, hh, _⟩
  · intro k hk; simp [Value.ownBlock] at hk
  · intro k hk he
    have : k = g' := by simpa [Value.ownBlock, eq_comm] using hk
    subst this; subst he
    exact Row.type_ne (t := e) hh hg hne rfl
theorem Own.ne {e' : TypeId} {v' : Value} {xs' : List Value} (h : Own w e v xs) (h' : Own w e' v' xs') (hne : e ≠ e') : ∀ k ∈ v.ownBlock.toList, k ∉ v'.ownBlock.toList := by
  intro k hk hk'
  rcases h' with ⟨rfl, _⟩ | ⟨g', off, cap, cur, rfl, hh, _⟩
  · simp [Value.ownBlock] at hk'
  · have : k = g' := by simpa [Value.ownBlock, eq_comm] using hk'
    subst this
    exact h.ne_row (show Row w k e' cur from hh) hne k hk rfl
theorem Own.slice (h : Own w e v xs) : ∃ A cap, v = .slice A xs.length cap ∧ xs.length ≤ cap ∧ cap ≤ maxLen := by
  rcases h with ⟨rfl, rfl⟩ | ⟨g, off, cap, cur, rfl, _, h1, h2, _⟩
  · exact ⟨none, 0, rfl, Nat.le_refl _, by unfold maxLen; omega⟩
  · exact ⟨_, cap, rfl, h1, h2⟩
theorem Own.slice' (h : Own w e v xs) : ∃ A n cap, v = .slice A n cap ∧ n = xs.length ∧ n ≤ cap ∧ cap ≤ maxLen := by
  obtain ⟨A, c, h1, h2, h3⟩ := h.slice
  exact ⟨A, _, c, h1, rfl, h2, h3⟩
theorem Own.src {A : Option Addr} {n c : Nat} (h : Own w e (.slice A n c) xs) : Src w A xs := by
  rcases h with ⟨_, rfl⟩ | ⟨g, off, cap, cur, hv, hg, _, _, _, hc⟩
  · intro j u hu; simp at hu
  · injection hv with e1 _ _
    subst e1
    intro j u hu
    exact ⟨g, off, rfl, (cell_of_row w g (off + j) cur e (0, 0) hg).trans (hc j u hu)⟩
theorem Own.free {A : Option Addr} {n c : Nat} (h : Own w e (.slice A n c) xs) : ∀ b o, A = some ⟨b, o, none⟩ → ∀ i, w.frozen? ⟨b, i, none⟩ = false := by
  rcases h with ⟨hv, rfl⟩ | ⟨g, off, cap, cur, hv, hg, _, _, _, hc⟩
  · injection hv with e1; subst e1; intro b o h; cases h
  · injection hv with e1 _ _
    subst e1
    intro b o hb i
    injection hb with hb
    injection hb with hb
    subst hb
    exact frozen_of_row w g i cur e hg
theorem Own.cut {A : Option Addr} {n c : Nat} (h : Own w e (.slice A n c) xs) (k : Nat) (hk : k ≤ n) : Own w e (.slice (if c = k then A else Option.map (fun x => x.add k) A) (n - k) (c - k)) (xs.drop k) := by
  rcases h with ⟨hv, rfl⟩ | ⟨g, off, cap, cur, hv, hg, h1, h2, h3, h4⟩
  · injection hv with e1 e2 e3
    subst e1 e2 e3
    obtain rfl : k = 0 := by omega
    exact .inl ⟨by simp, by simp⟩
  · injection hv with e1 e2 e3
    subst e1 e2 e3
    by_cases hc : c = k
    · rw [if_pos hc]
      have hx : xs.length = k := by omega
      refine .inr ⟨g, off, c - k, cur, ?_, hg, by simp; omega, by omega, by omega, fun i u hu => ?_⟩
      · rw [List.length_drop]
      · rw [List.drop_of_length_le (by omega)] at hu; simp at hu
    · rw [if_neg hc]
      have ha : (⟨g, off, none⟩ : Addr).add k = ⟨g, off + k, none⟩ := by unfold Addr.add; split <;> simp_all
      refine .inr ⟨g, off + k, c - k, cur, ?_, hg, by simp; omega, by omega, by omega, fun i u hu => ?_⟩
      · rw [List.length_drop]; simp [ha]
      · rw [List.getElem?_drop] at hu
        rw [Nat.add_assoc]
        exact h4 _ _ hu
theorem cut_block {A : Option Addr} {n c k : Nat} (n' c' : Nat) : (Value.slice (if c = k then A else Option.map (fun x => x.add k) A) n' c').ownBlock = (Value.slice A n c).ownBlock := by
  cases A with
  | none => simp [Value.ownBlock]
  | some a =>
    obtain ⟨b, o, s⟩ := a
    split
    · rfl
    · have : (((⟨b, o, s⟩ : Addr).add k)).block = b := by unfold Addr.add; split <;> rfl
      simp [Value.ownBlock, this]
end
section
variable {P : Program} (w : World)
theorem run_append_own2 (t ty e : TypeId) (i : TypeInfo) (z : Value) (ht : P.underlying t = some (.slice e)) (hi : P.info? e = some i) (hz : i.zero = some z) (hs : i.size = 1) (hb : i.bytes ≤ 8) (hzs : z.cells.size = 1)
    (v : Value) (xs : List Value) (h : Own w e v xs) (A : Option Addr) (m c : Nat) (news : List Value) (hm : m = news.length) (hsrc : Src w A news) (h1 : ∀ u ∈ news, u.oneCell' = true) (hl : xs.length + m ≤ 1000000000) :
    ∃ v' w', (Builtin.append_ #[t, t] ty #[v, .slice A m c]).run P w = .ok v' w' ∧ Own w' e v' (xs ++ news) ∧ w.grownBy w' v.ownBlock ∧ (v'.ownBlock = v.ownBlock ∨ v'.ownBlock = some w.heap.size) := by
  subst hm
  by_cases h0 : news = []
  · subst h0
    refine ⟨v, w, ?_, by simpa using h, World.grownBy.refl w _, .inl rfl⟩
    rcases h with ⟨rfl, rfl⟩ | ⟨g, off, cap, cur, rfl, _, hc, _⟩
    · cases A <;> simp [Builtin.append_, run_underlying ht, sizeOf, typeInfo, hi, Builtin.lenOf, Builtin.firstCells, loadCells, loadCellsFrom]
    · cases A <;> simp [Builtin.append_, run_underlying ht, sizeOf, typeInfo, hi, Builtin.lenOf, Builtin.firstCells, loadCells, loadCellsFrom, hc, storeCells]
  · have hp : 0 < news.length := List.length_pos_iff.2 h0
    obtain ⟨b, o, rfl, _⟩ := hsrc 0 (news[0]'hp) (List.getElem?_eq_getElem hp)
    have hn : ∀ j u, news[j]? = some u → w.cell? ((⟨b, o, none⟩ : Addr).add j) = some u := fun j u hu => by
      obtain ⟨b', o', e', hc⟩ := hsrc j u hu
      injection e' with e'
      injection e' with e1 e2
      subst e1 e2
      have : (⟨b, o, none⟩ : Addr).add j = ⟨b, o + j, none⟩ := by unfold Addr.add; split <;> simp_all
      rw [this]; exact hc
    have hbt : ∀ k, k ≤ 1000000000 → k * i.bytes ≤ 140737488355328 := fun k hk => Nat.le_trans (Nat.mul_le_mul hk hb) (by omega)
    have grown : ∀ (old need : Nat), need = (xs ++ news).length →
        Own (w.drew.alloc (.cells (xs.toArray ++ news.toArray ++ Builtin.zeroCells z.cells (grownCap w need old e - need)) e)) e (.slice (some ⟨w.heap.size, 0, none⟩) need (grownCap w need old e)) (xs ++ news) ∧
        w.grownBy (w.drew.alloc (.cells (xs.toArray ++ news.toArray ++ Builtin.zeroCells z.cells (grownCap w need old e - need)) e)) v.ownBlock := by
      intro old need hneed
      have hge := grownCap_ge w need old e
      have hcm := grownCap_le_maxLen w need old e (by unfold maxLen; rw [hneed, List.length_append]; omega)
      rw [List.length_append] at hneed
      refine ⟨.inr ⟨w.heap.size, 0, _, _, by rw [hneed, ← List.length_append], heap_alloc_new w.drew _, by rw [List.length_append]; omega, hcm, ?_, fun j u hu => ?_⟩, ⟨rfl, rfl, rfl, by simp, fun k hk _ => heap_alloc_old w.drew _ k hk⟩⟩
      · simp only [Array.size_append, List.size_toArray, size_zeroCells, hzs]
        omega
      · rw [Nat.zero_add, Array.getElem?_append_left (by simp; have := (List.getElem?_eq_some_iff.1 hu).1; rw [List.length_append] at this; omega)]
        rw [List.append_toArray, List.getElem?_toArray]
        exact hu
    rcases h with ⟨rfl, rfl⟩ | ⟨g, off, cap, cur, rfl, hg, hc, hcm, hcs, hat⟩
    · have hr := run_append_nil (P := P) w t ty e i z ht hi hz ⟨b, o, none⟩ news.length c news (by rw [hs]; omega) hn (by omega) (by simp at hl; omega) (by have := hbt news.length (by simpa using hl); omega)
      have hgr := grown 0 news.length (by simp)
      simp only [List.nil_append, Array.empty_append] at hgr ⊢
      exact ⟨_, _, hr, hgr.1, hgr.2, .inr rfl⟩
    · by_cases hroom : xs.length + news.length ≤ cap
      · have hf := run_firstCells_some (P := P) w 1 news.length ⟨b, o, none⟩ news.length c news (by omega) hn
        have hst := run_storeCells_at P g (off + xs.length) e news 0 cur w hg (by omega) h1
        simp only [Nat.add_zero] at hst
        have ha : (⟨g, off, none⟩ : Addr).add xs.length = ⟨g, off + xs.length, none⟩ := by unfold Addr.add; split <;> simp_all
        refine ⟨.slice (some ⟨g, off, none⟩) (xs ++ news).length cap, w.setRow g (cur.toList.take (off + xs.length) ++ news ++ cur.toList.drop (off + xs.length + news.length)).toArray, ?_, .inr ⟨g, off, cap, (splice cur.toList (off + xs.length) news).toArray, rfl, ?_, by rw [List.length_append]; omega, hcm, ?_, fun j u hu => ?_⟩, ?_, .inl rfl⟩
        · simp [Builtin.append_, run_underlying ht, sizeOf, typeInfo, hi, hs, Builtin.lenOf, hroom, hf, ha, hst]
        · rw [show (splice cur.toList (off + xs.length) news) = cur.toList.take (off + xs.length) ++ news ++ cur.toList.drop (off + xs.length + news.length) by unfold splice; rw [List.append_assoc]]
          exact setRow_heap w g cur _ e _ hg
        · rw [List.size_toArray, length_splice _ _ _ (by simp; omega)]
          simpa using hcs
        · rw [List.getElem?_toArray, splice_at _ _ _ (by simp; omega)]
          by_cases hj : j < xs.length
          · rw [List.getElem?_append_left hj] at hu
            rw [if_neg (by omega), Array.getElem?_toList]
            exact hat j u hu
          · rw [List.getElem?_append_right (by omega)] at hu
            have := (List.getElem?_eq_some_iff.1 hu).1
            rw [if_pos (by omega), show off + j - (off + xs.length) = j - xs.length by omega]
            exact hu
        · exact ⟨rfl, rfl, rfl, by simp [World.setRow], fun k _ hk => setRow_other w g k _ (fun e => hk (by simp [Value.ownBlock, e]))⟩
      · have holds : ∀ j u, xs[j]? = some u → w.cell? ((⟨g, off, none⟩ : Addr).add j) = some u := fun j u hu => by
          have : (⟨g, off, none⟩ : Addr).add j = ⟨g, off + j, none⟩ := by unfold Addr.add; split <;> simp_all
          rw [this, cell_of_row w g (off + j) cur e (0, 0) hg]
          exact hat j u hu
        have hr := run_append_grow (P := P) w t ty e i z ht hi hz ⟨g, off, none⟩ xs.length cap xs (by rw [hs]; omega) holds ⟨b, o, none⟩ news.length c news (by rw [hs]; omega) hn (by omega) (by omega) (growslice_fits (by omega) (hbt _ hl))
        have hgr := grown cap (xs.length + news.length) (by simp)
        exact ⟨_, _, hr, hgr.1, hgr.2, .inr rfl⟩
/-- For the walk. -/
theorem wpList_append_own2 {ops : Array Oper} {rest : List Oper} {o : Oper} {a : Act} {Q : Exit → Act → World → Prop} (hgd : o.guard = none) (s x : Operand) (t : TypeId)
    (ho : o.op = .call { callee := .builtin .append, args := #[s, x], argTypes := #[t, t] })
    (e : TypeId) (i : TypeInfo) (z : Value) (ht : P.underlying t = some (.slice e)) (hi : P.info? e = some i) (hz : i.zero = some z) (hs : i.size = 1) (hb : i.bytes ≤ 8) (hzs : z.cells.size = 1)
    (v : Value) (xs : List Value) (hsv : a.eval s = v) (h : Own w e v xs) (A : Option Addr) (m c : Nat) (news : List Value) (hx : a.eval x = .slice A m c) (hm : m = news.length) (hsrc : Src w A news) (h1 : ∀ u ∈ news, u.oneCell' = true) (hl : xs.length + m ≤ 1000000000)
    (hk : ∀ v' w', Hid (Own w' e v' (xs ++ news)) → Hid (Mods v.ownBlock.toList w w' ∧ (v'.ownBlock = v.ownBlock ∨ v'.ownBlock = some w.heap.size)) → wpList P ops Q rest (a.put o.dst v') w') : wpList P ops Q (o :: rest) a w := by
  refine wpList_plain hgd fun K hK => ?_
  obtain ⟨v', w', hr, h2, h3, h5⟩ := run_append_own2 (P := P) w t o.type e i z ht hi hz hs hb hzs v xs h A m c news hm hsrc h1 hl
  unfold Oper.wp execOp
  simp only [ho, resolve, invoke, builtin, Sem.run_bind, Sem.run_pure, Result.andThen_ok, List.map_toArray, List.map_cons, List.map_nil, hsv, hx, hr]
  exact hK _ _ (hk v' w' (Lib.hid h2) (Lib.hid ⟨(Mods.refl _ _).grown h3 (fun k hk => .inl (by rw [hk]; simp)), h5⟩))
end
/-- The same as one step of a region that draws its order. -/
theorem step_append_own2 {P : Program} {ops : Array Oper} {o : Oper} {a : Act} {w : World} {K : Act → World → Prop} {Q : Exit → Act → World → Prop} {E : Prop} (hgd : o.guard = none) (s x : Operand) (t : TypeId)
    (ho : o.op = .call { callee := .builtin .append, args := #[s, x], argTypes := #[t, t] })
    (e : TypeId) (i : TypeInfo) (z : Value) (ht : P.underlying t = some (.slice e)) (hi : P.info? e = some i) (hz : i.zero = some z) (hs : i.size = 1) (hb : i.bytes ≤ 8) (hzs : z.cells.size = 1)
    (v : Value) (xs : List Value) (hsv : a.eval s = v) (h : Own w e v xs) (A : Option Addr) (m c : Nat) (news : List Value) (hx : a.eval x = .slice A m c) (hm : m = news.length) (hsrc : Src w A news) (h1 : ∀ u ∈ news, u.oneCell' = true) (hl : xs.length + m ≤ 1000000000)
    (hk : ∀ v' w', Hid (Own w' e v' (xs ++ news)) → Hid (Mods v.ownBlock.toList w w' ∧ (v'.ownBlock = v.ownBlock ∨ v'.ownBlock = some w.heap.size)) → K (a.put o.dst v') w') :
    if Region.wanted o (yielded ops a.tmps) = true then Oper.wp P o a w K Q else E := by
  have hw : Region.wanted o (yielded ops a.tmps) = true := by simp [Region.wanted, hgd]
  rw [if_pos hw]
  obtain ⟨v', w', hr, h2, h3, h5⟩ := run_append_own2 (P := P) w t o.type e i z ht hi hz hs hb hzs v xs h A m c news hm hsrc h1 hl
  unfold Oper.wp execOp
  simp only [ho, resolve, invoke, builtin, Sem.run_bind, Sem.run_pure, Result.andThen_ok, List.map_toArray, List.map_cons, List.map_nil, hsv, hx, hr]
  exact hk v' w' (Lib.hid h2) (Lib.hid ⟨(Mods.refl _ _).grown h3 (fun k hk => .inl (by rw [hk]; simp)), h5⟩)
theorem Src.one (w : World) (x : Value) (t : TypeId) : Src (w.alloc (.cells #[x] t)) (some ⟨w.heap.size, 0, none⟩) [x] := fun j u hu => by
  match j, hu with
  | 0, hu => injection hu with hu; subst hu; exact ⟨w.heap.size, 0, rfl, (Row.new w t #[x]).cell 0⟩
theorem Src.same {w w' : World} {A : Option Addr} {xs : List Value} (h : Src w A xs) (e : w'.heap = w.heap) : Src w' A xs := fun j u hu => by
  obtain ⟨b, o, e1, hc⟩ := h j u hu
  exact ⟨b, o, e1, (World.cell?_of_block (by rw [e])).trans hc⟩
theorem Own.set {w : World} {e : TypeId} {n c b o i : Nat} {xs : List Value} (h : Own w e (.slice (some ⟨b, o, none⟩) n c) xs) (u : Value) (hi : i < xs.length) : Own (w.setCell ⟨b, o + i, none⟩ u) e (.slice (some ⟨b, o, none⟩) n c) (xs.set i u) := by
  rcases h with ⟨hv, rfl⟩ | ⟨g, off, cap, cur, hv, hg, h1, h2, h3, h4⟩
  · simp at hi
  · injection hv with e1 e2 e3
    injection e1 with e1
    injection e1 with e1 e4
    subst e1 e2 e3 e4
    refine .inr ⟨b, o, c, cur.setIfInBounds (o + i) u, by rw [List.length_set], heap_setCell_same w b (o + i) cur e u hg, by rw [List.length_set]; exact h1, h2, by simpa using h3, fun j y hj => ?_⟩
    rw [List.getElem?_set] at hj
    split at hj
    · subst i
      rw [Array.getElem?_setIfInBounds_self, if_pos (by omega)]
      first | exact hj | (rw [if_pos hi] at hj; exact hj)
    · rw [Array.getElem?_setIfInBounds_ne (by omega)]
      exact h4 j y hj
theorem At.srcs {w : World} {F : List Nat} {A : Option Addr} {l : List Int} (h : At w F A l) : Src w A (bv l) := fun j u hu => by
  obtain ⟨x, hx, rfl⟩ := (bv_at l j u).1 hu
  obtain ⟨b, o, e, _, _, hc, _⟩ := h j x hx
  exact ⟨b, o, e, hc⟩
theorem At.of_own2 {w : World} {F : List Nat} {e : TypeId} {A : Option Addr} {n c : Nat} {l : List Int} (h : Own w e (.slice A n c) (bv l)) (hF : ∀ k ∈ (Value.slice A n c).ownBlock.toList, k ∉ F) (hr : ∀ x ∈ l, 0 ≤ x ∧ x ≤ 255) : At w F A l := fun i x hx => by
  obtain ⟨b, o, rfl, hc⟩ := h.src i (.int .u8 x) ((bv_at l i _).2 ⟨x, hx, rfl⟩)
  exact ⟨b, o, rfl, h.lt b (by simp [Value.ownBlock]), hF b (by simp [Value.ownBlock]), hc, hr x (List.mem_of_getElem? hx)⟩
#print axioms wpList_append_own2
end Go.Proofs.YthaapkafamdhcaaDoor
