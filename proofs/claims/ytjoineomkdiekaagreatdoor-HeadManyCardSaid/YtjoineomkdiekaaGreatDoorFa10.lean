/- Fields as pairs of texts, rows of them and of texts in memory, what each call makes of them. No text of the program. -/
import Derived.Test.YtjoineomkdiekaaGreatDoorMem
import Derived.Test.YtjoineomkdiekaaGreatDoorTrim
import Derived.Test.YtjoineomkdiekaaGreatDoorVal
import Derived.Maps.AppendAt
import Derived.Lib.Join
namespace Go.Proofs.YtjoineomkdiekaaGreatDoor
open Go.RowKit
set_option linter.unusedVariables false
set_option linter.unusedSimpArgs false

abbrev FV := ByteArray × ByteArray
/-- Is it a field? -/
def okF (p : FV) : Bool := tokL p.1.data.toList && valL p.2.data.toList && decide (trimA p.2 = p.2)
def encF (l : List FV) : List Value := l.flatMap fun p => [.string p.1, .string p.2]
def encS (l : List ByteArray) : List Value := l.map Value.string
theorem encF_nil : encF [] = [] := rfl
theorem encF_cons (p : FV) (l : List FV) : encF (p :: l) = .string p.1 :: .string p.2 :: encF l := rfl
theorem encF_append (a b : List FV) : encF (a ++ b) = encF a ++ encF b := by simp [encF]
theorem encF_len (l : List FV) : (encF l).length = l.length * 2 := by
  induction l with
  | nil => rfl
  | cons p r ih => rw [encF_cons]; simp only [List.length_cons, ih]; omega
theorem encF_at : ∀ (l : List FV) (j : Nat) (h : j < l.length), (encF l)[j * 2]? = some (.string l[j].1) ∧ (encF l)[j * 2 + 1]? = some (.string l[j].2)
  | p :: r, 0, _ => by simp [encF]
  | p :: r, j + 1, h => by
    have ih := encF_at r j (by simp at h; omega)
    rw [encF_cons, show (j + 1) * 2 = j * 2 + 1 + 1 by omega]
    simp only [List.getElem?_cons_succ, List.getElem_cons_succ]
    exact ih
theorem encF_one (l : List FV) : ∀ u ∈ encF l, u.oneCell' = true := by
  intro u hu
  obtain ⟨x, _, hx⟩ := List.mem_flatMap.1 hu
  simp only [List.mem_cons, List.mem_nil_iff, or_false] at hx
  rcases hx with rfl | rfl <;> rfl
theorem encF_take (l : List FV) (k : Nat) : encF (l.take k) = (encF l).take (k * 2) := by
  induction l generalizing k with
  | nil => simp [encF]
  | cons p r ih =>
    cases k with
    | zero => simp [encF]
    | succ k => rw [List.take_succ_cons, encF_cons, encF_cons, ih, show (k + 1) * 2 = k * 2 + 1 + 1 by omega, List.take_succ_cons, List.take_succ_cons]
theorem encF_drop (l : List FV) (k : Nat) : encF (l.drop k) = (encF l).drop (k * 2) := by
  induction l generalizing k with
  | nil => simp [encF]
  | cons p r ih =>
    cases k with
    | zero => simp [encF]
    | succ k => rw [List.drop_succ_cons, encF_cons, ih, show (k + 1) * 2 = k * 2 + 1 + 1 by omega, List.drop_succ_cons, List.drop_succ_cons]
theorem encS_len (l : List ByteArray) : (encS l).length = l.length := by simp [encS]

/-- Fields lie behind a slice, wherever it begins. -/
def FsAt (W : World) (v : Value) (l : List FV) : Prop :=
  (l = [] ∧ ∃ a cap, v = .slice a 0 cap) ∨
  ∃ (b off cap : Nat), v = .slice (some ⟨b, off, none⟩) l.length cap ∧ 0 < l.length ∧ b < W.heap.size ∧
    ∀ j (h : j < l.length), W.cell? ⟨b, off + j * 2, none⟩ = some (.string l[j].1) ∧ W.cell? ⟨b, off + j * 2 + 1, none⟩ = some (.string l[j].2)
/-- Texts lie behind a slice. -/
def SsAt (W : World) (v : Value) (l : List ByteArray) : Prop :=
  (l = [] ∧ ∃ a cap, v = .slice a 0 cap) ∨
  ∃ (b off cap : Nat), v = .slice (some ⟨b, off, none⟩) l.length cap ∧ 0 < l.length ∧ l.length ≤ cap ∧ b < W.heap.size ∧
    ∀ j (h : j < l.length), W.cell? ⟨b, off + j, none⟩ = some (.string l[j])
section
variable {W W' : World} {v : Value} {l : List FV} {s : List ByteArray} {F : List Nat}
theorem FsAt.mods (h : FsAt W v l) (hm : Mods F W W') (hn : ∀ k ∈ v.ownBlock.toList, k ∉ F) : FsAt W' v l := by
  rcases h with h | ⟨b, off, cap, rfl, h0, hlt, hc⟩
  · exact .inl h
  · have hb : b ∉ F := hn b (by simp [Value.ownBlock])
    exact .inr ⟨b, off, cap, rfl, h0, Nat.lt_of_lt_of_le hlt hm.size, fun j hj => ⟨cell_mods (hc j hj).1 hm hb, cell_mods (hc j hj).2 hm hb⟩⟩
theorem SsAt.mods (h : SsAt W v s) (hm : Mods F W W') (hn : ∀ k ∈ v.ownBlock.toList, k ∉ F) : SsAt W' v s := by
  rcases h with h | ⟨b, off, cap, rfl, h0, hcap, hlt, hc⟩
  · exact .inl h
  · have hb : b ∉ F := hn b (by simp [Value.ownBlock])
    exact .inr ⟨b, off, cap, rfl, h0, hcap, Nat.lt_of_lt_of_le hlt hm.size, fun j hj => cell_mods (hc j hj) hm hb⟩
theorem FsAt.low (h : FsAt W v l) (hm : Mods [] W W') : FsAt W' v l := h.mods hm (by simp)
theorem SsAt.low (h : SsAt W v s) (hm : Mods [] W W') : SsAt W' v s := h.mods hm (by simp)
theorem FsAt.len (h : FsAt W v l) : ∃ a cap, v = .slice a l.length cap := by
  rcases h with ⟨rfl, a, cap, rfl⟩ | ⟨b, off, cap, rfl, _⟩
  · exact ⟨a, cap, rfl⟩
  · exact ⟨_, cap, rfl⟩
theorem SsAt.len (h : SsAt W v s) : ∃ a cap, v = .slice a s.length cap := by
  rcases h with ⟨rfl, a, cap, rfl⟩ | ⟨b, off, cap, rfl, _⟩
  · exact ⟨a, cap, rfl⟩
  · exact ⟨_, cap, rfl⟩
theorem FsAt.lt (h : FsAt W v l) (h0 : 0 < l.length) : ∀ k ∈ v.ownBlock.toList, k < W.heap.size := by
  rcases h with ⟨rfl, _⟩ | ⟨b, off, cap, rfl, _, hlt, _⟩
  · cases h0
  · intro k hk
    have : k = b := by simpa [Value.ownBlock, eq_comm] using hk
    subst this; exact hlt
theorem FsAt.of_row {base : Nat} {t : TypeId} (h : W.ownsRow base t 2 v l.length (encF l)) : FsAt W v l := by
  by_cases h0 : l.length = 0
  · have : l = [] := List.eq_nil_of_length_eq_zero h0
    subst this
    rcases h.2 with ⟨rfl, _⟩ | ⟨g, cap, cur, rfl, _⟩ <;> exact Or.inl ⟨rfl, _, _, rfl⟩
  · rcases h.2 with ⟨rfl, h1⟩ | ⟨g, cap, cur, rfl, hb, hg, hn, hm, hc, ht⟩
    · exact absurd h1 h0
    · right
      refine ⟨g, 0, cap, rfl, by omega, (Array.getElem?_eq_some_iff.1 hg).1, fun j hj => ?_⟩
      have cell : ∀ i (x : ByteArray), i < l.length * 2 → (encF l)[i]? = some (.string x) → W.cell? ⟨g, 0 + i, none⟩ = some (.string x) := by
        intro i x hi hx
        have h1 : (cur.toList.take (l.length * 2))[i]? = (encF l)[i]? := by rw [ht]
        rw [List.getElem?_take, if_pos hi, hx] at h1
        have e2 : cur[i]? = some (.string x) := by rw [← Array.getElem?_toList]; exact h1
        simp only [World.cell?, hg, Nat.zero_add]
        simp [e2]
      have := encF_at l j hj
      exact ⟨cell _ _ (by omega) this.1, by have := cell (j * 2 + 1) _ (by omega) this.2; rw [← Nat.add_assoc] at this; exact this⟩
theorem SsAt.of_row {base : Nat} {t : TypeId} (h : W.ownsRow base t 1 v s.length (encS s)) : SsAt W v s := by
  by_cases h0 : s.length = 0
  · have : s = [] := List.eq_nil_of_length_eq_zero h0
    subst this
    rcases h.2 with ⟨rfl, _⟩ | ⟨g, cap, cur, rfl, _⟩ <;> exact Or.inl ⟨rfl, _, _, rfl⟩
  · rcases h.2 with ⟨rfl, h1⟩ | ⟨g, cap, cur, rfl, hb, hg, hn, hm, hc, ht⟩
    · exact absurd h1 h0
    · right
      refine ⟨g, 0, cap, rfl, by omega, hn, (Array.getElem?_eq_some_iff.1 hg).1, fun j hj => ?_⟩
      have e : cur.toList[j]? = some (.string s[j]) := by
        have h1 : (cur.toList.take (s.length * 1))[j]? = (encS s)[j]? := by rw [ht]
        rw [List.getElem?_take, if_pos (by omega)] at h1
        rw [h1]; simp [encS, hj]
      have e2 : cur[j]? = some (.string s[j]) := by rw [← Array.getElem?_toList]; exact e
      simp only [World.cell?, hg, Nat.zero_add]
      simp [e2]
end
theorem FsAt.new (W : World) (t : TypeId) (l : List FV) (h0 : 0 < l.length) (cap : Nat) : FsAt (W.alloc (.cells (encF l).toArray t)) (.slice (some ⟨W.heap.size, 0, none⟩) l.length cap) l := by
  refine .inr ⟨_, 0, cap, rfl, h0, by simp, fun j hj => ?_⟩
  have := encF_at l j hj
  simp only [(Row.new W t (encF l).toArray).cell, Nat.zero_add, List.getElem?_toArray]
  exact this
theorem SsAt.new (W : World) (t : TypeId) (l : List ByteArray) (h0 : 0 < l.length) : SsAt (W.alloc (.cells (encS l).toArray t)) (.slice (some ⟨W.heap.size, 0, none⟩) l.length l.length) l := by
  refine .inr ⟨_, 0, _, rfl, h0, Nat.le_refl _, by simp, fun j hj => ?_⟩
  simp only [(Row.new W t (encS l).toArray).cell, Nat.zero_add, List.getElem?_toArray]
  simp [encS, hj]

/-- Texts of a size that every call takes. -/
def Small (l : List FV) : Prop := ∀ p ∈ l, p.1.size ≤ 1000000 ∧ p.2.size ≤ 1000000
def SmallS (l : List ByteArray) : Prop := ∀ p ∈ l, p.size ≤ 1000000
theorem Small.at {l : List FV} (h : Small l) (j : Nat) (hj : j < l.length) : l[j].1.size ≤ 1000000 ∧ l[j].2.size ≤ 1000000 := h _ (List.getElem_mem hj)
theorem Small.sub {l m : List FV} (h : Small l) (hs : ∀ p ∈ m, p ∈ l) : Small m := fun p hp => h p (hs p hp)

/-- How many of l are laid behind k fields, and the error of the first that is not. -/
def addR : Nat → List FV → Nat × Int
  | _, [] => (0, 0)
  | k, p :: r => if okF p = true then (if k = 24 then (0, 3) else ((addR (k + 1) r).1 + 1, (addR (k + 1) r).2)) else (0, 8)
theorem addR_le : ∀ (l : List FV) (k : Nat), (addR k l).1 ≤ l.length
  | [], k => Nat.le_refl _
  | p :: r, k => by
    unfold addR
    split
    · split
      · exact Nat.zero_le _
      · have := addR_le r (k + 1); simp only [List.length_cons]; omega
    · exact Nat.zero_le _
theorem addR_room : ∀ (l : List FV) (k : Nat), k ≤ 24 → k + (addR k l).1 ≤ 24
  | [], k, h => h
  | p :: r, k, h => by
    unfold addR
    split
    · split
      · exact h
      · have := addR_room r (k + 1) (by omega); simp only; omega
    · exact h
theorem addR_err : ∀ (l : List FV) (k : Nat), 0 ≤ (addR k l).2 ∧ (addR k l).2 ≤ 8
  | [], k => by simp [addR]
  | p :: r, k => by
    unfold addR
    split
    · split
      · simp
      · exact addR_err r (k + 1)
    · simp
/-- The first i have been laid. -/
theorem addR_walk : ∀ (i : Nat) (l : List FV) (k : Nat), i ≤ l.length → (∀ j (h : j < l.length), j < i → okF l[j] = true) → k + i ≤ 24 → addR k l = (i + (addR (k + i) (l.drop i)).1, (addR (k + i) (l.drop i)).2)
  | 0, l, k, _, _, _ => by simp
  | i + 1, [], k, h, _, _ => by simp at h
  | i + 1, p :: r, k, h, hok, hk => by
    have h0 := hok 0 (by simp) (by omega)
    simp only [List.getElem_cons_zero] at h0
    have ih := addR_walk i r (k + 1) (by simp at h; omega) (fun j hj hji => by have := hok (j + 1) (by simp; omega) (by omega); simpa using this) (by omega)
    rw [addR, if_pos h0, if_neg (by omega), ih, List.drop_succ_cons, show k + 1 + i = k + (i + 1) by omega]
    simp; omega
theorem addR_end {l : List FV} {k : Nat} (hok : ∀ j (h : j < l.length), j < l.length → okF l[j] = true) (hk : k + l.length ≤ 24) : addR k l = (l.length, 0) := by
  rw [addR_walk l.length l k (Nat.le_refl _) (fun j h _ => hok j h h) hk]; simp [addR]
theorem addR_bad {l : List FV} {k i : Nat} (hi : i < l.length) (hok : ∀ j (h : j < l.length), j < i → okF l[j] = true) (hk : k + i ≤ 24) (hb : okF l[i] = false) : addR k l = (i, 8) := by
  rw [addR_walk i l k (by omega) hok hk, List.drop_eq_getElem_cons hi, addR, if_neg (by simp [hb])]; simp
theorem addR_full {l : List FV} {k i : Nat} (hi : i < l.length) (hok : ∀ j (h : j < l.length), j < i → okF l[j] = true) (hk : k + i = 24) (hb : okF l[i] = true) : addR k l = (i, 3) := by
  rw [addR_walk i l k (by omega) hok (by omega), List.drop_eq_getElem_cons hi, addR, if_pos hb, if_pos hk]; simp
/-- The fields behind Add. -/
def addF (S l : List FV) : List FV := S ++ l.take (addR S.length l).1

/-- The fields of a name, their values, what is left. -/
def namedF (S : List FV) (n : ByteArray) : List FV := S.filter fun p => sameL p.1 n
def valsF (S : List FV) (n : ByteArray) : List ByteArray := (namedF S n).map (·.2)
def hasF (S : List FV) (n : ByteArray) : Bool := S.any fun p => sameL p.1 n
def isIn (ns : List ByteArray) (x : ByteArray) : Bool := ns.any fun n => sameL n x
def dropF (S : List FV) (ns : List ByteArray) : List FV := S.filter fun p => !isIn ns p.1
def sepF : ByteArray := ⟨#[44, 32]⟩
def getL (S : List FV) (n : ByteArray) : List UInt8 := Lib.join ((valsF S n).map (·.data.toList)) sepF.data.toList
def getF (S : List FV) (n : ByteArray) : ByteArray := ⟨(getL S n).toArray⟩
theorem sameL_comm (a b : ByteArray) : sameL a b = sameL b a := by unfold sameL; rw [decide_eq_decide]; exact eq_comm
theorem isIn_comm (ns : List ByteArray) (x : ByteArray) : (ns.any fun n => sameL x n) = isIn ns x := by
  unfold isIn; congr 1; funext n; exact sameL_comm x n
theorem valsF_snoc (S : List FV) (p : FV) (n : ByteArray) : valsF (S ++ [p]) n = valsF S n ++ (if sameL p.1 n = true then [p.2] else []) := by
  unfold valsF namedF
  rw [List.filter_append, List.map_append]
  by_cases h : sameL p.1 n = true <;> simp [h]
theorem namedF_len (S : List FV) (n : ByteArray) : (namedF S n).length ≤ S.length := List.length_filter_le _ _
theorem valsF_len (S : List FV) (n : ByteArray) : (valsF S n).length ≤ S.length := by unfold valsF; rw [List.length_map]; exact namedF_len S n
theorem valsF_small {S : List FV} (h : Small S) (n : ByteArray) : SmallS (valsF S n) := by
  intro x hx
  obtain ⟨p, hp, rfl⟩ := List.mem_map.1 hx
  exact (h p (List.mem_filter.1 hp).1).2
theorem hasF_vals (S : List FV) (n : ByteArray) : hasF S n = decide (0 < (valsF S n).length) := by
  unfold hasF valsF namedF
  rw [List.length_map, Bool.eq_iff_iff, List.any_eq_true, decide_eq_true_iff, List.length_pos_iff_exists_mem]
  constructor
  · rintro ⟨p, hp, h⟩; exact ⟨p, List.mem_filter.2 ⟨hp, h⟩⟩
  · rintro ⟨p, hp⟩; exact ⟨p, (List.mem_filter.1 hp).1, (List.mem_filter.1 hp).2⟩
theorem dropF_len (S : List FV) (ns : List ByteArray) : (dropF S ns).length ≤ S.length := List.length_filter_le _ _
theorem dropF_small {S : List FV} (h : Small S) (ns : List ByteArray) : Small (dropF S ns) := h.sub fun p hp => (List.mem_filter.1 hp).1
theorem addF_len {S l : List FV} (h : S.length ≤ 24) : (addF S l).length ≤ 24 := by
  unfold addF
  have h1 := addR_room l S.length h
  rw [List.length_append, List.length_take]; omega
theorem addF_small {S l : List FV} (h : Small S) (hl : Small l) : Small (addF S l) := by
  intro p hp
  unfold addF at hp
  rcases List.mem_append.1 hp with h1 | h1
  · exact h p h1
  · exact hl p (List.mem_of_mem_take h1)
theorem join_snoc (l : List (List UInt8)) (x sep : List UInt8) : Lib.join (l ++ [x]) sep = Lib.join l sep ++ (if l = [] then x else sep ++ x) := by
  cases l with
  | nil => simp [Lib.join_one, Lib.join_nil]
  | cons y r => rw [List.cons_append, Lib.join_cons, Lib.join_cons, if_neg (by simp)]; simp [Lib.joinTail]
theorem join_bound : ∀ (l : List ByteArray), SmallS l → (Lib.join (l.map (·.data.toList)) sepF.data.toList).length ≤ l.length * 1000002
  | [], _ => by simp [Lib.join_nil]
  | x :: r, h => by
    rw [List.map_cons, Lib.join_cons]
    have hx : x.data.toList.length ≤ 1000000 := h x (by simp)
    have ht : ∀ (r : List ByteArray), SmallS r → (Lib.joinTail sepF.data.toList (r.map (·.data.toList))).length ≤ r.length * 1000002 := by
      intro r
      induction r with
      | nil => intro _; simp [Lib.joinTail]
      | cons y s ih =>
        intro hs
        have h1 := ih fun p hp => hs p (by simp [hp])
        have hy : y.data.toList.length ≤ 1000000 := hs y (by simp)
        have h2 : sepF.data.toList.length = 2 := rfl
        simp only [Lib.joinTail, List.map_cons, List.flatten_cons, List.length_append, List.length_cons] at h1 ⊢
        omega
    have := ht r fun p hp => h p (by simp [hp])
    simp only [List.length_append, List.length_cons]; omega
theorem join_take {l : List ByteArray} (h : SmallS l) (k : Nat) : (Lib.join ((l.take k).map (·.data.toList)) sepF.data.toList).length ≤ l.length * 1000002 := by
  have := join_bound (l.take k) fun p hp => h p (List.mem_of_mem_take hp)
  have h2 : (l.take k).length ≤ l.length := by rw [List.length_take]; omega
  exact Nat.le_trans this (Nat.mul_le_mul_right _ h2)
end Go.Proofs.YtjoineomkdiekaaGreatDoor
