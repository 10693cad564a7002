/- Plain mathematics of what fires and what is left, as the laws want it: no text of the program. -/
import Derived.Test.YtgfmjkbelciaaaaDoorWhKn
namespace Go.Proofs.YtgfmjkbelciaaaaDoor
set_option linter.unusedVariables false
set_option linter.unusedSimpArgs false

/-- Due ahead of u, by their times. -/
def lessT (u : Nat) (M : List Tm) : List Tm := sortT (M.filter (fun m => decide (m.a < u)))
/-- Not due ahead of u. -/
def restT (u : Nat) (M : List Tm) : List Tm := M.filter (fun m => decide (u ≤ m.a))
theorem fire_less (t : Nat) (M : List Tm) : fireT t M = lessT (t + 1) M := by
  unfold fireT lessT
  refine congrArg sortT (List.filter_congr fun m _ => ?_)
  by_cases h : m.a ≤ t
  · rw [decide_eq_true h, decide_eq_true (by omega : m.a < t + 1)]
  · rw [decide_eq_false h, decide_eq_false (by omega : ¬ m.a < t + 1)]
theorem left_rest (t : Nat) (M : List Tm) : leftT t M = restT (t + 1) M := by
  unfold leftT restT
  refine List.filter_congr fun m _ => ?_
  by_cases h : t < m.a
  · rw [decide_eq_true h, decide_eq_true (by omega : t + 1 ≤ m.a)]
  · rw [decide_eq_false h, decide_eq_false (by omega : ¬ t + 1 ≤ m.a)]
theorem rest_rest {u v : Nat} (h : u ≤ v) (M : List Tm) : restT v (restT u M) = restT v M := by
  unfold restT
  rw [List.filter_filter]
  refine List.filter_congr fun m _ => ?_
  by_cases h1 : v ≤ m.a
  · rw [decide_eq_true h1, decide_eq_true (by omega : u ≤ m.a)]; rfl
  · rw [decide_eq_false h1]; rfl
theorem rest_zero (M : List Tm) : restT 0 M = M := List.filter_eq_self.2 fun m _ => decide_eq_true (by omega)
theorem less_zero (M : List Tm) : lessT 0 M = [] := by
  unfold lessT
  rw [List.filter_eq_nil_iff.2 fun m _ h => by simp at h]; rfl
theorem sortT_uniq : ∀ {l m : List Tm}, SrtT l → SrtT m → (∀ k, l.filter (fun x => x.a == k) = m.filter (fun x => x.a == k)) → l = m := by
  intro l
  induction l with
  | nil =>
    intro m _ _ h
    cases m with
    | nil => rfl
    | cons y m =>
      have := h y.a
      rw [List.filter_cons, if_pos (by simp)] at this
      cases this
  | cons x l ih =>
    intro m hl hm h
    cases m with
    | nil =>
      have := h x.a
      rw [List.filter_cons, if_pos (by simp)] at this
      cases this
    | cons y m =>
      have hl' := List.pairwise_cons.1 hl
      have hm' := List.pairwise_cons.1 hm
      have mem1 : x ∈ y :: m := by
        have : x ∈ (x :: l).filter (fun z => z.a == x.a) := List.mem_filter.2 ⟨by simp, by simp⟩
        rw [h] at this
        exact (List.mem_filter.1 this).1
      have mem2 : y ∈ x :: l := by
        have : y ∈ (y :: m).filter (fun z => z.a == y.a) := List.mem_filter.2 ⟨by simp, by simp⟩
        rw [← h] at this
        exact (List.mem_filter.1 this).1
      have e : x.a = y.a := by
        have h1 : y.a ≤ x.a := by
          rcases List.mem_cons.1 mem1 with e | e
          · rw [e]; exact Nat.le_refl _
          · exact hm'.1 x e
        have h2 : x.a ≤ y.a := by
          rcases List.mem_cons.1 mem2 with e | e
          · rw [e]; exact Nat.le_refl _
          · exact hl'.1 y e
        omega
      have hx := h x.a
      rw [List.filter_cons, if_pos (by simp), List.filter_cons, if_pos (by simp [e])] at hx
      injection hx with h1 h2
      subst h1
      refine congrArg (x :: ·) (ih hl'.2 hm'.2 fun k => ?_)
      by_cases hk : x.a = k
      · rw [← hk]; exact h2
      · have := h k
        rw [List.filter_cons, if_neg (by simpa using hk), List.filter_cons, if_neg (by simpa using hk)] at this
        exact this
theorem srtT_append {l m : List Tm} (h1 : SrtT l) (h2 : SrtT m) (h : ∀ x ∈ l, ∀ y ∈ m, x.a ≤ y.a) : SrtT (l ++ m) := List.pairwise_append.2 ⟨h1, h2, h⟩
theorem less_rest {u v : Nat} (h : u ≤ v) (M : List Tm) : lessT u M ++ lessT v (restT u M) = lessT v M := by
  refine sortT_uniq (srtT_append (sortT_srt _) (sortT_srt _) fun x hx y hy => ?_) (sortT_srt _) fun k => ?_
  · have hx' := (List.mem_filter.1 (sortT_mem.1 hx)).2
    have hy' := (List.mem_filter.1 (List.mem_filter.1 (sortT_mem.1 hy)).1).2
    simp only [decide_eq_true_eq] at hx' hy'
    omega
  · unfold lessT restT
    rw [List.filter_append, sortT_filter, sortT_filter, sortT_filter, List.filter_filter, List.filter_filter, List.filter_filter, List.filter_filter]
    by_cases hk : k < u
    · rw [List.filter_eq_nil_iff (l := M) (p := fun (a : Tm) => ((a.a == k && decide (a.a < v)) && decide (u ≤ a.a))) |>.2 fun m _ hm => by
        simp only [Bool.and_eq_true, beq_iff_eq, decide_eq_true_eq] at hm
        omega]
      rw [List.append_nil]
      refine List.filter_congr fun m _ => ?_
      by_cases e : m.a = k
      · rw [decide_eq_true (by omega : m.a < u), decide_eq_true (by omega : m.a < v)]
      · rw [show (m.a == k) = false by simpa using e]; rfl
    · rw [List.filter_eq_nil_iff (l := M) (p := fun (a : Tm) => (a.a == k && decide (a.a < u))) |>.2 fun m _ hm => by
        simp only [Bool.and_eq_true, beq_iff_eq, decide_eq_true_eq] at hm
        omega]
      rw [List.nil_append]
      refine List.filter_congr fun m _ => ?_
      by_cases e : m.a = k
      · rw [decide_eq_true (by omega : u ≤ m.a)]; simp
      · rw [show (m.a == k) = false by simpa using e]; rfl
theorem less_mem {u : Nat} {M : List Tm} {m : Tm} : m ∈ lessT u M ↔ m ∈ M ∧ m.a < u := by
  unfold lessT
  rw [sortT_mem, List.mem_filter, decide_eq_true_eq]
theorem rest_mem {u : Nat} {M : List Tm} {m : Tm} : m ∈ restT u M ↔ m ∈ M ∧ u ≤ m.a := by
  unfold restT
  rw [List.mem_filter, decide_eq_true_eq]
theorem insT_len (m : Tm) (l : List Tm) : (insT m l).length = l.length + 1 := by
  induction l with
  | nil => rfl
  | cons x l ih => unfold insT; split <;> simp [ih]
theorem sortT_len (l : List Tm) : (sortT l).length = l.length := by
  induction l with
  | nil => rfl
  | cons m l ih => show (insT m (sortT l)).length = _; rw [insT_len, ih]; rfl
theorem less_len {u : Nat} {M : List Tm} : (lessT u M).length + (restT u M).length = M.length := by
  unfold lessT restT
  rw [sortT_len]
  induction M with
  | nil => rfl
  | cons m M ih =>
    rw [List.filter_cons, List.filter_cons]
    by_cases h : m.a < u
    · rw [if_pos (by simpa using h), if_neg (by simp; omega)]
      simp only [List.length_cons]; omega
    · rw [if_neg (by simpa using h), if_pos (by simp; omega)]
      simp only [List.length_cons]; omega
theorem less_none {u : Nat} {M : List Tm} (h : ∀ m ∈ M, u ≤ m.a) : lessT u M = [] ∧ restT u M = M := by
  constructor
  · unfold lessT
    rw [List.filter_eq_nil_iff.2 fun m hm e => by simp at e; have := h m hm; omega]; rfl
  · exact List.filter_eq_self.2 fun m hm => decide_eq_true (h m hm)
theorem less_all {u : Nat} {M : List Tm} (h : ∀ m ∈ M, m.a < u) : lessT u M = sortT M ∧ restT u M = [] := by
  constructor
  · unfold lessT
    rw [List.filter_eq_self.2 fun m hm => decide_eq_true (h m hm)]
  · exact List.filter_eq_nil_iff.2 fun m hm e => by simp at e; have := h m hm; omega
theorem sortT_self {M : List Tm} (h : SrtT M) : sortT M = M := sortT_uniq (sortT_srt _) h (fun k => sortT_filter M k)
/-! Blocks aside. -/
def bare (m : Tm) : Tm := ⟨0, m.s, m.g, m.a⟩
def bareL (M : List Tm) : List Tm := M.map bare
theorem insT_bare (m : Tm) (l : List Tm) : bareL (insT m l) = insT (bare m) (bareL l) := by
  induction l with
  | nil => rfl
  | cons x l ih =>
    unfold insT bareL
    rw [List.map_cons]
    show List.map bare (if m.a ≤ x.a then m :: x :: l else x :: insT m l) = if m.a ≤ x.a then _ else _
    split
    · rfl
    · rw [List.map_cons]; exact congrArg (bare x :: ·) ih
theorem sortT_bare (l : List Tm) : bareL (sortT l) = sortT (bareL l) := by
  induction l with
  | nil => rfl
  | cons m l ih => show bareL (insT m (sortT l)) = insT (bare m) (sortT (bareL l)); rw [insT_bare, ih]
theorem filter_bare (l : List Tm) (p : Nat → Bool) : bareL (l.filter fun m => p m.a) = (bareL l).filter fun m => p m.a := by
  unfold bareL
  rw [List.filter_map]; rfl
theorem less_bare (u : Nat) (l : List Tm) : bareL (lessT u l) = lessT u (bareL l) := by
  unfold lessT
  rw [sortT_bare, filter_bare l fun a => decide (a < u)]
theorem rest_bare (u : Nat) (l : List Tm) : bareL (restT u l) = restT u (bareL l) := filter_bare l fun a => decide (u ≤ a)
theorem take_bare (S : Slb) (R : List Tm) : takeL S (bareL R) = takeL S R := by
  unfold takeL bareL
  rw [List.foldl_map]; rfl
theorem what_bare (S : Slb) (R : List Tm) : whatT S (bareL R) = whatT S R := by
  unfold whatT bareL
  rw [List.map_map]; rfl
theorem bare_len (M : List Tm) : (bareL M).length = M.length := by simp [bareL]
theorem bare_nil {M : List Tm} (h : bareL M = []) : M = [] := List.map_eq_nil_iff.1 h
theorem take_append (S : Slb) (A B : List Tm) : takeL S (A ++ B) = takeL (takeL S A) B := by simp [takeL, List.foldl_append]
theorem what_append (S : Slb) (A B : List Tm) : whatT S (A ++ B) = whatT S A ++ whatT S B := by simp [whatT]
theorem what_take (S : Slb) (A B : List Tm) : whatT (takeL S A) B = whatT S B := by
  unfold whatT
  rw [takeL_vs]
theorem what_len (S : Slb) (A : List Tm) : (whatT S A).length = A.length := by simp [whatT]
/-! Slots that are all in use, for the first time. -/
def fullS (vs : List Int) : Slb := ⟨4096, List.replicate vs.length true, List.replicate vs.length 1, vs⟩
theorem fullS_nil : fullS [] = Slb.new 4096 := rfl
theorem fullS_least (vs : List Int) : (fullS vs).least = vs.length := by
  unfold Slb.least fullS
  refine (List.findIdx_eq_length.2 fun b hb => ?_).trans (List.length_replicate ..)
  rw [(List.mem_replicate.1 hb).2]; rfl
theorem fullS_gen (vs : List Int) : (fullS vs).gen = 1 := by
  unfold Slb.gen
  rw [fullS_least]
  simp [fullS]
theorem fullS_cnt (vs : List Int) : (fullS vs).cnt = vs.length := by simp [Slb.cnt, fullS]
theorem fullS_put (vs : List Int) (v : Int) : (fullS vs).put v = fullS (vs ++ [v]) := by
  unfold Slb.put
  rw [fullS_least, if_pos (by simp [fullS])]
  simp [fullS, List.replicate_succ']
/-- The numbers below n. -/
def upto0 (n : Nat) : List Int := (List.range n).map Int.ofNat
theorem upto0_len (n : Nat) : (upto0 n).length = n := by simp [upto0]
theorem upto0_succ (n : Nat) : upto0 (n + 1) = upto0 n ++ [(n : Int)] := by simp [upto0, List.range_succ]
theorem upto0_at (n i : Nat) : (upto0 n).getD i 0 = if i < n then (i : Int) else 0 := by
  unfold upto0
  rw [List.getD_eq_getElem?_getD, List.getElem?_map]
  split
  · rename_i h; rw [List.getElem?_range h]; rfl
  · rename_i h; rw [List.getElem?_eq_none (by simpa using h)]; rfl
/-- Timers that were Added one by one, at these times. -/
def setL (L : List Nat) : List Tm := L.mapIdx fun i a => ⟨0, i, 1, a⟩
theorem setL_nil : setL [] = [] := rfl
theorem setL_snoc (L : List Nat) (a : Nat) : setL (L ++ [a]) = setL L ++ [⟨0, L.length, 1, a⟩] := by simp [setL, List.mapIdx_append]
theorem setL_len (L : List Nat) : (setL L).length = L.length := by simp [setL]
theorem setL_times {L : List Nat} {m : Tm} (h : m ∈ setL L) : m.a ∈ L := by
  obtain ⟨i, hi, e⟩ := List.mem_mapIdx.1 h
  rw [← e]; exact List.getElem_mem hi
/-! The wheel as a law holds it, by u: what was due ahead of u has fired. -/
theorem bare_mem {M : List Tm} {m : Tm} (h : m ∈ M) : bare m ∈ bareL M := List.mem_map_of_mem h
end Go.Proofs.YtgfmjkbelciaaaaDoor
