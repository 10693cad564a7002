/- Plain mathematics: the program's timers and the reference's are the same, in another order. No text of the program. -/
import Derived.Test.YtgfmjkbelciaaaaDoorRwF
namespace Go.Proofs.YtgfmjkbelciaaaaDoor
set_option linter.unusedVariables false
set_option linter.unusedSimpArgs false
set_option linter.unnecessarySimpa false

/-- P has in the order of setting what L has in the order of adding. -/
def Agree (S : Slb) (P : List Tm) (L : List Rt) : Prop :=
  ∃ Q : List Rt, Q.Perm L ∧ Q.Pairwise (fun x y => x.q < y.q) ∧ P = Q.map Rt.tm ∧ ∀ y ∈ L, S.vs.getD y.s 0 = y.v
theorem agree_nil (S : Slb) : Agree S [] [] := ⟨[], .nil, .nil, rfl, by simp⟩
section
variable {S : Slb} {P : List Tm} {L : List Rt} {now q : Nat}
theorem Agree.mem (h : Agree S P L) {m : Tm} : m ∈ P ↔ ∃ y ∈ L, y.tm = m := by
  obtain ⟨Q, h1, h2, rfl, h3⟩ := h
  rw [List.mem_map]
  constructor
  · rintro ⟨y, hy, e⟩
    exact ⟨y, h1.mem_iff.1 hy, e⟩
  · rintro ⟨y, hy, e⟩
    exact ⟨y, h1.mem_iff.2 hy, e⟩
theorem Agree.len (h : Agree S P L) : L.length = P.length := by
  obtain ⟨Q, h1, h2, rfl, h3⟩ := h
  rw [List.length_map, h1.length_eq]
theorem Agree.slots (h : Agree S P L) (hok : POk S now P) : (L.map (·.s)).Nodup := by
  obtain ⟨Q, h1, h2, rfl, h3⟩ := h
  have h4 := hok.slots
  rw [List.map_map] at h4
  exact (h1.map (·.s)).nodup_iff.1 h4
theorem Agree.next (h : Agree S P L) : minT (L.map Rt.tm) = minT P ∧ decide (L ≠ []) = decide (P ≠ []) := by
  have hl := h.len
  have hm := @Agree.mem S P L h
  have h1 : ∀ m, m ∈ L.map Rt.tm ↔ m ∈ P := fun m => by
    rw [hm, List.mem_map]
  constructor
  · by_cases e : P = []
    · subst e
      have : L = [] := List.eq_nil_of_length_eq_zero hl
      subst this; rfl
    · obtain ⟨m, hm1, e1⟩ := minT_mem e
      refine (minT_uniq (fun x hx => minT_le x ((h1 x).1 hx)) ⟨m, (h1 m).2 hm1, e1⟩).symm
  · rw [Bool.eq_iff_iff, decide_eq_true_eq, decide_eq_true_eq]
    refine not_congr ⟨fun e => ?_, fun e => ?_⟩
    · subst e; exact List.eq_nil_of_length_eq_zero hl.symm
    · subst e; exact List.eq_nil_of_length_eq_zero hl
theorem Agree.use (h : Agree S P L) (hok : POk S now P) {y : Rt} (hy : y ∈ L) : S.is (y.s : Int) (y.g : Int) = true ∧ S.us.getD y.s false = true ∧ S.gs.getD y.s 0 = y.g ∧ y.a ≤ 1099511627776 := by
  have hm : y.tm ∈ P := h.mem.2 ⟨y, hy, rfl⟩
  obtain ⟨h1, h2, h3⟩ := hok.use _ hm
  have h2 : S.us.getD y.s false = true := h2
  have h3 : S.gs.getD y.s 0 = y.g := h3
  refine ⟨?_, h2, h3, hok.times _ hm⟩
  unfold Slb.is
  rw [Int.toNat_natCast, h2, h3]
  simp
/-- A handle in use is one timer's. -/
theorem Agree.of_is (h : Agree S P L) (hok : POk S now P) {a b : Int} (hi : S.is a b = true) : ∃ (i : Nat) (y : Rt), L[i]? = some y ∧ (y.s : Int) = a ∧ (y.g : Int) = b := by
  obtain ⟨h0, h1, h2, h3⟩ := Slb.is_lt hi
  obtain ⟨m, hm, e⟩ := hok.all _ h2
  obtain ⟨y, hy, rfl⟩ := h.mem.1 hm
  obtain ⟨i, hi, e2⟩ := List.getElem_of_mem hy
  have e : y.s = a.toNat := e
  refine ⟨i, y, by rw [List.getElem?_eq_getElem hi, e2], by omega, ?_⟩
  have := (h.use hok hy).2.2.1
  rw [e] at this
  rw [← h3, this]
theorem Agree.not_is (h : Agree S P L) (hok : POk S now P) {a b : Int} (hi : S.is a b = false) : ∀ y ∈ L, ¬ ((y.s : Int) = a ∧ (y.g : Int) = b) := fun y hy e => by
  have := (h.use hok hy).1
  rw [e.1, e.2, hi] at this
  cases this
theorem put_vs {K : Nat} (hS : S.Ok K) (v : Int) (i : Nat) : (S.put v).vs.getD i 0 = if i = S.least then v else S.vs.getD i 0 := by
  have hl := S.least_le
  have hv := hS.vl
  unfold Slb.put
  split
  · rename_i e
    show (S.vs ++ [v]).getD i 0 = _
    rw [List.getD_eq_getElem?_getD, List.getD_eq_getElem?_getD]
    rcases Nat.lt_trichotomy i S.vs.length with h | h | h
    · rw [List.getElem?_append_left h, if_neg (by omega)]
    · rw [List.getElem?_append_right (by omega), if_pos (by omega)]
      simp [h]
    · rw [List.getElem?_append_right (by omega), if_neg (by omega), List.getElem?_eq_none (by simp; omega), List.getElem?_eq_none (by omega)]
  · rename_i e
    show (S.vs.set S.least v).getD i 0 = _
    rw [List.getD_eq_getElem?_getD, List.getD_eq_getElem?_getD, List.getElem?_set]
    by_cases h : i = S.least
    · rw [if_pos h.symm, if_pos h, if_pos (by omega)]; rfl
    · rw [if_neg (fun e => h e.symm), if_neg h]
theorem Agree.add {K : Nat} (h : Agree S P L) (hok : POk S now P) (hS : S.Ok K) (hq : ∀ y ∈ L, y.q ≤ q) (a : Nat) (v : Int) : Agree (S.put v) (P ++ [⟨0, S.least, S.gen, a⟩]) (L ++ [⟨a, v, q + 1, S.least, S.gen⟩]) := by
  have hu := @Agree.use S P L now h hok
  obtain ⟨Q, h1, h2, rfl, h3⟩ := h
  refine ⟨Q ++ [⟨a, v, q + 1, S.least, S.gen⟩], h1.append_right _, List.pairwise_append.2 ⟨h2, List.pairwise_singleton _ _, fun x hx y hy => ?_⟩, by simp [Rt.tm], fun y hy => ?_⟩
  · rw [List.mem_singleton.1 hy]
    have := hq x (h1.mem_iff.1 hx)
    show x.q < q + 1
    omega
  · rw [put_vs hS]
    rcases List.mem_append.1 hy with hy | hy
    · have := (hu hy).2.1
      rw [if_neg (fun e => by rw [e, S.least_getD] at this; cases this)]
      exact h3 y hy
    · rw [List.mem_singleton.1 hy]; exact if_pos rfl
theorem Agree.reset (h : Agree S P L) (hok : POk S now P) (hq : ∀ y ∈ L, y.q ≤ q) {i : Nat} {y : Rt} (hy : L[i]? = some y) (a : Nat) : Agree S (anewT P y.s y.g a) (L.set i ⟨a, y.v, q + 1, y.s, y.g⟩) := by
  have hnd := h.slots hok
  obtain ⟨Q, h1, h2, rfl, h3⟩ := h
  have hi := (List.getElem?_eq_some_iff.1 hy).1
  have hyi : L[i] = y := (List.getElem?_eq_some_iff.1 hy).2
  have e1 : L = L.take i ++ y :: L.drop (i + 1) := by
    conv => lhs; rw [← List.take_append_drop i L, List.drop_eq_getElem_cons hi, hyi]
  have e2 : L.set i ⟨a, y.v, q + 1, y.s, y.g⟩ = L.take i ++ ⟨a, y.v, q + 1, y.s, y.g⟩ :: L.drop (i + 1) := by
    rw [List.set_eq_take_append_cons_drop, if_pos hi]
  have e3 : L.filter (fun z => z.s != y.s) = L.take i ++ L.drop (i + 1) := by
    rw [e1] at hnd
    rw [List.map_append, List.map_cons, List.nodup_append, List.nodup_cons] at hnd
    obtain ⟨n1, ⟨n2, n3⟩, n4⟩ := hnd
    conv => lhs; rw [e1]
    rw [List.filter_append, List.filter_cons, if_neg (by simp)]
    congr 1
    · exact List.filter_eq_self.2 fun z hz => by
        simp only [bne_iff_ne]
        exact n4 _ (List.mem_map_of_mem hz) _ (List.mem_cons_self)
    · exact List.filter_eq_self.2 fun z hz => by
        simp only [bne_iff_ne]
        exact fun e => n2 (by rw [← e]; exact List.mem_map_of_mem (f := fun z : Rt => z.s) hz)
  have p1 : (Q.filter (fun z => z.s != y.s)).Perm (L.take i ++ L.drop (i + 1)) := e3 ▸ h1.filter _
  refine ⟨Q.filter (fun z => z.s != y.s) ++ [⟨a, y.v, q + 1, y.s, y.g⟩], ?_, List.pairwise_append.2 ⟨h2.sublist List.filter_sublist, List.pairwise_singleton _ _, fun x hx z hz => ?_⟩, ?_, fun z hz => ?_⟩
  · rw [e2]
    refine (p1.append_right _).trans ?_
    rw [List.append_assoc]
    exact List.Perm.append_left _ (List.perm_append_comm (l₁ := L.drop (i + 1)) (l₂ := [_]))
  · rw [List.mem_singleton.1 hz]
    have := hq x (h1.mem_iff.1 (List.mem_filter.1 hx).1)
    show x.q < q + 1
    omega
  · unfold anewT noT
    rw [List.map_append, List.filter_map]; rfl
  · rcases List.mem_or_eq_of_mem_set hz with hz | rfl
    · exact h3 z hz
    · exact h3 y (List.mem_of_getElem? hy)
theorem takes_gs (S : Slb) (l : List (Int × Int)) : (S.takes l).gs = S.gs ∧ (S.takes l).vs = S.vs := by
  induction l generalizing S with
  | nil => exact ⟨rfl, rfl⟩
  | cons p l ih =>
    have e : (S.take1 p).gs = S.gs ∧ (S.take1 p).vs = S.vs := by unfold Slb.take1; split <;> exact ⟨rfl, rfl⟩
    have := ih (S.take1 p)
    rw [e.1, e.2] at this
    exact this
theorem Agree.cancel (h : Agree S P L) (hok : POk S now P) (l : List (Int × Int)) : Agree (S.takes l) (liveT (S.takes l) P) (usedR (S.takes l) L) := by
  have hu := @Agree.use S P L now h hok
  obtain ⟨Q, h1, h2, rfl, h3⟩ := h
  refine ⟨Q.filter (fun y => (S.takes l).is (y.s : Int) (y.g : Int)), h1.filter _, h2.sublist List.filter_sublist, ?_, fun y hy => ?_⟩
  · unfold liveT
    rw [List.filter_map]
    refine congrArg (List.map Rt.tm) (List.filter_congr fun y hy => ?_)
    show (S.takes l).us.getD y.s false = _
    have := (hu (h1.mem_iff.1 hy)).2.2.1
    unfold Slb.is
    rw [Int.toNat_natCast, (takes_gs S l).1, this]
    simp
  · rw [(takes_gs S l).2]
    exact h3 y (usedR_mem hy)
end
/-! What fires. -/
def lexlt (x y : Rt) : Prop := x.a < y.a ∨ (x.a = y.a ∧ x.q < y.q)
theorem perm_sorted : ∀ {l m : List Rt}, l.Pairwise lexlt → m.Pairwise lexlt → l.Perm m → l = m := by
  intro l
  induction l with
  | nil => intro m _ _ h; exact (List.nil_perm.1 h).symm
  | cons x l ih =>
    intro m hl hm h
    cases m with
    | nil => exact absurd h (List.not_perm_cons_nil)
    | cons y m =>
      have hl' := List.pairwise_cons.1 hl
      have hm' := List.pairwise_cons.1 hm
      have e : x = y := by
        have h1 : x ∈ y :: m := h.mem_iff.1 (by simp)
        have h2 : y ∈ x :: l := h.mem_iff.2 (by simp)
        rcases List.mem_cons.1 h1 with e | e
        · exact e
        · rcases List.mem_cons.1 h2 with e2 | e2
          · exact e2.symm
          · have a1 := hm'.1 x e
            have a2 := hl'.1 y e2
            unfold lexlt at a1 a2
            omega
      subst e
      exact congrArg (x :: ·) (ih hl'.2 hm'.2 (List.Perm.cons_inv h))
theorem Fired.perm {t : Nat} {L R Lc : List Rt} (h : Fired t L R Lc) : (R ++ Lc).Perm L := by
  induction h with
  | none => exact List.Perm.refl _
  | @more R Lc k x h1 h2 h3 h4 ih =>
    have hk := (List.getElem?_eq_some_iff.1 h2).1
    have e : Lc = Lc.take k ++ x :: Lc.drop (k + 1) := by
      conv => lhs; rw [← List.take_append_drop k Lc, List.drop_eq_getElem_cons hk, (List.getElem?_eq_some_iff.1 h2).2]
    refine List.Perm.trans ?_ ih
    rw [List.append_assoc]
    refine List.Perm.append_left _ ?_
    rw [List.eraseIdx_eq_take_drop_succ]
    conv => rhs; rw [e]
    show (x :: (Lc.take k ++ Lc.drop (k + 1))).Perm _
    exact List.perm_middle.symm
theorem Fired.due {t : Nat} {L R Lc : List Rt} (h : Fired t L R Lc) : ∀ y ∈ R, y.a ≤ t := by
  induction h with
  | none => intro y hy; cases hy
  | more h1 h2 h3 h4 ih =>
    intro y hy
    rcases List.mem_append.1 hy with hy | hy
    · exact ih y hy
    · rw [List.mem_singleton.1 hy]; exact h3
theorem Fired.sorted {t : Nat} {L R Lc : List Rt} (h : Fired t L R Lc) : R.Pairwise lexle ∧ ∀ z ∈ R, ∀ y ∈ Lc, y.a ≤ t → lexle z y := by
  induction h with
  | none => exact ⟨.nil, by intro z hz; cases hz⟩
  | more h1 h2 h3 h4 ih =>
    refine ⟨List.pairwise_append.2 ⟨ih.1, List.pairwise_singleton _ _, fun z hz y hy => ?_⟩, fun z hz y hy hy2 => ?_⟩
    · rw [List.mem_singleton.1 hy]
      exact ih.2 z hz _ (List.mem_of_getElem? h2) h3
    · have hy' := List.mem_of_mem_eraseIdx hy
      rcases List.mem_append.1 hz with hz | hz
      · exact ih.2 z hz y hy' hy2
      · rw [List.mem_singleton.1 hz]; exact h4 y hy' hy2
/-- One laid ahead of all that are not due before it, whole. -/
def insR (m : Rt) : List Rt → List Rt
  | [] => [m]
  | x :: l => if m.a ≤ x.a then m :: x :: l else x :: insR m l
def sortR : List Rt → List Rt
  | [] => []
  | m :: l => insR m (sortR l)
theorem insR_tm (m : Rt) (l : List Rt) : (insR m l).map Rt.tm = insT m.tm (l.map Rt.tm) := by
  induction l with
  | nil => rfl
  | cons x l ih =>
    show (if m.a ≤ x.a then m :: x :: l else x :: insR m l).map Rt.tm = if m.a ≤ x.a then _ else _
    split
    · rfl
    · rw [List.map_cons, ih]
theorem sortR_tm (l : List Rt) : (sortR l).map Rt.tm = sortT (l.map Rt.tm) := by
  induction l with
  | nil => rfl
  | cons m l ih => show (insR m (sortR l)).map Rt.tm = insT m.tm (sortT (l.map Rt.tm)); rw [insR_tm, ih]
theorem insR_perm (m : Rt) (l : List Rt) : (insR m l).Perm (m :: l) := by
  induction l with
  | nil => exact List.Perm.refl _
  | cons x l ih =>
    unfold insR
    split
    · exact List.Perm.refl _
    · exact (List.Perm.cons x ih).trans (List.Perm.swap m x l)
theorem sortR_perm (l : List Rt) : (sortR l).Perm l := by
  induction l with
  | nil => exact List.Perm.refl _
  | cons m l ih => exact (insR_perm m _).trans (List.Perm.cons m ih)
theorem insR_sorted {m : Rt} : ∀ {l : List Rt}, l.Pairwise lexlt → (∀ x ∈ l, m.q < x.q) → (insR m l).Pairwise lexlt := by
  intro l
  induction l with
  | nil => intro _ _; exact List.pairwise_singleton _ _
  | cons x l ih =>
    intro h hq
    have h' := List.pairwise_cons.1 h
    have hx := hq x (by simp)
    unfold insR
    split
    · rename_i hle
      refine List.pairwise_cons.2 ⟨fun y hy => ?_, h⟩
      have hy2 := hq y hy
      rcases List.mem_cons.1 hy with e | e
      · rw [e]; unfold lexlt; omega
      · have := h'.1 y e
        unfold lexlt at *; omega
    · rename_i hle
      refine List.pairwise_cons.2 ⟨fun y hy => ?_, ih h'.2 (fun y hy => hq y (by simp [hy]))⟩
      rcases List.mem_cons.1 ((insR_perm m l).mem_iff.1 hy) with e | e
      · rw [e]; unfold lexlt; omega
      · exact h'.1 y e
theorem sortR_sorted {l : List Rt} (h : l.Pairwise (fun x y => x.q < y.q)) : (sortR l).Pairwise lexlt := by
  induction l with
  | nil => exact .nil
  | cons m l ih =>
    have h' := List.pairwise_cons.1 h
    exact insR_sorted (ih h'.2) fun x hx => h'.1 x ((sortR_perm l).mem_iff.1 hx)
theorem take_is {S : Slb} {i : Nat} {a g : Int} (h : S.is a g = true) (hne : a ≠ (i : Int)) : (S.take i).is a g = true := by
  obtain ⟨h0, h1, h2, h3⟩ := Slb.is_lt h
  unfold Slb.is
  have e : (S.take i).us.getD a.toNat false = if i = a.toNat ∧ i < S.us.length then false else S.us.getD a.toNat false := getD_set_bool _ _ _ _
  rw [e, if_neg (by omega), h2, decide_eq_true h0]
  show (true && (true && decide ((S.gs.getD a.toNat 0 : Int) = g))) = true
  rw [h3]; simp
theorem takeR_takeL {S : Slb} {R : List Rt} (hs : (R.map (·.s)).Nodup) (hi : ∀ y ∈ R, S.is (y.s : Int) (y.g : Int) = true) : takeR S R = takeL S (R.map Rt.tm) := by
  induction R generalizing S with
  | nil => rfl
  | cons x R ih =>
    have hs' := List.nodup_cons.1 hs
    have e : S.take1 ((x.s : Int), (x.g : Int)) = S.take x.s := by
      unfold Slb.take1
      rw [if_pos (hi x (by simp))]; simp
    show takeR (S.take1 ((x.s : Int), (x.g : Int))) R = takeL (S.take x.s) (R.map Rt.tm)
    rw [e]
    exact ih hs'.2 fun y hy => take_is (hi y (by simp [hy])) (fun e => hs'.1 (by
      have : x.s = y.s := by omega
      show x.s ∈ _
      rw [this]; exact List.mem_map_of_mem (f := fun z : Rt => z.s) hy))
theorem Agree.advance {S : Slb} {P : List Tm} {L R L' : List Rt} {now t : Nat} (h : Agree S P L) (hok : POk S now P) (hf : Fired t L R L') (he : ∀ y ∈ L', t < y.a) :
    R.map (·.v) = whatT S (fireT t P) ∧ takeR S R = takeL S (fireT t P) ∧ Agree (takeL S (fireT t P)) (leftT t P) L' := by
  have hu := @Agree.use S P L now h hok
  have hnd := h.slots hok
  obtain ⟨Q, h1, h2, rfl, h3⟩ := h
  have hp := hf.perm
  have hd := hf.due
  -- the due ones, and the others
  have pR : R.Perm (L.filter (fun y => decide (y.a ≤ t))) := by
    have := hp.filter (fun y => decide (y.a ≤ t))
    rw [List.filter_append, List.filter_eq_self.2 (fun y hy => decide_eq_true (hd y hy)), List.filter_eq_nil_iff.2 (fun y hy e => by have := he y hy; simp at e; omega), List.append_nil] at this
    exact this
  have pL : L'.Perm (L.filter (fun y => decide (t < y.a))) := by
    have := hp.filter (fun y => decide (t < y.a))
    rw [List.filter_append, List.filter_eq_nil_iff.2 (fun y hy e => by have := hd y hy; simp at e; omega), List.filter_eq_self.2 (fun y hy => decide_eq_true (he y hy)), List.nil_append] at this
    exact this
  have qR : R.Perm (Q.filter (fun y => decide (y.a ≤ t))) := pR.trans (h1.symm.filter _)
  have hD : (Q.filter (fun y => decide (y.a ≤ t))).Pairwise (fun x y => x.q < y.q) := h2.sublist List.filter_sublist
  have hR : R.Pairwise lexlt := by
    have hn : (R.map (·.q)).Nodup := by
      refine (qR.map (·.q)).nodup_iff.2 ?_
      rw [List.Nodup, List.pairwise_map]
      exact hD.imp (fun h e => by omega)
    rw [List.Nodup, List.pairwise_map] at hn
    exact (hf.sorted.1.and hn).imp (fun ⟨h1, h2⟩ => by unfold lexle at h1; unfold lexlt; omega)
  have eR : R = sortR (Q.filter (fun y => decide (y.a ≤ t))) := perm_sorted hR (sortR_sorted hD) (qR.trans (sortR_perm _).symm)
  have eF : R.map Rt.tm = fireT t (Q.map Rt.tm) := by
    rw [eR, sortR_tm]
    unfold fireT
    rw [List.filter_map]; rfl
  have hsub : ∀ y ∈ R, y ∈ L := fun y hy => (List.mem_filter.1 (pR.mem_iff.1 hy)).1
  have hns : (R.map (·.s)).Nodup := by
    refine (pR.map (·.s)).nodup_iff.2 ?_
    exact hnd.sublist (List.filter_sublist.map _)
  refine ⟨?_, ?_, Q.filter (fun y => decide (t < y.a)), (h1.filter _).trans pL.symm, h2.sublist List.filter_sublist, ?_, fun y hy => ?_⟩
  · rw [← eF]
    unfold whatT
    rw [List.map_map]
    exact List.map_congr_left fun y hy => (h3 y (hsub y hy)).symm
  · rw [← eF]
    exact takeR_takeL hns fun y hy => (hu (hsub y hy)).1
  · unfold leftT
    rw [List.filter_map]; rfl
  · rw [takeL_vs]
    exact h3 y (hf.sub y hy)
end Go.Proofs.YtgfmjkbelciaaaaDoor
