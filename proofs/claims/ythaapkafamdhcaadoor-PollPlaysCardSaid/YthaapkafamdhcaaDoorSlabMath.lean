/- Plain mathematics of slots that are used again: no text of the program. -/
import Derived.Lib.TrailingZeros
namespace Go.Proofs.YthaapkafamdhcaaDoor

/-- Slots: how many at most; of each slot whether it is in use, how often it was, its number. -/
structure Slb where
  lim : Nat
  us : List Bool
  gs : List Nat
  vs : List Int

def Slb.cnt (S : Slb) : Nat := S.us.count true
def Slb.least (S : Slb) : Nat := S.us.findIdx (fun b => !b)
def Slb.is (S : Slb) (a g : Int) : Bool := decide (0 ≤ a) && (S.us.getD a.toNat false && decide ((S.gs.getD a.toNat 0 : Int) = g))
def Slb.put (S : Slb) (v : Int) : Slb :=
  if S.least = S.us.length then { S with us := S.us ++ [true], gs := S.gs ++ [1], vs := S.vs ++ [v] }
  else { S with us := S.us.set S.least true, gs := S.gs.set S.least (S.gs.getD S.least 0 + 1), vs := S.vs.set S.least v }
def Slb.gen (S : Slb) : Nat := S.gs.getD S.least 0 + 1
def Slb.set (S : Slb) (i : Nat) (v : Int) : Slb := { S with vs := S.vs.set i v }
def Slb.take (S : Slb) (i : Nat) : Slb := { S with us := S.us.set i false }
def Slb.take1 (S : Slb) (h : Int × Int) : Slb := if S.is h.1 h.2 then S.take h.1.toNat else S
def Slb.takes (S : Slb) (l : List (Int × Int)) : Slb := l.foldl Slb.take1 S
def Slb.taken (S : Slb) : List (Int × Int) → Nat
  | [] => 0
  | h :: l => (S.is h.1 h.2).toNat + (S.take1 h).taken l

structure Slb.Ok (S : Slb) (K : Nat) : Prop where
  lo : 1 ≤ S.lim
  hi : S.lim ≤ 4096
  len : S.us.length ≤ S.lim
  gl : S.gs.length = S.us.length
  vl : S.vs.length = S.us.length
  gk : ∀ i, S.gs.getD i 0 ≤ K

theorem count_set_true (l : List Bool) (i : Nat) (hi : i < l.length) (h : l[i] = false) : (l.set i true).count true = l.count true + 1 := by
  rw [List.count_set hi]; simp [h]
theorem count_set_false (l : List Bool) (i : Nat) (hi : i < l.length) (h : l[i] = true) : (l.set i false).count true + 1 = l.count true := by
  have hp : 0 < l.count true := List.count_pos_iff.2 (h ▸ List.getElem_mem hi)
  rw [List.count_set hi]; simp [h]; omega
theorem all_true_of_count (l : List Bool) (h : l.length ≤ l.count true) : ∀ b ∈ l, b = true := by
  have := List.count_le_length (a := true) (l := l)
  have e : l.count true = l.length := by omega
  intro b hb
  exact (List.count_eq_length.1 e b hb).symm

theorem Slb.cnt_le (S : Slb) : S.cnt ≤ S.us.length := List.count_le_length
theorem Slb.least_le (S : Slb) : S.least ≤ S.us.length := List.findIdx_le_length
theorem Slb.least_lt {S : Slb} {K : Nat} (hS : S.Ok K) (hc : S.cnt < S.lim) : S.least < S.lim := by
  have h1 := S.least_le; have h2 := hS.len
  rcases Nat.lt_or_ge S.least S.us.length with h | h
  · omega
  · have e : S.least = S.us.length := by omega
    have hall : ∀ b ∈ S.us, b = true := fun b hb => by
      have := List.findIdx_eq_length.1 e b hb
      simpa using this
    have : S.cnt = S.us.length := List.count_eq_length.2 (fun b hb => (hall b hb).symm)
    omega
theorem Slb.least_not (S : Slb) (h : S.least < S.us.length) : S.us[S.least] = false := by
  have h2 := List.findIdx_getElem (w := h)
  have h3 : (!S.us[S.least]) = true := h2
  simpa using h3
theorem Slb.least_getD (S : Slb) : S.us.getD S.least false = false := by
  rcases Nat.lt_or_ge S.least S.us.length with h | h
  · have := S.least_not h
    rw [List.getD_eq_getElem?_getD, List.getElem?_eq_getElem h]; simpa using this
  · rw [List.getD_eq_getElem?_getD, List.getElem?_eq_none h]; rfl
theorem Slb.below_least (S : Slb) (i : Nat) (h : i < S.least) : S.us.getD i false = true := by
  have hl : i < S.us.length := Nat.lt_of_lt_of_le h S.least_le
  have := List.not_of_lt_findIdx h
  rw [List.getD_eq_getElem?_getD, List.getElem?_eq_getElem hl]
  simpa using this

theorem getD_set_nat (l : List Nat) (i j x : Nat) : (l.set i x).getD j 0 = if i = j ∧ i < l.length then x else l.getD j 0 := by
  simp only [List.getD_eq_getElem?_getD, List.getElem?_set]
  by_cases h : i = j
  · subst h
    by_cases h2 : i < l.length
    · simp [h2]
    · simp [h2]
  · simp [h]
theorem getD_set_bool (l : List Bool) (i j : Nat) (x : Bool) : (l.set i x).getD j false = if i = j ∧ i < l.length then x else l.getD j false := by
  simp only [List.getD_eq_getElem?_getD, List.getElem?_set]
  by_cases h : i = j
  · subst h
    by_cases h2 : i < l.length
    · simp [h2]
    · simp [h2]
  · simp [h]
theorem getD_snoc_nat (l : List Nat) (j x : Nat) : (l ++ [x]).getD j 0 = if j = l.length then x else l.getD j 0 := by
  simp only [List.getD_eq_getElem?_getD, List.getElem?_append]
  split
  · rename_i h; rw [if_neg (by omega)]
  · rename_i h
    by_cases e : j = l.length
    · subst e; simp
    · rw [if_neg e, List.getElem?_eq_none (by simp; omega), List.getElem?_eq_none (by omega)]
theorem getD_snoc_bool (l : List Bool) (j : Nat) (x : Bool) : (l ++ [x]).getD j false = if j = l.length then x else l.getD j false := by
  simp only [List.getD_eq_getElem?_getD, List.getElem?_append]
  split
  · rename_i h; rw [if_neg (by omega)]
  · rename_i h
    by_cases e : j = l.length
    · subst e; simp
    · rw [if_neg e, List.getElem?_eq_none (by simp; omega), List.getElem?_eq_none (by omega)]

theorem Slb.put_ok {S : Slb} {K : Nat} (hS : S.Ok K) (hc : S.cnt < S.lim) (v : Int) : (S.put v).Ok (K + 1) := by
  have hl := S.least_lt hS hc
  have hle := S.least_le
  have := hS.gl; have := hS.vl; have := hS.len
  unfold Slb.put
  split
  · rename_i h
    refine ⟨hS.lo, hS.hi, by simp; omega, by simp; omega, by simp; omega, fun i => ?_⟩
    have := hS.gk i
    simp only [getD_snoc_nat]
    split <;> omega
  · refine ⟨hS.lo, hS.hi, by simp; omega, by simp; omega, by simp; omega, fun i => ?_⟩
    have h1 := hS.gk i; have h2 := hS.gk S.least
    simp only [getD_set_nat]
    split <;> omega
theorem Slb.put_cnt {S : Slb} (v : Int) : (S.put v).cnt = S.cnt + 1 := by
  unfold Slb.put Slb.cnt
  split
  · simp
  · rename_i h
    have hlt : S.least < S.us.length := by have := S.least_le; omega
    exact count_set_true _ _ hlt (S.least_not hlt)
theorem Slb.put_lim (S : Slb) (v : Int) : (S.put v).lim = S.lim := by unfold Slb.put; split <;> rfl
theorem Slb.set_ok {S : Slb} {K : Nat} (hS : S.Ok K) (i : Nat) (v : Int) : (S.set i v).Ok K := ⟨hS.lo, hS.hi, hS.len, hS.gl, by simpa [Slb.set] using hS.vl, hS.gk⟩
theorem Slb.take_ok {S : Slb} {K : Nat} (hS : S.Ok K) (i : Nat) : (S.take i).Ok K := ⟨hS.lo, hS.hi, by simpa [Slb.take] using hS.len, by simpa [Slb.take] using hS.gl, by simpa [Slb.take] using hS.vl, hS.gk⟩
theorem Slb.Ok.mono {S : Slb} {K L : Nat} (hS : S.Ok K) (h : K ≤ L) : S.Ok L := ⟨hS.lo, hS.hi, hS.len, hS.gl, hS.vl, fun i => Nat.le_trans (hS.gk i) h⟩
theorem Slb.is_lt {S : Slb} {a g : Int} (h : S.is a g = true) : 0 ≤ a ∧ a.toNat < S.us.length ∧ S.us.getD a.toNat false = true ∧ (S.gs.getD a.toNat 0 : Int) = g := by
  simp only [Slb.is, Bool.and_eq_true, decide_eq_true_eq] at h
  refine ⟨h.1, ?_, h.2.1, h.2.2⟩
  rcases Nat.lt_or_ge a.toNat S.us.length with hl | hl
  · exact hl
  · have := h.2.1
    rw [List.getD_eq_getElem?_getD, List.getElem?_eq_none hl] at this
    cases this
theorem Slb.take_cnt {S : Slb} {i : Nat} (hi : i < S.us.length) (h : S.us.getD i false = true) : (S.take i).cnt + 1 = S.cnt := by
  refine count_set_false _ _ hi ?_
  rw [List.getD_eq_getElem?_getD, List.getElem?_eq_getElem hi] at h
  simpa using h
theorem Slb.take1_ok {S : Slb} {K : Nat} (hS : S.Ok K) (h : Int × Int) : (S.take1 h).Ok K := by
  unfold Slb.take1; split
  · exact S.take_ok hS _
  · exact hS

theorem Slb.takes_snoc (S : Slb) (l : List (Int × Int)) (h : Int × Int) : S.takes (l ++ [h]) = (S.takes l).take1 h := by
  simp [Slb.takes, List.foldl_append]
theorem Slb.taken_snoc (S : Slb) (l : List (Int × Int)) (h : Int × Int) : S.taken (l ++ [h]) = S.taken l + ((S.takes l).is h.1 h.2).toNat := by
  induction l generalizing S with
  | nil => simp [Slb.taken, Slb.takes]
  | cons x l ih =>
    simp only [List.cons_append, Slb.taken]
    rw [ih]
    simp only [Slb.takes, List.foldl_cons]
    omega
theorem Slb.taken_le (S : Slb) (l : List (Int × Int)) : S.taken l ≤ l.length := by
  induction l generalizing S with
  | nil => simp [Slb.taken]
  | cons x l ih =>
    have := ih (S.take1 x)
    have h2 := Bool.toNat_le (S.is x.1 x.2)
    simp only [Slb.taken, List.length_cons]
    omega
theorem Slb.takes_len (S : Slb) (l : List (Int × Int)) : (S.takes l).us.length = S.us.length := by
  induction l generalizing S with
  | nil => rfl
  | cons x l ih =>
    show ((S.take1 x).takes l).us.length = _
    rw [ih]
    unfold Slb.take1; split <;> simp [Slb.take]
theorem Slb.takes_ok {S : Slb} {K : Nat} (hS : S.Ok K) (l : List (Int × Int)) : (S.takes l).Ok K := by
  induction l generalizing S with
  | nil => exact hS
  | cons x l ih => exact ih (S.take1_ok hS x)
theorem take_next {α : Type} (l : List α) (k : Nat) (h : k < l.length) : l.take (k + 1) = l.take k ++ [l[k]] := by
  rw [List.take_succ_eq_append_getElem h]

/-- Those in use among the first k slots, as handles. -/
def Slb.allTo (S : Slb) : Nat → List (Int × Int)
  | 0 => []
  | k + 1 => S.allTo k ++ (if S.us.getD k false = true then [((k : Int), (S.gs.getD k 0 : Int))] else [])
def Slb.all (S : Slb) : List (Int × Int) := S.allTo S.us.length
theorem Slb.allTo_len (S : Slb) (k : Nat) : (S.allTo k).length ≤ k := by
  induction k with
  | zero => simp [Slb.allTo]
  | succ k ih => simp only [Slb.allTo, List.length_append]; split <;> simp <;> omega

/-! Bits of words. -/
theorem testBit_or_pow (x k j : Nat) : (x ||| 2 ^ k).testBit j = (x.testBit j || decide (k = j)) := by
  rw [Nat.testBit_or, Nat.testBit_two_pow]
theorem all_ones_of (x : Nat) (hx : x < 2 ^ 64) (h : ∀ j, j < 64 → x.testBit j = true) : x = 2 ^ 64 - 1 := by
  apply Nat.eq_of_testBit_eq
  intro i
  rw [Nat.testBit_two_pow_sub_one]
  rcases Nat.lt_or_ge i 64 with hi | hi
  · rw [h i hi]; simp [hi]
  · rw [Nat.testBit_lt_two_pow (Nat.lt_of_lt_of_le hx (Nat.pow_le_pow_right (by decide) hi))]; simp; omega
/-- The first bit that is not set. -/
theorem ctz_testBit (x : Nat) (h0 : x ≠ 0) (hx : x < 2 ^ 64) : Lib.ctz 64 x < 64 ∧ x.testBit (Lib.ctz 64 x) = true ∧ ∀ j, j < Lib.ctz 64 x → x.testBit j = false := by
  have e : Lib.ctz 64 x = Lib.ctzFrom 64 x := by unfold Lib.ctz; rw [if_neg h0]
  obtain ⟨m, hm, hlt⟩ := Lib.ctzFrom_spec 64 x (Nat.pos_of_ne_zero h0) hx
  rw [e]
  generalize Lib.ctzFrom 64 x = k at *
  refine ⟨hlt, ?_, fun j hj => ?_⟩
  · rw [hm, Nat.testBit_two_pow_mul]; simp
  · rw [hm, Nat.testBit_two_pow_mul]; simp; omega
/-- The first word that is not full, and its first free bit: the least slot that is free. -/
theorem least_of_words {S : Slb} {K : Nat} (hS : S.Ok K) (hc : S.cnt < S.lim) (U : Nat → Nat) (hU : ∀ j, j < 64 → U j < 2 ^ 64)
    (hb : ∀ i, i < 4096 → (U (i / 64)).testBit (i % 64) = S.us.getD i false) (q : Nat) (hq : q < 64)
    (hfull : ∀ j, j < q → U j = 2 ^ 64 - 1) (hnot : U q ≠ 2 ^ 64 - 1) :
    Lib.ctz 64 (2 ^ 64 - 1 - U q) < 64 ∧ q * 64 + Lib.ctz 64 (2 ^ 64 - 1 - U q) = S.least := by
  have hl := S.least_lt hS hc
  have h4 := hS.hi
  have hUq := hU q hq
  obtain ⟨h1, h2, h3⟩ := ctz_testBit (2 ^ 64 - 1 - U q) (by omega) (by omega)
  generalize Lib.ctz 64 (2 ^ 64 - 1 - U q) = k at *
  have flip : ∀ j, j < 64 → (2 ^ 64 - 1 - U q).testBit j = !(U q).testBit j := by
    intro j hj
    have := Nat.testBit_two_pow_sub_succ hUq j
    rw [show 2 ^ 64 - 1 - U q = 2 ^ 64 - (U q + 1) by omega, this]
    simp [hj]
  refine ⟨h1, ?_⟩
  have hk : (U q).testBit k = false := by have := flip k h1; rw [h2] at this; simpa using this.symm
  have e1 : (q * 64 + k) / 64 = q := by omega
  have e2 : (q * 64 + k) % 64 = k := by omega
  have hfree : S.us.getD (q * 64 + k) false = false := by rw [← hb _ (by omega), e1, e2]; exact hk
  rcases Nat.lt_trichotomy (q * 64 + k) S.least with h | h | h
  · rw [S.below_least _ h] at hfree; cases hfree
  · exact h
  · exfalso
    have hf := S.least_getD
    rw [← hb _ (by omega)] at hf
    rcases Nat.lt_or_ge (S.least / 64) q with hlt | hge
    · rw [hfull _ hlt, Nat.testBit_two_pow_sub_one] at hf
      simp at hf; omega
    · have hq2 : S.least / 64 = q := by omega
      rw [hq2] at hf
      have hj : S.least % 64 < k := by omega
      have hj2 := h3 _ hj
      rw [flip _ (by omega), hf] at hj2
      cases hj2
theorem not_all_full {S : Slb} {K : Nat} (hS : S.Ok K) (hc : S.cnt < S.lim) (U : Nat → Nat)
    (hb : ∀ i, i < 4096 → (U (i / 64)).testBit (i % 64) = S.us.getD i false) (q : Nat) (hq : q ≤ 64) (hfull : ∀ j, j < q → U j = 2 ^ 64 - 1) : q < 64 := by
  have hl := S.least_lt hS hc
  have h4 := hS.hi
  rcases Nat.lt_or_ge q 64 with h | h
  · exact h
  · exfalso
    have hf := S.least_getD
    rw [← hb _ (by omega), hfull _ (by omega), Nat.testBit_two_pow_sub_one] at hf
    simp at hf; omega
#print axioms least_of_words
end Go.Proofs.YthaapkafamdhcaaDoor
