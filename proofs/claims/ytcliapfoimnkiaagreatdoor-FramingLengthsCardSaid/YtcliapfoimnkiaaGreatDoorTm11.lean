/- Plain functions of chapter 11: hosts, percents, parts of paths, targets. No program. -/
import Derived.Test.YtcliapfoimnkiaaGreatDoorTokR
namespace Go.Proofs.YtcliapfoimnkiaaGreatDoor
open Go.RowKit
set_option linter.unusedVariables false

/-- Bytes as a text. -/
def ofL (l : List UInt8) : ByteArray := ⟨l.toArray⟩
theorem ofL_list (l : List UInt8) : (ofL l).data.toList = l := by simp [ofL]
theorem ofL_size (l : List UInt8) : (ofL l).size = l.length := by show l.toArray.size = _; simp
theorem ofL_data (s : ByteArray) : ofL s.data.toList = s := by cases s; rfl
theorem ofL_inj {a b : List UInt8} (h : ofL a = ofL b) : a = b := by rw [← ofL_list a, h, ofL_list]
theorem bytes_ext {a b : ByteArray} (h : a.data.toList = b.data.toList) : a = b := by rw [← ofL_data a, h, ofL_data]

theorem take_len (s : ByteArray) {k : Nat} (h : k ≤ s.size) : (s.data.toList.take k).length = k := by rw [List.length_take, len_data]; omega
/-! What stands ahead of a byte. -/
/-- What stands ahead of the first byte of a kind. -/
def upL (p : UInt8 → Bool) (l : List UInt8) : List UInt8 := l.takeWhile fun c => !p c
theorem upL_nil (p : UInt8 → Bool) : upL p [] = [] := rfl
theorem upL_len (p : UInt8 → Bool) : ∀ l : List UInt8, (upL p l).length ≤ l.length
  | [] => Nat.le_refl _
  | c :: r => by
    unfold upL; rw [List.takeWhile_cons]
    split
    · have := upL_len p r; unfold upL at this; simp only [List.length_cons]; omega
    · simp
theorem upL_take (p : UInt8 → Bool) : ∀ l : List UInt8, upL p l = l.take (upL p l).length
  | [] => rfl
  | c :: r => by
    unfold upL; rw [List.takeWhile_cons]
    split
    · have := upL_take p r; unfold upL at this
      rw [List.length_cons, List.take_succ_cons, ← this]
    · simp
theorem upL_no (p : UInt8 → Bool) (l : List UInt8) : ∀ x ∈ upL p l, p x = false := by
  induction l with
  | nil => intro x h; cases h
  | cons c r ih =>
    intro x h
    unfold upL at h; rw [List.takeWhile_cons] at h
    split at h
    · rename_i hc
      rcases List.mem_cons.1 h with rfl | h
      · simpa using hc
      · exact ih x h
    · cases h
/-- Where it ends: at the end, or at such a byte. -/
theorem upL_end (p : UInt8 → Bool) : ∀ (l : List UInt8), (upL p l).length < l.length → ∃ c, l[(upL p l).length]? = some c ∧ p c = true
  | [], h => absurd h (Nat.not_lt_zero _)
  | c :: r, h => by
    by_cases hc : p c = true
    · have e : upL p (c :: r) = [] := by unfold upL; rw [List.takeWhile_cons]; simp [hc]
      rw [e]; exact ⟨c, rfl, hc⟩
    · have e : upL p (c :: r) = c :: upL p r := by unfold upL; rw [List.takeWhile_cons]; simp [hc]
      rw [e] at h ⊢
      obtain ⟨d, hd, hp⟩ := upL_end p r (by simpa using h)
      exact ⟨d, by simpa using hd, hp⟩
theorem upL_all {p : UInt8 → Bool} : ∀ {l : List UInt8}, (∀ x ∈ l, p x = false) → upL p l = l
  | [], _ => rfl
  | c :: r, h => by
    unfold upL; rw [List.takeWhile_cons, if_pos (by simp [h c (by simp)])]
    exact congrArg _ (upL_all fun x hx => h x (by simp [hx]))
theorem upL_at {p : UInt8 → Bool} {a : List UInt8} {c : UInt8} {b : List UInt8} (h : ∀ x ∈ a, p x = false) (hc : p c = true) : upL p (a ++ c :: b) = a := by
  induction a with
  | nil => unfold upL; rw [List.nil_append, List.takeWhile_cons]; simp [hc]
  | cons d r ih =>
    unfold upL; rw [List.cons_append, List.takeWhile_cons, if_pos (by simp [h d (by simp)])]
    exact congrArg _ (ih fun x hx => h x (by simp [hx]))
theorem upL_full {p : UInt8 → Bool} {l : List UInt8} : (upL p l = l) ↔ ∀ x ∈ l, p x = false :=
  ⟨fun h => h ▸ upL_no p l, upL_all⟩
theorem upL_drop (p : UInt8 → Bool) (l : List UInt8) : l = upL p l ++ l.drop (upL p l).length := by
  conv => lhs; rw [← List.take_append_drop (upL p l).length l, ← upL_take]
theorem upL_len_full {p : UInt8 → Bool} {l : List UInt8} (h : (upL p l).length = l.length) : upL p l = l := by
  have := upL_take p l; rw [h, List.take_length] at this; exact this

/-! Hosts. -/
def nameB (c : UInt8) : Bool := alB c || inL [45, 46] c
def nameL (l : List UInt8) : Bool := l.all nameB && !l.isEmpty && decide (l.length ≤ 100)
def portL (l : List UInt8) : Bool := (numB 10 15 l).2 && decide (l.length ≤ 5) && decide ((numB 10 15 l).1 ≤ 65535)
def isC (d c : UInt8) : Bool := c == d
/-- Whether a text is a host. -/
def hostL (l : List UInt8) : Bool := nameL (upL (isC 58) l) && (decide ((upL (isC 58) l).length = l.length) || portL (l.drop ((upL (isC 58) l).length + 1)))
/-- What stands ahead of the first byte that is none of a name. -/
def nmL (l : List UInt8) : List UInt8 := upL (fun c => !nameB c) l
theorem name_58 : nameB 58 = false := by decide +kernel
theorem host_split {l : List UInt8} (h : hostL l = true) : upL (isC 58) l = nmL l := by
  unfold hostL at h
  rw [Bool.and_eq_true] at h
  have hn := h.1
  unfold nameL at hn
  rw [Bool.and_eq_true, Bool.and_eq_true] at hn
  have hall := List.all_eq_true.1 hn.1.1
  rcases Nat.lt_or_ge (upL (isC 58) l).length l.length with hlt | hge
  · obtain ⟨c, hc, hp⟩ := upL_end (isC 58) l hlt
    have hd : l.drop (upL (isC 58) l).length = c :: l.drop ((upL (isC 58) l).length + 1) := by
      obtain ⟨h1, h2⟩ := List.getElem?_eq_some_iff.1 hc
      rw [List.drop_eq_getElem_cons h1, h2]
    have he : l = upL (isC 58) l ++ c :: l.drop ((upL (isC 58) l).length + 1) := by rw [← hd]; exact upL_drop _ _
    have : nmL (upL (isC 58) l ++ c :: l.drop ((upL (isC 58) l).length + 1)) = upL (isC 58) l := upL_at (fun x hx => by simp [hall x hx]) (by
      have : c = 58 := by simpa [isC] using hp
      rw [this]; simp [name_58])
    rw [← he] at this; exact this.symm
  · have := upL_len_full (p := isC 58) (l := l) (Nat.le_antisymm (upL_len _ _) hge)
    rw [this] at hall ⊢
    exact (upL_all fun x hx => by simp [hall x hx]).symm
theorem nm_name (l : List UInt8) : (nmL l).all nameB = true := by
  rw [List.all_eq_true]; intro x hx
  have := upL_no _ _ x hx
  simpa using this
theorem nm_no58 (l : List UInt8) : ∀ x ∈ nmL l, isC 58 x = false := by
  intro x hx
  have h1 := List.all_eq_true.1 (nm_name l) x hx
  cases h2 : isC 58 x with
  | false => rfl
  | true =>
    have : x = 58 := by simpa [isC] using h2
    rw [this, name_58] at h1; cases h1
theorem host_short {l : List UInt8} (h : (nmL l).length < 1 ∨ 100 < (nmL l).length) : hostL l = false := by
  cases hh : hostL l with
  | false => rfl
  | true =>
    have e := host_split hh
    unfold hostL nameL at hh
    simp only [Bool.and_eq_true, e] at hh
    obtain ⟨⟨⟨_, h1⟩, h2⟩, _⟩ := hh
    have h2 := of_decide_eq_true h2
    have h1 : nmL l ≠ [] := by simpa using h1
    have := List.length_pos_iff.2 h1
    omega
theorem host_bare {l : List UInt8} (h1 : 1 ≤ (nmL l).length) (h2 : (nmL l).length ≤ 100) (h3 : (nmL l).length = l.length) : hostL l = true := by
  have e : nmL l = l := upL_len_full h3
  have e2 : upL (isC 58) l = l := upL_all fun x hx => nm_no58 l x (by rw [e]; exact hx)
  have hall := nm_name l
  rw [e] at h1 h2 hall
  unfold hostL nameL
  rw [e2, hall, decide_eq_true h2]
  have : l.isEmpty = false := by cases l with | nil => simp at h1 | cons => rfl
  simp [this]
theorem host_else {l : List UInt8} {c : UInt8} (hc : l[(nmL l).length]? = some c) (h : c ≠ 58) : hostL l = false := by
  cases hh : hostL l with
  | false => rfl
  | true =>
    have e := host_split hh
    have hlt := (List.getElem?_eq_some_iff.1 hc).1
    obtain ⟨d, hd, hp⟩ := upL_end (isC 58) l (by rw [e]; exact hlt)
    rw [e, hc] at hd
    injection hd with hd
    have : d = 58 := by simpa [isC] using hp
    exact absurd (hd.trans this) h
theorem host_port {l : List UInt8} (h1 : 1 ≤ (nmL l).length) (h2 : (nmL l).length ≤ 100) (hc : l[(nmL l).length]? = some 58) : hostL l = portL (l.drop ((nmL l).length + 1)) := by
  obtain ⟨hlt, hat⟩ := List.getElem?_eq_some_iff.1 hc
  have hd : l.drop (nmL l).length = 58 :: l.drop ((nmL l).length + 1) := by rw [List.drop_eq_getElem_cons hlt, hat]
  have he : l = nmL l ++ 58 :: l.drop ((nmL l).length + 1) := by rw [← hd]; exact upL_drop _ _
  have e2 : upL (isC 58) l = nmL l := by
    have := upL_at (p := isC 58) (a := nmL l) (c := 58) (b := l.drop ((nmL l).length + 1)) (nm_no58 l) rfl
    rw [← he] at this; exact this
  have hall := nm_name l
  unfold hostL nameL
  rw [e2, hall, decide_eq_true h2, decide_eq_false (by omega)]
  have : (nmL l).isEmpty = false := by cases hn : nmL l with | nil => rw [hn] at h1; simp at h1 | cons => rfl
  simp [this]
theorem port_long {l : List UInt8} (h : 5 < l.length) : portL l = false := by unfold portL; rw [decide_eq_false (show ¬ l.length ≤ 5 by omega)]; simp
theorem port_short {l : List UInt8} (h : l.length ≤ 5) : portL l = ((numB 10 15 l).2 && decide ((numB 10 15 l).1 ≤ 65535)) := by unfold portL; rw [decide_eq_true h]; simp

/-! Percents. -/
/-- The byte of two digits; 0: it is none. -/
def hxB (a b : UInt8) : UInt8 := if digB a = 16 ∨ digB b = 16 then 0 else UInt8.ofNat ((digB a).toNat * 16 + (digB b).toNat)
def hexL : List UInt8 → UInt8
  | a :: b :: _ => hxB a b
  | _ => 0
/-- A text with its percents. -/
def decL : List UInt8 → Option (List UInt8)
  | [] => some []
  | [c] => if c = 37 then none else some [c]
  | [c, d] => if c = 37 then none else (decL [d]).map (c :: ·)
  | c :: a :: b :: r => if c = 37 then (if hxB a b = 0 then none else (decL r).map (hxB a b :: ·)) else (decL (a :: b :: r)).map (c :: ·)
theorem decL_nil : decL [] = some [] := by simp [decL]
theorem decL_plain {c : UInt8} {l : List UInt8} (h : c ≠ 37) : decL (c :: l) = (decL l).map (c :: ·) := by
  match l with
  | [] => simp only [decL, if_neg h, Option.map_some]
  | [d] => simp only [decL, if_neg h]
  | a :: b :: r => rw [decL, if_neg h]
theorem decL_hex {a b : UInt8} {r : List UInt8} (h : hxB a b ≠ 0) : decL (37 :: a :: b :: r) = (decL r).map (hxB a b :: ·) := by rw [decL, if_pos rfl, if_neg h]
theorem decL_bad {l : List UInt8} (h : hexL l = 0) : decL (37 :: l) = none := by
  match l with
  | [] => rw [decL, if_pos rfl]
  | [_] => rw [decL, if_pos rfl]
  | a :: b :: r => rw [decL, if_pos rfl, if_pos (show hxB a b = 0 from h)]
theorem decL_len : ∀ (l : List UInt8) (d : List UInt8), decL l = some d → d.length ≤ l.length
  | [], d, h => by simp [decL] at h; subst h; simp
  | c :: l, d, h => by
    by_cases hc : c = 37
    · subst hc
      match l, h with
      | [], h => rw [decL_bad rfl] at h; cases h
      | [_], h => rw [decL_bad rfl] at h; cases h
      | a :: b :: r, h =>
        by_cases hz : hxB a b = 0
        · rw [decL_bad (show hexL (a :: b :: r) = 0 from hz)] at h; cases h
        · rw [decL_hex hz] at h
          cases hr : decL r with
          | none => rw [hr] at h; cases h
          | some x =>
            rw [hr] at h; simp at h; subst h
            have := decL_len r x hr
            simp only [List.length_cons]; omega
    · rw [decL_plain hc] at h
      cases hr : decL l with
      | none => rw [hr] at h; cases h
      | some x =>
        rw [hr] at h; simp at h; subst h
        have := decL_len l x hr
        simp only [List.length_cons]; omega
/-- What the rest gives behind what is there. -/
def decT (acc l : List UInt8) : Option (List UInt8) := (decL l).map (acc ++ ·)
theorem decT_nil (acc : List UInt8) : decT acc [] = some acc := by simp [decT, decL_nil]
theorem decT_start (l : List UInt8) : decT [] l = decL l := by unfold decT; cases decL l <;> simp
theorem decT_plain {acc l : List UInt8} {c : UInt8} (h : c ≠ 37) : decT acc (c :: l) = decT (acc ++ [c]) l := by
  unfold decT; rw [decL_plain h]; cases decL l <;> simp
theorem decT_hex {acc r : List UInt8} {a b : UInt8} (h : hxB a b ≠ 0) : decT acc (37 :: a :: b :: r) = decT (acc ++ [hxB a b]) r := by
  unfold decT; rw [decL_hex h]; cases decL r <;> simp
theorem decT_bad {acc l : List UInt8} (h : hexL l = 0) : decT acc (37 :: l) = none := by unfold decT; rw [decL_bad h]; rfl

/-! Parts of paths. -/
def splitAt : List UInt8 → List UInt8 → List (List UInt8)
  | cur, [] => [cur]
  | cur, c :: r => if c = 47 then cur :: splitAt [] r else splitAt (cur ++ [c]) r
/-- The parts of a text, at each slash. -/
def splitS (l : List UInt8) : List (List UInt8) := splitAt [] l
/-- The parts that a slash ends. -/
def cutS : List UInt8 → List UInt8 → List (List UInt8)
  | cur, [] => []
  | cur, c :: r => if c = 47 then cur :: cutS [] r else cutS (cur ++ [c]) r
theorem cutS_split : ∀ (l cur : List UInt8), cutS cur (l ++ [47]) = splitAt cur l
  | [], cur => by simp [cutS, splitAt]
  | c :: r, cur => by
    simp only [List.cons_append, cutS, splitAt]
    by_cases h : c = 47
    · rw [if_pos h, if_pos h, cutS_split]
    · rw [if_neg h, if_neg h, cutS_split]
theorem splitAt_no : ∀ (l cur : List UInt8), (∀ x ∈ l, x ≠ 47) → splitAt cur l = [cur ++ l]
  | [], cur, _ => by simp [splitAt]
  | c :: r, cur, h => by
    simp only [splitAt]
    rw [if_neg (h c (by simp)), splitAt_no r _ (fun x hx => h x (by simp [hx]))]
    simp
theorem splitAt_at : ∀ (a b cur : List UInt8), (∀ x ∈ a, x ≠ 47) → splitAt cur (a ++ 47 :: b) = (cur ++ a) :: splitS b
  | [], b, cur, _ => by simp [splitAt, splitS]
  | c :: r, b, cur, h => by
    simp only [List.cons_append, splitAt]
    rw [if_neg (h c (by simp)), splitAt_at r b _ (fun x hx => h x (by simp [hx]))]
    simp
theorem splitS_no {l : List UInt8} (h : ∀ x ∈ l, x ≠ 47) : splitS l = [l] := splitAt_no l [] h
theorem splitS_at {a b : List UInt8} (h : ∀ x ∈ a, x ≠ 47) : splitS (a ++ 47 :: b) = a :: splitS b := splitAt_at a b [] h
theorem splitAt_ne : ∀ (l cur : List UInt8), splitAt cur l ≠ []
  | [], cur => by simp [splitAt]
  | c :: r, cur => by
    simp only [splitAt]; split
    · simp
    · exact splitAt_ne r _
theorem splitS_ne (l : List UInt8) : splitS l ≠ [] := splitAt_ne l []
/-- Whether a part never stays. -/
def dotsL (p : List UInt8) : Bool := decide (p = [] ∨ p = [46] ∨ p = [46, 46])
/-- What is left of parts; none: they lead out. -/
def clnS : List (List UInt8) → List (List UInt8) → Option (List (List UInt8))
  | st, [] => some st
  | st, p :: r => if p = [46, 46] then (if st = [] then none else clnS st.dropLast r) else if dotsL p = true then clnS st r else clnS (st ++ [p]) r
theorem clnS_nil (st : List (List UInt8)) : clnS st [] = some st := rfl
theorem clnS_out (r : List (List UInt8)) : clnS [] ([46, 46] :: r) = none := by simp [clnS]
theorem clnS_up {st : List (List UInt8)} (h : st ≠ []) (r : List (List UInt8)) : clnS st ([46, 46] :: r) = clnS st.dropLast r := by simp [clnS, h]
theorem clnS_dot {p : List UInt8} (h : p ≠ [46, 46]) (hd : dotsL p = true) (st r : List (List UInt8)) : clnS st (p :: r) = clnS st r := by simp [clnS, h, hd]
theorem clnS_part {p : List UInt8} (hd : dotsL p = false) (st r : List (List UInt8)) : clnS st (p :: r) = clnS (st ++ [p]) r := by
  have h : p ≠ [46, 46] := by intro e; subst e; revert hd; decide
  simp [clnS, h, hd]
/-- Parts, each with a slash ahead. -/
def joinS : List (List UInt8) → List UInt8
  | [] => []
  | p :: r => 47 :: p ++ joinS r
theorem joinS_snoc : ∀ (st : List (List UInt8)) (p : List UInt8), joinS (st ++ [p]) = joinS st ++ 47 :: p
  | [], p => by simp [joinS]
  | q :: r, p => by simp [joinS, joinS_snoc r p]
def lastP (ps : List (List UInt8)) : List UInt8 := ps.getLastD []
theorem lastP_cons (p : List UInt8) {r : List (List UInt8)} (h : r ≠ []) : lastP (p :: r) = lastP r := by
  unfold lastP
  cases r with
  | nil => exact absurd rfl h
  | cons q r => simp [List.getLastD]
theorem lastP_snoc (a : List (List UInt8)) (p : List UInt8) : lastP (a ++ [p]) = p := by simp [lastP]
/-- The end that a path has. -/
def tailP (p : List UInt8) : List UInt8 := if dotsL p = true then [47] else []
def slashL (l : List UInt8) : Bool := match l with | 47 :: _ => true | _ => false
/-- A path without dots. -/
def clnL (l : List UInt8) : Option (List UInt8) := if slashL l = true then (clnS [] (splitS l.tail)).map fun st => joinS st ++ tailP (lastP (splitS l.tail)) else none
theorem clnL_no {l : List UInt8} (h : slashL l = false) : clnL l = none := by unfold clnL; rw [h]; rfl
theorem clnL_yes {l : List UInt8} (h : slashL l = true) : clnL l = (clnS [] (splitS l.tail)).map fun st => joinS st ++ tailP (lastP (splitS l.tail)) := by unfold clnL; rw [if_pos h]
/-- The last part of parts that leave nothing never stays. -/
theorem clnS_last : ∀ (ps st : List (List UInt8)), clnS st ps = some [] → ps ≠ [] → dotsL (lastP ps) = true := by
  intro ps
  induction ps with
  | nil => intro st _ h; exact absurd rfl h
  | cons p r ih =>
    intro st h _
    by_cases hr : r = []
    · subst hr
      show dotsL p = true
      cases hd : dotsL p with
      | true => rfl
      | false => rw [clnS_part hd, clnS_nil] at h; simp at h
    · rw [lastP_cons p hr]
      by_cases h2 : p = [46, 46]
      · subst h2
        by_cases hs : st = []
        · subst hs; rw [clnS_out] at h; cases h
        · rw [clnS_up hs] at h; exact ih _ h hr
      · cases hd : dotsL p with
        | true => rw [clnS_dot h2 hd] at h; exact ih _ h hr
        | false => rw [clnS_part hd] at h; exact ih _ h hr
/-- What is left are ordinary parts without a slash. -/
def OrdS (st : List (List UInt8)) : Prop := ∀ p ∈ st, dotsL p = false ∧ ∀ x ∈ p, x ≠ 47
theorem OrdS.drop {st : List (List UInt8)} (h : OrdS st) : OrdS st.dropLast := fun p hp => h p (List.dropLast_subset st hp)
theorem OrdS.snoc {st : List (List UInt8)} (h : OrdS st) {p : List UInt8} (h1 : dotsL p = false) (h2 : ∀ x ∈ p, x ≠ 47) : OrdS (st ++ [p]) := fun q hq => by
  rcases List.mem_append.1 hq with hq | hq
  · exact h q hq
  · simp at hq; subst hq; exact ⟨h1, h2⟩
theorem clnS_ord : ∀ (ps st r : List (List UInt8)), OrdS st → (∀ p ∈ ps, ∀ x ∈ p, x ≠ 47) → clnS st ps = some r → OrdS r := by
  intro ps
  induction ps with
  | nil => intro st r hs _ h; simp [clnS] at h; subst h; exact hs
  | cons p q ih =>
    intro st r hs hp h
    have hq : ∀ p ∈ q, ∀ x ∈ p, x ≠ 47 := fun p' hp' => hp p' (by simp [hp'])
    by_cases h2 : p = [46, 46]
    · subst h2
      by_cases he : st = []
      · subst he; rw [clnS_out] at h; cases h
      · rw [clnS_up he] at h; exact ih _ _ hs.drop hq h
    · cases hd : dotsL p with
      | true => rw [clnS_dot h2 hd] at h; exact ih _ _ hs hq h
      | false => rw [clnS_part hd] at h; exact ih _ _ (hs.snoc hd (hp p (by simp))) hq h
theorem splitAt_parts : ∀ (l cur : List UInt8), (∀ x ∈ cur, x ≠ 47) → ∀ p ∈ splitAt cur l, ∀ x ∈ p, x ≠ 47
  | [], cur, h, p, hp => by simp [splitAt] at hp; subst hp; exact h
  | c :: r, cur, h, p, hp => by
    simp only [splitAt] at hp
    by_cases hc : c = 47
    · rw [if_pos hc] at hp
      rcases List.mem_cons.1 hp with rfl | hp
      · exact h
      · exact splitAt_parts r [] (fun x hx => by cases hx) p hp
    · rw [if_neg hc] at hp
      exact splitAt_parts r _ (fun x hx => by
        rcases List.mem_append.1 hx with hx | hx
        · exact h x hx
        · simp at hx; subst hx; exact hc) p hp
theorem splitS_parts (l : List UInt8) : ∀ p ∈ splitS l, ∀ x ∈ p, x ≠ 47 := splitAt_parts l [] (fun x hx => by cases hx)
end Go.Proofs.YtcliapfoimnkiaaGreatDoor
