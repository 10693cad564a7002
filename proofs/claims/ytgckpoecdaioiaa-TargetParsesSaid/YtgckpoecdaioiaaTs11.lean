/- Plain facts of chapter 11: a clean path stays, down and up again is the root, http and a host ahead of a path, percents of bytes. No program. -/
import Derived.Test.YtgckpoecdaioiaaTq11
namespace Go.Proofs.Ytgckpoecdaioiaa
open Go.RowKit
set_option linter.unusedVariables false

/-! A clean path stays as it is. -/
theorem joinS_app (a b : List (List UInt8)) : joinS (a ++ b) = joinS a ++ joinS b := by
  induction a with
  | nil => rfl
  | cons p r ih => simp [joinS, ih]
theorem joinS_slash {st : List (List UInt8)} (h : st ≠ []) (t : List UInt8) : slashL (joinS st ++ t) = true := by
  cases st with
  | nil => exact absurd rfl h
  | cons p r => rfl
theorem split_join : ∀ (st : List (List UInt8)), OrdS st → st ≠ [] → splitS (joinS st).tail = st
  | [], _, h => absurd rfl h
  | [p], ho, _ => by
    show splitS (p ++ joinS []) = [p]
    rw [show joinS [] = [] from rfl, List.append_nil]
    exact splitS_no (ho p (by simp)).2
  | p :: q :: r, ho, _ => by
    have ih := split_join (q :: r) (fun x hx => ho x (by simp [List.mem_cons.1 hx])) (by simp)
    show splitS (p ++ joinS (q :: r)) = _
    have e : joinS (q :: r) = 47 :: (joinS (q :: r)).tail := rfl
    rw [e, splitS_at (ho p (by simp)).2, ih]
theorem split_join_end (st : List (List UInt8)) (ho : OrdS st) (h : st ≠ []) : splitS (joinS st ++ [47]).tail = st ++ [[]] := by
  have hh : ∀ (st : List (List UInt8)), OrdS st → st ≠ [] → splitS ((joinS st).tail ++ [47]) = st ++ [[]] := by
    intro st
    induction st with
    | nil => intro _ h; exact absurd rfl h
    | cons p r ih =>
      intro ho _
      cases r with
      | nil =>
        show splitS ((p ++ joinS []) ++ [47]) = _
        rw [show joinS [] = [] from rfl, List.append_nil, splitS_at (ho p (by simp)).2]
        rfl
      | cons q r =>
        show splitS ((p ++ joinS (q :: r)) ++ [47]) = _
        have e : joinS (q :: r) = 47 :: (joinS (q :: r)).tail := rfl
        rw [e, List.append_assoc, List.cons_append, splitS_at (ho p (by simp)).2, ih (fun x hx => ho x (by simp [List.mem_cons.1 hx])) (by simp)]
        rfl
  have := hh st ho h
  cases st with
  | nil => exact absurd rfl h
  | cons p r => exact this
theorem clnS_ords : ∀ (ps st : List (List UInt8)), OrdS ps → clnS st ps = some (st ++ ps)
  | [], st, _ => by simp [clnS]
  | p :: r, st, h => by
    rw [clnS_part (h p (by simp)).1, clnS_ords r _ (fun x hx => h x (by simp [hx]))]
    simp
theorem clnS_app : ∀ (a b st : List (List UInt8)), clnS st (a ++ b) = (clnS st a).bind fun s => clnS s b
  | [], b, st => rfl
  | p :: r, b, st => by
    rw [List.cons_append]
    by_cases h2 : p = [46, 46]
    · subst h2
      by_cases he : st = []
      · subst he; rw [clnS_out, clnS_out]; rfl
      · rw [clnS_up he, clnS_up he, clnS_app]
    · cases hd : dotsL p with
      | true => rw [clnS_dot h2 hd, clnS_dot h2 hd, clnS_app]
      | false => rw [clnS_part hd, clnS_part hd, clnS_app]
theorem ord_last {st : List (List UInt8)} (ho : OrdS st) (h : st ≠ []) : dotsL (lastP st) = false := by
  have : lastP st = st.getLast h := by
    conv => lhs; rw [← List.dropLast_concat_getLast h]
    exact lastP_snoc _ _
  rw [this]
  exact (ho _ (List.getLast_mem h)).1
theorem cln_cln {l d : List UInt8} (h : clnL l = some d) : clnL d = some d := by
  cases hs : slashL l with
  | false => rw [clnL_no hs] at h; cases h
  | true =>
    rw [clnL_yes hs] at h
    cases hc : clnS [] (splitS l.tail) with
    | none => rw [hc] at h; cases h
    | some st =>
      rw [hc] at h
      injection h with h
      have ho := clnS_ord _ _ _ (fun p hp => by cases hp) (splitS_parts l.tail) hc
      have h : joinS st ++ tailP (lastP (splitS l.tail)) = d := h
      by_cases he : st = []
      · subst he
        have hd := clnS_last _ _ hc (splitS_ne _)
        unfold tailP at h
        rw [if_pos hd] at h
        subst h
        decide +kernel
      · unfold tailP at h
        by_cases hd : dotsL (lastP (splitS l.tail)) = true
        · rw [if_pos hd] at h
          subst h
          rw [clnL_yes (joinS_slash he _), split_join_end st ho he, clnS_app, clnS_ords _ _ ho, lastP_snoc]
          rfl
        · rw [if_neg hd, List.append_nil] at h
          subst h
          have hsl : slashL (joinS st) = true := by have := joinS_slash he []; rw [List.append_nil] at this; exact this
          rw [clnL_yes hsl, split_join st ho he, clnS_ords _ _ ho]
          simp only [List.nil_append, Option.map_some]
          unfold tailP
          rw [if_neg (by rw [ord_last ho he]; simp), List.append_nil]
theorem sumS : ∀ (ps : List (List UInt8)), (joinS ps).length = (ps.map fun p => p.length + 1).foldr (· + ·) 0
  | [] => rfl
  | p :: r => by simp [joinS, sumS r]; omega
theorem splitAt_join : ∀ (l cur : List UInt8), joinS (splitAt cur l) = 47 :: cur ++ l
  | [], cur => by simp [splitAt, joinS]
  | c :: r, cur => by
    simp only [splitAt]
    by_cases h : c = 47
    · rw [if_pos h]; simp only [joinS]; rw [splitAt_join r []]; simp [h]
    · rw [if_neg h, splitAt_join r]; simp
theorem clnS_len : ∀ (ps st r : List (List UInt8)), clnS st ps = some r → (joinS r).length ≤ (joinS st).length + (joinS ps).length
  | [], st, r, h => by simp [clnS] at h; subst h; simp [joinS]
  | p :: q, st, r, h => by
    by_cases h2 : p = [46, 46]
    · subst h2
      by_cases he : st = []
      · subst he; rw [clnS_out] at h; cases h
      · rw [clnS_up he] at h
        have := clnS_len _ _ _ h
        have := join_drop_le st
        simp only [joinS, List.length_cons, List.length_append, List.cons_append]; omega
    · cases hd : dotsL p with
      | true =>
        rw [clnS_dot h2 hd] at h
        have := clnS_len _ _ _ h
        simp only [joinS, List.length_cons, List.length_append, List.cons_append]; omega
      | false =>
        rw [clnS_part hd] at h
        have := clnS_len _ _ _ h
        rw [joinS_snoc] at this
        simp only [joinS, List.length_cons, List.length_append, List.cons_append] at this ⊢; omega
theorem clnL_len {l d : List UInt8} (h : clnL l = some d) : d.length ≤ l.length + 1 := by
  cases hs : slashL l with
  | false => rw [clnL_no hs] at h; cases h
  | true =>
    rw [clnL_yes hs] at h
    cases hc : clnS [] (splitS l.tail) with
    | none => rw [hc] at h; cases h
    | some st =>
      rw [hc] at h
      injection h with h
      have h1 := clnS_len _ _ _ hc
      have h2 : (joinS (splitS l.tail)).length = l.tail.length + 1 := by
        show (joinS (splitAt [] l.tail)).length = _
        rw [splitAt_join]; simp
      have h3 : 0 < l.length := by
        cases l with
        | nil => simp [slashL] at hs
        | cons c r => simp
      have h4 : (tailP (lastP (splitS l.tail))).length ≤ 1 := by unfold tailP; split <;> simp
      rw [← h, List.length_append]
      rw [h2, List.length_tail] at h1
      simp only [joinS, List.length_nil] at h1
      omega

/-! Down and up again. -/
def downL (name : List UInt8) (n : Nat) : List (List UInt8) := List.replicate n name
def upsL (n : Nat) : List (List UInt8) := List.replicate n [46, 46]
theorem clnS_ups (name : List UInt8) : ∀ (n : Nat) (r : List (List UInt8)), clnS (downL name n) (upsL n ++ r) = clnS [] r
  | 0, r => rfl
  | n + 1, r => by
    show clnS (downL name (n + 1)) ([46, 46] :: (upsL n ++ r)) = _
    rw [clnS_up (by simp [downL]), show (downL name (n + 1)).dropLast = downL name n by simp [downL, List.dropLast_replicate], clnS_ups name n r]
theorem split_parts : ∀ (ps : List (List UInt8)) (l : List UInt8), (∀ p ∈ ps, ∀ x ∈ p, x ≠ 47) → splitS ((joinS ps ++ 47 :: l).tail) = ps ++ splitS l
  | [], l, _ => rfl
  | [p], l, h => by
    show splitS ((p ++ joinS []) ++ 47 :: l) = _
    rw [show joinS [] = [] from rfl, List.append_nil, splitS_at (h p (by simp))]
    rfl
  | p :: q :: r, l, h => by
    have ih := split_parts (q :: r) l (fun x hx => h x (by simp [List.mem_cons.1 hx]))
    show splitS ((p ++ joinS (q :: r)) ++ 47 :: l) = _
    have e : joinS (q :: r) = 47 :: (joinS (q :: r)).tail := rfl
    have e2 : (joinS (q :: r) ++ 47 :: l).tail = (joinS (q :: r)).tail ++ 47 :: l := rfl
    rw [e2] at ih
    rw [e, List.append_assoc, List.cons_append, splitS_at (h p (by simp)), ih]
    rfl
theorem parts_up (name : List UInt8) (n : Nat) (hn : ∀ x ∈ name, x ≠ 47) : ∀ p ∈ downL name n ++ upsL n, ∀ x ∈ p, x ≠ 47 := by
  intro p hp
  rcases List.mem_append.1 hp with hp | hp
  · rw [(List.mem_replicate.1 hp).2]; exact hn
  · rw [(List.mem_replicate.1 hp).2]; intro x hx; simp at hx; subst hx; decide
theorem ord_down (name : List UInt8) (n : Nat) (hn : ∀ x ∈ name, x ≠ 47) (hd : dotsL name = false) : OrdS (downL name n) := by
  intro p hp; rw [(List.mem_replicate.1 hp).2]; exact ⟨hd, hn⟩
theorem slash_parts (ps : List (List UInt8)) (l : List UInt8) : slashL (joinS ps ++ 47 :: l) = true := by
  cases ps with
  | nil => rfl
  | cons p r => rfl
theorem up_root (name : List UInt8) (n : Nat) (hn : ∀ x ∈ name, x ≠ 47) (hd : dotsL name = false) : clnL (joinS (downL name n ++ upsL n) ++ [47]) = some [47] := by
  rw [clnL_yes (slash_parts _ _), split_parts _ _ (parts_up name n hn), List.append_assoc, clnS_app, clnS_ords _ _ (ord_down name n hn hd)]
  simp only [Option.bind_some, List.nil_append]
  rw [clnS_ups, ← List.append_assoc, show splitS [] = [[]] from rfl, lastP_snoc]
  rfl
theorem up_out (name : List UInt8) (n : Nat) (hn : ∀ x ∈ name, x ≠ 47) (hd : dotsL name = false) : clnL (joinS (downL name n ++ upsL n) ++ [47, 46, 46]) = none := by
  rw [clnL_yes (slash_parts _ _), split_parts _ _ (parts_up name n hn), List.append_assoc, clnS_app, clnS_ords _ _ (ord_down name n hn hd)]
  simp only [Option.bind_some, List.nil_append]
  rw [clnS_ups, show splitS [46, 46] = [[46, 46]] from by decide +kernel, clnS_out]
  rfl

/-! http and a host ahead. -/
theorem upL_append {p : UInt8 → Bool} {a b : List UInt8} {c : UInt8} (h : ∀ x ∈ a, p x = false) (hc : p c = true) : upL p (a ++ c :: b) = a := upL_at h hc
theorem abs_host {h s : List UInt8} (hh : ∀ x ∈ h, endB x = false) (hs : slashL s = true) : hostOf (h ++ s) = h ∧ restOf (h ++ s) = s := by
  cases s with
  | nil => simp [slashL] at hs
  | cons c r =>
    have hc : c = 47 := by
      unfold slashL at hs; split at hs
      · rename_i he; injection he
      · cases hs
    subst hc
    have e : hostOf (h ++ 47 :: r) = h := upL_at hh (by decide)
    refine ⟨e, ?_⟩
    unfold restOf
    rw [e, List.drop_left, if_pos hs]
theorem lowL_app (a b : List UInt8) : lowL (a ++ b) = lowL a ++ lowL b := by simp [lowL]
theorem scheme_app {x l : List UInt8} (hx : x.length = 7) (h : lowL x = httpL) : schemeL (x ++ l) = true := by
  unfold schemeL
  rw [List.length_append, decide_eq_true (by omega), List.take_append_of_le_length (by omega), List.take_of_length_le (by omega), h]
  simp
theorem par_http {x h s : List UInt8} (hx : x.length = 7) (hl : lowL x = httpL) (hxs : slashL x = false) (hz : h.length + s.length ≤ 150) (hh : ∀ y ∈ h, endB y = false) (hs : slashL s = true) :
    parT getL (x ++ h ++ s) = if hostL h = true then orgF 2 (ofL (lowL h)) s else (noT, 8) := by
  have h1 : ¬ 200 < (x ++ h ++ s).length := by rw [List.length_append, List.length_append]; omega
  have hslash : slashL (x ++ h ++ s) = false := by
    cases x with
    | nil => simp at hx
    | cons c r =>
      have : c ≠ 47 := by intro e; subst e; simp [slashL] at hxs
      exact slash_cons this
  have hsch : schemeL (x ++ h ++ s) = true := by rw [List.append_assoc]; exact scheme_app hx hl
  rw [parT_abs h1 (by decide) (by intro h; exact absurd h.1 (by decide)) hslash hsch]
  have hd : (x ++ h ++ s).drop 7 = h ++ s := by rw [List.append_assoc, ← hx, List.drop_left]
  rw [hd]
  unfold absL
  obtain ⟨e1, e2⟩ := abs_host hh hs
  rw [e1, e2]
theorem par_path {s : List UInt8} (hz : s.length ≤ 150) (hs : slashL s = true) : parT getL s = orgF 1 noB s :=
  parT_org (by omega) (by decide) (by intro h; exact absurd h.1 (by decide)) hs
end Go.Proofs.Ytgckpoecdaioiaa
