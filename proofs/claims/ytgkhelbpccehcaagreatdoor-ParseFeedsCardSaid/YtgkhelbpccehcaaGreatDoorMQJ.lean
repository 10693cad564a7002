/- What holds of every parser that bytes have made, in plain terms. No program but for what Parse answers. -/
import Derived.Test.YtgkhelbpccehcaaGreatDoorMQI
import Derived.Test.YtgkhelbpccehcaaGreatDoorMQF
import Derived.Test.YtgkhelbpccehcaaGreatDoorMQH
import Derived.Test.YtgkhelbpccehcaaGreatDoorMQG
import Derived.Deep.RegionHeld3
import Derived.Deep.CutBlock
import Derived.Deep.RegionLaw
import Derived.Deep.AppendLies
namespace Go.Proofs.YtgkhelbpccehcaaGreatDoor
open Go.RowKit
set_option linter.unusedVariables false
set_option linter.unusedSimpArgs false

theorem numL_nn (b : Int) (hb : 0 ≤ b) : ∀ (l : List UInt8) (n : Int), 0 ≤ n → 0 ≤ (numL b n l).1
  | [], n, h => h
  | c :: l, n, h => by
    by_cases hc : b ≤ digB c
    · rw [numL_bad hc]; exact Int.le_refl _
    · rw [numL_good (by omega)]
      have := (digB_le c).1
      have := Int.mul_nonneg h hb
      exact numL_nn b hb l _ (by omega)
theorem numB_nn (b : Int) (hb : 0 ≤ b) (m : Nat) (l : List UInt8) : 0 ≤ (numB b m l).1 := by
  unfold numB
  split
  · exact Int.le_refl _
  · exact numL_nn b hb l 0 (Int.le_refl _)
theorem lenN_nn : ∀ (L : List (List UInt8)) (n : Int), lenN L = some n → 0 ≤ n
  | [], n, h => by cases h
  | x :: r, n, h => by
    rw [show lenN (x :: r) = if (numB 10 15 x).2 = true ∧ r.all (fun y => (numB 10 15 y).2 && (numB 10 15 y).1 == (numB 10 15 x).1) = true then some (numB 10 15 x).1 else none from rfl] at h
    by_cases hc : (numB 10 15 x).2 = true ∧ r.all (fun y => (numB 10 15 y).2 && (numB 10 15 y).1 == (numB 10 15 x).1) = true
    · rw [if_pos hc] at h
      injection h with e; rw [← e]; exact numB_nn 10 (by decide) 15 x
    · rw [if_neg hc] at h; cases h
theorem lenS_bd (cl : List ByteArray) : 0 ≤ (lenS cl).1 ∧ (lenS cl).1 ≤ 2048 := by
  unfold lenS
  cases toksO cl with
  | none => exact ⟨Int.le_refl _, by decide⟩
  | some L =>
    simp only
    cases hn : lenN L with
    | none => exact ⟨Int.le_refl _, by decide⟩
    | some n =>
      simp only
      have h0 : 0 ≤ n := lenN_nn L n hn
      split
      · exact ⟨Int.le_refl _, by decide⟩
      · exact ⟨h0, by simp only; omega⟩
/-- What kinds of bodies there are. -/
def HowOk (w : HowP) : Prop := (w.kind = 0 ∧ w.length = 0) ∨ (w.kind = 1 ∧ 0 ≤ w.length ∧ w.length ≤ 2048) ∨ (w.kind = 2 ∧ w.length = 0)
theorem bodyS_ok (m : Int) (S : List FV) (c x : Bool) : HowOk ⟨(bodyS m S).1, (bodyS m S).2.1, c, x⟩ := by
  unfold bodyS HowOk
  split
  · exact .inr (.inr ⟨rfl, rfl⟩)
  · split
    · exact .inr (.inl ⟨rfl, (lenS_bd _).1, (lenS_bd _).2⟩)
    · exact .inl ⟨rfl, rfl⟩
theorem noH_ok : HowOk noH := .inl ⟨rfl, rfl⟩
theorem frm_ok (m : Int) (S : List FV) : HowOk (frm m S).1 := by
  unfold frm frmN
  split
  · exact noH_ok
  split
  · exact noH_ok
  split
  · exact noH_ok
  split
  · split
    · exact bodyS_ok _ _ _ _
    · exact noH_ok
  · exact bodyS_ok _ _ _ _
/-- A line by which a head is whole. -/
theorem line_whole {h : HdP} {s : ByteArray} (h1 : h.whole = false) (h2 : h.status = 0) (hw : (lineP h s).whole = true) : HowOk (lineP h s).how := by
  by_cases h3 : 256 < s.size
  · rw [lineP_long h1 h2 h3] at hw; exact absurd hw (by show ¬ h.whole = true; rw [h1]; simp)
  by_cases h4 : 1024 < h.bytes + (s.size + 2)
  · rw [lineP_much h1 h2 h3 h4] at hw; exact absurd hw (by show ¬ h.whole = true; rw [h1]; simp)
  rw [lineP_go h1 h2 h3 h4] at hw ⊢
  generalize hq : ({ h with bytes := h.bytes + (s.size + 2) } : HdP) = q at hw ⊢
  have q1 : q.whole = false := by rw [← hq]; exact h1
  cases hst : q.started with
  | false =>
    by_cases z0 : s.size = 0
    · rw [bodyP_skip hst z0] at hw; exact absurd hw (by show ¬ q.whole = true; rw [q1]; simp)
    · rw [bodyP_start hst z0] at hw
      by_cases e0 : startS s.data.toList = 0
      · rw [startP_yes e0] at hw; exact absurd hw (by show ¬ q.whole = true; rw [q1]; simp)
      · rw [startP_bad e0] at hw; exact absurd hw (by show ¬ q.whole = true; rw [q1]; simp)
  | true =>
    by_cases z0 : s.size = 0
    · rw [bodyP_end hst z0]; exact frm_ok _ _
    · by_cases e1 : (parR s).2 = 0
      · by_cases e2 : 24 ≤ q.S.length
        · rw [bodyP_full hst z0 e1 e2] at hw; exact absurd hw (by show ¬ q.whole = true; rw [q1]; simp)
        · rw [bodyP_add hst z0 e1 e2] at hw; exact absurd hw (by show ¬ q.whole = true; rw [q1]; simp)
      · rw [bodyP_bad hst z0 e1] at hw; exact absurd hw (by show ¬ q.whole = true; rw [q1]; simp)
/-- What holds of every parser. -/
structure PrOk (p : PrP) : Prop where
  ph : p.phase ≤ 4
  st : p.phase ≠ 4 → p.status = 0
  head : HdOk p.head
  live : p.phase = 1 → p.head.whole = false ∧ p.head.status = 0 ∧ p.line.length ≤ 257
  how : p.phase = 2 ∨ p.phase = 3 → p.head.how = p.how
  body : p.phase = 2 → (p.how.kind = 1 ∧ (p.body.length : Int) < p.how.length ∧ p.how.length ≤ 2048) ∨ (p.how.kind = 2 ∧ ChOk p.ch ∧ doneC p.ch = false)
  blen : p.phase = 3 → p.body.length ≤ 2048
theorem newR_ok : PrOk newR := ⟨by decide, fun _ => rfl, newH_ok, fun h => (by cases h), fun h => (by rcases h with h | h <;> cases h), fun h => (by cases h), fun h => (by cases h)⟩
theorem PrOk.bad {p q : PrP} (o : PrOk p) (h : HdOk q.head) (n : Int) : PrOk (badR q n) :=
  ⟨by show 4 ≤ 4; omega, fun e => absurd rfl e, h, fun e => (by cases e), fun e => (by rcases e with e | e <;> cases e), fun e => (by cases e), fun e => (by cases e)⟩
theorem doneR_no {p : PrP} (h : doneR p = false) : p.phase < 3 := by
  unfold doneR at h
  have := of_decide_eq_false h
  omega
theorem PrOk.beg {p : PrP} (o : PrOk p) {h : HdP} (hh : HdOk h) (hw : HowOk h.how) (hs : p.status = 0) : PrOk (begR p h) := by
  have hp : (begR p h).phase = if h.how.kind = 0 ∨ (h.how.kind = 1 ∧ h.how.length = 0) then 3 else 2 := rfl
  refine ⟨(by rw [hp]; split <;> omega), fun _ => hs, hh, fun e => (by rw [hp] at e; split at e <;> cases e), fun _ => rfl, fun e => ?_, fun _ => (by show (0 : Nat) ≤ 2048; omega)⟩
  rw [hp] at e
  have hc : ¬ (h.how.kind = 0 ∨ (h.how.kind = 1 ∧ h.how.length = 0)) := by
    intro hc; rw [if_pos hc] at e; cases e
  rcases hw with ⟨a, b⟩ | ⟨a, b, c⟩ | ⟨a, b⟩
  · exact absurd (.inl a) hc
  · refine .inl ⟨a, ?_, c⟩
    show ((0 : Nat) : Int) < h.how.length
    by_cases e0 : h.how.length = 0
    · exact absurd (.inr ⟨a, e0⟩) hc
    · omega
  · exact .inr ⟨a, newC_ok, rfl⟩
theorem PrOk.headR {p : PrP} (o : PrOk p) (h1 : p.phase = 1) (c : UInt8) : PrOk (headR p c) := by
  obtain ⟨hw, hs, hl⟩ := o.live h1
  have hst := o.st (by omega)
  unfold Go.Proofs.YtgkhelbpccehcaaGreatDoor.headR
  by_cases hc : c = 10
  · rw [if_pos hc]
    unfold lendR
    by_cases hg : p.line.getLast? = some 13
    · rw [if_pos hg]
      have ol := o.head.line (ofL p.line.dropLast)
      by_cases he : (lineP p.head (ofL p.line.dropLast)).status ≠ 0
      · rw [if_pos he]; exact o.bad ol _
      · rw [if_neg he]
        by_cases hwh : (lineP p.head (ofL p.line.dropLast)).whole = true
        · rw [if_pos hwh]; exact o.beg ol (line_whole hw hs hwh) hst
        · rw [if_neg hwh]
          exact ⟨o.ph, fun _ => hst, ol, fun _ => ⟨by cases h : (lineP p.head (ofL p.line.dropLast)).whole with | false => rfl | true => exact absurd h hwh, by simpa using he, by show (0 : Nat) ≤ 257; omega⟩, fun e => (by have : p.phase = 2 ∨ p.phase = 3 := e; omega), fun e => (by have : p.phase = 2 := e; omega), fun e => (by have : p.phase = 3 := e; omega)⟩
    · rw [if_neg hg]; exact o.bad o.head _
  · rw [if_neg hc]
    unfold lgrowR
    by_cases hg : 256 < cntL p.line c
    · rw [if_pos hg]; exact o.bad (q := { p with line := p.line ++ [c] }) o.head _
    · rw [if_neg hg]
      refine ⟨o.ph, fun _ => hst, o.head, fun _ => ⟨hw, hs, ?_⟩, fun e => (by have : p.phase = 2 ∨ p.phase = 3 := e; omega), fun e => (by have : p.phase = 2 := e; omega), fun e => (by have : p.phase = 3 := e; omega)⟩
      show (p.line ++ [c]).length ≤ 257
      rw [List.length_append]
      unfold cntL at hg
      split at hg <;> simp <;> omega
theorem PrOk.moreR {p : PrP} (o : PrOk p) (h2 : p.phase = 2) (c : UInt8) : PrOk (moreR p c) := by
  have hst := o.st (by omega)
  unfold Go.Proofs.YtgkhelbpccehcaaGreatDoor.moreR
  rcases o.body h2 with ⟨a, b, d⟩ | ⟨a, b, d⟩
  · rw [if_pos a]
    refine ⟨by show (if _ then 3 else 2) ≤ 4; split <;> omega, fun _ => hst, o.head, fun e => (by change (if _ then 3 else 2) = 1 at e; split at e <;> cases e), fun _ => o.how (.inl h2), fun e => .inl ⟨a, ?_, d⟩, fun _ => ?_⟩
    · show ((p.body ++ [c]).length : Int) < p.how.length
      change (if _ then 3 else 2) = 2 at e
      rw [List.length_append]
      split at e
      · cases e
      · rename_i hne; simp; omega
    · show (p.body ++ [c]).length ≤ 2048
      rw [List.length_append]; simp; omega
  · rw [if_neg (by omega)]
    by_cases he : (oneP p.ch c).status ≠ 0
    · rw [if_pos he]; exact o.bad (q := { p with came := true, ch := oneP p.ch c, body := (oneP p.ch c).body }) o.head _
    · rw [if_neg he]
      have oc := b.one c
      refine ⟨by show (if _ then 3 else 2) ≤ 4; split <;> omega, fun _ => hst, o.head, fun e => (by change (if _ then 3 else 2) = 1 at e; split at e <;> cases e), fun _ => o.how (.inl h2), fun e => .inr ⟨a, oc, ?_⟩, fun _ => oc.body⟩
      change (if _ then 3 else 2) = 2 at e
      by_cases hw : (oneP p.ch c).whole = true
      · rw [if_pos hw] at e; cases e
      · exact done_of (by cases h : (oneP p.ch c).whole with | false => rfl | true => exact absurd h hw) (by simpa using he)
theorem PrOk.one {p : PrP} (o : PrOk p) (hd : doneR p = false) (c : UInt8) : PrOk (oneR p c) := by
  have := doneR_no hd
  unfold oneR
  by_cases h2 : p.phase = 2
  · rw [if_pos h2]; exact o.moreR h2 c
  · rw [if_neg h2]
    by_cases h0 : p.phase = 0
    · rw [if_pos h0]
      exact PrOk.headR (p := { p with phase := 1, head := newH, line := [] }) ⟨by show 1 ≤ 4; omega, fun _ => o.st (by omega), newH_ok, fun _ => ⟨rfl, rfl, by show (0 : Nat) ≤ 257; omega⟩, fun e => (by rcases e with e | e <;> cases e), fun e => (by cases e), fun e => (by cases e)⟩ rfl c
    · rw [if_neg h0]; exact o.headR (by omega) c
theorem PrOk.feed : ∀ (l : List UInt8) {p : PrP}, PrOk p → PrOk (feedR p l).1
  | [], p, o => o
  | c :: l, p, o => by
    cases h : doneR p with
    | true => rw [feedR_done h]; exact o
    | false => rw [feedR_cons h]; exact PrOk.feed l (o.one h c)
theorem PrOk.take {p : PrP} (o : PrOk p) : PrOk (takeR p).1 := by
  unfold takeR
  by_cases h : p.phase = 3
  · rw [if_pos h]
    exact ⟨by show 0 ≤ 4; omega, fun _ => o.st (by omega), o.head, fun e => (by cases e), fun e => (by rcases e with e | e <;> cases e), fun e => (by cases e), fun e => (by cases e)⟩
  · rw [if_neg h]; exact o

/-! Bytes in one go. -/
theorem feedR_take : ∀ (l : List UInt8) (p : PrP), feedR p (l.take (feedR p l).2) = feedR p l
  | [], p => rfl
  | c :: l, p => by
    cases h : doneR p with
    | true => rw [feedR_done h, feedR_done h]
    | false =>
      rw [feedR_cons h]
      show feedR p ((c :: l).take ((feedR (oneR p c) l).2 + 1)) = _
      rw [List.take_succ_cons, feedR_cons h, feedR_take l (oneR p c)]
/-- Bytes of a body with a length. -/
theorem feedR_len : ∀ (l : List UInt8) (p : PrP), p.phase = 2 → p.how.kind = 1 → (p.body.length : Int) < p.how.length → l ≠ [] →
    feedR p l = ({ p with came := true, body := p.body ++ l.take (p.how.length - p.body.length).toNat, phase := if ((p.body.length + l.length : Nat) : Int) < p.how.length then 2 else 3 }, min l.length (p.how.length - p.body.length).toNat)
  | [], _, _, _, _, h => absurd rfl h
  | c :: l, p, h2, hk, hb, _ => by
    have hd : doneR p = false := by unfold doneR; rw [h2]; rfl
    rw [feedR_cons hd]
    have e1 : oneR p c = { p with came := true, body := p.body ++ [c], phase := if ((p.body.length + 1 : Nat) : Int) = p.how.length then 3 else 2 } := by
      unfold oneR; rw [if_pos h2]; unfold moreR; rw [if_pos hk]
    rw [e1]
    by_cases he : ((p.body.length + 1 : Nat) : Int) = p.how.length
    · rw [if_pos he, feedR_done rfl]
      have hn : (p.how.length - p.body.length).toNat = 1 := by omega
      rw [hn, List.take_succ_cons, List.take_zero, List.length_cons, if_neg (by omega)]
      congr 1
      omega
    · rw [if_neg he]
      by_cases hl : l = []
      · subst hl
        rw [feedR_nil, List.length_cons, if_pos (by simp; omega)]
        rw [List.take_of_length_le (by simp; omega)]
        congr 1
        simp; omega
      · have ih := feedR_len l { p with came := true, body := p.body ++ [c], phase := 2 } rfl hk (by show ((p.body ++ [c]).length : Int) < _; rw [List.length_append]; simp; omega) hl
        rw [ih]
        have el : ((p.body ++ [c]).length : Int) = p.body.length + 1 := by simp
        have en : (p.how.length - p.body.length).toNat = (p.how.length - (p.body ++ [c]).length).toNat + 1 := by omega
        rw [en, List.take_succ_cons, List.length_cons]
        show (PrP.mk (if (((p.body ++ [c]).length + l.length : Nat) : Int) < p.how.length then 2 else 3) p.status p.head p.line p.how (p.body ++ [c] ++ l.take (p.how.length - (p.body ++ [c]).length).toNat) p.ch true, min l.length (p.how.length - (p.body ++ [c]).length).toNat + 1) = _
        rw [List.append_assoc, List.singleton_append, show (p.body ++ [c]).length + l.length = p.body.length + (l.length + 1) by simp; omega]
        congr 1
        omega
/-- Bytes of a body in chunks. -/
theorem feedR_chunks : ∀ (l : List UInt8) (p : PrP), p.phase = 2 → p.how.kind = 2 → doneC p.ch = false → l ≠ [] →
    feedR p l = (if (feedP p.ch l).1.status ≠ 0 then badR { p with came := true, ch := (feedP p.ch l).1, body := (feedP p.ch l).1.body } (feedP p.ch l).1.status
      else { p with came := true, ch := (feedP p.ch l).1, body := (feedP p.ch l).1.body, phase := if (feedP p.ch l).1.whole = true then 3 else 2 }, (feedP p.ch l).2)
  | [], _, _, _, _, h => absurd rfl h
  | c :: l, p, h2, hk, hc, _ => by
    have hd : doneR p = false := by unfold doneR; rw [h2]; rfl
    rw [feedR_cons hd, feed_cons hc]
    have e1 : oneR p c = if (oneP p.ch c).status ≠ 0 then badR { p with came := true, ch := oneP p.ch c, body := (oneP p.ch c).body } (oneP p.ch c).status else { p with came := true, ch := oneP p.ch c, body := (oneP p.ch c).body, phase := if (oneP p.ch c).whole = true then 3 else 2 } := by
      unfold oneR; rw [if_pos h2]; unfold moreR; rw [if_neg (by omega)]
    rw [e1]
    by_cases he : (oneP p.ch c).status ≠ 0
    · have hdc : doneC (oneP p.ch c) = true := by unfold doneC; rw [decide_eq_true he, Bool.or_true]
      rw [if_pos he, feedR_done rfl, feed_done hdc, if_pos he]
    · rw [if_neg he]
      by_cases hw : (oneP p.ch c).whole = true
      · have hdc : doneC (oneP p.ch c) = true := by unfold doneC; rw [hw, Bool.true_or]
        rw [if_pos hw, feedR_done rfl, feed_done hdc, if_neg he, if_pos hw]
      · rw [if_neg hw]
        have hdc : doneC (oneP p.ch c) = false := done_of (by cases h : (oneP p.ch c).whole with | false => rfl | true => exact absurd h hw) (by simpa using he)
        by_cases hl : l = []
        · subst hl
          rw [feedR_nil, feed_nil, if_neg he, if_neg hw]
        · have ih := feedR_chunks l { p with came := true, ch := oneP p.ch c, body := (oneP p.ch c).body, phase := 2 } rfl hk hdc hl
          rw [ih]
          rfl
end Go.Proofs.YtgkhelbpccehcaaGreatDoor

/- The code's parser in memory, over a plain one. No program but for the types' numbers. -/
namespace Go.Proofs.YtgkhelbpccehcaaGreatDoor
open Go.RowKit
set_option linter.unusedVariables false
set_option linter.unusedSimpArgs false

/-- An object of a parser's kind: its block, its two rows, the blocks of its head FH and of its reader FC. -/
structure PM (t : TypeId) (cs : Value → Value → Array Value) (g : Nat) (vl vb : Value) (FH FC : List Nat) (w : World) (L B : List UInt8) : Prop where
  row : Row w g t (cs vl vb)
  line : BRow w vl L
  body : BRow w vb B
  apart : ∀ k ∈ vl.ownBlock.toList, k ∉ vb.ownBlock.toList
  hd : ∀ k ∈ FH, k < w.heap.size ∧ k ≠ g ∧ k ∉ vl.ownBlock.toList ∧ k ∉ vb.ownBlock.toList ∧ k ∉ FC
  ck : ∀ k ∈ FC, k < w.heap.size ∧ k ≠ g ∧ k ∉ vl.ownBlock.toList ∧ k ∉ vb.ownBlock.toList
  ty : 5 ≠ t
/-- Its blocks. -/
abbrev pab (g : Nat) (vl vb : Value) (FH FC : List Nat) : List Nat := g :: (vl.ownBlock.toList ++ (vb.ownBlock.toList ++ (FH ++ FC)))
section
variable {t : TypeId} {cs cs' : Value → Value → Array Value} {g : Nat} {vl vb v' : Value} {FH FC F FH' FC' : List Nat} {w w' w4 : World} {L B L' B' : List UInt8}
theorem PM.lt (c : PM t cs g vl vb FH FC w L B) : ∀ k ∈ pab g vl vb FH FC, k < w.heap.size := by
  intro k hk
  simp only [List.mem_cons, List.mem_append] at hk
  rcases hk with rfl | hk | hk | hk | hk
  · exact c.row.lt
  · exact c.line.lt k hk
  · exact c.body.lt k hk
  · exact (c.hd k hk).1
  · exact (c.ck k hk).1
theorem PM.ne_l (c : PM t cs g vl vb FH FC w L B) : ∀ k ∈ vl.ownBlock.toList, k ≠ g := own_ne_row c.line c.row c.ty
theorem PM.ne_b (c : PM t cs g vl vb FH FC w L B) : ∀ k ∈ vb.ownBlock.toList, k ≠ g := own_ne_row c.body c.row c.ty
theorem PM.mods (c : PM t cs g vl vb FH FC w L B) (hm : Mods F w w') (hF : ∀ k ∈ pab g vl vb FH FC, k ∉ F) : PM t cs g vl vb FH FC w' L B :=
  ⟨c.row.mods hm (hF g (by simp)), c.line.mods hm (fun k hk => hF k (by simp [hk])), c.body.mods hm (fun k hk => hF k (by simp [hk])), c.apart,
    fun k hk => ⟨Nat.lt_of_lt_of_le (c.hd k hk).1 hm.size, (c.hd k hk).2⟩, fun k hk => ⟨Nat.lt_of_lt_of_le (c.ck k hk).1 hm.size, (c.ck k hk).2⟩, c.ty⟩
theorem PM.low (c : PM t cs g vl vb FH FC w L B) (hm : Mods [] w w') : PM t cs g vl vb FH FC w' L B := c.mods hm (by simp)
theorem PM.free (c : PM t cs g vl vb FH FC w L B) (i : Nat) : w.frozen? ⟨g, i, none⟩ = false := c.row.free i
/-- A cell that is neither row. -/
theorem PM.set (c : PM t cs g vl vb FH FC w L B) (i : Nat) (u : Value) (he : (cs vl vb).setIfInBounds i u = cs' vl vb) :
    PM t cs' g vl vb FH FC (w.setCell ⟨g, i, none⟩ u) L B := by
  have hm : Mods [g] w (w.setCell ⟨g, i, none⟩ u) := (Mods.refl [g] w).setCell (.inl (by simp)) u
  exact ⟨he ▸ c.row.set i u, c.line.mods hm (fun k hk => by simpa using c.ne_l k hk), c.body.mods hm (fun k hk => by simpa using c.ne_b k hk), c.apart,
    fun k hk => ⟨Nat.lt_of_lt_of_le (c.hd k hk).1 hm.size, (c.hd k hk).2⟩, fun k hk => ⟨Nat.lt_of_lt_of_le (c.ck k hk).1 hm.size, (c.ck k hk).2⟩, c.ty⟩
theorem PM.set_grew (c : PM t cs g vl vb FH FC w L B) (i : Nat) (u : Value) : Grew (pab g vl vb FH FC) (pab g vl vb FH FC) w (w.setCell ⟨g, i, none⟩ u) :=
  ⟨(Mods.refl _ w).setCell (.inl (by simp)) u, fun k hk => .inl hk⟩
/-- What the head's blocks are has turned. -/
theorem PM.newH (c : PM t cs g vl vb FH FC w L B) (hg : Grew FH FH' w w') (hlt : ∀ k ∈ FH', k < w'.heap.size) : PM t cs g vl vb FH' FC w' L B ∧ Grew (pab g vl vb FH FC) (pab g vl vb FH' FC) w w' := by
  have hm := hg.mods
  refine ⟨⟨c.row.mods hm (fun h => (c.hd g h).2.1 rfl), c.line.mods hm (fun k hk h => (c.hd k h).2.2.1 hk), c.body.mods hm (fun k hk h => (c.hd k h).2.2.2.1 hk), c.apart, fun k hk => ⟨hlt k hk, ?_⟩,
    fun k hk => ⟨Nat.lt_of_lt_of_le (c.ck k hk).1 hm.size, (c.ck k hk).2⟩, c.ty⟩, ⟨hm.more (fun k hk => .inl (by simp [hk])), fun k hk => ?_⟩⟩
  · rcases hg.news k hk with h | h
    · exact (c.hd k h).2
    · exact ⟨fun e => by have := c.row.lt; omega, fun e => by have := c.line.lt k e; omega, fun e => by have := c.body.lt k e; omega, fun e => by have := (c.ck k e).1; omega⟩
  · simp only [List.mem_cons, List.mem_append] at hk ⊢
    rcases hk with hk | hk | hk | hk | hk
    · exact .inl (.inl hk)
    · exact .inl (.inr (.inl hk))
    · exact .inl (.inr (.inr (.inl hk)))
    · rcases hg.news k hk with h | h
      · exact .inl (.inr (.inr (.inr (.inl h))))
      · exact .inr h
    · exact .inl (.inr (.inr (.inr (.inr hk))))
/-- What the reader's blocks are has turned. -/
theorem PM.newK (c : PM t cs g vl vb FH FC w L B) (hg : Grew FC FC' w w') (hlt : ∀ k ∈ FC', k < w'.heap.size) : PM t cs g vl vb FH FC' w' L B ∧ Grew (pab g vl vb FH FC) (pab g vl vb FH FC') w w' := by
  have hm := hg.mods
  refine ⟨⟨c.row.mods hm (fun h => (c.ck g h).2.1 rfl), c.line.mods hm (fun k hk h => (c.ck k h).2.2.1 hk), c.body.mods hm (fun k hk h => (c.ck k h).2.2.2 hk), c.apart,
    fun k hk => ⟨Nat.lt_of_lt_of_le (c.hd k hk).1 hm.size, (c.hd k hk).2.1, (c.hd k hk).2.2.1, (c.hd k hk).2.2.2.1, fun e => ?_⟩, fun k hk => ⟨hlt k hk, ?_⟩, c.ty⟩, ⟨hm.more (fun k hk => .inl (by simp [hk])), fun k hk => ?_⟩⟩
  · rcases hg.news k e with h | h
    · exact (c.hd k hk).2.2.2.2 h
    · have := (c.hd k hk).1; omega
  · rcases hg.news k hk with h | h
    · exact (c.ck k h).2
    · exact ⟨fun e => by have := c.row.lt; omega, fun e => by have := c.line.lt k e; omega, fun e => by have := c.body.lt k e; omega⟩
  · simp only [List.mem_cons, List.mem_append] at hk ⊢
    rcases hk with hk | hk | hk | hk | hk
    · exact .inl (.inl hk)
    · exact .inl (.inr (.inl hk))
    · exact .inl (.inr (.inr (.inl hk)))
    · exact .inl (.inr (.inr (.inr (.inl hk))))
    · rcases hg.news k hk with h | h
      · exact .inl (.inr (.inr (.inr (.inr h))))
      · exact .inr h
/-- The head, the reader are no longer held. -/
theorem PM.drop (c : PM t cs g vl vb FH FC w L B) : PM t cs g vl vb [] [] w L B := ⟨c.row, c.line, c.body, c.apart, fun k hk => (nomatch hk), fun k hk => (nomatch hk), c.ty⟩
theorem PM.dropC (c : PM t cs g vl vb FH FC w L B) : PM t cs g vl vb FH [] w L B :=
  ⟨c.row, c.line, c.body, c.apart, fun k hk => ⟨(c.hd k hk).1, (c.hd k hk).2.1, (c.hd k hk).2.2.1, (c.hd k hk).2.2.2.1, fun h => (nomatch h)⟩, fun k hk => (nomatch hk), c.ty⟩
/-- The line's row is another one. -/
theorem PM.putL (c : PM t cs g vl vb FH FC w L B) (h : BRow w4 v' L') (hm : Mods vl.ownBlock.toList w w4) (hn : ∀ k ∈ v'.ownBlock.toList, k ∈ vl.ownBlock.toList ∨ w.heap.size ≤ k) (i : Nat) (he : (cs vl vb).setIfInBounds i v' = cs' v' vb) :
    PM t cs' g v' vb FH FC (w4.setCell ⟨g, i, none⟩ v') L' B ∧ Grew (pab g vl vb FH FC) (pab g v' vb FH FC) w (w4.setCell ⟨g, i, none⟩ v') := by
  have hr := c.row.mods hm (fun hk => c.ne_l g hk rfl)
  have hm2 : Mods [g] w4 (w4.setCell ⟨g, i, none⟩ v') := (Mods.refl [g] w4).setCell (.inl (by simp)) v'
  have hsz : w.heap.size ≤ (w4.setCell ⟨g, i, none⟩ v').heap.size := Nat.le_trans hm.size hm2.size
  refine ⟨⟨he ▸ hr.set i v', h.mods hm2 (fun k hk => by simpa using own_ne_row h hr c.ty k hk), ?_, ?_, fun k hk => ⟨Nat.lt_of_lt_of_le (c.hd k hk).1 hsz, (c.hd k hk).2.1, fun e => ?_, (c.hd k hk).2.2.2⟩, fun k hk => ⟨Nat.lt_of_lt_of_le (c.ck k hk).1 hsz, (c.ck k hk).2.1, fun e => ?_, (c.ck k hk).2.2.2⟩, c.ty⟩, ⟨(hm.more (fun k hk => .inl (by simp [hk]))).setCell (.inl (by simp)) v', ?_⟩⟩
  · exact (c.body.mods hm (fun k hk hk2 => c.apart k hk2 hk)).mods hm2 (fun k hk => by simpa using c.ne_b k hk)
  · intro k hk hb
    rcases hn k hk with h | h
    · exact c.apart k h hb
    · have := c.body.lt k hb; omega
  · rcases hn k e with h | h
    · exact (c.hd k hk).2.2.1 h
    · have := (c.hd k hk).1; omega
  · rcases hn k e with h | h
    · exact (c.ck k hk).2.2.1 h
    · have := (c.ck k hk).1; omega
  · intro k hk
    simp only [List.mem_cons, List.mem_append] at hk ⊢
    rcases hk with hk | hk | hk
    · exact .inl (.inl hk)
    · rcases hn k hk with h | h
      · exact .inl (.inr (.inl h))
      · exact .inr h
    · exact .inl (.inr (.inr hk))
/-- The body's row is another one. -/
theorem PM.putB (c : PM t cs g vl vb FH FC w L B) (h : BRow w4 v' B') (hm : Mods vb.ownBlock.toList w w4) (hn : ∀ k ∈ v'.ownBlock.toList, k ∈ vb.ownBlock.toList ∨ w.heap.size ≤ k) (i : Nat) (he : (cs vl vb).setIfInBounds i v' = cs' vl v') :
    PM t cs' g vl v' FH FC (w4.setCell ⟨g, i, none⟩ v') L B' ∧ Grew (pab g vl vb FH FC) (pab g vl v' FH FC) w (w4.setCell ⟨g, i, none⟩ v') := by
  have hr := c.row.mods hm (fun hk => c.ne_b g hk rfl)
  have hm2 : Mods [g] w4 (w4.setCell ⟨g, i, none⟩ v') := (Mods.refl [g] w4).setCell (.inl (by simp)) v'
  have hsz : w.heap.size ≤ (w4.setCell ⟨g, i, none⟩ v').heap.size := Nat.le_trans hm.size hm2.size
  refine ⟨⟨he ▸ hr.set i v', ?_, h.mods hm2 (fun k hk => by simpa using own_ne_row h hr c.ty k hk), ?_, fun k hk => ⟨Nat.lt_of_lt_of_le (c.hd k hk).1 hsz, (c.hd k hk).2.1, (c.hd k hk).2.2.1, fun e => ?_, (c.hd k hk).2.2.2.2⟩, fun k hk => ⟨Nat.lt_of_lt_of_le (c.ck k hk).1 hsz, (c.ck k hk).2.1, (c.ck k hk).2.2.1, fun e => ?_⟩, c.ty⟩, ⟨(hm.more (fun k hk => .inl (by simp [hk]))).setCell (.inl (by simp)) v', ?_⟩⟩
  · exact (c.line.mods hm (fun k hk hk2 => c.apart k hk hk2)).mods hm2 (fun k hk => by simpa using c.ne_l k hk)
  · intro k hk hb
    rcases hn k hb with h | h
    · exact c.apart k hk h
    · have := c.line.lt k hk; omega
  · rcases hn k e with h | h
    · exact (c.hd k hk).2.2.2.1 h
    · have := (c.hd k hk).1; omega
  · rcases hn k e with h | h
    · exact (c.ck k hk).2.2.2 h
    · have := (c.ck k hk).1; omega
  · intro k hk
    simp only [List.mem_cons, List.mem_append] at hk ⊢
    rcases hk with hk | hk | hk | hk
    · exact .inl (.inl hk)
    · exact .inl (.inr (.inl hk))
    · rcases hn k hk with h | h
      · exact .inl (.inr (.inr (.inl h)))
      · exact .inr h
    · exact .inl (.inr (.inr (.inr hk)))
/-- Another head, of blocks that are new. -/
theorem PM.born (c : PM t cs g vl vb FH FC w L B) (hm : Mods [] w w') (hn : ∀ k ∈ FH', w.heap.size ≤ k ∧ k < w'.heap.size) : PM t cs g vl vb FH' FC w' L B ∧ Grew (pab g vl vb FH FC) (pab g vl vb FH' FC) w w' := by
  have c1 : PM t cs g vl vb [] FC w L B := ⟨c.row, c.line, c.body, c.apart, fun k hk => (nomatch hk), c.ck, c.ty⟩
  obtain ⟨c2, g2⟩ := c1.newH (FH' := FH') ⟨hm, fun k hk => .inr (hn k hk).1⟩ (fun k hk => (hn k hk).2)
  refine ⟨c2, ⟨hm.more (fun k hk => (nomatch hk)), fun k hk => ?_⟩⟩
  rcases g2.news k hk with h | h
  · exact .inl (by simp only [List.mem_cons, List.mem_append] at h ⊢; rcases h with h | h | h | h | h
                   · exact .inl h
                   · exact .inr (.inl h)
                   · exact .inr (.inr (.inl h))
                   · cases h
                   · exact .inr (.inr (.inr (.inr h))))
  · exact .inr h
end
theorem pab_dropC {g : Nat} {vl vb : Value} {FH FC : List Nat} : ∀ k ∈ pab g vl vb FH [], k ∈ pab g vl vb FH FC := by
  intro k hk
  simp only [List.mem_cons, List.mem_append, List.not_mem_nil, or_false] at hk ⊢
  rcases hk with hk | hk | hk | hk
  · exact .inl hk
  · exact .inr (.inl hk)
  · exact .inr (.inr (.inl hk))
  · exact .inr (.inr (.inr (.inl hk)))
theorem Grew.less {F F' F2 : List Nat} {w w' : World} (h : Grew F F' w w') (hs : ∀ k ∈ F2, k ∈ F') : Grew F F2 w w' := ⟨h.mods, fun k hk => h.news k (hs k hk)⟩


/-! The code's. -/
def paCells (ph st : Int) (hv : Value) (cm : Bool) (lf : Int) (cv : Value) (vl vb : Value) : Array Value := #[.int .i64 ph, .int .i64 st, vl, hv, .bool cm, .int .i64 lf, cv, vb]
abbrev PaM (g : Nat) (vl vb hv cv : Value) (FH FC : List Nat) (w : World) (ph st : Int) (L B : List UInt8) (cm : Bool) (lf : Int) : Prop := PM 58 (paCells ph st hv cm lf cv) g vl vb FH FC w L B
theorem PaM.facts {g : Nat} {vl vb hv cv : Value} {FH FC : List Nat} {w : World} {ph st : Int} {L B : List UInt8} {cm : Bool} {lf : Int} (c : PaM g vl vb hv cv FH FC w ph st L B cm lf) :
    w.cell? ⟨g, 0, none⟩ = some (.int .i64 ph) ∧ w.cell? ⟨g, 1, none⟩ = some (.int .i64 st) ∧ w.cell? ⟨g, 2, none⟩ = some vl ∧ w.cell? ⟨g, 3, none⟩ = some hv ∧ w.cell? ⟨g, 4, none⟩ = some (.bool cm) ∧ w.cell? ⟨g, 5, none⟩ = some (.int .i64 lf) ∧ w.cell? ⟨g, 6, none⟩ = some cv ∧ w.cell? ⟨g, 7, none⟩ = some vb :=
  ⟨c.row.cell 0, c.row.cell 1, c.row.cell 2, c.row.cell 3, c.row.cell 4, c.row.cell 5, c.row.cell 6, c.row.cell 7⟩

/-! What stands in it, by where it is. -/
def RelIdle (P : PrP) (L B : List UInt8) (cm : Bool) (cv : Value) (FC : List Nat) : Prop := P.phase = 0 ∧ L = [] ∧ B = [] ∧ cm = false ∧ cv = .pointer none ∧ FC = []
def RelHead (w : World) (P : PrP) (L B : List UInt8) (cm : Bool) (hv cv : Value) (FH FC : List Nat) : Prop := P.phase = 1 ∧ L = P.line ∧ B = [] ∧ cm = false ∧ cv = .pointer none ∧ FC = [] ∧ ∃ hb, hv = ptr hb ∧ HdA FH w hb P.head
def RelLen (w : World) (P : PrP) (B : List UInt8) (cm : Bool) (lf : Int) (hv cv : Value) (FH FC : List Nat) : Prop :=
  P.phase = 2 ∧ P.how.kind = 1 ∧ B = P.body ∧ cm = P.came ∧ lf = P.how.length - (P.body.length : Nat) ∧ cv = .pointer none ∧ FC = [] ∧ ∃ hb, hv = ptr hb ∧ HdA FH w hb P.head
def RelChk (w : World) (P : PrP) (cm : Bool) (hv cv : Value) (FH FC : List Nat) : Prop :=
  P.phase = 2 ∧ P.how.kind = 2 ∧ cm = P.came ∧ (∃ cb, cv = ptr cb ∧ CkA FC w cb P.ch) ∧ ∃ hb, hv = ptr hb ∧ HdA FH w hb P.head
def RelWhole (w : World) (P : PrP) (B : List UInt8) (hv : Value) (FH : List Nat) : Prop := P.phase = 3 ∧ B = P.body ∧ ∃ hb, hv = ptr hb ∧ HdA FH w hb P.head
def RelPa (w : World) (P : PrP) (L B : List UInt8) (cm : Bool) (lf : Int) (hv cv : Value) (FH FC : List Nat) : Prop :=
  RelIdle P L B cm cv FC ∨ RelHead w P L B cm hv cv FH FC ∨ RelLen w P B cm lf hv cv FH FC ∨ RelChk w P cm hv cv FH FC ∨ RelWhole w P B hv FH ∨ P.phase = 4
theorem RelPa.mods {w w' : World} {P : PrP} {L B : List UInt8} {cm : Bool} {lf : Int} {hv cv : Value} {FH FC F : List Nat} (r : RelPa w P L B cm lf hv cv FH FC) (hm : Mods F w w') (h1 : ∀ k ∈ FH, k ∉ F) (h2 : ∀ k ∈ FC, k ∉ F) : RelPa w' P L B cm lf hv cv FH FC := by
  rcases r with r | ⟨a, b, c, d, e, f, hb, h, q⟩ | ⟨a, b, c, d, e, f, f2, hb, h, q⟩ | ⟨a, b, d, ⟨cb, e, e2⟩, hb, h, q⟩ | ⟨a, b, hb, h, q⟩ | r
  · exact .inl r
  · exact .inr (.inl ⟨a, b, c, d, e, f, hb, h, q.mods hm h1⟩)
  · exact .inr (.inr (.inl ⟨a, b, c, d, e, f, f2, hb, h, q.mods hm h1⟩))
  · exact .inr (.inr (.inr (.inl ⟨a, b, d, ⟨cb, e, e2.mods hm h2⟩, hb, h, q.mods hm h1⟩)))
  · exact .inr (.inr (.inr (.inr (.inl ⟨a, b, hb, h, q.mods hm h1⟩))))
  · exact .inr (.inr (.inr (.inr (.inr r))))
/-- The code's parser, as a law holds it: F are its blocks. -/
structure PaA (F : List Nat) (w : World) (g : Nat) (P : PrP) : Prop where
  ex : ∃ vl vb hv cv FH FC L B cm lf, PaM g vl vb hv cv FH FC w P.phase P.status L B cm lf ∧ F = pab g vl vb FH FC ∧ RelPa w P L B cm lf hv cv FH FC
  ok : PrOk P
theorem PaA.mods {F G : List Nat} {w w' : World} {g : Nat} {P : PrP} (a : PaA F w g P) (hm : Mods G w w') (hF : ∀ k ∈ F, k ∉ G) : PaA F w' g P := by
  obtain ⟨vl, vb, hv, cv, FH, FC, L, B, cm, lf, c, rfl, r⟩ := a.ex
  exact ⟨⟨vl, vb, hv, cv, FH, FC, L, B, cm, lf, c.mods hm hF, rfl, r.mods hm (fun k hk => hF k (by simp [hk])) (fun k hk => hF k (by simp [hk]))⟩, a.ok⟩
theorem PaA.low {F : List Nat} {w w' : World} {g : Nat} {P : PrP} (a : PaA F w g P) (hm : Mods [] w w') : PaA F w' g P := a.mods hm (by simp)
theorem PaA.lt {F : List Nat} {w : World} {g : Nat} {P : PrP} (a : PaA F w g P) : ∀ k ∈ F, k < w.heap.size := by
  obtain ⟨vl, vb, hv, cv, FH, FC, L, B, cm, lf, c, rfl, r⟩ := a.ex
  exact c.lt
/-- What a call leaves: the parser, what has turned. -/
def FedP (F : List Nat) (w : World) (g : Nat) (P : PrP) (w' : World) : Prop := ∃ F', PaA F' w' g P ∧ Grew F F' w w'
theorem FedP.low {F : List Nat} {w w' w2 : World} {g : Nat} {P : PrP} (h : FedP F w g P w') (hm : Mods [] w' w2) : FedP F w g P w2 := by
  obtain ⟨F', a, hg⟩ := h
  exact ⟨F', a.low hm, hg.low hm⟩
theorem FedP.trans {F F1 : List Nat} {w w1 w2 : World} {g : Nat} {P : PrP} (h0 : Grew F F1 w w1) (h : FedP F1 w1 g P w2) : FedP F w g P w2 := by
  obtain ⟨F', a, hg⟩ := h
  exact ⟨F', a, h0.trans hg⟩
theorem FedP.refl {F : List Nat} {w : World} {g : Nat} {P : PrP} (h : PaA F w g P) : FedP F w g P w := ⟨F, h, Grew.refl F w⟩
/-- All cells of the parser are stored anew. -/
def setP (w : World) (g : Nat) (ph st : Int) : World :=
  (((((((w.setCell ⟨g, 0, none⟩ (.int .i64 ph)).setCell ⟨g, 1, none⟩ (.int .i64 st)).setCell ⟨g, 2, none⟩ (.slice none 0 0)).setCell ⟨g, 3, none⟩ (.pointer none)).setCell ⟨g, 4, none⟩ (.bool false)).setCell ⟨g, 5, none⟩ (.int .i64 0)).setCell ⟨g, 6, none⟩ (.pointer none)).setCell ⟨g, 7, none⟩ (.slice none 0 0)
theorem Mods.setP {w w' : World} {F : List Nat} {g : Nat} (hm : Mods F w w') (h : g ∈ F ∨ w.heap.size ≤ g) (ph st : Int) : Mods F w (setP w' g ph st) :=
  (((((((hm.setCell h _).setCell h _).setCell h _).setCell h _).setCell h _).setCell h _).setCell h _).setCell h _
theorem Row.setP {w : World} {g : Nat} {a0 a1 a2 a3 a4 a5 a6 a7 : Value} (h : Row w g 58 #[a0, a1, a2, a3, a4, a5, a6, a7]) (ph st : Int) : Row (setP w g ph st) g 58 (paCells ph st (.pointer none) false 0 (.pointer none) (.slice none 0 0) (.slice none 0 0)) := by
  unfold Go.Proofs.YtgkhelbpccehcaaGreatDoor.setP paCells
  have h0 : Row (w.setCell ⟨g, 0, none⟩ (.int .i64 ph)) g 58 #[.int .i64 ph, a1, a2, a3, a4, a5, a6, a7] := h.set 0 _
  generalize w.setCell ⟨g, 0, none⟩ (.int .i64 ph) = w0 at h0 ⊢
  have h1 : Row (w0.setCell ⟨g, 1, none⟩ (.int .i64 st)) g 58 #[.int .i64 ph, .int .i64 st, a2, a3, a4, a5, a6, a7] := h0.set 1 _
  generalize w0.setCell ⟨g, 1, none⟩ (.int .i64 st) = w1 at h1 ⊢
  have h2 : Row (w1.setCell ⟨g, 2, none⟩ (.slice none 0 0)) g 58 #[.int .i64 ph, .int .i64 st, .slice none 0 0, a3, a4, a5, a6, a7] := h1.set 2 _
  generalize w1.setCell ⟨g, 2, none⟩ (.slice none 0 0) = w2 at h2 ⊢
  have h3 : Row (w2.setCell ⟨g, 3, none⟩ (.pointer none)) g 58 #[.int .i64 ph, .int .i64 st, .slice none 0 0, .pointer none, a4, a5, a6, a7] := h2.set 3 _
  generalize w2.setCell ⟨g, 3, none⟩ (.pointer none) = w3 at h3 ⊢
  have h4 : Row (w3.setCell ⟨g, 4, none⟩ (.bool false)) g 58 #[.int .i64 ph, .int .i64 st, .slice none 0 0, .pointer none, .bool false, a5, a6, a7] := h3.set 4 _
  generalize w3.setCell ⟨g, 4, none⟩ (.bool false) = w4 at h4 ⊢
  have h5 : Row (w4.setCell ⟨g, 5, none⟩ (.int .i64 0)) g 58 #[.int .i64 ph, .int .i64 st, .slice none 0 0, .pointer none, .bool false, .int .i64 0, a6, a7] := h4.set 5 _
  generalize w4.setCell ⟨g, 5, none⟩ (.int .i64 0) = w5 at h5 ⊢
  have h6 : Row (w5.setCell ⟨g, 6, none⟩ (.pointer none)) g 58 #[.int .i64 ph, .int .i64 st, .slice none 0 0, .pointer none, .bool false, .int .i64 0, .pointer none, a7] := h5.set 6 _
  generalize w5.setCell ⟨g, 6, none⟩ (.pointer none) = w6 at h6 ⊢
  exact h6.set 7 _
/-- A parser of which nothing is kept. -/
theorem paM_none {w : World} {g : Nat} {ph st : Int} (h : Row w g 58 (paCells ph st (.pointer none) false 0 (.pointer none) (.slice none 0 0) (.slice none 0 0))) : PaM g (.slice none 0 0) (.slice none 0 0) (.pointer none) (.pointer none) [] [] w ph st [] [] false 0 :=
  ⟨h, BRow.nil w, BRow.nil w, fun k hk => (by simp [Value.ownBlock] at hk), fun k hk => (nomatch hk), fun k hk => (nomatch hk), by decide⟩
theorem PaM.clear {g : Nat} {vl vb hv cv : Value} {FH FC : List Nat} {w : World} {ph st : Int} {L B : List UInt8} {cm : Bool} {lf : Int} (c : PaM g vl vb hv cv FH FC w ph st L B cm lf) (ph' st' : Int) :
    PaM g (.slice none 0 0) (.slice none 0 0) (.pointer none) (.pointer none) [] [] (setP w g ph' st') ph' st' [] [] false 0 ∧ Grew (pab g vl vb FH FC) (pab g (.slice none 0 0) (.slice none 0 0) [] []) w (setP w g ph' st') :=
  ⟨paM_none (Row.setP c.row ph' st'), ⟨Mods.setP (Mods.refl _ w) (.inl (by simp)) ph' st', fun k hk => .inl (by simp [Value.ownBlock] at hk; rw [hk]; simp)⟩⟩
theorem pa_mk {w : World} {g : Nat} {P : PrP} {vl vb hv cv : Value} {FH FC : List Nat} {ph st : Int} {L B : List UInt8} {cm : Bool} {lf : Int} (o : PrOk P) (h1 : (P.phase : Int) = ph) (h2 : P.status = st) (c : PaM g vl vb hv cv FH FC w ph st L B cm lf) (r : RelPa w P L B cm lf hv cv FH FC) : PaA (pab g vl vb FH FC) w g P := by
  subst h1 h2
  exact ⟨⟨_, _, _, _, _, _, _, _, _, _, c, rfl, r⟩, o⟩
theorem pa_bad {w : World} {g : Nat} {P : PrP} {st : Int} (o : PrOk P) (hs : P.phase = 4) (c : PaM g (.slice none 0 0) (.slice none 0 0) (.pointer none) (.pointer none) [] [] w 4 P.status [] [] false 0) : PaA (pab g (.slice none 0 0) (.slice none 0 0) [] []) w g P :=
  ⟨⟨_, _, _, _, _, _, _, _, _, _, (by rw [hs]; exact c), rfl, .inr (.inr (.inr (.inr (.inr hs))))⟩, o⟩
theorem pa_new (w : World) : PaA (pab w.heap.size (.slice none 0 0) (.slice none 0 0) [] []) (w.alloc (.cells (paCells 0 0 (.pointer none) false 0 (.pointer none) (.slice none 0 0) (.slice none 0 0)) 58)) w.heap.size newR :=
  ⟨⟨_, _, _, _, _, _, _, _, _, _, paM_none (Row.new _ _ _), rfl, .inl ⟨rfl, rfl, rfl, rfl, rfl, rfl⟩⟩, newR_ok⟩
end Go.Proofs.YtgkhelbpccehcaaGreatDoor

/- The code's parser: refuse and the end of a head. Conditions: none. -/
namespace Go.Proofs.YtgkhelbpccehcaaGreatDoor
open Go.RowKit
set_option linter.unusedVariables false
set_option linter.unusedSimpArgs false

set_option maxRecDepth 10000 in
theorem refuse_p {g : Nat} {vl vb hv cv : Value} {FH FC : List Nat} {w : World} {ph st : Int} {L B : List UInt8} {cm : Bool} {lf : Int} (c : PaM g vl vb hv cv FH FC w ph st L B cm lf) (n : Int) :
    Calls Tryz.prog 52 #[ptr g, .int .i64 n] w fun z w' => z = .returned (.tuple #[]) ∧ w' = setP w g 4 n := by
  obtain ⟨c0, c1, c2, c3, c4, c5, c6, c7⟩ := c.facts
  have f0 := c.free 0
  have f1 := c.free 1
  have f2 := c.free 2
  have f3 := c.free 3
  have f4 := c.free 4
  have f5 := c.free 5
  have f6 := c.free 6
  have f7 := c.free 7
  clear c
  unfold ptr
  go_enter Tryz.func52, Tryz.ntmps52
  go_wp2
  go_end0
  exact ⟨rfl, rfl⟩
/-- The head is whole: what stands in the parser. -/
theorem beg_3 {P : PrP} {h : HdP} (hc : h.how.kind = 0 ∨ (h.how.kind = 1 ∧ h.how.length = 0)) : (begR P h).phase = 3 := by show (if _ then 3 else 2) = 3; rw [if_pos hc]
theorem beg_2 {P : PrP} {h : HdP} (hc : ¬ (h.how.kind = 0 ∨ (h.how.kind = 1 ∧ h.how.length = 0))) : (begR P h).phase = 2 := by show (if _ then 3 else 2) = 2; rw [if_neg hc]
set_option maxRecDepth 10000 in
set_option maxHeartbeats 1000000 in
theorem endhead_p {P : PrP} {g hb : Nat} {vl vb : Value} {FH : List Nat} {w : World} {h : HdP} {lf : Int} (o : PrOk P) (h1 : P.phase = 1) (c : PaM g vl vb (ptr hb) (.pointer none) FH [] w 1 0 [] [] false lf) (a : HdA FH w hb h) (hw : HowOk h.how) :
    Calls Tryz.prog 62 #[ptr g] w fun z w' => z = .returned (.tuple #[]) ∧ Hid (FedP (pab g vl vb FH []) w g (begR P h) w') := by
  have hst : P.status = 0 := o.st (by omega)
  have OB := Lib.hid (o.beg a.ok hw hst)
  have OW := Lib.hid hw
  have HH := Lib.hid (how_a a)
  have HC := Lib.hid c
  have HA := Lib.hid a
  have HST := Lib.hid hst
  obtain ⟨c0, c1, c2, c3, c4, c5, c6, c7⟩ := c.facts
  have f0 := c.free 0
  have hglt := c.row.lt
  unfold ptr howV at *
  obtain ⟨q, hq⟩ : ∃ q, q = h.how := ⟨_, rfl⟩
  rw [← hq] at HH hw
  have HQ := Lib.hid hq
  clear hq c a o h1 hst
  obtain ⟨kd, ln, cl, xp⟩ := q
  simp only [HowOk] at hw HH
  have hcase : (kd = 2 ∧ ln = 0) ∨ (¬ kd = 2 ∧ 0 < ln ∧ kd = 1) ∨ (¬ kd = 2 ∧ ¬ 0 < ln ∧ (kd = 0 ∨ (kd = 1 ∧ ln = 0))) := by omega
  have h63 : ln ≤ 2048 ∧ 0 ≤ ln := by omega
  clear hw
  have HN := Lib.hid (fun W => new_c W)
  rcases hcase with ⟨rfl, rfl⟩ | ⟨n2, n1, rfl⟩ | ⟨n2, n1, n0⟩
  · go_enter Tryz.func62, Tryz.ntmps62
    go_wp2_with (first
      | (go_at_call 29; refine HH.out.mono ?_; rintro z w1 ⟨rfl, hm⟩; have M1 := Lib.hid hm; clear hm)
      | (go_at_call 84; refine (HN.out _).mono ?_; rintro z w2 ⟨cg, FC', rfl, hk⟩; have HK := Lib.hid hk.out; have M2 := Lib.hid (show Mods [] w w2 from (M1.out.alloc _).trans hk.out.2.1 (fun _ h => nomatch h)); have k2 := PM.low HC.out M2.out; have e0 := k2.row.cell 0; have e6 := k2.row.cell 6; have g0 := k2.row.free 0; have g6 := k2.row.free 6; simp only [paCells, List.getElem?_toArray, List.getElem?_cons_zero, List.getElem?_cons_succ] at e0 e6; have K2 := Lib.hid k2; unfold ptr; clear hk k2))
    go_end0
    refine ⟨rfl, Lib.hid ?_⟩
    have hlt : w.heap.size ≤ w1.heap.size + 1 := by have := M1.out.size; omega
    have k3 := PM.set (cs' := paCells 2 0 (ptr hb) false lf (.pointer none)) K2.out 0 (.int .i64 2) rfl
    have k4 := PM.set (cs' := paCells 2 0 (ptr hb) false lf (ptr cg)) k3 6 (ptr cg) rfl
    have m5 : Mods [g] w2 ((w2.setCell ⟨g, 0, none⟩ (.int .i64 2)).setCell ⟨g, 6, none⟩ (ptr cg)) := ((Mods.refl [g] w2).setCell (.inl (by simp)) _).setCell (.inl (by simp)) _
    generalize hW : (w2.setCell ⟨g, 0, none⟩ (.int .i64 2)).setCell ⟨g, 6, none⟩ (ptr cg) = W at k4 m5
    have hckn : ∀ k ∈ FC', w.heap.size ≤ k := fun k hk => by
      have h1 := HK.out.2.2 k hk
      rw [World.size_alloc] at h1
      omega
    have hck : CkA FC' W cg newC := HK.out.1.mods m5 (fun k hk e => by
      rw [List.mem_singleton] at e
      have := hckn k hk
      omega)
    have k5 : PaM g vl vb (ptr hb) (ptr cg) FH FC' W 2 0 [] [] false lf :=
      ⟨k4.row, k4.line, k4.body, k4.apart, fun k hk => ⟨(k4.hd k hk).1, (k4.hd k hk).2.1, (k4.hd k hk).2.2.1, (k4.hd k hk).2.2.2.1, fun e => by have h1 := hckn k e; have h2 := (HC.out.hd k hk).1; omega⟩,
        fun k hk => ⟨hck.lt k hk, fun e => by have h1 := hckn k hk; omega, fun e => by have h1 := hckn k hk; have h2 := HC.out.line.lt k e; omega, fun e => by have h1 := hckn k hk; have h2 := HC.out.body.lt k e; omega⟩, k4.ty⟩
    have hm : Mods (pab g vl vb FH []) w W := (M2.out.more (fun _ h => nomatch h)).trans (m5.more (fun k hk => .inl hk)) (fun k hk => .inl (by rw [List.mem_singleton] at hk; rw [hk]; simp))
    have hp := beg_2 (P := P) (h := h) (by rw [← HQ.out]; show ¬ ((2 : Int) = 0 ∨ ((2 : Int) = 1 ∧ _)); omega)
    have a9 : HdA FH W hb h := (HA.out.low M2.out).mods m5 (fun k hk => by simpa using (HC.out.hd k hk).2.1)
    refine ⟨_, pa_mk OB.out (ph := 2) (st := 0) (by rw [hp]; rfl) HST.out k5 (.inr (.inr (.inr (.inl ⟨hp, (by show h.how.kind = 2; rw [← HQ.out]), rfl, ⟨cg, rfl, hck⟩, hb, rfl, a9⟩)))), ⟨hm, fun k hk => ?_⟩⟩
    simp only [List.mem_cons, List.mem_append] at hk ⊢
    rcases hk with hk | hk | hk | hk | hk
    · exact .inl (.inl hk)
    · exact .inl (.inr (.inl hk))
    · exact .inl (.inr (.inr (.inl hk)))
    · exact .inl (.inr (.inr (.inr (.inl hk))))
    · exact .inr (hckn k hk)
  · go_enter Tryz.func62, Tryz.ntmps62
    go_upto_region 5 with (go_at_call 29; refine HH.out.mono ?_; rintro z w1 ⟨rfl, hm⟩; have M1 := Lib.hid hm; have HR1 := Lib.hid (Row.new w1 65 #[.int .i64 1, .int .i64 ln, .bool cl, .bool xp]); clear hm)
    have m2 : Mods [] w (w1.alloc (.cells #[.int .i64 1, .int .i64 ln, .bool cl, .bool xp] 65)) := M1.out.alloc _
    have hlt := M1.out.size
    obtain ⟨b, hb2⟩ : ∃ b, b = w1.heap.size := ⟨_, rfl⟩
    obtain ⟨W2, hW2⟩ : ∃ W2, W2 = w1.alloc (.cells #[.int .i64 1, .int .i64 ln, .bool cl, .bool xp] 65) := ⟨_, rfl⟩
    have r2 : Row W2 b 65 #[.int .i64 1, .int .i64 ln, .bool cl, .bool xp] := by rw [hW2, hb2]; exact HR1.out
    rw [← hW2] at m2 ⊢
    rw [← hb2] at hlt ⊢
    have k2 := PM.low HC.out m2
    have e0 := k2.row.cell 0
    have e5 := k2.row.cell 5
    have g0 := k2.row.free 0
    have g5 := k2.row.free 5
    have b1 := r2.cell 1
    simp only [paCells, List.getElem?_toArray, List.getElem?_cons_zero, List.getElem?_cons_succ] at e0 e5 b1
    have nb1 : ¬ b = g := by omega
    have nb2 : ¬ g = b := by omega
    have K2 := Lib.hid k2
    have M2 := Lib.hid m2
    clear hW2 hb2 k2 m2 r2 hlt HR1
    go_region
    all_goals
      go_wp2
      go_end0
      refine ⟨rfl, Lib.hid ?_⟩
      have k3 := PM.set (cs' := paCells 2 0 (ptr hb) false lf (.pointer none)) K2.out 0 (.int .i64 2) rfl
      have k4 := PM.set (cs' := paCells 2 0 (ptr hb) false ln (.pointer none)) k3 5 (.int .i64 ln) rfl
      have hg := (Grew.of_low M2.out).trans ((PM.set_grew K2.out 0 (.int .i64 2)).trans (PM.set_grew k3 5 (.int .i64 ln)))
      have m5 : Mods [g] W2 ((W2.setCell ⟨g, 0, none⟩ (.int .i64 2)).setCell ⟨g, 5, none⟩ (.int .i64 ln)) := ((Mods.refl [g] W2).setCell (.inl (by simp)) _).setCell (.inl (by simp)) _
      have hp := beg_2 (P := P) (h := h) (by rw [← HQ.out]; show ¬ ((1 : Int) = 0 ∨ ((1 : Int) = 1 ∧ ln = 0)); omega)
      have a9 := (HA.out.low M2.out).mods m5 (fun k hk => by simpa using (HC.out.hd k hk).2.1)
      have r9 := FedP.low (F := pab g vl vb FH []) (w := w) (w2 := ((W2.setCell ⟨g, 0, none⟩ (.int .i64 2)).setCell ⟨g, 5, none⟩ (.int .i64 ln)).drew) ⟨_, pa_mk OB.out (ph := 2) (st := 0) (by rw [hp]; rfl) HST.out k4 (.inr (.inr (.inl ⟨hp, (by show h.how.kind = 1; rw [← HQ.out]), rfl, rfl, (by show ln = h.how.length - ((0 : Nat) : Int); rw [← HQ.out]; simp), rfl, rfl, hb, rfl, a9⟩))), hg⟩ (Mods.refl [] _).drew
      exact r9
  · go_enter Tryz.func62, Tryz.ntmps62
    go_wp2_with (go_at_call 29; refine HH.out.mono ?_; rintro z w1 ⟨rfl, hm⟩; have M1 := Lib.hid hm; have k0 := fun o => cell_alloc (cell_mods c0 hm (by simp)) o; have g0 := fun o => (PM.low (PM.low HC.out M1.out) ((Mods.refl [] w1).alloc o)).row.free 0; clear hm)
    go_end0
    refine ⟨rfl, Lib.hid ?_⟩
    have m2 := M1.out.alloc (.cells #[.int .i64 kd, .int .i64 ln, .bool cl, .bool xp] 65)
    generalize w1.alloc (.cells #[.int .i64 kd, .int .i64 ln, .bool cl, .bool xp] 65) = W2 at m2 ⊢
    have k2 := PM.low HC.out m2
    have k3 := PM.set (cs' := paCells 3 0 (ptr hb) false lf (.pointer none)) k2 0 (.int .i64 3) rfl
    have hp := beg_3 (P := P) (h := h) (by rw [← HQ.out]; exact n0)
    have m3 : Mods [g] W2 (W2.setCell ⟨g, 0, none⟩ (.int .i64 3)) := (Mods.refl [g] W2).setCell (.inl (by simp)) _
    have a9 : HdA FH (W2.setCell ⟨g, 0, none⟩ (.int .i64 3)) hb h := (HA.out.low m2).mods m3 (fun k hk => by simpa using (HC.out.hd k hk).2.1)
    exact ⟨_, pa_mk OB.out (ph := 3) (st := 0) (by rw [hp]; rfl) HST.out k3 (.inr (.inr (.inr (.inr (.inl ⟨hp, rfl, hb, rfl, a9⟩))))), (Grew.of_low m2).trans (PM.set_grew k2 0 _)⟩
end Go.Proofs.YtgkhelbpccehcaaGreatDoor

/- The code's parser: a byte of a head. Conditions: none. -/
namespace Go.Proofs.YtgkhelbpccehcaaGreatDoor
open Go.RowKit
set_option linter.unusedVariables false
set_option linter.unusedSimpArgs false

theorem lend_bad {P : PrP} (h : crE P.line = false) : lendR P = badR P 400 := by unfold lendR; rw [if_neg (by unfold crE at h; exact of_decide_eq_false h)]
theorem lend_ok {P : PrP} {M : List UInt8} (h : P.line = M ++ [13]) : lendR P = (if (lineP P.head (ofL M)).status ≠ 0 then badR { P with line := [], head := lineP P.head (ofL M) } (lineP P.head (ofL M)).status
     else if (lineP P.head (ofL M)).whole = true then begR P (lineP P.head (ofL M)) else { P with line := [], head := lineP P.head (ofL M) }) := by
  unfold lendR; rw [h, if_pos (by simp), List.dropLast_concat]
theorem cr_split15 {L : List UInt8} (h : crE L = true) : ∃ M, L = M ++ [13] ∧ cntT L = M.length := by
  unfold crE at h
  have h2 := of_decide_eq_true h
  obtain ⟨M, c, rfl⟩ : ∃ M c, L = M ++ [c] := ⟨L.dropLast, L.getLast (by intro e; subst e; cases h2), (List.dropLast_concat_getLast _).symm⟩
  rw [List.getLast?_concat] at h2
  injection h2 with e
  subst e
  exact ⟨M, rfl, by unfold cntT; rw [if_pos List.getLast?_concat]; simp⟩
/-- What a line leaves of the parser. -/
theorem pa_lined {g hb : Nat} {vl vb : Value} {FH : List Nat} {w w' : World} {L : List UInt8} {lf : Int} {h' : HdP} (c : PaM g vl vb (ptr hb) (.pointer none) FH [] w 1 0 L [] false lf) (l : Lined FH w hb h' w') :
    ∃ FH', HdA FH' w' hb h' ∧ PaM g vl vb (ptr hb) (.pointer none) FH' [] w' 1 0 L [] false lf ∧ Grew (pab g vl vb FH []) (pab g vl vb FH' []) w w' := by
  obtain ⟨F', a, hm, hn⟩ := l
  obtain ⟨k1, k2⟩ := PM.newH c ⟨hm, hn⟩ a.lt
  exact ⟨F', a, k1, k2⟩
theorem Lined.since15 {F : List Nat} {w0 w w' : World} {hb : Nat} {h' : HdP} (hm : Mods [] w0 w) (l : Lined F w hb h' w') : Lined F w0 hb h' w' := by
  obtain ⟨F', a, h1, h2⟩ := l
  exact ⟨F', a, (hm.more (fun _ h => nomatch h)).trans h1 (fun k hk => .inl hk), fun k hk => (h2 k hk).imp id (fun h => Nat.le_trans hm.size h)⟩
theorem pa_refused {P : PrP} {g : Nat} {vl vb hv cv : Value} {FH FC : List Nat} {w w' : World} {ph st : Int} {L B : List UInt8} {cm : Bool} {lf : Int} {n : Int} (c : PaM g vl vb hv cv FH FC w ph st L B cm lf) (o : PrOk (badR P n)) (hw : w' = setP w g 4 n) : FedP (pab g vl vb FH FC) w g (badR P n) w' := by
  subst hw
  obtain ⟨k1, k2⟩ := PaM.clear c 4 n
  exact ⟨_, pa_bad (st := n) o rfl k1, k2⟩
set_option maxRecDepth 10000 in
set_option maxHeartbeats 1000000 in
theorem endline_p {P : PrP} {g hb : Nat} {vl vb : Value} {FH : List Nat} {w : World} {lf : Int} (o : PrOk P) (h1 : P.phase = 1) (c : PaM g vl vb (ptr hb) (.pointer none) FH [] w 1 0 P.line [] false lf) (a : HdA FH w hb P.head) :
    Calls Tryz.prog 49 #[ptr g] w fun z w' => z = .returned (.tuple #[]) ∧ Hid (FedP (pab g vl vb FH []) w g (lendR P) w') := by
  have OL := Lib.hid (show PrOk (lendR P) by have := o.headR h1 10; unfold headR at this; rw [if_pos rfl] at this; exact this)
  have OP := Lib.hid o
  obtain ⟨hwh, hhs, hlen⟩ := o.live h1
  have H1 := Lib.hid h1
  obtain ⟨A, cp, rfl, hcp, -⟩ := c.line.form
  have m0 : Mods [] w (w.alloc (.cells #[.int .u8 13] 5 (1, 2))) := (Mods.refl [] w).alloc _
  have HT := Lib.hid (cutsuf P.line A cp w.heap.size _ (c.line.at.low m0) (by omega) (cr_at w))
  have hcv := conv_cr w
  have c2 : w.cell? ⟨g, 2, none⟩ = some (.slice A P.line.length cp) := c.row.cell 2
  have k1 := PM.low c m0
  have a1 := a.low m0
  have M0 := Lib.hid m0
  obtain ⟨W, hW⟩ : ∃ W, W = w.alloc (.cells #[.int .u8 13] 5 (1, 2)) := ⟨_, rfl⟩
  rw [← hW] at HT M0 k1 hcv a1
  have d2 : W.cell? ⟨g, 2, none⟩ = some (.slice A P.line.length cp) := k1.row.cell 2
  have f2 := k1.row.free 2
  unfold ptr
  cases hcr : crE P.line with
  | false =>
    rw [hcr] at HT
    have HE := Lib.hid (lend_bad hcr)
    have K1 := Lib.hid k1
    have HRF := Lib.hid (refuse_p k1 400)
    generalize cntT P.line = nt at *
    obtain ⟨nl, hnl⟩ : ∃ nl, nl = P.line.length := ⟨_, rfl⟩
    rw [← hnl] at HT c2 d2 hcp hlen
    unfold ptr at HRF
    clear hcr c a k1 a1 m0 o h1 hwh hhs hW hnl
    go_enter Tryz.func49, Tryz.ntmps49
    go_wp2_with (first
      | (go_at_call 61; refine HT.out.mono ?_; rintro z w1 ⟨rfl, rfl⟩)
      | (go_at_call 52; refine HRF.out.mono ?_; rintro z w2 ⟨rfl, hk⟩; have HK := Lib.hid hk; clear hk))
    refine bodyPost_ret (results_none rfl _ _ _) rfl ?_
    refine ⟨rfl, Lib.hid ?_⟩
    rw [HE.out]
    exact FedP.trans (Grew.of_low M0.out) (pa_refused K1.out (by rw [← HE.out]; exact OL.out) HK.out)
  | true =>
    rw [hcr] at HT
    obtain ⟨M, hM, hcm⟩ := cr_split15 hcr
    rw [hcm] at HT
    have hput := PM.putL (cs' := paCells 1 0 (ptr hb) false lf (.pointer none)) (v' := .slice A 0 cp) (L' := []) k1 k1.line.cut0 (Mods.refl _ W) (fun k hk => .inl (by rw [cut0_block A 0 cp P.line.length cp] at hk; exact hk)) 2 rfl
    have hng : ∀ k ∈ (Value.slice A P.line.length cp).ownBlock.toList, k ≠ g := PM.ne_l k1
    have hnh : ∀ k ∈ FH, k ≠ g := fun k hk => (k1.hd k hk).2.1
    have hbs := k1.line.at
    obtain ⟨Wb, hWb⟩ : ∃ Wb, Wb = W.setCell ⟨g, 2, none⟩ (.slice A 0 cp) := ⟨_, rfl⟩
    have mb : Mods [g] W Wb := by rw [hWb]; exact (Mods.refl [g] W).setCell (.inl (by simp)) _
    rw [← hWb] at hput
    have hbs2 : BsAt Wb (.slice A P.line.length cp) P.line := hbs.mods mb (fun k hk => by simpa using hng k hk)
    have a2 : HdA FH Wb hb P.head := a1.mods mb (fun k hk => by simpa using hnh k hk)
    have hmn : M.length + 1 = P.line.length := by rw [hM]; simp
    have BM : BsAt Wb (.slice A M.length cp) M := by
      have := hbs2.to M.length (by omega)
      rw [hM] at this
      simpa using this
    have hconv : ∀ W', Mods [] Wb W' → (convert 22 9 (.slice A M.length cp)).run Tryz.prog W' = .ok (.string (ofL M)) W' := fun W' hm => (BM.low hm).text
    have cv0 := hconv _ (Mods.refl [] Wb)
    have cv1 := hconv _ (Mods.refl [] Wb).drew
    have e3 : Wb.cell? ⟨g, 3, none⟩ = some (ptr hb) := hput.1.row.cell 3
    have BMH := Lib.hid BM
    have HGN := Lib.hid (And.intro (show g ∉ FH from fun h => (hput.1.hd g h).2.1 rfl) (show ∀ k ∈ (Value.slice A M.length cp).ownBlock.toList, k ∉ FH from fun k hk h => (hput.1.hd k h).2.2.1 (by rw [cut0_block A 0 cp M.length cp]; exact hk)))
    have KB := Lib.hid hput.1
    have GB1 := Lib.hid ((Grew.of_low M0.out).trans hput.2)
    have HLN := Lib.hid (fun W' (hm : Mods [] Wb W') => line_a (ofL M) (by rw [ofL_size]; omega) (a2.low hm))
    have HE := Lib.hid (lend_ok hM)
    have HW := Lib.hid (And.intro hwh hhs)
    have HNL := Lib.hid hmn
    obtain ⟨s, hs⟩ : ∃ s, s = ofL M := ⟨_, rfl⟩
    rw [← hs] at HLN HE cv0 cv1
    have HSM := Lib.hid hs
    obtain ⟨h', hh'⟩ : ∃ h', h' = lineP P.head s := ⟨_, rfl⟩
    rw [← hh'] at HLN HE
    have HLW := Lib.hid (fun (h : h'.whole = true) => show HowOk h'.how by rw [hh'] at h ⊢; exact line_whole hwh hhs h)
    obtain ⟨nl, hnl⟩ : ∃ nl, nl = P.line.length := ⟨_, rfl⟩
    rw [← hnl] at HT c2 d2 hcp hlen hmn
    unfold ptr at e3 HLN
    have hml : M.length ≤ 256 := by omega
    clear hcr c a k1 a1 a2 m0 o h1 hwh hhs hW hnl hput hng hnh hbs hbs2 mb BM hconv hM hcm hs hh'
    generalize M.length = ml at *
    obtain ⟨bw, hbw⟩ : ∃ bw, bw = h'.whole := ⟨_, rfl⟩
    obtain ⟨st, hst⟩ : ∃ st, st = h'.status := ⟨_, rfl⟩
    have HBW := Lib.hid hbw
    have HST := Lib.hid hst
    rw [← hbw, ← hst] at HLN
    have hcase : (st != 0) = true ∨ ((st != 0) = false ∧ bw = true) ∨ ((st != 0) = false ∧ bw = false) := by
      cases bw <;> cases (st != 0) <;> simp
    clear hbw hst
    rcases hcase with h0 | ⟨h0, rfl⟩ | ⟨h0, rfl⟩
    all_goals
      go_enter Tryz.func49, Tryz.ntmps49
      go_upto_region 3 with (go_at_call 61; refine HT.out.mono ?_; rintro z w1 ⟨rfl, rfl⟩)
      clear hcv c2
      go_upto_region 4 with fail
      rw [← hWb]
      clear hWb d2 f2
      go_region_held3 (fun w' => w'.cell? ⟨g, 3, none⟩ = some (.pointer (some ⟨hb, 0, none⟩)) ∧ (convert 22 9 (.slice A ml cp)).run Tryz.prog w' = .ok (.string s) w') (go_keep) (first
        | (go_at_call 51; refine (HLN.out _ (by first | exact (Mods.refl [] Wb).drew | exact Mods.refl [] Wb)).mono ?_; rintro z z3 ⟨rfl, hk⟩; have HK := Lib.hid (show Lined FH Wb hb h' z3 from by first | exact hk.out | exact Lined.since15 (Mods.refl [] Wb).drew hk.out); clear hk; have q3 := HK.out; obtain ⟨F3, -, m3, -⟩ := q3; have d3 := cell_mods e3 m3 HGN.out.1; have cv3 := (BMH.out.mods m3 HGN.out.2).text; rw [← HSM.out] at cv3; clear m3))
      clear cv0 cv1 e3 d3 cv3
      obtain ⟨FH', a3, k3, g3⟩ := pa_lined KB.out HK.out
      have A3 := Lib.hid a3
      have K3 := Lib.hid k3
      have G3 := Lib.hid (GB1.out.trans g3)
      clear a3 k3 g3
    · have HRF := Lib.hid (refuse_p K3.out st)
      unfold ptr at HRF
      go_wp2_with (go_at_call 52; refine HRF.out.mono ?_; rintro z w5 ⟨rfl, hk⟩; have HK5 := Lib.hid hk; clear hk)
      go_end0
      refine ⟨rfl, Lib.hid ?_⟩
      have hE := HE.out
      rw [if_pos (show h'.status ≠ 0 by rw [← HST.out]; simpa using h0)] at hE
      rw [hE]
      exact FedP.trans G3.out (pa_refused K3.out (by rw [← hE]; exact OL.out) (by rw [← HST.out]; exact HK5.out))
    · have HEH := Lib.hid (endhead_p OP.out H1.out K3.out A3.out (HLW.out HBW.out.symm))
      unfold ptr at HEH
      go_wp2_with (go_at_call 62; refine HEH.out.mono ?_; rintro z w5 ⟨rfl, hk⟩; have HK5 := Lib.hid hk.out; clear hk)
      go_end0
      refine ⟨rfl, Lib.hid ?_⟩
      have hE := HE.out
      rw [if_neg (show ¬ h'.status ≠ 0 by rw [← HST.out]; simpa using h0), if_pos HBW.out.symm] at hE
      rw [hE]
      exact FedP.trans G3.out HK5.out
    · go_wp2
      go_end0
      refine ⟨rfl, Lib.hid ?_⟩
      have hE := HE.out
      rw [if_neg (show ¬ h'.status ≠ 0 by rw [← HST.out]; simpa using h0), if_neg (show ¬ h'.whole = true by rw [← HBW.out]; simp)] at hE
      have o9 := OL.out
      rw [hE] at o9 ⊢
      have h1 := H1.out
      exact FedP.trans G3.out (FedP.refl (pa_mk o9 (ph := 1) (st := 0) (by show ((P.phase : Nat) : Int) = 1; rw [h1]; rfl) (OP.out.st (by omega)) K3.out (.inr (.inl ⟨h1, rfl, rfl, rfl, rfl, rfl, hb, rfl, A3.out⟩))))
theorem lgrow_ok {P : PrP} {x : UInt8} (h : ¬ 256 < cntL P.line x) : lgrowR P x = { P with line := P.line ++ [x] } := by unfold lgrowR; rw [if_neg h]
theorem lgrow_bad {P : PrP} {x : UInt8} (h : 256 < cntL P.line x) : lgrowR P x = badR { P with line := P.line ++ [x] } (longS P.head) := by unfold lgrowR; rw [if_pos h]
theorem headR_10 (P : PrP) : headR P 10 = lendR P := by unfold headR; rw [if_pos rfl]
theorem headR_no (P : PrP) {x : UInt8} (h : x ≠ 10) : headR P x = lgrowR P x := by unfold headR; rw [if_neg h]
set_option maxRecDepth 10000 in
set_option maxHeartbeats 2000000 in
theorem takehead_1 {P : PrP} {g hb : Nat} {vl vb : Value} {FH : List Nat} {w : World} {lf : Int} (o : PrOk P) (h1 : P.phase = 1) (c : PaM g vl vb (ptr hb) (.pointer none) FH [] w 1 0 P.line [] false lf) (a : HdA FH w hb P.head) (x : UInt8) :
    Calls Tryz.prog 42 #[ptr g, .int .u8 (x.toNat : Int)] w fun z w' => z = .returned (.tuple #[]) ∧ Hid (FedP (pab g vl vb FH []) w g (headR P x) w') := by
  have O1 := Lib.hid o
  have H1 := Lib.hid h1
  have K1 := Lib.hid c
  have A1 := Lib.hid a
  have G1 := Lib.hid (Grew.refl (pab g vl vb FH []) w)
  have c0 : w.cell? ⟨g, 0, none⟩ = some (.int .i64 1) := c.row.cell 0
  have c2 : w.cell? ⟨g, 2, none⟩ = some vl := c.row.cell 2
  clear o h1 c a
  unfold ptr
  rcases is14 x 10 10 rfl (by decide) with ⟨ex, hx, -⟩ | ⟨ex, hx, -⟩
  · have HEL := Lib.hid (endline_p O1.out H1.out K1.out A1.out)
    unfold ptr at HEL
    go_enter Tryz.func42, Tryz.ntmps42
    go_wp2_with (go_at_call 49; refine HEL.out.mono ?_; rintro z w5 ⟨rfl, hk⟩; have HK5 := Lib.hid hk.out; clear hk)
    refine bodyPost_ret (results_none rfl _ _ _) rfl ?_
    refine ⟨rfl, Lib.hid ?_⟩
    rw [show headR P x = lendR P by rw [ex]; exact headR_10 _]
    exact FedP.trans G1.out HK5.out
  · have HX := Lib.hid (show x ≠ 10 from ex)
    have OX := Lib.hid (show PrOk (lgrowR P x) by rw [← headR_no _ HX.out]; exact O1.out.headR H1.out x)
    obtain ⟨hwh, hhs, hlen⟩ := O1.out.live H1.out
    have HWH := Lib.hid (And.intro hwh hhs)
    obtain ⟨A, cp, rfl, -, -⟩ := K1.out.line.form
    obtain ⟨b, c', w4, hrun, hrow, hm, hb4⟩ := app_row K1.out.line (by omega) x
    have hput := PM.putL (cs' := paCells 1 0 (ptr hb) false lf (.pointer none)) K1.out hrow hm (fun k hk => by
      have hkb : k = b := by simpa [Value.ownBlock, eq_comm] using hk
      subst hkb
      rcases hb4 with h | h
      · exact .inl (by rw [← h]; simp)
      · exact .inr h) 2 rfl
    have r4 := K1.out.row.mods hm (fun hk => K1.out.ne_l g hk rfl)
    have e2 : w4.cell? ⟨g, 2, none⟩ = some (.slice A P.line.length cp) := r4.cell 2
    have g2 := r4.free 2
    obtain ⟨W5, hW5⟩ : ∃ W5, W5 = w4.setCell ⟨g, 2, none⟩ (.slice (some ⟨b, 0, none⟩) (P.line.length + 1) c') := ⟨_, rfl⟩
    rw [← hW5] at hput
    have m5 : Mods (g :: (Value.ownBlock (.slice A P.line.length cp)).toList) w W5 := by rw [hW5]; exact (hm.more (fun k hk => .inl (by simp [hk]))).setCell (.inl (by simp)) _
    have K5 := Lib.hid hput.1
    have G5 := Lib.hid (G1.out.trans hput.2)
    have A5 := Lib.hid (show HdA FH W5 hb P.head from A1.out.mods m5 (fun k hk h => by
      have h9 := K1.out.hd k hk
      rcases List.mem_cons.1 h with h | h
      · exact h9.2.1 h
      · exact h9.2.2.1 h))
    have hlz : (P.line ++ [x]).length = P.line.length + 1 := by simp
    have m6 : Mods [] W5 (W5.alloc (.cells #[.int .u8 13] 5 (1, 2))) := (Mods.refl [] W5).alloc _
    have hts := trimsuf (P.line ++ [x]) (some ⟨b, 0, none⟩) c' W5.heap.size _ (by have := K5.out.line.at.low m6; rw [hlz]; exact this) (by rw [hlz]; omega) (cr_at W5)
    rw [cntT_snoc, hlz] at hts
    have HTS := Lib.hid hts
    have hcv := conv_cr W5
    have e5 : W5.cell? ⟨g, 2, none⟩ = some (.slice (some ⟨b, 0, none⟩) (P.line.length + 1) c') := K5.out.row.cell 2
    have hcl : cntL P.line x ≤ P.line.length + 1 := by unfold cntL; split <;> omega
    have HLG := Lib.hid (fun (h : 256 < cntL P.line x) => lgrow_bad (P := P) (x := x) h)
    have HLO := Lib.hid (fun (h : ¬ 256 < cntL P.line x) => lgrow_ok (P := P) (x := x) h)
    have HLL := Lib.hid (fun (h : 256 < cntL P.line x) => show lineP P.head (ofL (P.line ++ [x])) = { P.head with status := longS P.head } from lineP_long hwh hhs (by rw [ofL_size, hlz]; omega))
    have e3 : (W5.alloc (.cells #[.int .u8 13] 5 (1, 2))).cell? ⟨g, 3, none⟩ = some (ptr hb) := (PM.low K5.out m6).row.cell 3
    have e2b : (W5.alloc (.cells #[.int .u8 13] 5 (1, 2))).cell? ⟨g, 2, none⟩ = some (.slice (some ⟨b, 0, none⟩) (P.line.length + 1) c') := (PM.low K5.out m6).row.cell 2
    obtain ⟨W6, hW6⟩ : ∃ W6, W6 = W5.alloc (.cells #[.int .u8 13] 5 (1, 2)) := ⟨_, rfl⟩
    rw [← hW6] at m6 hcv HTS e3 e2b
    have M6 := Lib.hid m6
    have HNB := Lib.hid (show b ∉ FH from fun h => (K5.out.hd b h).2.2.1 (by simp [Value.ownBlock]))
    have HNG := Lib.hid (show g ∉ FH from fun h => (K5.out.hd g h).2.1 rfl)
    have BL := Lib.hid (show BsAt W6 (.slice (some ⟨b, 0, none⟩) (P.line.length + 1) c') (P.line ++ [x]) by have := K5.out.line.at.low m6; exact this)
    obtain ⟨nl, hnl⟩ : ∃ nl, nl = P.line.length := ⟨_, rfl⟩
    obtain ⟨nt, hnt⟩ : ∃ nt, nt = cntL P.line x := ⟨_, rfl⟩
    rw [← hnl] at BL e2b e5 hW5 HTS hlen hcl hrun c2 e2
    rw [← hnt] at HTS hcl HLG HLO HLL
    have hnl2 : nl + 1 ≤ 1000000 := by omega
    have hmore : 256 < nt ∨ ¬ 256 < nt := by omega
    clear hput r4 m5 m6 hts hrow hm hb4 hlz hwh hhs hnl hnt ex hW6
    rcases hmore with hgt | hgt
    · have HLP := Lib.hid (HLL.out hgt)
      have HLI := Lib.hid (fun W' (hm : Mods [] W6 W') => line_a (ofL (P.line ++ [x])) (by rw [ofL_size, List.length_append]; have := O1.out.live H1.out; simp only [List.length_cons, List.length_nil]; omega) ((A5.out.low M6.out).low hm))
      rw [HLP.out] at HLI
      simp only at HLI
      have cv0 := BL.out.text
      have cv1 := (BL.out.low (Mods.refl [] W6).drew).text
      obtain ⟨s, hs⟩ : ∃ s, s = ofL (P.line ++ [x]) := ⟨_, rfl⟩
      rw [← hs] at cv0 cv1 HLI
      have HSM := Lib.hid hs
      have HEE := Lib.hid (HLG.out hgt)
      clear hs HLG HLO HLL
      obtain ⟨ls, hls⟩ : ∃ ls, ls = longS P.head := ⟨_, rfl⟩
      rw [← hls] at HLI HEE
      clear hls
      obtain ⟨bw, hbw⟩ : ∃ bw, bw = P.head.whole := ⟨_, rfl⟩
      rw [← hbw] at HLI
      clear hbw
      unfold ptr at e3 HLI
      go_enter Tryz.func42, Tryz.ntmps42
      go_upto_region 5 with (at_builtin; refine wpList_run_app2 rfl (.tmp 26) (.tmp 28) 22 22 rfl rfl rfl hrun ?_)
      rw [← hW5]
      clear hW5 hrun e2 g2
      go_upto_region 6 with (go_at_call 50; refine HTS.out.mono ?_; rintro z w7 ⟨rfl, rfl⟩)
      clear hcv e5
      go_region_held3 (fun w' => w'.cell? ⟨g, 3, none⟩ = some (.pointer (some ⟨hb, 0, none⟩)) ∧ w'.cell? ⟨g, 2, none⟩ = some (.slice (some ⟨b, 0, none⟩) (nl + 1) c') ∧ (convert 22 9 (.slice (some ⟨b, 0, none⟩) (nl + 1) c')).run Tryz.prog w' = .ok (.string s) w') (go_keep) (first
        | (go_at_call 51; refine (HLI.out _ (by first | exact (Mods.refl [] W6).drew | exact Mods.refl [] W6)).mono ?_; rintro z z3 ⟨rfl, hk⟩; have HK := Lib.hid (show ∃ h', Lined FH W6 hb h' z3 from by first | exact ⟨_, hk.out⟩ | exact ⟨_, Lined.since15 (Mods.refl [] W6).drew hk.out⟩); clear hk; have q3 := HK.out; obtain ⟨h9, F3, -, m3, -⟩ := q3; have d3 := cell_mods e3 m3 HNG.out; have d2 := cell_mods e2b m3 HNG.out; have cv3 := (BL.out.mods m3 (fun k hk => by rw [show k = b by simpa [Value.ownBlock, eq_comm] using hk]; exact HNB.out)).text; rw [← HSM.out] at cv3; clear m3))
      obtain ⟨h9, hl9⟩ := HK.out
      obtain ⟨F9, a9, k9, g9⟩ := pa_lined (PM.low K5.out M6.out) hl9
      have HRF := Lib.hid (refuse_p k9 ls)
      unfold ptr at HRF
      have K9 := Lib.hid k9
      have G9 := Lib.hid ((G5.out.trans (Grew.of_low M6.out)).trans g9)
      clear k9 g9 a9 hl9
      go_wp2_with (go_at_call 52; refine HRF.out.mono ?_; rintro z w8 ⟨rfl, hk⟩; have HK8 := Lib.hid hk; clear hk)
      go_end0
      refine ⟨rfl, Lib.hid ?_⟩
      have hE := (headR_no P HX.out).trans HEE.out
      have o9 := OX.out
      rw [HEE.out] at o9
      rw [hE]
      exact FedP.trans G9.out (pa_refused K9.out o9 HK8.out)
    · have HEE := Lib.hid (HLO.out hgt)
      clear HLG HLO HLL
      go_enter Tryz.func42, Tryz.ntmps42
      go_upto_region 5 with (at_builtin; refine wpList_run_app2 rfl (.tmp 26) (.tmp 28) 22 22 rfl rfl rfl hrun ?_)
      rw [← hW5]
      clear hW5 hrun e2 g2
      go_wp2_with (go_at_call 50; refine HTS.out.mono ?_; rintro z w7 ⟨rfl, rfl⟩)
      go_end0
      refine ⟨rfl, Lib.hid ?_⟩
      have hE := (headR_no P HX.out).trans HEE.out
      have o9 := OX.out
      rw [HEE.out] at o9
      rw [hE]
      have h1 : P.phase = 1 := H1.out
      exact FedP.trans (G5.out.trans (Grew.of_low M6.out)) (FedP.refl (pa_mk o9 (ph := 1) (st := 0) (by show ((P.phase : Nat) : Int) = 1; rw [h1]; rfl) (O1.out.st (by omega)) (PM.low K5.out M6.out) (.inr (.inl ⟨h1, rfl, rfl, rfl, rfl, rfl, hb, rfl, A5.out.low M6.out⟩))))
set_option maxRecDepth 10000 in
set_option maxHeartbeats 2000000 in
theorem takehead_0 {P Q : PrP} {g : Nat} {vl vb hv : Value} {FH : List Nat} {w : World} {lf : Int} (o : PrOk Q) (hQ : Q = { P with phase := 1, head := newH, line := [] }) (c : PaM g vl vb hv (.pointer none) FH [] w 0 0 [] [] false lf) (x : UInt8) :
    Calls Tryz.prog 42 #[ptr g, .int .u8 (x.toNat : Int)] w fun z w' => z = .returned (.tuple #[]) ∧ Hid (FedP (pab g vl vb FH []) w g (headR Q x) w') := by
  have O1 := Lib.hid o
  have H1 := Lib.hid (show Q.phase = 1 by rw [hQ])
  have HQL := Lib.hid (show Q.line = [] by rw [hQ])
  have HQH := Lib.hid (show Q.head = newH by rw [hQ])
  have K0 := Lib.hid c
  have HNW := Lib.hid (new_h w)
  have b0 : w.cell? ⟨g, 0, none⟩ = some (.int .i64 0) := c.row.cell 0
  clear o hQ c
  unfold ptr
  go_enter Tryz.func42, Tryz.ntmps42
  go_upto_region 2 with (go_at_call 48; refine HNW.out.mono ?_; rintro z w1 hk; have hk2 := hk.out; obtain ⟨hb, F1, rfl, ha, hm, hn⟩ := hk2; have KB := Lib.hid (PM.born K0.out hm (fun k hk => ⟨hn k hk, ha.lt k hk⟩)); have AB := Lib.hid ha; have e0 := KB.out.1.row.cell 0; have e3 := KB.out.1.row.cell 3; have q0 := KB.out.1.row.free 0; have q3 := KB.out.1.row.free 3; simp only [paCells, List.getElem?_toArray, List.getElem?_cons_zero, List.getElem?_cons_succ] at e0 e3; unfold ptr; clear hk ha hm hn)
  have k2 := PM.set (cs' := paCells 1 0 hv false lf (.pointer none)) KB.out.1 0 (.int .i64 1) rfl
  have k3 := PM.set (cs' := paCells 1 0 (ptr hb) false lf (.pointer none)) k2 3 (ptr hb) rfl
  have g3 := KB.out.2.trans ((PM.set_grew KB.out.1 0 (.int .i64 1)).trans (PM.set_grew k2 3 (ptr hb)))
  have m3 : Mods [g] w1 ((w1.setCell ⟨g, 0, none⟩ (.int .i64 1)).setCell ⟨g, 3, none⟩ (ptr hb)) := ((Mods.refl [g] w1).setCell (.inl (by simp)) _).setCell (.inl (by simp)) _
  have a3 := AB.out.mods m3 (fun k hk => by simpa using (KB.out.1.hd k hk).2.1)
  obtain ⟨W, hW⟩ : ∃ W, W = (w1.setCell ⟨g, 0, none⟩ (.int .i64 1)).setCell ⟨g, 3, none⟩ (ptr hb) := ⟨_, rfl⟩
  rw [← hW] at k3 g3 a3
  unfold ptr at hW
  rw [← hW]
  have c0 : W.cell? ⟨g, 0, none⟩ = some (.int .i64 1) := k3.row.cell 0
  have c2 : W.cell? ⟨g, 2, none⟩ = some vl := k3.row.cell 2
  have K1 := Lib.hid (show PaM g vl vb (ptr hb) (.pointer none) F1 [] W 1 0 Q.line [] false lf by rw [HQL.out]; exact k3)
  have A1 := Lib.hid (show HdA F1 W hb Q.head by rw [HQH.out]; exact a3)
  have G1 := Lib.hid g3
  clear hW k2 k3 g3 m3 a3 e0 e3 q0 q3 b0 KB AB K0 HQL HQH HNW
  rcases is14 x 10 10 rfl (by decide) with ⟨ex, hx, -⟩ | ⟨ex, hx, -⟩
  · have HEL := Lib.hid (endline_p O1.out H1.out K1.out A1.out)
    unfold ptr at HEL
    skip
    go_wp2_with (go_at_call 49; refine HEL.out.mono ?_; rintro z w5 ⟨rfl, hk⟩; have HK5 := Lib.hid hk.out; clear hk)
    refine bodyPost_ret (results_none rfl _ _ _) rfl ?_
    refine ⟨rfl, Lib.hid ?_⟩
    rw [show headR Q x = lendR Q by rw [ex]; exact headR_10 _]
    exact FedP.trans G1.out HK5.out
  · have HX := Lib.hid (show x ≠ 10 from ex)
    have OX := Lib.hid (show PrOk (lgrowR Q x) by rw [← headR_no _ HX.out]; exact O1.out.headR H1.out x)
    obtain ⟨hwh, hhs, hlen⟩ := O1.out.live H1.out
    have HWH := Lib.hid (And.intro hwh hhs)
    obtain ⟨A, cp, rfl, -, -⟩ := K1.out.line.form
    obtain ⟨b, c', w4, hrun, hrow, hm, hb4⟩ := app_row K1.out.line (by omega) x
    have hput := PM.putL (cs' := paCells 1 0 (ptr hb) false lf (.pointer none)) K1.out hrow hm (fun k hk => by
      have hkb : k = b := by simpa [Value.ownBlock, eq_comm] using hk
      subst hkb
      rcases hb4 with h | h
      · exact .inl (by rw [← h]; simp)
      · exact .inr h) 2 rfl
    have r4 := K1.out.row.mods hm (fun hk => K1.out.ne_l g hk rfl)
    have e2 : w4.cell? ⟨g, 2, none⟩ = some (.slice A Q.line.length cp) := r4.cell 2
    have g2 := r4.free 2
    obtain ⟨W5, hW5⟩ : ∃ W5, W5 = w4.setCell ⟨g, 2, none⟩ (.slice (some ⟨b, 0, none⟩) (Q.line.length + 1) c') := ⟨_, rfl⟩
    rw [← hW5] at hput
    have m5 : Mods (g :: (Value.ownBlock (.slice A Q.line.length cp)).toList) W W5 := by rw [hW5]; exact (hm.more (fun k hk => .inl (by simp [hk]))).setCell (.inl (by simp)) _
    have K5 := Lib.hid hput.1
    have G5 := Lib.hid (G1.out.trans hput.2)
    have A5 := Lib.hid (show HdA F1 W5 hb Q.head from A1.out.mods m5 (fun k hk h => by
      have h9 := K1.out.hd k hk
      rcases List.mem_cons.1 h with h | h
      · exact h9.2.1 h
      · exact h9.2.2.1 h))
    have hlz : (Q.line ++ [x]).length = Q.line.length + 1 := by simp
    have m6 : Mods [] W5 (W5.alloc (.cells #[.int .u8 13] 5 (1, 2))) := (Mods.refl [] W5).alloc _
    have hts := trimsuf (Q.line ++ [x]) (some ⟨b, 0, none⟩) c' W5.heap.size _ (by have := K5.out.line.at.low m6; rw [hlz]; exact this) (by rw [hlz]; omega) (cr_at W5)
    rw [cntT_snoc, hlz] at hts
    have HTS := Lib.hid hts
    have hcv := conv_cr W5
    have e5 : W5.cell? ⟨g, 2, none⟩ = some (.slice (some ⟨b, 0, none⟩) (Q.line.length + 1) c') := K5.out.row.cell 2
    have hcl : cntL Q.line x ≤ Q.line.length + 1 := by unfold cntL; split <;> omega
    have HLG := Lib.hid (fun (h : 256 < cntL Q.line x) => lgrow_bad (P := Q) (x := x) h)
    have HLO := Lib.hid (fun (h : ¬ 256 < cntL Q.line x) => lgrow_ok (P := Q) (x := x) h)
    have HLL := Lib.hid (fun (h : 256 < cntL Q.line x) => show lineP Q.head (ofL (Q.line ++ [x])) = { Q.head with status := longS Q.head } from lineP_long hwh hhs (by rw [ofL_size, hlz]; omega))
    have e3 : (W5.alloc (.cells #[.int .u8 13] 5 (1, 2))).cell? ⟨g, 3, none⟩ = some (ptr hb) := (PM.low K5.out m6).row.cell 3
    have e2b : (W5.alloc (.cells #[.int .u8 13] 5 (1, 2))).cell? ⟨g, 2, none⟩ = some (.slice (some ⟨b, 0, none⟩) (Q.line.length + 1) c') := (PM.low K5.out m6).row.cell 2
    obtain ⟨W6, hW6⟩ : ∃ W6, W6 = W5.alloc (.cells #[.int .u8 13] 5 (1, 2)) := ⟨_, rfl⟩
    rw [← hW6] at m6 hcv HTS e3 e2b
    have M6 := Lib.hid m6
    have HNB := Lib.hid (show b ∉ F1 from fun h => (K5.out.hd b h).2.2.1 (by simp [Value.ownBlock]))
    have HNG := Lib.hid (show g ∉ F1 from fun h => (K5.out.hd g h).2.1 rfl)
    have BL := Lib.hid (show BsAt W6 (.slice (some ⟨b, 0, none⟩) (Q.line.length + 1) c') (Q.line ++ [x]) by have := K5.out.line.at.low m6; exact this)
    obtain ⟨nl, hnl⟩ : ∃ nl, nl = Q.line.length := ⟨_, rfl⟩
    obtain ⟨nt, hnt⟩ : ∃ nt, nt = cntL Q.line x := ⟨_, rfl⟩
    rw [← hnl] at BL e2b e5 hW5 HTS hlen hcl hrun c2 e2
    rw [← hnt] at HTS hcl HLG HLO HLL
    have hnl2 : nl + 1 ≤ 1000000 := by omega
    have hmore : 256 < nt ∨ ¬ 256 < nt := by omega
    clear hput r4 m5 m6 hts hrow hm hb4 hlz hwh hhs hnl hnt ex hW6
    rcases hmore with hgt | hgt
    · have HLP := Lib.hid (HLL.out hgt)
      have HLI := Lib.hid (fun W' (hm : Mods [] W6 W') => line_a (ofL (Q.line ++ [x])) (by rw [ofL_size, List.length_append]; have := O1.out.live H1.out; simp only [List.length_cons, List.length_nil]; omega) ((A5.out.low M6.out).low hm))
      rw [HLP.out] at HLI
      simp only at HLI
      have cv0 := BL.out.text
      have cv1 := (BL.out.low (Mods.refl [] W6).drew).text
      obtain ⟨s, hs⟩ : ∃ s, s = ofL (Q.line ++ [x]) := ⟨_, rfl⟩
      rw [← hs] at cv0 cv1 HLI
      have HSM := Lib.hid hs
      have HEE := Lib.hid (HLG.out hgt)
      clear hs HLG HLO HLL
      obtain ⟨ls, hls⟩ : ∃ ls, ls = longS Q.head := ⟨_, rfl⟩
      rw [← hls] at HLI HEE
      clear hls
      obtain ⟨bw, hbw⟩ : ∃ bw, bw = Q.head.whole := ⟨_, rfl⟩
      rw [← hbw] at HLI
      clear hbw
      unfold ptr at e3 HLI
      skip
      go_upto_region 5 with (at_builtin; refine wpList_run_app2 rfl (.tmp 26) (.tmp 28) 22 22 rfl rfl rfl hrun ?_)
      rw [← hW5]
      clear hW5 hrun e2 g2
      go_upto_region 6 with (go_at_call 50; refine HTS.out.mono ?_; rintro z w7 ⟨rfl, rfl⟩)
      clear hcv e5
      go_region_held3 (fun w' => w'.cell? ⟨g, 3, none⟩ = some (.pointer (some ⟨hb, 0, none⟩)) ∧ w'.cell? ⟨g, 2, none⟩ = some (.slice (some ⟨b, 0, none⟩) (nl + 1) c') ∧ (convert 22 9 (.slice (some ⟨b, 0, none⟩) (nl + 1) c')).run Tryz.prog w' = .ok (.string s) w') (go_keep) (first
        | (go_at_call 51; refine (HLI.out _ (by first | exact (Mods.refl [] W6).drew | exact Mods.refl [] W6)).mono ?_; rintro z z3 ⟨rfl, hk⟩; have HK := Lib.hid (show ∃ h', Lined F1 W6 hb h' z3 from by first | exact ⟨_, hk.out⟩ | exact ⟨_, Lined.since15 (Mods.refl [] W6).drew hk.out⟩); clear hk; have q3 := HK.out; obtain ⟨h9, F3, -, m3, -⟩ := q3; have d3 := cell_mods e3 m3 HNG.out; have d2 := cell_mods e2b m3 HNG.out; have cv3 := (BL.out.mods m3 (fun k hk => by rw [show k = b by simpa [Value.ownBlock, eq_comm] using hk]; exact HNB.out)).text; rw [← HSM.out] at cv3; clear m3))
      obtain ⟨h9, hl9⟩ := HK.out
      obtain ⟨F9, a9, k9, g9⟩ := pa_lined (PM.low K5.out M6.out) hl9
      have HRF := Lib.hid (refuse_p k9 ls)
      unfold ptr at HRF
      have K9 := Lib.hid k9
      have G9 := Lib.hid ((G5.out.trans (Grew.of_low M6.out)).trans g9)
      clear k9 g9 a9 hl9
      go_wp2_with (go_at_call 52; refine HRF.out.mono ?_; rintro z w8 ⟨rfl, hk⟩; have HK8 := Lib.hid hk; clear hk)
      go_end0
      refine ⟨rfl, Lib.hid ?_⟩
      have hE := (headR_no Q HX.out).trans HEE.out
      have o9 := OX.out
      rw [HEE.out] at o9
      rw [hE]
      exact FedP.trans G9.out (pa_refused K9.out o9 HK8.out)
    · have HEE := Lib.hid (HLO.out hgt)
      clear HLG HLO HLL
      skip
      go_upto_region 5 with (at_builtin; refine wpList_run_app2 rfl (.tmp 26) (.tmp 28) 22 22 rfl rfl rfl hrun ?_)
      rw [← hW5]
      clear hW5 hrun e2 g2
      go_wp2_with (go_at_call 50; refine HTS.out.mono ?_; rintro z w7 ⟨rfl, rfl⟩)
      go_end0
      refine ⟨rfl, Lib.hid ?_⟩
      have hE := (headR_no Q HX.out).trans HEE.out
      have o9 := OX.out
      rw [HEE.out] at o9
      rw [hE]
      have h1 : Q.phase = 1 := H1.out
      exact FedP.trans (G5.out.trans (Grew.of_low M6.out)) (FedP.refl (pa_mk o9 (ph := 1) (st := 0) (by show ((Q.phase : Nat) : Int) = 1; rw [h1]; rfl) (O1.out.st (by omega)) (PM.low K5.out M6.out) (.inr (.inl ⟨h1, rfl, rfl, rfl, rfl, rfl, hb, rfl, A5.out.low M6.out⟩))))
end Go.Proofs.YtgkhelbpccehcaaGreatDoor

/- The code's parser: bytes of a body; a step of a row. Conditions: rows of at most a million bytes. -/
namespace Go.Proofs.YtgkhelbpccehcaaGreatDoor
open Go.RowKit
set_option linter.unusedVariables false
set_option linter.unusedSimpArgs false

/-- append of a row of bytes onto an object's own row. -/
theorem app_rows {w : World} {v u : Value} {l m : List UInt8} (h : BRow w v l) (hb : BsAt w u m) (h0 : 0 < m.length) (hroom : l.length + m.length ≤ 1000000000) :
    ∃ (b c : Nat) (w' : World), (Builtin.append_ #[22, 22] 22 #[v, u]).run Tryz.prog w = .ok (.slice (some ⟨b, 0, none⟩) (l.length + m.length) c) w' ∧
      BRow w' (.slice (some ⟨b, 0, none⟩) (l.length + m.length) c) (l ++ m) ∧ Mods v.ownBlock.toList w w' ∧ (some b = v.ownBlock ∨ w.heap.size ≤ b) := by
  obtain ⟨i0, hi, hz0, hz1, hz2⟩ := info_parts infoU8
  rcases hb with ⟨rfl, A, k, rfl⟩ | ⟨b, off, cap, rfl, _, hlt, h1, h2, hc⟩
  · cases h0
  · obtain ⟨v', w5, hrun, hown', hgrow, -, hbl⟩ := run_append_own_at (P := Tryz.prog) (w := w) 0 22 22 5 i0 (.int .u8 0) 1 1 Tryz.underlying22 hi hz0 hz1 hz2 rfl (by decide)
      v l.length (bys l) h ⟨b, off, none⟩ m.length cap (bys m) (by rw [bys_len, Nat.mul_one]) (fun j x hj => by
        rw [add_none]
        have hj2 : j < m.length := by have := (List.getElem?_eq_some_iff.1 hj).1; rw [bys_len] at this; exact this
        rw [bys_at m j hj2] at hj
        rw [hc j hj2]; exact hj) (bys_one m) (by unfold maxLen; omega) (by omega) (Nat.zero_le _)
    obtain ⟨n, hn⟩ : ∃ n, l.length + m.length = n + 1 := ⟨l.length + m.length - 1, by omega⟩
    have hown2 := hown'
    rw [hn] at hown2
    obtain ⟨bb, cc, rfl⟩ := ownsRow_succ hown2
    rw [← hn] at hown' hrun hbl
    refine ⟨bb, cc, w5, hrun, ?_, (Mods.refl _ w).grown hgrow (fun k e => .inl (by rw [e]; simp)), ?_⟩
    · unfold BRow
      rw [List.length_append, bys_append]; exact hown'
    · rcases hbl with h | h
      · exact .inl h
      · have : bb = w.heap.size := by simpa [Value.ownBlock] using h
        exact .inr (by omega)
/-- A new row as body, one more cell being stored ahead of it. -/
theorem pa_body {t : TypeId} {cs cs1 cs' : Value → Value → Array Value} {g : Nat} {vl vb u : Value} {FH FC : List Nat} {w w2 : World} {L B B' : List UInt8} (c : PM t cs g vl vb FH FC w L B) (h : GB w B' u w2) (i : Nat) (x : Value) (hi : (cs vl vb).setIfInBounds i x = cs1 vl vb) (j : Nat) (hj : (cs1 vl vb).setIfInBounds j u = cs' vl u) :
    PM t cs' g vl u FH FC ((w2.setCell ⟨g, i, none⟩ x).setCell ⟨g, j, none⟩ u) L B' ∧ Grew (pab g vl vb FH FC) (pab g vl u FH FC) w ((w2.setCell ⟨g, i, none⟩ x).setCell ⟨g, j, none⟩ u) := by
  have r1 : Row w2 g t (cs vl vb) := c.row.mods h.mods (by simp)
  have hn := h.news
  have hm : Mods [g] w2 ((w2.setCell ⟨g, i, none⟩ x).setCell ⟨g, j, none⟩ u) := ((Mods.refl [g] w2).setCell (.inl (by simp)) _).setCell (.inl (by simp)) _
  have hm0 : Mods [g] w ((w2.setCell ⟨g, i, none⟩ x).setCell ⟨g, j, none⟩ u) := (h.mods.more (fun _ h => nomatch h)).trans hm (fun k hk => .inl hk)
  have hl := c.row.lt
  have r2 := (hi ▸ r1.set i x).set j u
  rw [hj] at r2
  generalize (w2.setCell ⟨g, i, none⟩ x).setCell ⟨g, j, none⟩ u = W at *
  refine ⟨⟨r2, c.line.mods hm0 (fun k hk => by simpa using c.ne_l k hk), h.own.mods hm (fun k hk => by have := hn k hk; simp; omega), fun k hk hk2 => ?_, fun k hk => ?_, fun k hk => ?_, c.ty⟩, ⟨hm0.more (fun k hk => .inl (by rw [List.mem_singleton] at hk; rw [hk]; simp)), fun k hk => ?_⟩⟩
  · have h1 := hn k hk2; have h2 := c.line.lt k hk; omega
  · have h9 := c.hd k hk
    exact ⟨Nat.lt_of_lt_of_le h9.1 hm0.size, h9.2.1, h9.2.2.1, fun hk2 => by have h1 := hn k hk2; omega, h9.2.2.2.2⟩
  · have h9 := c.ck k hk
    exact ⟨Nat.lt_of_lt_of_le h9.1 hm0.size, h9.2.1, h9.2.2.1, fun hk2 => by have h1 := hn k hk2; omega⟩
  · simp only [List.mem_cons, List.mem_append] at hk ⊢
    rcases hk with hk | hk | hk | hk
    · exact .inl (.inl hk)
    · exact .inl (.inr (.inl hk))
    · exact .inr (hn k hk)
    · exact .inl (.inr (.inr (.inr hk)))
theorem feedR_pos {P : PrP} {l : List UInt8} (hd : doneR P = false) (h0 : l ≠ []) : 1 ≤ (feedR P l).2 := by
  match l, h0 with
  | c :: l, _ => rw [feedR_cons hd]; simp
set_option maxRecDepth 10000 in
set_option maxHeartbeats 2000000 in
theorem takelen_p {P : PrP} {g hb : Nat} {vl vb : Value} {FH : List Nat} {w : World} {L : List UInt8} {lf : Int} (o : PrOk P) (h2 : P.phase = 2) (hk : P.how.kind = 1) (c : PaM g vl vb (ptr hb) (.pointer none) FH [] w 2 0 L P.body true lf) (hlf : lf = P.how.length - (P.body.length : Nat)) (a : HdA FH w hb P.head)
    (p : Value) (l : List UInt8) (hp : BsAt w p l) (h0 : l ≠ []) (hl : l.length ≤ 1000000) :
    Calls Tryz.prog 44 #[ptr g, p] w fun z w' => z = .returned (.int .i64 ((feedR P l).2 : Nat)) ∧ Hid (FedP (pab g vl vb FH []) w g (feedR P l).1 w') := by
  have hbd : (P.body.length : Int) < P.how.length ∧ P.how.length ≤ 2048 := by
    rcases o.body h2 with ⟨_, b, d⟩ | ⟨b, _⟩
    · exact ⟨b, d⟩
    · omega
  have hpos := List.length_pos_iff.2 h0
  have OF := Lib.hid (o.feed l)
  have hfr := feedR_len l P h2 hk hbd.1 h0
  obtain ⟨k, hkk⟩ : ∃ k, k = min l.length (P.how.length - (P.body.length : Nat)).toNat := ⟨_, rfl⟩
  obtain ⟨A, cp, rfl⟩ := hp.len
  have hcp : l.length ≤ cp := by
    rcases hp with ⟨rfl, _⟩ | ⟨_, _, _, hv, _, _, h1, _⟩
    · cases hpos
    · injection hv with _ _ e; omega
  have hmn : min (l.length : Int) lf = (k : Int) := by omega
  have htk : l.take (P.how.length - (P.body.length : Nat)).toNat = l.take k := by
    rw [hkk]
    by_cases h : l.length ≤ (P.how.length - (P.body.length : Nat)).toNat
    · rw [Nat.min_eq_left h, List.take_of_length_le h, List.take_length]
    · rw [Nat.min_eq_right (by omega)]
  rw [htk, ← hkk] at hfr
  have hkl : (l.take k).length = k := by rw [List.length_take]; omega
  obtain ⟨b, c', w8, hrun, hrow, hm8, hb8⟩ := app_rows (w := w.drew) (c.body.low (Mods.refl [] w).drew) ((hp.low (Mods.refl [] w).drew).to k (by omega)) (by omega) (by omega)
  rw [hkl] at hrun hrow
  have hm9 : Mods vb.ownBlock.toList w w8 := ((Mods.refl _ w).drew).trans hm8 (fun k hk => .inl hk)
  have hput := PM.putB (cs' := paCells 2 0 (ptr hb) true lf (.pointer none)) c hrow hm9 (fun k hk => by
    have hkb : k = b := by simpa [Value.ownBlock, eq_comm] using hk
    subst hkb
    rcases hb8 with h | h
    · exact .inl (by rw [← h]; simp)
    · exact .inr h) 7 rfl
  have r8 := c.row.mods hm9 (fun hk => c.ne_b g hk rfl)
  have e7 : w8.cell? ⟨g, 7, none⟩ = some vb := r8.cell 7
  have g7 := r8.free 7
  have k5 := PM.set (cs' := paCells 2 0 (ptr hb) true (lf - k) (.pointer none)) hput.1 5 (.int .i64 (lf - k)) rfl
  have q5 := hput.2.trans (PM.set_grew hput.1 5 (.int .i64 (lf - k)))
  obtain ⟨W1, hW1⟩ : ∃ W1, W1 = w8.setCell ⟨g, 7, none⟩ (.slice (some ⟨b, 0, none⟩) (P.body.length + k) c') := ⟨_, rfl⟩
  obtain ⟨W2, hW2⟩ : ∃ W2, W2 = W1.setCell ⟨g, 5, none⟩ (.int .i64 (lf - k)) := ⟨_, rfl⟩
  rw [← hW1] at hput k5 q5
  rw [← hW2] at k5 q5
  have d5 : W1.cell? ⟨g, 5, none⟩ = some (.int .i64 lf) := hput.1.row.cell 5
  have f5 := hput.1.row.free 5
  have d5b : W2.cell? ⟨g, 5, none⟩ = some (.int .i64 (lf - k)) := k5.row.cell 5
  have d0 : W2.cell? ⟨g, 0, none⟩ = some (.int .i64 2) := k5.row.cell 0
  have f0 := k5.row.free 0
  have m2 : Mods (g :: vb.ownBlock.toList) w W2 := by rw [hW2, hW1]; exact ((hm9.more (fun k hk => .inl (by simp [hk]))).setCell (.inl (by simp)) _).setCell (.inl (by simp)) _
  have a2 : HdA FH W2 hb P.head := a.mods m2 (fun k hk h => by
    have h9 := c.hd k hk
    rcases List.mem_cons.1 h with h | h
    · exact h9.2.1 h
    · exact h9.2.2.2.1 h)
  have c5 : w.cell? ⟨g, 5, none⟩ = some (.int .i64 lf) := c.row.cell 5
  have c7 : w.cell? ⟨g, 7, none⟩ = some vb := c.row.cell 7
  obtain ⟨bl, hbl⟩ : ∃ bl, bl = P.body.length := ⟨_, rfl⟩
  have K5 := Lib.hid k5
  have Q5 := Lib.hid q5
  have A2 := Lib.hid a2
  have ST := Lib.hid (o.st (by omega))
  have HFR := Lib.hid hfr
  have HBL := Lib.hid hbl
  have HK := Lib.hid (And.intro hk (And.intro hlf hkl))
  have hlf0 : (0 : Int) < lf ∧ lf ≤ 2048 := by omega
  have k1 : (k : Int) ≤ lf := by omega
  have k2 : k ≤ l.length := by omega
  have k3 : k ≤ cp := by omega
  have HKL := Lib.hid (show (k : Int) = lf ∨ ((k : Int) < lf ∧ k = l.length) by omega)
  have HK2 := Lib.hid k2
  have HPL := Lib.hid hlf
  obtain ⟨ob, oc, hvb⟩ : ∃ ob oc, vb = .slice ob P.body.length oc := by obtain ⟨x, y, h, -⟩ := c.body.form; exact ⟨x, y, h⟩
  clear o h2 hk c hlf a hp h0 hl hbd hpos hfr hkk htk hkl hrow hm8 hb8 hm9 hput r8 k5 q5 m2 a2 hcp
  subst hvb
  rw [← hbl] at hrun hW1 c7 e7
  unfold ptr
  have HL0 := Lib.hid (And.intro hlf0 k1)
  clear hlf0 k1 hbl
  have k1 : (0 : Int) ≤ (k : Int) := by omega
  go_enter Tryz.func44, Tryz.ntmps44
  go_upto_region 2 with fail
  clear hmn
  have k4 : (k : Int) ≤ (cp : Int) := by omega
  go_region_law (refine step_run_appB rfl rfl rfl rfl hrun ?_)
  all_goals
    rw [← hW1]
    clear hW1 hrun e7 g7 c5 c7 k4 k3 k2
    obtain ⟨⟨hl1, hl2⟩, hl3⟩ := HL0.out
    go_upto_region 4 with fail
    rw [← hW2]
    clear hW2 d5 f5 hl1 hl2 hl3 k1
    rcases HKL.out with hfull | ⟨hless, hall⟩
    · have hz : ((lf - (k : Int)) == 0) = true := by rw [beq_iff_eq]; omega
      clear hfull
      go_wp2
      go_ret
      have hE := HFR.out
      have h9 := HKL.out
      have hp := HPL.out
      rw [if_neg (show ¬ ((P.body.length + l.length : Nat) : Int) < P.how.length by have := HK2.out; have := hz; rw [beq_iff_eq] at this; omega)] at hE
      have o9 := OF.out
      rw [hE] at o9 ⊢
      have k9 := PM.set (cs' := paCells 3 0 (ptr hb) true (lf - k) (.pointer none)) K5.out 0 (.int .i64 3) rfl
      have g9 := Q5.out.trans (PM.set_grew K5.out 0 (.int .i64 3))
      have a9 := A2.out.mods (G := [g]) (show Mods [g] W2 (W2.setCell ⟨g, 0, none⟩ (.int .i64 3)) from (Mods.refl [g] W2).setCell (.inl (by simp)) _) (fun k hk => by simpa using (K5.out.hd k hk).2.1)
      exact ⟨rfl, Lib.hid ⟨_, pa_mk o9 (ph := 3) (st := 0) rfl ST.out k9 (.inr (.inr (.inr (.inr (.inl ⟨rfl, rfl, hb, rfl, a9⟩))))), g9⟩⟩
    · have hz : ((lf - (k : Int)) == 0) = false := by rw [beq_eq_false_iff_ne]; omega
      have hlow := hless
      clear hless hall
      go_wp2
      go_ret
      have hE := HFR.out
      have hp := HPL.out
      rw [if_pos (show ((P.body.length + l.length : Nat) : Int) < P.how.length by have h9 := HKL.out; omega)] at hE
      have o9 := OF.out
      rw [hE] at o9 ⊢
      exact ⟨rfl, Lib.hid ⟨_, pa_mk o9 (ph := 2) (st := 0) rfl ST.out K5.out (.inr (.inr (.inl ⟨rfl, HK.out.1, rfl, rfl, (by show lf - k = P.how.length - ((P.body ++ l.take k).length : Nat); rw [List.length_append, HK.out.2.2]; omega), rfl, rfl, hb, rfl, A2.out⟩))), Q5.out⟩⟩
set_option maxRecDepth 10000 in
set_option maxHeartbeats 2000000 in
theorem takechk_p {P : PrP} {g hb cb : Nat} {vl vb : Value} {FH FC : List Nat} {w : World} {L B : List UInt8} {lf : Int} (o : PrOk P) (h2 : P.phase = 2) (hk : P.how.kind = 2) (c : PaM g vl vb (ptr hb) (ptr cb) FH FC w 2 0 L B true lf) (a : HdA FH w hb P.head) (q : CkA FC w cb P.ch)
    (p : Value) (l : List UInt8) (hp : BsAt w p l) (hF : 0 < l.length → ∀ k ∈ p.ownBlock.toList, k ∉ FC) (h0 : l ≠ []) (hl : l.length ≤ 1000000) :
    Calls Tryz.prog 43 #[ptr g, p] w fun z w' => z = .returned (.int .i64 ((feedR P l).2 : Nat)) ∧ Hid (FedP (pab g vl vb FH FC) w g (feedR P l).1 w') := by
  have hdc : doneC P.ch = false := by
    rcases o.body h2 with ⟨b, _⟩ | ⟨_, _, b⟩
    · omega
    · exact b
  have OF := Lib.hid (o.feed l)
  have hfr := feedR_chunks l P h2 hk hdc h0
  have hfd := feed_c p l hp hF q hl
  obtain ⟨A, cp, rfl⟩ := hp.len
  have c6 : w.cell? ⟨g, 6, none⟩ = some (ptr cb) := c.row.cell 6
  obtain ⟨ob, oc, rfl, -, -⟩ := c.body.form
  obtain ⟨r', n', hr⟩ : ∃ r' n', feedP P.ch l = (r', n') := ⟨_, _, rfl⟩
  rw [hr] at hfr hfd
  simp only at hfr hfd
  have HFR := Lib.hid hfr
  have HKK := Lib.hid (And.intro h2 hk)
  have ST := Lib.hid (o.st (by omega))
  have KC := Lib.hid c
  have HA := Lib.hid a
  obtain ⟨st, hst⟩ : ∃ st, st = r'.status := ⟨_, rfl⟩
  obtain ⟨bw, hbw⟩ : ∃ bw, bw = r'.whole := ⟨_, rfl⟩
  rw [← hst, ← hbw] at hfd
  have HST := Lib.hid hst
  have HBW := Lib.hid hbw
  have HFD := Lib.hid hfd
  unfold ptr at HFD c6 ⊢
  have hcase : (st != 0) = true ∨ ((st != 0) = false ∧ bw = true) ∨ ((st != 0) = false ∧ bw = false) := by
    cases bw <;> cases (st != 0) <;> simp
  clear o h2 hk c a q hp hF h0 hl hdc hfr hfd hr hst hbw
  rcases hcase with h0 | ⟨h0, rfl⟩ | ⟨h0, rfl⟩
  all_goals
    go_enter Tryz.func43, Tryz.ntmps43
    go_upto_region 2 with (go_at_call 53; refine HFD.out.mono ?_; rintro z w1 ⟨rfl, hk⟩; have HK := Lib.hid hk.out; clear hk)
    obtain ⟨FC', q1, g1⟩ := HK.out
    obtain ⟨k1, y1⟩ := PM.newK KC.out g1 q1.lt
    have a1 := HA.out.mods g1.mods (fun k hk h => (KC.out.hd k hk).2.2.2.2 h)
    have K1 := Lib.hid k1
    have Y1 := Lib.hid y1
    have Q1 := Lib.hid q1
    have A1 := Lib.hid a1
    clear k1 y1 q1 a1 g1 c6
  · have HRF := Lib.hid (refuse_p K1.out st)
    unfold ptr at HRF
    go_wp2_with (go_at_call 52; refine HRF.out.mono ?_; rintro z w5 ⟨rfl, hk⟩; have HK5 := Lib.hid hk; clear hk)
    go_ret
    have hE := HFR.out
    rw [if_pos (show r'.status ≠ 0 by rw [← HST.out]; simpa using h0)] at hE
    have o9 := OF.out
    rw [hE] at o9 ⊢
    exact ⟨rfl, Lib.hid (FedP.trans Y1.out (pa_refused K1.out o9 (by rw [← HST.out]; exact HK5.out)))⟩
  · have HB := Lib.hid (body_c Q1.out)
    have e6 : w1.cell? ⟨g, 6, none⟩ = some (ptr cb) := K1.out.row.cell 6
    unfold ptr at HB e6
    go_wp2_with (go_at_call 54; (refine HB.out.mono ?_; rintro z w2 ⟨u, rfl, hk⟩; have GB2 := Lib.hid hk.out; have k2 := PM.low K1.out hk.out.mods; have e0 := k2.row.cell 0; have e7 := k2.row.cell 7; have e6b := k2.row.cell 6; have q0 := k2.row.free 0; have q6 := k2.row.free 6; have q7 := k2.row.free 7; simp only [paCells, List.getElem?_toArray, List.getElem?_cons_zero, List.getElem?_cons_succ] at e0 e6b e7; unfold ptr at e6b; have K2 := Lib.hid k2; obtain ⟨ua, uc, rfl⟩ := hk.out.form; clear hk k2))
    go_ret
    have hE := HFR.out
    rw [if_neg (show ¬ r'.status ≠ 0 by rw [← HST.out]; simpa using h0), if_pos HBW.out.symm] at hE
    have o9 := OF.out
    rw [hE] at o9 ⊢
    refine ⟨rfl, Lib.hid ?_⟩
    have k3 := PM.set (cs' := paCells 3 0 (ptr hb) true lf (ptr cb)) K2.out 0 (.int .i64 3) rfl
    have m3 : Mods [g] w2 (w2.setCell ⟨g, 0, none⟩ (.int .i64 3)) := (Mods.refl [g] w2).setCell (.inl (by simp)) _
    have hug : ∀ k ∈ (Value.slice ua r'.body.length uc).ownBlock.toList, k ≠ g := fun k hk e => by have h1 := GB2.out.news k hk; have h2 := K1.out.row.lt; omega
    have hgu := GB2.out.own.mods m3 (fun k hk => by simpa using hug k hk)
    obtain ⟨k4, g4⟩ := pa_body (cs1 := paCells 3 0 (ptr hb) true lf (ptr cb)) (cs' := paCells 3 0 (ptr hb) true lf (ptr cb)) K1.out GB2.out 0 (.int .i64 3) rfl 7 rfl
    have k5 := PM.set (cs' := paCells 3 0 (ptr hb) true lf (.pointer none)) k4 6 (.pointer none) rfl
    have g5 := (Y1.out.trans g4).trans (PM.set_grew k4 6 (.pointer none))
    have k6 := PM.dropC k5
    have a6 : HdA FH ((((w2.setCell ⟨g, 0, none⟩ (.int .i64 3)).setCell ⟨g, 7, none⟩ (.slice ua r'.body.length uc)).setCell ⟨g, 6, none⟩ (.pointer none))) hb P.head :=
      (A1.out.low GB2.out.mods).mods (G := [g]) ((((Mods.refl [g] w2).setCell (.inl (by simp)) _).setCell (.inl (by simp)) _).setCell (.inl (by simp)) _) (fun k hk => by simpa using (KC.out.hd k hk).2.1)
    exact ⟨_, pa_mk o9 (ph := 3) (st := 0) rfl ST.out k6 (.inr (.inr (.inr (.inr (.inl ⟨rfl, rfl, hb, rfl, a6⟩))))), g5.less pab_dropC⟩
  · go_wp2
    go_ret
    have hE := HFR.out
    rw [if_neg (show ¬ r'.status ≠ 0 by rw [← HST.out]; simpa using h0), if_neg (show ¬ r'.whole = true by rw [← HBW.out]; simp)] at hE
    have o9 := OF.out
    rw [hE] at o9 ⊢
    exact ⟨rfl, Lib.hid (FedP.trans Y1.out (FedP.refl (pa_mk o9 (ph := 2) (st := 0) rfl ST.out K1.out (.inr (.inr (.inr (.inl ⟨rfl, HKK.out.2, rfl, ⟨cb, rfl, Q1.out⟩, hb, rfl, A1.out⟩)))))))⟩
end Go.Proofs.YtgkhelbpccehcaaGreatDoor

/- The code's parser: rows of bytes. Conditions: rows of at most a million bytes. -/
namespace Go.Proofs.YtgkhelbpccehcaaGreatDoor
open Go.RowKit
set_option linter.unusedVariables false
set_option linter.unusedSimpArgs false

theorem feedR_one {P : PrP} (hd : doneR P = false) (x : UInt8) (l : List UInt8) : feedR P ((x :: l).take 1) = (oneR P x, 1) := by
  rw [List.take_succ_cons, List.take_zero, feedR_cons hd, feedR_nil]
theorem oneR_0 {P : PrP} (h : P.phase = 0) (x : UInt8) : oneR P x = headR { P with phase := 1, head := newH, line := [] } x := by unfold oneR; rw [if_neg (by omega), if_pos h]
theorem oneR_1 {P : PrP} (h : P.phase = 1) (x : UInt8) : oneR P x = headR P x := by unfold oneR; rw [if_neg (by omega), if_neg (by omega)]
theorem PrOk.first {P : PrP} (o : PrOk P) (h : P.phase = 0) : PrOk { P with phase := 1, head := newH, line := [] } :=
  ⟨by show 1 ≤ 4; omega, fun _ => o.st (by omega), newH_ok, fun _ => ⟨rfl, rfl, by show (0 : Nat) ≤ 257; omega⟩, fun e => (by rcases e with e | e <;> cases e), fun e => (by cases e), fun e => (by cases e)⟩
/-- A byte stands where a row begins. -/
theorem BsAt.fst {w : World} {A : Option Addr} {n c : Nat} {x : UInt8} {l : List UInt8} (h : BsAt w (.slice A n c) (x :: l)) : ∃ b off, A = some ⟨b, off, none⟩ ∧ n = l.length + 1 ∧ w.cell? ⟨b, off, none⟩ = some (.int .u8 (x.toNat : Int)) := by
  rcases h with ⟨e, _⟩ | ⟨b, off, cap, hv, _, _, _, _, hc⟩
  · cases e
  · injection hv with e1 e2 e3
    exact ⟨b, off, e1, e2, hc 0 (by simp)⟩
/-- What a step of a row leaves: so many bytes were taken. -/
def Stepped (F : List Nat) (w : World) (g : Nat) (P : PrP) (l : List UInt8) (z : Ending) (w' : World) : Prop := ∃ (k : Nat) (Q : PrP), z = .returned (.int .i64 k) ∧ 1 ≤ k ∧ k ≤ l.length ∧ feedR P (l.take k) = (Q, k) ∧ FedP F w g Q w'
theorem stepped_one {F : List Nat} {w w' : World} {g : Nat} {P Q : PrP} {x : UInt8} {l : List UInt8} (hd : doneR P = false) (hq : oneR P x = Q) (h : FedP F w g Q w') : Stepped F w g P (x :: l) (.returned (.int .i64 1)) w' := ⟨1, Q, rfl, Nat.le_refl _, by simp, by rw [feedR_one hd, hq], h⟩
theorem stepped_all {F : List Nat} {w w' : World} {g : Nat} {P : PrP} {l : List UInt8} (hd : doneR P = false) (h0 : l ≠ []) (h : FedP F w g (feedR P l).1 w') : Stepped F w g P l (.returned (.int .i64 ((feedR P l).2 : Nat))) w' := ⟨_, _, rfl, feedR_pos hd h0, feedR_le l P, feedR_take l P, h⟩
set_option maxRecDepth 10000 in
set_option maxHeartbeats 2000000 in
theorem take_p {F : List Nat} {w : World} {g : Nat} {P : PrP} (p : Value) (l : List UInt8) (hp : BsAt w p l) (hF : 0 < l.length → ∀ k ∈ p.ownBlock.toList, k ∉ F) (a : PaA F w g P) (hd : doneR P = false) (h0 : l ≠ []) (hl : l.length ≤ 1000000) :
    Calls Tryz.prog 32 #[ptr g, p] w fun z w' => Hid (Stepped F w g P l z w') := by
  obtain ⟨vl, vb, hv, cv, FH, FC, L, B, cm, lf, c, rfl, r⟩ := a.ex
  have o := a.ok
  have hph := doneR_no hd
  have hst := o.st (by omega)
  have hpos := List.length_pos_iff.2 h0
  rw [hst] at c
  obtain ⟨A, cp, rfl⟩ := hp.len
  have HD := Lib.hid (And.intro hd h0)
  unfold ptr
  rcases r with ⟨p0, rfl, rfl, rfl, rfl, rfl⟩ | ⟨p1, rfl, rfl, rfl, rfl, rfl, hb, rfl, ha⟩ | ⟨p2, hk, rfl, rfl, hlf, rfl, rfl, hb, rfl, ha⟩ | ⟨p2, hk, rfl, ⟨cb, rfl, hc⟩, hb, rfl, ha⟩ | ⟨p3, -⟩ | p4
  · match l, h0 with
    | x :: l, _ =>
      obtain ⟨b, off, rfl, hn, hx⟩ := hp.fst
      have HT := Lib.hid (takehead_0 (P := P) (o.first p0) rfl (show PaM g vl vb hv (.pointer none) FH [] w 0 0 [] [] false lf by rw [p0] at c; exact c) x)
      have c0 : w.cell? ⟨g, 0, none⟩ = some (.int .i64 0) := by have := c.row.cell 0; rw [p0] at this; exact this
      have HQ := Lib.hid (oneR_0 p0 x)
      unfold ptr at HT
      clear a c o hph hst hpos hp hF hd h0 p0
      simp only [List.length_cons] at *
      go_enter Tryz.func32, Tryz.ntmps32
      go_wp2_with (go_at_call 42; refine HT.out.mono ?_; rintro z w5 ⟨rfl, hk⟩; have HK := Lib.hid hk.out; clear hk)
      go_ret
      exact Lib.hid (stepped_one HD.out.1 HQ.out HK.out)
  · match l, h0 with
    | x :: l, _ =>
      obtain ⟨b, off, rfl, hn, hx⟩ := hp.fst
      have HT := Lib.hid (takehead_1 o p1 (show PaM g vl vb (ptr hb) (.pointer none) FH [] w 1 0 P.line [] false lf by rw [p1] at c; exact c) ha x)
      have c0 : w.cell? ⟨g, 0, none⟩ = some (.int .i64 1) := by have := c.row.cell 0; rw [p1] at this; exact this
      have HQ := Lib.hid (oneR_1 p1 x)
      unfold ptr at HT
      clear a c o hph hst hpos hp hF hd h0 p1 ha
      simp only [List.length_cons] at *
      go_enter Tryz.func32, Tryz.ntmps32
      go_wp2_with (go_at_call 42; refine HT.out.mono ?_; rintro z w5 ⟨rfl, hk⟩; have HK := Lib.hid hk.out; clear hk)
      go_ret
      exact Lib.hid (stepped_one HD.out.1 HQ.out HK.out)
  · have c2 : PaM g vl vb (ptr hb) (.pointer none) FH [] w 2 0 L P.body P.came lf := by rw [p2] at c; exact c
    have k2 := PM.set (cs' := paCells 2 0 (ptr hb) true lf (.pointer none)) c2 4 (.bool true) rfl
    have g2 := PM.set_grew c2 4 (.bool true)
    have m2 : Mods [g] w (w.setCell ⟨g, 4, none⟩ (.bool true)) := (Mods.refl [g] w).setCell (.inl (by simp)) _
    have c0 : w.cell? ⟨g, 0, none⟩ = some (.int .i64 2) := c2.row.cell 0
    have c4 : w.cell? ⟨g, 4, none⟩ = some (.bool P.came) := c2.row.cell 4
    have f4 := c2.row.free 4
    obtain ⟨W, hW⟩ : ∃ W, W = w.setCell ⟨g, 4, none⟩ (.bool true) := ⟨_, rfl⟩
    rw [← hW] at k2 g2 m2
    have HT := Lib.hid (takelen_p o p2 hk k2 hlf (ha.mods m2 (fun k hk => by simpa using (c2.hd k hk).2.1)) _ l (hp.mods m2 (fun k hk h => by rw [List.mem_singleton] at h; exact hF hpos k hk (by rw [h]; simp))) h0 hl)
    have e6 : W.cell? ⟨g, 6, none⟩ = some (.pointer none) := k2.row.cell 6
    have G2 := Lib.hid g2
    unfold ptr at HT
    clear a c o hph hst hpos hp hF hd h0 p2 ha c2 k2 g2 m2 hk hlf
    generalize l.length = ln at *
    go_enter Tryz.func32, Tryz.ntmps32
    go_upto_region 5 with fail
    rw [← hW]
    clear hW c0 c4 f4
    go_wp2_with (go_at_call 44; refine HT.out.mono ?_; rintro z w5 ⟨rfl, hk⟩; have HK := Lib.hid hk.out; clear hk)
    go_ret
    exact Lib.hid (stepped_all HD.out.1 HD.out.2 (FedP.trans G2.out HK.out))
  · have c2 : PaM g vl vb (ptr hb) (ptr cb) FH FC w 2 0 L B P.came lf := by rw [p2] at c; exact c
    have k2 := PM.set (cs' := paCells 2 0 (ptr hb) true lf (ptr cb)) c2 4 (.bool true) rfl
    have g2 := PM.set_grew c2 4 (.bool true)
    have m2 : Mods [g] w (w.setCell ⟨g, 4, none⟩ (.bool true)) := (Mods.refl [g] w).setCell (.inl (by simp)) _
    have c0 : w.cell? ⟨g, 0, none⟩ = some (.int .i64 2) := c2.row.cell 0
    have c4 : w.cell? ⟨g, 4, none⟩ = some (.bool P.came) := c2.row.cell 4
    have f4 := c2.row.free 4
    obtain ⟨W, hW⟩ : ∃ W, W = w.setCell ⟨g, 4, none⟩ (.bool true) := ⟨_, rfl⟩
    rw [← hW] at k2 g2 m2
    have HT := Lib.hid (takechk_p o p2 hk k2 (ha.mods m2 (fun k hk => by simpa using (c2.hd k hk).2.1)) (hc.mods m2 (fun k hk => by simpa using (c2.ck k hk).2.1)) _ l (hp.mods m2 (fun k hk h => by rw [List.mem_singleton] at h; exact hF hpos k hk (by rw [h]; simp))) (fun h k hk hk2 => hF h k hk (by simp [hk2])) h0 hl)
    have e6 : W.cell? ⟨g, 6, none⟩ = some (ptr cb) := k2.row.cell 6
    have G2 := Lib.hid g2
    unfold ptr at HT e6
    clear a c o hph hst hpos hp hF hd h0 p2 ha hc c2 k2 g2 m2 hk
    generalize l.length = ln at *
    go_enter Tryz.func32, Tryz.ntmps32
    go_upto_region 5 with fail
    rw [← hW]
    clear hW c0 c4 f4
    go_wp2_with (go_at_call 43; refine HT.out.mono ?_; rintro z w5 ⟨rfl, hk⟩; have HK := Lib.hid hk.out; clear hk)
    go_ret
    exact Lib.hid (stepped_all HD.out.1 HD.out.2 (FedP.trans G2.out HK.out))
  · omega
  · omega
/-- The first k bytes were taken. -/
def FedK (P : PrP) (l : List UInt8) (k : Nat) (Q : PrP) : Prop := feedR P (l.take k) = (Q, k)
theorem FedK.next {P Q R : PrP} {l : List UInt8} {k m : Nat} (h : FedK P l k Q) (hm : feedR Q ((l.drop k).take m) = (R, m)) : FedK P l (k + m) R := by
  unfold FedK at *
  rw [List.take_add, feedR_app, h]
  show ((feedR Q ((l.drop k).take m)).1, k + (feedR Q ((l.drop k).take m)).2) = _
  rw [hm]
theorem FedK.stop {P Q : PrP} {l : List UInt8} {k : Nat} (h : FedK P l k Q) (hd : doneR Q = true ∨ l.length ≤ k) : feedR P l = (Q, k) := by
  unfold FedK at h
  rcases hd with hd | hd
  · have e := feedR_app (l.take k) (l.drop k) P
    rw [List.take_append_drop, h] at e
    rw [e]
    show ((feedR Q (l.drop k)).1, k + (feedR Q (l.drop k)).2) = _
    rw [feedR_done hd]; rfl
  · rw [List.take_of_length_le hd] at h; exact h
theorem FedP.next {F : List Nat} {w w1 w2 : World} {g : Nat} {P Q : PrP} (h : FedP F w g P w1) (hn : ∀ F1, PaA F1 w1 g P → Grew F F1 w w1 → FedP F1 w1 g Q w2) : FedP F w g Q w2 := by
  obtain ⟨F1, a, h1⟩ := h
  exact FedP.trans h1 (hn F1 a h1)
set_option maxRecDepth 10000 in
set_option maxHeartbeats 2000000 in
theorem feed_p {F : List Nat} {w : World} {g : Nat} {P : PrP} (p : Value) (l : List UInt8) (hp : BsAt w p l) (hF : 0 < l.length → ∀ k ∈ p.ownBlock.toList, k ∉ F) (a : PaA F w g P) (hl : l.length ≤ 1000000) :
    Calls Tryz.prog 24 #[ptr g, p] w fun z w' => z = .returned (.int .i64 ((feedR P l).2 : Nat)) ∧ Hid (FedP F w g (feedR P l).1 w') := by
  have HP := Lib.hid hp
  have HFF := Lib.hid hF
  have HA := Lib.hid (FedP.refl a)
  obtain ⟨A, c, rfl⟩ := hp.len
  have hcp : 0 < l.length → l.length ≤ c := fun h0 => by
    rcases hp with ⟨rfl, _⟩ | ⟨_, _, _, hv, _, _, h1, _⟩
    · cases h0
    · injection hv with _ _ e; omega
  have HCP := Lib.hid hcp
  clear hp hF a hcp
  unfold ptr
  go_enter Tryz.func24, Tryz.ntmps24
  go_wp2
  go_loopw [5] (fun n wr => ∃ (k : Nat) (Q : PrP), k ≤ l.length ∧ n = .int .i64 k ∧ Hid (FedK P l k Q) ∧ Hid (FedP F w g Q wr)) (fun n _ => l.length - (intOf n).toNat)
  case atStart => exact ⟨0, P, Nat.zero_le _, rfl, Lib.hid (by unfold FedK; rw [List.take_zero, feedR_nil]), HA⟩
  case round =>
    obtain ⟨k, Q, hk, rfl, HFD, HC⟩ := hrel
    clear HA
    obtain ⟨F1, a1, hg1⟩ := HC.out
    obtain ⟨vl, vb, hv, cv, FH, FC, L, B, cm, lf, cc, hF1, hz⟩ := a1.ex
    have d0 : wr.cell? ⟨g, 0, none⟩ = some (.int .i64 (Q.phase : Nat)) := cc.row.cell 0
    have hph := a1.ok.ph
    clear cc hz hF1 vl vb hv cv FH FC L B cm lf
    obtain ⟨ph, hphe⟩ : ∃ ph, ph = Q.phase := ⟨_, rfl⟩
    rw [← hphe] at d0 hph
    have HPH := Lib.hid hphe
    clear hphe
    have hcase : l.length ≤ k ∨ (k < l.length ∧ ph = 3) ∨ (k < l.length ∧ ph = 4) ∨ (k < l.length ∧ ph < 3) := by omega
    rcases hcase with h | ⟨h, rfl⟩ | ⟨h, rfl⟩ | ⟨h, h3⟩
    · obtain rfl : k = l.length := by omega
      have HE := Lib.hid (HFD.out.stop (.inr (Nat.le_refl _)))
      clear a1 hg1 h hk
      go_wp2
      go_ret
      exact ⟨by rw [HE.out]; rfl, Lib.hid (by rw [HE.out]; exact HC.out)⟩
    · have HE := Lib.hid (HFD.out.stop (.inl (by unfold doneR; rw [← HPH.out]; rfl)))
      clear a1 hg1 hk
      go_wp2
      go_ret
      exact ⟨by rw [HE.out]; rfl, Lib.hid (by rw [HE.out]; exact HC.out)⟩
    · have HE := Lib.hid (HFD.out.stop (.inl (by unfold doneR; rw [← HPH.out]; rfl)))
      clear a1 hg1 hk
      go_wp2
      go_ret
      exact ⟨by rw [HE.out]; rfl, Lib.hid (by rw [HE.out]; exact HC.out)⟩
    · have hd : doneR Q = false := by unfold doneR; rw [← HPH.out]; exact decide_eq_false (by omega)
      have n3 : ((ph : Int) != 3) = true := by rw [bne_iff_ne]; omega
      have n4 : ((ph : Int) != 4) = true := by rw [bne_iff_ne]; omega
      have hcp := HCP.out (by omega)
      have hkc : k ≤ c := by omega
      have h1 : BsAt wr (.slice A l.length c) l := by
        rcases HP.out with ⟨e, _⟩ | q
        · rw [e] at h; cases h
        · exact BsAt.mods (.inr q) hg1.mods (HFF.out (by omega))
      have hown := HFF.out (by omega)
      have HT := Lib.hid (take_p _ (l.drop k) (h1.from' k hk (A2 := Option.map (fun x => x.add k) A) (by rw [if_neg (by omega)]) (l.length - k) (c - k) rfl rfl) (fun _ q hq hq2 => by
        have hb : q ∈ (Value.slice A l.length c).ownBlock.toList := by
          cases A with
          | none => simp [Value.ownBlock] at hq
          | some aa =>
            obtain ⟨ab, ao, asp⟩ := aa
            have e9 : ((⟨ab, ao, asp⟩ : Addr).add k).block = ab := by unfold Addr.add; split <;> rfl
            simpa [Value.ownBlock, e9] using hq
        rcases hg1.news q hq2 with e | e
        · exact hown q hb e
        · have := HP.out.lt (by omega) q hb; omega) a1 hd (by intro e; have := congrArg List.length e; rw [List.length_drop] at this; simp at this; omega) (by rw [List.length_drop]; omega))
      have HG1 := Lib.hid hg1
      unfold ptr at HT
      clear a1 hg1 hd h1 hown HC
      go_wp2_with (go_at_call 32; refine HT.out.mono ?_; rintro z w2 hk2; obtain ⟨m, R, rfl, hm1, hm2, hm3, hm4⟩ := hk2.out; rw [List.length_drop] at hm2; have HN := Lib.hid (HFD.out.next hm3); have HK := Lib.hid (FedP.trans HG1.out hm4); clear hk2 hm3 hm4)
      go_roundw
      case rel => exact ⟨k + m, R, by omega, by go_num, HN, HK⟩
      case measure => simp [intOf]; omega
end Go.Proofs.YtgkhelbpccehcaaGreatDoor

/- The code's parser: Feed, New, Phase, Status, Waits. Conditions: rows of at most a million bytes in all. -/
namespace Go.Proofs.YtgkhelbpccehcaaGreatDoor
open Go.RowKit
set_option linter.unusedVariables false
set_option linter.unusedSimpArgs false

theorem BsAt.mods' {W W' : World} {v : Value} {l : List UInt8} {F : List Nat} (h : BsAt W v l) (hm : Mods F W W') (hn : 0 < l.length → ∀ k ∈ v.ownBlock.toList, k ∉ F) : BsAt W' v l := by
  rcases h with h | ⟨b, off, cap, hv, h0, h1⟩
  · exact .inl h
  · exact BsAt.mods (.inr ⟨b, off, cap, hv, h0, h1⟩) hm (hn h0)
/-- Rows of bytes behind a slice of slices, apart from blocks F. -/
def PsAp (W : World) (v : Value) (ps : List (List UInt8)) (F : List Nat) : Prop :=
  (ps = [] ∧ ∃ a cap, v = .slice a 0 cap) ∨
  ∃ (b off cap : Nat), v = .slice (some ⟨b, off, none⟩) ps.length cap ∧ 0 < ps.length ∧ b < W.heap.size ∧ b ∉ F ∧ ∀ j (h : j < ps.length), ∃ u, W.cell? ⟨b, off + j, none⟩ = some u ∧ BsAt W u ps[j] ∧ (0 < ps[j].length → ∀ k ∈ u.ownBlock.toList, k ∉ F)
theorem PsAp.len {W : World} {v : Value} {ps : List (List UInt8)} {F : List Nat} (h : PsAp W v ps F) : ∃ a cap, v = .slice a ps.length cap := by
  rcases h with ⟨rfl, a, cap, rfl⟩ | ⟨b, off, cap, rfl, _⟩
  · exact ⟨a, cap, rfl⟩
  · exact ⟨_, cap, rfl⟩
theorem PsAp.next {W W' : World} {v : Value} {ps : List (List UInt8)} {F F' : List Nat} (h : PsAp W v ps F) (hg : Grew F F' W W') : PsAp W' v ps F' := by
  rcases h with h | ⟨b, off, cap, rfl, h0, hlt, hb, hc⟩
  · exact .inl h
  · refine .inr ⟨b, off, cap, rfl, h0, Nat.lt_of_lt_of_le hlt hg.mods.size, fun e => ?_, fun j hj => ?_⟩
    · rcases hg.news b e with e | e
      · exact hb e
      · omega
    · obtain ⟨u, h1, h2, h3⟩ := hc j hj
      refine ⟨u, cell_mods h1 hg.mods hb, h2.mods' hg.mods h3, fun hp k hk e => ?_⟩
      rcases hg.news k e with e | e
      · exact h3 hp k hk e
      · have := h2.lt hp k hk; omega
theorem PsAp.row {W : World} {v : Value} {ps : List (List UInt8)} {F : List Nat} (h : PsAp W v ps F) {j : Nat} (hj : j < ps.length) : ∃ b off cap u, v = .slice (some ⟨b, off, none⟩) ps.length cap ∧ W.cell? ⟨b, off + j, none⟩ = some u ∧ BsAt W u ps[j] ∧ (0 < ps[j].length → ∀ k ∈ u.ownBlock.toList, k ∉ F) := by
  rcases h with ⟨rfl, _⟩ | ⟨b, off, cap, rfl, h0, hlt, hb, hc⟩
  · cases hj
  · obtain ⟨u, h1⟩ := hc j hj
    exact ⟨b, off, cap, u, rfl, h1⟩
theorem flatR_at (ps : List (List UInt8)) (j : Nat) (hj : j < ps.length) : (ps.take (j + 1)).flatten = (ps.take j).flatten ++ ps[j] := by
  rw [List.take_succ_eq_append_getElem hj, List.flatten_append]; simp
theorem flatR_len (ps : List (List UInt8)) (j : Nat) (hj : j < ps.length) : (ps.take j).flatten.length + ps[j].length ≤ ps.flatten.length := by
  have h1 := congrArg List.length (flatR_at ps j hj)
  have h2 : ps.flatten.length = (ps.take (j + 1)).flatten.length + (ps.drop (j + 1)).flatten.length := by rw [← List.length_append, ← List.flatten_append, List.take_append_drop]
  rw [List.length_append] at h1; omega
set_option maxRecDepth 10000 in
set_option maxHeartbeats 2000000 in
theorem feedr_p {F : List Nat} {w : World} {g : Nat} {P : PrP} (v : Value) (ps : List (List UInt8)) (hp : PsAp w v ps F) (a : PaA F w g P) (hl : ps.flatten.length ≤ 1000000) (hn : ps.length ≤ 1000000) :
    Calls Tryz.prog 11 #[ptr g, v] w fun z w' => z = .returned (.int .i64 ((feedR P ps.flatten).2 : Nat)) ∧ Hid (FedP F w g (feedR P ps.flatten).1 w') := by
  have HP := Lib.hid hp
  have HA := Lib.hid (FedP.refl a)
  obtain ⟨A, c, rfl⟩ := hp.len
  clear hp a
  unfold ptr
  go_enter Tryz.func11, Tryz.ntmps11
  go_wp2
  go_loopw [5, 7, 12] (fun n _ i wr => ∃ (j m : Nat) (Q : PrP), j ≤ ps.length ∧ m ≤ (ps.take j).flatten.length ∧ i = .int .i64 j ∧ n = .int .i64 m ∧ Hid (feedR P (ps.take j).flatten = (Q, m)) ∧ Hid (FedP F w g Q wr)) (fun _ _ i _ => ps.length - (intOf i).toNat)
  case atStart => exact ⟨0, 0, P, Nat.zero_le _, Nat.zero_le _, rfl, rfl, Lib.hid (by rw [List.take_zero]; rfl), HA⟩
  case round =>
    obtain ⟨j, m, Q, hj, hmj, rfl, rfl, HFD, HC⟩ := hrel
    clear HA
    by_cases hlt : j < ps.length
    · obtain ⟨F1, a1, hg1⟩ := HC.out
      obtain ⟨b, off, cap, u, hv, hcell, hbs, hap⟩ := (HP.out.next hg1).row hlt
      injection hv with e1 e2 e3
      subst e1
      subst e3
      have hfl := flatR_len ps j hlt
      have HT := Lib.hid (feed_p u ps[j] hbs hap a1 (by omega))
      have hle := feedR_le ps[j] Q
      have HG1 := Lib.hid hg1
      have HFL := Lib.hid (flatR_at ps j hlt)
      unfold ptr at HT
      obtain ⟨R, k, hr⟩ : ∃ R k, feedR Q ps[j] = (R, k) := ⟨_, _, rfl⟩
      rw [hr] at HT hle
      simp only at HT hle
      have HN := Lib.hid (show feedR P (ps.take (j + 1)).flatten = (R, m + k) by
        rw [HFL.out, feedR_app, HFD.out]
        show ((feedR Q ps[j]).1, m + (feedR Q ps[j]).2) = _
        rw [hr])
      have hbd : m + k ≤ (ps.take (j + 1)).flatten.length := by rw [HFL.out, List.length_append]; omega
      have hbd2 : m + k ≤ 1000000 := by omega
      have HBD := Lib.hid hbd
      clear a1 hg1 hr hbs hap HC hbd hfl hle hmj
      go_wp2_with (go_at_call 24; refine HT.out.mono ?_; rintro z w2 ⟨rfl, hk⟩; have HK := Lib.hid (FedP.trans HG1.out hk.out); clear hk)
      go_roundw
      case rel => exact ⟨j + 1, m + k, R, by omega, HBD.out, by go_num, by go_num, HN, HK⟩
      case measure => simp [intOf]; omega
    · obtain rfl : j = ps.length := by omega
      have HE := Lib.hid (show feedR P ps.flatten = (Q, m) by have := HFD.out; rw [List.take_length] at this; exact this)
      go_wp2
      go_ret
      exact ⟨by rw [HE.out]; rfl, Lib.hid (by rw [HE.out]; exact HC.out)⟩
set_option maxRecDepth 10000 in
theorem phase_p {F : List Nat} {w : World} {g : Nat} {P : PrP} (a : PaA F w g P) : Calls Tryz.prog 19 #[ptr g] w fun z w' => z = .returned (.int .i64 (P.phase : Nat)) ∧ w = w' := by
  obtain ⟨vl, vb, hv, cv, FH, FC, L, B, cm, lf, c, -, -⟩ := a.ex
  have d0 : w.cell? ⟨g, 0, none⟩ = some (.int .i64 (P.phase : Nat)) := c.row.cell 0
  clear c a
  unfold ptr
  go_enter Tryz.func19, Tryz.ntmps19
  go_wp2
  go_ret
  exact ⟨rfl, rfl⟩
set_option maxRecDepth 10000 in
theorem status_p {F : List Nat} {w : World} {g : Nat} {P : PrP} (a : PaA F w g P) : Calls Tryz.prog 20 #[ptr g] w fun z w' => z = .returned (.int .i64 P.status) ∧ w = w' := by
  obtain ⟨vl, vb, hv, cv, FH, FC, L, B, cm, lf, c, -, -⟩ := a.ex
  have d0 : w.cell? ⟨g, 1, none⟩ = some (.int .i64 P.status) := c.row.cell 1
  clear c a
  unfold ptr
  go_enter Tryz.func20, Tryz.ntmps20
  go_wp2
  go_ret
  exact ⟨rfl, rfl⟩
theorem fld_exp (k l : Int) (c x : Bool) (w : World) : (Instr.field 65 (.agg #[.int .i64 k, .int .i64 l, .bool c, .bool x]) 3).run Tryz.prog w = .ok (.bool x) w := by kernel_rfl
theorem waits_2 {P : PrP} (h : P.phase = 2) : waitsR P = (P.how.expect && !P.came) := by unfold waitsR; rw [h]; rfl
theorem waits_no {P : PrP} (h : P.phase ≠ 2) : waitsR P = false := by unfold waitsR; rw [decide_eq_false h]; rfl
set_option maxRecDepth 10000 in
set_option maxHeartbeats 1000000 in
theorem waits_p {F : List Nat} {w : World} {g : Nat} {P : PrP} (a : PaA F w g P) : Calls Tryz.prog 21 #[ptr g] w fun z w' => z = .returned (.bool (waitsR P)) ∧ Mods [] w w' := by
  obtain ⟨vl, vb, hv, cv, FH, FC, L, B, cm, lf, c, -, r⟩ := a.ex
  have o := a.ok
  have d0 : w.cell? ⟨g, 0, none⟩ = some (.int .i64 (P.phase : Nat)) := c.row.cell 0
  unfold ptr
  by_cases h2 : P.phase = 2
  · have hh : cm = P.came ∧ ∃ hb, hv = ptr hb ∧ HdA FH w hb P.head := by
      rcases r with ⟨p, -⟩ | ⟨p, -⟩ | ⟨-, -, -, e, -, -, -, q⟩ | ⟨-, -, e, -, q⟩ | ⟨p, -⟩ | p
      · omega
      · omega
      · exact ⟨e, q⟩
      · exact ⟨e, q⟩
      · omega
      · omega
    obtain ⟨rfl, hb, rfl, ha⟩ := hh
    have d4 : w.cell? ⟨g, 4, none⟩ = some (.bool P.came) := c.row.cell 4
    have d3 : w.cell? ⟨g, 3, none⟩ = some (ptr hb) := c.row.cell 3
    have HH := Lib.hid (how_a ha)
    rw [o.how (.inl h2)] at HH
    have HW := Lib.hid (waits_2 h2)
    rw [h2] at d0
    unfold ptr howV at *
    clear a o c r h2 ha
    obtain ⟨cm, hcm⟩ : ∃ cm, cm = P.came := ⟨_, rfl⟩
    rw [← hcm] at d4 HW
    clear hcm
    obtain ⟨kd, hk⟩ : ∃ kd, kd = P.how.kind := ⟨_, rfl⟩
    obtain ⟨ln, hl⟩ : ∃ ln, ln = P.how.length := ⟨_, rfl⟩
    obtain ⟨cl, hcl⟩ : ∃ cl, cl = P.how.close := ⟨_, rfl⟩
    obtain ⟨xp, hxp⟩ : ∃ xp, xp = P.how.expect := ⟨_, rfl⟩
    rw [← hk, ← hl, ← hcl, ← hxp] at HH
    rw [← hxp] at HW
    clear hk hl hcl hxp
    cases cm with
    | true =>
      go_enter Tryz.func21, Tryz.ntmps21
      go_wp2
      go_ret
      exact ⟨by rw [HW.out]; simp, Mods.refl _ _⟩
    | false =>
      go_enter Tryz.func21, Tryz.ntmps21
      go_wp2_with (go_at_call 29; refine HH.out.mono ?_; rintro z w1 ⟨rfl, hm⟩; have M1 := Lib.hid hm; have hfx := fld_exp kd ln cl xp w1; clear hm)
      go_ret
      exact ⟨by rw [HW.out]; simp, M1.out⟩
  · have HW := Lib.hid (waits_no h2)
    have hne : ((P.phase : Int) == 2) = false := by rw [beq_eq_false_iff_ne]; omega
    clear a o c r h2
    generalize P.phase = ph at *
    go_enter Tryz.func21, Tryz.ntmps21
    go_wp2
    go_ret
    exact ⟨by rw [HW.out]; rfl, Mods.refl _ _⟩
set_option maxRecDepth 10000 in
theorem new_p (w : World) : Calls Tryz.prog 9 #[] w fun z w' => ∃ g F, z = .returned (ptr g) ∧ Hid (PaA F w' g newR ∧ Mods [] w w' ∧ ∀ k ∈ F, w.heap.size ≤ k) := by
  have HC := Lib.hid (pa_new w)
  have HM := Lib.hid ((Mods.refl [] w).alloc (.cells (paCells 0 0 (.pointer none) false 0 (.pointer none) (.slice none 0 0) (.slice none 0 0)) 58))
  unfold paCells at HC HM
  unfold ptr
  go_enter Tryz.func9, Tryz.ntmps9
  go_wp2
  go_ret
  exact ⟨_, _, rfl, Lib.hid ⟨HC.out, HM.out, fun k hk => by simp [Value.ownBlock] at hk; omega⟩⟩
end Go.Proofs.YtgkhelbpccehcaaGreatDoor
