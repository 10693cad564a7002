/- What chapter 15's laws ask of plain parsers, one by one. No program but for what Parse answers. -/
import Derived.Test.YtgkhelbpccehcaaGreatDoorMQH
import Derived.Test.YtgkhelbpccehcaaGreatDoorMQG
import Derived.Test.YtgkhelbpccehcaaGreatDoorMQF
import Derived.Test.YtgkhelbpccehcaaGreatDoorLower
import Derived.Test.YtgkhelbpccehcaaGreatDoorMQA
import Derived.Deep.RegionHeld3
import Derived.BigRegion
import Derived.Deep.DeepCutAuto
import Derived.Deep.CutBlock
import Derived.BigQuiet
namespace Go.Proofs.YtgkhelbpccehcaaGreatDoor
open Go.RowKit
set_option linter.unusedVariables false
set_option linter.unusedSimpArgs false

/-! Cuts. -/
theorem cut_next {l : List UInt8} {R P Q : PrP} {k m n : Nat} (h : feedR R (l.take n) = (P, n)) (hn : n ≤ l.length) (hm : feedR P ((l.drop n).take k) = (Q, m)) : feedR R (l.take (n + m)) = (Q, n + m) := by
  have hle := feedR_le ((l.drop n).take k) P
  rw [hm, List.length_take] at hle
  have ht := feedR_take ((l.drop n).take k) P
  rw [hm] at ht
  change feedR P (((l.drop n).take k).take m) = (Q, m) at ht
  rw [List.take_take, Nat.min_eq_left (by simp only at hle; omega)] at ht
  rw [List.take_add, feedR_app, h]
  show ((feedR P ((l.drop n).take m)).1, n + (feedR P ((l.drop n).take m)).2) = _
  rw [ht]
theorem cut_last {l : List UInt8} {R P Q : PrP} {m n : Nat} (h : feedR R (l.take n) = (P, n)) (hm : feedR P (l.drop n) = (Q, m)) : feedR R l = (Q, n + m) := by
  have e := feedR_app (l.take n) (l.drop n) R
  rw [List.take_append_drop, h] at e
  rw [e]
  show ((feedR P (l.drop n)).1, n + (feedR P (l.drop n)).2) = _
  rw [hm]
theorem cut_stop {P Q : PrP} {a : List UInt8} {m : Nat} (h : feedR P a = (Q, m)) (hm : m < a.length) : 3 ≤ Q.phase := by
  have := feedR_lt a P (by rw [h]; exact hm)
  rw [h] at this
  unfold doneR at this
  exact of_decide_eq_true this

/-! Long lines. -/
theorem feed_first {p : PrP} (hp : p.phase = 0) (c : UInt8) (l : List UInt8) : feedR p (c :: l) = feedR (InR p newH []) (c :: l) := by
  have hd : doneR p = false := by unfold doneR; rw [hp]; rfl
  have e : oneR p c = oneR (InR p newH []) c := by
    rw [oneR_in]
    unfold oneR
    rw [if_neg (by rw [hp]; decide), if_pos hp]
    rfl
  rw [feedR_cons hd, e, ← feedR_cons (doneR_in p newH [])]
theorem in_self {p : PrP} (h1 : p.phase = 1) (h2 : p.line = []) : InR p p.head [] = p := by
  cases p
  simp only at h1 h2
  subst h1; subst h2
  rfl
def getS : List UInt8 := [71, 69, 84, 32, 47]
def preF : List UInt8 := [71, 69, 84, 32, 47, 32, 72, 84, 84, 80, 47, 49, 46, 49, 13, 10, 72, 111, 115, 116, 58, 32, 97, 13, 10]
def bs98 (n : Nat) : List UInt8 := List.replicate n 98
theorem bs98_len (n : Nat) : (bs98 n).length = n := List.length_replicate
theorem bs98_10 (n : Nat) : ∀ x ∈ bs98 n, x ≠ 10 := fun x hx => by rw [List.eq_of_mem_replicate hx]; decide
theorem short_line (p : PrP) (h : HdP) (l : List UInt8) (h10 : ∀ x ∈ l, x ≠ 10) (hl : l.length ≤ 256) : feedR (InR p h []) (l ++ [13]) = (InR p h (l ++ [13]), l.length + 1) := by
  have g := (rline_goes p h l [] h10 (by simp; omega)).app (rcr_goes p h ([] ++ l) (by simp; omega))
  rw [List.nil_append] at g
  unfold GoesR at g
  rw [g]
  simp
theorem getS_short {n : Nat} (hn : 5 + n ≤ 256) : ∃ r, feedR newR (getS ++ bs98 n ++ [13]) = (r, 5 + n + 1) ∧ r.phase = 1 ∧ r.status = 0 := by
  have e : getS ++ bs98 n ++ [13] = 71 :: ([69, 84, 32, 47] ++ bs98 n ++ [13]) := rfl
  have hz : (getS ++ bs98 n).length = 5 + n := by rw [List.length_append, bs98_len]; rfl
  have h10 : ∀ x ∈ getS ++ bs98 n, x ≠ 10 := fun x hx => by
    rcases List.mem_append.1 hx with h | h
    · exact (by decide : ∀ x ∈ getS, x ≠ 10) x h
    · exact bs98_10 n x h
  rw [e, feed_first rfl, ← e, short_line newR newH _ h10 (by omega), hz]
  exact ⟨_, rfl, rfl, rfl⟩
theorem getS_long {n : Nat} (hn : 256 < 5 + n) : ∃ r, feedR newR (getS ++ bs98 n ++ [13]) = (r, 257) ∧ r.phase = 4 ∧ r.status = 414 := by
  have e : getS ++ bs98 n ++ [13] = 71 :: ([69, 84, 32, 47] ++ bs98 n ++ [13]) := rfl
  have e2 : getS ++ bs98 n ++ [13] = (getS ++ bs98 251) ++ 98 :: (bs98 (n - 252) ++ [13]) := by
    have : bs98 n = bs98 251 ++ 98 :: bs98 (n - 252) := by
      unfold bs98
      rw [← List.replicate_succ, List.replicate_append_replicate]
      congr 1; omega
    rw [this, List.append_assoc, List.append_assoc, List.append_assoc]; rfl
  have h10 : ∀ x ∈ getS ++ bs98 251, x ≠ 10 := fun x hx => by
    rcases List.mem_append.1 hx with h | h
    · exact (by decide : ∀ x ∈ getS, x ≠ 10) x h
    · exact bs98_10 251 x h
  rw [e, feed_first rfl, ← e, e2, rlong newR newH _ 98 _ h10 (by rw [List.length_append, bs98_len]; rfl) (by decide) (by decide)]
  exact ⟨_, rfl, rfl, rfl⟩
theorem preF_goes : ∃ p : PrP, GoesR newR preF (InR p p.head []) ∧ p.head.started = true ∧ p.status = 0 := by
  have h1 : (feedR newR preF).2 = 25 := by decide +kernel
  have h2 : (feedR newR preF).1.phase = 1 := by decide +kernel
  have h3 : (feedR newR preF).1.line = [] := by decide +kernel
  have h4 : (feedR newR preF).1.head.started = true := by decide +kernel
  have h5 : (feedR newR preF).1.status = 0 := by decide +kernel
  unfold GoesR
  obtain ⟨q, hq⟩ : ∃ q, q = feedR newR preF := ⟨_, rfl⟩
  rw [← hq] at h1 h2 h3 h4 h5 ⊢
  obtain ⟨a, b⟩ := q
  clear hq
  simp only at h1 h2 h3 h4 h5
  subst h1
  exact ⟨a, by rw [in_self h2 h3]; rfl, h4, h5⟩
theorem preF_short {n : Nat} (hn : 2 + n ≤ 256) : ∃ r, feedR newR (preF ++ ([97, 58] ++ bs98 n) ++ [13]) = (r, 25 + (2 + n) + 1) ∧ r.phase = 1 ∧ r.status = 0 := by
  obtain ⟨p, g, h1, h2⟩ := preF_goes
  have hz : ([97, 58] ++ bs98 n).length = 2 + n := by rw [List.length_append, bs98_len]; rfl
  have h10 : ∀ x ∈ [97, 58] ++ bs98 n, x ≠ 10 := fun x hx => by
    rcases List.mem_append.1 hx with h | h
    · exact (by decide : ∀ x ∈ ([97, 58] : List UInt8), x ≠ 10) x h
    · exact bs98_10 n x h
  rw [List.append_assoc, g.more, short_line p p.head _ h10 (by omega), hz]
  exact ⟨_, rfl, rfl, h2⟩
theorem preF_long {n : Nat} (hn : 256 < 2 + n) : ∃ r, feedR newR (preF ++ ([97, 58] ++ bs98 n) ++ [13]) = (r, 25 + 257) ∧ r.phase = 4 ∧ r.status = 431 := by
  obtain ⟨p, g, h1, h2⟩ := preF_goes
  have e2 : [97, 58] ++ bs98 n ++ [13] = ([97, 58] ++ bs98 254) ++ 98 :: (bs98 (n - 255) ++ [13]) := by
    have : bs98 n = bs98 254 ++ 98 :: bs98 (n - 255) := by
      unfold bs98
      rw [← List.replicate_succ, List.replicate_append_replicate]
      congr 1; omega
    rw [this, List.append_assoc, List.append_assoc, List.append_assoc]; rfl
  have h10 : ∀ x ∈ [97, 58] ++ bs98 254, x ≠ 10 := fun x hx => by
    rcases List.mem_append.1 hx with h | h
    · exact (by decide : ∀ x ∈ ([97, 58] : List UInt8), x ≠ 10) x h
    · exact bs98_10 254 x h
  rw [List.append_assoc, g.more, e2, rlong p p.head _ 98 _ h10 (by rw [List.length_append, bs98_len]; rfl) (by decide) (by decide)]
  refine ⟨_, rfl, rfl, ?_⟩
  show longS p.head = 431
  unfold longS; rw [if_pos h1]

/-! Bodies with a length. -/
/-- The head's bytes but for the empty line. -/
def hdX (n : Nat) (ex : Bool) : List UInt8 := lnsC (postX :: linesF (lenS15 n ex))
def hdR (n : Nat) : List UInt8 := lnsC (postR :: linesF (lenS15 n false))
theorem hdX_goes {n : Nat} (ex : Bool) (hn : n ≤ 2048) : feedR newR (hdX n ex ++ [13, 10]) = (begR (InR (newR) (hdW postM ⟨#[47, 120]⟩ 18 n ex) []) (hdW postM ⟨#[47, 120]⟩ 18 n ex), (hdX n ex).length + 2) := by
  have g := (postX_goes ex hn).app (len_end newR postM ⟨#[47, 120]⟩ (b := 18) ex (by decide) hn)
  unfold GoesR at g
  have e : hdX n ex ++ [13, 10] = lnsC (postX :: linesF (lenS15 n ex)) ++ [13, 10] := rfl
  rw [e, g, List.length_append]
  rfl
theorem body_law {body behind : List UInt8} (ex : Bool) (hn : body.length ≤ 2048) : ∃ R1, feedR newR (hdX body.length ex ++ [13, 10]) = (R1, (hdX body.length ex).length + 2) ∧ waitsR R1 = (ex && decide (0 < body.length)) ∧ R1.phase = (if body.length = 0 then 3 else 2) ∧
    (body.length = 0 → rqOf R1 = ⟨ofL postM, pathT ⟨#[47, 120]⟩, 1, lenS15 body.length ex, body, false, ex && decide (0 < body.length)⟩) ∧
    (0 < body.length → ∃ R2 R3, feedR R1 body.dropLast = (R2, body.length - 1) ∧ R2.phase = 2 ∧ waitsR R2 = (ex && decide (body.length = 1)) ∧
      feedR R2 (body.drop (body.length - 1) ++ behind) = (R3, 1) ∧ R3.phase = 3 ∧ rqOf R3 = ⟨ofL postM, pathT ⟨#[47, 120]⟩, 1, lenS15 body.length ex, body, false, ex && decide (0 < body.length)⟩) := by
  have hp := beg_phase newR postM ⟨#[47, 120]⟩ 18 body.length ex
  refine ⟨_, hdX_goes ex hn, ?_, hp, fun h0 => ?_, fun h0 => ?_⟩
  · unfold waitsR
    rw [hp]
    show (decide (_ = 2) && (ex && decide (0 < body.length)) && !false) = _
    by_cases h : body.length = 0
    · rw [if_pos h, decide_eq_false (show ¬ 0 < body.length by omega)]; simp
    · rw [if_neg h]; simp
  · have : body = [] := List.eq_nil_of_length_eq_zero h0
    subst this
    rfl
  · have hne : body ≠ [] := List.length_pos_iff.1 h0
    have g1 := body_most newR postM ⟨#[47, 120]⟩ 18 ex hne
    have g2 := body_last newR postM ⟨#[47, 120]⟩ 18 ex hne
    have hd : body.drop (body.length - 1) = [body.getLast hne] := by
      have e := List.dropLast_concat_getLast hne
      have hz : body.dropLast.length = body.length - 1 := List.length_dropLast
      have : (body.dropLast ++ [body.getLast hne]).drop body.dropLast.length = [body.getLast hne] := List.drop_left
      rw [e, hz] at this
      exact this
    unfold GoesR at g1
    rw [List.length_dropLast] at g1
    refine ⟨_, _, g1, rfl, ?_, by rw [hd]; exact g2.done rfl behind, rfl, rfl⟩
    show (decide ((2 : Nat) = 2) && (ex && decide (0 < body.length)) && !(!body.dropLast.isEmpty)) = _
    rw [decide_eq_true (show 0 < body.length from h0), Bool.not_not]
    have : body.dropLast.isEmpty = decide (body.length = 1) := by
      rw [Bool.eq_iff_iff, List.isEmpty_iff, ← List.length_eq_zero_iff, List.length_dropLast, decide_eq_true_eq]; omega
    rw [this]; simp
/-- A body that looks like a head, and a request behind it. -/
theorem inner_law {inner : List UInt8} (hn : inner.length ≤ 2048) : ∃ R1, feedR newR (hdR inner.length ++ [13, 10] ++ inner ++ lnsC [getZ, noB]) = (R1, (hdR inner.length).length + 2 + inner.length) ∧ R1.phase = 3 ∧ R1.body = inner ∧
    ∃ R2, feedR (takeR R1).1 (lnsC [getZ, noB]) = (R2, (lnsC [getZ, noB]).length) ∧ R2.phase = 3 ∧ (rqOf R2).tgt = pathT ⟨#[47, 122]⟩ := by
  have hp := beg_phase newR postM ⟨#[47]⟩ 17 inner.length false
  have g := (postR_goes false hn).app (len_end newR postM ⟨#[47]⟩ (b := 17) false (by decide) hn)
  have tail : ∀ R1 : PrP, R1.phase = 3 → ∃ R2, feedR (takeR R1).1 (lnsC [getZ, noB]) = (R2, (lnsC [getZ, noB]).length) ∧ R2.phase = 3 ∧ (rqOf R2).tgt = pathT ⟨#[47, 122]⟩ := fun R1 h => by
    have e : (takeR R1).1.phase = 0 := by unfold takeR; rw [if_pos h]
    obtain ⟨R2, g2, h2, h3⟩ := getZ_goes e
    exact ⟨R2, g2, h2, h3⟩
  have e0 : hdR inner.length ++ [13, 10] ++ inner ++ lnsC [getZ, noB] = (lnsC (postR :: linesF (lenS15 inner.length false)) ++ [13, 10]) ++ (inner ++ lnsC [getZ, noB]) := by unfold hdR; simp
  have ez : (lnsC (postR :: linesF (lenS15 inner.length false)) ++ [13, 10]).length = (hdR inner.length).length + 2 := by rw [List.length_append]; rfl
  by_cases h0 : inner.length = 0
  · have : inner = [] := List.eq_nil_of_length_eq_zero h0
    subst this
    replace hp : (begR (InR newR (hdW postM ⟨#[47]⟩ 17 0 false) []) (hdW postM ⟨#[47]⟩ 17 0 false)).phase = 3 := hp.trans (if_pos rfl)
    have hd : doneR (begR (InR newR (hdW postM ⟨#[47]⟩ 17 0 false) []) (hdW postM ⟨#[47]⟩ 17 0 false)) = true := by unfold doneR; rw [show (begR (InR newR (hdW postM ⟨#[47]⟩ 17 0 false) []) (hdW postM ⟨#[47]⟩ 17 0 false)).phase = 3 from hp]; rfl
    rw [e0, List.nil_append, g.done hd, ez]
    exact ⟨_, rfl, hp, rfl, tail _ hp⟩
  · have hne : inner ≠ [] := fun e => h0 (by rw [e]; rfl)
    have g1 := body_most newR postM ⟨#[47]⟩ 17 false hne
    have g2 := body_last newR postM ⟨#[47]⟩ 17 false hne
    have g3 := g.app (g1.app g2)
    rw [List.dropLast_concat_getLast hne] at g3
    have hf := g3.done rfl (lnsC [getZ, noB])
    rw [List.append_assoc] at hf
    rw [e0, hf, List.length_append, ez]
    exact ⟨_, rfl, rfl, rfl, tail _ rfl⟩
/-- What is taken: the request, and what is left. -/
theorem take_w {P : PrP} (h : P.phase = 3) : takeR P = ({ P with phase := 0 }, rqOf P, 0) := by unfold takeR; rw [if_pos h]
theorem take_n {P : PrP} (h : P.phase ≠ 3) : takeR P = (P, noRq, 4) := by unfold takeR; rw [if_neg h]
end Go.Proofs.YtgkhelbpccehcaaGreatDoor

/- Texts made into bytes; the heads that stage 15's laws write. No text of the program. -/
namespace Go.Proofs.YtgkhelbpccehcaaGreatDoor
open Go.RowKit
set_option linter.unusedVariables false
set_option linter.unusedSimpArgs false

/-- A text made into bytes: a row that is new. -/
theorem conv_bs (w : World) (s : ByteArray) (h0 : 0 < s.size) (hs : s.size ≤ 1000000) :
    ∃ (cap : Nat) (W : World), (convert 9 22 (.string s)).run Tryz.prog w = .ok (.slice (some ⟨w.heap.size, 0, none⟩) s.size cap) W ∧ BsAt W (.slice (some ⟨w.heap.size, 0, none⟩) s.size cap) s.data.toList ∧ Mods [] w W ∧ W.heap.size = w.heap.size + 1 := by
  have hcv := run_bytes_of_string (P := Tryz.prog) w 9 22 5 s Tryz.underlying9 Tryz.underlying22 Tryz.underlying5
  have hg := grownCap_ge w s.size 0 5
  have hx : grownCap w s.size 0 5 ≤ maxLen := grownCap_le_maxLen w s.size 0 5 (by unfold maxLen; omega)
  refine ⟨_, _, hcv, .inr ⟨w.heap.size, 0, _, rfl, h0, by simp, hg, by unfold maxLen at hx; omega, fun j hj => ?_⟩, ((Mods.refl [] w).drew).alloc _, by rw [World.size_alloc]; rfl⟩
  rw [Nat.zero_add]
  show (w.drew.alloc _).cell? ⟨w.drew.heap.size, j, none⟩ = _
  rw [World.cell?_alloc_mark, bytesRow_at s _ j hj]
  simp
def pX : ByteArray := ⟨#[80, 79, 83, 84, 32, 47, 120, 32, 72, 84, 84, 80, 47, 49, 46, 49, 13, 10, 72, 111, 115, 116, 58, 32, 97, 13, 10, 67, 111, 110, 116, 101, 110, 116, 45, 76, 101, 110, 103, 116, 104, 58, 32]⟩
def pR : ByteArray := ⟨#[80, 79, 83, 84, 32, 47, 32, 72, 84, 84, 80, 47, 49, 46, 49, 13, 10, 72, 111, 115, 116, 58, 32, 97, 13, 10, 67, 111, 110, 116, 101, 110, 116, 45, 76, 101, 110, 103, 116, 104, 58, 32]⟩
def eX : ByteArray := ⟨#[69, 120, 112, 101, 99, 116, 58, 32, 49, 48, 48, 45, 67, 111, 110, 116, 105, 110, 117, 101, 13, 10]⟩
theorem app_list15 (a b : ByteArray) : (a ++ b).data.toList = a.data.toList ++ b.data.toList := by simp
theorem sX_false (n : Nat) : (pX ++ decB n ++ ⟨#[13, 10]⟩).data.toList = hdX n false := by
  unfold hdX lenS15
  simp only [Bool.false_eq_true, if_false, List.append_nil]
  unfold linesF lnsC
  simp only [List.map_cons, List.map_nil, List.flatMap_cons, List.flatMap_nil, lineK_list, app_list15]
  have h1 : (spL 1).data.toList = [32] := rfl
  rw [h1]
  show pX.data.toList ++ (decB n).data.toList ++ [13, 10] = _
  have h2 : pX.data.toList = postX.data.toList ++ [13, 10] ++ (nHost.data.toList ++ 58 :: ([32] ++ aN.data.toList) ++ [13, 10]) ++ (nCL.data.toList ++ [58, 32]) := by decide
  rw [h2]
  simp
theorem sX_true (n : Nat) : (pX ++ decB n ++ ⟨#[13, 10]⟩ ++ eX).data.toList = hdX n true := by
  rw [app_list15, sX_false]
  have : hdX n true = hdX n false ++ eX.data.toList := by
    unfold hdX lenS15 linesF lnsC
    simp only [Bool.false_eq_true, if_false, if_true, List.append_nil, List.map_append, List.map_cons, List.map_nil, List.flatMap_cons, List.flatMap_nil, List.flatMap_append, lineK_list]
    have h3 : (nExp.data.toList ++ 58 :: (spL 1 ++ expV).data.toList ++ [13, 10]) = eX.data.toList := by decide
    rw [h3]
    simp
  rw [this]
theorem sR_list (n : Nat) : (pR ++ decB n ++ ⟨#[13, 10, 13, 10]⟩).data.toList = hdR n ++ [13, 10] := by
  unfold hdR lenS15 linesF lnsC
  simp only [Bool.false_eq_true, if_false, List.append_nil, List.map_cons, List.map_nil, List.flatMap_cons, List.flatMap_nil, lineK_list, app_list15]
  have h1 : (spL 1).data.toList = [32] := rfl
  rw [h1]
  show pR.data.toList ++ (decB n).data.toList ++ [13, 10, 13, 10] = _
  have h2 : pR.data.toList = postR.data.toList ++ [13, 10] ++ (nHost.data.toList ++ 58 :: ([32] ++ aN.data.toList) ++ [13, 10]) ++ (nCL.data.toList ++ [58, 32]) := by decide
  rw [h2]
  simp
end Go.Proofs.YtgkhelbpccehcaaGreatDoor

/- Requests in memory. No text of the program. -/
namespace Go.Proofs.YtgkhelbpccehcaaGreatDoor
open Go.RowKit
set_option linter.unusedVariables false
set_option linter.unusedSimpArgs false

/-- A request's cells; a request as a value. -/
def reqCells (r : RqP) (vf vb : Value) : Array Value := #[.string r.meth, .int .i64 r.tgt.form, .string r.tgt.host, .string r.tgt.path, .string r.tgt.query, .int .i64 r.minor, vf, vb, .bool r.close, .bool r.expect]
def reqV (r : RqP) (vf vb : Value) : Value := .agg (reqCells r vf vb)
def setQ (w : World) (r : Nat) (x0 x1 x2 x3 x4 x5 x6 x7 x8 x9 : Value) : World := ((((((((((w.setCell ⟨r, 0, none⟩ x0).setCell ⟨r, 1, none⟩ x1).setCell ⟨r, 2, none⟩ x2).setCell ⟨r, 3, none⟩ x3).setCell ⟨r, 4, none⟩ x4).setCell ⟨r, 5, none⟩ x5).setCell ⟨r, 6, none⟩ x6).setCell ⟨r, 7, none⟩ x7).setCell ⟨r, 8, none⟩ x8).setCell ⟨r, 9, none⟩ x9)
theorem Mods.setQ {w w' : World} {F : List Nat} {r : Nat} {x0 x1 x2 x3 x4 x5 x6 x7 x8 x9 : Value} (hm : Mods F w w') (h : r ∈ F ∨ w.heap.size ≤ r) : Mods F w (setQ w' r x0 x1 x2 x3 x4 x5 x6 x7 x8 x9) :=
  ((((((((((hm.setCell h _).setCell h _).setCell h _).setCell h _).setCell h _).setCell h _).setCell h _).setCell h _).setCell h _).setCell h _)
theorem Row.setQ {w : World} {r : Nat} {t : TypeId} {a0 a1 a2 a3 a4 a5 a6 a7 a8 a9 : Value} (h : Row w r t #[a0, a1, a2, a3, a4, a5, a6, a7, a8, a9]) (x0 x1 x2 x3 x4 x5 x6 x7 x8 x9 : Value) : Row (setQ w r x0 x1 x2 x3 x4 x5 x6 x7 x8 x9) r t #[x0, x1, x2, x3, x4, x5, x6, x7, x8, x9] := by
  unfold Go.Proofs.YtgkhelbpccehcaaGreatDoor.setQ
  have h0 : Row (w.setCell ⟨r, 0, none⟩ x0) r t #[x0, a1, a2, a3, a4, a5, a6, a7, a8, a9] := h.set 0 _
  generalize w.setCell ⟨r, 0, none⟩ x0 = w0 at h0 ⊢
  have h1 : Row (w0.setCell ⟨r, 1, none⟩ x1) r t #[x0, x1, a2, a3, a4, a5, a6, a7, a8, a9] := h0.set 1 _
  generalize w0.setCell ⟨r, 1, none⟩ x1 = w1 at h1 ⊢
  have h2 : Row (w1.setCell ⟨r, 2, none⟩ x2) r t #[x0, x1, x2, a3, a4, a5, a6, a7, a8, a9] := h1.set 2 _
  generalize w1.setCell ⟨r, 2, none⟩ x2 = w2 at h2 ⊢
  have h3 : Row (w2.setCell ⟨r, 3, none⟩ x3) r t #[x0, x1, x2, x3, a4, a5, a6, a7, a8, a9] := h2.set 3 _
  generalize w2.setCell ⟨r, 3, none⟩ x3 = w3 at h3 ⊢
  have h4 : Row (w3.setCell ⟨r, 4, none⟩ x4) r t #[x0, x1, x2, x3, x4, a5, a6, a7, a8, a9] := h3.set 4 _
  generalize w3.setCell ⟨r, 4, none⟩ x4 = w4 at h4 ⊢
  have h5 : Row (w4.setCell ⟨r, 5, none⟩ x5) r t #[x0, x1, x2, x3, x4, x5, a6, a7, a8, a9] := h4.set 5 _
  generalize w4.setCell ⟨r, 5, none⟩ x5 = w5 at h5 ⊢
  have h6 : Row (w5.setCell ⟨r, 6, none⟩ x6) r t #[x0, x1, x2, x3, x4, x5, x6, a7, a8, a9] := h5.set 6 _
  generalize w5.setCell ⟨r, 6, none⟩ x6 = w6 at h6 ⊢
  have h7 : Row (w6.setCell ⟨r, 7, none⟩ x7) r t #[x0, x1, x2, x3, x4, x5, x6, x7, a8, a9] := h6.set 7 _
  generalize w6.setCell ⟨r, 7, none⟩ x7 = w7 at h7 ⊢
  have h8 : Row (w7.setCell ⟨r, 8, none⟩ x8) r t #[x0, x1, x2, x3, x4, x5, x6, x7, x8, a9] := h7.set 8 _
  generalize w7.setCell ⟨r, 8, none⟩ x8 = w8 at h8 ⊢
  have h9 : Row (w8.setCell ⟨r, 9, none⟩ x9) r t #[x0, x1, x2, x3, x4, x5, x6, x7, x8, x9] := h8.set 9 _
  exact h9
theorem Row.ten {w : World} {r : Nat} {t : TypeId} {a0 a1 a2 a3 a4 a5 a6 a7 a8 a9 : Value} (h : Row w r t #[a0, a1, a2, a3, a4, a5, a6, a7, a8, a9]) : w.cell? ⟨r, 0, none⟩ = some a0 ∧ w.cell? ⟨r, 1, none⟩ = some a1 ∧ w.cell? ⟨r, 2, none⟩ = some a2 ∧ w.cell? ⟨r, 3, none⟩ = some a3 ∧ w.cell? ⟨r, 4, none⟩ = some a4 ∧ w.cell? ⟨r, 5, none⟩ = some a5 ∧ w.cell? ⟨r, 6, none⟩ = some a6 ∧ w.cell? ⟨r, 7, none⟩ = some a7 ∧ w.cell? ⟨r, 8, none⟩ = some a8 ∧ w.cell? ⟨r, 9, none⟩ = some a9 :=
  ⟨h.cell 0, h.cell 1, h.cell 2, h.cell 3, h.cell 4, h.cell 5, h.cell 6, h.cell 7, h.cell 8, h.cell 9⟩
theorem Row.tenF {w : World} {r : Nat} {t : TypeId} {cs : Array Value} (h : Row w r t cs) : w.frozen? ⟨r, 0, none⟩ = false ∧ w.frozen? ⟨r, 1, none⟩ = false ∧ w.frozen? ⟨r, 2, none⟩ = false ∧ w.frozen? ⟨r, 3, none⟩ = false ∧ w.frozen? ⟨r, 4, none⟩ = false ∧ w.frozen? ⟨r, 5, none⟩ = false ∧ w.frozen? ⟨r, 6, none⟩ = false ∧ w.frozen? ⟨r, 7, none⟩ = false ∧ w.frozen? ⟨r, 8, none⟩ = false ∧ w.frozen? ⟨r, 9, none⟩ = false :=
  ⟨h.free 0, h.free 1, h.free 2, h.free 3, h.free 4, h.free 5, h.free 6, h.free 7, h.free 8, h.free 9⟩
/-- The first six cells, as Start's answer is stored. -/
def setS (w : World) (r : Nat) (x0 x1 x2 x3 x4 x5 : Value) : World := ((((((w.setCell ⟨r, 0, none⟩ x0).setCell ⟨r, 1, none⟩ x1).setCell ⟨r, 2, none⟩ x2).setCell ⟨r, 3, none⟩ x3).setCell ⟨r, 4, none⟩ x4).setCell ⟨r, 5, none⟩ x5)
theorem Mods.setS {w w' : World} {F : List Nat} {r : Nat} {x0 x1 x2 x3 x4 x5 : Value} (hm : Mods F w w') (h : r ∈ F ∨ w.heap.size ≤ r) : Mods F w (setS w' r x0 x1 x2 x3 x4 x5) := ((((((hm.setCell h _).setCell h _).setCell h _).setCell h _).setCell h _).setCell h _)
theorem Row.setS {w : World} {r : Nat} {t : TypeId} {a0 a1 a2 a3 a4 a5 a6 a7 a8 a9 : Value} (h : Row w r t #[a0, a1, a2, a3, a4, a5, a6, a7, a8, a9]) (x0 x1 x2 x3 x4 x5 : Value) : Row (setS w r x0 x1 x2 x3 x4 x5) r t #[x0, x1, x2, x3, x4, x5, a6, a7, a8, a9] := by
  unfold Go.Proofs.YtgkhelbpccehcaaGreatDoor.setS
  have h0 : Row (w.setCell ⟨r, 0, none⟩ x0) r t #[x0, a1, a2, a3, a4, a5, a6, a7, a8, a9] := h.set 0 _
  generalize w.setCell ⟨r, 0, none⟩ x0 = w0 at h0 ⊢
  have h1 : Row (w0.setCell ⟨r, 1, none⟩ x1) r t #[x0, x1, a2, a3, a4, a5, a6, a7, a8, a9] := h0.set 1 _
  generalize w0.setCell ⟨r, 1, none⟩ x1 = w1 at h1 ⊢
  have h2 : Row (w1.setCell ⟨r, 2, none⟩ x2) r t #[x0, x1, x2, a3, a4, a5, a6, a7, a8, a9] := h1.set 2 _
  generalize w1.setCell ⟨r, 2, none⟩ x2 = w2 at h2 ⊢
  have h3 : Row (w2.setCell ⟨r, 3, none⟩ x3) r t #[x0, x1, x2, x3, a4, a5, a6, a7, a8, a9] := h2.set 3 _
  generalize w2.setCell ⟨r, 3, none⟩ x3 = w3 at h3 ⊢
  have h4 : Row (w3.setCell ⟨r, 4, none⟩ x4) r t #[x0, x1, x2, x3, x4, a5, a6, a7, a8, a9] := h3.set 4 _
  generalize w3.setCell ⟨r, 4, none⟩ x4 = w4 at h4 ⊢
  exact h4.set 5 _
/-- The end of a function that answers a request and one more thing. -/
theorem end_R {fn : Func} {a : Act} {W : World} {R : Ending → World → Prop} {r : Nat} {a0 a1 a2 a3 a4 a5 a6 a7 a8 a9 u : Value} {q q2 : Tmp} (hres : fn.results = #[.cell q 40, .tmp q2])
    (hrow : Row W r 40 #[a0, a1, a2, a3, a4, a5, a6, a7, a8, a9]) (h1 : a.tmps.getD q undef = .pointer (some ⟨r, 0, none⟩)) (h2 : a.tmps.getD q2 undef = u) (hd : a.defers = []) (hR : R (.returned (.tuple #[.agg #[a0, a1, a2, a3, a4, a5, a6, a7, a8, a9], u])) W) : bodyPost Tryz.prog fn R .ret a W := by
  refine bodyPost_ret (v := .tuple #[.agg #[a0, a1, a2, a3, a4, a5, a6, a7, a8, a9], u]) ?_ hd hR
  have g1 : a.tmps[q]?.getD undef = .pointer (some ⟨r, 0, none⟩) := by simpa using h1
  have g2 : a.tmps[q2]?.getD undef = u := by simpa using h2
  obtain ⟨c0, c1, c2, c3, c4, c5, c6, c7, c8, c9⟩ := hrow.ten
  have ha := Tryz.isAgg40 W
  have hs := Tryz.sizeOf40 W
  simp [results, hres, go_sem, g1, g2, c0, c1, c2, c3, c4, c5, c6, c7, c8, c9, ha, hs]
end Go.Proofs.YtgkhelbpccehcaaGreatDoor

/- The code's parser: Take. Conditions: none. -/
namespace Go.Proofs.YtgkhelbpccehcaaGreatDoor
open Go.RowKit
set_option linter.unusedVariables false
set_option linter.unusedSimpArgs false

/-- What Take leaves: the request, the parser. -/
def TookR (F : List Nat) (w : World) (g : Nat) (P : PrP) (vf vb : Value) (w' : World) : Prop :=
  FsAt w' vf (takeR P).2.1.fields ∧ BsAt w' vb (takeR P).2.1.body ∧ (∃ F', PaA F' w' g (takeR P).1 ∧ Grew F F' w w' ∧ ∀ k, k ∈ vf.ownBlock.toList ∨ k ∈ vb.ownBlock.toList → (k ∈ F ∨ w.heap.size ≤ k) ∧ k ∉ F' ∧ k < w'.heap.size)
def zReq : Array Value := reqCells noRq (.slice none 0 0) (.slice none 0 0)
/-- What stands behind the first half of Take: the new request's block q, its fields' row. -/
def Tk3 (W0 wx : World) (q FB : Nat) (S : List FV) (bv : Value) : Prop :=
  Row wx q 40 (reqCells noRq (.slice (some ⟨FB, 0, none⟩) S.length S.length) bv) ∧ Mods [] W0 wx ∧ W0.heap.size ≤ q ∧ FsAt wx (.slice (some ⟨FB, 0, none⟩) S.length S.length) S ∧ W0.heap.size ≤ FB ∧ FB ≠ q ∧ FB < wx.heap.size
theorem tk3_late {W0 w2 : World} {FB : Nat} {S : List FV} {bv : Value} (hg : Gt W0.drew 81 2 S.length (encF S) (.slice (some ⟨FB, 0, none⟩) S.length S.length) w2) : Tk3 W0 (w2.alloc (.cells (reqCells noRq (.slice (some ⟨FB, 0, none⟩) S.length S.length) bv) 40)) w2.heap.size FB S bv := by
  have m2 : Mods [] W0 w2 := (Mods.refl [] W0).drew.trans hg.low (fun _ h => nomatch h)
  have hn := hg.row.lt FB (by simp [Value.ownBlock])
  have hs : W0.drew.heap.size = W0.heap.size := rfl
  have hz : w2.heap.size < (w2.alloc (.cells (reqCells noRq (.slice (some ⟨FB, 0, none⟩) S.length S.length) bv) 40)).heap.size := by rw [World.size_alloc]; omega
  exact ⟨Row.new _ _ _, m2.alloc _, m2.size, (FsAt.of_row (own_base (w' := w2) hg.row (Nat.zero_le _))).low ((Mods.refl [] w2).alloc _), by omega, by omega, by omega⟩
theorem tk3_early {W0 w2 : World} {FB : Nat} {S : List FV} {bv : Value} (hg : Gt (W0.alloc (.cells zReq 40)).drew 81 2 S.length (encF S) (.slice (some ⟨FB, 0, none⟩) S.length S.length) w2) :
    Tk3 W0 (setQ w2 W0.heap.size (.string noB) (.int .i64 0) (.string noB) (.string noB) (.string noB) (.int .i64 0) (.slice (some ⟨FB, 0, none⟩) S.length S.length) bv (.bool false) (.bool false)) W0.heap.size FB S bv := by
  have m1 : Mods [] W0 (W0.alloc (.cells zReq 40)).drew := ((Mods.refl [] W0).alloc _).drew
  have r2 : Row w2 W0.heap.size 40 zReq := ((Row.new W0 40 zReq).mods ((Mods.refl [] _).drew) (by simp)).mods hg.low (by simp)
  have hn := hg.row.lt FB (by simp [Value.ownBlock])
  have hs : (W0.alloc (.cells zReq 40)).drew.heap.size = W0.heap.size + 1 := World.size_alloc _ _
  have mq : Mods [W0.heap.size] w2 (setQ w2 W0.heap.size (.string noB) (.int .i64 0) (.string noB) (.string noB) (.string noB) (.int .i64 0) (.slice (some ⟨FB, 0, none⟩) S.length S.length) bv (.bool false) (.bool false)) := Mods.setQ (Mods.refl _ w2) (.inl (by simp))
  refine ⟨Row.setQ r2 _ _ _ _ _ _ _ _ _ _, Mods.setQ (m1.trans hg.low (fun _ h => nomatch h)) (.inr (Nat.le_refl _)), Nat.le_refl _, (FsAt.of_row (own_base (w' := w2) hg.row (Nat.zero_le _))).mods mq (fun k hk e => ?_), by omega, by omega, Nat.lt_of_lt_of_le hn.2 mq.size⟩
  rw [List.mem_singleton] at e
  have : k = FB := by simpa [Value.ownBlock, eq_comm] using hk
  omega
theorem taken_no {F : List Nat} {w w' : World} {g : Nat} {P : PrP} (a : PaA F w g P) (h : P.phase ≠ 3) (hm : Mods [] w w') : TookR F w g P (.slice none 0 0) (.slice none 0 0) w' := by
  have e : takeR P = (P, noRq, 4) := by unfold takeR; rw [if_neg h]
  unfold TookR
  rw [e]
  exact ⟨.inl ⟨rfl, _, _, rfl⟩, .inl ⟨rfl, _, _, rfl⟩, F, a.low hm, Grew.of_low hm, fun k hk => by simp [Value.ownBlock] at hk⟩
set_option maxRecDepth 10000 in
set_option maxHeartbeats 20000000 in
theorem takerq_p {F : List Nat} {w : World} {g : Nat} {P : PrP} (a : PaA F w g P) :
    Calls Tryz.prog 14 #[ptr g] w fun z w' => ∃ vf vb, z = .returned (.tuple #[reqV (takeR P).2.1 vf vb, .int .i64 (takeR P).2.2]) ∧ Hid (TookR F w g P vf vb w') := by
  have HA := Lib.hid a
  obtain ⟨vl, vb, hv, cv, FH, FC, L, B, cm, lf, c, rfl, r⟩ := a.ex
  have o := a.ok
  have c0 : w.cell? ⟨g, 0, none⟩ = some (.int .i64 (P.phase : Nat)) := c.row.cell 0
  have hglt := c.row.lt
  have m0 : Mods [] w (w.alloc (.cells zReq 40)) := (Mods.refl [] w).alloc _
  have r0 := Row.new w 40 zReq
  unfold ptr
  by_cases h3 : P.phase = 3
  · have hr : B = P.body ∧ ∃ hb, hv = ptr hb ∧ HdA FH w hb P.head := by
      rcases r with ⟨p, -⟩ | ⟨p, -⟩ | ⟨p, -⟩ | ⟨p, -⟩ | ⟨-, e, q⟩ | p
      · omega
      · omega
      · omega
      · omega
      · exact ⟨e, q⟩
      · omega
    obtain ⟨rfl, hb, rfl, ha⟩ := hr
    have HTK := Lib.hid (show takeR P = ({ P with phase := 0 }, rqOf P, 0) by unfold takeR; rw [if_pos h3])
    have HTO := Lib.hid o.take
    have HST := Lib.hid (o.st (by omega))
    have hhow := o.how (.inr h3)
    obtain ⟨g1, v1, st1, e1, z1, hc, hFH, -⟩ := ha.ex
    obtain ⟨ob, oc, rfl, -, -⟩ := c.body.form
    -- the world with the result's block
    have k0 := PM.low c m0
    have a0 := ha.low m0
    have hc0 := hc.low m0
    have d3 : (w.alloc (.cells zReq 40)).cell? ⟨g, 3, none⟩ = some (ptr hb) := k0.row.cell 3
    have d7 : (w.alloc (.cells zReq 40)).cell? ⟨g, 7, none⟩ = some (.slice ob P.body.length oc) := k0.row.cell 7
    have dh : (w.alloc (.cells zReq 40)).cell? ⟨hb, 0, none⟩ = some (ptr g1) := hc0.facts.1
    have d0 : (w.alloc (.cells zReq 40)).cell? ⟨g, 0, none⟩ = some (.int .i64 3) := by have := k0.row.cell 0; rw [h3] at this; exact this
    obtain ⟨rb, hrb⟩ : ∃ rb, rb = w.heap.size := ⟨_, rfl⟩
    obtain ⟨W0, hW0⟩ : ∃ W0, W0 = w.alloc (.cells zReq 40) := ⟨_, rfl⟩
    rw [← hrb, ← hW0] at r0
    rw [← hW0] at m0 k0 a0 hc0 d3 d7 dh d0
    have HAL := Lib.hid (fun W' (hm : Mods [] W0 W') => all_a W' (hc0.fld.low hm))
    have HRB := Lib.hid hrb
    have K := Lib.hid c
    have HH := Lib.hid ha
    have M0 := Lib.hid m0
    have R0 := Lib.hid r0
    have HHW := Lib.hid hhow
    obtain ⟨nb, hnb⟩ : ∃ nb, nb = P.body.length := ⟨_, rfl⟩
    obtain ⟨ns, hns⟩ : ∃ ns, ns = P.head.S.length := ⟨_, rfl⟩
    rw [← hnb] at d7
    have HNB := Lib.hid hnb
    have HNS := Lib.hid hns
    rw [← hns] at HAL
    unfold ptr at d3 dh HAL
    clear a r o c c0 r0 m0 k0 a0 hc0 hc hFH ha h3 hhow hrb hnb hns
    go_enter Tryz.func14, Tryz.ntmps14
    go_upto_region 1 with fail
    change Code.wp _ _ _ _ (w.alloc (.cells zReq 40))
    rw [← hW0, ← HRB.out]
    clear hW0
    go_upto_region 3 with fail
    have MA := Lib.hid (show Mods [] W0 (W0.alloc (.cells zReq 40)) from (Mods.refl [] W0).alloc _)
    have RA := Lib.hid (Row.new W0 40 zReq)
    have HC1 := Lib.hid (show Calls Tryz.prog 27 #[.pointer (some ⟨g1, 0, none⟩)] W0.drew fun e w' => ∃ v, e = .returned v ∧ (∃ FB, v = .slice (some ⟨FB, 0, none⟩) ns ns ∧ Gt W0.drew 81 2 ns (encF P.head.S) (.slice (some ⟨FB, 0, none⟩) ns ns) w') from (HAL.out _ (Mods.refl [] W0).drew).mono fun e w' ⟨FB, h1, h2⟩ => ⟨_, h1, FB, rfl, h2⟩)
    have HC2 := Lib.hid (show Calls Tryz.prog 27 #[.pointer (some ⟨g1, 0, none⟩)] (W0.alloc (.cells zReq 40)).drew fun e w' => ∃ v, e = .returned v ∧ (∃ FB, v = .slice (some ⟨FB, 0, none⟩) ns ns ∧ Gt (W0.alloc (.cells zReq 40)).drew 81 2 ns (encF P.head.S) (.slice (some ⟨FB, 0, none⟩) ns ns) w') from (HAL.out _ MA.out.drew).mono fun e w' ⟨FB, h1, h2⟩ => ⟨_, h1, FB, rfl, h2⟩)
    clear HAL
    have d3a := fun o => cell_alloc d3 o
    have d7a := fun o => cell_alloc d7 o
    have dha := fun o => cell_alloc dh o
    go_cut [4] (fun v wx => ∃ q FB, v = .pointer (some ⟨q, 0, none⟩) ∧ Hid (Tk3 W0 wx q FB P.head.S (.slice ob nb oc)))
    case first =>
     go_region_law (first
      | (refine step_call1 rfl 27 (.tmp 22) 63 (.pointer (some ⟨g1, 0, none⟩)) rfl rfl (enters_of Tryz.func27 (by kernel_rfl) rfl) _ HC1.out ?_; rintro _ w2 ⟨FB, rfl, hg⟩; have HB1 := Lib.hid hg; have m2 : Mods [] W0 w2 := (Mods.refl [] W0).drew.trans hg.low (fun _ h => nomatch h); have d3' := cell_mods d3 m2 (by simp); have d7' := cell_mods d7 m2 (by simp); have dh' := cell_mods dh m2 (by simp); have d7b := fun o => cell_alloc d7' o; clear hg m2)
      | (refine step_call1 rfl 27 (.tmp 22) 63 (.pointer (some ⟨g1, 0, none⟩)) rfl rfl (enters_of Tryz.func27 (by kernel_rfl) rfl) _ HC2.out ?_; rintro _ w2 ⟨FB, rfl, hg⟩; have HB2 := Lib.hid hg; have m2 : Mods [] W0 w2 := MA.out.drew.trans hg.low (fun _ h => nomatch h); have d3' := cell_mods d3 m2 (by simp); have d7' := cell_mods d7 m2 (by simp); have dh' := cell_mods dh m2 (by simp); have R2 := Lib.hid (show Row w2 W0.heap.size 40 #[.string noB, .int .i64 0, .string noB, .string noB, .string noB, .int .i64 0, .slice none 0 0, .slice none 0 0, .bool false, .bool false] from (RA.out.mods ((Mods.refl [] _).drew) (by simp)).mods hg.low (by simp)); obtain ⟨t0, t1, t2, t3, t4, t5, t6, t7, t8, t9⟩ := R2.out.ten; obtain ⟨f0, f1, f2, f3, f4, f5, f6, f7, f8, f9⟩ := R2.out.tenF; clear hg m2))
     all_goals
      go_wp2
      go_meet
      case rel =>
        obtain rfl := HNS.out
        first
        | (have q9 := tk3_late (bv := .slice ob nb oc) HB1.out; exact ⟨_, FB, rfl, Lib.hid q9⟩)
        | (have q9 := tk3_early (bv := .slice ob nb oc) HB2.out; exact ⟨_, FB, rfl, Lib.hid q9⟩)
    case rest =>
      obtain ⟨q, FB, rfl, hpre⟩ := hcut
      obtain ⟨wa, rfl⟩ : ∃ wa : World, wa = wc := ⟨_, rfl⟩
      have T3 := Lib.hid hpre.out
      clear hpre HC1 HC2 d3a d7a dha d0 dh d3 d7 MA RA
      have hqw : w.heap.size ≤ q := by have h1 := M0.out.size; have h2 := T3.out.2.2.1; omega
      have M3 := Lib.hid (show Mods [] w wa from M0.out.trans T3.out.2.1 (fun _ h => nomatch h))
      have HQW := Lib.hid hqw
      have HRQ := Lib.hid (show rb ≠ q by have h2 := T3.out.2.2.1; have h3 := R0.out.lt; omega)
      have d3 : wa.cell? ⟨g, 3, none⟩ = some (ptr hb) := (PM.low K.out M3.out).row.cell 3
      have hsa := start_a (HH.out.low M3.out)
      simp only [Tgt.cells] at hsa
      have HSA := Lib.hid hsa
      unfold ptr at HSA d3
      clear hsa
      obtain ⟨xm, hxm⟩ : ∃ x, x = P.head.meth := ⟨_, rfl⟩
      obtain ⟨xf, hxf⟩ : ∃ x, x = P.head.tgt.form := ⟨_, rfl⟩
      obtain ⟨xh, hxh⟩ : ∃ x, x = P.head.tgt.host := ⟨_, rfl⟩
      obtain ⟨xp, hxp⟩ : ∃ x, x = P.head.tgt.path := ⟨_, rfl⟩
      obtain ⟨xq, hxq⟩ : ∃ x, x = P.head.tgt.query := ⟨_, rfl⟩
      obtain ⟨xn, hxn⟩ : ∃ x, x = P.head.minor := ⟨_, rfl⟩
      rw [← hxm, ← hxf, ← hxh, ← hxp, ← hxq, ← hxn] at HSA
      have HXS := Lib.hid (And.intro hxm (And.intro hxf (And.intro hxh (And.intro hxp (And.intro hxq hxn)))))
      clear hxm hxf hxh hxp hxq hxn hqw
      go_upto_region 5 with (go_at_call 28; refine HSA.out.mono ?_; rintro z w4 ⟨rfl, hm⟩; have M4 := Lib.hid hm; have Q4 := Lib.hid (show Row w4 q 40 #[.string noB, .int .i64 0, .string noB, .string noB, .string noB, .int .i64 0, .slice (some ⟨FB, 0, none⟩) P.head.S.length P.head.S.length, .slice ob nb oc, .bool false, .bool false] from T3.out.1.mods hm (by simp)); obtain ⟨t0, t1, t2, t3, t4, t5, t6, t7, t8, t9⟩ := Q4.out.ten; obtain ⟨f0, f1, f2, f3, f4, f5, f6, f7, f8, f9⟩ := Q4.out.tenF; have e3 := cell_mods d3 hm (by simp); clear hm)
      have q5 := Row.setS Q4.out (.string xm) (.int .i64 xf) (.string xh) (.string xp) (.string xq) (.int .i64 xn)
      have m5 := Mods.setS (r := q) (x0 := .string xm) (x1 := .int .i64 xf) (x2 := .string xh) (x3 := .string xp) (x4 := .string xq) (x5 := .int .i64 xn) (M3.out.trans M4.out (fun _ h => nomatch h)) (.inr HQW.out)
      have n5 := Mods.setS (F := [q]) (r := q) (x0 := .string xm) (x1 := .int .i64 xf) (x2 := .string xh) (x3 := .string xp) (x4 := .string xq) (x5 := .int .i64 xn) (M4.out.more (fun _ h => nomatch h)) (.inl (by simp))
      obtain ⟨W4, hW4⟩ : ∃ W4, W4 = setS w4 q (.string xm) (.int .i64 xf) (.string xh) (.string xp) (.string xq) (.int .i64 xn) := ⟨_, rfl⟩
      rw [← hW4] at q5 m5 n5
      unfold setS at hW4
      rw [← hW4]
      clear hW4 t0 t1 t2 t3 t4 t5 t6 t7 t8 t9 f0 f1 f2 f3 f4 f5 f6 f7 f8 f9 e3 d3
      have Q5 := Lib.hid q5
      have M5 := Lib.hid m5
      have N5 := Lib.hid n5
      have d3 : W4.cell? ⟨g, 3, none⟩ = some (ptr hb) := (PM.low K.out M5.out).row.cell 3
      have hha := how_a (HH.out.low M5.out)
      rw [HHW.out] at hha
      unfold howV at hha
      have HHA := Lib.hid hha
      unfold ptr at HHA d3
      clear hha q5 m5 n5
      obtain ⟨ykd, hyk⟩ : ∃ x, x = P.how.kind := ⟨_, rfl⟩
      obtain ⟨yln, hyl⟩ : ∃ x, x = P.how.length := ⟨_, rfl⟩
      obtain ⟨ycl, hyc⟩ : ∃ x, x = P.how.close := ⟨_, rfl⟩
      obtain ⟨yxp, hyx⟩ : ∃ x, x = P.how.expect := ⟨_, rfl⟩
      rw [← hyk, ← hyl, ← hyc, ← hyx] at HHA
      have HYS := Lib.hid (And.intro hyc hyx)
      clear hyk hyl hyc hyx
      go_upto_region 6 with (go_at_call 29; refine HHA.out.mono ?_; rintro z w5 ⟨rfl, hm⟩; have M6 := Lib.hid hm; clear hm)
      have m7 : Mods [] w (w5.alloc (.cells #[.int .i64 ykd, .int .i64 yln, .bool ycl, .bool yxp] 65)) := (M5.out.trans M6.out (fun _ h => nomatch h)).alloc _
      have n7 : Mods [] W4 (w5.alloc (.cells #[.int .i64 ykd, .int .i64 yln, .bool ycl, .bool yxp] 65)) := M6.out.alloc _
      have r7 := Row.new w5 65 #[.int .i64 ykd, .int .i64 yln, .bool ycl, .bool yxp]
      have hq5 : q < w5.heap.size := Nat.lt_of_lt_of_le Q5.out.lt M6.out.size
      obtain ⟨hq, hhq⟩ : ∃ hq, hq = w5.heap.size := ⟨_, rfl⟩
      obtain ⟨W5, hW5⟩ : ∃ W5, W5 = w5.alloc (.cells #[.int .i64 ykd, .int .i64 yln, .bool ycl, .bool yxp] 65) := ⟨_, rfl⟩
      rw [← hhq, ← hW5] at r7
      rw [← hW5] at m7 n7 ⊢
      rw [← hhq] at hq5 ⊢
      clear hW5 hhq d3
      have q7 := Q5.out.mods n7 (by simp)
      obtain ⟨t0, t1, t2, t3, t4, t5, t6, t7, t8, t9⟩ := q7.ten
      have f8 := q7.free 8
      have f9 := q7.free 9
      have h2 : W5.cell? ⟨hq, 2, none⟩ = some (.bool ycl) := r7.cell 2
      have h3 : W5.cell? ⟨hq, 3, none⟩ = some (.bool yxp) := r7.cell 3
      have nq1 : ¬ hq = q := by omega
      have nq2 : ¬ q = hq := by omega
      have Q7 := Lib.hid q7
      have M7 := Lib.hid m7
      have N7 := Lib.hid n7
      clear q7 m7 n7 r7 t0 t1 t2 t3 t4 t5 t6 t7 hq5
      go_region
      all_goals
        have q8 := (Q7.out.set 8 (.bool ycl)).set 9 (.bool yxp)
        have m8 : Mods [] w (((W5.setCell ⟨q, 8, none⟩ (.bool ycl)).setCell ⟨q, 9, none⟩ (.bool yxp)).drew) := ((M7.out.setCell (.inr HQW.out) _).setCell (.inr HQW.out) _).drew
        have n8 : Mods [q] W4 (((W5.setCell ⟨q, 8, none⟩ (.bool ycl)).setCell ⟨q, 9, none⟩ (.bool yxp)).drew) := (((N7.out.more (fun _ h => nomatch h)).setCell (.inl (by simp)) _).setCell (.inl (by simp)) _).drew
        replace q8 : Row (((W5.setCell ⟨q, 8, none⟩ (.bool ycl)).setCell ⟨q, 9, none⟩ (.bool yxp)).drew) q 40 #[.string xm, .int .i64 xf, .string xh, .string xp, .string xq, .int .i64 xn, .slice (some ⟨FB, 0, none⟩) P.head.S.length P.head.S.length, .slice ob nb oc, .bool ycl, .bool yxp] := q8.mods ((Mods.refl [] _).drew) (by simp)
        obtain ⟨W6, hW6⟩ : ∃ W6, W6 = (((W5.setCell ⟨q, 8, none⟩ (.bool ycl)).setCell ⟨q, 9, none⟩ (.bool yxp)).drew) := ⟨_, rfl⟩
        rw [← hW6] at q8 m8 n8 ⊢
        clear hW6 t8 t9 f8 f9 h2 h3 nq1 nq2
        have Q8 := Lib.hid q8
        have M8 := Lib.hid m8
        have N8 := Lib.hid n8
        have k8 := PM.low K.out m8
        obtain ⟨p0, p1, p2, p3, p4, p5, p6, p7⟩ := PaM.facts k8
        have g0 := k8.row.free 0
        have g1' := k8.row.free 1
        have g2 := k8.row.free 2
        have g3 := k8.row.free 3
        have g4 := k8.row.free 4
        have g5 := k8.row.free 5
        have g6 := k8.row.free 6
        have g7 := k8.row.free 7
        have K8 := Lib.hid k8
        clear q8 m8 n8 k8
        go_upto_region 8 with fail
        obtain ⟨k9, g9⟩ := PaM.clear K8.out 0 0
        have n9 : Mods [q, g] W4 (setP W6 g 0 0) := Mods.setP (N8.out.more (fun k hk => .inl (by simp at hk; simp [hk]))) (.inl (by simp)) 0 0
        have m9 : Mods [g] w (setP W6 g 0 0) := Mods.setP (M8.out.more (fun _ h => nomatch h)) (.inl (by simp)) 0 0
        have mg : Mods [g] W6 (setP W6 g 0 0) := Mods.setP (Mods.refl [g] W6) (.inl (by simp)) 0 0
        have hgq : q ≠ g := by have := HQW.out; omega
        have hrg : rb ≠ g := by have := HRB.out; omega
        have q9 := Q8.out.mods mg (by simpa using hgq)
        obtain ⟨W7, hW7⟩ : ∃ W7, W7 = setP W6 g 0 0 := ⟨_, rfl⟩
        rw [← hW7] at k9 g9 n9 m9 q9
        unfold setP at hW7
        rw [← hW7]
        clear hW7 mg p0 p1 p2 p3 p4 p5 p6 p7 g0 g1' g2 g3 g4 g5 g6 g7
        have M09 : Mods [q, g] W0 W7 := ((T3.out.2.1.more (fun _ h => nomatch h)).trans (N5.out.more (fun k hk => .inl (by simp at hk; simp [hk]))) (fun k hk => .inl hk)).trans n9 (fun k hk => .inl hk)
        have r9 : Row W7 rb 40 #[.string noB, .int .i64 0, .string noB, .string noB, .string noB, .int .i64 0, .slice none 0 0, .slice none 0 0, .bool false, .bool false] := R0.out.mods M09 (by simp; exact ⟨HRQ.out, hrg⟩)
        obtain ⟨t0, t1, t2, t3, t4, t5, t6, t7, t8, t9⟩ := q9.ten
        obtain ⟨s0, s1, s2, s3, s4, s5, s6, s7, s8, s9⟩ := r9.ten
        obtain ⟨f0, f1, f2, f3, f4, f5, f6, f7, f8, f9⟩ := r9.tenF
        have R9 := Lib.hid r9
        have K9 := Lib.hid k9
        have G9 := Lib.hid ((Grew.of_low M8.out).trans g9)
        have M9 := Lib.hid m9
        have N9 := Lib.hid n9
        have HNE := Lib.hid (And.intro hgq hrg)
        clear q9 r9 k9 g9 m9 n9 M09 hgq hrg
        go_wp2
        have r10 := Row.setQ R9.out (.string xm) (.int .i64 xf) (.string xh) (.string xp) (.string xq) (.int .i64 xn) (.slice (some ⟨FB, 0, none⟩) P.head.S.length P.head.S.length) (.slice ob nb oc) (.bool ycl) (.bool yxp)
        have mr : Mods [rb] W7 (setQ W7 rb (.string xm) (.int .i64 xf) (.string xh) (.string xp) (.string xq) (.int .i64 xn) (.slice (some ⟨FB, 0, none⟩) P.head.S.length P.head.S.length) (.slice ob nb oc) (.bool ycl) (.bool yxp)) := Mods.setQ (Mods.refl [rb] W7) (.inl (by simp))
        change bodyPost _ _ _ _ _ (setQ W7 rb (.string xm) (.int .i64 xf) (.string xh) (.string xp) (.string xq) (.int .i64 xn) (.slice (some ⟨FB, 0, none⟩) P.head.S.length P.head.S.length) (.slice ob nb oc) (.bool ycl) (.bool yxp))
        generalize setQ W7 rb (.string xm) (.int .i64 xf) (.string xh) (.string xp) (.string xq) (.int .i64 xn) (.slice (some ⟨FB, 0, none⟩) P.head.S.length P.head.S.length) (.slice ob nb oc) (.bool ycl) (.bool yxp) = W8 at r10 mr ⊢
        refine end_R rfl r10 rfl rfl rfl ?_
        obtain ⟨x1, x2, x3, x4, x5, x6⟩ := HXS.out
        obtain ⟨y1, y2⟩ := HYS.out
        obtain ⟨ez1, ez2, ez3, ez4, ez5, ez6, ez7⟩ := T3.out
        have hwr := HRB.out
        have hrr := R0.out.lt
        refine ⟨.slice (some ⟨FB, 0, none⟩) P.head.S.length P.head.S.length, .slice ob nb oc, ?_, Lib.hid ?_⟩
        · rw [HTK.out, x1, x2, x3, x4, x5, x6, y1, y2]; rfl
        · have hto := HTO.out
          unfold TookR
          rw [HTK.out] at hto ⊢
          have hfn : ∀ k ∈ (Value.slice (some ⟨FB, 0, none⟩) P.head.S.length P.head.S.length).ownBlock.toList, k = FB := fun k hk => by simpa [Value.ownBlock, eq_comm] using hk
          have hng : FB ≠ g := by omega
          have mw : Mods [g] w W8 := M9.out.trans (mr.more (fun k hk => .inl hk)) (fun k hk => by rw [List.mem_singleton] at hk; exact .inr (by omega))
          have hob : (Value.slice ob nb oc).ownBlock = (Value.slice ob P.body.length oc).ownBlock := cut0_block ob nb oc _ _
          have k10 := PM.mods K9.out mr (fun k hk => by simp [Value.ownBlock] at hk; rw [hk]; simp; exact fun e => HNE.out.2 e.symm)
          refine ⟨ez4.mods (F := [rb, q, g]) ((N5.out.more (fun k hk => .inl (by simp at hk; simp [hk]))).trans ((N9.out.more (fun k hk => .inl (by simp at hk ⊢; rcases hk with h | h <;> simp [h]))).trans (mr.more (fun k hk => .inl (by simp at hk; simp [hk]))) (fun k hk => .inl hk)) (fun k hk => .inl hk)) (fun k hk => by rw [hfn k hk]; simp; omega), ?_, _, pa_mk hto (ph := 0) (st := 0) rfl HST.out k10 (.inl ⟨rfl, rfl, rfl, rfl, rfl, rfl⟩), ⟨mw.more (fun k hk => .inl (by simp at hk; simp [hk])), G9.out.news⟩, ?_⟩
          · have hb9 := K.out.body.at.mods mw (fun k hk => by simpa using K.out.ne_b k hk)
            rw [← HNB.out] at hb9
            exact hb9
          · rintro k (hk | hk)
            · rw [hfn k hk]
              have e1 := M0.out.size
              have e2 := N5.out.size
              have e3 := N9.out.size
              have e4 := mr.size
              exact ⟨.inr (by omega), by simp [Value.ownBlock]; exact hng, by omega⟩
            · rw [hob] at hk
              have e1 := K.out.body.lt k hk
              have e2 := mw.size
              exact ⟨.inl (by simp only [List.mem_cons, List.mem_append]; exact .inr (.inr (.inl hk))), by simp [Value.ownBlock]; exact K.out.ne_b k hk, by omega⟩
  · have HE := Lib.hid (show takeR P = (P, noRq, 4) by unfold takeR; rw [if_neg h3])
    have hne : ((P.phase : Int) != 3) = true := by rw [bne_iff_ne]; omega
    have H3 := Lib.hid h3
    have d0 := fun o => cell_alloc c0 o
    obtain ⟨rb, hrb⟩ : ∃ rb, rb = w.heap.size := ⟨_, rfl⟩
    obtain ⟨W0, hW0⟩ : ∃ W0, W0 = w.alloc (.cells zReq 40) := ⟨_, rfl⟩
    have d0 : W0.cell? ⟨g, 0, none⟩ = some (.int .i64 (P.phase : Nat)) := by rw [hW0]; exact cell_alloc c0 _
    rw [← hrb, ← hW0] at r0
    rw [← hW0] at m0
    have HRB := Lib.hid hrb
    have M0 := Lib.hid m0
    have R0 := Lib.hid r0
    clear a r o c c0 r0 m0 h3 hrb
    generalize P.phase = ph at d0 hne
    go_enter Tryz.func14, Tryz.ntmps14
    go_upto_region 1 with fail
    change Code.wp _ _ _ _ (w.alloc (.cells zReq 40))
    rw [← hW0, ← HRB.out]
    clear hW0
    obtain ⟨t0, t1, t2, t3, t4, t5, t6, t7, t8, t9⟩ := Row.ten (show Row W0 rb 40 #[.string noB, .int .i64 0, .string noB, .string noB, .string noB, .int .i64 0, .slice none 0 0, .slice none 0 0, .bool false, .bool false] from R0.out)
    obtain ⟨f0, f1, f2, f3, f4, f5, f6, f7, f8, f9⟩ := R0.out.tenF
    go_wp2
    have hR := Row.setQ (show Row W0 rb 40 #[.string noB, .int .i64 0, .string noB, .string noB, .string noB, .int .i64 0, .slice none 0 0, .slice none 0 0, .bool false, .bool false] from R0.out) (.string noB) (.int .i64 0) (.string noB) (.string noB) (.string noB) (.int .i64 0) (.slice none 0 0) (.slice none 0 0) (.bool false) (.bool false)
    have hM : Mods [] w _ := Mods.setQ M0.out (.inr (by rw [HRB.out]; exact Nat.le_refl _)) (x0 := .string noB) (x1 := .int .i64 0) (x2 := .string noB) (x3 := .string noB) (x4 := .string noB) (x5 := .int .i64 0) (x6 := .slice none 0 0) (x7 := .slice none 0 0) (x8 := .bool false) (x9 := .bool false) (r := rb)
    refine end_R rfl hR rfl rfl rfl ?_
    exact ⟨_, _, by rw [HE.out]; rfl, Lib.hid (taken_no HA.out H3.out hM)⟩
set_option maxRecDepth 10000 in
set_option maxHeartbeats 2000000 in
theorem takerq_nil (w : World) : Calls Tryz.prog 14 #[.pointer none] w fun z w' => z = .returned (.tuple #[reqV noRq (.slice none 0 0) (.slice none 0 0), .int .i64 4]) ∧ Mods [] w w' := by
  have r0 := Row.new w 40 zReq
  have m0 : Mods [] w (w.alloc (.cells zReq 40)) := (Mods.refl [] w).alloc _
  obtain ⟨rb, hrb⟩ : ∃ rb, rb = w.heap.size := ⟨_, rfl⟩
  obtain ⟨W0, hW0⟩ : ∃ W0, W0 = w.alloc (.cells zReq 40) := ⟨_, rfl⟩
  rw [← hrb, ← hW0] at r0
  rw [← hW0] at m0
  have HRB := Lib.hid hrb
  have M0 := Lib.hid m0
  have R0 := Lib.hid r0
  clear r0 m0 hrb
  go_enter Tryz.func14, Tryz.ntmps14
  go_upto_region 1 with fail
  change Code.wp _ _ _ _ (w.alloc (.cells zReq 40))
  rw [← hW0, ← HRB.out]
  clear hW0
  obtain ⟨t0, t1, t2, t3, t4, t5, t6, t7, t8, t9⟩ := Row.ten (show Row W0 rb 40 #[.string noB, .int .i64 0, .string noB, .string noB, .string noB, .int .i64 0, .slice none 0 0, .slice none 0 0, .bool false, .bool false] from R0.out)
  obtain ⟨f0, f1, f2, f3, f4, f5, f6, f7, f8, f9⟩ := R0.out.tenF
  go_wp2
  have hR := Row.setQ (show Row W0 rb 40 #[.string noB, .int .i64 0, .string noB, .string noB, .string noB, .int .i64 0, .slice none 0 0, .slice none 0 0, .bool false, .bool false] from R0.out) (.string noB) (.int .i64 0) (.string noB) (.string noB) (.string noB) (.int .i64 0) (.slice none 0 0) (.slice none 0 0) (.bool false) (.bool false)
  have hM : Mods [] w _ := Mods.setQ M0.out (.inr (by rw [HRB.out]; exact Nat.le_refl _)) (x0 := .string noB) (x1 := .int .i64 0) (x2 := .string noB) (x3 := .string noB) (x4 := .string noB) (x5 := .int .i64 0) (x6 := .slice none 0 0) (x7 := .slice none 0 0) (x8 := .bool false) (x9 := .bool false) (r := rb)
  refine end_R rfl hR rfl rfl rfl ?_
  exact ⟨rfl, hM⟩
end Go.Proofs.YtgkhelbpccehcaaGreatDoor

/- What stage 15's laws compare requests with, and the request that they know. Conditions: rows of at most a million bytes. -/
namespace Go.Proofs.YtgkhelbpccehcaaGreatDoor
open Go.RowKit
set_option linter.unusedVariables false
set_option linter.unusedSimpArgs false

theorem eql_tgt (f : Int) (h p k : ByteArray) (w : World) : (binOp .eql 37 (.agg #[.int .i64 f, .string h, .string p, .string k]) (.agg #[.int .i64 f, .string h, .string p, .string k])).run Tryz.prog w = .ok (.bool true) w := by
  have u3 := Tryz.underlying3
  have a3 := Tryz.isAgg3
  have z3 := Tryz.sizeOf3
  have u9 := Tryz.underlying9
  have a9 := Tryz.isAgg9
  have z9 := Tryz.sizeOf9
  have hS : Tryz.prog.underlying 37 = some (.struct (Tryz.prog.fieldsOf 37)) := by kernel_rfl
  have hp : Tryz.prog.stoodInHeld 37 = false := by kernel_rfl
  rw [run_eql_struct, show (10000 : Nat) = 9999 + 1 from rfl, run_equalIn_agg w 9999 37 _ _ hS hp]
  simp only [Program.fieldsOf, Tryz.underlying37]
  go_simp
theorem eqg_tgt : Tryz.prog.eqGuardType Tryz.prog.depth 37 = false := by kernel_rfl
set_option maxRecDepth 10000 in
set_option maxHeartbeats 4000000 in
theorem request_l (r : RqP) (va vb ua ub : Value) (w : World) (h1 : FsAt w va r.fields) (h2 : FsAt w ua r.fields) (h3 : BsAt w vb r.body) (h4 : BsAt w ub r.body) (hl : r.fields.length ≤ 1000000) :
    Calls Tryz.prog 16 #[reqV r va vb, reqV r ua ub] w fun z w' => z = .returned (.bool true) ∧ Mods [] w w' := by
  have m1 : Mods [] w (w.alloc (.cells (reqCells r va vb) 40)) := (Mods.refl [] w).alloc _
  have m2 : Mods [] w ((w.alloc (.cells (reqCells r va vb) 40)).alloc (.cells (reqCells r ua ub) 40)) := m1.alloc _
  have r1 : Row ((w.alloc (.cells (reqCells r va vb) 40)).alloc (.cells (reqCells r ua ub) 40)) w.heap.size 40 (reqCells r va vb) := (Row.new w 40 (reqCells r va vb)).mods ((Mods.refl [] _).alloc _) (by simp)
  have r2 := Row.new (w.alloc (.cells (reqCells r va vb) 40)) 40 (reqCells r ua ub)
  rw [World.size_alloc] at r2
  obtain ⟨a1, n1, rfl⟩ := h3.len
  obtain ⟨a2, n2, rfl⟩ := h4.len
  obtain ⟨a3, n3, rfl⟩ := h1.len
  obtain ⟨a4, n4, rfl⟩ := h2.len
  have hf1 := h1.low m2
  have hf2 := h2.low m2
  have hb1 := h3.low m2
  have hb2 := h4.low m2
  unfold reqV
  obtain ⟨W, hW⟩ : ∃ W, W = ((w.alloc (.cells (reqCells r (.slice a3 r.fields.length n3) (.slice a1 r.body.length n1)) 40)).alloc (.cells (reqCells r (.slice a4 r.fields.length n4) (.slice a2 r.body.length n2)) 40)) := ⟨_, rfl⟩
  rw [← hW] at m2 r1 r2 hf1 hf2 hb1 hb2
  have HFS := Lib.hid (fun W' (hd : Mods [] W W') => fields_l15 r.fields r.fields _ _ W' (hf1.low hd) (hf2.low hd) hl hl)
  rw [decide_eq_true (rfl : r.fields = r.fields)] at HFS
  have HSM := Lib.hid (fun W' (hd : Mods [] W W') => same_l15 r.body r.body _ _ W' (hb1.low hd) (hb2.low hd) (r := true) (decide_eq_true rfl))
  obtain ⟨p, hp⟩ : ∃ p, p = w.heap.size := ⟨_, rfl⟩
  rw [← hp] at r1 r2
  have R1 := Lib.hid r1
  have R2 := Lib.hid r2
  have M2 := Lib.hid m2
  obtain ⟨md, tg, mi, fs, bd, cl, xp⟩ := r
  obtain ⟨tf, th, tp, tq⟩ := tg
  simp only [reqCells] at R1 R2 hW ⊢
  simp only at HFS HSM
  obtain ⟨nf, hnf⟩ : ∃ n, n = fs.length := ⟨_, rfl⟩
  obtain ⟨nb, hnb⟩ : ∃ n, n = bd.length := ⟨_, rfl⟩
  rw [← hnf] at HFS R1 R2
  rw [← hnb] at HSM R1 R2
  rw [← hnf, ← hnb] at hW ⊢
  have hqt := fun w => eql_tgt tf th tp tq w
  have hgt := eqg_tgt
  have hmm : (md.toList == md.toList) = true := by simp
  have hii : (mi == mi) = true := by simp
  clear m1 m2 r1 r2 h1 h2 h3 h4 hf1 hf2 hb1 hb2 hl hnf hnb
  obtain ⟨s0, s1, s2, s3, s4, s5, s6, s7, s8, s9⟩ := R1.out.ten
  obtain ⟨t0, t1, t2, t3, t4, t5, t6, t7, t8, t9⟩ := R2.out.ten
  go_enter Tryz.func16, Tryz.ntmps16
  go_upto_region 1 with fail
  rw [← hW, ← hp]
  clear hW hp
  go_wp2_with (first
    | (go_at_call 30; refine (HFS.out _ (Mods.refl [] W)).mono ?_; rintro z w1 ⟨rfl, hd⟩; have M3 := Lib.hid hd.mods15; have D3 := Lib.hid hd; obtain ⟨q1, rfl⟩ := hd)
    | (go_at_call 23; refine (HSM.out _ M3.out).mono ?_; rintro z w2 ⟨rfl, hd⟩; have M4 := Lib.hid (M3.out.trans hd.mods15 (fun _ h => nomatch h)); obtain ⟨q2, rfl⟩ := hd))
  go_ret
  exact ⟨rfl, M2.out.trans ((Mods.refl [] W).drewN _) (fun _ h => nomatch h)⟩
def knA : List UInt8 := [71, 69, 84, 32, 47, 32, 72, 84, 84, 80, 47, 49, 46, 48, 13, 10]
def knB : List UInt8 := [13, 10, 71, 69, 84]
theorem own_apart {F : List Nat} {m b off n c : Nat} (h : ∀ k ∈ F, k < m) (hb : m ≤ b) : ∀ k ∈ (Value.slice (some ⟨b, off, none⟩) n c).ownBlock.toList, k ∉ F := fun k hk hF => by
  have h1 := h k hF
  have h2 : k = b := by simpa [Value.ownBlock, eq_comm] using hk
  omega
theorem psap_two {W : World} {a1 a2 : Option Addr} {c1 c2 : Nat} {A B : List UInt8} {F : List Nat} (h1 : BsAt W (.slice a1 A.length c1) A) (h2 : BsAt W (.slice a2 B.length c2) B) (hF : ∀ k ∈ F, k < W.heap.size) (n1 : 0 < A.length → ∀ k ∈ (Value.slice a1 A.length c1).ownBlock.toList, k ∉ F) (n2 : 0 < B.length → ∀ k ∈ (Value.slice a2 B.length c2).ownBlock.toList, k ∉ F) :
    PsAp (W.alloc (.cells #[.slice a1 A.length c1, .slice a2 B.length c2] 22)) (.slice (some ⟨W.heap.size, 0, none⟩) 2 2) [A, B] F := by
  have hr := Row.new W 22 #[.slice a1 A.length c1, .slice a2 B.length c2]
  have m := (Mods.refl [] W).alloc (.cells #[.slice a1 A.length c1, .slice a2 B.length c2] 22)
  refine .inr ⟨W.heap.size, 0, 2, rfl, by simp, hr.lt, fun e => by have := hF _ e; omega, fun j hj => ?_⟩
  have hj2 : j = 0 ∨ j = 1 := by simp only [List.length_cons, List.length_nil] at hj; omega
  rcases hj2 with rfl | rfl
  · exact ⟨_, hr.cell 0, h1.low m, n1⟩
  · exact ⟨_, hr.cell 1, h2.low m, n2⟩
theorem psap_one {W : World} {a1 : Option Addr} {c1 : Nat} {A : List UInt8} {F : List Nat} (h1 : BsAt W (.slice a1 A.length c1) A) (hF : ∀ k ∈ F, k < W.heap.size) (n1 : 0 < A.length → ∀ k ∈ (Value.slice a1 A.length c1).ownBlock.toList, k ∉ F) :
    PsAp (W.alloc (.cells #[.slice a1 A.length c1] 22)) (.slice (some ⟨W.heap.size, 0, none⟩) 1 1) [A] F := by
  have hr := Row.new W 22 #[.slice a1 A.length c1]
  have m := (Mods.refl [] W).alloc (.cells #[.slice a1 A.length c1] 22)
  refine .inr ⟨W.heap.size, 0, 1, rfl, by simp, hr.lt, fun e => by have := hF _ e; omega, fun j hj => ?_⟩
  obtain rfl : j = 0 := by simp only [List.length_cons, List.length_nil] at hj; omega
  exact ⟨_, hr.cell 0, h1.low m, n1⟩
set_option maxRecDepth 10000 in
set_option maxHeartbeats 4000000 in
theorem known_15 (w : World) : Calls Tryz.prog 18 #[] w fun z w' => z = .returned (.bool true) ∧ Mods [] w w' := by
  have HN := Lib.hid (new_p w)
  unfold ptr at HN
  go_enter Tryz.func18, Tryz.ntmps18
  go_upto_region 2 with (go_at_call 9; refine HN.out.mono ?_; rintro z w1 ⟨g, F, rfl, hk⟩; have HA := Lib.hid hk.out; clear hk)
  have hcv1 : (convert 22 22 (.slice (some ⟨w1.heap.size, 0, none⟩) 16 16)).run Tryz.prog (w1.alloc (.cells #[.int .u8 71, .int .u8 69, .int .u8 84, .int .u8 32, .int .u8 47, .int .u8 32, .int .u8 72, .int .u8 84, .int .u8 84, .int .u8 80, .int .u8 47, .int .u8 49, .int .u8 46, .int .u8 48, .int .u8 13, .int .u8 10] 5)) = .ok (.slice (some ⟨w1.heap.size, 0, none⟩) 16 16) (w1.alloc (.cells #[.int .u8 71, .int .u8 69, .int .u8 84, .int .u8 32, .int .u8 47, .int .u8 32, .int .u8 72, .int .u8 84, .int .u8 84, .int .u8 80, .int .u8 47, .int .u8 49, .int .u8 46, .int .u8 48, .int .u8 13, .int .u8 10] 5 (16, 17))) := conv_lit w1 #[.int .u8 71, .int .u8 69, .int .u8 84, .int .u8 32, .int .u8 47, .int .u8 32, .int .u8 72, .int .u8 84, .int .u8 84, .int .u8 80, .int .u8 47, .int .u8 49, .int .u8 46, .int .u8 48, .int .u8 13, .int .u8 10] 16 16 _ rfl
  have m1 : Mods [] w1 (w1.alloc (.cells #[.int .u8 71, .int .u8 69, .int .u8 84, .int .u8 32, .int .u8 47, .int .u8 32, .int .u8 72, .int .u8 84, .int .u8 84, .int .u8 80, .int .u8 47, .int .u8 49, .int .u8 46, .int .u8 48, .int .u8 13, .int .u8 10] 5 (16, 17))) := (Mods.refl [] w1).alloc _
  have b1 : BsAt (w1.alloc (.cells #[.int .u8 71, .int .u8 69, .int .u8 84, .int .u8 32, .int .u8 47, .int .u8 32, .int .u8 72, .int .u8 84, .int .u8 84, .int .u8 80, .int .u8 47, .int .u8 49, .int .u8 46, .int .u8 48, .int .u8 13, .int .u8 10] 5 (16, 17))) (.slice (some ⟨w1.heap.size, 0, none⟩) 16 16) knA := lit_at w1 knA (16, 17) (by decide) (by decide)
  obtain ⟨W1, hW1⟩ : ∃ W1, W1 = w1.alloc (.cells #[.int .u8 71, .int .u8 69, .int .u8 84, .int .u8 32, .int .u8 47, .int .u8 32, .int .u8 72, .int .u8 84, .int .u8 84, .int .u8 80, .int .u8 47, .int .u8 49, .int .u8 46, .int .u8 48, .int .u8 13, .int .u8 10] 5 (16, 17)) := ⟨_, rfl⟩
  rw [← hW1] at b1
  rw [← hW1] at m1
  have hsz : W1.heap.size = w1.heap.size + 1 := by rw [hW1]; exact World.size_alloc _ _
  have hcv2 : (convert 22 22 (.slice (some ⟨W1.heap.size, 0, none⟩) 5 5)).run Tryz.prog (W1.alloc (.cells #[.int .u8 13, .int .u8 10, .int .u8 71, .int .u8 69, .int .u8 84] 5)) = .ok (.slice (some ⟨W1.heap.size, 0, none⟩) 5 5) (W1.alloc (.cells #[.int .u8 13, .int .u8 10, .int .u8 71, .int .u8 69, .int .u8 84] 5 (5, 6))) := conv_lit W1 #[.int .u8 13, .int .u8 10, .int .u8 71, .int .u8 69, .int .u8 84] 5 5 _ rfl
  have m2 : Mods [] W1 (W1.alloc (.cells #[.int .u8 13, .int .u8 10, .int .u8 71, .int .u8 69, .int .u8 84] 5 (5, 6))) := (Mods.refl [] W1).alloc _
  have b2 : BsAt (W1.alloc (.cells #[.int .u8 13, .int .u8 10, .int .u8 71, .int .u8 69, .int .u8 84] 5 (5, 6))) (.slice (some ⟨W1.heap.size, 0, none⟩) 5 5) knB := lit_at W1 knB (5, 6) (by decide) (by decide)
  obtain ⟨W2, hW2⟩ : ∃ W2, W2 = W1.alloc (.cells #[.int .u8 13, .int .u8 10, .int .u8 71, .int .u8 69, .int .u8 84] 5 (5, 6)) := ⟨_, rfl⟩
  rw [← hW2] at b2
  rw [← hW2] at m2
  have a2 := (HA.out.1.low m1).low m2
  have hlt := HA.out.1.lt
  have hps : PsAp (W2.alloc (.cells #[.slice (some ⟨w1.heap.size, 0, none⟩) 16 16, .slice (some ⟨W1.heap.size, 0, none⟩) 5 5] 22)) (.slice (some ⟨W2.heap.size, 0, none⟩) 2 2) [knA, knB] F := psap_two (A := knA) (B := knB) (F := F) (b1.low m2) b2 a2.lt (fun _ => own_apart hlt (by omega)) (fun _ => own_apart hlt (by omega))
  have m3 := (Mods.refl [] W2).alloc (.cells #[.slice (some ⟨w1.heap.size, 0, none⟩) 16 16, .slice (some ⟨W1.heap.size, 0, none⟩) 5 5] 22)
  have hfd := feedr_p _ [knA, knB] hps (a2.low m3) (by decide) (by decide)
  rw [show [knA, knB].flatten = knR from rfl] at hfd
  obtain ⟨e1, e2, e3, e4, e5⟩ := knR_feed
  obtain ⟨R, n, hr⟩ : ∃ R n, feedR newR knR = (R, n) := ⟨_, _, rfl⟩
  rw [hr] at hfd e1 e2 e3 e4 e5
  simp only at hfd e1 e2 e3 e4 e5
  subst e1
  have HFD := Lib.hid hfd
  have HE := Lib.hid (And.intro e2 (And.intro e3 (And.intro e4 e5)))
  have M3 := Lib.hid (((HA.out.2.1.trans m1 (fun _ h => nomatch h)).trans m2 (fun _ h => nomatch h)).trans m3 (fun _ h => nomatch h))
  have HFN := Lib.hid HA.out.2.2
  unfold ptr at HFD
  rw [← hW1] at hcv1
  rw [← hW2] at hcv2
  clear hW1 hW2 m1 b1 m2 b2 m3 hps a2 hlt hfd hr e2 e3 e4 e5 hsz HN
  go_upto_region 3 with (go_at_call 11; refine HFD.out.mono ?_; rintro z w2 ⟨rfl, hk⟩; have HQ := Lib.hid hk.out; clear hk)
  clear hcv1 hcv2 HFD
  obtain ⟨F2, a2, hg2⟩ := HQ.out
  have m4 : Mods [] w w2 := M3.out.trans hg2.mods (fun k hk => .inr (HFN.out k hk))
  have htk := takerq_p a2
  rw [take_w HE.out.1] at htk
  have HTK := Lib.hid htk
  have M4 := Lib.hid m4
  have HF2 := Lib.hid (show ∀ k ∈ F2, w.heap.size ≤ k from fun k hk => by
    rcases hg2.news k hk with h | h
    · exact HFN.out k h
    · have := M3.out.size; omega)
  have HRQ := Lib.hid (take_w HE.out.1)
  unfold ptr reqV reqCells at HTK
  clear a2 hg2 m4 htk
  obtain ⟨rq, hrq⟩ : ∃ rq, rq = rqOf R := ⟨_, rfl⟩
  have HRE := Lib.hid (show rq.close = true ∧ rq.minor = 0 ∧ rq.tgt.path = ⟨#[47]⟩ by rw [hrq]; exact HE.out.2)
  simp only at HTK
  rw [← hrq] at HTK
  clear hrq
  obtain ⟨q1, q2, q3, q4, q5, q6, q7⟩ := rq
  obtain ⟨t1, t2, t3, t4⟩ := q2
  obtain ⟨rfl, rfl, rfl⟩ := HRE.out
  simp only at HTK
  go_upto_region 4 with (go_at_call 14; refine HTK.out.mono ?_; rintro z w3 ⟨vf, vb, rfl, hk⟩; have HTR := Lib.hid hk.out; obtain ⟨fa, fc, rfl⟩ := hk.out.1.len; obtain ⟨bA, bC, rfl⟩ := hk.out.2.1.len; clear hk)
  obtain ⟨-, -, F3, a3, hg3, -⟩ := HTR.out
  have m5 : Mods [] w w3 := M4.out.trans hg3.mods (fun k hk => .inr (HF2.out k hk))
  have hph := fun W' (hm : Mods [] w3 W') => phase_p (a3.low hm)
  rw [HRQ.out] at hph
  have M5 := Lib.hid m5
  have HPH := Lib.hid hph
  unfold ptr at HPH
  clear hph a3 hg3 m5
  go_wp2_with (go_at_call 19; refine (HPH.out _ ((Mods.refl [] w3).alloc _)).mono ?_; rintro z w4 ⟨rfl, rfl⟩)
  go_ret
  exact ⟨rfl, M5.out.alloc _⟩
end Go.Proofs.YtgkhelbpccehcaaGreatDoor
