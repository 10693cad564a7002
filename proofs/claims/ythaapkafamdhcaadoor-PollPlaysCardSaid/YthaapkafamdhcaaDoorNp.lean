/- A network, plainly: its connections, and what each call answers and leaves. No text of the program. -/
import Derived.Test.YthaapkafamdhcaaDoorNm
import Derived.Test.YthaapkafamdhcaaDoorNums
namespace Go.Proofs.YthaapkafamdhcaaDoor
open Go.RowKit
set_option linter.unusedVariables false
set_option linter.unusedSimpArgs false

/-- A connection. -/
structure Cn where
  peer : Int
  opn : Bool
  brk : Bool
  hlv : Bool
  sht : Bool
  inn : List Int
  win : Int
  tak : List Int
  out : List Int
  mr : Nat
  mw : Nat
/-- The network: all from number first on wait. -/
structure Nt where
  back : Int
  stop : Bool
  fail : Int
  L : List Cn
  first : Nat
def Nt.at? (S : Nt) (c : Int) : Option Cn := if c < 0 then none else S.L[c.toNat]?
def Nt.upd (S : Nt) (c : Int) (s : Cn) : Nt := { S with L := S.L.set c.toNat s }
/-- The error of somebody's side, of the server's side. -/
def Nt.e1 (S : Nt) (c : Int) : Int := match S.at? c with
  | none => 2
  | some s => if s.brk then 5 else if decide (c < S.first) && !s.opn then 6 else 0
def Nt.e2 (S : Nt) (c : Int) : Int := match S.at? c with
  | none => 2
  | some s => if (S.first : Int) ≤ c then 2 else if s.opn then (if s.brk then 5 else 0) else 6
def Cn.new (p : Int) : Cn := ⟨p, false, false, false, false, [], 0, [], [], 0, 0⟩
def Cn.break_ (s : Cn) : Cn := { s with brk := true, inn := [], win := 0 }
def Cn.setI (s : Cn) (l : List Int) : Cn := { s with inn := l }
def none_ : Cn := Cn.new 0
def Nt.get (S : Nt) (c : Int) : Cn := (S.at? c).getD none_
def Nt.wait (S : Nt) : Int := (S.L.length : Int) - S.first

def Nt.connE (S : Nt) (p : Int) : Int := if p < 0 ∨ 255 < p then 1 else if S.stop then 6 else if S.back ≤ S.wait ∨ 65536 ≤ (S.L.length : Int) then 3 else 0
def Nt.connN (S : Nt) (p : Int) : Int := if S.connE p = 0 then S.L.length else 0
def Nt.conn (S : Nt) (p : Int) : Nt := if S.connE p = 0 then { S with L := S.L ++ [Cn.new p] } else S

def fill (l m : List Int) : List Int := (l ++ m).take 1024
def Cn.send (s : Cn) (l : List Int) : Cn := { s.setI (fill s.inn l) with mr := s.mr + if s.inn.length < (fill s.inn l).length then 1 else 0 }
def Nt.sendE (S : Nt) (c : Int) : Int := if S.e1 c = 0 then (if (S.get c).hlv then 6 else 0) else S.e1 c
def Nt.sendK (S : Nt) (c : Int) (l : List Int) : Int := if S.sendE c = 0 then ((fill (S.get c).inn l).length : Int) - (S.get c).inn.length else 0
def Nt.send (S : Nt) (c : Int) (l : List Int) : Nt := if S.sendE c = 0 then S.upd c ((S.get c).send l) else S

def Cn.half (s : Cn) : Cn := { s with hlv := true, mr := s.mr + if s.hlv then 0 else 1 }
def Nt.half (S : Nt) (c : Int) : Nt := if S.e1 c = 0 then S.upd c (S.get c).half else S
def Cn.reset (s : Cn) : Cn := { s.break_ with mr := s.mr + 1, mw := s.mw + 1 }
def Nt.reset (S : Nt) (c : Int) : Nt := if S.e1 c = 0 then S.upd c (S.get c).reset else S
def Cn.open_ (s : Cn) (n : Int) : Cn := { s with win := s.win + min n (1099511627776 - s.win), mw := s.mw + if 0 < n then 1 else 0 }
def Nt.openE (S : Nt) (c n : Int) : Int := if n < 0 then 1 else S.e1 c
def Nt.open_ (S : Nt) (c n : Int) : Nt := if S.openE c n = 0 then S.upd c ((S.get c).open_ n) else S
def Nt.inject (S : Nt) (k : Int) : Nt := { S with fail := max k 0 }

def Nt.accE (S : Nt) : Int := if S.stop then 6 else if S.wait = 0 then 2 else if 0 < S.fail then 7 else 0
def Nt.accC (S : Nt) : Int := if S.accE = 0 then S.first else 0
def Nt.accP (S : Nt) : Int := if S.accE = 0 then (S.get S.first).peer else 0
def Nt.acc (S : Nt) : Nt := if S.accE = 0 then { S with first := S.first + 1, L := S.L.set S.first { S.get S.first with opn := true } } else if S.accE = 7 then { S with fail := S.fail - 1 } else S

def Nt.readE (S : Nt) (c m : Int) : Int := if m < 1 then 1 else if S.e2 c = 0 then (if (S.get c).inn.length = 0 then (if (S.get c).hlv then 0 else 4) else 0) else S.e2 c
def Nt.readB (S : Nt) (c m : Int) : List Int := if S.readE c m = 0 then (S.get c).inn.take m.toNat else []
def Cn.read (s : Cn) (m : Int) : Cn := { s with inn := s.inn.drop m.toNat, tak := s.tak ++ s.inn.take m.toNat }
def Nt.read (S : Nt) (c m : Int) : Nt := if S.readE c m = 0 then S.upd c ((S.get c).read m) else S

def Nt.writeE (S : Nt) (c : Int) (l : List Int) : Int := if S.e2 c = 0 then (if (S.get c).sht then 6 else if l.length = 0 then 0 else if (S.get c).win = 0 then 4 else 0) else S.e2 c
def Nt.writeK (S : Nt) (c : Int) (l : List Int) : Nat := if S.writeE c l = 0 then min l.length (S.get c).win.toNat else 0
def Cn.write (s : Cn) (l : List Int) : Cn := { s with out := s.out ++ l, win := s.win - l.length }
def Nt.write (S : Nt) (c : Int) (l : List Int) : Nt := if S.writeE c l = 0 then S.upd c ((S.get c).write (l.take (S.writeK c l))) else S

def Nt.shut (S : Nt) (c : Int) : Nt := if S.e2 c = 0 then S.upd c { S.get c with sht := true } else S
/-- Is it open? -/
def Nt.isO (S : Nt) (c : Int) : Bool := (S.get c).opn
def Nt.close1 (S : Nt) (c : Int) : Nt := if S.isO c then S.upd c { S.get c with opn := false, inn := [] } else S
def Nt.close (S : Nt) (l : List Int) : Nt := l.foldl Nt.close1 S
/-- How many are closed. -/
def Nt.closeN (S : Nt) : List Int → Nat
  | [] => 0
  | c :: l => (if S.isO c then 1 else 0) + (S.close1 c).closeN l
def Nt.stopped (S : Nt) : Nt := { S with stop := true, L := S.L.take S.first ++ (S.L.drop S.first).map Cn.break_, first := S.L.length }

def Nt.readyR (S : Nt) (c : Int) : Bool := if c = -1 then decide (0 < S.wait) else if S.isO c then (decide (0 < (S.get c).inn.length) || (S.get c).hlv) || (S.get c).brk else false
def Nt.readyW (S : Nt) (c : Int) : Bool := if c = -1 then false else if S.isO c then (decide (0 < (S.get c).win) && !(S.get c).sht) || (S.get c).brk else false
def Nt.markR (S : Nt) (c : Int) : Int := if c = -1 then S.L.length else (S.get c).mr
def Nt.markW (S : Nt) (c : Int) : Int := if c = -1 then 0 else (S.get c).mw
def Nt.gotB (S : Nt) (c : Int) : List Int := (S.get c).out
def Nt.gotE (S : Nt) (c : Int) : Bool := match S.at? c with
  | none => false
  | some s => (s.sht || s.brk) || (decide (c < S.first) && !s.opn)
def Nt.taken (S : Nt) (c : Int) : List Int := (S.get c).tak
def Nt.stW (S : Nt) (c : Int) : Bool := match S.at? c with
  | none => false
  | some _ => decide ((S.first : Int) ≤ c)
def opens (L : List Cn) : Nat := L.countP (·.opn)

/-- What is plainly true of a network. m: bytes and marks of one connection at most. -/
structure Nt.Ok (S : Nt) (m : Nat) : Prop where
  b1 : 1 ≤ S.back
  b2 : S.back ≤ 64
  f1 : 0 ≤ S.fail
  f2 : S.fail ≤ 9223372036854775807
  n1 : S.first ≤ S.L.length
  n2 : S.L.length ≤ 65536
  cn : ∀ s ∈ S.L, 0 ≤ s.peer ∧ s.peer ≤ 255 ∧ 0 ≤ s.win ∧ s.win ≤ 1099511627776 ∧ s.inn.length ≤ 1024 ∧ s.tak.length ≤ m ∧ s.out.length ≤ m ∧ s.mr ≤ m ∧ s.mw ≤ m
  op : ∀ (i : Nat) (s : Cn), S.L[i]? = some s → s.opn = true → i < S.first
  mm : m ≤ 900000000
theorem Nt.Ok.more {S : Nt} {m n : Nat} (h : S.Ok m) (hmn : m ≤ n) (hn : n ≤ 900000000) : S.Ok n :=
  ⟨h.b1, h.b2, h.f1, h.f2, h.n1, h.n2, fun s hs => by have := h.cn s hs; omega, h.op, hn⟩
section
variable {S : Nt} {c : Int} {s : Cn}
theorem Nt.at_some {S : Nt} {c : Int} {s : Cn} (h : S.at? c = some s) : ∃ i : Nat, c = (i : Int) ∧ S.L[i]? = some s ∧ i < S.L.length := by
  unfold Nt.at? at h
  split at h
  · cases h
  · exact ⟨c.toNat, by omega, h, (List.getElem?_eq_some_iff.1 h).1⟩
theorem Nt.at_nat (S : Nt) (i : Nat) : S.at? (i : Int) = S.L[i]? := by
  unfold Nt.at?
  rw [if_neg (by omega)]
  rfl
theorem Nt.get_some (h : S.at? c = some s) : S.get c = s := by unfold Nt.get; rw [h]; rfl
theorem Nt.get_none (h : S.at? c = none) : S.get c = none_ := by unfold Nt.get; rw [h]; rfl
theorem Nt.at_none (h : S.at? c = none) : c < 0 ∨ (S.L.length : Int) ≤ c := by
  unfold Nt.at? at h
  split at h
  · exact .inl ‹_›
  · have := List.getElem?_eq_none_iff.1 h
    omega
theorem Nt.at_no (h : c < 0 ∨ (S.L.length : Int) ≤ c) : S.at? c = none := by
  unfold Nt.at?
  split
  · rfl
  · exact List.getElem?_eq_none (by omega)
/-- No error on somebody's side. -/
theorem Nt.e1_zero (h : S.e1 c = 0) : ∃ (i : Nat) (s : Cn), c = (i : Int) ∧ S.L[i]? = some s ∧ i < S.L.length ∧ S.get c = s ∧ s.brk = false ∧ (decide ((i : Int) < S.first) && !s.opn) = false := by
  unfold Nt.e1 at h
  split at h
  · cases h
  · rename_i s hs
    obtain ⟨i, rfl, h1, h2⟩ := Nt.at_some hs
    refine ⟨i, s, rfl, h1, h2, Nt.get_some hs, ?_, ?_⟩
    · cases hb : s.brk with
      | false => rfl
      | true => rw [hb] at h; cases h
    · cases hb : s.brk with
      | false =>
        rw [hb] at h
        simp only [Bool.false_eq_true, if_false] at h
        split at h
        · cases h
        · rename_i hh
          exact Bool.eq_false_iff.mpr hh
      | true => rw [hb] at h; cases h
theorem Nt.e2_zero (h : S.e2 c = 0) : ∃ (i : Nat) (s : Cn), c = (i : Int) ∧ S.L[i]? = some s ∧ i < S.L.length ∧ S.get c = s ∧ s.brk = false ∧ s.opn = true ∧ i < S.first := by
  unfold Nt.e2 at h
  split at h
  · cases h
  · rename_i s hs
    obtain ⟨i, rfl, h1, h2⟩ := Nt.at_some hs
    split at h
    · cases h
    · split at h
      · rename_i ho
        split at h
        · cases h
        · rename_i hh
          exact ⟨i, s, rfl, h1, h2, Nt.get_some hs, Bool.eq_false_iff.mpr hh, ho, by omega⟩
      · cases h
end
/-- One connection has turned: what is plainly true still is. -/
theorem Nt.Ok.upd {S : Nt} {m n i : Nat} {s' : Cn} (h : S.Ok m) (hmn : m ≤ n) (hn : n ≤ 900000000)
    (hs : 0 ≤ s'.peer ∧ s'.peer ≤ 255 ∧ 0 ≤ s'.win ∧ s'.win ≤ 1099511627776 ∧ s'.inn.length ≤ 1024 ∧ s'.tak.length ≤ n ∧ s'.out.length ≤ n ∧ s'.mr ≤ n ∧ s'.mw ≤ n) (ho : s'.opn = true → i < S.first) : (S.upd (i : Int) s').Ok n := by
  have h' := h.more hmn hn
  refine ⟨h.b1, h.b2, h.f1, h.f2, by simpa [Nt.upd] using h.n1, by simpa [Nt.upd] using h.n2, fun s hs2 => ?_, fun j s hj hop => ?_, hn⟩
  · rcases List.mem_or_eq_of_mem_set hs2 with h1 | rfl
    · exact h'.cn s h1
    · exact hs
  · simp only [Nt.upd, Int.toNat_natCast] at hj ⊢
    rw [List.getElem?_set] at hj
    split at hj
    · subst i
      split at hj
      · injection hj with hj
        subst hj
        exact ho hop
      · cases hj
    · exact h.op j s hj hop
theorem opens_set {L : List Cn} {i : Nat} {s s' : Cn} (h : L[i]? = some s) (he : s'.opn = s.opn) : opens (L.set i s') = opens L := by
  unfold opens
  induction L generalizing i with
  | nil => rfl
  | cons a L ih =>
    cases i with
    | zero => simp at h; subst h; simp [List.countP_cons, he]
    | succ i => simp at h; simp [List.countP_cons, ih h]
theorem opens_on {L : List Cn} {i : Nat} {s s' : Cn} (h : L[i]? = some s) (h1 : s.opn = false) (h2 : s'.opn = true) : opens (L.set i s') = opens L + 1 := by
  unfold opens
  induction L generalizing i with
  | nil => simp at h
  | cons a L ih =>
    cases i with
    | zero => simp at h; subst h; simp [List.countP_cons, h1, h2]
    | succ i => simp at h; simp [List.countP_cons, ih h]; omega
theorem opens_off {L : List Cn} {i : Nat} {s s' : Cn} (h : L[i]? = some s) (h1 : s.opn = true) (h2 : s'.opn = false) : opens (L.set i s') + 1 = opens L := by
  unfold opens
  induction L generalizing i with
  | nil => simp at h
  | cons a L ih =>
    cases i with
    | zero => simp at h; subst h; simp [List.countP_cons, h1, h2]
    | succ i => simp at h; have := ih h; simp [List.countP_cons]; omega
theorem opens_snoc (L : List Cn) (p : Int) : opens (L ++ [Cn.new p]) = opens L := by simp [opens, Cn.new]
theorem opens_le (L : List Cn) : opens L ≤ L.length := List.countP_le_length
theorem fill_len (l m : List Int) : (fill l m).length = min 1024 (l.length + m.length) := by simp [fill]
/-- Row by row. -/
theorem fill_fill (l m r : List Int) : fill (fill l m) r = fill l (m ++ r) := by
  unfold fill
  rw [← List.append_assoc]
  by_cases h : (l ++ m).length ≤ 1024
  · rw [List.take_of_length_le h]
  · rw [List.take_append_of_le_length (by rw [List.length_take]; omega), List.take_take, Nat.min_self, List.take_append_of_le_length (l₁ := l ++ m) (by omega)]
theorem fill_nil (l : List Int) (h : l.length ≤ 1024) : fill l [] = l := by unfold fill; rw [List.append_nil, List.take_of_length_le h]
theorem fill_cut (l m : List Int) (h : l.length ≤ 1024) : fill l m = l ++ m.take (min m.length (1024 - l.length)) := by
  unfold fill
  rw [List.take_append, List.take_of_length_le h]
  congr 1
  by_cases h2 : m.length ≤ 1024 - l.length
  · rw [Nat.min_eq_left h2, List.take_of_length_le h2, List.take_of_length_le (Nat.le_refl _)]
  · rw [Nat.min_eq_right (by omega)]
#print axioms fill_fill
end Go.Proofs.YthaapkafamdhcaaDoor
