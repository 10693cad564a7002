/- Targets as texts: plain functions. No program. -/
import Derived.Test.YtgckpoecdaioiaaTj11
namespace Go.Proofs.Ytgckpoecdaioiaa
open Go.RowKit
set_option linter.unusedVariables false

def capsL : List UInt8 := [48, 49, 50, 51, 52, 53, 54, 55, 56, 57, 65, 66, 67, 68, 69, 70]
/-- A byte in percents. -/
def pctL (c : UInt8) : List UInt8 := [37, capsL.getD (c.toNat / 16) 0, capsL.getD (c.toNat % 16) 0]
def pathB (c : UInt8) : List UInt8 := if plainB c = true then [c] else pctL c
/-- A path as a request has it. -/
def pathL (l : List UInt8) : List UInt8 := l.flatMap pathB
def queL (q : List UInt8) : List UInt8 := if q = [] then [] else 63 :: q
def textL (t : Tgt) : List UInt8 := pathL t.path.data.toList ++ queL t.query.data.toList
/-- How a target would be written, and the method of its form. -/
def wrT (t : Tgt) : List UInt8 × List UInt8 :=
  if t.form = 1 then (getL, textL t)
  else if t.form = 2 then (getL, httpL ++ t.host.data.toList ++ textL t)
  else if t.form = 3 then (connectL, t.host.data.toList)
  else if t.form = 4 then (optionsL, [42])
  else (getL, [])
/-- Whether it is parsed so. -/
def backT (t : Tgt) : Bool := decide ((parT (wrT t).1 (wrT t).2).2 = 0 ∧ (parT (wrT t).1 (wrT t).2).1.form = t.form ∧ (parT (wrT t).1 (wrT t).2).1.host = t.host ∧ (parT (wrT t).1 (wrT t).2).1.path = t.path ∧ (parT (wrT t).1 (wrT t).2).1.query = t.query)
theorem backT_iff (t : Tgt) : backT t = true ↔ parT (wrT t).1 (wrT t).2 = (t, 0) := by
  unfold backT
  rw [decide_eq_true_iff]
  constructor
  · rintro ⟨h0, h1, h2, h3, h4⟩
    exact Prod.ext (Tgt.ext' h1 h2 h3 h4) h0
  · intro h; rw [h]; exact ⟨rfl, rfl, rfl, rfl, rfl⟩
/-- What Print answers. -/
def prT (t : Tgt) : ByteArray × Int := if backT t = true then (ofL (wrT t).2, 0) else (noB, 1)
theorem prT_yes {t : Tgt} (h : parT (wrT t).1 (wrT t).2 = (t, 0)) : prT t = (ofL (wrT t).2, 0) := by unfold prT; rw [if_pos ((backT_iff t).2 h)]
theorem prT_no {t : Tgt} (h : parT (wrT t).1 (wrT t).2 ≠ (t, 0)) : prT t = (noB, 1) := by unfold prT; rw [if_neg fun e => h ((backT_iff t).1 e)]
theorem pathL_nil : pathL [] = [] := rfl
theorem pathL_snoc (l : List UInt8) (c : UInt8) : pathL (l ++ [c]) = pathL l ++ pathB c := by simp [pathL]
theorem pathB_len (c : UInt8) : 1 ≤ (pathB c).length ∧ (pathB c).length ≤ 3 := by
  unfold pathB; split
  · simp
  · simp [pctL]
theorem pathL_len : ∀ l : List UInt8, l.length ≤ (pathL l).length ∧ (pathL l).length ≤ 3 * l.length
  | [] => by simp [pathL]
  | c :: r => by
    have h := pathL_len r
    have hb := pathB_len c
    have e : pathL (c :: r) = pathB c ++ pathL r := by simp [pathL]
    rw [e, List.length_append, List.length_cons]; omega
theorem queL_len (q : List UInt8) : q.length ≤ (queL q).length ∧ (queL q).length ≤ q.length + 1 := by
  unfold queL; split
  · rename_i h; subst h; simp
  · simp
theorem textL_len (t : Tgt) : t.path.size + t.query.size ≤ (textL t).length ∧ (textL t).length ≤ 3 * t.path.size + t.query.size + 1 := by
  have h1 := pathL_len t.path.data.toList
  have h2 := queL_len t.query.data.toList
  rw [len_data] at h1 h2
  unfold textL; rw [List.length_append]; omega
theorem tgt_inj {a b : Tgt} {n m : Int} (h : ((a, n) : Tgt × Int) = (b, m)) : a = b ∧ n = m := by injection h with h1 h2; exact ⟨h1, h2⟩
theorem noB_size : noB.size = 0 := rfl
theorem orgF_res {f : Int} {h : ByteArray} {l : List UInt8} {t : Tgt} (e : orgF f h l = (t, 0)) : t.form = f ∧ t.host = h := by
  unfold orgF at e
  split at e
  · obtain ⟨e1, _⟩ := tgt_inj e; rw [← e1]; exact ⟨rfl, rfl⟩
  · obtain ⟨_, e2⟩ := tgt_inj e; exact absurd e2 (by decide)
theorem authL_res {l : List UInt8} {t : Tgt} (e : authL l = (t, 0)) : t.form = 3 ∧ t.path = noB ∧ t.query = noB := by
  unfold authL at e
  split at e
  · obtain ⟨e1, _⟩ := tgt_inj e; rw [← e1]; exact ⟨rfl, rfl, rfl⟩
  · obtain ⟨_, e2⟩ := tgt_inj e; exact absurd e2 (by decide)
theorem absL_res {l : List UInt8} {t : Tgt} (e : absL l = (t, 0)) : t.form = 2 := by
  unfold absL at e
  split at e
  · exact (orgF_res e).1
  · obtain ⟨_, e2⟩ := tgt_inj e; exact absurd e2 (by decide)
theorem no_res {n : Int} {t : Tgt} (hn : n ≠ 0) (e : ((noT, n) : Tgt × Int) = (t, 0)) : False := hn (tgt_inj e).2
/-- What GET is for. -/
theorem get_res {l : List UInt8} {t : Tgt} (e : parT getL l = (t, 0)) : l.length ≤ 200 ∧ (t.form = 1 ∧ t.host = noB ∨ t.form = 2) := by
  unfold parT at e
  split at e
  · exact (no_res (by decide) e).elim
  · rename_i hl
    refine ⟨by omega, ?_⟩
    rw [if_neg (by decide), if_neg (by intro h; exact absurd h.1 (by decide))] at e
    split at e
    · exact .inl (orgF_res e)
    · split at e
      · exact .inr (absL_res e)
      · exact (no_res (by decide) e).elim
theorem con_res {l : List UInt8} {t : Tgt} (e : parT connectL l = (t, 0)) : l.length ≤ 200 ∧ t.path = noB ∧ t.query = noB := by
  unfold parT at e
  split at e
  · exact (no_res (by decide) e).elim
  · rename_i hl
    rw [if_pos rfl] at e
    exact ⟨by omega, (authL_res e).2⟩
theorem opt_res : parT optionsL [42] = (⟨4, noB, noB, noB⟩, 0) := parT_opt (by decide) (by decide) ⟨rfl, rfl⟩
theorem wr_1 {t : Tgt} (h : t.form = 1) : wrT t = (getL, textL t) := by unfold wrT; rw [if_pos h]
theorem wr_2 {t : Tgt} (h : t.form = 2) : wrT t = (getL, httpL ++ t.host.data.toList ++ textL t) := by unfold wrT; rw [if_neg (by omega), if_pos h]
theorem wr_3 {t : Tgt} (h : t.form = 3) : wrT t = (connectL, t.host.data.toList) := by unfold wrT; rw [if_neg (by omega), if_neg (by omega), if_pos h]
theorem wr_4 {t : Tgt} (h : t.form = 4) : wrT t = (optionsL, [42]) := by unfold wrT; rw [if_neg (by omega), if_neg (by omega), if_neg (by omega), if_pos h]
theorem wr_0 {t : Tgt} (h1 : t.form ≠ 1) (h2 : t.form ≠ 2) (h3 : t.form ≠ 3) (h4 : t.form ≠ 4) : wrT t = (getL, []) := by unfold wrT; rw [if_neg h1, if_neg h2, if_neg h3, if_neg h4]
/-- What is parsed so fits. -/
theorem wr_fits {t : Tgt} (h : parT (wrT t).1 (wrT t).2 = (t, 0)) : t.host.size + t.path.size + t.query.size ≤ 200 := by
  have hl := textL_len t
  by_cases h1 : t.form = 1
  · rw [wr_1 h1] at h
    obtain ⟨g1, g2⟩ := get_res h
    rcases g2 with ⟨_, g2⟩ | g2
    · rw [g2, noB_size]; simp only at g1; omega
    · omega
  · by_cases h2 : t.form = 2
    · rw [wr_2 h2] at h
      obtain ⟨g1, _⟩ := get_res h
      rw [List.length_append, List.length_append, len_data] at g1
      omega
    · by_cases h3 : t.form = 3
      · rw [wr_3 h3] at h
        obtain ⟨g1, g2, g3⟩ := con_res h
        rw [g2, g3, noB_size]
        simp only [len_data] at g1
        omega
      · by_cases h4 : t.form = 4
        · rw [wr_4 h4, opt_res] at h
          obtain ⟨e, _⟩ := tgt_inj h
          rw [← e]; decide
        · rw [wr_0 h1 h2 h3 h4] at h
          obtain ⟨_, g2⟩ := get_res h
          rcases g2 with ⟨g2, _⟩ | g2
          · exact absurd g2 h1
          · exact absurd g2 h2
theorem prT_big {t : Tgt} (h : 200 < t.host.size + t.path.size + t.query.size) : prT t = (noB, 1) := prT_no fun e => by have := wr_fits e; omega
/-- A text that Print answers is parsed so again. -/
theorem prT_back {t : Tgt} {s : ByteArray} (h : prT t = (s, 0)) : parT (wrT t).1 s.data.toList = (t, 0) := by
  unfold prT at h
  split at h
  · rename_i hb
    injection h with h1 _
    rw [← h1, ofL_list]
    exact (backT_iff t).1 hb
  · injection h with _ h2
    exact absurd h2 (by decide)
theorem prT_cases (t : Tgt) : (prT t).2 = 0 ∨ (prT t).2 = 1 := by
  unfold prT; split
  · exact .inl rfl
  · exact .inr rfl
end Go.Proofs.Ytgckpoecdaioiaa
