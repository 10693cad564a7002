/- The document's Quoted. Conditions: a text of at most a million bytes. -/
import Derived.Test.YtdalomhcglbhjaaDoorQp9
namespace Go.Proofs.YtdalomhcglbhjaaDoor
open Go.RowKit
set_option linter.unusedVariables false

theorem qscan_34 (r : List UInt8) : qscan (34 :: r) = some ([], 1) := by unfold qscan; simp
theorem qscan_92 (d : UInt8) (r : List UInt8) : qscan (92 :: d :: r) = if valB d = true then (qscan r).map (fun p => (d :: p.1, p.2 + 2)) else none := by
  conv => lhs; unfold qscan
  rw [if_neg (by decide), if_pos rfl]
theorem qscan_last : qscan [92] = none := by unfold qscan; simp
theorem qscan_on {c : UInt8} (h : c ≠ 34) (h2 : c ≠ 92) (r : List UInt8) : qscan (c :: r) = if valB c = true then (qscan r).map (fun p => (c :: p.1, p.2 + 1)) else none := by
  conv => lhs; unfold qscan
  rw [if_neg h, if_neg h2]
/-- The rest of the scan, behind k bytes that gave l. -/
def qrest (l : List UInt8) (k : Nat) (o : Option (List UInt8 × Nat)) : Option (List UInt8 × Nat) := o.map fun p => (l ++ p.1, p.2 + k)
theorem qrest_map (l : List UInt8) (k : Nat) (d : UInt8) (j : Nat) (o : Option (List UInt8 × Nat)) : qrest l k (o.map (fun p => (d :: p.1, p.2 + j))) = qrest (l ++ [d]) (k + j) o := by
  cases o with
  | none => rfl
  | some p => simp [qrest]; omega
theorem qans_of {l : List UInt8} {r : List UInt8} {o : Option (List UInt8 × Nat)} (h : quotedL l = (qscan r).map (fun p => (p.1, p.2 + 1))) : qans l = ((qscan r).map (fun p => (p.1, p.2 + 1))).getD ([], 0) := by unfold qans; rw [h]

end Go.Proofs.YtdalomhcglbhjaaDoor
