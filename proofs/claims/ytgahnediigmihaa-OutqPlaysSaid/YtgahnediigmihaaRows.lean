/-
  No cell of these rows narrows 'for every input' (looked for: loops, veiled, ifaces, maps, wideKeys, modest, calm, conditions, laid).
  DERIVED. THE GIVEN ROWS OF THIS SEAT. 5 by the template 'for every input the law returns true; each argument reads behind the call as it read before'; 0 by the template 'total and deterministic' (their statements: YtgahnediigmihaaTotals.lean).
  GIVEN WITH THE SEED: the statements are not yours to turn. If you find one false, say at which input.
  Laid BY PROGRAM, IN A SANDBOX (cutbox-rows.mjs): the forced cells as the released guide's own fill.sh prints them over the translation cce8167efd48cc97… (all of the seat's roots in one cut). By AI agents, Wed Nov 11 2026. No macro, syntax, notation, axiom, sorry.
-/
import Derived.Test.YtgahnediigmihaaChecked
import GoSem.Claim
import GoSem.ClaimJoined
import GoSem.ClaimMapViews
import Derived.JoinedTies
import Derived.KernelRfl
namespace Go.Proofs.Ytgahnediigmihaa
/- THE CELL 'sum', in the pinned program and in every row, IS THE sha256 OF THE DUMP (.gsa) THAT YtgahnediigmihaaProg.lean LOADS. Nothing in Lean hashes anything: it is a label: what it is worth is what the hold of that sum in a sandbox is worth. -/
noncomputable def Try.pinned : Pinned := { name := "ytgahnediigmihaa", sum := "cce8167efd48cc973a2ce5624d05d2b2967aa3aa4b6128667587b01a68bccff9", checked := Try.checked }
namespace Rows
def none {H : Type} : Left H := { results := [], args := [] }

/-- 'usherlaw5.OutqPlays': WHATEVER THE INPUT: true; the input reads as it did. -/
def outqPlaysSpec : ChangeSpec := { name := "outqPlays", fn := fun _ => fun
  | [d] => { results := [.lit (.bool true)], args := [d] }
  | _ => none }
def outqPlaysRow : OpenClaim := { program := "ytgahnediigmihaa", sum := "cce8167efd48cc973a2ce5624d05d2b2967aa3aa4b6128667587b01a68bccff9", func := "usher/usherlaw5.OutqPlays", spec := "outqPlays", apart := false }
def OutqPlaysSaid : Prop := outqPlaysRow.holds Try.pinned (OpenSpec.ofChange outqPlaysSpec)

/-- ITS FALSE NEIGHBOUR: 'it returns false'. Refute it at one input. -/
def outqPlaysWrong : ChangeSpec := { name := "outqPlays", fn := fun _ => fun
  | [d] => { results := [.lit (.bool false)], args := [d] }
  | _ => none }
def OutqPlaysWrongFalsely : Prop := outqPlaysRow.holds Try.pinned (OpenSpec.ofChange outqPlaysWrong)

/-- 'usherlaw5.OutqFlows': WHATEVER THE INPUT: true; the input reads as it did. -/
def outqFlowsSpec : ChangeSpec := { name := "outqFlows", fn := fun _ => fun
  | [d1, d2] => { results := [.lit (.bool true)], args := [d1, d2] }
  | _ => none }
def outqFlowsRow : OpenClaim := { program := "ytgahnediigmihaa", sum := "cce8167efd48cc973a2ce5624d05d2b2967aa3aa4b6128667587b01a68bccff9", func := "usher/usherlaw5.OutqFlows", spec := "outqFlows", apart := false }
def OutqFlowsSaid : Prop := outqFlowsRow.holds Try.pinned (OpenSpec.ofChange outqFlowsSpec)

/-- ITS FALSE NEIGHBOUR: 'it returns false'. Refute it at one input. -/
def outqFlowsWrong : ChangeSpec := { name := "outqFlows", fn := fun _ => fun
  | [d1, d2] => { results := [.lit (.bool false)], args := [d1, d2] }
  | _ => none }
def OutqFlowsWrongFalsely : Prop := outqFlowsRow.holds Try.pinned (OpenSpec.ofChange outqFlowsWrong)

/-- 'usherlaw5.OutqOfNothing': WHATEVER THE INPUT: true; the input reads as it did. -/
def outqOfNothingSpec : ChangeSpec := { name := "outqOfNothing", fn := fun _ => fun
  | [d1, d2] => { results := [.lit (.bool true)], args := [d1, d2] }
  | _ => none }
def outqOfNothingRow : OpenClaim := { program := "ytgahnediigmihaa", sum := "cce8167efd48cc973a2ce5624d05d2b2967aa3aa4b6128667587b01a68bccff9", func := "usher/usherlaw5.OutqOfNothing", spec := "outqOfNothing", apart := false }
def OutqOfNothingSaid : Prop := outqOfNothingRow.holds Try.pinned (OpenSpec.ofChange outqOfNothingSpec)

/-- ITS FALSE NEIGHBOUR: 'it returns false'. Refute it at one input. -/
def outqOfNothingWrong : ChangeSpec := { name := "outqOfNothing", fn := fun _ => fun
  | [d1, d2] => { results := [.lit (.bool false)], args := [d1, d2] }
  | _ => none }
def OutqOfNothingWrongFalsely : Prop := outqOfNothingRow.holds Try.pinned (OpenSpec.ofChange outqOfNothingWrong)

/-- 'usherlaw5.OutqParts': WHATEVER THE INPUT: true; the input reads as it did. -/
def outqPartsSpec : ChangeSpec := { name := "outqParts", fn := fun _ => fun
  | [d] => { results := [.lit (.bool true)], args := [d] }
  | _ => none }
def outqPartsRow : OpenClaim := { program := "ytgahnediigmihaa", sum := "cce8167efd48cc973a2ce5624d05d2b2967aa3aa4b6128667587b01a68bccff9", func := "usher/usherlaw5.OutqParts", spec := "outqParts", apart := false }
def OutqPartsSaid : Prop := outqPartsRow.holds Try.pinned (OpenSpec.ofChange outqPartsSpec)

/-- ITS FALSE NEIGHBOUR: 'it returns false'. Refute it at one input. -/
def outqPartsWrong : ChangeSpec := { name := "outqParts", fn := fun _ => fun
  | [d] => { results := [.lit (.bool false)], args := [d] }
  | _ => none }
def OutqPartsWrongFalsely : Prop := outqPartsRow.holds Try.pinned (OpenSpec.ofChange outqPartsWrong)

/-- 'usherlaw5.OutqDrops': WHATEVER THE INPUT: true; the input reads as it did. -/
def outqDropsSpec : ChangeSpec := { name := "outqDrops", fn := fun _ => fun
  | [d1, d2, d3] => { results := [.lit (.bool true)], args := [d1, d2, d3] }
  | _ => none }
def outqDropsRow : OpenClaim := { program := "ytgahnediigmihaa", sum := "cce8167efd48cc973a2ce5624d05d2b2967aa3aa4b6128667587b01a68bccff9", func := "usher/usherlaw5.OutqDrops", spec := "outqDrops", apart := false }
def OutqDropsSaid : Prop := outqDropsRow.holds Try.pinned (OpenSpec.ofChange outqDropsSpec)

/-- ITS FALSE NEIGHBOUR: 'it returns false'. Refute it at one input. -/
def outqDropsWrong : ChangeSpec := { name := "outqDrops", fn := fun _ => fun
  | [d1, d2, d3] => { results := [.lit (.bool false)], args := [d1, d2, d3] }
  | _ => none }
def OutqDropsWrongFalsely : Prop := outqDropsRow.holds Try.pinned (OpenSpec.ofChange outqDropsWrong)

/- THE SECOND FORM. 'bulk': how many values and letters a reading holds, each counted each time it is reached (what is shared counts as often as it is met; a slice's spare places count too). A statement '..UptoSaid' is the law's where the arguments, and the package variables that the reading takes, are together of bulk at most 1048576: NARROWER than '..Said'. Prove '..Said' where nothing that the law and all that it calls make is longer than what came in: it says more and counts as full. Else prove '..UptoSaid'. A law counts once. -/
mutual
def uptoBulk {H : Type} : DataW H → Nat
  | .lit (.string bytes) => bytes.length + 1
  | .lit _ => 1
  | .nil => 1
  | .ptr d => uptoBulk d + 1
  | .slice elems spare => uptoBulkAll elems + uptoBulkAll spare + 1
  | .agg parts => uptoBulkAll parts + 1
  | .iface _ d => uptoBulk d + 1
  | .map entries => uptoBulkEntries entries + 1
  | .held _ => 1
def uptoBulkAll {H : Type} : List (DataW H) → Nat
  | [] => 0
  | d :: r => uptoBulk d + uptoBulkAll r
def uptoBulkEntries {H : Type} : List (Lit × DataW H) → Nat
  | [] => 0
  | x :: r => uptoBulkEntry x + uptoBulkEntries r
def uptoBulkEntry {H : Type} : Lit × DataW H → Nat
  | (.string bytes, d) => bytes.length + uptoBulk d + 1
  | (_, d) => uptoBulk d + 1
 end
def uptoSmall : (H : Type) → List (DataW H) → Bool := fun _ ds => decide (uptoBulkAll ds ≤ 1048576)
def OpenSpec.upto (s : _root_.Go.ChangeSpec) : _root_.Go.OpenSpec := { _root_.Go.OpenSpec.ofChange s with cond := some uptoSmall }

/-- 'usherlaw5.OutqPlays', WHERE WHAT IT READS IS OF BULK AT MOST 1048576: true; the input reads as it did. -/
def outqPlaysUptoRow : OpenClaim := { program := "ytgahnediigmihaa", sum := "cce8167efd48cc973a2ce5624d05d2b2967aa3aa4b6128667587b01a68bccff9", func := "usher/usherlaw5.OutqPlays", spec := "outqPlays", apart := false, narrowed := true }
def OutqPlaysUptoSaid : Prop := outqPlaysUptoRow.holds Try.pinned (OpenSpec.upto outqPlaysSpec)

/-- 'usherlaw5.OutqFlows', WHERE WHAT IT READS IS OF BULK AT MOST 1048576: true; the input reads as it did. -/
def outqFlowsUptoRow : OpenClaim := { program := "ytgahnediigmihaa", sum := "cce8167efd48cc973a2ce5624d05d2b2967aa3aa4b6128667587b01a68bccff9", func := "usher/usherlaw5.OutqFlows", spec := "outqFlows", apart := false, narrowed := true }
def OutqFlowsUptoSaid : Prop := outqFlowsUptoRow.holds Try.pinned (OpenSpec.upto outqFlowsSpec)

/-- 'usherlaw5.OutqOfNothing', WHERE WHAT IT READS IS OF BULK AT MOST 1048576: true; the input reads as it did. -/
def outqOfNothingUptoRow : OpenClaim := { program := "ytgahnediigmihaa", sum := "cce8167efd48cc973a2ce5624d05d2b2967aa3aa4b6128667587b01a68bccff9", func := "usher/usherlaw5.OutqOfNothing", spec := "outqOfNothing", apart := false, narrowed := true }
def OutqOfNothingUptoSaid : Prop := outqOfNothingUptoRow.holds Try.pinned (OpenSpec.upto outqOfNothingSpec)

/-- 'usherlaw5.OutqParts', WHERE WHAT IT READS IS OF BULK AT MOST 1048576: true; the input reads as it did. -/
def outqPartsUptoRow : OpenClaim := { program := "ytgahnediigmihaa", sum := "cce8167efd48cc973a2ce5624d05d2b2967aa3aa4b6128667587b01a68bccff9", func := "usher/usherlaw5.OutqParts", spec := "outqParts", apart := false, narrowed := true }
def OutqPartsUptoSaid : Prop := outqPartsUptoRow.holds Try.pinned (OpenSpec.upto outqPartsSpec)

/-- 'usherlaw5.OutqDrops', WHERE WHAT IT READS IS OF BULK AT MOST 1048576: true; the input reads as it did. -/
def outqDropsUptoRow : OpenClaim := { program := "ytgahnediigmihaa", sum := "cce8167efd48cc973a2ce5624d05d2b2967aa3aa4b6128667587b01a68bccff9", func := "usher/usherlaw5.OutqDrops", spec := "outqDrops", apart := false, narrowed := true }
def OutqDropsUptoSaid : Prop := outqDropsUptoRow.holds Try.pinned (OpenSpec.upto outqDropsSpec)

end Rows
end Go.Proofs.Ytgahnediigmihaa
