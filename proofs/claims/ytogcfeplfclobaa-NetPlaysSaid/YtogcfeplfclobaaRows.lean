/-
  No cell of these rows narrows 'for every input' (looked for: loops, veiled, ifaces, maps, wideKeys, modest, calm, conditions, laid).
  DERIVED. THE GIVEN ROWS OF THIS SEAT. 6 by the template 'for every input the law returns true; each argument reads behind the call as it read before'; 0 by the template 'total and deterministic' (their statements: YtogcfeplfclobaaTotals.lean).
  GIVEN WITH THE SEED: the statements are not yours to turn. If you find one false, say at which input.
  Laid BY PROGRAM, IN A SANDBOX (cutbox-rows.mjs): the forced cells as the released guide's own fill.sh prints them over the translation efeb128d357bc828… (all of the seat's roots in one cut). By AI agents, Wed Nov 11 2026. No macro, syntax, notation, axiom, sorry.
-/
import Derived.Test.YtogcfeplfclobaaChecked
import GoSem.Claim
import GoSem.ClaimJoined
import GoSem.ClaimMapViews
import Derived.JoinedTies
import Derived.KernelRfl
namespace Go.Proofs.Ytogcfeplfclobaa
/- THE CELL 'sum', in the pinned program and in every row, IS THE sha256 OF THE DUMP (.gsa) THAT YtogcfeplfclobaaProg.lean LOADS. Nothing in Lean hashes anything: it is a label: what it is worth is what the hold of that sum in a sandbox is worth. -/
noncomputable def Try.pinned : Pinned := { name := "ytogcfeplfclobaa", sum := "efeb128d357bc828d802dd97b4c2e14f246f40b858007ef1ec7703136a5f2890", checked := Try.checked }
namespace Rows
def none {H : Type} : Left H := { results := [], args := [] }

/-- 'usherlaw7.NetPlays': WHATEVER THE INPUT: true; the input reads as it did. -/
def netPlaysSpec : ChangeSpec := { name := "netPlays", fn := fun _ => fun
  | [d1, d2] => { results := [.lit (.bool true)], args := [d1, d2] }
  | _ => none }
def netPlaysRow : OpenClaim := { program := "ytogcfeplfclobaa", sum := "efeb128d357bc828d802dd97b4c2e14f246f40b858007ef1ec7703136a5f2890", func := "usher/usherlaw7.NetPlays", spec := "netPlays", apart := false }
def NetPlaysSaid : Prop := netPlaysRow.holds Try.pinned (OpenSpec.ofChange netPlaysSpec)

/-- ITS FALSE NEIGHBOUR: 'it returns false'. Refute it at one input. -/
def netPlaysWrong : ChangeSpec := { name := "netPlays", fn := fun _ => fun
  | [d1, d2] => { results := [.lit (.bool false)], args := [d1, d2] }
  | _ => none }
def NetPlaysWrongFalsely : Prop := netPlaysRow.holds Try.pinned (OpenSpec.ofChange netPlaysWrong)

/-- 'usherlaw7.NetFlows': WHATEVER THE INPUT: true; the input reads as it did. -/
def netFlowsSpec : ChangeSpec := { name := "netFlows", fn := fun _ => fun
  | [d1, d2, d3] => { results := [.lit (.bool true)], args := [d1, d2, d3] }
  | _ => none }
def netFlowsRow : OpenClaim := { program := "ytogcfeplfclobaa", sum := "efeb128d357bc828d802dd97b4c2e14f246f40b858007ef1ec7703136a5f2890", func := "usher/usherlaw7.NetFlows", spec := "netFlows", apart := false }
def NetFlowsSaid : Prop := netFlowsRow.holds Try.pinned (OpenSpec.ofChange netFlowsSpec)

/-- ITS FALSE NEIGHBOUR: 'it returns false'. Refute it at one input. -/
def netFlowsWrong : ChangeSpec := { name := "netFlows", fn := fun _ => fun
  | [d1, d2, d3] => { results := [.lit (.bool false)], args := [d1, d2, d3] }
  | _ => none }
def NetFlowsWrongFalsely : Prop := netFlowsRow.holds Try.pinned (OpenSpec.ofChange netFlowsWrong)

/-- 'usherlaw7.NetOfNothing': WHATEVER THE INPUT: true; the input reads as it did. -/
def netOfNothingSpec : ChangeSpec := { name := "netOfNothing", fn := fun _ => fun
  | [d1, d2] => { results := [.lit (.bool true)], args := [d1, d2] }
  | _ => none }
def netOfNothingRow : OpenClaim := { program := "ytogcfeplfclobaa", sum := "efeb128d357bc828d802dd97b4c2e14f246f40b858007ef1ec7703136a5f2890", func := "usher/usherlaw7.NetOfNothing", spec := "netOfNothing", apart := false }
def NetOfNothingSaid : Prop := netOfNothingRow.holds Try.pinned (OpenSpec.ofChange netOfNothingSpec)

/-- ITS FALSE NEIGHBOUR: 'it returns false'. Refute it at one input. -/
def netOfNothingWrong : ChangeSpec := { name := "netOfNothing", fn := fun _ => fun
  | [d1, d2] => { results := [.lit (.bool false)], args := [d1, d2] }
  | _ => none }
def NetOfNothingWrongFalsely : Prop := netOfNothingRow.holds Try.pinned (OpenSpec.ofChange netOfNothingWrong)

/-- 'usherlaw7.NetLine': WHATEVER THE INPUT: true; the input reads as it did. -/
def netLineSpec : ChangeSpec := { name := "netLine", fn := fun _ => fun
  | [d1, d2] => { results := [.lit (.bool true)], args := [d1, d2] }
  | _ => none }
def netLineRow : OpenClaim := { program := "ytogcfeplfclobaa", sum := "efeb128d357bc828d802dd97b4c2e14f246f40b858007ef1ec7703136a5f2890", func := "usher/usherlaw7.NetLine", spec := "netLine", apart := false }
def NetLineSaid : Prop := netLineRow.holds Try.pinned (OpenSpec.ofChange netLineSpec)

/-- ITS FALSE NEIGHBOUR: 'it returns false'. Refute it at one input. -/
def netLineWrong : ChangeSpec := { name := "netLine", fn := fun _ => fun
  | [d1, d2] => { results := [.lit (.bool false)], args := [d1, d2] }
  | _ => none }
def NetLineWrongFalsely : Prop := netLineRow.holds Try.pinned (OpenSpec.ofChange netLineWrong)

/-- 'usherlaw7.NetFails': WHATEVER THE INPUT: true; the input reads as it did. -/
def netFailsSpec : ChangeSpec := { name := "netFails", fn := fun _ => fun
  | [d1, d2] => { results := [.lit (.bool true)], args := [d1, d2] }
  | _ => none }
def netFailsRow : OpenClaim := { program := "ytogcfeplfclobaa", sum := "efeb128d357bc828d802dd97b4c2e14f246f40b858007ef1ec7703136a5f2890", func := "usher/usherlaw7.NetFails", spec := "netFails", apart := false }
def NetFailsSaid : Prop := netFailsRow.holds Try.pinned (OpenSpec.ofChange netFailsSpec)

/-- ITS FALSE NEIGHBOUR: 'it returns false'. Refute it at one input. -/
def netFailsWrong : ChangeSpec := { name := "netFails", fn := fun _ => fun
  | [d1, d2] => { results := [.lit (.bool false)], args := [d1, d2] }
  | _ => none }
def NetFailsWrongFalsely : Prop := netFailsRow.holds Try.pinned (OpenSpec.ofChange netFailsWrong)

/-- 'usherlaw7.NetEnds': WHATEVER THE INPUT: true; the input reads as it did. -/
def netEndsSpec : ChangeSpec := { name := "netEnds", fn := fun _ => fun
  | [d1, d2] => { results := [.lit (.bool true)], args := [d1, d2] }
  | _ => none }
def netEndsRow : OpenClaim := { program := "ytogcfeplfclobaa", sum := "efeb128d357bc828d802dd97b4c2e14f246f40b858007ef1ec7703136a5f2890", func := "usher/usherlaw7.NetEnds", spec := "netEnds", apart := false }
def NetEndsSaid : Prop := netEndsRow.holds Try.pinned (OpenSpec.ofChange netEndsSpec)

/-- ITS FALSE NEIGHBOUR: 'it returns false'. Refute it at one input. -/
def netEndsWrong : ChangeSpec := { name := "netEnds", fn := fun _ => fun
  | [d1, d2] => { results := [.lit (.bool false)], args := [d1, d2] }
  | _ => none }
def NetEndsWrongFalsely : Prop := netEndsRow.holds Try.pinned (OpenSpec.ofChange netEndsWrong)

/- THE SECOND FORM. 'bulk': how many values and letters a reading holds, each counted each time it is reached (what is shared counts as often as it is met; a slice's spare places count too). A statement '..UptoSaid' is the law's where the arguments, and the package variables that the reading takes, are together of bulk at most 1048576: NARROWER than '..Said'. Prove '..Said' where nothing that the law and all that it calls make is longer than what came in: it says more and counts as full. Else prove '..UptoSaid'. A law counts once. -/
mutual
def uptoBulk {H : Type} : DataW H → Nat
  | .lit (.string bytes) => bytes.length + 1
  | .lit _ => 1
  | .nil => 1
  | .ptr d => uptoBulk d + 1
  | .slice elems spare => uptoBulkAll elems + uptoBulkAll spare + 1
  | .agg parts => uptoBulkAll parts + 1
  | .iface _ d => uptoBulk d + 1
  | .map entries => uptoBulkEntries entries + 1
  | .held _ => 1
def uptoBulkAll {H : Type} : List (DataW H) → Nat
  | [] => 0
  | d :: r => uptoBulk d + uptoBulkAll r
def uptoBulkEntries {H : Type} : List (Lit × DataW H) → Nat
  | [] => 0
  | x :: r => uptoBulkEntry x + uptoBulkEntries r
def uptoBulkEntry {H : Type} : Lit × DataW H → Nat
  | (.string bytes, d) => bytes.length + uptoBulk d + 1
  | (_, d) => uptoBulk d + 1
 end
def uptoSmall : (H : Type) → List (DataW H) → Bool := fun _ ds => decide (uptoBulkAll ds ≤ 1048576)
def OpenSpec.upto (s : _root_.Go.ChangeSpec) : _root_.Go.OpenSpec := { _root_.Go.OpenSpec.ofChange s with cond := some uptoSmall }

/-- 'usherlaw7.NetPlays', WHERE WHAT IT READS IS OF BULK AT MOST 1048576: true; the input reads as it did. -/
def netPlaysUptoRow : OpenClaim := { program := "ytogcfeplfclobaa", sum := "efeb128d357bc828d802dd97b4c2e14f246f40b858007ef1ec7703136a5f2890", func := "usher/usherlaw7.NetPlays", spec := "netPlays", apart := false, narrowed := true }
def NetPlaysUptoSaid : Prop := netPlaysUptoRow.holds Try.pinned (OpenSpec.upto netPlaysSpec)

/-- 'usherlaw7.NetFlows', WHERE WHAT IT READS IS OF BULK AT MOST 1048576: true; the input reads as it did. -/
def netFlowsUptoRow : OpenClaim := { program := "ytogcfeplfclobaa", sum := "efeb128d357bc828d802dd97b4c2e14f246f40b858007ef1ec7703136a5f2890", func := "usher/usherlaw7.NetFlows", spec := "netFlows", apart := false, narrowed := true }
def NetFlowsUptoSaid : Prop := netFlowsUptoRow.holds Try.pinned (OpenSpec.upto netFlowsSpec)

/-- 'usherlaw7.NetOfNothing', WHERE WHAT IT READS IS OF BULK AT MOST 1048576: true; the input reads as it did. -/
def netOfNothingUptoRow : OpenClaim := { program := "ytogcfeplfclobaa", sum := "efeb128d357bc828d802dd97b4c2e14f246f40b858007ef1ec7703136a5f2890", func := "usher/usherlaw7.NetOfNothing", spec := "netOfNothing", apart := false, narrowed := true }
def NetOfNothingUptoSaid : Prop := netOfNothingUptoRow.holds Try.pinned (OpenSpec.upto netOfNothingSpec)

/-- 'usherlaw7.NetLine', WHERE WHAT IT READS IS OF BULK AT MOST 1048576: true; the input reads as it did. -/
def netLineUptoRow : OpenClaim := { program := "ytogcfeplfclobaa", sum := "efeb128d357bc828d802dd97b4c2e14f246f40b858007ef1ec7703136a5f2890", func := "usher/usherlaw7.NetLine", spec := "netLine", apart := false, narrowed := true }
def NetLineUptoSaid : Prop := netLineUptoRow.holds Try.pinned (OpenSpec.upto netLineSpec)

/-- 'usherlaw7.NetFails', WHERE WHAT IT READS IS OF BULK AT MOST 1048576: true; the input reads as it did. -/
def netFailsUptoRow : OpenClaim := { program := "ytogcfeplfclobaa", sum := "efeb128d357bc828d802dd97b4c2e14f246f40b858007ef1ec7703136a5f2890", func := "usher/usherlaw7.NetFails", spec := "netFails", apart := false, narrowed := true }
def NetFailsUptoSaid : Prop := netFailsUptoRow.holds Try.pinned (OpenSpec.upto netFailsSpec)

/-- 'usherlaw7.NetEnds', WHERE WHAT IT READS IS OF BULK AT MOST 1048576: true; the input reads as it did. -/
def netEndsUptoRow : OpenClaim := { program := "ytogcfeplfclobaa", sum := "efeb128d357bc828d802dd97b4c2e14f246f40b858007ef1ec7703136a5f2890", func := "usher/usherlaw7.NetEnds", spec := "netEnds", apart := false, narrowed := true }
def NetEndsUptoSaid : Prop := netEndsUptoRow.holds Try.pinned (OpenSpec.upto netEndsSpec)

end Rows
end Go.Proofs.Ytogcfeplfclobaa
