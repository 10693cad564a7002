/-
  No cell of these rows narrows 'for every input' (looked for: loops, veiled, ifaces, maps, wideKeys, modest, calm, conditions, laid).
  DERIVED. THE GIVEN ROWS OF THIS SEAT. 8 by the template 'for every input the law returns true; each argument reads behind the call as it read before'; 0 by the template 'total and deterministic' (their statements: YtgckpoecdaioiaaTotals.lean).
  GIVEN WITH THE SEED: the statements are not yours to turn. If you find one false, say at which input.
  Laid BY PROGRAM, IN A SANDBOX (cutbox-rows.mjs): the forced cells as the released guide's own fill.sh prints them over the translation 0422104ca0f779cc… (all of the seat's roots in one cut). By AI agents, Wed Nov 11 2026. No macro, syntax, notation, axiom, sorry.
-/
import Derived.Test.YtgckpoecdaioiaaChecked
import GoSem.Claim
import GoSem.ClaimJoined
import GoSem.ClaimMapViews
import Derived.JoinedTies
import Derived.KernelRfl
namespace Go.Proofs.Ytgckpoecdaioiaa
/- THE CELL 'sum', in the pinned program and in every row, IS THE sha256 OF THE DUMP (.gsa) THAT YtgckpoecdaioiaaProg.lean LOADS. Nothing in Lean hashes anything: it is a label: what it is worth is what the hold of that sum in a sandbox is worth. -/
noncomputable def Try.pinned : Pinned := { name := "ytgckpoecdaioiaa", sum := "0422104ca0f779cce7bc66d1395ae09ee772b551259b066f32b6537b62cf579f", checked := Try.checked }
namespace Rows
def none {H : Type} : Left H := { results := [], args := [] }

/-- 'usherlaw11.TargetParses': WHATEVER THE INPUT: true; the input reads as it did. -/
def targetParsesSpec : ChangeSpec := { name := "targetParses", fn := fun _ => fun
  | [d1, d2] => { results := [.lit (.bool true)], args := [d1, d2] }
  | _ => none }
def targetParsesRow : OpenClaim := { program := "ytgckpoecdaioiaa", sum := "0422104ca0f779cce7bc66d1395ae09ee772b551259b066f32b6537b62cf579f", func := "usher/usherlaw11.TargetParses", spec := "targetParses", inPlace := ["internal/bytealg.IndexByteString", "internal/abi.NoEscape"], apart := false }
def TargetParsesSaid : Prop := targetParsesRow.holds Try.pinned (OpenSpec.ofChange targetParsesSpec)

/-- ITS FALSE NEIGHBOUR: 'it returns false'. Refute it at one input. -/
def targetParsesWrong : ChangeSpec := { name := "targetParses", fn := fun _ => fun
  | [d1, d2] => { results := [.lit (.bool false)], args := [d1, d2] }
  | _ => none }
def TargetParsesWrongFalsely : Prop := targetParsesRow.holds Try.pinned (OpenSpec.ofChange targetParsesWrong)

/-- 'usherlaw11.TargetPrints': WHATEVER THE INPUT: true; the input reads as it did. -/
def targetPrintsSpec : ChangeSpec := { name := "targetPrints", fn := fun _ => fun
  | [d] => { results := [.lit (.bool true)], args := [d] }
  | _ => none }
def targetPrintsRow : OpenClaim := { program := "ytgckpoecdaioiaa", sum := "0422104ca0f779cce7bc66d1395ae09ee772b551259b066f32b6537b62cf579f", func := "usher/usherlaw11.TargetPrints", spec := "targetPrints", inPlace := ["internal/bytealg.IndexByteString", "internal/abi.NoEscape"], apart := false }
def TargetPrintsSaid : Prop := targetPrintsRow.holds Try.pinned (OpenSpec.ofChange targetPrintsSpec)

/-- ITS FALSE NEIGHBOUR: 'it returns false'. Refute it at one input. -/
def targetPrintsWrong : ChangeSpec := { name := "targetPrints", fn := fun _ => fun
  | [d] => { results := [.lit (.bool false)], args := [d] }
  | _ => none }
def TargetPrintsWrongFalsely : Prop := targetPrintsRow.holds Try.pinned (OpenSpec.ofChange targetPrintsWrong)

/-- 'usherlaw11.TargetDecodes': WHATEVER THE INPUT: true; the input reads as it did. -/
def targetDecodesSpec : ChangeSpec := { name := "targetDecodes", fn := fun _ => fun
  | [d] => { results := [.lit (.bool true)], args := [d] }
  | _ => none }
def targetDecodesRow : OpenClaim := { program := "ytgckpoecdaioiaa", sum := "0422104ca0f779cce7bc66d1395ae09ee772b551259b066f32b6537b62cf579f", func := "usher/usherlaw11.TargetDecodes", spec := "targetDecodes", inPlace := ["internal/bytealg.IndexByteString", "internal/abi.NoEscape"], apart := false }
def TargetDecodesSaid : Prop := targetDecodesRow.holds Try.pinned (OpenSpec.ofChange targetDecodesSpec)

/-- ITS FALSE NEIGHBOUR: 'it returns false'. Refute it at one input. -/
def targetDecodesWrong : ChangeSpec := { name := "targetDecodes", fn := fun _ => fun
  | [d] => { results := [.lit (.bool false)], args := [d] }
  | _ => none }
def TargetDecodesWrongFalsely : Prop := targetDecodesRow.holds Try.pinned (OpenSpec.ofChange targetDecodesWrong)

/-- 'usherlaw11.TargetCleans': WHATEVER THE INPUT: true; the input reads as it did. -/
def targetCleansSpec : ChangeSpec := { name := "targetCleans", fn := fun _ => fun
  | [d] => { results := [.lit (.bool true)], args := [d] }
  | _ => none }
def targetCleansRow : OpenClaim := { program := "ytgckpoecdaioiaa", sum := "0422104ca0f779cce7bc66d1395ae09ee772b551259b066f32b6537b62cf579f", func := "usher/usherlaw11.TargetCleans", spec := "targetCleans", inPlace := ["internal/bytealg.IndexByteString", "internal/abi.NoEscape"], apart := false }
def TargetCleansSaid : Prop := targetCleansRow.holds Try.pinned (OpenSpec.ofChange targetCleansSpec)

/-- ITS FALSE NEIGHBOUR: 'it returns false'. Refute it at one input. -/
def targetCleansWrong : ChangeSpec := { name := "targetCleans", fn := fun _ => fun
  | [d] => { results := [.lit (.bool false)], args := [d] }
  | _ => none }
def TargetCleansWrongFalsely : Prop := targetCleansRow.holds Try.pinned (OpenSpec.ofChange targetCleansWrong)

/-- 'usherlaw11.TargetHosts': WHATEVER THE INPUT: true; the input reads as it did. -/
def targetHostsSpec : ChangeSpec := { name := "targetHosts", fn := fun _ => fun
  | [d] => { results := [.lit (.bool true)], args := [d] }
  | _ => none }
def targetHostsRow : OpenClaim := { program := "ytgckpoecdaioiaa", sum := "0422104ca0f779cce7bc66d1395ae09ee772b551259b066f32b6537b62cf579f", func := "usher/usherlaw11.TargetHosts", spec := "targetHosts", inPlace := ["internal/bytealg.IndexByteString", "internal/abi.NoEscape"], apart := false }
def TargetHostsSaid : Prop := targetHostsRow.holds Try.pinned (OpenSpec.ofChange targetHostsSpec)

/-- ITS FALSE NEIGHBOUR: 'it returns false'. Refute it at one input. -/
def targetHostsWrong : ChangeSpec := { name := "targetHosts", fn := fun _ => fun
  | [d] => { results := [.lit (.bool false)], args := [d] }
  | _ => none }
def TargetHostsWrongFalsely : Prop := targetHostsRow.holds Try.pinned (OpenSpec.ofChange targetHostsWrong)

/-- 'usherlaw11.TargetUp': WHATEVER THE INPUT: true; the input reads as it did. -/
def targetUpSpec : ChangeSpec := { name := "targetUp", fn := fun _ => fun
  | [d1, d2] => { results := [.lit (.bool true)], args := [d1, d2] }
  | _ => none }
def targetUpRow : OpenClaim := { program := "ytgckpoecdaioiaa", sum := "0422104ca0f779cce7bc66d1395ae09ee772b551259b066f32b6537b62cf579f", func := "usher/usherlaw11.TargetUp", spec := "targetUp", inPlace := ["internal/bytealg.IndexByteString", "internal/abi.NoEscape"], apart := false }
def TargetUpSaid : Prop := targetUpRow.holds Try.pinned (OpenSpec.ofChange targetUpSpec)

/-- ITS FALSE NEIGHBOUR: 'it returns false'. Refute it at one input. -/
def targetUpWrong : ChangeSpec := { name := "targetUp", fn := fun _ => fun
  | [d1, d2] => { results := [.lit (.bool false)], args := [d1, d2] }
  | _ => none }
def TargetUpWrongFalsely : Prop := targetUpRow.holds Try.pinned (OpenSpec.ofChange targetUpWrong)

/-- 'usherlaw11.TargetWhole': WHATEVER THE INPUT: true; the input reads as it did. -/
def targetWholeSpec : ChangeSpec := { name := "targetWhole", fn := fun _ => fun
  | [d1, d2] => { results := [.lit (.bool true)], args := [d1, d2] }
  | _ => none }
def targetWholeRow : OpenClaim := { program := "ytgckpoecdaioiaa", sum := "0422104ca0f779cce7bc66d1395ae09ee772b551259b066f32b6537b62cf579f", func := "usher/usherlaw11.TargetWhole", spec := "targetWhole", inPlace := ["internal/bytealg.IndexByteString", "internal/abi.NoEscape"], apart := false }
def TargetWholeSaid : Prop := targetWholeRow.holds Try.pinned (OpenSpec.ofChange targetWholeSpec)

/-- ITS FALSE NEIGHBOUR: 'it returns false'. Refute it at one input. -/
def targetWholeWrong : ChangeSpec := { name := "targetWhole", fn := fun _ => fun
  | [d1, d2] => { results := [.lit (.bool false)], args := [d1, d2] }
  | _ => none }
def TargetWholeWrongFalsely : Prop := targetWholeRow.holds Try.pinned (OpenSpec.ofChange targetWholeWrong)

/-- 'usherlaw11.TargetPercents': WHATEVER THE INPUT: true; the input reads as it did. -/
def targetPercentsSpec : ChangeSpec := { name := "targetPercents", fn := fun _ => fun
  | [d] => { results := [.lit (.bool true)], args := [d] }
  | _ => none }
def targetPercentsRow : OpenClaim := { program := "ytgckpoecdaioiaa", sum := "0422104ca0f779cce7bc66d1395ae09ee772b551259b066f32b6537b62cf579f", func := "usher/usherlaw11.TargetPercents", spec := "targetPercents", inPlace := ["internal/bytealg.IndexByteString", "internal/abi.NoEscape"], apart := false }
def TargetPercentsSaid : Prop := targetPercentsRow.holds Try.pinned (OpenSpec.ofChange targetPercentsSpec)

/-- ITS FALSE NEIGHBOUR: 'it returns false'. Refute it at one input. -/
def targetPercentsWrong : ChangeSpec := { name := "targetPercents", fn := fun _ => fun
  | [d] => { results := [.lit (.bool false)], args := [d] }
  | _ => none }
def TargetPercentsWrongFalsely : Prop := targetPercentsRow.holds Try.pinned (OpenSpec.ofChange targetPercentsWrong)

/- THE SECOND FORM. 'bulk': how many values and letters a reading holds, each counted each time it is reached (what is shared counts as often as it is met; a slice's spare places count too). A statement '..UptoSaid' is the law's where the arguments, and the package variables that the reading takes, are together of bulk at most 1048576: NARROWER than '..Said'. Prove '..Said' where nothing that the law and all that it calls make is longer than what came in: it says more and counts as full. Else prove '..UptoSaid'. A law counts once. -/
mutual
def uptoBulk {H : Type} : DataW H → Nat
  | .lit (.string bytes) => bytes.length + 1
  | .lit _ => 1
  | .nil => 1
  | .ptr d => uptoBulk d + 1
  | .slice elems spare => uptoBulkAll elems + uptoBulkAll spare + 1
  | .agg parts => uptoBulkAll parts + 1
  | .iface _ d => uptoBulk d + 1
  | .map entries => uptoBulkEntries entries + 1
  | .held _ => 1
def uptoBulkAll {H : Type} : List (DataW H) → Nat
  | [] => 0
  | d :: r => uptoBulk d + uptoBulkAll r
def uptoBulkEntries {H : Type} : List (Lit × DataW H) → Nat
  | [] => 0
  | x :: r => uptoBulkEntry x + uptoBulkEntries r
def uptoBulkEntry {H : Type} : Lit × DataW H → Nat
  | (.string bytes, d) => bytes.length + uptoBulk d + 1
  | (_, d) => uptoBulk d + 1
 end
def uptoSmall : (H : Type) → List (DataW H) → Bool := fun _ ds => decide (uptoBulkAll ds ≤ 1048576)
def OpenSpec.upto (s : _root_.Go.ChangeSpec) : _root_.Go.OpenSpec := { _root_.Go.OpenSpec.ofChange s with cond := some uptoSmall }

/-- 'usherlaw11.TargetParses', WHERE WHAT IT READS IS OF BULK AT MOST 1048576: true; the input reads as it did. -/
def targetParsesUptoRow : OpenClaim := { program := "ytgckpoecdaioiaa", sum := "0422104ca0f779cce7bc66d1395ae09ee772b551259b066f32b6537b62cf579f", func := "usher/usherlaw11.TargetParses", spec := "targetParses", inPlace := ["internal/bytealg.IndexByteString", "internal/abi.NoEscape"], apart := false, narrowed := true }
def TargetParsesUptoSaid : Prop := targetParsesUptoRow.holds Try.pinned (OpenSpec.upto targetParsesSpec)

/-- 'usherlaw11.TargetPrints', WHERE WHAT IT READS IS OF BULK AT MOST 1048576: true; the input reads as it did. -/
def targetPrintsUptoRow : OpenClaim := { program := "ytgckpoecdaioiaa", sum := "0422104ca0f779cce7bc66d1395ae09ee772b551259b066f32b6537b62cf579f", func := "usher/usherlaw11.TargetPrints", spec := "targetPrints", inPlace := ["internal/bytealg.IndexByteString", "internal/abi.NoEscape"], apart := false, narrowed := true }
def TargetPrintsUptoSaid : Prop := targetPrintsUptoRow.holds Try.pinned (OpenSpec.upto targetPrintsSpec)

/-- 'usherlaw11.TargetDecodes', WHERE WHAT IT READS IS OF BULK AT MOST 1048576: true; the input reads as it did. -/
def targetDecodesUptoRow : OpenClaim := { program := "ytgckpoecdaioiaa", sum := "0422104ca0f779cce7bc66d1395ae09ee772b551259b066f32b6537b62cf579f", func := "usher/usherlaw11.TargetDecodes", spec := "targetDecodes", inPlace := ["internal/bytealg.IndexByteString", "internal/abi.NoEscape"], apart := false, narrowed := true }
def TargetDecodesUptoSaid : Prop := targetDecodesUptoRow.holds Try.pinned (OpenSpec.upto targetDecodesSpec)

/-- 'usherlaw11.TargetCleans', WHERE WHAT IT READS IS OF BULK AT MOST 1048576: true; the input reads as it did. -/
def targetCleansUptoRow : OpenClaim := { program := "ytgckpoecdaioiaa", sum := "0422104ca0f779cce7bc66d1395ae09ee772b551259b066f32b6537b62cf579f", func := "usher/usherlaw11.TargetCleans", spec := "targetCleans", inPlace := ["internal/bytealg.IndexByteString", "internal/abi.NoEscape"], apart := false, narrowed := true }
def TargetCleansUptoSaid : Prop := targetCleansUptoRow.holds Try.pinned (OpenSpec.upto targetCleansSpec)

/-- 'usherlaw11.TargetHosts', WHERE WHAT IT READS IS OF BULK AT MOST 1048576: true; the input reads as it did. -/
def targetHostsUptoRow : OpenClaim := { program := "ytgckpoecdaioiaa", sum := "0422104ca0f779cce7bc66d1395ae09ee772b551259b066f32b6537b62cf579f", func := "usher/usherlaw11.TargetHosts", spec := "targetHosts", inPlace := ["internal/bytealg.IndexByteString", "internal/abi.NoEscape"], apart := false, narrowed := true }
def TargetHostsUptoSaid : Prop := targetHostsUptoRow.holds Try.pinned (OpenSpec.upto targetHostsSpec)

/-- 'usherlaw11.TargetUp', WHERE WHAT IT READS IS OF BULK AT MOST 1048576: true; the input reads as it did. -/
def targetUpUptoRow : OpenClaim := { program := "ytgckpoecdaioiaa", sum := "0422104ca0f779cce7bc66d1395ae09ee772b551259b066f32b6537b62cf579f", func := "usher/usherlaw11.TargetUp", spec := "targetUp", inPlace := ["internal/bytealg.IndexByteString", "internal/abi.NoEscape"], apart := false, narrowed := true }
def TargetUpUptoSaid : Prop := targetUpUptoRow.holds Try.pinned (OpenSpec.upto targetUpSpec)

/-- 'usherlaw11.TargetWhole', WHERE WHAT IT READS IS OF BULK AT MOST 1048576: true; the input reads as it did. -/
def targetWholeUptoRow : OpenClaim := { program := "ytgckpoecdaioiaa", sum := "0422104ca0f779cce7bc66d1395ae09ee772b551259b066f32b6537b62cf579f", func := "usher/usherlaw11.TargetWhole", spec := "targetWhole", inPlace := ["internal/bytealg.IndexByteString", "internal/abi.NoEscape"], apart := false, narrowed := true }
def TargetWholeUptoSaid : Prop := targetWholeUptoRow.holds Try.pinned (OpenSpec.upto targetWholeSpec)

/-- 'usherlaw11.TargetPercents', WHERE WHAT IT READS IS OF BULK AT MOST 1048576: true; the input reads as it did. -/
def targetPercentsUptoRow : OpenClaim := { program := "ytgckpoecdaioiaa", sum := "0422104ca0f779cce7bc66d1395ae09ee772b551259b066f32b6537b62cf579f", func := "usher/usherlaw11.TargetPercents", spec := "targetPercents", inPlace := ["internal/bytealg.IndexByteString", "internal/abi.NoEscape"], apart := false, narrowed := true }
def TargetPercentsUptoSaid : Prop := targetPercentsUptoRow.holds Try.pinned (OpenSpec.upto targetPercentsSpec)

end Rows
end Go.Proofs.Ytgckpoecdaioiaa
