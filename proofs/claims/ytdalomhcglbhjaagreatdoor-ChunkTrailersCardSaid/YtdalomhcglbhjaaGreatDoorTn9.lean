/- The code's Tokens of no value, and of any slice of texts; Has over it. Conditions: values of at most a million bytes in all. -/
import Derived.Test.YtdalomhcglbhjaaGreatDoorTl9
namespace Go.Proofs.YtdalomhcglbhjaaGreatDoor
open Go.RowKit Go.Shelf
attribute [local go_sem] Oper.semAt_some
set_option linter.unusedVariables false

end Go.Proofs.YtdalomhcglbhjaaGreatDoor
