/-
  DERIVED. GIVEN WITH THE SEED: THE CARDS: each row of YtdkcdljhpopakaaDoorRows.lean that lists a variable, with what it lists TIED to the program's text (the seventh form; the later family's looks); each row that meets fmt, with fmt's text TOLD by the authors' own Lean function (tested against real Go, not proved from fmt's source: count such statements apart). THE CARD IS WHAT COUNTS. Prove the row's statement (the work); the ties are given (YtdkcdljhpopakaaDoorTie.lean); close each card by the builder's one call (the guide's Derived/Test/ToyasCard.lean, 'card_holds'). Laid BY PROGRAM, IN A SANDBOX (cutbox-door.mjs). By AI agents, Wed Nov 11 2026. No macro, syntax, notation, axiom, sorry.
-/
import Derived.Test.YtdkcdljhpopakaaDoorRows
import GoSem.ClaimSeven
namespace Go.Proofs.YtdkcdljhpopakaaDoor
namespace Rows

/-- THE TIED CARD OF 'usherlaw2.SlabPlays'. -/
def slabPlaysCard : Claim7 := { stood := { row := slabPlaysRow, standIns := [], harness := (true, "1a8836b709303c6f714fb724d124277838d11557165f708c3750575e63188d49"), looks := false }, kinds := [], alts := [], laidByText := true, laidKinds := [.data], laidTests := true, laidLooks := .later }
def SlabPlaysCardSaid : Prop := Claim7.holds Tryd.pinned (.plain (OpenSpec.ofChange slabPlaysSpec)) slabPlaysCard

/-- THE TIED CARD OF 'usherlaw2.SlabOld'. -/
def slabOldCard : Claim7 := { stood := { row := slabOldRow, standIns := [], harness := (true, "1a8836b709303c6f714fb724d124277838d11557165f708c3750575e63188d49"), looks := false }, kinds := [], alts := [], laidByText := true, laidKinds := [.data], laidTests := true, laidLooks := .later }
def SlabOldCardSaid : Prop := Claim7.holds Tryd.pinned (.plain (OpenSpec.ofChange slabOldSpec)) slabOldCard

/-- THE TIED CARD OF 'usherlaw2.SlabOfNothing'. -/
def slabOfNothingCard : Claim7 := { stood := { row := slabOfNothingRow, standIns := [], harness := (true, "1a8836b709303c6f714fb724d124277838d11557165f708c3750575e63188d49"), looks := false }, kinds := [], alts := [], laidByText := true, laidKinds := [.data], laidTests := true, laidLooks := .later }
def SlabOfNothingCardSaid : Prop := Claim7.holds Tryd.pinned (.plain (OpenSpec.ofChange slabOfNothingSpec)) slabOfNothingCard

/-- THE TIED CARD OF 'usherlaw2.SlabFull'. -/
def slabFullCard : Claim7 := { stood := { row := slabFullRow, standIns := [], harness := (true, "1a8836b709303c6f714fb724d124277838d11557165f708c3750575e63188d49"), looks := false }, kinds := [], alts := [], laidByText := true, laidKinds := [.data], laidTests := true, laidLooks := .later }
def SlabFullCardSaid : Prop := Claim7.holds Tryd.pinned (.plain (OpenSpec.ofChange slabFullSpec)) slabFullCard

/-- THE SECOND FORM's CARD OF 'usherlaw2.SlabPlays'. -/
def slabPlaysUptoCard : Claim7 := { stood := { row := slabPlaysUptoRow, standIns := [], harness := (true, "1a8836b709303c6f714fb724d124277838d11557165f708c3750575e63188d49"), looks := false }, kinds := [], alts := [], laidByText := true, laidKinds := [.data], laidTests := true, laidLooks := .later }
def SlabPlaysUptoCardSaid : Prop := Claim7.holds Tryd.pinned (.plain (OpenSpec.upto slabPlaysSpec)) slabPlaysUptoCard

/-- THE SECOND FORM's CARD OF 'usherlaw2.SlabOld'. -/
def slabOldUptoCard : Claim7 := { stood := { row := slabOldUptoRow, standIns := [], harness := (true, "1a8836b709303c6f714fb724d124277838d11557165f708c3750575e63188d49"), looks := false }, kinds := [], alts := [], laidByText := true, laidKinds := [.data], laidTests := true, laidLooks := .later }
def SlabOldUptoCardSaid : Prop := Claim7.holds Tryd.pinned (.plain (OpenSpec.upto slabOldSpec)) slabOldUptoCard

/-- THE SECOND FORM's CARD OF 'usherlaw2.SlabOfNothing'. -/
def slabOfNothingUptoCard : Claim7 := { stood := { row := slabOfNothingUptoRow, standIns := [], harness := (true, "1a8836b709303c6f714fb724d124277838d11557165f708c3750575e63188d49"), looks := false }, kinds := [], alts := [], laidByText := true, laidKinds := [.data], laidTests := true, laidLooks := .later }
def SlabOfNothingUptoCardSaid : Prop := Claim7.holds Tryd.pinned (.plain (OpenSpec.upto slabOfNothingSpec)) slabOfNothingUptoCard

/-- THE SECOND FORM's CARD OF 'usherlaw2.SlabFull'. -/
def slabFullUptoCard : Claim7 := { stood := { row := slabFullUptoRow, standIns := [], harness := (true, "1a8836b709303c6f714fb724d124277838d11557165f708c3750575e63188d49"), looks := false }, kinds := [], alts := [], laidByText := true, laidKinds := [.data], laidTests := true, laidLooks := .later }
def SlabFullUptoCardSaid : Prop := Claim7.holds Tryd.pinned (.plain (OpenSpec.upto slabFullSpec)) slabFullUptoCard
end Rows
end Go.Proofs.YtdkcdljhpopakaaDoor
