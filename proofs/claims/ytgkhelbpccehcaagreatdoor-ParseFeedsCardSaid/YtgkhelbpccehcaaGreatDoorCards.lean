/-
  DERIVED. GIVEN WITH THE SEED: THE CARDS: each row of YtgkhelbpccehcaaGreatDoorRows.lean that lists a variable, with what it lists TIED to the program's text (the seventh form; the later family's looks); each row that meets fmt, with fmt's text TOLD by the authors' own Lean function (tested against real Go, not proved from fmt's source: count such statements apart). THE CARD IS WHAT COUNTS. Prove the row's statement (the work); the ties are given (YtgkhelbpccehcaaGreatDoorTie.lean); close each card by the builder's one call (the guide's Derived/Test/ToyasCard.lean, 'card_holds'). Laid BY PROGRAM, IN A SANDBOX (cutbox-door.mjs). By AI agents, Wed Nov 11 2026. No macro, syntax, notation, axiom, sorry.
-/
import Derived.Test.YtgkhelbpccehcaaGreatDoorRows
import GoSem.ClaimSeven
namespace Go.Proofs.YtgkhelbpccehcaaGreatDoor
namespace Rows

/-- THE TIED CARD OF 'usherlaw15.ParseFeeds'. -/
def parseFeedsCard : Claim7 := { stood := { row := parseFeedsRow, standIns := [], harness := (true, "5685d1c196cf83a9840c4bf50d7c281a3ad2581b8eb28a6d1f847e240a5373d2"), looks := false }, kinds := [], alts := [], laidByText := true, laidKinds := [.data, .pinned], laidTests := true, laidLooks := .later }
def ParseFeedsCardSaid : Prop := Claim7.holds Tryz.pinned (.plain (OpenSpec.ofChange parseFeedsSpec)) parseFeedsCard

/-- THE TIED CARD OF 'usherlaw15.ParseCuts'. -/
def parseCutsCard : Claim7 := { stood := { row := parseCutsRow, standIns := [], harness := (true, "5685d1c196cf83a9840c4bf50d7c281a3ad2581b8eb28a6d1f847e240a5373d2"), looks := false }, kinds := [], alts := [], laidByText := true, laidKinds := [.data, .pinned], laidTests := true, laidLooks := .later }
def ParseCutsCardSaid : Prop := Claim7.holds Tryz.pinned (.plain (OpenSpec.ofChange parseCutsSpec)) parseCutsCard

/-- THE TIED CARD OF 'usherlaw15.ParseLong'. -/
def parseLongCard : Claim7 := { stood := { row := parseLongRow, standIns := [], harness := (true, "5685d1c196cf83a9840c4bf50d7c281a3ad2581b8eb28a6d1f847e240a5373d2"), looks := false }, kinds := [], alts := [], laidByText := true, laidKinds := [.data, .pinned], laidTests := true, laidLooks := .later }
def ParseLongCardSaid : Prop := Claim7.holds Tryz.pinned (.plain (OpenSpec.ofChange parseLongSpec)) parseLongCard

/-- THE TIED CARD OF 'usherlaw15.ParseOfNothing'. -/
def parseOfNothingCard : Claim7 := { stood := { row := parseOfNothingRow, standIns := [], harness := (true, "5685d1c196cf83a9840c4bf50d7c281a3ad2581b8eb28a6d1f847e240a5373d2"), looks := false }, kinds := [], alts := [], laidByText := true, laidKinds := [.data, .pinned], laidTests := true, laidLooks := .later }
def ParseOfNothingCardSaid : Prop := Claim7.holds Tryz.pinned (.plain (OpenSpec.ofChange parseOfNothingSpec)) parseOfNothingCard

/-- THE TIED CARD OF 'usherlaw15.ParseBody'. -/
def parseBodyCard : Claim7 := { stood := { row := parseBodyRow, standIns := [], harness := (true, "5685d1c196cf83a9840c4bf50d7c281a3ad2581b8eb28a6d1f847e240a5373d2"), looks := false }, kinds := [], alts := [], laidByText := true, laidKinds := [.data, .pinned], laidTests := true, laidLooks := .later }
def ParseBodyCardSaid : Prop := Claim7.holds Tryz.pinned (.plain (OpenSpec.ofChange parseBodySpec)) parseBodyCard

/-- THE TIED CARD OF 'usherlaw15.ParseLengthIsOne'. -/
def parseLengthIsOneCard : Claim7 := { stood := { row := parseLengthIsOneRow, standIns := [], harness := (true, "5685d1c196cf83a9840c4bf50d7c281a3ad2581b8eb28a6d1f847e240a5373d2"), looks := false }, kinds := [], alts := [], laidByText := true, laidKinds := [.data, .pinned], laidTests := true, laidLooks := .later }
def ParseLengthIsOneCardSaid : Prop := Claim7.holds Tryz.pinned (.plain (OpenSpec.ofChange parseLengthIsOneSpec)) parseLengthIsOneCard

/-- THE SECOND FORM's CARD OF 'usherlaw15.ParseFeeds'. -/
def parseFeedsUptoCard : Claim7 := { stood := { row := parseFeedsUptoRow, standIns := [], harness := (true, "5685d1c196cf83a9840c4bf50d7c281a3ad2581b8eb28a6d1f847e240a5373d2"), looks := false }, kinds := [], alts := [], laidByText := true, laidKinds := [.data, .pinned], laidTests := true, laidLooks := .later }
def ParseFeedsUptoCardSaid : Prop := Claim7.holds Tryz.pinned (.plain (OpenSpec.upto parseFeedsSpec)) parseFeedsUptoCard

/-- THE SECOND FORM's CARD OF 'usherlaw15.ParseCuts'. -/
def parseCutsUptoCard : Claim7 := { stood := { row := parseCutsUptoRow, standIns := [], harness := (true, "5685d1c196cf83a9840c4bf50d7c281a3ad2581b8eb28a6d1f847e240a5373d2"), looks := false }, kinds := [], alts := [], laidByText := true, laidKinds := [.data, .pinned], laidTests := true, laidLooks := .later }
def ParseCutsUptoCardSaid : Prop := Claim7.holds Tryz.pinned (.plain (OpenSpec.upto parseCutsSpec)) parseCutsUptoCard

/-- THE SECOND FORM's CARD OF 'usherlaw15.ParseLong'. -/
def parseLongUptoCard : Claim7 := { stood := { row := parseLongUptoRow, standIns := [], harness := (true, "5685d1c196cf83a9840c4bf50d7c281a3ad2581b8eb28a6d1f847e240a5373d2"), looks := false }, kinds := [], alts := [], laidByText := true, laidKinds := [.data, .pinned], laidTests := true, laidLooks := .later }
def ParseLongUptoCardSaid : Prop := Claim7.holds Tryz.pinned (.plain (OpenSpec.upto parseLongSpec)) parseLongUptoCard

/-- THE SECOND FORM's CARD OF 'usherlaw15.ParseOfNothing'. -/
def parseOfNothingUptoCard : Claim7 := { stood := { row := parseOfNothingUptoRow, standIns := [], harness := (true, "5685d1c196cf83a9840c4bf50d7c281a3ad2581b8eb28a6d1f847e240a5373d2"), looks := false }, kinds := [], alts := [], laidByText := true, laidKinds := [.data, .pinned], laidTests := true, laidLooks := .later }
def ParseOfNothingUptoCardSaid : Prop := Claim7.holds Tryz.pinned (.plain (OpenSpec.upto parseOfNothingSpec)) parseOfNothingUptoCard

/-- THE SECOND FORM's CARD OF 'usherlaw15.ParseBody'. -/
def parseBodyUptoCard : Claim7 := { stood := { row := parseBodyUptoRow, standIns := [], harness := (true, "5685d1c196cf83a9840c4bf50d7c281a3ad2581b8eb28a6d1f847e240a5373d2"), looks := false }, kinds := [], alts := [], laidByText := true, laidKinds := [.data, .pinned], laidTests := true, laidLooks := .later }
def ParseBodyUptoCardSaid : Prop := Claim7.holds Tryz.pinned (.plain (OpenSpec.upto parseBodySpec)) parseBodyUptoCard

/-- THE SECOND FORM's CARD OF 'usherlaw15.ParseLengthIsOne'. -/
def parseLengthIsOneUptoCard : Claim7 := { stood := { row := parseLengthIsOneUptoRow, standIns := [], harness := (true, "5685d1c196cf83a9840c4bf50d7c281a3ad2581b8eb28a6d1f847e240a5373d2"), looks := false }, kinds := [], alts := [], laidByText := true, laidKinds := [.data, .pinned], laidTests := true, laidLooks := .later }
def ParseLengthIsOneUptoCardSaid : Prop := Claim7.holds Tryz.pinned (.plain (OpenSpec.upto parseLengthIsOneSpec)) parseLengthIsOneUptoCard
end Rows
end Go.Proofs.YtgkhelbpccehcaaGreatDoor
