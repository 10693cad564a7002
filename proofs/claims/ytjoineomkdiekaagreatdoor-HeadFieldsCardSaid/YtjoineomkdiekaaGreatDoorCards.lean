/-
  DERIVED. GIVEN WITH THE SEED: THE CARDS: each row of YtjoineomkdiekaaGreatDoorRows.lean that lists a variable, with what it lists TIED to the program's text (the seventh form; the later family's looks); each row that meets fmt, with fmt's text TOLD by the authors' own Lean function (tested against real Go, not proved from fmt's source: count such statements apart). THE CARD IS WHAT COUNTS. Prove the row's statement (the work); the ties are given (YtjoineomkdiekaaGreatDoorTie.lean); close each card by the builder's one call (the guide's Derived/Test/ToyasCard.lean, 'card_holds'). Laid BY PROGRAM, IN A SANDBOX (cutbox-door.mjs). By AI agents, Wed Nov 11 2026. No macro, syntax, notation, axiom, sorry.
-/
import Derived.Test.YtjoineomkdiekaaGreatDoorRows
import GoSem.ClaimSeven
namespace Go.Proofs.YtjoineomkdiekaaGreatDoor
namespace Rows

/-- THE TIED CARD OF 'usherlaw13.HeadLines'. -/
def headLinesCard : Claim7 := { stood := { row := headLinesRow, standIns := [], harness := (true, "3fffe31c4c34f1f979596c7803f6c37f310214c5b6d16decc919c578329decbb"), looks := false }, kinds := [], alts := [], laidByText := true, laidKinds := [.data, .pinned], laidTests := true, laidLooks := .later }
def HeadLinesCardSaid : Prop := Claim7.holds Tryz.pinned (.plain (OpenSpec.ofChange headLinesSpec)) headLinesCard

/-- THE TIED CARD OF 'usherlaw13.HeadStarts'. -/
def headStartsCard : Claim7 := { stood := { row := headStartsRow, standIns := [], harness := (true, "3fffe31c4c34f1f979596c7803f6c37f310214c5b6d16decc919c578329decbb"), looks := false }, kinds := [], alts := [], laidByText := true, laidKinds := [.data, .pinned], laidTests := true, laidLooks := .later }
def HeadStartsCardSaid : Prop := Claim7.holds Tryz.pinned (.plain (OpenSpec.ofChange headStartsSpec)) headStartsCard

/-- THE TIED CARD OF 'usherlaw13.HeadMany'. -/
def headManyCard : Claim7 := { stood := { row := headManyRow, standIns := [], harness := (true, "3fffe31c4c34f1f979596c7803f6c37f310214c5b6d16decc919c578329decbb"), looks := false }, kinds := [], alts := [], laidByText := true, laidKinds := [.data, .pinned], laidTests := true, laidLooks := .later }
def HeadManyCardSaid : Prop := Claim7.holds Tryz.pinned (.plain (OpenSpec.ofChange headManySpec)) headManyCard

/-- THE TIED CARD OF 'usherlaw13.HeadOfNothing'. -/
def headOfNothingCard : Claim7 := { stood := { row := headOfNothingRow, standIns := [], harness := (true, "3fffe31c4c34f1f979596c7803f6c37f310214c5b6d16decc919c578329decbb"), looks := false }, kinds := [], alts := [], laidByText := true, laidKinds := [.data, .pinned], laidTests := true, laidLooks := .later }
def HeadOfNothingCardSaid : Prop := Claim7.holds Tryz.pinned (.plain (OpenSpec.ofChange headOfNothingSpec)) headOfNothingCard

/-- THE TIED CARD OF 'usherlaw13.HeadFields'. -/
def headFieldsCard : Claim7 := { stood := { row := headFieldsRow, standIns := [], harness := (true, "3fffe31c4c34f1f979596c7803f6c37f310214c5b6d16decc919c578329decbb"), looks := false }, kinds := [], alts := [], laidByText := true, laidKinds := [.data, .pinned], laidTests := true, laidLooks := .later }
def HeadFieldsCardSaid : Prop := Claim7.holds Tryz.pinned (.plain (OpenSpec.ofChange headFieldsSpec)) headFieldsCard

/-- THE SECOND FORM's CARD OF 'usherlaw13.HeadLines'. -/
def headLinesUptoCard : Claim7 := { stood := { row := headLinesUptoRow, standIns := [], harness := (true, "3fffe31c4c34f1f979596c7803f6c37f310214c5b6d16decc919c578329decbb"), looks := false }, kinds := [], alts := [], laidByText := true, laidKinds := [.data, .pinned], laidTests := true, laidLooks := .later }
def HeadLinesUptoCardSaid : Prop := Claim7.holds Tryz.pinned (.plain (OpenSpec.upto headLinesSpec)) headLinesUptoCard

/-- THE SECOND FORM's CARD OF 'usherlaw13.HeadStarts'. -/
def headStartsUptoCard : Claim7 := { stood := { row := headStartsUptoRow, standIns := [], harness := (true, "3fffe31c4c34f1f979596c7803f6c37f310214c5b6d16decc919c578329decbb"), looks := false }, kinds := [], alts := [], laidByText := true, laidKinds := [.data, .pinned], laidTests := true, laidLooks := .later }
def HeadStartsUptoCardSaid : Prop := Claim7.holds Tryz.pinned (.plain (OpenSpec.upto headStartsSpec)) headStartsUptoCard

/-- THE SECOND FORM's CARD OF 'usherlaw13.HeadMany'. -/
def headManyUptoCard : Claim7 := { stood := { row := headManyUptoRow, standIns := [], harness := (true, "3fffe31c4c34f1f979596c7803f6c37f310214c5b6d16decc919c578329decbb"), looks := false }, kinds := [], alts := [], laidByText := true, laidKinds := [.data, .pinned], laidTests := true, laidLooks := .later }
def HeadManyUptoCardSaid : Prop := Claim7.holds Tryz.pinned (.plain (OpenSpec.upto headManySpec)) headManyUptoCard

/-- THE SECOND FORM's CARD OF 'usherlaw13.HeadOfNothing'. -/
def headOfNothingUptoCard : Claim7 := { stood := { row := headOfNothingUptoRow, standIns := [], harness := (true, "3fffe31c4c34f1f979596c7803f6c37f310214c5b6d16decc919c578329decbb"), looks := false }, kinds := [], alts := [], laidByText := true, laidKinds := [.data, .pinned], laidTests := true, laidLooks := .later }
def HeadOfNothingUptoCardSaid : Prop := Claim7.holds Tryz.pinned (.plain (OpenSpec.upto headOfNothingSpec)) headOfNothingUptoCard

/-- THE SECOND FORM's CARD OF 'usherlaw13.HeadFields'. -/
def headFieldsUptoCard : Claim7 := { stood := { row := headFieldsUptoRow, standIns := [], harness := (true, "3fffe31c4c34f1f979596c7803f6c37f310214c5b6d16decc919c578329decbb"), looks := false }, kinds := [], alts := [], laidByText := true, laidKinds := [.data, .pinned], laidTests := true, laidLooks := .later }
def HeadFieldsUptoCardSaid : Prop := Claim7.holds Tryz.pinned (.plain (OpenSpec.upto headFieldsSpec)) headFieldsUptoCard
end Rows
end Go.Proofs.YtjoineomkdiekaaGreatDoor
