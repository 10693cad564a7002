/-
  DERIVED. GIVEN WITH THE SEED: THE CARDS: each row of YtcliapfoimnkiaaGreatDoorRows.lean that lists a variable, with what it lists TIED to the program's text (the seventh form; the later family's looks); each row that meets fmt, with fmt's text TOLD by the authors' own Lean function (tested against real Go, not proved from fmt's source: count such statements apart). THE CARD IS WHAT COUNTS. Prove the row's statement (the work); the ties are given (YtcliapfoimnkiaaGreatDoorTie.lean); close each card by the builder's one call (the guide's Derived/Test/ToyasCard.lean, 'card_holds'). Laid BY PROGRAM, IN A SANDBOX (cutbox-door.mjs). By AI agents, Wed Nov 11 2026. No macro, syntax, notation, axiom, sorry.
-/
import Derived.Test.YtcliapfoimnkiaaGreatDoorRows
import GoSem.ClaimSeven
namespace Go.Proofs.YtcliapfoimnkiaaGreatDoor
namespace Rows

/-- THE TIED CARD OF 'usherlaw12.FramingOf'. -/
def framingOfCard : Claim7 := { stood := { row := framingOfRow, standIns := [], harness := (true, "36059c971204691c8e3a2467d85f37c96c640bd97ff8764575a416805b71527c"), looks := false }, kinds := [], alts := [], laidByText := true, laidKinds := [.data, .pinned], laidTests := true, laidLooks := .later }
def FramingOfCardSaid : Prop := Claim7.holds Tryz.pinned (.plain (OpenSpec.ofChange framingOfSpec)) framingOfCard

/-- THE TIED CARD OF 'usherlaw12.FramingLengths'. -/
def framingLengthsCard : Claim7 := { stood := { row := framingLengthsRow, standIns := [], harness := (true, "36059c971204691c8e3a2467d85f37c96c640bd97ff8764575a416805b71527c"), looks := false }, kinds := [], alts := [], laidByText := true, laidKinds := [.data, .pinned], laidTests := true, laidLooks := .later }
def FramingLengthsCardSaid : Prop := Claim7.holds Tryz.pinned (.plain (OpenSpec.ofChange framingLengthsSpec)) framingLengthsCard

/-- THE SECOND FORM's CARD OF 'usherlaw12.FramingOf'. -/
def framingOfUptoCard : Claim7 := { stood := { row := framingOfUptoRow, standIns := [], harness := (true, "36059c971204691c8e3a2467d85f37c96c640bd97ff8764575a416805b71527c"), looks := false }, kinds := [], alts := [], laidByText := true, laidKinds := [.data, .pinned], laidTests := true, laidLooks := .later }
def FramingOfUptoCardSaid : Prop := Claim7.holds Tryz.pinned (.plain (OpenSpec.upto framingOfSpec)) framingOfUptoCard

/-- THE SECOND FORM's CARD OF 'usherlaw12.FramingLengths'. -/
def framingLengthsUptoCard : Claim7 := { stood := { row := framingLengthsUptoRow, standIns := [], harness := (true, "36059c971204691c8e3a2467d85f37c96c640bd97ff8764575a416805b71527c"), looks := false }, kinds := [], alts := [], laidByText := true, laidKinds := [.data, .pinned], laidTests := true, laidLooks := .later }
def FramingLengthsUptoCardSaid : Prop := Claim7.holds Tryz.pinned (.plain (OpenSpec.upto framingLengthsSpec)) framingLengthsUptoCard
end Rows
end Go.Proofs.YtcliapfoimnkiaaGreatDoor
