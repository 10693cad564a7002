/-
  DERIVED. GIVEN WITH THE SEED: THE CARDS: each row of YtgfmjkbelciaaaaDoorRows.lean that lists a variable, with what it lists TIED to the program's text (the seventh form; the later family's looks); each row that meets fmt, with fmt's text TOLD by the authors' own Lean function (tested against real Go, not proved from fmt's source: count such statements apart). THE CARD IS WHAT COUNTS. Prove the row's statement (the work); the ties are given (YtgfmjkbelciaaaaDoorTie.lean); close each card by the builder's one call (the guide's Derived/Test/ToyasCard.lean, 'card_holds'). Laid BY PROGRAM, IN A SANDBOX (cutbox-door.mjs). By AI agents, Wed Nov 11 2026. No macro, syntax, notation, axiom, sorry.
-/
import Derived.Test.YtgfmjkbelciaaaaDoorRows
import GoSem.ClaimSeven
namespace Go.Proofs.YtgfmjkbelciaaaaDoor
namespace Rows

/-- THE TIED CARD OF 'usherlaw6.WheelPlays'. -/
def wheelPlaysCard : Claim7 := { stood := { row := wheelPlaysRow, standIns := [], harness := (true, "e72a82f1abd14823b1ee66fd5aedf93ff98f5297e9fee713efe12363c1e897c6"), looks := false }, kinds := [], alts := [], laidByText := true, laidKinds := [.data], laidTests := true, laidLooks := .later }
def WheelPlaysCardSaid : Prop := Claim7.holds Tryd.pinned (.plain (OpenSpec.ofChange wheelPlaysSpec)) wheelPlaysCard

/-- THE TIED CARD OF 'usherlaw6.WheelSteps'. -/
def wheelStepsCard : Claim7 := { stood := { row := wheelStepsRow, standIns := [], harness := (true, "e72a82f1abd14823b1ee66fd5aedf93ff98f5297e9fee713efe12363c1e897c6"), looks := false }, kinds := [], alts := [], laidByText := true, laidKinds := [.data], laidTests := true, laidLooks := .later }
def WheelStepsCardSaid : Prop := Claim7.holds Tryd.pinned (.plain (OpenSpec.ofChange wheelStepsSpec)) wheelStepsCard

/-- THE TIED CARD OF 'usherlaw6.WheelDue'. -/
def wheelDueCard : Claim7 := { stood := { row := wheelDueRow, standIns := [], harness := (true, "e72a82f1abd14823b1ee66fd5aedf93ff98f5297e9fee713efe12363c1e897c6"), looks := false }, kinds := [], alts := [], laidByText := true, laidKinds := [.data], laidTests := true, laidLooks := .later }
def WheelDueCardSaid : Prop := Claim7.holds Tryd.pinned (.plain (OpenSpec.ofChange wheelDueSpec)) wheelDueCard

/-- THE TIED CARD OF 'usherlaw6.WheelOfNothing'. -/
def wheelOfNothingCard : Claim7 := { stood := { row := wheelOfNothingRow, standIns := [], harness := (true, "e72a82f1abd14823b1ee66fd5aedf93ff98f5297e9fee713efe12363c1e897c6"), looks := false }, kinds := [], alts := [], laidByText := true, laidKinds := [.data], laidTests := true, laidLooks := .later }
def WheelOfNothingCardSaid : Prop := Claim7.holds Tryd.pinned (.plain (OpenSpec.ofChange wheelOfNothingSpec)) wheelOfNothingCard

/-- THE TIED CARD OF 'usherlaw6.WheelPlaces'. -/
def wheelPlacesCard : Claim7 := { stood := { row := wheelPlacesRow, standIns := [], harness := (true, "e72a82f1abd14823b1ee66fd5aedf93ff98f5297e9fee713efe12363c1e897c6"), looks := false }, kinds := [], alts := [], laidByText := true, laidKinds := [.data], laidTests := true, laidLooks := .later }
def WheelPlacesCardSaid : Prop := Claim7.holds Tryd.pinned (.plain (OpenSpec.ofChange wheelPlacesSpec)) wheelPlacesCard

/-- THE TIED CARD OF 'usherlaw6.WheelResets'. -/
def wheelResetsCard : Claim7 := { stood := { row := wheelResetsRow, standIns := [], harness := (true, "e72a82f1abd14823b1ee66fd5aedf93ff98f5297e9fee713efe12363c1e897c6"), looks := false }, kinds := [], alts := [], laidByText := true, laidKinds := [.data], laidTests := true, laidLooks := .later }
def WheelResetsCardSaid : Prop := Claim7.holds Tryd.pinned (.plain (OpenSpec.ofChange wheelResetsSpec)) wheelResetsCard

/-- THE TIED CARD OF 'usherlaw6.WheelNext'. -/
def wheelNextCard : Claim7 := { stood := { row := wheelNextRow, standIns := [], harness := (true, "e72a82f1abd14823b1ee66fd5aedf93ff98f5297e9fee713efe12363c1e897c6"), looks := false }, kinds := [], alts := [], laidByText := true, laidKinds := [.data], laidTests := true, laidLooks := .later }
def WheelNextCardSaid : Prop := Claim7.holds Tryd.pinned (.plain (OpenSpec.ofChange wheelNextSpec)) wheelNextCard

/-- THE SECOND FORM's CARD OF 'usherlaw6.WheelPlays'. -/
def wheelPlaysUptoCard : Claim7 := { stood := { row := wheelPlaysUptoRow, standIns := [], harness := (true, "e72a82f1abd14823b1ee66fd5aedf93ff98f5297e9fee713efe12363c1e897c6"), looks := false }, kinds := [], alts := [], laidByText := true, laidKinds := [.data], laidTests := true, laidLooks := .later }
def WheelPlaysUptoCardSaid : Prop := Claim7.holds Tryd.pinned (.plain (OpenSpec.upto wheelPlaysSpec)) wheelPlaysUptoCard

/-- THE SECOND FORM's CARD OF 'usherlaw6.WheelSteps'. -/
def wheelStepsUptoCard : Claim7 := { stood := { row := wheelStepsUptoRow, standIns := [], harness := (true, "e72a82f1abd14823b1ee66fd5aedf93ff98f5297e9fee713efe12363c1e897c6"), looks := false }, kinds := [], alts := [], laidByText := true, laidKinds := [.data], laidTests := true, laidLooks := .later }
def WheelStepsUptoCardSaid : Prop := Claim7.holds Tryd.pinned (.plain (OpenSpec.upto wheelStepsSpec)) wheelStepsUptoCard

/-- THE SECOND FORM's CARD OF 'usherlaw6.WheelDue'. -/
def wheelDueUptoCard : Claim7 := { stood := { row := wheelDueUptoRow, standIns := [], harness := (true, "e72a82f1abd14823b1ee66fd5aedf93ff98f5297e9fee713efe12363c1e897c6"), looks := false }, kinds := [], alts := [], laidByText := true, laidKinds := [.data], laidTests := true, laidLooks := .later }
def WheelDueUptoCardSaid : Prop := Claim7.holds Tryd.pinned (.plain (OpenSpec.upto wheelDueSpec)) wheelDueUptoCard

/-- THE SECOND FORM's CARD OF 'usherlaw6.WheelOfNothing'. -/
def wheelOfNothingUptoCard : Claim7 := { stood := { row := wheelOfNothingUptoRow, standIns := [], harness := (true, "e72a82f1abd14823b1ee66fd5aedf93ff98f5297e9fee713efe12363c1e897c6"), looks := false }, kinds := [], alts := [], laidByText := true, laidKinds := [.data], laidTests := true, laidLooks := .later }
def WheelOfNothingUptoCardSaid : Prop := Claim7.holds Tryd.pinned (.plain (OpenSpec.upto wheelOfNothingSpec)) wheelOfNothingUptoCard

/-- THE SECOND FORM's CARD OF 'usherlaw6.WheelPlaces'. -/
def wheelPlacesUptoCard : Claim7 := { stood := { row := wheelPlacesUptoRow, standIns := [], harness := (true, "e72a82f1abd14823b1ee66fd5aedf93ff98f5297e9fee713efe12363c1e897c6"), looks := false }, kinds := [], alts := [], laidByText := true, laidKinds := [.data], laidTests := true, laidLooks := .later }
def WheelPlacesUptoCardSaid : Prop := Claim7.holds Tryd.pinned (.plain (OpenSpec.upto wheelPlacesSpec)) wheelPlacesUptoCard

/-- THE SECOND FORM's CARD OF 'usherlaw6.WheelResets'. -/
def wheelResetsUptoCard : Claim7 := { stood := { row := wheelResetsUptoRow, standIns := [], harness := (true, "e72a82f1abd14823b1ee66fd5aedf93ff98f5297e9fee713efe12363c1e897c6"), looks := false }, kinds := [], alts := [], laidByText := true, laidKinds := [.data], laidTests := true, laidLooks := .later }
def WheelResetsUptoCardSaid : Prop := Claim7.holds Tryd.pinned (.plain (OpenSpec.upto wheelResetsSpec)) wheelResetsUptoCard

/-- THE SECOND FORM's CARD OF 'usherlaw6.WheelNext'. -/
def wheelNextUptoCard : Claim7 := { stood := { row := wheelNextUptoRow, standIns := [], harness := (true, "e72a82f1abd14823b1ee66fd5aedf93ff98f5297e9fee713efe12363c1e897c6"), looks := false }, kinds := [], alts := [], laidByText := true, laidKinds := [.data], laidTests := true, laidLooks := .later }
def WheelNextUptoCardSaid : Prop := Claim7.holds Tryd.pinned (.plain (OpenSpec.upto wheelNextSpec)) wheelNextUptoCard
end Rows
end Go.Proofs.YtgfmjkbelciaaaaDoor
