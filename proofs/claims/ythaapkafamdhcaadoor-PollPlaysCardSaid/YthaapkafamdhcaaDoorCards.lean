/-
  DERIVED. GIVEN WITH THE SEED: THE CARDS: each row of YthaapkafamdhcaaDoorRows.lean that lists a variable, with what it lists TIED to the program's text (the seventh form; the later family's looks); each row that meets fmt, with fmt's text TOLD by the authors' own Lean function (tested against real Go, not proved from fmt's source: count such statements apart). THE CARD IS WHAT COUNTS. Prove the row's statement (the work); the ties are given (YthaapkafamdhcaaDoorTie.lean); close each card by the builder's one call (the guide's Derived/Test/ToyasCard.lean, 'card_holds'). Laid BY PROGRAM, IN A SANDBOX (cutbox-door.mjs). By AI agents, Wed Nov 11 2026. No macro, syntax, notation, axiom, sorry.
-/
import Derived.Test.YthaapkafamdhcaaDoorRows
import GoSem.ClaimSeven
namespace Go.Proofs.YthaapkafamdhcaaDoor
namespace Rows

/-- THE TIED CARD OF 'usherlaw8.PollPlays'. -/
def pollPlaysCard : Claim7 := { stood := { row := pollPlaysRow, standIns := [], harness := (true, "27c62d4f45220315873e1871a74ff0f3b281f4f3d070e9a55a31738d1dd033f4"), looks := false }, kinds := [], alts := [], laidByText := true, laidKinds := [.data], laidTests := true, laidLooks := .later }
def PollPlaysCardSaid : Prop := Claim7.holds Tryd.pinned (.plain (OpenSpec.ofChange pollPlaysSpec)) pollPlaysCard

/-- THE TIED CARD OF 'usherlaw8.PollEdges'. -/
def pollEdgesCard : Claim7 := { stood := { row := pollEdgesRow, standIns := [], harness := (true, "27c62d4f45220315873e1871a74ff0f3b281f4f3d070e9a55a31738d1dd033f4"), looks := false }, kinds := [], alts := [], laidByText := true, laidKinds := [.data], laidTests := true, laidLooks := .later }
def PollEdgesCardSaid : Prop := Claim7.holds Tryd.pinned (.plain (OpenSpec.ofChange pollEdgesSpec)) pollEdgesCard

/-- THE TIED CARD OF 'usherlaw8.PollPicks'. -/
def pollPicksCard : Claim7 := { stood := { row := pollPicksRow, standIns := [], harness := (true, "27c62d4f45220315873e1871a74ff0f3b281f4f3d070e9a55a31738d1dd033f4"), looks := false }, kinds := [], alts := [], laidByText := true, laidKinds := [.data], laidTests := true, laidLooks := .later }
def PollPicksCardSaid : Prop := Claim7.holds Tryd.pinned (.plain (OpenSpec.ofChange pollPicksSpec)) pollPicksCard

/-- THE TIED CARD OF 'usherlaw8.PollOfNothing'. -/
def pollOfNothingCard : Claim7 := { stood := { row := pollOfNothingRow, standIns := [], harness := (true, "27c62d4f45220315873e1871a74ff0f3b281f4f3d070e9a55a31738d1dd033f4"), looks := false }, kinds := [], alts := [], laidByText := true, laidKinds := [.data], laidTests := true, laidLooks := .later }
def PollOfNothingCardSaid : Prop := Claim7.holds Tryd.pinned (.plain (OpenSpec.ofChange pollOfNothingSpec)) pollOfNothingCard

/-- THE TIED CARD OF 'usherlaw8.PollQuiet'. -/
def pollQuietCard : Claim7 := { stood := { row := pollQuietRow, standIns := [], harness := (true, "27c62d4f45220315873e1871a74ff0f3b281f4f3d070e9a55a31738d1dd033f4"), looks := false }, kinds := [], alts := [], laidByText := true, laidKinds := [.data], laidTests := true, laidLooks := .later }
def PollQuietCardSaid : Prop := Claim7.holds Tryd.pinned (.plain (OpenSpec.ofChange pollQuietSpec)) pollQuietCard

/-- THE SECOND FORM's CARD OF 'usherlaw8.PollPlays'. -/
def pollPlaysUptoCard : Claim7 := { stood := { row := pollPlaysUptoRow, standIns := [], harness := (true, "27c62d4f45220315873e1871a74ff0f3b281f4f3d070e9a55a31738d1dd033f4"), looks := false }, kinds := [], alts := [], laidByText := true, laidKinds := [.data], laidTests := true, laidLooks := .later }
def PollPlaysUptoCardSaid : Prop := Claim7.holds Tryd.pinned (.plain (OpenSpec.upto pollPlaysSpec)) pollPlaysUptoCard

/-- THE SECOND FORM's CARD OF 'usherlaw8.PollEdges'. -/
def pollEdgesUptoCard : Claim7 := { stood := { row := pollEdgesUptoRow, standIns := [], harness := (true, "27c62d4f45220315873e1871a74ff0f3b281f4f3d070e9a55a31738d1dd033f4"), looks := false }, kinds := [], alts := [], laidByText := true, laidKinds := [.data], laidTests := true, laidLooks := .later }
def PollEdgesUptoCardSaid : Prop := Claim7.holds Tryd.pinned (.plain (OpenSpec.upto pollEdgesSpec)) pollEdgesUptoCard

/-- THE SECOND FORM's CARD OF 'usherlaw8.PollPicks'. -/
def pollPicksUptoCard : Claim7 := { stood := { row := pollPicksUptoRow, standIns := [], harness := (true, "27c62d4f45220315873e1871a74ff0f3b281f4f3d070e9a55a31738d1dd033f4"), looks := false }, kinds := [], alts := [], laidByText := true, laidKinds := [.data], laidTests := true, laidLooks := .later }
def PollPicksUptoCardSaid : Prop := Claim7.holds Tryd.pinned (.plain (OpenSpec.upto pollPicksSpec)) pollPicksUptoCard

/-- THE SECOND FORM's CARD OF 'usherlaw8.PollOfNothing'. -/
def pollOfNothingUptoCard : Claim7 := { stood := { row := pollOfNothingUptoRow, standIns := [], harness := (true, "27c62d4f45220315873e1871a74ff0f3b281f4f3d070e9a55a31738d1dd033f4"), looks := false }, kinds := [], alts := [], laidByText := true, laidKinds := [.data], laidTests := true, laidLooks := .later }
def PollOfNothingUptoCardSaid : Prop := Claim7.holds Tryd.pinned (.plain (OpenSpec.upto pollOfNothingSpec)) pollOfNothingUptoCard

/-- THE SECOND FORM's CARD OF 'usherlaw8.PollQuiet'. -/
def pollQuietUptoCard : Claim7 := { stood := { row := pollQuietUptoRow, standIns := [], harness := (true, "27c62d4f45220315873e1871a74ff0f3b281f4f3d070e9a55a31738d1dd033f4"), looks := false }, kinds := [], alts := [], laidByText := true, laidKinds := [.data], laidTests := true, laidLooks := .later }
def PollQuietUptoCardSaid : Prop := Claim7.holds Tryd.pinned (.plain (OpenSpec.upto pollQuietSpec)) pollQuietUptoCard
end Rows
end Go.Proofs.YthaapkafamdhcaaDoor
