/-
  DERIVED. GIVEN WITH THE SEED: THE CARDS: each row of YtcliapfoimnkiaaDoorRows.lean that lists a variable, with what it lists TIED to the program's text (the seventh form; the later family's looks); each row that meets fmt, with fmt's text TOLD by the authors' own Lean function (tested against real Go, not proved from fmt's source: count such statements apart). THE CARD IS WHAT COUNTS. Prove the row's statement (the work); the ties are given (YtcliapfoimnkiaaDoorTie.lean); close each card by the builder's one call (the guide's Derived/Test/ToyasCard.lean, 'card_holds'). Laid BY PROGRAM, IN A SANDBOX (cutbox-door.mjs). By AI agents, Wed Nov 11 2026. No macro, syntax, notation, axiom, sorry.
-/
import Derived.Test.YtcliapfoimnkiaaDoorRows
import GoSem.ClaimSeven
namespace Go.Proofs.YtcliapfoimnkiaaDoor
namespace Rows

/-- THE TIED CARD OF 'usherlaw12.FramingCloses'. -/
def framingClosesCard : Claim7 := { stood := { row := framingClosesRow, standIns := [], harness := (true, "d2d3e7b40e039ac23224f65401e82d7533450ae2d8ac43c1c3c36a6e1f383629"), looks := false }, kinds := [], alts := [], laidByText := true, laidKinds := [.data, .pinned], laidTests := true, laidLooks := .later }
def FramingClosesCardSaid : Prop := Claim7.holds Tryd.pinned (.plain (OpenSpec.ofChange framingClosesSpec)) framingClosesCard

/-- THE TIED CARD OF 'usherlaw12.FramingHosts'. -/
def framingHostsCard : Claim7 := { stood := { row := framingHostsRow, standIns := [], harness := (true, "d2d3e7b40e039ac23224f65401e82d7533450ae2d8ac43c1c3c36a6e1f383629"), looks := false }, kinds := [], alts := [], laidByText := true, laidKinds := [.data, .pinned], laidTests := true, laidLooks := .later }
def FramingHostsCardSaid : Prop := Claim7.holds Tryd.pinned (.plain (OpenSpec.ofChange framingHostsSpec)) framingHostsCard

/-- THE SECOND FORM's CARD OF 'usherlaw12.FramingCloses'. -/
def framingClosesUptoCard : Claim7 := { stood := { row := framingClosesUptoRow, standIns := [], harness := (true, "d2d3e7b40e039ac23224f65401e82d7533450ae2d8ac43c1c3c36a6e1f383629"), looks := false }, kinds := [], alts := [], laidByText := true, laidKinds := [.data, .pinned], laidTests := true, laidLooks := .later }
def FramingClosesUptoCardSaid : Prop := Claim7.holds Tryd.pinned (.plain (OpenSpec.upto framingClosesSpec)) framingClosesUptoCard

/-- THE SECOND FORM's CARD OF 'usherlaw12.FramingHosts'. -/
def framingHostsUptoCard : Claim7 := { stood := { row := framingHostsUptoRow, standIns := [], harness := (true, "d2d3e7b40e039ac23224f65401e82d7533450ae2d8ac43c1c3c36a6e1f383629"), looks := false }, kinds := [], alts := [], laidByText := true, laidKinds := [.data, .pinned], laidTests := true, laidLooks := .later }
def FramingHostsUptoCardSaid : Prop := Claim7.holds Tryd.pinned (.plain (OpenSpec.upto framingHostsSpec)) framingHostsUptoCard
end Rows
end Go.Proofs.YtcliapfoimnkiaaDoor
