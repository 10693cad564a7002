/-
  DERIVED. GIVEN WITH THE SEED: THE CARDS: each row of YtfnjkkjpffnbiaaDoorRows.lean that lists a variable, with what it lists TIED to the program's text (the seventh form; the later family's looks); each row that meets fmt, with fmt's text TOLD by the authors' own Lean function (tested against real Go, not proved from fmt's source: count such statements apart). THE CARD IS WHAT COUNTS. Prove the row's statement (the work); the ties are given (YtfnjkkjpffnbiaaDoorTie.lean); close each card by the builder's one call (the guide's Derived/Test/ToyasCard.lean, 'card_holds'). Laid BY PROGRAM, IN A SANDBOX (cutbox-door.mjs). By AI agents, Wed Nov 11 2026. No macro, syntax, notation, axiom, sorry.
-/
import Derived.Test.YtfnjkkjpffnbiaaDoorRows
import GoSem.ClaimSeven
namespace Go.Proofs.YtfnjkkjpffnbiaaDoor
namespace Rows

/-- THE TIED CARD OF 'usherlaw9.ListTokens'. -/
def listTokensCard : Claim7 := { stood := { row := listTokensRow, standIns := [], harness := (true, "dc35c3623eaa20c6c8d3df8cc1595a6ff90d90e90718d122ae3b65017eea0fc2"), looks := false }, kinds := [], alts := [], laidByText := true, laidKinds := [.data, .pinned], laidTests := true, laidLooks := .later }
def ListTokensCardSaid : Prop := Claim7.holds Tryd.pinned (.plain (OpenSpec.ofChange listTokensSpec)) listTokensCard

/-- THE TIED CARD OF 'usherlaw9.ListJoins'. -/
def listJoinsCard : Claim7 := { stood := { row := listJoinsRow, standIns := [], harness := (true, "dc35c3623eaa20c6c8d3df8cc1595a6ff90d90e90718d122ae3b65017eea0fc2"), looks := false }, kinds := [], alts := [], laidByText := true, laidKinds := [.data, .pinned], laidTests := true, laidLooks := .later }
def ListJoinsCardSaid : Prop := Claim7.holds Tryd.pinned (.plain (OpenSpec.ofChange listJoinsSpec)) listJoinsCard

/-- THE TIED CARD OF 'usherlaw9.ListQuoted'. -/
def listQuotedCard : Claim7 := { stood := { row := listQuotedRow, standIns := [], harness := (true, "dc35c3623eaa20c6c8d3df8cc1595a6ff90d90e90718d122ae3b65017eea0fc2"), looks := false }, kinds := [], alts := [], laidByText := true, laidKinds := [.data, .pinned], laidTests := true, laidLooks := .later }
def ListQuotedCardSaid : Prop := Claim7.holds Tryd.pinned (.plain (OpenSpec.ofChange listQuotedSpec)) listQuotedCard

/-- THE TIED CARD OF 'usherlaw9.ListParams'. -/
def listParamsCard : Claim7 := { stood := { row := listParamsRow, standIns := [], harness := (true, "dc35c3623eaa20c6c8d3df8cc1595a6ff90d90e90718d122ae3b65017eea0fc2"), looks := false }, kinds := [], alts := [], laidByText := true, laidKinds := [.data, .pinned], laidTests := true, laidLooks := .later }
def ListParamsCardSaid : Prop := Claim7.holds Tryd.pinned (.plain (OpenSpec.ofChange listParamsSpec)) listParamsCard

/-- THE TIED CARD OF 'usherlaw9.ListBack'. -/
def listBackCard : Claim7 := { stood := { row := listBackRow, standIns := [], harness := (true, "dc35c3623eaa20c6c8d3df8cc1595a6ff90d90e90718d122ae3b65017eea0fc2"), looks := false }, kinds := [], alts := [], laidByText := true, laidKinds := [.data, .pinned], laidTests := true, laidLooks := .later }
def ListBackCardSaid : Prop := Claim7.holds Tryd.pinned (.plain (OpenSpec.ofChange listBackSpec)) listBackCard

/-- THE TIED CARD OF 'usherlaw9.ListHasAll'. -/
def listHasAllCard : Claim7 := { stood := { row := listHasAllRow, standIns := [], harness := (true, "dc35c3623eaa20c6c8d3df8cc1595a6ff90d90e90718d122ae3b65017eea0fc2"), looks := false }, kinds := [], alts := [], laidByText := true, laidKinds := [.data, .pinned], laidTests := true, laidLooks := .later }
def ListHasAllCardSaid : Prop := Claim7.holds Tryd.pinned (.plain (OpenSpec.ofChange listHasAllSpec)) listHasAllCard

/-- THE SECOND FORM's CARD OF 'usherlaw9.ListTokens'. -/
def listTokensUptoCard : Claim7 := { stood := { row := listTokensUptoRow, standIns := [], harness := (true, "dc35c3623eaa20c6c8d3df8cc1595a6ff90d90e90718d122ae3b65017eea0fc2"), looks := false }, kinds := [], alts := [], laidByText := true, laidKinds := [.data, .pinned], laidTests := true, laidLooks := .later }
def ListTokensUptoCardSaid : Prop := Claim7.holds Tryd.pinned (.plain (OpenSpec.upto listTokensSpec)) listTokensUptoCard

/-- THE SECOND FORM's CARD OF 'usherlaw9.ListJoins'. -/
def listJoinsUptoCard : Claim7 := { stood := { row := listJoinsUptoRow, standIns := [], harness := (true, "dc35c3623eaa20c6c8d3df8cc1595a6ff90d90e90718d122ae3b65017eea0fc2"), looks := false }, kinds := [], alts := [], laidByText := true, laidKinds := [.data, .pinned], laidTests := true, laidLooks := .later }
def ListJoinsUptoCardSaid : Prop := Claim7.holds Tryd.pinned (.plain (OpenSpec.upto listJoinsSpec)) listJoinsUptoCard

/-- THE SECOND FORM's CARD OF 'usherlaw9.ListQuoted'. -/
def listQuotedUptoCard : Claim7 := { stood := { row := listQuotedUptoRow, standIns := [], harness := (true, "dc35c3623eaa20c6c8d3df8cc1595a6ff90d90e90718d122ae3b65017eea0fc2"), looks := false }, kinds := [], alts := [], laidByText := true, laidKinds := [.data, .pinned], laidTests := true, laidLooks := .later }
def ListQuotedUptoCardSaid : Prop := Claim7.holds Tryd.pinned (.plain (OpenSpec.upto listQuotedSpec)) listQuotedUptoCard

/-- THE SECOND FORM's CARD OF 'usherlaw9.ListParams'. -/
def listParamsUptoCard : Claim7 := { stood := { row := listParamsUptoRow, standIns := [], harness := (true, "dc35c3623eaa20c6c8d3df8cc1595a6ff90d90e90718d122ae3b65017eea0fc2"), looks := false }, kinds := [], alts := [], laidByText := true, laidKinds := [.data, .pinned], laidTests := true, laidLooks := .later }
def ListParamsUptoCardSaid : Prop := Claim7.holds Tryd.pinned (.plain (OpenSpec.upto listParamsSpec)) listParamsUptoCard

/-- THE SECOND FORM's CARD OF 'usherlaw9.ListBack'. -/
def listBackUptoCard : Claim7 := { stood := { row := listBackUptoRow, standIns := [], harness := (true, "dc35c3623eaa20c6c8d3df8cc1595a6ff90d90e90718d122ae3b65017eea0fc2"), looks := false }, kinds := [], alts := [], laidByText := true, laidKinds := [.data, .pinned], laidTests := true, laidLooks := .later }
def ListBackUptoCardSaid : Prop := Claim7.holds Tryd.pinned (.plain (OpenSpec.upto listBackSpec)) listBackUptoCard

/-- THE SECOND FORM's CARD OF 'usherlaw9.ListHasAll'. -/
def listHasAllUptoCard : Claim7 := { stood := { row := listHasAllUptoRow, standIns := [], harness := (true, "dc35c3623eaa20c6c8d3df8cc1595a6ff90d90e90718d122ae3b65017eea0fc2"), looks := false }, kinds := [], alts := [], laidByText := true, laidKinds := [.data, .pinned], laidTests := true, laidLooks := .later }
def ListHasAllUptoCardSaid : Prop := Claim7.holds Tryd.pinned (.plain (OpenSpec.upto listHasAllSpec)) listHasAllUptoCard
end Rows
end Go.Proofs.YtfnjkkjpffnbiaaDoor
