/-
  DERIVED. GIVEN WITH THE SEED: THE CARDS: each row of YtakimadhbgpedaaDoorRows.lean that lists a variable, with what it lists TIED to the program's text (the seventh form; the later family's looks); each row that meets fmt, with fmt's text TOLD by the authors' own Lean function (tested against real Go, not proved from fmt's source: count such statements apart). THE CARD IS WHAT COUNTS. Prove the row's statement (the work); the ties are given (YtakimadhbgpedaaDoorTie.lean); close each card by the builder's one call (the guide's Derived/Test/ToyasCard.lean, 'card_holds'). Laid BY PROGRAM, IN A SANDBOX (cutbox-door.mjs). By AI agents, Wed Nov 11 2026. No macro, syntax, notation, axiom, sorry.
-/
import Derived.Test.YtakimadhbgpedaaDoorRows
import GoSem.ClaimSeven
namespace Go.Proofs.YtakimadhbgpedaaDoor
namespace Rows

/-- THE TIED CARD OF 'usherlaw10.FieldParses'. -/
def fieldParsesCard : Claim7 := { stood := { row := fieldParsesRow, standIns := [], harness := (true, "354043e7af1fdab60e24a3dcb0557a29e943d09718b39018ce043b073eef77cf"), looks := false }, kinds := [], alts := [], laidByText := true, laidKinds := [.data, .pinned], laidTests := true, laidLooks := .later }
def FieldParsesCardSaid : Prop := Claim7.holds Tryd.pinned (.plain (OpenSpec.ofChange fieldParsesSpec)) fieldParsesCard

/-- THE TIED CARD OF 'usherlaw10.FieldPlays'. -/
def fieldPlaysCard : Claim7 := { stood := { row := fieldPlaysRow, standIns := [], harness := (true, "354043e7af1fdab60e24a3dcb0557a29e943d09718b39018ce043b073eef77cf"), looks := false }, kinds := [], alts := [], laidByText := true, laidKinds := [.data, .pinned], laidTests := true, laidLooks := .later }
def FieldPlaysCardSaid : Prop := Claim7.holds Tryd.pinned (.plain (OpenSpec.ofChange fieldPlaysSpec)) fieldPlaysCard

/-- THE TIED CARD OF 'usherlaw10.FieldBack'. -/
def fieldBackCard : Claim7 := { stood := { row := fieldBackRow, standIns := [], harness := (true, "354043e7af1fdab60e24a3dcb0557a29e943d09718b39018ce043b073eef77cf"), looks := false }, kinds := [], alts := [], laidByText := true, laidKinds := [.data, .pinned], laidTests := true, laidLooks := .later }
def FieldBackCardSaid : Prop := Claim7.holds Tryd.pinned (.plain (OpenSpec.ofChange fieldBackSpec)) fieldBackCard

/-- THE TIED CARD OF 'usherlaw10.FieldOfNothing'. -/
def fieldOfNothingCard : Claim7 := { stood := { row := fieldOfNothingRow, standIns := [], harness := (true, "354043e7af1fdab60e24a3dcb0557a29e943d09718b39018ce043b073eef77cf"), looks := false }, kinds := [], alts := [], laidByText := true, laidKinds := [.data, .pinned], laidTests := true, laidLooks := .later }
def FieldOfNothingCardSaid : Prop := Claim7.holds Tryd.pinned (.plain (OpenSpec.ofChange fieldOfNothingSpec)) fieldOfNothingCard

/-- THE TIED CARD OF 'usherlaw10.FieldOne'. -/
def fieldOneCard : Claim7 := { stood := { row := fieldOneRow, standIns := [], harness := (true, "354043e7af1fdab60e24a3dcb0557a29e943d09718b39018ce043b073eef77cf"), looks := false }, kinds := [], alts := [], laidByText := true, laidKinds := [.data, .pinned], laidTests := true, laidLooks := .later }
def FieldOneCardSaid : Prop := Claim7.holds Tryd.pinned (.plain (OpenSpec.ofChange fieldOneSpec)) fieldOneCard

/-- THE TIED CARD OF 'usherlaw10.FieldDrops'. -/
def fieldDropsCard : Claim7 := { stood := { row := fieldDropsRow, standIns := [], harness := (true, "354043e7af1fdab60e24a3dcb0557a29e943d09718b39018ce043b073eef77cf"), looks := false }, kinds := [], alts := [], laidByText := true, laidKinds := [.data, .pinned], laidTests := true, laidLooks := .later }
def FieldDropsCardSaid : Prop := Claim7.holds Tryd.pinned (.plain (OpenSpec.ofChange fieldDropsSpec)) fieldDropsCard

/-- THE SECOND FORM's CARD OF 'usherlaw10.FieldParses'. -/
def fieldParsesUptoCard : Claim7 := { stood := { row := fieldParsesUptoRow, standIns := [], harness := (true, "354043e7af1fdab60e24a3dcb0557a29e943d09718b39018ce043b073eef77cf"), looks := false }, kinds := [], alts := [], laidByText := true, laidKinds := [.data, .pinned], laidTests := true, laidLooks := .later }
def FieldParsesUptoCardSaid : Prop := Claim7.holds Tryd.pinned (.plain (OpenSpec.upto fieldParsesSpec)) fieldParsesUptoCard

/-- THE SECOND FORM's CARD OF 'usherlaw10.FieldPlays'. -/
def fieldPlaysUptoCard : Claim7 := { stood := { row := fieldPlaysUptoRow, standIns := [], harness := (true, "354043e7af1fdab60e24a3dcb0557a29e943d09718b39018ce043b073eef77cf"), looks := false }, kinds := [], alts := [], laidByText := true, laidKinds := [.data, .pinned], laidTests := true, laidLooks := .later }
def FieldPlaysUptoCardSaid : Prop := Claim7.holds Tryd.pinned (.plain (OpenSpec.upto fieldPlaysSpec)) fieldPlaysUptoCard

/-- THE SECOND FORM's CARD OF 'usherlaw10.FieldBack'. -/
def fieldBackUptoCard : Claim7 := { stood := { row := fieldBackUptoRow, standIns := [], harness := (true, "354043e7af1fdab60e24a3dcb0557a29e943d09718b39018ce043b073eef77cf"), looks := false }, kinds := [], alts := [], laidByText := true, laidKinds := [.data, .pinned], laidTests := true, laidLooks := .later }
def FieldBackUptoCardSaid : Prop := Claim7.holds Tryd.pinned (.plain (OpenSpec.upto fieldBackSpec)) fieldBackUptoCard

/-- THE SECOND FORM's CARD OF 'usherlaw10.FieldOfNothing'. -/
def fieldOfNothingUptoCard : Claim7 := { stood := { row := fieldOfNothingUptoRow, standIns := [], harness := (true, "354043e7af1fdab60e24a3dcb0557a29e943d09718b39018ce043b073eef77cf"), looks := false }, kinds := [], alts := [], laidByText := true, laidKinds := [.data, .pinned], laidTests := true, laidLooks := .later }
def FieldOfNothingUptoCardSaid : Prop := Claim7.holds Tryd.pinned (.plain (OpenSpec.upto fieldOfNothingSpec)) fieldOfNothingUptoCard

/-- THE SECOND FORM's CARD OF 'usherlaw10.FieldOne'. -/
def fieldOneUptoCard : Claim7 := { stood := { row := fieldOneUptoRow, standIns := [], harness := (true, "354043e7af1fdab60e24a3dcb0557a29e943d09718b39018ce043b073eef77cf"), looks := false }, kinds := [], alts := [], laidByText := true, laidKinds := [.data, .pinned], laidTests := true, laidLooks := .later }
def FieldOneUptoCardSaid : Prop := Claim7.holds Tryd.pinned (.plain (OpenSpec.upto fieldOneSpec)) fieldOneUptoCard

/-- THE SECOND FORM's CARD OF 'usherlaw10.FieldDrops'. -/
def fieldDropsUptoCard : Claim7 := { stood := { row := fieldDropsUptoRow, standIns := [], harness := (true, "354043e7af1fdab60e24a3dcb0557a29e943d09718b39018ce043b073eef77cf"), looks := false }, kinds := [], alts := [], laidByText := true, laidKinds := [.data, .pinned], laidTests := true, laidLooks := .later }
def FieldDropsUptoCardSaid : Prop := Claim7.holds Tryd.pinned (.plain (OpenSpec.upto fieldDropsSpec)) fieldDropsUptoCard
end Rows
end Go.Proofs.YtakimadhbgpedaaDoor
