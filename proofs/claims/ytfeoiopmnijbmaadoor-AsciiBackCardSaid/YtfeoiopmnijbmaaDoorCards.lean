/-
  DERIVED. GIVEN WITH THE SEED: THE CARDS: each row of YtfeoiopmnijbmaaDoorRows.lean that lists a variable, with what it lists TIED to the program's text (the seventh form; the later family's looks); each row that meets fmt, with fmt's text TOLD by the authors' own Lean function (tested against real Go, not proved from fmt's source: count such statements apart). THE CARD IS WHAT COUNTS. Prove the row's statement (the work); the ties are given (YtfeoiopmnijbmaaDoorTie.lean); close each card by the builder's one call (the guide's Derived/Test/ToyasCard.lean, 'card_holds'). Laid BY PROGRAM, IN A SANDBOX (cutbox-door.mjs). By AI agents, Wed Nov 11 2026. No macro, syntax, notation, axiom, sorry.
-/
import Derived.Test.YtfeoiopmnijbmaaDoorRows
import GoSem.ClaimSeven
namespace Go.Proofs.YtfeoiopmnijbmaaDoor
namespace Rows

/-- THE TIED CARD OF 'usherlaw1.AsciiWords'. -/
def asciiWordsCard : Claim7 := { stood := { row := asciiWordsRow, standIns := [], harness := (true, "56b976f7fd947b28c0f147074f6438cdc42e5e768fb0732ff02fe6c251d3dde8"), looks := false }, kinds := [], alts := [], laidByText := true, laidKinds := [.data, .pinned], laidTests := true, laidLooks := .later }
def AsciiWordsCardSaid : Prop := Claim7.holds Tryd.pinned (.plain (OpenSpec.ofChange asciiWordsSpec)) asciiWordsCard

/-- THE TIED CARD OF 'usherlaw1.AsciiBack'. -/
def asciiBackCard : Claim7 := { stood := { row := asciiBackRow, standIns := [], harness := (true, "56b976f7fd947b28c0f147074f6438cdc42e5e768fb0732ff02fe6c251d3dde8"), looks := false }, kinds := [], alts := [], laidByText := true, laidKinds := [.data, .data, .data], laidTests := true, laidLooks := .later }
def AsciiBackCardSaid : Prop := Claim7.holds Tryd.pinned (.plain (OpenSpec.ofChange asciiBackSpec)) asciiBackCard

/-- THE TIED CARD OF 'usherlaw1.AsciiTrims'. -/
def asciiTrimsCard : Claim7 := { stood := { row := asciiTrimsRow, standIns := [], harness := (true, "56b976f7fd947b28c0f147074f6438cdc42e5e768fb0732ff02fe6c251d3dde8"), looks := false }, kinds := [], alts := [], laidByText := true, laidKinds := [.data, .pinned], laidTests := true, laidLooks := .later }
def AsciiTrimsCardSaid : Prop := Claim7.holds Tryd.pinned (.plain (OpenSpec.ofChange asciiTrimsSpec)) asciiTrimsCard

/-- THE SECOND FORM's CARD OF 'usherlaw1.AsciiWords'. -/
def asciiWordsUptoCard : Claim7 := { stood := { row := asciiWordsUptoRow, standIns := [], harness := (true, "56b976f7fd947b28c0f147074f6438cdc42e5e768fb0732ff02fe6c251d3dde8"), looks := false }, kinds := [], alts := [], laidByText := true, laidKinds := [.data, .pinned], laidTests := true, laidLooks := .later }
def AsciiWordsUptoCardSaid : Prop := Claim7.holds Tryd.pinned (.plain (OpenSpec.upto asciiWordsSpec)) asciiWordsUptoCard

/-- THE SECOND FORM's CARD OF 'usherlaw1.AsciiBack'. -/
def asciiBackUptoCard : Claim7 := { stood := { row := asciiBackUptoRow, standIns := [], harness := (true, "56b976f7fd947b28c0f147074f6438cdc42e5e768fb0732ff02fe6c251d3dde8"), looks := false }, kinds := [], alts := [], laidByText := true, laidKinds := [.data, .data, .data], laidTests := true, laidLooks := .later }
def AsciiBackUptoCardSaid : Prop := Claim7.holds Tryd.pinned (.plain (OpenSpec.upto asciiBackSpec)) asciiBackUptoCard

/-- THE SECOND FORM's CARD OF 'usherlaw1.AsciiTrims'. -/
def asciiTrimsUptoCard : Claim7 := { stood := { row := asciiTrimsUptoRow, standIns := [], harness := (true, "56b976f7fd947b28c0f147074f6438cdc42e5e768fb0732ff02fe6c251d3dde8"), looks := false }, kinds := [], alts := [], laidByText := true, laidKinds := [.data, .pinned], laidTests := true, laidLooks := .later }
def AsciiTrimsUptoCardSaid : Prop := Claim7.holds Tryd.pinned (.plain (OpenSpec.upto asciiTrimsSpec)) asciiTrimsUptoCard
end Rows
end Go.Proofs.YtfeoiopmnijbmaaDoor
