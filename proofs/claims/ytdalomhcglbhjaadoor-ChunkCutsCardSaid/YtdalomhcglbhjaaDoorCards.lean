/-
  DERIVED. GIVEN WITH THE SEED: THE CARDS: each row of YtdalomhcglbhjaaDoorRows.lean that lists a variable, with what it lists TIED to the program's text (the seventh form; the later family's looks); each row that meets fmt, with fmt's text TOLD by the authors' own Lean function (tested against real Go, not proved from fmt's source: count such statements apart). THE CARD IS WHAT COUNTS. Prove the row's statement (the work); the ties are given (YtdalomhcglbhjaaDoorTie.lean); close each card by the builder's one call (the guide's Derived/Test/ToyasCard.lean, 'card_holds'). Laid BY PROGRAM, IN A SANDBOX (cutbox-door.mjs). By AI agents, Wed Nov 11 2026. No macro, syntax, notation, axiom, sorry.
-/
import Derived.Test.YtdalomhcglbhjaaDoorRows
import GoSem.ClaimSeven
namespace Go.Proofs.YtdalomhcglbhjaaDoor
namespace Rows

/-- THE TIED CARD OF 'usherlaw14.ChunkCuts'. -/
def chunkCutsCard : Claim7 := { stood := { row := chunkCutsRow, standIns := [], harness := (true, "53840da0d8a37993f94260b50c07e707e293e9a6c620c00c86ec429ab66a6ac0"), looks := false }, kinds := [], alts := [], laidByText := true, laidKinds := [.data, .data, .data, .data, .pinned], laidTests := true, laidLooks := .later }
def ChunkCutsCardSaid : Prop := Claim7.holds Tryd.pinned (.plain (OpenSpec.ofChange chunkCutsSpec)) chunkCutsCard

/-- THE TIED CARD OF 'usherlaw14.ChunkEncodes'. -/
def chunkEncodesCard : Claim7 := { stood := { row := chunkEncodesRow, standIns := [], harness := (true, "53840da0d8a37993f94260b50c07e707e293e9a6c620c00c86ec429ab66a6ac0"), looks := false }, kinds := [], alts := [], laidByText := true, laidKinds := [.data, .data, .data, .data, .pinned], laidTests := true, laidLooks := .later }
def ChunkEncodesCardSaid : Prop := Claim7.holds Tryd.pinned (.plain (OpenSpec.ofChange chunkEncodesSpec)) chunkEncodesCard

/-- THE TIED CARD OF 'usherlaw14.ChunkMost'. -/
def chunkMostCard : Claim7 := { stood := { row := chunkMostRow, standIns := [], harness := (true, "53840da0d8a37993f94260b50c07e707e293e9a6c620c00c86ec429ab66a6ac0"), looks := false }, kinds := [], alts := [], laidByText := true, laidKinds := [.data, .data, .data, .data, .pinned], laidTests := true, laidLooks := .later }
def ChunkMostCardSaid : Prop := Claim7.holds Tryd.pinned (.plain (OpenSpec.ofChange chunkMostSpec)) chunkMostCard

/-- THE TIED CARD OF 'usherlaw14.ChunkOfNothing'. -/
def chunkOfNothingCard : Claim7 := { stood := { row := chunkOfNothingRow, standIns := [], harness := (true, "53840da0d8a37993f94260b50c07e707e293e9a6c620c00c86ec429ab66a6ac0"), looks := false }, kinds := [], alts := [], laidByText := true, laidKinds := [.data, .data, .data, .data, .pinned], laidTests := true, laidLooks := .later }
def ChunkOfNothingCardSaid : Prop := Claim7.holds Tryd.pinned (.plain (OpenSpec.ofChange chunkOfNothingSpec)) chunkOfNothingCard

/-- THE SECOND FORM's CARD OF 'usherlaw14.ChunkCuts'. -/
def chunkCutsUptoCard : Claim7 := { stood := { row := chunkCutsUptoRow, standIns := [], harness := (true, "53840da0d8a37993f94260b50c07e707e293e9a6c620c00c86ec429ab66a6ac0"), looks := false }, kinds := [], alts := [], laidByText := true, laidKinds := [.data, .data, .data, .data, .pinned], laidTests := true, laidLooks := .later }
def ChunkCutsUptoCardSaid : Prop := Claim7.holds Tryd.pinned (.plain (OpenSpec.upto chunkCutsSpec)) chunkCutsUptoCard

/-- THE SECOND FORM's CARD OF 'usherlaw14.ChunkEncodes'. -/
def chunkEncodesUptoCard : Claim7 := { stood := { row := chunkEncodesUptoRow, standIns := [], harness := (true, "53840da0d8a37993f94260b50c07e707e293e9a6c620c00c86ec429ab66a6ac0"), looks := false }, kinds := [], alts := [], laidByText := true, laidKinds := [.data, .data, .data, .data, .pinned], laidTests := true, laidLooks := .later }
def ChunkEncodesUptoCardSaid : Prop := Claim7.holds Tryd.pinned (.plain (OpenSpec.upto chunkEncodesSpec)) chunkEncodesUptoCard

/-- THE SECOND FORM's CARD OF 'usherlaw14.ChunkMost'. -/
def chunkMostUptoCard : Claim7 := { stood := { row := chunkMostUptoRow, standIns := [], harness := (true, "53840da0d8a37993f94260b50c07e707e293e9a6c620c00c86ec429ab66a6ac0"), looks := false }, kinds := [], alts := [], laidByText := true, laidKinds := [.data, .data, .data, .data, .pinned], laidTests := true, laidLooks := .later }
def ChunkMostUptoCardSaid : Prop := Claim7.holds Tryd.pinned (.plain (OpenSpec.upto chunkMostSpec)) chunkMostUptoCard

/-- THE SECOND FORM's CARD OF 'usherlaw14.ChunkOfNothing'. -/
def chunkOfNothingUptoCard : Claim7 := { stood := { row := chunkOfNothingUptoRow, standIns := [], harness := (true, "53840da0d8a37993f94260b50c07e707e293e9a6c620c00c86ec429ab66a6ac0"), looks := false }, kinds := [], alts := [], laidByText := true, laidKinds := [.data, .data, .data, .data, .pinned], laidTests := true, laidLooks := .later }
def ChunkOfNothingUptoCardSaid : Prop := Claim7.holds Tryd.pinned (.plain (OpenSpec.upto chunkOfNothingSpec)) chunkOfNothingUptoCard
end Rows
end Go.Proofs.YtdalomhcglbhjaaDoor
