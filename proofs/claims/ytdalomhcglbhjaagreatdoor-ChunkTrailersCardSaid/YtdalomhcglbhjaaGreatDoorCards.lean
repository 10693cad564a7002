/-
  DERIVED. GIVEN WITH THE SEED: THE CARDS: each row of YtdalomhcglbhjaaGreatDoorRows.lean that lists a variable, with what it lists TIED to the program's text (the seventh form; the later family's looks); each row that meets fmt, with fmt's text TOLD by the authors' own Lean function (tested against real Go, not proved from fmt's source: count such statements apart). THE CARD IS WHAT COUNTS. Prove the row's statement (the work); the ties are given (YtdalomhcglbhjaaGreatDoorTie.lean); close each card by the builder's one call (the guide's Derived/Test/ToyasCard.lean, 'card_holds'). Laid BY PROGRAM, IN A SANDBOX (cutbox-door.mjs). By AI agents, Wed Nov 11 2026. No macro, syntax, notation, axiom, sorry.
-/
import Derived.Test.YtdalomhcglbhjaaGreatDoorRows
import GoSem.ClaimSeven
namespace Go.Proofs.YtdalomhcglbhjaaGreatDoor
namespace Rows

/-- THE TIED CARD OF 'usherlaw14.ChunkFeeds'. -/
def chunkFeedsCard : Claim7 := { stood := { row := chunkFeedsRow, standIns := [], harness := (true, "96f52fdbb1456b3122ab344974111bdef76090f46ea2c37d71c1791c2e89b3c1"), looks := false }, kinds := [], alts := [], laidByText := true, laidKinds := [.data, .data, .data, .data, .pinned], laidTests := true, laidLooks := .later }
def ChunkFeedsCardSaid : Prop := Claim7.holds Tryz.pinned (.plain (OpenSpec.ofChange chunkFeedsSpec)) chunkFeedsCard

/-- THE TIED CARD OF 'usherlaw14.ChunkTrailers'. -/
def chunkTrailersCard : Claim7 := { stood := { row := chunkTrailersRow, standIns := [], harness := (true, "96f52fdbb1456b3122ab344974111bdef76090f46ea2c37d71c1791c2e89b3c1"), looks := false }, kinds := [], alts := [], laidByText := true, laidKinds := [.data, .data, .data, .data, .pinned], laidTests := true, laidLooks := .later }
def ChunkTrailersCardSaid : Prop := Claim7.holds Tryz.pinned (.plain (OpenSpec.ofChange chunkTrailersSpec)) chunkTrailersCard

/-- THE SECOND FORM's CARD OF 'usherlaw14.ChunkFeeds'. -/
def chunkFeedsUptoCard : Claim7 := { stood := { row := chunkFeedsUptoRow, standIns := [], harness := (true, "96f52fdbb1456b3122ab344974111bdef76090f46ea2c37d71c1791c2e89b3c1"), looks := false }, kinds := [], alts := [], laidByText := true, laidKinds := [.data, .data, .data, .data, .pinned], laidTests := true, laidLooks := .later }
def ChunkFeedsUptoCardSaid : Prop := Claim7.holds Tryz.pinned (.plain (OpenSpec.upto chunkFeedsSpec)) chunkFeedsUptoCard

/-- THE SECOND FORM's CARD OF 'usherlaw14.ChunkTrailers'. -/
def chunkTrailersUptoCard : Claim7 := { stood := { row := chunkTrailersUptoRow, standIns := [], harness := (true, "96f52fdbb1456b3122ab344974111bdef76090f46ea2c37d71c1791c2e89b3c1"), looks := false }, kinds := [], alts := [], laidByText := true, laidKinds := [.data, .data, .data, .data, .pinned], laidTests := true, laidLooks := .later }
def ChunkTrailersUptoCardSaid : Prop := Claim7.holds Tryz.pinned (.plain (OpenSpec.upto chunkTrailersSpec)) chunkTrailersUptoCard
end Rows
end Go.Proofs.YtdalomhcglbhjaaGreatDoor
