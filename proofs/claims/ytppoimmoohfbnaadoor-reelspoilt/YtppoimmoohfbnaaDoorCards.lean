/-
  DERIVED. GIVEN WITH THE SEED: THE CARDS: each row of YtppoimmoohfbnaaDoorRows.lean that lists a variable, with what it lists TIED to the program's text (the seventh form; the later family's looks); each row that meets fmt, with fmt's text TOLD by the authors' own Lean function (tested against real Go, not proved from fmt's source: count such statements apart). THE CARD IS WHAT COUNTS. Prove the row's statement (the work); the ties are given (YtppoimmoohfbnaaDoorTie.lean); close each card by the builder's one call (the guide's Derived/Test/ToyasCard.lean, 'card_holds'). Laid BY PROGRAM, IN A SANDBOX (cutbox-door.mjs). By AI agents, Wed Nov 11 2026. No macro, syntax, notation, axiom, sorry.
-/
import Derived.Test.YtppoimmoohfbnaaDoorRows
import GoSem.ClaimSeven
namespace Go.Proofs.YtppoimmoohfbnaaDoor
namespace Rows

/-- THE TIED CARD OF 'bartizanlaw06.ReelFrames'. -/
def reelFramesCard : Claim7 := { stood := { row := reelFramesRow, standIns := [], harness := (true, "8b2ceb3f8f44b9591b0cfcad5cb505e8ab7dccb410f436b9a9d7b6758ace57d8"), looks := false }, kinds := [], alts := [], laidByText := true, laidKinds := [.data], laidTests := true, laidLooks := .later }
def ReelFramesCardSaid : Prop := Claim7.holds Tryd.pinned (.plain (OpenSpec.ofChange reelFramesSpec)) reelFramesCard

/-- THE TIED CARD OF 'bartizanlaw06.ReelReads'. -/
def reelReadsCard : Claim7 := { stood := { row := reelReadsRow, standIns := [], harness := (true, "8b2ceb3f8f44b9591b0cfcad5cb505e8ab7dccb410f436b9a9d7b6758ace57d8"), looks := false }, kinds := [], alts := [], laidByText := true, laidKinds := [.data], laidTests := true, laidLooks := .later }
def ReelReadsCardSaid : Prop := Claim7.holds Tryd.pinned (.plain (OpenSpec.ofChange reelReadsSpec)) reelReadsCard

/-- THE TIED CARD OF 'bartizanlaw06.ReelBack'. -/
def reelBackCard : Claim7 := { stood := { row := reelBackRow, standIns := [], harness := (true, "8b2ceb3f8f44b9591b0cfcad5cb505e8ab7dccb410f436b9a9d7b6758ace57d8"), looks := false }, kinds := [], alts := [], laidByText := true, laidKinds := [.data], laidTests := true, laidLooks := .later }
def ReelBackCardSaid : Prop := Claim7.holds Tryd.pinned (.plain (OpenSpec.ofChange reelBackSpec)) reelBackCard

/-- THE TIED CARD OF 'bartizanlaw06.ReelCuts'. -/
def reelCutsCard : Claim7 := { stood := { row := reelCutsRow, standIns := [], harness := (true, "8b2ceb3f8f44b9591b0cfcad5cb505e8ab7dccb410f436b9a9d7b6758ace57d8"), looks := false }, kinds := [], alts := [], laidByText := true, laidKinds := [.data], laidTests := true, laidLooks := .later }
def ReelCutsCardSaid : Prop := Claim7.holds Tryd.pinned (.plain (OpenSpec.ofChange reelCutsSpec)) reelCutsCard

/-- THE TIED CARD OF 'bartizanlaw06.ReelSpoilt'. -/
def reelSpoiltCard : Claim7 := { stood := { row := reelSpoiltRow, standIns := [], harness := (true, "8b2ceb3f8f44b9591b0cfcad5cb505e8ab7dccb410f436b9a9d7b6758ace57d8"), looks := false }, kinds := [], alts := [], laidByText := true, laidKinds := [.data], laidTests := true, laidLooks := .later }
def ReelSpoiltCardSaid : Prop := Claim7.holds Tryd.pinned (.plain (OpenSpec.ofChange reelSpoiltSpec)) reelSpoiltCard

/-- THE TIED CARD OF 'bartizanlaw06.ReelBlocks'. -/
def reelBlocksCard : Claim7 := { stood := { row := reelBlocksRow, standIns := [], harness := (true, "8b2ceb3f8f44b9591b0cfcad5cb505e8ab7dccb410f436b9a9d7b6758ace57d8"), looks := false }, kinds := [], alts := [], laidByText := true, laidKinds := [.data], laidTests := true, laidLooks := .later }
def ReelBlocksCardSaid : Prop := Claim7.holds Tryd.pinned (.plain (OpenSpec.ofChange reelBlocksSpec)) reelBlocksCard

/-- THE TIED CARD OF 'bartizanlaw06.ReelLong'. -/
def reelLongCard : Claim7 := { stood := { row := reelLongRow, standIns := [], harness := (true, "8b2ceb3f8f44b9591b0cfcad5cb505e8ab7dccb410f436b9a9d7b6758ace57d8"), looks := false }, kinds := [], alts := [], laidByText := true, laidKinds := [.data], laidTests := true, laidLooks := .later }
def ReelLongCardSaid : Prop := Claim7.holds Tryd.pinned (.plain (OpenSpec.ofChange reelLongSpec)) reelLongCard

/-- THE SECOND FORM's CARD OF 'bartizanlaw06.ReelFrames'. -/
def reelFramesUptoCard : Claim7 := { stood := { row := reelFramesUptoRow, standIns := [], harness := (true, "8b2ceb3f8f44b9591b0cfcad5cb505e8ab7dccb410f436b9a9d7b6758ace57d8"), looks := false }, kinds := [], alts := [], laidByText := true, laidKinds := [.data], laidTests := true, laidLooks := .later }
def ReelFramesUptoCardSaid : Prop := Claim7.holds Tryd.pinned (.plain (OpenSpec.upto reelFramesSpec)) reelFramesUptoCard

/-- THE SECOND FORM's CARD OF 'bartizanlaw06.ReelReads'. -/
def reelReadsUptoCard : Claim7 := { stood := { row := reelReadsUptoRow, standIns := [], harness := (true, "8b2ceb3f8f44b9591b0cfcad5cb505e8ab7dccb410f436b9a9d7b6758ace57d8"), looks := false }, kinds := [], alts := [], laidByText := true, laidKinds := [.data], laidTests := true, laidLooks := .later }
def ReelReadsUptoCardSaid : Prop := Claim7.holds Tryd.pinned (.plain (OpenSpec.upto reelReadsSpec)) reelReadsUptoCard

/-- THE SECOND FORM's CARD OF 'bartizanlaw06.ReelBack'. -/
def reelBackUptoCard : Claim7 := { stood := { row := reelBackUptoRow, standIns := [], harness := (true, "8b2ceb3f8f44b9591b0cfcad5cb505e8ab7dccb410f436b9a9d7b6758ace57d8"), looks := false }, kinds := [], alts := [], laidByText := true, laidKinds := [.data], laidTests := true, laidLooks := .later }
def ReelBackUptoCardSaid : Prop := Claim7.holds Tryd.pinned (.plain (OpenSpec.upto reelBackSpec)) reelBackUptoCard

/-- THE SECOND FORM's CARD OF 'bartizanlaw06.ReelCuts'. -/
def reelCutsUptoCard : Claim7 := { stood := { row := reelCutsUptoRow, standIns := [], harness := (true, "8b2ceb3f8f44b9591b0cfcad5cb505e8ab7dccb410f436b9a9d7b6758ace57d8"), looks := false }, kinds := [], alts := [], laidByText := true, laidKinds := [.data], laidTests := true, laidLooks := .later }
def ReelCutsUptoCardSaid : Prop := Claim7.holds Tryd.pinned (.plain (OpenSpec.upto reelCutsSpec)) reelCutsUptoCard

/-- THE SECOND FORM's CARD OF 'bartizanlaw06.ReelSpoilt'. -/
def reelSpoiltUptoCard : Claim7 := { stood := { row := reelSpoiltUptoRow, standIns := [], harness := (true, "8b2ceb3f8f44b9591b0cfcad5cb505e8ab7dccb410f436b9a9d7b6758ace57d8"), looks := false }, kinds := [], alts := [], laidByText := true, laidKinds := [.data], laidTests := true, laidLooks := .later }
def ReelSpoiltUptoCardSaid : Prop := Claim7.holds Tryd.pinned (.plain (OpenSpec.upto reelSpoiltSpec)) reelSpoiltUptoCard

/-- THE SECOND FORM's CARD OF 'bartizanlaw06.ReelBlocks'. -/
def reelBlocksUptoCard : Claim7 := { stood := { row := reelBlocksUptoRow, standIns := [], harness := (true, "8b2ceb3f8f44b9591b0cfcad5cb505e8ab7dccb410f436b9a9d7b6758ace57d8"), looks := false }, kinds := [], alts := [], laidByText := true, laidKinds := [.data], laidTests := true, laidLooks := .later }
def ReelBlocksUptoCardSaid : Prop := Claim7.holds Tryd.pinned (.plain (OpenSpec.upto reelBlocksSpec)) reelBlocksUptoCard

/-- THE SECOND FORM's CARD OF 'bartizanlaw06.ReelLong'. -/
def reelLongUptoCard : Claim7 := { stood := { row := reelLongUptoRow, standIns := [], harness := (true, "8b2ceb3f8f44b9591b0cfcad5cb505e8ab7dccb410f436b9a9d7b6758ace57d8"), looks := false }, kinds := [], alts := [], laidByText := true, laidKinds := [.data], laidTests := true, laidLooks := .later }
def ReelLongUptoCardSaid : Prop := Claim7.holds Tryd.pinned (.plain (OpenSpec.upto reelLongSpec)) reelLongUptoCard
end Rows
end Go.Proofs.YtppoimmoohfbnaaDoor
