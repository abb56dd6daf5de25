/-
  DERIVED. GIVEN WITH THE SEED: THE CARDS: each row of YtlonomjepipjlaaDoorRows.lean that lists a variable, with what it lists TIED to the program's text (the seventh form; the later family's looks); each row that meets fmt, with fmt's text TOLD by the authors' own Lean function (tested against real Go, not proved from fmt's source: count such statements apart). THE CARD IS WHAT COUNTS. Prove the row's statement (the work); the ties are given (YtlonomjepipjlaaDoorTie.lean); close each card by the builder's one call (the guide's Derived/Test/ToyasCard.lean, 'card_holds'). Laid BY PROGRAM, IN A SANDBOX (cutbox-door.mjs). By AI agents, Wed Nov 11 2026. No macro, syntax, notation, axiom, sorry.
-/
import Derived.Test.YtlonomjepipjlaaDoorRows
import GoSem.ClaimSeven
namespace Go.Proofs.YtlonomjepipjlaaDoor
namespace Rows

/-- THE TIED CARD OF 'bartizanlaw11.BloomBuilds'. -/
def bloomBuildsCard : Claim7 := { stood := { row := bloomBuildsRow, standIns := [], harness := (true, "e292e5b1723cbb18c6c59aca01f70874139c2f2bb8f0499af3e691678c43e04d"), looks := false }, kinds := [], alts := [], laidByText := true, laidKinds := [.data], laidTests := true, laidLooks := .later }
def BloomBuildsCardSaid : Prop := Claim7.holds Tryd.pinned (.plain (OpenSpec.ofChange bloomBuildsSpec)) bloomBuildsCard

/-- THE TIED CARD OF 'bartizanlaw11.BloomHas'. -/
def bloomHasCard : Claim7 := { stood := { row := bloomHasRow, standIns := [], harness := (true, "e292e5b1723cbb18c6c59aca01f70874139c2f2bb8f0499af3e691678c43e04d"), looks := false }, kinds := [], alts := [], laidByText := true, laidKinds := [.data], laidTests := true, laidLooks := .later }
def BloomHasCardSaid : Prop := Claim7.holds Tryd.pinned (.plain (OpenSpec.ofChange bloomHasSpec)) bloomHasCard

/-- THE TIED CARD OF 'bartizanlaw11.BloomAny'. -/
def bloomAnyCard : Claim7 := { stood := { row := bloomAnyRow, standIns := [], harness := (true, "e292e5b1723cbb18c6c59aca01f70874139c2f2bb8f0499af3e691678c43e04d"), looks := false }, kinds := [], alts := [], laidByText := true, laidKinds := [.data], laidTests := true, laidLooks := .later }
def BloomAnyCardSaid : Prop := Claim7.holds Tryd.pinned (.plain (OpenSpec.ofChange bloomAnySpec)) bloomAnyCard

/-- THE TIED CARD OF 'bartizanlaw11.BloomMore'. -/
def bloomMoreCard : Claim7 := { stood := { row := bloomMoreRow, standIns := [], harness := (true, "e292e5b1723cbb18c6c59aca01f70874139c2f2bb8f0499af3e691678c43e04d"), looks := false }, kinds := [], alts := [], laidByText := true, laidKinds := [.data], laidTests := true, laidLooks := .later }
def BloomMoreCardSaid : Prop := Claim7.holds Tryd.pinned (.plain (OpenSpec.ofChange bloomMoreSpec)) bloomMoreCard

/-- THE SECOND FORM's CARD OF 'bartizanlaw11.BloomBuilds'. -/
def bloomBuildsUptoCard : Claim7 := { stood := { row := bloomBuildsUptoRow, standIns := [], harness := (true, "e292e5b1723cbb18c6c59aca01f70874139c2f2bb8f0499af3e691678c43e04d"), looks := false }, kinds := [], alts := [], laidByText := true, laidKinds := [.data], laidTests := true, laidLooks := .later }
def BloomBuildsUptoCardSaid : Prop := Claim7.holds Tryd.pinned (.plain (OpenSpec.upto bloomBuildsSpec)) bloomBuildsUptoCard

/-- THE SECOND FORM's CARD OF 'bartizanlaw11.BloomHas'. -/
def bloomHasUptoCard : Claim7 := { stood := { row := bloomHasUptoRow, standIns := [], harness := (true, "e292e5b1723cbb18c6c59aca01f70874139c2f2bb8f0499af3e691678c43e04d"), looks := false }, kinds := [], alts := [], laidByText := true, laidKinds := [.data], laidTests := true, laidLooks := .later }
def BloomHasUptoCardSaid : Prop := Claim7.holds Tryd.pinned (.plain (OpenSpec.upto bloomHasSpec)) bloomHasUptoCard

/-- THE SECOND FORM's CARD OF 'bartizanlaw11.BloomAny'. -/
def bloomAnyUptoCard : Claim7 := { stood := { row := bloomAnyUptoRow, standIns := [], harness := (true, "e292e5b1723cbb18c6c59aca01f70874139c2f2bb8f0499af3e691678c43e04d"), looks := false }, kinds := [], alts := [], laidByText := true, laidKinds := [.data], laidTests := true, laidLooks := .later }
def BloomAnyUptoCardSaid : Prop := Claim7.holds Tryd.pinned (.plain (OpenSpec.upto bloomAnySpec)) bloomAnyUptoCard

/-- THE SECOND FORM's CARD OF 'bartizanlaw11.BloomMore'. -/
def bloomMoreUptoCard : Claim7 := { stood := { row := bloomMoreUptoRow, standIns := [], harness := (true, "e292e5b1723cbb18c6c59aca01f70874139c2f2bb8f0499af3e691678c43e04d"), looks := false }, kinds := [], alts := [], laidByText := true, laidKinds := [.data], laidTests := true, laidLooks := .later }
def BloomMoreUptoCardSaid : Prop := Claim7.holds Tryd.pinned (.plain (OpenSpec.upto bloomMoreSpec)) bloomMoreUptoCard
end Rows
end Go.Proofs.YtlonomjepipjlaaDoor
