/-
  DERIVED. GIVEN WITH THE SEED: THE CARDS: each row of YtgmoedoalbmkpaaDoorRows.lean that lists a variable, with what it lists TIED to the program's text (the seventh form; the later family's looks); each row that meets fmt, with fmt's text TOLD by the authors' own Lean function (tested against real Go, not proved from fmt's source: count such statements apart). THE CARD IS WHAT COUNTS. Prove the row's statement (the work); the ties are given (YtgmoedoalbmkpaaDoorTie.lean); close each card by the builder's one call (the guide's Derived/Test/ToyasCard.lean, 'card_holds'). Laid BY PROGRAM, IN A SANDBOX (cutbox-door.mjs). By AI agents, Wed Nov 11 2026. No macro, syntax, notation, axiom, sorry.
-/
import Derived.Test.YtgmoedoalbmkpaaDoorRows
import GoSem.ClaimSeven
namespace Go.Proofs.YtgmoedoalbmkpaaDoor
namespace Rows

/-- THE TIED CARD OF 'bartizanlaw02.SealSums'. -/
def sealSumsCard : Claim7 := { stood := { row := sealSumsRow, standIns := [], harness := (true, "b115dec2c1dee003fb130deae9df5885665fad0561774286c8fb269d8cb8c4b0"), looks := false }, kinds := [], alts := [], laidByText := true, laidKinds := [.data], laidTests := true, laidLooks := .later }
def SealSumsCardSaid : Prop := Claim7.holds Tryd.pinned (.plain (OpenSpec.ofChange sealSumsSpec)) sealSumsCard

/-- THE TIED CARD OF 'bartizanlaw02.SealMasks'. -/
def sealMasksCard : Claim7 := { stood := { row := sealMasksRow, standIns := [], harness := (true, "b115dec2c1dee003fb130deae9df5885665fad0561774286c8fb269d8cb8c4b0"), looks := false }, kinds := [], alts := [], laidByText := true, laidKinds := [.data], laidTests := true, laidLooks := .later }
def SealMasksCardSaid : Prop := Claim7.holds Tryd.pinned (.plain (OpenSpec.ofChange sealMasksSpec)) sealMasksCard

/-- THE TIED CARD OF 'bartizanlaw02.SealCloses'. -/
def sealClosesCard : Claim7 := { stood := { row := sealClosesRow, standIns := [], harness := (true, "b115dec2c1dee003fb130deae9df5885665fad0561774286c8fb269d8cb8c4b0"), looks := false }, kinds := [], alts := [], laidByText := true, laidKinds := [.data], laidTests := true, laidLooks := .later }
def SealClosesCardSaid : Prop := Claim7.holds Tryd.pinned (.plain (OpenSpec.ofChange sealClosesSpec)) sealClosesCard

/-- THE TIED CARD OF 'bartizanlaw02.SealOpens'. -/
def sealOpensCard : Claim7 := { stood := { row := sealOpensRow, standIns := [], harness := (true, "b115dec2c1dee003fb130deae9df5885665fad0561774286c8fb269d8cb8c4b0"), looks := false }, kinds := [], alts := [], laidByText := true, laidKinds := [.data], laidTests := true, laidLooks := .later }
def SealOpensCardSaid : Prop := Claim7.holds Tryd.pinned (.plain (OpenSpec.ofChange sealOpensSpec)) sealOpensCard

/-- THE TIED CARD OF 'bartizanlaw02.SealByte'. -/
def sealByteCard : Claim7 := { stood := { row := sealByteRow, standIns := [], harness := (true, "b115dec2c1dee003fb130deae9df5885665fad0561774286c8fb269d8cb8c4b0"), looks := false }, kinds := [], alts := [], laidByText := true, laidKinds := [.data], laidTests := true, laidLooks := .later }
def SealByteCardSaid : Prop := Claim7.holds Tryd.pinned (.plain (OpenSpec.ofChange sealByteSpec)) sealByteCard

/-- THE TIED CARD OF 'bartizanlaw02.SealApart'. -/
def sealApartCard : Claim7 := { stood := { row := sealApartRow, standIns := [], harness := (true, "b115dec2c1dee003fb130deae9df5885665fad0561774286c8fb269d8cb8c4b0"), looks := false }, kinds := [], alts := [], laidByText := true, laidKinds := [.data], laidTests := true, laidLooks := .later }
def SealApartCardSaid : Prop := Claim7.holds Tryd.pinned (.plain (OpenSpec.ofChange sealApartSpec)) sealApartCard

/-- THE TIED CARD OF 'bartizanlaw02.SealShort'. -/
def sealShortCard : Claim7 := { stood := { row := sealShortRow, standIns := [], harness := (true, "b115dec2c1dee003fb130deae9df5885665fad0561774286c8fb269d8cb8c4b0"), looks := false }, kinds := [], alts := [], laidByText := true, laidKinds := [.data], laidTests := true, laidLooks := .later }
def SealShortCardSaid : Prop := Claim7.holds Tryd.pinned (.plain (OpenSpec.ofChange sealShortSpec)) sealShortCard

/-- THE SECOND FORM's CARD OF 'bartizanlaw02.SealSums'. -/
def sealSumsUptoCard : Claim7 := { stood := { row := sealSumsUptoRow, standIns := [], harness := (true, "b115dec2c1dee003fb130deae9df5885665fad0561774286c8fb269d8cb8c4b0"), looks := false }, kinds := [], alts := [], laidByText := true, laidKinds := [.data], laidTests := true, laidLooks := .later }
def SealSumsUptoCardSaid : Prop := Claim7.holds Tryd.pinned (.plain (OpenSpec.upto sealSumsSpec)) sealSumsUptoCard

/-- THE SECOND FORM's CARD OF 'bartizanlaw02.SealMasks'. -/
def sealMasksUptoCard : Claim7 := { stood := { row := sealMasksUptoRow, standIns := [], harness := (true, "b115dec2c1dee003fb130deae9df5885665fad0561774286c8fb269d8cb8c4b0"), looks := false }, kinds := [], alts := [], laidByText := true, laidKinds := [.data], laidTests := true, laidLooks := .later }
def SealMasksUptoCardSaid : Prop := Claim7.holds Tryd.pinned (.plain (OpenSpec.upto sealMasksSpec)) sealMasksUptoCard

/-- THE SECOND FORM's CARD OF 'bartizanlaw02.SealCloses'. -/
def sealClosesUptoCard : Claim7 := { stood := { row := sealClosesUptoRow, standIns := [], harness := (true, "b115dec2c1dee003fb130deae9df5885665fad0561774286c8fb269d8cb8c4b0"), looks := false }, kinds := [], alts := [], laidByText := true, laidKinds := [.data], laidTests := true, laidLooks := .later }
def SealClosesUptoCardSaid : Prop := Claim7.holds Tryd.pinned (.plain (OpenSpec.upto sealClosesSpec)) sealClosesUptoCard

/-- THE SECOND FORM's CARD OF 'bartizanlaw02.SealOpens'. -/
def sealOpensUptoCard : Claim7 := { stood := { row := sealOpensUptoRow, standIns := [], harness := (true, "b115dec2c1dee003fb130deae9df5885665fad0561774286c8fb269d8cb8c4b0"), looks := false }, kinds := [], alts := [], laidByText := true, laidKinds := [.data], laidTests := true, laidLooks := .later }
def SealOpensUptoCardSaid : Prop := Claim7.holds Tryd.pinned (.plain (OpenSpec.upto sealOpensSpec)) sealOpensUptoCard

/-- THE SECOND FORM's CARD OF 'bartizanlaw02.SealByte'. -/
def sealByteUptoCard : Claim7 := { stood := { row := sealByteUptoRow, standIns := [], harness := (true, "b115dec2c1dee003fb130deae9df5885665fad0561774286c8fb269d8cb8c4b0"), looks := false }, kinds := [], alts := [], laidByText := true, laidKinds := [.data], laidTests := true, laidLooks := .later }
def SealByteUptoCardSaid : Prop := Claim7.holds Tryd.pinned (.plain (OpenSpec.upto sealByteSpec)) sealByteUptoCard

/-- THE SECOND FORM's CARD OF 'bartizanlaw02.SealApart'. -/
def sealApartUptoCard : Claim7 := { stood := { row := sealApartUptoRow, standIns := [], harness := (true, "b115dec2c1dee003fb130deae9df5885665fad0561774286c8fb269d8cb8c4b0"), looks := false }, kinds := [], alts := [], laidByText := true, laidKinds := [.data], laidTests := true, laidLooks := .later }
def SealApartUptoCardSaid : Prop := Claim7.holds Tryd.pinned (.plain (OpenSpec.upto sealApartSpec)) sealApartUptoCard

/-- THE SECOND FORM's CARD OF 'bartizanlaw02.SealShort'. -/
def sealShortUptoCard : Claim7 := { stood := { row := sealShortUptoRow, standIns := [], harness := (true, "b115dec2c1dee003fb130deae9df5885665fad0561774286c8fb269d8cb8c4b0"), looks := false }, kinds := [], alts := [], laidByText := true, laidKinds := [.data], laidTests := true, laidLooks := .later }
def SealShortUptoCardSaid : Prop := Claim7.holds Tryd.pinned (.plain (OpenSpec.upto sealShortSpec)) sealShortUptoCard
end Rows
end Go.Proofs.YtgmoedoalbmkpaaDoor
