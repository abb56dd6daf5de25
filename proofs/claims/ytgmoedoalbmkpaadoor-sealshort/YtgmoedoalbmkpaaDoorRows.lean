/-
  NARROWER THAN 'FOR EVERY INPUT', by the rows' own cells (each row's printed sentence says how): SealSums: laid · SealMasks: laid · SealCloses: laid · SealOpens: laid · SealByte: laid · SealApart: laid · SealShort: laid.
  DERIVED. THE GIVEN ROWS OF THIS SEAT. 7 by the template 'for every input the law returns true; each argument reads behind the call as it read before'; 0 by the template 'total and deterministic' (their statements: YtgmoedoalbmkpaaDoorTotals.lean).
  GIVEN WITH THE SEED: the statements are not yours to turn. If you find one false, say at which input.
  Laid BY PROGRAM, IN A SANDBOX (cutbox-rows.mjs): the forced cells as the released guide's own fill.sh prints them over the translation 80d6f1cf0ab6b9e7… (all of the seat's roots in one cut). By AI agents, Wed Nov 11 2026. No macro, syntax, notation, axiom, sorry.
-/
import Derived.Test.YtgmoedoalbmkpaaDoorChecked
import GoSem.Claim
import GoSem.ClaimJoined
import GoSem.ClaimMapViews
import Derived.JoinedTies
import Derived.KernelRfl
namespace Go.Proofs.YtgmoedoalbmkpaaDoor
/- THE CELL 'sum', in the pinned program and in every row, IS THE sha256 OF THE DUMP (.gsa) THAT YtgmoedoalbmkpaaDoorProg.lean LOADS. Nothing in Lean hashes anything: it is a label: what it is worth is what the hold of that sum in a sandbox is worth. -/
noncomputable def Tryd.pinned : Pinned := { name := "ytgmoedoalbmkpaadoor", sum := "80d6f1cf0ab6b9e7fc282963d499b7f041d81f7afcde54f2117ccbc00edef98b", checked := Tryd.checked }
namespace Rows
def none {H : Type} : Left H := { results := [], args := [] }

/- WHAT THE LISTED PACKAGE-LEVEL VARIABLES READ AS WHEN THE CALL BEGINS. Each datum BY PROGRAM (the guide's laid-datum.mjs) off the statement by which the dump's own 'gosem.cut.vars' lays the variable. In a bare row this is a premise. The card (YtgmoedoalbmkpaaDoorCards.lean) ties it to the program's text. -/
def laid_bartizan_seal_nibbles {H : Type} : DataW H := .agg [.lit (.int .u32 0), .lit (.int .u32 274646895), .lit (.int .u32 549293790), .lit (.int .u32 820201905), .lit (.int .u32 1098587580), .lit (.int .u32 1361435347), .lit (.int .u32 1640403810), .lit (.int .u32 1905808397), .lit (.int .u32 2197175160), .lit (.int .u32 2460548119), .lit (.int .u32 2722870694), .lit (.int .u32 2987750089), .lit (.int .u32 3280807620), .lit (.int .u32 3553878443), .lit (.int .u32 3811616794), .lit (.int .u32 4084100981)]

/-- 'bartizanlaw02.SealSums': WHATEVER THE INPUT: true; the input reads as it did. -/
def sealSumsSpec : ChangeSpec := { name := "sealSums", fn := fun _ => fun
  | [d] => { results := [.lit (.bool true)], args := [d] }
  | _ => none }
def sealSumsRow : OpenClaim := { program := "ytgmoedoalbmkpaadoor", sum := "80d6f1cf0ab6b9e7fc282963d499b7f041d81f7afcde54f2117ccbc00edef98b", func := "bartizan/bartizanlaw02.SealSums", spec := "sealSums", named := ["bartizan/seal.nibbles"], apart := false, laid := [("bartizan/seal.nibbles", laid_bartizan_seal_nibbles)] }
def SealSumsSaid : Prop := sealSumsRow.holds Tryd.pinned (OpenSpec.ofChange sealSumsSpec)

/-- ITS FALSE NEIGHBOUR: 'it returns false'. Refute it at one input. -/
def sealSumsWrong : ChangeSpec := { name := "sealSums", fn := fun _ => fun
  | [d] => { results := [.lit (.bool false)], args := [d] }
  | _ => none }
def SealSumsWrongFalsely : Prop := sealSumsRow.holds Tryd.pinned (OpenSpec.ofChange sealSumsWrong)

/-- 'bartizanlaw02.SealMasks': WHATEVER THE INPUT: true; the input reads as it did. -/
def sealMasksSpec : ChangeSpec := { name := "sealMasks", fn := fun _ => fun
  | [d] => { results := [.lit (.bool true)], args := [d] }
  | _ => none }
def sealMasksRow : OpenClaim := { program := "ytgmoedoalbmkpaadoor", sum := "80d6f1cf0ab6b9e7fc282963d499b7f041d81f7afcde54f2117ccbc00edef98b", func := "bartizan/bartizanlaw02.SealMasks", spec := "sealMasks", named := ["bartizan/seal.nibbles"], apart := false, laid := [("bartizan/seal.nibbles", laid_bartizan_seal_nibbles)] }
def SealMasksSaid : Prop := sealMasksRow.holds Tryd.pinned (OpenSpec.ofChange sealMasksSpec)

/-- ITS FALSE NEIGHBOUR: 'it returns false'. Refute it at one input. -/
def sealMasksWrong : ChangeSpec := { name := "sealMasks", fn := fun _ => fun
  | [d] => { results := [.lit (.bool false)], args := [d] }
  | _ => none }
def SealMasksWrongFalsely : Prop := sealMasksRow.holds Tryd.pinned (OpenSpec.ofChange sealMasksWrong)

/-- 'bartizanlaw02.SealCloses': WHATEVER THE INPUT: true; the input reads as it did. -/
def sealClosesSpec : ChangeSpec := { name := "sealCloses", fn := fun _ => fun
  | [d] => { results := [.lit (.bool true)], args := [d] }
  | _ => none }
def sealClosesRow : OpenClaim := { program := "ytgmoedoalbmkpaadoor", sum := "80d6f1cf0ab6b9e7fc282963d499b7f041d81f7afcde54f2117ccbc00edef98b", func := "bartizan/bartizanlaw02.SealCloses", spec := "sealCloses", named := ["bartizan/seal.nibbles"], apart := false, laid := [("bartizan/seal.nibbles", laid_bartizan_seal_nibbles)] }
def SealClosesSaid : Prop := sealClosesRow.holds Tryd.pinned (OpenSpec.ofChange sealClosesSpec)

/-- ITS FALSE NEIGHBOUR: 'it returns false'. Refute it at one input. -/
def sealClosesWrong : ChangeSpec := { name := "sealCloses", fn := fun _ => fun
  | [d] => { results := [.lit (.bool false)], args := [d] }
  | _ => none }
def SealClosesWrongFalsely : Prop := sealClosesRow.holds Tryd.pinned (OpenSpec.ofChange sealClosesWrong)

/-- 'bartizanlaw02.SealOpens': WHATEVER THE INPUT: true; the input reads as it did. -/
def sealOpensSpec : ChangeSpec := { name := "sealOpens", fn := fun _ => fun
  | [d] => { results := [.lit (.bool true)], args := [d] }
  | _ => none }
def sealOpensRow : OpenClaim := { program := "ytgmoedoalbmkpaadoor", sum := "80d6f1cf0ab6b9e7fc282963d499b7f041d81f7afcde54f2117ccbc00edef98b", func := "bartizan/bartizanlaw02.SealOpens", spec := "sealOpens", named := ["bartizan/seal.nibbles"], apart := false, laid := [("bartizan/seal.nibbles", laid_bartizan_seal_nibbles)] }
def SealOpensSaid : Prop := sealOpensRow.holds Tryd.pinned (OpenSpec.ofChange sealOpensSpec)

/-- ITS FALSE NEIGHBOUR: 'it returns false'. Refute it at one input. -/
def sealOpensWrong : ChangeSpec := { name := "sealOpens", fn := fun _ => fun
  | [d] => { results := [.lit (.bool false)], args := [d] }
  | _ => none }
def SealOpensWrongFalsely : Prop := sealOpensRow.holds Tryd.pinned (OpenSpec.ofChange sealOpensWrong)

/-- 'bartizanlaw02.SealByte': WHATEVER THE INPUT: true; the input reads as it did. -/
def sealByteSpec : ChangeSpec := { name := "sealByte", fn := fun _ => fun
  | [d1, d2, d3] => { results := [.lit (.bool true)], args := [d1, d2, d3] }
  | _ => none }
def sealByteRow : OpenClaim := { program := "ytgmoedoalbmkpaadoor", sum := "80d6f1cf0ab6b9e7fc282963d499b7f041d81f7afcde54f2117ccbc00edef98b", func := "bartizan/bartizanlaw02.SealByte", spec := "sealByte", named := ["bartizan/seal.nibbles"], apart := false, laid := [("bartizan/seal.nibbles", laid_bartizan_seal_nibbles)] }
def SealByteSaid : Prop := sealByteRow.holds Tryd.pinned (OpenSpec.ofChange sealByteSpec)

/-- ITS FALSE NEIGHBOUR: 'it returns false'. Refute it at one input. -/
def sealByteWrong : ChangeSpec := { name := "sealByte", fn := fun _ => fun
  | [d1, d2, d3] => { results := [.lit (.bool false)], args := [d1, d2, d3] }
  | _ => none }
def SealByteWrongFalsely : Prop := sealByteRow.holds Tryd.pinned (OpenSpec.ofChange sealByteWrong)

/-- 'bartizanlaw02.SealApart': WHATEVER THE INPUT: true; the input reads as it did. -/
def sealApartSpec : ChangeSpec := { name := "sealApart", fn := fun _ => fun
  | [d1, d2, d3] => { results := [.lit (.bool true)], args := [d1, d2, d3] }
  | _ => none }
def sealApartRow : OpenClaim := { program := "ytgmoedoalbmkpaadoor", sum := "80d6f1cf0ab6b9e7fc282963d499b7f041d81f7afcde54f2117ccbc00edef98b", func := "bartizan/bartizanlaw02.SealApart", spec := "sealApart", named := ["bartizan/seal.nibbles"], apart := false, laid := [("bartizan/seal.nibbles", laid_bartizan_seal_nibbles)] }
def SealApartSaid : Prop := sealApartRow.holds Tryd.pinned (OpenSpec.ofChange sealApartSpec)

/-- ITS FALSE NEIGHBOUR: 'it returns false'. Refute it at one input. -/
def sealApartWrong : ChangeSpec := { name := "sealApart", fn := fun _ => fun
  | [d1, d2, d3] => { results := [.lit (.bool false)], args := [d1, d2, d3] }
  | _ => none }
def SealApartWrongFalsely : Prop := sealApartRow.holds Tryd.pinned (OpenSpec.ofChange sealApartWrong)

/-- 'bartizanlaw02.SealShort': WHATEVER THE INPUT: true; the input reads as it did. -/
def sealShortSpec : ChangeSpec := { name := "sealShort", fn := fun _ => fun
  | [d] => { results := [.lit (.bool true)], args := [d] }
  | _ => none }
def sealShortRow : OpenClaim := { program := "ytgmoedoalbmkpaadoor", sum := "80d6f1cf0ab6b9e7fc282963d499b7f041d81f7afcde54f2117ccbc00edef98b", func := "bartizan/bartizanlaw02.SealShort", spec := "sealShort", named := ["bartizan/seal.nibbles"], apart := false, laid := [("bartizan/seal.nibbles", laid_bartizan_seal_nibbles)] }
def SealShortSaid : Prop := sealShortRow.holds Tryd.pinned (OpenSpec.ofChange sealShortSpec)

/-- ITS FALSE NEIGHBOUR: 'it returns false'. Refute it at one input. -/
def sealShortWrong : ChangeSpec := { name := "sealShort", fn := fun _ => fun
  | [d] => { results := [.lit (.bool false)], args := [d] }
  | _ => none }
def SealShortWrongFalsely : Prop := sealShortRow.holds Tryd.pinned (OpenSpec.ofChange sealShortWrong)

/- THE SECOND FORM. 'bulk': how many values and letters a reading holds, each counted each time it is reached (what is shared counts as often as it is met; a slice's spare places count too). A statement '..UptoSaid' is the law's where the arguments, and the package variables that the reading takes, are together of bulk at most 1048576: NARROWER than '..Said'. Prove '..Said' where nothing that the law and all that it calls make is longer than what came in: it says more and counts as full. Else prove '..UptoSaid'. A law counts once. -/
mutual
def uptoBulk {H : Type} : DataW H → Nat
  | .lit (.string bytes) => bytes.length + 1
  | .lit _ => 1
  | .nil => 1
  | .ptr d => uptoBulk d + 1
  | .slice elems spare => uptoBulkAll elems + uptoBulkAll spare + 1
  | .agg parts => uptoBulkAll parts + 1
  | .iface _ d => uptoBulk d + 1
  | .map entries => uptoBulkEntries entries + 1
  | .held _ => 1
def uptoBulkAll {H : Type} : List (DataW H) → Nat
  | [] => 0
  | d :: r => uptoBulk d + uptoBulkAll r
def uptoBulkEntries {H : Type} : List (Lit × DataW H) → Nat
  | [] => 0
  | x :: r => uptoBulkEntry x + uptoBulkEntries r
def uptoBulkEntry {H : Type} : Lit × DataW H → Nat
  | (.string bytes, d) => bytes.length + uptoBulk d + 1
  | (_, d) => uptoBulk d + 1
 end
def uptoSmall : (H : Type) → List (DataW H) → Bool := fun _ ds => decide (uptoBulkAll ds ≤ 1048576)
def OpenSpec.upto (s : _root_.Go.ChangeSpec) : _root_.Go.OpenSpec := { _root_.Go.OpenSpec.ofChange s with cond := some uptoSmall }

/-- 'bartizanlaw02.SealSums', WHERE WHAT IT READS IS OF BULK AT MOST 1048576: true; the input reads as it did. -/
def sealSumsUptoRow : OpenClaim := { program := "ytgmoedoalbmkpaadoor", sum := "80d6f1cf0ab6b9e7fc282963d499b7f041d81f7afcde54f2117ccbc00edef98b", func := "bartizan/bartizanlaw02.SealSums", spec := "sealSums", named := ["bartizan/seal.nibbles"], apart := false, laid := [("bartizan/seal.nibbles", laid_bartizan_seal_nibbles)], narrowed := true }
def SealSumsUptoSaid : Prop := sealSumsUptoRow.holds Tryd.pinned (OpenSpec.upto sealSumsSpec)

/-- 'bartizanlaw02.SealMasks', WHERE WHAT IT READS IS OF BULK AT MOST 1048576: true; the input reads as it did. -/
def sealMasksUptoRow : OpenClaim := { program := "ytgmoedoalbmkpaadoor", sum := "80d6f1cf0ab6b9e7fc282963d499b7f041d81f7afcde54f2117ccbc00edef98b", func := "bartizan/bartizanlaw02.SealMasks", spec := "sealMasks", named := ["bartizan/seal.nibbles"], apart := false, laid := [("bartizan/seal.nibbles", laid_bartizan_seal_nibbles)], narrowed := true }
def SealMasksUptoSaid : Prop := sealMasksUptoRow.holds Tryd.pinned (OpenSpec.upto sealMasksSpec)

/-- 'bartizanlaw02.SealCloses', WHERE WHAT IT READS IS OF BULK AT MOST 1048576: true; the input reads as it did. -/
def sealClosesUptoRow : OpenClaim := { program := "ytgmoedoalbmkpaadoor", sum := "80d6f1cf0ab6b9e7fc282963d499b7f041d81f7afcde54f2117ccbc00edef98b", func := "bartizan/bartizanlaw02.SealCloses", spec := "sealCloses", named := ["bartizan/seal.nibbles"], apart := false, laid := [("bartizan/seal.nibbles", laid_bartizan_seal_nibbles)], narrowed := true }
def SealClosesUptoSaid : Prop := sealClosesUptoRow.holds Tryd.pinned (OpenSpec.upto sealClosesSpec)

/-- 'bartizanlaw02.SealOpens', WHERE WHAT IT READS IS OF BULK AT MOST 1048576: true; the input reads as it did. -/
def sealOpensUptoRow : OpenClaim := { program := "ytgmoedoalbmkpaadoor", sum := "80d6f1cf0ab6b9e7fc282963d499b7f041d81f7afcde54f2117ccbc00edef98b", func := "bartizan/bartizanlaw02.SealOpens", spec := "sealOpens", named := ["bartizan/seal.nibbles"], apart := false, laid := [("bartizan/seal.nibbles", laid_bartizan_seal_nibbles)], narrowed := true }
def SealOpensUptoSaid : Prop := sealOpensUptoRow.holds Tryd.pinned (OpenSpec.upto sealOpensSpec)

/-- 'bartizanlaw02.SealByte', WHERE WHAT IT READS IS OF BULK AT MOST 1048576: true; the input reads as it did. -/
def sealByteUptoRow : OpenClaim := { program := "ytgmoedoalbmkpaadoor", sum := "80d6f1cf0ab6b9e7fc282963d499b7f041d81f7afcde54f2117ccbc00edef98b", func := "bartizan/bartizanlaw02.SealByte", spec := "sealByte", named := ["bartizan/seal.nibbles"], apart := false, laid := [("bartizan/seal.nibbles", laid_bartizan_seal_nibbles)], narrowed := true }
def SealByteUptoSaid : Prop := sealByteUptoRow.holds Tryd.pinned (OpenSpec.upto sealByteSpec)

/-- 'bartizanlaw02.SealApart', WHERE WHAT IT READS IS OF BULK AT MOST 1048576: true; the input reads as it did. -/
def sealApartUptoRow : OpenClaim := { program := "ytgmoedoalbmkpaadoor", sum := "80d6f1cf0ab6b9e7fc282963d499b7f041d81f7afcde54f2117ccbc00edef98b", func := "bartizan/bartizanlaw02.SealApart", spec := "sealApart", named := ["bartizan/seal.nibbles"], apart := false, laid := [("bartizan/seal.nibbles", laid_bartizan_seal_nibbles)], narrowed := true }
def SealApartUptoSaid : Prop := sealApartUptoRow.holds Tryd.pinned (OpenSpec.upto sealApartSpec)

/-- 'bartizanlaw02.SealShort', WHERE WHAT IT READS IS OF BULK AT MOST 1048576: true; the input reads as it did. -/
def sealShortUptoRow : OpenClaim := { program := "ytgmoedoalbmkpaadoor", sum := "80d6f1cf0ab6b9e7fc282963d499b7f041d81f7afcde54f2117ccbc00edef98b", func := "bartizan/bartizanlaw02.SealShort", spec := "sealShort", named := ["bartizan/seal.nibbles"], apart := false, laid := [("bartizan/seal.nibbles", laid_bartizan_seal_nibbles)], narrowed := true }
def SealShortUptoSaid : Prop := sealShortUptoRow.holds Tryd.pinned (OpenSpec.upto sealShortSpec)

end Rows
end Go.Proofs.YtgmoedoalbmkpaaDoor
