/-
  NARROWER THAN 'FOR EVERY INPUT', by the rows' own cells (each row's printed sentence says how): BloomBuilds: laid · BloomHas: laid · BloomAny: laid · BloomMore: laid.
  DERIVED. THE GIVEN ROWS OF THIS SEAT. 4 by the template 'for every input the law returns true; each argument reads behind the call as it read before'; 0 by the template 'total and deterministic' (their statements: YtlonomjepipjlaaDoorTotals.lean).
  GIVEN WITH THE SEED: the statements are not yours to turn. If you find one false, say at which input.
  Laid BY PROGRAM, IN A SANDBOX (cutbox-rows.mjs): the forced cells as the released guide's own fill.sh prints them over the translation 918fe29d5e78ce05… (all of the seat's roots in one cut). By AI agents, Wed Nov 11 2026. No macro, syntax, notation, axiom, sorry.
-/
import Derived.Test.YtlonomjepipjlaaDoorChecked
import GoSem.Claim
import GoSem.ClaimJoined
import GoSem.ClaimMapViews
import Derived.JoinedTies
import Derived.KernelRfl
namespace Go.Proofs.YtlonomjepipjlaaDoor
/- THE CELL 'sum', in the pinned program and in every row, IS THE sha256 OF THE DUMP (.gsa) THAT YtlonomjepipjlaaDoorProg.lean LOADS. Nothing in Lean hashes anything: it is a label: what it is worth is what the hold of that sum in a sandbox is worth. -/
noncomputable def Tryd.pinned : Pinned := { name := "ytlonomjepipjlaadoor", sum := "918fe29d5e78ce0524f787112cef213b7faff98c40f3e7baf6cce775b9a25218", checked := Tryd.checked }
namespace Rows
def none {H : Type} : Left H := { results := [], args := [] }

/- WHAT THE LISTED PACKAGE-LEVEL VARIABLES READ AS WHEN THE CALL BEGINS. Each datum BY PROGRAM (the guide's laid-datum.mjs) off the statement by which the dump's own 'gosem.cut.vars' lays the variable. In a bare row this is a premise. The card (YtlonomjepipjlaaDoorCards.lean) ties it to the program's text. -/
def laid_bartizan_seal_nibbles {H : Type} : DataW H := .agg [.lit (.int .u32 0), .lit (.int .u32 274646895), .lit (.int .u32 549293790), .lit (.int .u32 820201905), .lit (.int .u32 1098587580), .lit (.int .u32 1361435347), .lit (.int .u32 1640403810), .lit (.int .u32 1905808397), .lit (.int .u32 2197175160), .lit (.int .u32 2460548119), .lit (.int .u32 2722870694), .lit (.int .u32 2987750089), .lit (.int .u32 3280807620), .lit (.int .u32 3553878443), .lit (.int .u32 3811616794), .lit (.int .u32 4084100981)]

/-- 'bartizanlaw11.BloomBuilds': WHATEVER THE INPUT: true; the input reads as it did. -/
def bloomBuildsSpec : ChangeSpec := { name := "bloomBuilds", fn := fun _ => fun
  | [d1, d2] => { results := [.lit (.bool true)], args := [d1, d2] }
  | _ => none }
def bloomBuildsRow : OpenClaim := { program := "ytlonomjepipjlaadoor", sum := "918fe29d5e78ce0524f787112cef213b7faff98c40f3e7baf6cce775b9a25218", func := "bartizan/bartizanlaw11.BloomBuilds", spec := "bloomBuilds", unfollowed := true, recurses := true, named := ["bartizan/seal.nibbles"], apart := false, laid := [("bartizan/seal.nibbles", laid_bartizan_seal_nibbles)] }
def BloomBuildsSaid : Prop := bloomBuildsRow.holds Tryd.pinned (OpenSpec.ofChange bloomBuildsSpec)

/-- ITS FALSE NEIGHBOUR: 'it returns false'. Refute it at one input. -/
def bloomBuildsWrong : ChangeSpec := { name := "bloomBuilds", fn := fun _ => fun
  | [d1, d2] => { results := [.lit (.bool false)], args := [d1, d2] }
  | _ => none }
def BloomBuildsWrongFalsely : Prop := bloomBuildsRow.holds Tryd.pinned (OpenSpec.ofChange bloomBuildsWrong)

/-- 'bartizanlaw11.BloomHas': WHATEVER THE INPUT: true; the input reads as it did. -/
def bloomHasSpec : ChangeSpec := { name := "bloomHas", fn := fun _ => fun
  | [d1, d2, d3] => { results := [.lit (.bool true)], args := [d1, d2, d3] }
  | _ => none }
def bloomHasRow : OpenClaim := { program := "ytlonomjepipjlaadoor", sum := "918fe29d5e78ce0524f787112cef213b7faff98c40f3e7baf6cce775b9a25218", func := "bartizan/bartizanlaw11.BloomHas", spec := "bloomHas", unfollowed := true, recurses := true, named := ["bartizan/seal.nibbles"], apart := false, laid := [("bartizan/seal.nibbles", laid_bartizan_seal_nibbles)] }
def BloomHasSaid : Prop := bloomHasRow.holds Tryd.pinned (OpenSpec.ofChange bloomHasSpec)

/-- ITS FALSE NEIGHBOUR: 'it returns false'. Refute it at one input. -/
def bloomHasWrong : ChangeSpec := { name := "bloomHas", fn := fun _ => fun
  | [d1, d2, d3] => { results := [.lit (.bool false)], args := [d1, d2, d3] }
  | _ => none }
def BloomHasWrongFalsely : Prop := bloomHasRow.holds Tryd.pinned (OpenSpec.ofChange bloomHasWrong)

/-- 'bartizanlaw11.BloomAny': WHATEVER THE INPUT: true; the input reads as it did. -/
def bloomAnySpec : ChangeSpec := { name := "bloomAny", fn := fun _ => fun
  | [d1, d2] => { results := [.lit (.bool true)], args := [d1, d2] }
  | _ => none }
def bloomAnyRow : OpenClaim := { program := "ytlonomjepipjlaadoor", sum := "918fe29d5e78ce0524f787112cef213b7faff98c40f3e7baf6cce775b9a25218", func := "bartizan/bartizanlaw11.BloomAny", spec := "bloomAny", unfollowed := true, recurses := true, named := ["bartizan/seal.nibbles"], apart := false, laid := [("bartizan/seal.nibbles", laid_bartizan_seal_nibbles)] }
def BloomAnySaid : Prop := bloomAnyRow.holds Tryd.pinned (OpenSpec.ofChange bloomAnySpec)

/-- ITS FALSE NEIGHBOUR: 'it returns false'. Refute it at one input. -/
def bloomAnyWrong : ChangeSpec := { name := "bloomAny", fn := fun _ => fun
  | [d1, d2] => { results := [.lit (.bool false)], args := [d1, d2] }
  | _ => none }
def BloomAnyWrongFalsely : Prop := bloomAnyRow.holds Tryd.pinned (OpenSpec.ofChange bloomAnyWrong)

/-- 'bartizanlaw11.BloomMore': WHATEVER THE INPUT: true; the input reads as it did. -/
def bloomMoreSpec : ChangeSpec := { name := "bloomMore", fn := fun _ => fun
  | [d1, d2, d3] => { results := [.lit (.bool true)], args := [d1, d2, d3] }
  | _ => none }
def bloomMoreRow : OpenClaim := { program := "ytlonomjepipjlaadoor", sum := "918fe29d5e78ce0524f787112cef213b7faff98c40f3e7baf6cce775b9a25218", func := "bartizan/bartizanlaw11.BloomMore", spec := "bloomMore", unfollowed := true, recurses := true, named := ["bartizan/seal.nibbles"], apart := false, laid := [("bartizan/seal.nibbles", laid_bartizan_seal_nibbles)] }
def BloomMoreSaid : Prop := bloomMoreRow.holds Tryd.pinned (OpenSpec.ofChange bloomMoreSpec)

/-- ITS FALSE NEIGHBOUR: 'it returns false'. Refute it at one input. -/
def bloomMoreWrong : ChangeSpec := { name := "bloomMore", fn := fun _ => fun
  | [d1, d2, d3] => { results := [.lit (.bool false)], args := [d1, d2, d3] }
  | _ => none }
def BloomMoreWrongFalsely : Prop := bloomMoreRow.holds Tryd.pinned (OpenSpec.ofChange bloomMoreWrong)

/- THE SECOND FORM. 'bulk': how many values and letters a reading holds, each counted each time it is reached (what is shared counts as often as it is met; a slice's spare places count too). A statement '..UptoSaid' is the law's where the arguments, and the package variables that the reading takes, are together of bulk at most 1048576: NARROWER than '..Said'. Prove '..Said' where nothing that the law and all that it calls make is longer than what came in: it says more and counts as full. Else prove '..UptoSaid'. A law counts once. -/
mutual
def uptoBulk {H : Type} : DataW H → Nat
  | .lit (.string bytes) => bytes.length + 1
  | .lit _ => 1
  | .nil => 1
  | .ptr d => uptoBulk d + 1
  | .slice elems spare => uptoBulkAll elems + uptoBulkAll spare + 1
  | .agg parts => uptoBulkAll parts + 1
  | .iface _ d => uptoBulk d + 1
  | .map entries => uptoBulkEntries entries + 1
  | .held _ => 1
def uptoBulkAll {H : Type} : List (DataW H) → Nat
  | [] => 0
  | d :: r => uptoBulk d + uptoBulkAll r
def uptoBulkEntries {H : Type} : List (Lit × DataW H) → Nat
  | [] => 0
  | x :: r => uptoBulkEntry x + uptoBulkEntries r
def uptoBulkEntry {H : Type} : Lit × DataW H → Nat
  | (.string bytes, d) => bytes.length + uptoBulk d + 1
  | (_, d) => uptoBulk d + 1
 end
def uptoSmall : (H : Type) → List (DataW H) → Bool := fun _ ds => decide (uptoBulkAll ds ≤ 1048576)
def OpenSpec.upto (s : _root_.Go.ChangeSpec) : _root_.Go.OpenSpec := { _root_.Go.OpenSpec.ofChange s with cond := some uptoSmall }

/-- 'bartizanlaw11.BloomBuilds', WHERE WHAT IT READS IS OF BULK AT MOST 1048576: true; the input reads as it did. -/
def bloomBuildsUptoRow : OpenClaim := { program := "ytlonomjepipjlaadoor", sum := "918fe29d5e78ce0524f787112cef213b7faff98c40f3e7baf6cce775b9a25218", func := "bartizan/bartizanlaw11.BloomBuilds", spec := "bloomBuilds", unfollowed := true, recurses := true, named := ["bartizan/seal.nibbles"], apart := false, laid := [("bartizan/seal.nibbles", laid_bartizan_seal_nibbles)], narrowed := true }
def BloomBuildsUptoSaid : Prop := bloomBuildsUptoRow.holds Tryd.pinned (OpenSpec.upto bloomBuildsSpec)

/-- 'bartizanlaw11.BloomHas', WHERE WHAT IT READS IS OF BULK AT MOST 1048576: true; the input reads as it did. -/
def bloomHasUptoRow : OpenClaim := { program := "ytlonomjepipjlaadoor", sum := "918fe29d5e78ce0524f787112cef213b7faff98c40f3e7baf6cce775b9a25218", func := "bartizan/bartizanlaw11.BloomHas", spec := "bloomHas", unfollowed := true, recurses := true, named := ["bartizan/seal.nibbles"], apart := false, laid := [("bartizan/seal.nibbles", laid_bartizan_seal_nibbles)], narrowed := true }
def BloomHasUptoSaid : Prop := bloomHasUptoRow.holds Tryd.pinned (OpenSpec.upto bloomHasSpec)

/-- 'bartizanlaw11.BloomAny', WHERE WHAT IT READS IS OF BULK AT MOST 1048576: true; the input reads as it did. -/
def bloomAnyUptoRow : OpenClaim := { program := "ytlonomjepipjlaadoor", sum := "918fe29d5e78ce0524f787112cef213b7faff98c40f3e7baf6cce775b9a25218", func := "bartizan/bartizanlaw11.BloomAny", spec := "bloomAny", unfollowed := true, recurses := true, named := ["bartizan/seal.nibbles"], apart := false, laid := [("bartizan/seal.nibbles", laid_bartizan_seal_nibbles)], narrowed := true }
def BloomAnyUptoSaid : Prop := bloomAnyUptoRow.holds Tryd.pinned (OpenSpec.upto bloomAnySpec)

/-- 'bartizanlaw11.BloomMore', WHERE WHAT IT READS IS OF BULK AT MOST 1048576: true; the input reads as it did. -/
def bloomMoreUptoRow : OpenClaim := { program := "ytlonomjepipjlaadoor", sum := "918fe29d5e78ce0524f787112cef213b7faff98c40f3e7baf6cce775b9a25218", func := "bartizan/bartizanlaw11.BloomMore", spec := "bloomMore", unfollowed := true, recurses := true, named := ["bartizan/seal.nibbles"], apart := false, laid := [("bartizan/seal.nibbles", laid_bartizan_seal_nibbles)], narrowed := true }
def BloomMoreUptoSaid : Prop := bloomMoreUptoRow.holds Tryd.pinned (OpenSpec.upto bloomMoreSpec)

end Rows
end Go.Proofs.YtlonomjepipjlaaDoor
