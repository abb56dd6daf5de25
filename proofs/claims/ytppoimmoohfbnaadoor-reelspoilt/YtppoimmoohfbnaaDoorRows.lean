/-
  NARROWER THAN 'FOR EVERY INPUT', by the rows' own cells (each row's printed sentence says how): ReelFrames: laid · ReelReads: laid · ReelBack: laid · ReelCuts: laid · ReelSpoilt: laid · ReelBlocks: laid · ReelLong: laid.
  DERIVED. THE GIVEN ROWS OF THIS SEAT. 7 by the template 'for every input the law returns true; each argument reads behind the call as it read before'; 0 by the template 'total and deterministic' (their statements: YtppoimmoohfbnaaDoorTotals.lean).
  GIVEN WITH THE SEED: the statements are not yours to turn. If you find one false, say at which input.
  Laid BY PROGRAM, IN A SANDBOX (cutbox-rows.mjs): the forced cells as the released guide's own fill.sh prints them over the translation 330f5052e05fa14b… (all of the seat's roots in one cut). By AI agents, Wed Nov 11 2026. No macro, syntax, notation, axiom, sorry.
-/
import Derived.Test.YtppoimmoohfbnaaDoorChecked
import GoSem.Claim
import GoSem.ClaimJoined
import GoSem.ClaimMapViews
import Derived.JoinedTies
import Derived.KernelRfl
namespace Go.Proofs.YtppoimmoohfbnaaDoor
/- THE CELL 'sum', in the pinned program and in every row, IS THE sha256 OF THE DUMP (.gsa) THAT YtppoimmoohfbnaaDoorProg.lean LOADS. Nothing in Lean hashes anything: it is a label: what it is worth is what the hold of that sum in a sandbox is worth. -/
noncomputable def Tryd.pinned : Pinned := { name := "ytppoimmoohfbnaadoor", sum := "330f5052e05fa14b0030e055b68f9ed72a15ec574c1b7f70478c954fa3e09c93", checked := Tryd.checked }
namespace Rows
def none {H : Type} : Left H := { results := [], args := [] }

/- WHAT THE LISTED PACKAGE-LEVEL VARIABLES READ AS WHEN THE CALL BEGINS. Each datum BY PROGRAM (the guide's laid-datum.mjs) off the statement by which the dump's own 'gosem.cut.vars' lays the variable. In a bare row this is a premise. The card (YtppoimmoohfbnaaDoorCards.lean) ties it to the program's text. -/
def laid_bartizan_seal_nibbles {H : Type} : DataW H := .agg [.lit (.int .u32 0), .lit (.int .u32 274646895), .lit (.int .u32 549293790), .lit (.int .u32 820201905), .lit (.int .u32 1098587580), .lit (.int .u32 1361435347), .lit (.int .u32 1640403810), .lit (.int .u32 1905808397), .lit (.int .u32 2197175160), .lit (.int .u32 2460548119), .lit (.int .u32 2722870694), .lit (.int .u32 2987750089), .lit (.int .u32 3280807620), .lit (.int .u32 3553878443), .lit (.int .u32 3811616794), .lit (.int .u32 4084100981)]

/-- 'bartizanlaw06.ReelFrames': WHATEVER THE INPUT: true; the input reads as it did. -/
def reelFramesSpec : ChangeSpec := { name := "reelFrames", fn := fun _ => fun
  | [d1, d2] => { results := [.lit (.bool true)], args := [d1, d2] }
  | _ => none }
def reelFramesRow : OpenClaim := { program := "ytppoimmoohfbnaadoor", sum := "330f5052e05fa14b0030e055b68f9ed72a15ec574c1b7f70478c954fa3e09c93", func := "bartizan/bartizanlaw06.ReelFrames", spec := "reelFrames", named := ["bartizan/seal.nibbles"], apart := false, laid := [("bartizan/seal.nibbles", laid_bartizan_seal_nibbles)] }
def ReelFramesSaid : Prop := reelFramesRow.holds Tryd.pinned (OpenSpec.ofChange reelFramesSpec)

/-- ITS FALSE NEIGHBOUR: 'it returns false'. Refute it at one input. -/
def reelFramesWrong : ChangeSpec := { name := "reelFrames", fn := fun _ => fun
  | [d1, d2] => { results := [.lit (.bool false)], args := [d1, d2] }
  | _ => none }
def ReelFramesWrongFalsely : Prop := reelFramesRow.holds Tryd.pinned (OpenSpec.ofChange reelFramesWrong)

/-- 'bartizanlaw06.ReelReads': WHATEVER THE INPUT: true; the input reads as it did. -/
def reelReadsSpec : ChangeSpec := { name := "reelReads", fn := fun _ => fun
  | [d1, d2] => { results := [.lit (.bool true)], args := [d1, d2] }
  | _ => none }
def reelReadsRow : OpenClaim := { program := "ytppoimmoohfbnaadoor", sum := "330f5052e05fa14b0030e055b68f9ed72a15ec574c1b7f70478c954fa3e09c93", func := "bartizan/bartizanlaw06.ReelReads", spec := "reelReads", named := ["bartizan/seal.nibbles"], apart := false, laid := [("bartizan/seal.nibbles", laid_bartizan_seal_nibbles)] }
def ReelReadsSaid : Prop := reelReadsRow.holds Tryd.pinned (OpenSpec.ofChange reelReadsSpec)

/-- ITS FALSE NEIGHBOUR: 'it returns false'. Refute it at one input. -/
def reelReadsWrong : ChangeSpec := { name := "reelReads", fn := fun _ => fun
  | [d1, d2] => { results := [.lit (.bool false)], args := [d1, d2] }
  | _ => none }
def ReelReadsWrongFalsely : Prop := reelReadsRow.holds Tryd.pinned (OpenSpec.ofChange reelReadsWrong)

/-- 'bartizanlaw06.ReelBack': WHATEVER THE INPUT: true; the input reads as it did. -/
def reelBackSpec : ChangeSpec := { name := "reelBack", fn := fun _ => fun
  | [d] => { results := [.lit (.bool true)], args := [d] }
  | _ => none }
def reelBackRow : OpenClaim := { program := "ytppoimmoohfbnaadoor", sum := "330f5052e05fa14b0030e055b68f9ed72a15ec574c1b7f70478c954fa3e09c93", func := "bartizan/bartizanlaw06.ReelBack", spec := "reelBack", named := ["bartizan/seal.nibbles"], apart := false, laid := [("bartizan/seal.nibbles", laid_bartizan_seal_nibbles)] }
def ReelBackSaid : Prop := reelBackRow.holds Tryd.pinned (OpenSpec.ofChange reelBackSpec)

/-- ITS FALSE NEIGHBOUR: 'it returns false'. Refute it at one input. -/
def reelBackWrong : ChangeSpec := { name := "reelBack", fn := fun _ => fun
  | [d] => { results := [.lit (.bool false)], args := [d] }
  | _ => none }
def ReelBackWrongFalsely : Prop := reelBackRow.holds Tryd.pinned (OpenSpec.ofChange reelBackWrong)

/-- 'bartizanlaw06.ReelCuts': WHATEVER THE INPUT: true; the input reads as it did. -/
def reelCutsSpec : ChangeSpec := { name := "reelCuts", fn := fun _ => fun
  | [d1, d2, d3] => { results := [.lit (.bool true)], args := [d1, d2, d3] }
  | _ => none }
def reelCutsRow : OpenClaim := { program := "ytppoimmoohfbnaadoor", sum := "330f5052e05fa14b0030e055b68f9ed72a15ec574c1b7f70478c954fa3e09c93", func := "bartizan/bartizanlaw06.ReelCuts", spec := "reelCuts", named := ["bartizan/seal.nibbles"], apart := false, laid := [("bartizan/seal.nibbles", laid_bartizan_seal_nibbles)] }
def ReelCutsSaid : Prop := reelCutsRow.holds Tryd.pinned (OpenSpec.ofChange reelCutsSpec)

/-- ITS FALSE NEIGHBOUR: 'it returns false'. Refute it at one input. -/
def reelCutsWrong : ChangeSpec := { name := "reelCuts", fn := fun _ => fun
  | [d1, d2, d3] => { results := [.lit (.bool false)], args := [d1, d2, d3] }
  | _ => none }
def ReelCutsWrongFalsely : Prop := reelCutsRow.holds Tryd.pinned (OpenSpec.ofChange reelCutsWrong)

/-- 'bartizanlaw06.ReelSpoilt': WHATEVER THE INPUT: true; the input reads as it did. -/
def reelSpoiltSpec : ChangeSpec := { name := "reelSpoilt", fn := fun _ => fun
  | [d1, d2, d3] => { results := [.lit (.bool true)], args := [d1, d2, d3] }
  | _ => none }
def reelSpoiltRow : OpenClaim := { program := "ytppoimmoohfbnaadoor", sum := "330f5052e05fa14b0030e055b68f9ed72a15ec574c1b7f70478c954fa3e09c93", func := "bartizan/bartizanlaw06.ReelSpoilt", spec := "reelSpoilt", named := ["bartizan/seal.nibbles"], apart := false, laid := [("bartizan/seal.nibbles", laid_bartizan_seal_nibbles)] }
def ReelSpoiltSaid : Prop := reelSpoiltRow.holds Tryd.pinned (OpenSpec.ofChange reelSpoiltSpec)

/-- ITS FALSE NEIGHBOUR: 'it returns false'. Refute it at one input. -/
def reelSpoiltWrong : ChangeSpec := { name := "reelSpoilt", fn := fun _ => fun
  | [d1, d2, d3] => { results := [.lit (.bool false)], args := [d1, d2, d3] }
  | _ => none }
def ReelSpoiltWrongFalsely : Prop := reelSpoiltRow.holds Tryd.pinned (OpenSpec.ofChange reelSpoiltWrong)

/-- 'bartizanlaw06.ReelBlocks': WHATEVER THE INPUT: true; the input reads as it did. -/
def reelBlocksSpec : ChangeSpec := { name := "reelBlocks", fn := fun _ => fun
  | [d] => { results := [.lit (.bool true)], args := [d] }
  | _ => none }
def reelBlocksRow : OpenClaim := { program := "ytppoimmoohfbnaadoor", sum := "330f5052e05fa14b0030e055b68f9ed72a15ec574c1b7f70478c954fa3e09c93", func := "bartizan/bartizanlaw06.ReelBlocks", spec := "reelBlocks", named := ["bartizan/seal.nibbles"], apart := false, laid := [("bartizan/seal.nibbles", laid_bartizan_seal_nibbles)] }
def ReelBlocksSaid : Prop := reelBlocksRow.holds Tryd.pinned (OpenSpec.ofChange reelBlocksSpec)

/-- ITS FALSE NEIGHBOUR: 'it returns false'. Refute it at one input. -/
def reelBlocksWrong : ChangeSpec := { name := "reelBlocks", fn := fun _ => fun
  | [d] => { results := [.lit (.bool false)], args := [d] }
  | _ => none }
def ReelBlocksWrongFalsely : Prop := reelBlocksRow.holds Tryd.pinned (OpenSpec.ofChange reelBlocksWrong)

/-- 'bartizanlaw06.ReelLong': WHATEVER THE INPUT: true; the input reads as it did. -/
def reelLongSpec : ChangeSpec := { name := "reelLong", fn := fun _ => fun
  | [d] => { results := [.lit (.bool true)], args := [d] }
  | _ => none }
def reelLongRow : OpenClaim := { program := "ytppoimmoohfbnaadoor", sum := "330f5052e05fa14b0030e055b68f9ed72a15ec574c1b7f70478c954fa3e09c93", func := "bartizan/bartizanlaw06.ReelLong", spec := "reelLong", named := ["bartizan/seal.nibbles"], apart := false, laid := [("bartizan/seal.nibbles", laid_bartizan_seal_nibbles)] }
def ReelLongSaid : Prop := reelLongRow.holds Tryd.pinned (OpenSpec.ofChange reelLongSpec)

/-- ITS FALSE NEIGHBOUR: 'it returns false'. Refute it at one input. -/
def reelLongWrong : ChangeSpec := { name := "reelLong", fn := fun _ => fun
  | [d] => { results := [.lit (.bool false)], args := [d] }
  | _ => none }
def ReelLongWrongFalsely : Prop := reelLongRow.holds Tryd.pinned (OpenSpec.ofChange reelLongWrong)

/- THE SECOND FORM. 'bulk': how many values and letters a reading holds, each counted each time it is reached (what is shared counts as often as it is met; a slice's spare places count too). A statement '..UptoSaid' is the law's where the arguments, and the package variables that the reading takes, are together of bulk at most 1048576: NARROWER than '..Said'. Prove '..Said' where nothing that the law and all that it calls make is longer than what came in: it says more and counts as full. Else prove '..UptoSaid'. A law counts once. -/
mutual
def uptoBulk {H : Type} : DataW H → Nat
  | .lit (.string bytes) => bytes.length + 1
  | .lit _ => 1
  | .nil => 1
  | .ptr d => uptoBulk d + 1
  | .slice elems spare => uptoBulkAll elems + uptoBulkAll spare + 1
  | .agg parts => uptoBulkAll parts + 1
  | .iface _ d => uptoBulk d + 1
  | .map entries => uptoBulkEntries entries + 1
  | .held _ => 1
def uptoBulkAll {H : Type} : List (DataW H) → Nat
  | [] => 0
  | d :: r => uptoBulk d + uptoBulkAll r
def uptoBulkEntries {H : Type} : List (Lit × DataW H) → Nat
  | [] => 0
  | x :: r => uptoBulkEntry x + uptoBulkEntries r
def uptoBulkEntry {H : Type} : Lit × DataW H → Nat
  | (.string bytes, d) => bytes.length + uptoBulk d + 1
  | (_, d) => uptoBulk d + 1
 end
def uptoSmall : (H : Type) → List (DataW H) → Bool := fun _ ds => decide (uptoBulkAll ds ≤ 1048576)
def OpenSpec.upto (s : _root_.Go.ChangeSpec) : _root_.Go.OpenSpec := { _root_.Go.OpenSpec.ofChange s with cond := some uptoSmall }

/-- 'bartizanlaw06.ReelFrames', WHERE WHAT IT READS IS OF BULK AT MOST 1048576: true; the input reads as it did. -/
def reelFramesUptoRow : OpenClaim := { program := "ytppoimmoohfbnaadoor", sum := "330f5052e05fa14b0030e055b68f9ed72a15ec574c1b7f70478c954fa3e09c93", func := "bartizan/bartizanlaw06.ReelFrames", spec := "reelFrames", named := ["bartizan/seal.nibbles"], apart := false, laid := [("bartizan/seal.nibbles", laid_bartizan_seal_nibbles)], narrowed := true }
def ReelFramesUptoSaid : Prop := reelFramesUptoRow.holds Tryd.pinned (OpenSpec.upto reelFramesSpec)

/-- 'bartizanlaw06.ReelReads', WHERE WHAT IT READS IS OF BULK AT MOST 1048576: true; the input reads as it did. -/
def reelReadsUptoRow : OpenClaim := { program := "ytppoimmoohfbnaadoor", sum := "330f5052e05fa14b0030e055b68f9ed72a15ec574c1b7f70478c954fa3e09c93", func := "bartizan/bartizanlaw06.ReelReads", spec := "reelReads", named := ["bartizan/seal.nibbles"], apart := false, laid := [("bartizan/seal.nibbles", laid_bartizan_seal_nibbles)], narrowed := true }
def ReelReadsUptoSaid : Prop := reelReadsUptoRow.holds Tryd.pinned (OpenSpec.upto reelReadsSpec)

/-- 'bartizanlaw06.ReelBack', WHERE WHAT IT READS IS OF BULK AT MOST 1048576: true; the input reads as it did. -/
def reelBackUptoRow : OpenClaim := { program := "ytppoimmoohfbnaadoor", sum := "330f5052e05fa14b0030e055b68f9ed72a15ec574c1b7f70478c954fa3e09c93", func := "bartizan/bartizanlaw06.ReelBack", spec := "reelBack", named := ["bartizan/seal.nibbles"], apart := false, laid := [("bartizan/seal.nibbles", laid_bartizan_seal_nibbles)], narrowed := true }
def ReelBackUptoSaid : Prop := reelBackUptoRow.holds Tryd.pinned (OpenSpec.upto reelBackSpec)

/-- 'bartizanlaw06.ReelCuts', WHERE WHAT IT READS IS OF BULK AT MOST 1048576: true; the input reads as it did. -/
def reelCutsUptoRow : OpenClaim := { program := "ytppoimmoohfbnaadoor", sum := "330f5052e05fa14b0030e055b68f9ed72a15ec574c1b7f70478c954fa3e09c93", func := "bartizan/bartizanlaw06.ReelCuts", spec := "reelCuts", named := ["bartizan/seal.nibbles"], apart := false, laid := [("bartizan/seal.nibbles", laid_bartizan_seal_nibbles)], narrowed := true }
def ReelCutsUptoSaid : Prop := reelCutsUptoRow.holds Tryd.pinned (OpenSpec.upto reelCutsSpec)

/-- 'bartizanlaw06.ReelSpoilt', WHERE WHAT IT READS IS OF BULK AT MOST 1048576: true; the input reads as it did. -/
def reelSpoiltUptoRow : OpenClaim := { program := "ytppoimmoohfbnaadoor", sum := "330f5052e05fa14b0030e055b68f9ed72a15ec574c1b7f70478c954fa3e09c93", func := "bartizan/bartizanlaw06.ReelSpoilt", spec := "reelSpoilt", named := ["bartizan/seal.nibbles"], apart := false, laid := [("bartizan/seal.nibbles", laid_bartizan_seal_nibbles)], narrowed := true }
def ReelSpoiltUptoSaid : Prop := reelSpoiltUptoRow.holds Tryd.pinned (OpenSpec.upto reelSpoiltSpec)

/-- 'bartizanlaw06.ReelBlocks', WHERE WHAT IT READS IS OF BULK AT MOST 1048576: true; the input reads as it did. -/
def reelBlocksUptoRow : OpenClaim := { program := "ytppoimmoohfbnaadoor", sum := "330f5052e05fa14b0030e055b68f9ed72a15ec574c1b7f70478c954fa3e09c93", func := "bartizan/bartizanlaw06.ReelBlocks", spec := "reelBlocks", named := ["bartizan/seal.nibbles"], apart := false, laid := [("bartizan/seal.nibbles", laid_bartizan_seal_nibbles)], narrowed := true }
def ReelBlocksUptoSaid : Prop := reelBlocksUptoRow.holds Tryd.pinned (OpenSpec.upto reelBlocksSpec)

/-- 'bartizanlaw06.ReelLong', WHERE WHAT IT READS IS OF BULK AT MOST 1048576: true; the input reads as it did. -/
def reelLongUptoRow : OpenClaim := { program := "ytppoimmoohfbnaadoor", sum := "330f5052e05fa14b0030e055b68f9ed72a15ec574c1b7f70478c954fa3e09c93", func := "bartizan/bartizanlaw06.ReelLong", spec := "reelLong", named := ["bartizan/seal.nibbles"], apart := false, laid := [("bartizan/seal.nibbles", laid_bartizan_seal_nibbles)], narrowed := true }
def ReelLongUptoSaid : Prop := reelLongUptoRow.holds Tryd.pinned (OpenSpec.upto reelLongSpec)

end Rows
end Go.Proofs.YtppoimmoohfbnaaDoor
