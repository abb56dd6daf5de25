/-
  No cell of these rows narrows 'for every input' (looked for: loops, veiled, ifaces, maps, wideKeys, modest, calm, conditions, laid).
  DERIVED. THE GIVEN ROWS OF THIS SEAT. 7 by the template 'for every input the law returns true; each argument reads behind the call as it read before'; 0 by the template 'total and deterministic' (their statements: YtlkfdiiapcipoaaTotals.lean).
  GIVEN WITH THE SEED: the statements are not yours to turn. If you find one false, say at which input.
  Laid BY PROGRAM, IN A SANDBOX (cutbox-rows.mjs): the forced cells as the released guide's own fill.sh prints them over the translation f8cb5a39efb1444e… (all of the seat's roots in one cut). By AI agents, Wed Nov 11 2026. No macro, syntax, notation, axiom, sorry.
-/
import Derived.Test.YtlkfdiiapcipoaaChecked
import GoSem.Claim
import GoSem.ClaimJoined
import GoSem.ClaimMapViews
import Derived.JoinedTies
import Derived.KernelRfl
namespace Go.Proofs.Ytlkfdiiapcipoaa
/- THE CELL 'sum', in the pinned program and in every row, IS THE sha256 OF THE DUMP (.gsa) THAT YtlkfdiiapcipoaaProg.lean LOADS. Nothing in Lean hashes anything: it is a label: what it is worth is what the hold of that sum in a sandbox is worth. -/
noncomputable def Try.pinned : Pinned := { name := "ytlkfdiiapcipoaa", sum := "f8cb5a39efb1444ef4932cacbeba98c96a344231fae7ec291f33f4367a24288b", checked := Try.checked }
namespace Rows
def none {H : Type} : Left H := { results := [], args := [] }

/-- 'bartizanlaw04.BatchChecks': WHATEVER THE INPUT: true; the input reads as it did. -/
def batchChecksSpec : ChangeSpec := { name := "batchChecks", fn := fun _ => fun
  | [d] => { results := [.lit (.bool true)], args := [d] }
  | _ => none }
def batchChecksRow : OpenClaim := { program := "ytlkfdiiapcipoaa", sum := "f8cb5a39efb1444ef4932cacbeba98c96a344231fae7ec291f33f4367a24288b", func := "bartizan/bartizanlaw04.BatchChecks", spec := "batchChecks", inPlace := ["internal/bytealg.Compare"], apart := false }
def BatchChecksSaid : Prop := batchChecksRow.holds Try.pinned (OpenSpec.ofChange batchChecksSpec)

/-- ITS FALSE NEIGHBOUR: 'it returns false'. Refute it at one input. -/
def batchChecksWrong : ChangeSpec := { name := "batchChecks", fn := fun _ => fun
  | [d] => { results := [.lit (.bool false)], args := [d] }
  | _ => none }
def BatchChecksWrongFalsely : Prop := batchChecksRow.holds Try.pinned (OpenSpec.ofChange batchChecksWrong)

/-- 'bartizanlaw04.BatchBytes': WHATEVER THE INPUT: true; the input reads as it did. -/
def batchBytesSpec : ChangeSpec := { name := "batchBytes", fn := fun _ => fun
  | [d] => { results := [.lit (.bool true)], args := [d] }
  | _ => none }
def batchBytesRow : OpenClaim := { program := "ytlkfdiiapcipoaa", sum := "f8cb5a39efb1444ef4932cacbeba98c96a344231fae7ec291f33f4367a24288b", func := "bartizan/bartizanlaw04.BatchBytes", spec := "batchBytes", inPlace := ["internal/bytealg.Compare"], apart := false }
def BatchBytesSaid : Prop := batchBytesRow.holds Try.pinned (OpenSpec.ofChange batchBytesSpec)

/-- ITS FALSE NEIGHBOUR: 'it returns false'. Refute it at one input. -/
def batchBytesWrong : ChangeSpec := { name := "batchBytes", fn := fun _ => fun
  | [d] => { results := [.lit (.bool false)], args := [d] }
  | _ => none }
def BatchBytesWrongFalsely : Prop := batchBytesRow.holds Try.pinned (OpenSpec.ofChange batchBytesWrong)

/-- 'bartizanlaw04.BatchReads': WHATEVER THE INPUT: true; the input reads as it did. -/
def batchReadsSpec : ChangeSpec := { name := "batchReads", fn := fun _ => fun
  | [d] => { results := [.lit (.bool true)], args := [d] }
  | _ => none }
def batchReadsRow : OpenClaim := { program := "ytlkfdiiapcipoaa", sum := "f8cb5a39efb1444ef4932cacbeba98c96a344231fae7ec291f33f4367a24288b", func := "bartizan/bartizanlaw04.BatchReads", spec := "batchReads", inPlace := ["internal/bytealg.Compare"], apart := false }
def BatchReadsSaid : Prop := batchReadsRow.holds Try.pinned (OpenSpec.ofChange batchReadsSpec)

/-- ITS FALSE NEIGHBOUR: 'it returns false'. Refute it at one input. -/
def batchReadsWrong : ChangeSpec := { name := "batchReads", fn := fun _ => fun
  | [d] => { results := [.lit (.bool false)], args := [d] }
  | _ => none }
def BatchReadsWrongFalsely : Prop := batchReadsRow.holds Try.pinned (OpenSpec.ofChange batchReadsWrong)

/-- 'bartizanlaw04.BatchOver': WHATEVER THE INPUT: true; the input reads as it did. -/
def batchOverSpec : ChangeSpec := { name := "batchOver", fn := fun _ => fun
  | [d1, d2] => { results := [.lit (.bool true)], args := [d1, d2] }
  | _ => none }
def batchOverRow : OpenClaim := { program := "ytlkfdiiapcipoaa", sum := "f8cb5a39efb1444ef4932cacbeba98c96a344231fae7ec291f33f4367a24288b", func := "bartizan/bartizanlaw04.BatchOver", spec := "batchOver", inPlace := ["internal/bytealg.Compare"], apart := false }
def BatchOverSaid : Prop := batchOverRow.holds Try.pinned (OpenSpec.ofChange batchOverSpec)

/-- ITS FALSE NEIGHBOUR: 'it returns false'. Refute it at one input. -/
def batchOverWrong : ChangeSpec := { name := "batchOver", fn := fun _ => fun
  | [d1, d2] => { results := [.lit (.bool false)], args := [d1, d2] }
  | _ => none }
def BatchOverWrongFalsely : Prop := batchOverRow.holds Try.pinned (OpenSpec.ofChange batchOverWrong)

/-- 'bartizanlaw04.BatchCopies': WHATEVER THE INPUT: true; the input reads as it did. -/
def batchCopiesSpec : ChangeSpec := { name := "batchCopies", fn := fun _ => fun
  | [d] => { results := [.lit (.bool true)], args := [d] }
  | _ => none }
def batchCopiesRow : OpenClaim := { program := "ytlkfdiiapcipoaa", sum := "f8cb5a39efb1444ef4932cacbeba98c96a344231fae7ec291f33f4367a24288b", func := "bartizan/bartizanlaw04.BatchCopies", spec := "batchCopies", inPlace := ["internal/bytealg.Compare"], apart := false }
def BatchCopiesSaid : Prop := batchCopiesRow.holds Try.pinned (OpenSpec.ofChange batchCopiesSpec)

/-- ITS FALSE NEIGHBOUR: 'it returns false'. Refute it at one input. -/
def batchCopiesWrong : ChangeSpec := { name := "batchCopies", fn := fun _ => fun
  | [d] => { results := [.lit (.bool false)], args := [d] }
  | _ => none }
def BatchCopiesWrongFalsely : Prop := batchCopiesRow.holds Try.pinned (OpenSpec.ofChange batchCopiesWrong)

/-- 'bartizanlaw04.BatchParts': WHATEVER THE INPUT: true; the input reads as it did. -/
def batchPartsSpec : ChangeSpec := { name := "batchParts", fn := fun _ => fun
  | [d1, d2, d3] => { results := [.lit (.bool true)], args := [d1, d2, d3] }
  | _ => none }
def batchPartsRow : OpenClaim := { program := "ytlkfdiiapcipoaa", sum := "f8cb5a39efb1444ef4932cacbeba98c96a344231fae7ec291f33f4367a24288b", func := "bartizan/bartizanlaw04.BatchParts", spec := "batchParts", inPlace := ["internal/bytealg.Compare"], apart := false }
def BatchPartsSaid : Prop := batchPartsRow.holds Try.pinned (OpenSpec.ofChange batchPartsSpec)

/-- ITS FALSE NEIGHBOUR: 'it returns false'. Refute it at one input. -/
def batchPartsWrong : ChangeSpec := { name := "batchParts", fn := fun _ => fun
  | [d1, d2, d3] => { results := [.lit (.bool false)], args := [d1, d2, d3] }
  | _ => none }
def BatchPartsWrongFalsely : Prop := batchPartsRow.holds Try.pinned (OpenSpec.ofChange batchPartsWrong)

/-- 'bartizanlaw04.BatchLast': WHATEVER THE INPUT: true; the input reads as it did. -/
def batchLastSpec : ChangeSpec := { name := "batchLast", fn := fun _ => fun
  | [d1, d2, d3] => { results := [.lit (.bool true)], args := [d1, d2, d3] }
  | _ => none }
def batchLastRow : OpenClaim := { program := "ytlkfdiiapcipoaa", sum := "f8cb5a39efb1444ef4932cacbeba98c96a344231fae7ec291f33f4367a24288b", func := "bartizan/bartizanlaw04.BatchLast", spec := "batchLast", inPlace := ["internal/bytealg.Compare"], apart := false }
def BatchLastSaid : Prop := batchLastRow.holds Try.pinned (OpenSpec.ofChange batchLastSpec)

/-- ITS FALSE NEIGHBOUR: 'it returns false'. Refute it at one input. -/
def batchLastWrong : ChangeSpec := { name := "batchLast", fn := fun _ => fun
  | [d1, d2, d3] => { results := [.lit (.bool false)], args := [d1, d2, d3] }
  | _ => none }
def BatchLastWrongFalsely : Prop := batchLastRow.holds Try.pinned (OpenSpec.ofChange batchLastWrong)

/- THE SECOND FORM. 'bulk': how many values and letters a reading holds, each counted each time it is reached (what is shared counts as often as it is met; a slice's spare places count too). A statement '..UptoSaid' is the law's where the arguments, and the package variables that the reading takes, are together of bulk at most 1048576: NARROWER than '..Said'. Prove '..Said' where nothing that the law and all that it calls make is longer than what came in: it says more and counts as full. Else prove '..UptoSaid'. A law counts once. -/
mutual
def uptoBulk {H : Type} : DataW H → Nat
  | .lit (.string bytes) => bytes.length + 1
  | .lit _ => 1
  | .nil => 1
  | .ptr d => uptoBulk d + 1
  | .slice elems spare => uptoBulkAll elems + uptoBulkAll spare + 1
  | .agg parts => uptoBulkAll parts + 1
  | .iface _ d => uptoBulk d + 1
  | .map entries => uptoBulkEntries entries + 1
  | .held _ => 1
def uptoBulkAll {H : Type} : List (DataW H) → Nat
  | [] => 0
  | d :: r => uptoBulk d + uptoBulkAll r
def uptoBulkEntries {H : Type} : List (Lit × DataW H) → Nat
  | [] => 0
  | x :: r => uptoBulkEntry x + uptoBulkEntries r
def uptoBulkEntry {H : Type} : Lit × DataW H → Nat
  | (.string bytes, d) => bytes.length + uptoBulk d + 1
  | (_, d) => uptoBulk d + 1
 end
def uptoSmall : (H : Type) → List (DataW H) → Bool := fun _ ds => decide (uptoBulkAll ds ≤ 1048576)
def OpenSpec.upto (s : _root_.Go.ChangeSpec) : _root_.Go.OpenSpec := { _root_.Go.OpenSpec.ofChange s with cond := some uptoSmall }

/-- 'bartizanlaw04.BatchChecks', WHERE WHAT IT READS IS OF BULK AT MOST 1048576: true; the input reads as it did. -/
def batchChecksUptoRow : OpenClaim := { program := "ytlkfdiiapcipoaa", sum := "f8cb5a39efb1444ef4932cacbeba98c96a344231fae7ec291f33f4367a24288b", func := "bartizan/bartizanlaw04.BatchChecks", spec := "batchChecks", inPlace := ["internal/bytealg.Compare"], apart := false, narrowed := true }
def BatchChecksUptoSaid : Prop := batchChecksUptoRow.holds Try.pinned (OpenSpec.upto batchChecksSpec)

/-- 'bartizanlaw04.BatchBytes', WHERE WHAT IT READS IS OF BULK AT MOST 1048576: true; the input reads as it did. -/
def batchBytesUptoRow : OpenClaim := { program := "ytlkfdiiapcipoaa", sum := "f8cb5a39efb1444ef4932cacbeba98c96a344231fae7ec291f33f4367a24288b", func := "bartizan/bartizanlaw04.BatchBytes", spec := "batchBytes", inPlace := ["internal/bytealg.Compare"], apart := false, narrowed := true }
def BatchBytesUptoSaid : Prop := batchBytesUptoRow.holds Try.pinned (OpenSpec.upto batchBytesSpec)

/-- 'bartizanlaw04.BatchReads', WHERE WHAT IT READS IS OF BULK AT MOST 1048576: true; the input reads as it did. -/
def batchReadsUptoRow : OpenClaim := { program := "ytlkfdiiapcipoaa", sum := "f8cb5a39efb1444ef4932cacbeba98c96a344231fae7ec291f33f4367a24288b", func := "bartizan/bartizanlaw04.BatchReads", spec := "batchReads", inPlace := ["internal/bytealg.Compare"], apart := false, narrowed := true }
def BatchReadsUptoSaid : Prop := batchReadsUptoRow.holds Try.pinned (OpenSpec.upto batchReadsSpec)

/-- 'bartizanlaw04.BatchOver', WHERE WHAT IT READS IS OF BULK AT MOST 1048576: true; the input reads as it did. -/
def batchOverUptoRow : OpenClaim := { program := "ytlkfdiiapcipoaa", sum := "f8cb5a39efb1444ef4932cacbeba98c96a344231fae7ec291f33f4367a24288b", func := "bartizan/bartizanlaw04.BatchOver", spec := "batchOver", inPlace := ["internal/bytealg.Compare"], apart := false, narrowed := true }
def BatchOverUptoSaid : Prop := batchOverUptoRow.holds Try.pinned (OpenSpec.upto batchOverSpec)

/-- 'bartizanlaw04.BatchCopies', WHERE WHAT IT READS IS OF BULK AT MOST 1048576: true; the input reads as it did. -/
def batchCopiesUptoRow : OpenClaim := { program := "ytlkfdiiapcipoaa", sum := "f8cb5a39efb1444ef4932cacbeba98c96a344231fae7ec291f33f4367a24288b", func := "bartizan/bartizanlaw04.BatchCopies", spec := "batchCopies", inPlace := ["internal/bytealg.Compare"], apart := false, narrowed := true }
def BatchCopiesUptoSaid : Prop := batchCopiesUptoRow.holds Try.pinned (OpenSpec.upto batchCopiesSpec)

/-- 'bartizanlaw04.BatchParts', WHERE WHAT IT READS IS OF BULK AT MOST 1048576: true; the input reads as it did. -/
def batchPartsUptoRow : OpenClaim := { program := "ytlkfdiiapcipoaa", sum := "f8cb5a39efb1444ef4932cacbeba98c96a344231fae7ec291f33f4367a24288b", func := "bartizan/bartizanlaw04.BatchParts", spec := "batchParts", inPlace := ["internal/bytealg.Compare"], apart := false, narrowed := true }
def BatchPartsUptoSaid : Prop := batchPartsUptoRow.holds Try.pinned (OpenSpec.upto batchPartsSpec)

/-- 'bartizanlaw04.BatchLast', WHERE WHAT IT READS IS OF BULK AT MOST 1048576: true; the input reads as it did. -/
def batchLastUptoRow : OpenClaim := { program := "ytlkfdiiapcipoaa", sum := "f8cb5a39efb1444ef4932cacbeba98c96a344231fae7ec291f33f4367a24288b", func := "bartizan/bartizanlaw04.BatchLast", spec := "batchLast", inPlace := ["internal/bytealg.Compare"], apart := false, narrowed := true }
def BatchLastUptoSaid : Prop := batchLastUptoRow.holds Try.pinned (OpenSpec.upto batchLastSpec)

end Rows
end Go.Proofs.Ytlkfdiiapcipoaa
