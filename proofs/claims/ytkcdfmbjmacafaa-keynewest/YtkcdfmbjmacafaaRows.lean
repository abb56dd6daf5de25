/-
  No cell of these rows narrows 'for every input' (looked for: loops, veiled, ifaces, maps, wideKeys, modest, calm, conditions, laid).
  DERIVED. THE GIVEN ROWS OF THIS SEAT. 7 by the template 'for every input the law returns true; each argument reads behind the call as it read before'; 0 by the template 'total and deterministic' (their statements: YtkcdfmbjmacafaaTotals.lean).
  GIVEN WITH THE SEED: the statements are not yours to turn. If you find one false, say at which input.
  Laid BY PROGRAM, IN A SANDBOX (cutbox-rows.mjs): the forced cells as the released guide's own fill.sh prints them over the translation 6a80c3b158699630… (all of the seat's roots in one cut). By AI agents, Wed Nov 11 2026. No macro, syntax, notation, axiom, sorry.
-/
import Derived.Test.YtkcdfmbjmacafaaChecked
import GoSem.Claim
import GoSem.ClaimJoined
import GoSem.ClaimMapViews
import Derived.JoinedTies
import Derived.KernelRfl
namespace Go.Proofs.Ytkcdfmbjmacafaa
/- THE CELL 'sum', in the pinned program and in every row, IS THE sha256 OF THE DUMP (.gsa) THAT YtkcdfmbjmacafaaProg.lean LOADS. Nothing in Lean hashes anything: it is a label: what it is worth is what the hold of that sum in a sandbox is worth. -/
noncomputable def Try.pinned : Pinned := { name := "ytkcdfmbjmacafaa", sum := "6a80c3b1586996306e11b4f75eba4ce0a5535aafca82423d3e2565619dd9b4e7", checked := Try.checked }
namespace Rows
def none {H : Type} : Left H := { results := [], args := [] }

/-- 'bartizanlaw03.KeyOrders': WHATEVER THE INPUT: true; the input reads as it did. -/
def keyOrdersSpec : ChangeSpec := { name := "keyOrders", fn := fun _ => fun
  | [d1, d2, d3] => { results := [.lit (.bool true)], args := [d1, d2, d3] }
  | _ => none }
def keyOrdersRow : OpenClaim := { program := "ytkcdfmbjmacafaa", sum := "6a80c3b1586996306e11b4f75eba4ce0a5535aafca82423d3e2565619dd9b4e7", func := "bartizan/bartizanlaw03.KeyOrders", spec := "keyOrders", inPlace := ["internal/bytealg.Compare"], apart := false }
def KeyOrdersSaid : Prop := keyOrdersRow.holds Try.pinned (OpenSpec.ofChange keyOrdersSpec)

/-- ITS FALSE NEIGHBOUR: 'it returns false'. Refute it at one input. -/
def keyOrdersWrong : ChangeSpec := { name := "keyOrders", fn := fun _ => fun
  | [d1, d2, d3] => { results := [.lit (.bool false)], args := [d1, d2, d3] }
  | _ => none }
def KeyOrdersWrongFalsely : Prop := keyOrdersRow.holds Try.pinned (OpenSpec.ofChange keyOrdersWrong)

/-- 'bartizanlaw03.KeyBytes': WHATEVER THE INPUT: true; the input reads as it did. -/
def keyBytesSpec : ChangeSpec := { name := "keyBytes", fn := fun _ => fun
  | [d1, d2] => { results := [.lit (.bool true)], args := [d1, d2] }
  | _ => none }
def keyBytesRow : OpenClaim := { program := "ytkcdfmbjmacafaa", sum := "6a80c3b1586996306e11b4f75eba4ce0a5535aafca82423d3e2565619dd9b4e7", func := "bartizan/bartizanlaw03.KeyBytes", spec := "keyBytes", inPlace := ["internal/bytealg.Compare"], apart := false }
def KeyBytesSaid : Prop := keyBytesRow.holds Try.pinned (OpenSpec.ofChange keyBytesSpec)

/-- ITS FALSE NEIGHBOUR: 'it returns false'. Refute it at one input. -/
def keyBytesWrong : ChangeSpec := { name := "keyBytes", fn := fun _ => fun
  | [d1, d2] => { results := [.lit (.bool false)], args := [d1, d2] }
  | _ => none }
def KeyBytesWrongFalsely : Prop := keyBytesRow.holds Try.pinned (OpenSpec.ofChange keyBytesWrong)

/-- 'bartizanlaw03.KeyReads': WHATEVER THE INPUT: true; the input reads as it did. -/
def keyReadsSpec : ChangeSpec := { name := "keyReads", fn := fun _ => fun
  | [d] => { results := [.lit (.bool true)], args := [d] }
  | _ => none }
def keyReadsRow : OpenClaim := { program := "ytkcdfmbjmacafaa", sum := "6a80c3b1586996306e11b4f75eba4ce0a5535aafca82423d3e2565619dd9b4e7", func := "bartizan/bartizanlaw03.KeyReads", spec := "keyReads", inPlace := ["internal/bytealg.Compare"], apart := false }
def KeyReadsSaid : Prop := keyReadsRow.holds Try.pinned (OpenSpec.ofChange keyReadsSpec)

/-- ITS FALSE NEIGHBOUR: 'it returns false'. Refute it at one input. -/
def keyReadsWrong : ChangeSpec := { name := "keyReads", fn := fun _ => fun
  | [d] => { results := [.lit (.bool false)], args := [d] }
  | _ => none }
def KeyReadsWrongFalsely : Prop := keyReadsRow.holds Try.pinned (OpenSpec.ofChange keyReadsWrong)

/-- 'bartizanlaw03.KeyUpto': WHATEVER THE INPUT: true; the input reads as it did. -/
def keyUptoSpec : ChangeSpec := { name := "keyUpto", fn := fun _ => fun
  | [d1, d2, d3] => { results := [.lit (.bool true)], args := [d1, d2, d3] }
  | _ => none }
def keyUptoRow : OpenClaim := { program := "ytkcdfmbjmacafaa", sum := "6a80c3b1586996306e11b4f75eba4ce0a5535aafca82423d3e2565619dd9b4e7", func := "bartizan/bartizanlaw03.KeyUpto", spec := "keyUpto", inPlace := ["internal/bytealg.Compare"], apart := false }
def KeyUptoSaid : Prop := keyUptoRow.holds Try.pinned (OpenSpec.ofChange keyUptoSpec)

/-- ITS FALSE NEIGHBOUR: 'it returns false'. Refute it at one input. -/
def keyUptoWrong : ChangeSpec := { name := "keyUpto", fn := fun _ => fun
  | [d1, d2, d3] => { results := [.lit (.bool false)], args := [d1, d2, d3] }
  | _ => none }
def KeyUptoWrongFalsely : Prop := keyUptoRow.holds Try.pinned (OpenSpec.ofChange keyUptoWrong)

/-- 'bartizanlaw03.KeyAfter': WHATEVER THE INPUT: true; the input reads as it did. -/
def keyAfterSpec : ChangeSpec := { name := "keyAfter", fn := fun _ => fun
  | [d1, d2] => { results := [.lit (.bool true)], args := [d1, d2] }
  | _ => none }
def keyAfterRow : OpenClaim := { program := "ytkcdfmbjmacafaa", sum := "6a80c3b1586996306e11b4f75eba4ce0a5535aafca82423d3e2565619dd9b4e7", func := "bartizan/bartizanlaw03.KeyAfter", spec := "keyAfter", inPlace := ["internal/bytealg.Compare"], apart := false }
def KeyAfterSaid : Prop := keyAfterRow.holds Try.pinned (OpenSpec.ofChange keyAfterSpec)

/-- ITS FALSE NEIGHBOUR: 'it returns false'. Refute it at one input. -/
def keyAfterWrong : ChangeSpec := { name := "keyAfter", fn := fun _ => fun
  | [d1, d2] => { results := [.lit (.bool false)], args := [d1, d2] }
  | _ => none }
def KeyAfterWrongFalsely : Prop := keyAfterRow.holds Try.pinned (OpenSpec.ofChange keyAfterWrong)

/-- 'bartizanlaw03.KeyNewest': WHATEVER THE INPUT: true; the input reads as it did. -/
def keyNewestSpec : ChangeSpec := { name := "keyNewest", fn := fun _ => fun
  | [d1, d2, d3] => { results := [.lit (.bool true)], args := [d1, d2, d3] }
  | _ => none }
def keyNewestRow : OpenClaim := { program := "ytkcdfmbjmacafaa", sum := "6a80c3b1586996306e11b4f75eba4ce0a5535aafca82423d3e2565619dd9b4e7", func := "bartizan/bartizanlaw03.KeyNewest", spec := "keyNewest", inPlace := ["internal/bytealg.Compare"], apart := false }
def KeyNewestSaid : Prop := keyNewestRow.holds Try.pinned (OpenSpec.ofChange keyNewestSpec)

/-- ITS FALSE NEIGHBOUR: 'it returns false'. Refute it at one input. -/
def keyNewestWrong : ChangeSpec := { name := "keyNewest", fn := fun _ => fun
  | [d1, d2, d3] => { results := [.lit (.bool false)], args := [d1, d2, d3] }
  | _ => none }
def KeyNewestWrongFalsely : Prop := keyNewestRow.holds Try.pinned (OpenSpec.ofChange keyNewestWrong)

/-- 'bartizanlaw03.KeyChecks': WHATEVER THE INPUT: true; the input reads as it did. -/
def keyChecksSpec : ChangeSpec := { name := "keyChecks", fn := fun _ => fun
  | [d] => { results := [.lit (.bool true)], args := [d] }
  | _ => none }
def keyChecksRow : OpenClaim := { program := "ytkcdfmbjmacafaa", sum := "6a80c3b1586996306e11b4f75eba4ce0a5535aafca82423d3e2565619dd9b4e7", func := "bartizan/bartizanlaw03.KeyChecks", spec := "keyChecks", inPlace := ["internal/bytealg.Compare"], apart := false }
def KeyChecksSaid : Prop := keyChecksRow.holds Try.pinned (OpenSpec.ofChange keyChecksSpec)

/-- ITS FALSE NEIGHBOUR: 'it returns false'. Refute it at one input. -/
def keyChecksWrong : ChangeSpec := { name := "keyChecks", fn := fun _ => fun
  | [d] => { results := [.lit (.bool false)], args := [d] }
  | _ => none }
def KeyChecksWrongFalsely : Prop := keyChecksRow.holds Try.pinned (OpenSpec.ofChange keyChecksWrong)

/- THE SECOND FORM. 'bulk': how many values and letters a reading holds, each counted each time it is reached (what is shared counts as often as it is met; a slice's spare places count too). A statement '..UptoSaid' is the law's where the arguments, and the package variables that the reading takes, are together of bulk at most 1048576: NARROWER than '..Said'. Prove '..Said' where nothing that the law and all that it calls make is longer than what came in: it says more and counts as full. Else prove '..UptoSaid'. A law counts once. -/
mutual
def uptoBulk {H : Type} : DataW H → Nat
  | .lit (.string bytes) => bytes.length + 1
  | .lit _ => 1
  | .nil => 1
  | .ptr d => uptoBulk d + 1
  | .slice elems spare => uptoBulkAll elems + uptoBulkAll spare + 1
  | .agg parts => uptoBulkAll parts + 1
  | .iface _ d => uptoBulk d + 1
  | .map entries => uptoBulkEntries entries + 1
  | .held _ => 1
def uptoBulkAll {H : Type} : List (DataW H) → Nat
  | [] => 0
  | d :: r => uptoBulk d + uptoBulkAll r
def uptoBulkEntries {H : Type} : List (Lit × DataW H) → Nat
  | [] => 0
  | x :: r => uptoBulkEntry x + uptoBulkEntries r
def uptoBulkEntry {H : Type} : Lit × DataW H → Nat
  | (.string bytes, d) => bytes.length + uptoBulk d + 1
  | (_, d) => uptoBulk d + 1
 end
def uptoSmall : (H : Type) → List (DataW H) → Bool := fun _ ds => decide (uptoBulkAll ds ≤ 1048576)
def OpenSpec.upto (s : _root_.Go.ChangeSpec) : _root_.Go.OpenSpec := { _root_.Go.OpenSpec.ofChange s with cond := some uptoSmall }

/-- 'bartizanlaw03.KeyOrders', WHERE WHAT IT READS IS OF BULK AT MOST 1048576: true; the input reads as it did. -/
def keyOrdersUptoRow : OpenClaim := { program := "ytkcdfmbjmacafaa", sum := "6a80c3b1586996306e11b4f75eba4ce0a5535aafca82423d3e2565619dd9b4e7", func := "bartizan/bartizanlaw03.KeyOrders", spec := "keyOrders", inPlace := ["internal/bytealg.Compare"], apart := false, narrowed := true }
def KeyOrdersUptoSaid : Prop := keyOrdersUptoRow.holds Try.pinned (OpenSpec.upto keyOrdersSpec)

/-- 'bartizanlaw03.KeyBytes', WHERE WHAT IT READS IS OF BULK AT MOST 1048576: true; the input reads as it did. -/
def keyBytesUptoRow : OpenClaim := { program := "ytkcdfmbjmacafaa", sum := "6a80c3b1586996306e11b4f75eba4ce0a5535aafca82423d3e2565619dd9b4e7", func := "bartizan/bartizanlaw03.KeyBytes", spec := "keyBytes", inPlace := ["internal/bytealg.Compare"], apart := false, narrowed := true }
def KeyBytesUptoSaid : Prop := keyBytesUptoRow.holds Try.pinned (OpenSpec.upto keyBytesSpec)

/-- 'bartizanlaw03.KeyReads', WHERE WHAT IT READS IS OF BULK AT MOST 1048576: true; the input reads as it did. -/
def keyReadsUptoRow : OpenClaim := { program := "ytkcdfmbjmacafaa", sum := "6a80c3b1586996306e11b4f75eba4ce0a5535aafca82423d3e2565619dd9b4e7", func := "bartizan/bartizanlaw03.KeyReads", spec := "keyReads", inPlace := ["internal/bytealg.Compare"], apart := false, narrowed := true }
def KeyReadsUptoSaid : Prop := keyReadsUptoRow.holds Try.pinned (OpenSpec.upto keyReadsSpec)

/-- 'bartizanlaw03.KeyUpto', WHERE WHAT IT READS IS OF BULK AT MOST 1048576: true; the input reads as it did. -/
def keyUptoUptoRow : OpenClaim := { program := "ytkcdfmbjmacafaa", sum := "6a80c3b1586996306e11b4f75eba4ce0a5535aafca82423d3e2565619dd9b4e7", func := "bartizan/bartizanlaw03.KeyUpto", spec := "keyUpto", inPlace := ["internal/bytealg.Compare"], apart := false, narrowed := true }
def KeyUptoUptoSaid : Prop := keyUptoUptoRow.holds Try.pinned (OpenSpec.upto keyUptoSpec)

/-- 'bartizanlaw03.KeyAfter', WHERE WHAT IT READS IS OF BULK AT MOST 1048576: true; the input reads as it did. -/
def keyAfterUptoRow : OpenClaim := { program := "ytkcdfmbjmacafaa", sum := "6a80c3b1586996306e11b4f75eba4ce0a5535aafca82423d3e2565619dd9b4e7", func := "bartizan/bartizanlaw03.KeyAfter", spec := "keyAfter", inPlace := ["internal/bytealg.Compare"], apart := false, narrowed := true }
def KeyAfterUptoSaid : Prop := keyAfterUptoRow.holds Try.pinned (OpenSpec.upto keyAfterSpec)

/-- 'bartizanlaw03.KeyNewest', WHERE WHAT IT READS IS OF BULK AT MOST 1048576: true; the input reads as it did. -/
def keyNewestUptoRow : OpenClaim := { program := "ytkcdfmbjmacafaa", sum := "6a80c3b1586996306e11b4f75eba4ce0a5535aafca82423d3e2565619dd9b4e7", func := "bartizan/bartizanlaw03.KeyNewest", spec := "keyNewest", inPlace := ["internal/bytealg.Compare"], apart := false, narrowed := true }
def KeyNewestUptoSaid : Prop := keyNewestUptoRow.holds Try.pinned (OpenSpec.upto keyNewestSpec)

/-- 'bartizanlaw03.KeyChecks', WHERE WHAT IT READS IS OF BULK AT MOST 1048576: true; the input reads as it did. -/
def keyChecksUptoRow : OpenClaim := { program := "ytkcdfmbjmacafaa", sum := "6a80c3b1586996306e11b4f75eba4ce0a5535aafca82423d3e2565619dd9b4e7", func := "bartizan/bartizanlaw03.KeyChecks", spec := "keyChecks", inPlace := ["internal/bytealg.Compare"], apart := false, narrowed := true }
def KeyChecksUptoSaid : Prop := keyChecksUptoRow.holds Try.pinned (OpenSpec.upto keyChecksSpec)

end Rows
end Go.Proofs.Ytkcdfmbjmacafaa
