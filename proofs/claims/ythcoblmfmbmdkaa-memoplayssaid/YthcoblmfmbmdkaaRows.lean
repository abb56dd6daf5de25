/-
  No cell of these rows narrows 'for every input' (looked for: loops, veiled, ifaces, maps, wideKeys, modest, calm, conditions, laid).
  DERIVED. THE GIVEN ROWS OF THIS SEAT. 6 by the template 'for every input the law returns true; each argument reads behind the call as it read before'; 0 by the template 'total and deterministic' (their statements: YthcoblmfmbmdkaaTotals.lean).
  GIVEN WITH THE SEED: the statements are not yours to turn. If you find one false, say at which input.
  Laid BY PROGRAM, IN A SANDBOX (cutbox-rows.mjs): the forced cells as the released guide's own fill.sh prints them over the translation e66cc08e4b83d014… (all of the seat's roots in one cut). By AI agents, Wed Nov 11 2026. No macro, syntax, notation, axiom, sorry.
-/
import Derived.Test.YthcoblmfmbmdkaaChecked
import GoSem.Claim
import GoSem.ClaimJoined
import GoSem.ClaimMapViews
import Derived.JoinedTies
import Derived.KernelRfl
namespace Go.Proofs.Ythcoblmfmbmdkaa
/- THE CELL 'sum', in the pinned program and in every row, IS THE sha256 OF THE DUMP (.gsa) THAT YthcoblmfmbmdkaaProg.lean LOADS. Nothing in Lean hashes anything: it is a label: what it is worth is what the hold of that sum in a sandbox is worth. -/
noncomputable def Try.pinned : Pinned := { name := "ythcoblmfmbmdkaa", sum := "e66cc08e4b83d0143792c5ed6ecf4f5fa2a100ddd8a340f03f22bfda580bb50e", checked := Try.checked }
namespace Rows
def none {H : Type} : Left H := { results := [], args := [] }

/-- 'bartizanlaw10.MemoPlays': WHATEVER THE INPUT: true; the input reads as it did. -/
def memoPlaysSpec : ChangeSpec := { name := "memoPlays", fn := fun _ => fun
  | [d1, d2, d3, d4] => { results := [.lit (.bool true)], args := [d1, d2, d3, d4] }
  | _ => none }
def memoPlaysRow : OpenClaim := { program := "ythcoblmfmbmdkaa", sum := "e66cc08e4b83d0143792c5ed6ecf4f5fa2a100ddd8a340f03f22bfda580bb50e", func := "bartizan/bartizanlaw10.MemoPlays", spec := "memoPlays", inPlace := ["internal/bytealg.Compare"], unfollowed := true, recurses := true, apart := false }
def MemoPlaysSaid : Prop := memoPlaysRow.holds Try.pinned (OpenSpec.ofChange memoPlaysSpec)

/-- ITS FALSE NEIGHBOUR: 'it returns false'. Refute it at one input. -/
def memoPlaysWrong : ChangeSpec := { name := "memoPlays", fn := fun _ => fun
  | [d1, d2, d3, d4] => { results := [.lit (.bool false)], args := [d1, d2, d3, d4] }
  | _ => none }
def MemoPlaysWrongFalsely : Prop := memoPlaysRow.holds Try.pinned (OpenSpec.ofChange memoPlaysWrong)

/-- 'bartizanlaw10.MemoMap': WHATEVER THE INPUT: true; the input reads as it did. -/
def memoMapSpec : ChangeSpec := { name := "memoMap", fn := fun _ => fun
  | [d] => { results := [.lit (.bool true)], args := [d] }
  | _ => none }
def memoMapRow : OpenClaim := { program := "ythcoblmfmbmdkaa", sum := "e66cc08e4b83d0143792c5ed6ecf4f5fa2a100ddd8a340f03f22bfda580bb50e", func := "bartizan/bartizanlaw10.MemoMap", spec := "memoMap", inPlace := ["internal/bytealg.Compare"], unfollowed := true, recurses := true, apart := false }
def MemoMapSaid : Prop := memoMapRow.holds Try.pinned (OpenSpec.ofChange memoMapSpec)

/-- ITS FALSE NEIGHBOUR: 'it returns false'. Refute it at one input. -/
def memoMapWrong : ChangeSpec := { name := "memoMap", fn := fun _ => fun
  | [d] => { results := [.lit (.bool false)], args := [d] }
  | _ => none }
def MemoMapWrongFalsely : Prop := memoMapRow.holds Try.pinned (OpenSpec.ofChange memoMapWrong)

/-- 'bartizanlaw10.MemoStays': WHATEVER THE INPUT: true; the input reads as it did. -/
def memoStaysSpec : ChangeSpec := { name := "memoStays", fn := fun _ => fun
  | [d1, d2, d3] => { results := [.lit (.bool true)], args := [d1, d2, d3] }
  | _ => none }
def memoStaysRow : OpenClaim := { program := "ythcoblmfmbmdkaa", sum := "e66cc08e4b83d0143792c5ed6ecf4f5fa2a100ddd8a340f03f22bfda580bb50e", func := "bartizan/bartizanlaw10.MemoStays", spec := "memoStays", inPlace := ["internal/bytealg.Compare"], unfollowed := true, recurses := true, apart := false }
def MemoStaysSaid : Prop := memoStaysRow.holds Try.pinned (OpenSpec.ofChange memoStaysSpec)

/-- ITS FALSE NEIGHBOUR: 'it returns false'. Refute it at one input. -/
def memoStaysWrong : ChangeSpec := { name := "memoStays", fn := fun _ => fun
  | [d1, d2, d3] => { results := [.lit (.bool false)], args := [d1, d2, d3] }
  | _ => none }
def MemoStaysWrongFalsely : Prop := memoStaysRow.holds Try.pinned (OpenSpec.ofChange memoStaysWrong)

/-- 'bartizanlaw10.MemoFind': WHATEVER THE INPUT: true; the input reads as it did. -/
def memoFindSpec : ChangeSpec := { name := "memoFind", fn := fun _ => fun
  | [d1, d2, d3] => { results := [.lit (.bool true)], args := [d1, d2, d3] }
  | _ => none }
def memoFindRow : OpenClaim := { program := "ythcoblmfmbmdkaa", sum := "e66cc08e4b83d0143792c5ed6ecf4f5fa2a100ddd8a340f03f22bfda580bb50e", func := "bartizan/bartizanlaw10.MemoFind", spec := "memoFind", inPlace := ["internal/bytealg.Compare"], unfollowed := true, recurses := true, apart := false }
def MemoFindSaid : Prop := memoFindRow.holds Try.pinned (OpenSpec.ofChange memoFindSpec)

/-- ITS FALSE NEIGHBOUR: 'it returns false'. Refute it at one input. -/
def memoFindWrong : ChangeSpec := { name := "memoFind", fn := fun _ => fun
  | [d1, d2, d3] => { results := [.lit (.bool false)], args := [d1, d2, d3] }
  | _ => none }
def MemoFindWrongFalsely : Prop := memoFindRow.holds Try.pinned (OpenSpec.ofChange memoFindWrong)

/-- 'bartizanlaw10.MemoBatches': WHATEVER THE INPUT: true; the input reads as it did. -/
def memoBatchesSpec : ChangeSpec := { name := "memoBatches", fn := fun _ => fun
  | [d1, d2, d3] => { results := [.lit (.bool true)], args := [d1, d2, d3] }
  | _ => none }
def memoBatchesRow : OpenClaim := { program := "ythcoblmfmbmdkaa", sum := "e66cc08e4b83d0143792c5ed6ecf4f5fa2a100ddd8a340f03f22bfda580bb50e", func := "bartizan/bartizanlaw10.MemoBatches", spec := "memoBatches", inPlace := ["internal/bytealg.Compare"], unfollowed := true, recurses := true, apart := false }
def MemoBatchesSaid : Prop := memoBatchesRow.holds Try.pinned (OpenSpec.ofChange memoBatchesSpec)

/-- ITS FALSE NEIGHBOUR: 'it returns false'. Refute it at one input. -/
def memoBatchesWrong : ChangeSpec := { name := "memoBatches", fn := fun _ => fun
  | [d1, d2, d3] => { results := [.lit (.bool false)], args := [d1, d2, d3] }
  | _ => none }
def MemoBatchesWrongFalsely : Prop := memoBatchesRow.holds Try.pinned (OpenSpec.ofChange memoBatchesWrong)

/-- 'bartizanlaw10.MemoOlder': WHATEVER THE INPUT: true; the input reads as it did. -/
def memoOlderSpec : ChangeSpec := { name := "memoOlder", fn := fun _ => fun
  | [d1, d2, d3] => { results := [.lit (.bool true)], args := [d1, d2, d3] }
  | _ => none }
def memoOlderRow : OpenClaim := { program := "ythcoblmfmbmdkaa", sum := "e66cc08e4b83d0143792c5ed6ecf4f5fa2a100ddd8a340f03f22bfda580bb50e", func := "bartizan/bartizanlaw10.MemoOlder", spec := "memoOlder", inPlace := ["internal/bytealg.Compare"], unfollowed := true, recurses := true, apart := false }
def MemoOlderSaid : Prop := memoOlderRow.holds Try.pinned (OpenSpec.ofChange memoOlderSpec)

/-- ITS FALSE NEIGHBOUR: 'it returns false'. Refute it at one input. -/
def memoOlderWrong : ChangeSpec := { name := "memoOlder", fn := fun _ => fun
  | [d1, d2, d3] => { results := [.lit (.bool false)], args := [d1, d2, d3] }
  | _ => none }
def MemoOlderWrongFalsely : Prop := memoOlderRow.holds Try.pinned (OpenSpec.ofChange memoOlderWrong)

/- THE SECOND FORM. 'bulk': how many values and letters a reading holds, each counted each time it is reached (what is shared counts as often as it is met; a slice's spare places count too). A statement '..UptoSaid' is the law's where the arguments, and the package variables that the reading takes, are together of bulk at most 1048576: NARROWER than '..Said'. Prove '..Said' where nothing that the law and all that it calls make is longer than what came in: it says more and counts as full. Else prove '..UptoSaid'. A law counts once. -/
mutual
def uptoBulk {H : Type} : DataW H → Nat
  | .lit (.string bytes) => bytes.length + 1
  | .lit _ => 1
  | .nil => 1
  | .ptr d => uptoBulk d + 1
  | .slice elems spare => uptoBulkAll elems + uptoBulkAll spare + 1
  | .agg parts => uptoBulkAll parts + 1
  | .iface _ d => uptoBulk d + 1
  | .map entries => uptoBulkEntries entries + 1
  | .held _ => 1
def uptoBulkAll {H : Type} : List (DataW H) → Nat
  | [] => 0
  | d :: r => uptoBulk d + uptoBulkAll r
def uptoBulkEntries {H : Type} : List (Lit × DataW H) → Nat
  | [] => 0
  | x :: r => uptoBulkEntry x + uptoBulkEntries r
def uptoBulkEntry {H : Type} : Lit × DataW H → Nat
  | (.string bytes, d) => bytes.length + uptoBulk d + 1
  | (_, d) => uptoBulk d + 1
 end
def uptoSmall : (H : Type) → List (DataW H) → Bool := fun _ ds => decide (uptoBulkAll ds ≤ 1048576)
def OpenSpec.upto (s : _root_.Go.ChangeSpec) : _root_.Go.OpenSpec := { _root_.Go.OpenSpec.ofChange s with cond := some uptoSmall }

/-- 'bartizanlaw10.MemoPlays', WHERE WHAT IT READS IS OF BULK AT MOST 1048576: true; the input reads as it did. -/
def memoPlaysUptoRow : OpenClaim := { program := "ythcoblmfmbmdkaa", sum := "e66cc08e4b83d0143792c5ed6ecf4f5fa2a100ddd8a340f03f22bfda580bb50e", func := "bartizan/bartizanlaw10.MemoPlays", spec := "memoPlays", inPlace := ["internal/bytealg.Compare"], unfollowed := true, recurses := true, apart := false, narrowed := true }
def MemoPlaysUptoSaid : Prop := memoPlaysUptoRow.holds Try.pinned (OpenSpec.upto memoPlaysSpec)

/-- 'bartizanlaw10.MemoMap', WHERE WHAT IT READS IS OF BULK AT MOST 1048576: true; the input reads as it did. -/
def memoMapUptoRow : OpenClaim := { program := "ythcoblmfmbmdkaa", sum := "e66cc08e4b83d0143792c5ed6ecf4f5fa2a100ddd8a340f03f22bfda580bb50e", func := "bartizan/bartizanlaw10.MemoMap", spec := "memoMap", inPlace := ["internal/bytealg.Compare"], unfollowed := true, recurses := true, apart := false, narrowed := true }
def MemoMapUptoSaid : Prop := memoMapUptoRow.holds Try.pinned (OpenSpec.upto memoMapSpec)

/-- 'bartizanlaw10.MemoStays', WHERE WHAT IT READS IS OF BULK AT MOST 1048576: true; the input reads as it did. -/
def memoStaysUptoRow : OpenClaim := { program := "ythcoblmfmbmdkaa", sum := "e66cc08e4b83d0143792c5ed6ecf4f5fa2a100ddd8a340f03f22bfda580bb50e", func := "bartizan/bartizanlaw10.MemoStays", spec := "memoStays", inPlace := ["internal/bytealg.Compare"], unfollowed := true, recurses := true, apart := false, narrowed := true }
def MemoStaysUptoSaid : Prop := memoStaysUptoRow.holds Try.pinned (OpenSpec.upto memoStaysSpec)

/-- 'bartizanlaw10.MemoFind', WHERE WHAT IT READS IS OF BULK AT MOST 1048576: true; the input reads as it did. -/
def memoFindUptoRow : OpenClaim := { program := "ythcoblmfmbmdkaa", sum := "e66cc08e4b83d0143792c5ed6ecf4f5fa2a100ddd8a340f03f22bfda580bb50e", func := "bartizan/bartizanlaw10.MemoFind", spec := "memoFind", inPlace := ["internal/bytealg.Compare"], unfollowed := true, recurses := true, apart := false, narrowed := true }
def MemoFindUptoSaid : Prop := memoFindUptoRow.holds Try.pinned (OpenSpec.upto memoFindSpec)

/-- 'bartizanlaw10.MemoBatches', WHERE WHAT IT READS IS OF BULK AT MOST 1048576: true; the input reads as it did. -/
def memoBatchesUptoRow : OpenClaim := { program := "ythcoblmfmbmdkaa", sum := "e66cc08e4b83d0143792c5ed6ecf4f5fa2a100ddd8a340f03f22bfda580bb50e", func := "bartizan/bartizanlaw10.MemoBatches", spec := "memoBatches", inPlace := ["internal/bytealg.Compare"], unfollowed := true, recurses := true, apart := false, narrowed := true }
def MemoBatchesUptoSaid : Prop := memoBatchesUptoRow.holds Try.pinned (OpenSpec.upto memoBatchesSpec)

/-- 'bartizanlaw10.MemoOlder', WHERE WHAT IT READS IS OF BULK AT MOST 1048576: true; the input reads as it did. -/
def memoOlderUptoRow : OpenClaim := { program := "ythcoblmfmbmdkaa", sum := "e66cc08e4b83d0143792c5ed6ecf4f5fa2a100ddd8a340f03f22bfda580bb50e", func := "bartizan/bartizanlaw10.MemoOlder", spec := "memoOlder", inPlace := ["internal/bytealg.Compare"], unfollowed := true, recurses := true, apart := false, narrowed := true }
def MemoOlderUptoSaid : Prop := memoOlderUptoRow.holds Try.pinned (OpenSpec.upto memoOlderSpec)

end Rows
end Go.Proofs.Ythcoblmfmbmdkaa
