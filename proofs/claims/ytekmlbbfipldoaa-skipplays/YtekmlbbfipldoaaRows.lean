/-
  No cell of these rows narrows 'for every input' (looked for: loops, veiled, ifaces, maps, wideKeys, modest, calm, conditions, laid).
  DERIVED. THE GIVEN ROWS OF THIS SEAT. 6 by the template 'for every input the law returns true; each argument reads behind the call as it read before'; 0 by the template 'total and deterministic' (their statements: YtekmlbbfipldoaaTotals.lean).
  GIVEN WITH THE SEED: the statements are not yours to turn. If you find one false, say at which input.
  Laid BY PROGRAM, IN A SANDBOX (cutbox-rows.mjs): the forced cells as the released guide's own fill.sh prints them over the translation 8bfbc600af7d35c6… (all of the seat's roots in one cut). By AI agents, Wed Nov 11 2026. No macro, syntax, notation, axiom, sorry.
-/
import Derived.Test.YtekmlbbfipldoaaChecked
import GoSem.Claim
import GoSem.ClaimJoined
import GoSem.ClaimMapViews
import Derived.JoinedTies
import Derived.KernelRfl
namespace Go.Proofs.Ytekmlbbfipldoaa
/- THE CELL 'sum', in the pinned program and in every row, IS THE sha256 OF THE DUMP (.gsa) THAT YtekmlbbfipldoaaProg.lean LOADS. Nothing in Lean hashes anything: it is a label: what it is worth is what the hold of that sum in a sandbox is worth. -/
noncomputable def Try.pinned : Pinned := { name := "ytekmlbbfipldoaa", sum := "8bfbc600af7d35c60da345a5cbf7a1370b5e7bb3fbf1b3099817cd79d8b5dbcd", checked := Try.checked }
namespace Rows
def none {H : Type} : Left H := { results := [], args := [] }

/-- 'bartizanlaw08.SkipPlays': WHATEVER THE INPUT: true; the input reads as it did. -/
def skipPlaysSpec : ChangeSpec := { name := "skipPlays", fn := fun _ => fun
  | [d1, d2, d3] => { results := [.lit (.bool true)], args := [d1, d2, d3] }
  | _ => none }
def skipPlaysRow : OpenClaim := { program := "ytekmlbbfipldoaa", sum := "8bfbc600af7d35c60da345a5cbf7a1370b5e7bb3fbf1b3099817cd79d8b5dbcd", func := "bartizan/bartizanlaw08.SkipPlays", spec := "skipPlays", inPlace := ["internal/bytealg.Compare"], unfollowed := true, recurses := true, apart := false }
def SkipPlaysSaid : Prop := skipPlaysRow.holds Try.pinned (OpenSpec.ofChange skipPlaysSpec)

/-- ITS FALSE NEIGHBOUR: 'it returns false'. Refute it at one input. -/
def skipPlaysWrong : ChangeSpec := { name := "skipPlays", fn := fun _ => fun
  | [d1, d2, d3] => { results := [.lit (.bool false)], args := [d1, d2, d3] }
  | _ => none }
def SkipPlaysWrongFalsely : Prop := skipPlaysRow.holds Try.pinned (OpenSpec.ofChange skipPlaysWrong)

/-- 'bartizanlaw08.SkipHeights': WHATEVER THE INPUT: true; the input reads as it did. -/
def skipHeightsSpec : ChangeSpec := { name := "skipHeights", fn := fun _ => fun
  | [d1, d2] => { results := [.lit (.bool true)], args := [d1, d2] }
  | _ => none }
def skipHeightsRow : OpenClaim := { program := "ytekmlbbfipldoaa", sum := "8bfbc600af7d35c60da345a5cbf7a1370b5e7bb3fbf1b3099817cd79d8b5dbcd", func := "bartizan/bartizanlaw08.SkipHeights", spec := "skipHeights", inPlace := ["internal/bytealg.Compare"], unfollowed := true, recurses := true, apart := false }
def SkipHeightsSaid : Prop := skipHeightsRow.holds Try.pinned (OpenSpec.ofChange skipHeightsSpec)

/-- ITS FALSE NEIGHBOUR: 'it returns false'. Refute it at one input. -/
def skipHeightsWrong : ChangeSpec := { name := "skipHeights", fn := fun _ => fun
  | [d1, d2] => { results := [.lit (.bool false)], args := [d1, d2] }
  | _ => none }
def SkipHeightsWrongFalsely : Prop := skipHeightsRow.holds Try.pinned (OpenSpec.ofChange skipHeightsWrong)

/-- 'bartizanlaw08.SkipWalks': WHATEVER THE INPUT: true; the input reads as it did. -/
def skipWalksSpec : ChangeSpec := { name := "skipWalks", fn := fun _ => fun
  | [d] => { results := [.lit (.bool true)], args := [d] }
  | _ => none }
def skipWalksRow : OpenClaim := { program := "ytekmlbbfipldoaa", sum := "8bfbc600af7d35c60da345a5cbf7a1370b5e7bb3fbf1b3099817cd79d8b5dbcd", func := "bartizan/bartizanlaw08.SkipWalks", spec := "skipWalks", inPlace := ["internal/bytealg.Compare"], unfollowed := true, recurses := true, apart := false }
def SkipWalksSaid : Prop := skipWalksRow.holds Try.pinned (OpenSpec.ofChange skipWalksSpec)

/-- ITS FALSE NEIGHBOUR: 'it returns false'. Refute it at one input. -/
def skipWalksWrong : ChangeSpec := { name := "skipWalks", fn := fun _ => fun
  | [d] => { results := [.lit (.bool false)], args := [d] }
  | _ => none }
def SkipWalksWrongFalsely : Prop := skipWalksRow.holds Try.pinned (OpenSpec.ofChange skipWalksWrong)

/-- 'bartizanlaw08.SkipApart': WHATEVER THE INPUT: true; the input reads as it did. -/
def skipApartSpec : ChangeSpec := { name := "skipApart", fn := fun _ => fun
  | [d] => { results := [.lit (.bool true)], args := [d] }
  | _ => none }
def skipApartRow : OpenClaim := { program := "ytekmlbbfipldoaa", sum := "8bfbc600af7d35c60da345a5cbf7a1370b5e7bb3fbf1b3099817cd79d8b5dbcd", func := "bartizan/bartizanlaw08.SkipApart", spec := "skipApart", inPlace := ["internal/bytealg.Compare"], unfollowed := true, recurses := true, apart := false }
def SkipApartSaid : Prop := skipApartRow.holds Try.pinned (OpenSpec.ofChange skipApartSpec)

/-- ITS FALSE NEIGHBOUR: 'it returns false'. Refute it at one input. -/
def skipApartWrong : ChangeSpec := { name := "skipApart", fn := fun _ => fun
  | [d] => { results := [.lit (.bool false)], args := [d] }
  | _ => none }
def SkipApartWrongFalsely : Prop := skipApartRow.holds Try.pinned (OpenSpec.ofChange skipApartWrong)

/-- 'bartizanlaw08.SkipRows': WHATEVER THE INPUT: true; the input reads as it did. -/
def skipRowsSpec : ChangeSpec := { name := "skipRows", fn := fun _ => fun
  | [d] => { results := [.lit (.bool true)], args := [d] }
  | _ => none }
def skipRowsRow : OpenClaim := { program := "ytekmlbbfipldoaa", sum := "8bfbc600af7d35c60da345a5cbf7a1370b5e7bb3fbf1b3099817cd79d8b5dbcd", func := "bartizan/bartizanlaw08.SkipRows", spec := "skipRows", inPlace := ["internal/bytealg.Compare"], unfollowed := true, recurses := true, apart := false }
def SkipRowsSaid : Prop := skipRowsRow.holds Try.pinned (OpenSpec.ofChange skipRowsSpec)

/-- ITS FALSE NEIGHBOUR: 'it returns false'. Refute it at one input. -/
def skipRowsWrong : ChangeSpec := { name := "skipRows", fn := fun _ => fun
  | [d] => { results := [.lit (.bool false)], args := [d] }
  | _ => none }
def SkipRowsWrongFalsely : Prop := skipRowsRow.holds Try.pinned (OpenSpec.ofChange skipRowsWrong)

/-- 'bartizanlaw08.SkipTwice': WHATEVER THE INPUT: true; the input reads as it did. -/
def skipTwiceSpec : ChangeSpec := { name := "skipTwice", fn := fun _ => fun
  | [d1, d2, d3] => { results := [.lit (.bool true)], args := [d1, d2, d3] }
  | _ => none }
def skipTwiceRow : OpenClaim := { program := "ytekmlbbfipldoaa", sum := "8bfbc600af7d35c60da345a5cbf7a1370b5e7bb3fbf1b3099817cd79d8b5dbcd", func := "bartizan/bartizanlaw08.SkipTwice", spec := "skipTwice", inPlace := ["internal/bytealg.Compare"], unfollowed := true, recurses := true, apart := false }
def SkipTwiceSaid : Prop := skipTwiceRow.holds Try.pinned (OpenSpec.ofChange skipTwiceSpec)

/-- ITS FALSE NEIGHBOUR: 'it returns false'. Refute it at one input. -/
def skipTwiceWrong : ChangeSpec := { name := "skipTwice", fn := fun _ => fun
  | [d1, d2, d3] => { results := [.lit (.bool false)], args := [d1, d2, d3] }
  | _ => none }
def SkipTwiceWrongFalsely : Prop := skipTwiceRow.holds Try.pinned (OpenSpec.ofChange skipTwiceWrong)

/- THE SECOND FORM. 'bulk': how many values and letters a reading holds, each counted each time it is reached (what is shared counts as often as it is met; a slice's spare places count too). A statement '..UptoSaid' is the law's where the arguments, and the package variables that the reading takes, are together of bulk at most 1048576: NARROWER than '..Said'. Prove '..Said' where nothing that the law and all that it calls make is longer than what came in: it says more and counts as full. Else prove '..UptoSaid'. A law counts once. -/
mutual
def uptoBulk {H : Type} : DataW H → Nat
  | .lit (.string bytes) => bytes.length + 1
  | .lit _ => 1
  | .nil => 1
  | .ptr d => uptoBulk d + 1
  | .slice elems spare => uptoBulkAll elems + uptoBulkAll spare + 1
  | .agg parts => uptoBulkAll parts + 1
  | .iface _ d => uptoBulk d + 1
  | .map entries => uptoBulkEntries entries + 1
  | .held _ => 1
def uptoBulkAll {H : Type} : List (DataW H) → Nat
  | [] => 0
  | d :: r => uptoBulk d + uptoBulkAll r
def uptoBulkEntries {H : Type} : List (Lit × DataW H) → Nat
  | [] => 0
  | x :: r => uptoBulkEntry x + uptoBulkEntries r
def uptoBulkEntry {H : Type} : Lit × DataW H → Nat
  | (.string bytes, d) => bytes.length + uptoBulk d + 1
  | (_, d) => uptoBulk d + 1
 end
def uptoSmall : (H : Type) → List (DataW H) → Bool := fun _ ds => decide (uptoBulkAll ds ≤ 1048576)
def OpenSpec.upto (s : _root_.Go.ChangeSpec) : _root_.Go.OpenSpec := { _root_.Go.OpenSpec.ofChange s with cond := some uptoSmall }

/-- 'bartizanlaw08.SkipPlays', WHERE WHAT IT READS IS OF BULK AT MOST 1048576: true; the input reads as it did. -/
def skipPlaysUptoRow : OpenClaim := { program := "ytekmlbbfipldoaa", sum := "8bfbc600af7d35c60da345a5cbf7a1370b5e7bb3fbf1b3099817cd79d8b5dbcd", func := "bartizan/bartizanlaw08.SkipPlays", spec := "skipPlays", inPlace := ["internal/bytealg.Compare"], unfollowed := true, recurses := true, apart := false, narrowed := true }
def SkipPlaysUptoSaid : Prop := skipPlaysUptoRow.holds Try.pinned (OpenSpec.upto skipPlaysSpec)

/-- 'bartizanlaw08.SkipHeights', WHERE WHAT IT READS IS OF BULK AT MOST 1048576: true; the input reads as it did. -/
def skipHeightsUptoRow : OpenClaim := { program := "ytekmlbbfipldoaa", sum := "8bfbc600af7d35c60da345a5cbf7a1370b5e7bb3fbf1b3099817cd79d8b5dbcd", func := "bartizan/bartizanlaw08.SkipHeights", spec := "skipHeights", inPlace := ["internal/bytealg.Compare"], unfollowed := true, recurses := true, apart := false, narrowed := true }
def SkipHeightsUptoSaid : Prop := skipHeightsUptoRow.holds Try.pinned (OpenSpec.upto skipHeightsSpec)

/-- 'bartizanlaw08.SkipWalks', WHERE WHAT IT READS IS OF BULK AT MOST 1048576: true; the input reads as it did. -/
def skipWalksUptoRow : OpenClaim := { program := "ytekmlbbfipldoaa", sum := "8bfbc600af7d35c60da345a5cbf7a1370b5e7bb3fbf1b3099817cd79d8b5dbcd", func := "bartizan/bartizanlaw08.SkipWalks", spec := "skipWalks", inPlace := ["internal/bytealg.Compare"], unfollowed := true, recurses := true, apart := false, narrowed := true }
def SkipWalksUptoSaid : Prop := skipWalksUptoRow.holds Try.pinned (OpenSpec.upto skipWalksSpec)

/-- 'bartizanlaw08.SkipApart', WHERE WHAT IT READS IS OF BULK AT MOST 1048576: true; the input reads as it did. -/
def skipApartUptoRow : OpenClaim := { program := "ytekmlbbfipldoaa", sum := "8bfbc600af7d35c60da345a5cbf7a1370b5e7bb3fbf1b3099817cd79d8b5dbcd", func := "bartizan/bartizanlaw08.SkipApart", spec := "skipApart", inPlace := ["internal/bytealg.Compare"], unfollowed := true, recurses := true, apart := false, narrowed := true }
def SkipApartUptoSaid : Prop := skipApartUptoRow.holds Try.pinned (OpenSpec.upto skipApartSpec)

/-- 'bartizanlaw08.SkipRows', WHERE WHAT IT READS IS OF BULK AT MOST 1048576: true; the input reads as it did. -/
def skipRowsUptoRow : OpenClaim := { program := "ytekmlbbfipldoaa", sum := "8bfbc600af7d35c60da345a5cbf7a1370b5e7bb3fbf1b3099817cd79d8b5dbcd", func := "bartizan/bartizanlaw08.SkipRows", spec := "skipRows", inPlace := ["internal/bytealg.Compare"], unfollowed := true, recurses := true, apart := false, narrowed := true }
def SkipRowsUptoSaid : Prop := skipRowsUptoRow.holds Try.pinned (OpenSpec.upto skipRowsSpec)

/-- 'bartizanlaw08.SkipTwice', WHERE WHAT IT READS IS OF BULK AT MOST 1048576: true; the input reads as it did. -/
def skipTwiceUptoRow : OpenClaim := { program := "ytekmlbbfipldoaa", sum := "8bfbc600af7d35c60da345a5cbf7a1370b5e7bb3fbf1b3099817cd79d8b5dbcd", func := "bartizan/bartizanlaw08.SkipTwice", spec := "skipTwice", inPlace := ["internal/bytealg.Compare"], unfollowed := true, recurses := true, apart := false, narrowed := true }
def SkipTwiceUptoSaid : Prop := skipTwiceUptoRow.holds Try.pinned (OpenSpec.upto skipTwiceSpec)

end Rows
end Go.Proofs.Ytekmlbbfipldoaa
