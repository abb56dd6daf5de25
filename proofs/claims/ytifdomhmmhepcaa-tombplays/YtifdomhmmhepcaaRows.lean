/-
  No cell of these rows narrows 'for every input' (looked for: loops, veiled, ifaces, maps, wideKeys, modest, calm, conditions, laid).
  DERIVED. THE GIVEN ROWS OF THIS SEAT. 5 by the template 'for every input the law returns true; each argument reads behind the call as it read before'; 0 by the template 'total and deterministic' (their statements: YtifdomhmmhepcaaTotals.lean).
  GIVEN WITH THE SEED: the statements are not yours to turn. If you find one false, say at which input.
  Laid BY PROGRAM, IN A SANDBOX (cutbox-rows.mjs): the forced cells as the released guide's own fill.sh prints them over the translation 4037c1b30a23d213… (all of the seat's roots in one cut). By AI agents, Wed Nov 11 2026. No macro, syntax, notation, axiom, sorry.
-/
import Derived.Test.YtifdomhmmhepcaaChecked
import GoSem.Claim
import GoSem.ClaimJoined
import GoSem.ClaimMapViews
import Derived.JoinedTies
import Derived.KernelRfl
namespace Go.Proofs.Ytifdomhmmhepcaa
/- THE CELL 'sum', in the pinned program and in every row, IS THE sha256 OF THE DUMP (.gsa) THAT YtifdomhmmhepcaaProg.lean LOADS. Nothing in Lean hashes anything: it is a label: what it is worth is what the hold of that sum in a sandbox is worth. -/
noncomputable def Try.pinned : Pinned := { name := "ytifdomhmmhepcaa", sum := "4037c1b30a23d21371744ddbd60a46b27e0f507263fb1defc56417f46ce6ab13", checked := Try.checked }
namespace Rows
def none {H : Type} : Left H := { results := [], args := [] }

/-- 'bartizanlaw09.TombPlays': WHATEVER THE INPUT: true; the input reads as it did. -/
def tombPlaysSpec : ChangeSpec := { name := "tombPlays", fn := fun _ => fun
  | [d1, d2, d3] => { results := [.lit (.bool true)], args := [d1, d2, d3] }
  | _ => none }
def tombPlaysRow : OpenClaim := { program := "ytifdomhmmhepcaa", sum := "4037c1b30a23d21371744ddbd60a46b27e0f507263fb1defc56417f46ce6ab13", func := "bartizan/bartizanlaw09.TombPlays", spec := "tombPlays", inPlace := ["internal/bytealg.Compare"], unfollowed := true, recurses := true, apart := false }
def TombPlaysSaid : Prop := tombPlaysRow.holds Try.pinned (OpenSpec.ofChange tombPlaysSpec)

/-- ITS FALSE NEIGHBOUR: 'it returns false'. Refute it at one input. -/
def tombPlaysWrong : ChangeSpec := { name := "tombPlays", fn := fun _ => fun
  | [d1, d2, d3] => { results := [.lit (.bool false)], args := [d1, d2, d3] }
  | _ => none }
def TombPlaysWrongFalsely : Prop := tombPlaysRow.holds Try.pinned (OpenSpec.ofChange tombPlaysWrong)

/-- 'bartizanlaw09.TombFragments': WHATEVER THE INPUT: true; the input reads as it did. -/
def tombFragmentsSpec : ChangeSpec := { name := "tombFragments", fn := fun _ => fun
  | [d] => { results := [.lit (.bool true)], args := [d] }
  | _ => none }
def tombFragmentsRow : OpenClaim := { program := "ytifdomhmmhepcaa", sum := "4037c1b30a23d21371744ddbd60a46b27e0f507263fb1defc56417f46ce6ab13", func := "bartizan/bartizanlaw09.TombFragments", spec := "tombFragments", inPlace := ["internal/bytealg.Compare"], unfollowed := true, recurses := true, apart := false }
def TombFragmentsSaid : Prop := tombFragmentsRow.holds Try.pinned (OpenSpec.ofChange tombFragmentsSpec)

/-- ITS FALSE NEIGHBOUR: 'it returns false'. Refute it at one input. -/
def tombFragmentsWrong : ChangeSpec := { name := "tombFragments", fn := fun _ => fun
  | [d] => { results := [.lit (.bool false)], args := [d] }
  | _ => none }
def TombFragmentsWrongFalsely : Prop := tombFragmentsRow.holds Try.pinned (OpenSpec.ofChange tombFragmentsWrong)

/-- 'bartizanlaw09.TombSame': WHATEVER THE INPUT: true; the input reads as it did. -/
def tombSameSpec : ChangeSpec := { name := "tombSame", fn := fun _ => fun
  | [d1, d2, d3] => { results := [.lit (.bool true)], args := [d1, d2, d3] }
  | _ => none }
def tombSameRow : OpenClaim := { program := "ytifdomhmmhepcaa", sum := "4037c1b30a23d21371744ddbd60a46b27e0f507263fb1defc56417f46ce6ab13", func := "bartizan/bartizanlaw09.TombSame", spec := "tombSame", inPlace := ["internal/bytealg.Compare"], unfollowed := true, recurses := true, apart := false }
def TombSameSaid : Prop := tombSameRow.holds Try.pinned (OpenSpec.ofChange tombSameSpec)

/-- ITS FALSE NEIGHBOUR: 'it returns false'. Refute it at one input. -/
def tombSameWrong : ChangeSpec := { name := "tombSame", fn := fun _ => fun
  | [d1, d2, d3] => { results := [.lit (.bool false)], args := [d1, d2, d3] }
  | _ => none }
def TombSameWrongFalsely : Prop := tombSameRow.holds Try.pinned (OpenSpec.ofChange tombSameWrong)

/-- 'bartizanlaw09.TombClips': WHATEVER THE INPUT: true; the input reads as it did. -/
def tombClipsSpec : ChangeSpec := { name := "tombClips", fn := fun _ => fun
  | [d1, d2, d3, d4] => { results := [.lit (.bool true)], args := [d1, d2, d3, d4] }
  | _ => none }
def tombClipsRow : OpenClaim := { program := "ytifdomhmmhepcaa", sum := "4037c1b30a23d21371744ddbd60a46b27e0f507263fb1defc56417f46ce6ab13", func := "bartizan/bartizanlaw09.TombClips", spec := "tombClips", inPlace := ["internal/bytealg.Compare"], unfollowed := true, recurses := true, apart := false }
def TombClipsSaid : Prop := tombClipsRow.holds Try.pinned (OpenSpec.ofChange tombClipsSpec)

/-- ITS FALSE NEIGHBOUR: 'it returns false'. Refute it at one input. -/
def tombClipsWrong : ChangeSpec := { name := "tombClips", fn := fun _ => fun
  | [d1, d2, d3, d4] => { results := [.lit (.bool false)], args := [d1, d2, d3, d4] }
  | _ => none }
def TombClipsWrongFalsely : Prop := tombClipsRow.holds Try.pinned (OpenSpec.ofChange tombClipsWrong)

/-- 'bartizanlaw09.TombMore': WHATEVER THE INPUT: true; the input reads as it did. -/
def tombMoreSpec : ChangeSpec := { name := "tombMore", fn := fun _ => fun
  | [d1, d2, d3, d4] => { results := [.lit (.bool true)], args := [d1, d2, d3, d4] }
  | _ => none }
def tombMoreRow : OpenClaim := { program := "ytifdomhmmhepcaa", sum := "4037c1b30a23d21371744ddbd60a46b27e0f507263fb1defc56417f46ce6ab13", func := "bartizan/bartizanlaw09.TombMore", spec := "tombMore", inPlace := ["internal/bytealg.Compare"], unfollowed := true, recurses := true, apart := false }
def TombMoreSaid : Prop := tombMoreRow.holds Try.pinned (OpenSpec.ofChange tombMoreSpec)

/-- ITS FALSE NEIGHBOUR: 'it returns false'. Refute it at one input. -/
def tombMoreWrong : ChangeSpec := { name := "tombMore", fn := fun _ => fun
  | [d1, d2, d3, d4] => { results := [.lit (.bool false)], args := [d1, d2, d3, d4] }
  | _ => none }
def TombMoreWrongFalsely : Prop := tombMoreRow.holds Try.pinned (OpenSpec.ofChange tombMoreWrong)

/- THE SECOND FORM. 'bulk': how many values and letters a reading holds, each counted each time it is reached (what is shared counts as often as it is met; a slice's spare places count too). A statement '..UptoSaid' is the law's where the arguments, and the package variables that the reading takes, are together of bulk at most 1048576: NARROWER than '..Said'. Prove '..Said' where nothing that the law and all that it calls make is longer than what came in: it says more and counts as full. Else prove '..UptoSaid'. A law counts once. -/
mutual
def uptoBulk {H : Type} : DataW H → Nat
  | .lit (.string bytes) => bytes.length + 1
  | .lit _ => 1
  | .nil => 1
  | .ptr d => uptoBulk d + 1
  | .slice elems spare => uptoBulkAll elems + uptoBulkAll spare + 1
  | .agg parts => uptoBulkAll parts + 1
  | .iface _ d => uptoBulk d + 1
  | .map entries => uptoBulkEntries entries + 1
  | .held _ => 1
def uptoBulkAll {H : Type} : List (DataW H) → Nat
  | [] => 0
  | d :: r => uptoBulk d + uptoBulkAll r
def uptoBulkEntries {H : Type} : List (Lit × DataW H) → Nat
  | [] => 0
  | x :: r => uptoBulkEntry x + uptoBulkEntries r
def uptoBulkEntry {H : Type} : Lit × DataW H → Nat
  | (.string bytes, d) => bytes.length + uptoBulk d + 1
  | (_, d) => uptoBulk d + 1
 end
def uptoSmall : (H : Type) → List (DataW H) → Bool := fun _ ds => decide (uptoBulkAll ds ≤ 1048576)
def OpenSpec.upto (s : _root_.Go.ChangeSpec) : _root_.Go.OpenSpec := { _root_.Go.OpenSpec.ofChange s with cond := some uptoSmall }

/-- 'bartizanlaw09.TombPlays', WHERE WHAT IT READS IS OF BULK AT MOST 1048576: true; the input reads as it did. -/
def tombPlaysUptoRow : OpenClaim := { program := "ytifdomhmmhepcaa", sum := "4037c1b30a23d21371744ddbd60a46b27e0f507263fb1defc56417f46ce6ab13", func := "bartizan/bartizanlaw09.TombPlays", spec := "tombPlays", inPlace := ["internal/bytealg.Compare"], unfollowed := true, recurses := true, apart := false, narrowed := true }
def TombPlaysUptoSaid : Prop := tombPlaysUptoRow.holds Try.pinned (OpenSpec.upto tombPlaysSpec)

/-- 'bartizanlaw09.TombFragments', WHERE WHAT IT READS IS OF BULK AT MOST 1048576: true; the input reads as it did. -/
def tombFragmentsUptoRow : OpenClaim := { program := "ytifdomhmmhepcaa", sum := "4037c1b30a23d21371744ddbd60a46b27e0f507263fb1defc56417f46ce6ab13", func := "bartizan/bartizanlaw09.TombFragments", spec := "tombFragments", inPlace := ["internal/bytealg.Compare"], unfollowed := true, recurses := true, apart := false, narrowed := true }
def TombFragmentsUptoSaid : Prop := tombFragmentsUptoRow.holds Try.pinned (OpenSpec.upto tombFragmentsSpec)

/-- 'bartizanlaw09.TombSame', WHERE WHAT IT READS IS OF BULK AT MOST 1048576: true; the input reads as it did. -/
def tombSameUptoRow : OpenClaim := { program := "ytifdomhmmhepcaa", sum := "4037c1b30a23d21371744ddbd60a46b27e0f507263fb1defc56417f46ce6ab13", func := "bartizan/bartizanlaw09.TombSame", spec := "tombSame", inPlace := ["internal/bytealg.Compare"], unfollowed := true, recurses := true, apart := false, narrowed := true }
def TombSameUptoSaid : Prop := tombSameUptoRow.holds Try.pinned (OpenSpec.upto tombSameSpec)

/-- 'bartizanlaw09.TombClips', WHERE WHAT IT READS IS OF BULK AT MOST 1048576: true; the input reads as it did. -/
def tombClipsUptoRow : OpenClaim := { program := "ytifdomhmmhepcaa", sum := "4037c1b30a23d21371744ddbd60a46b27e0f507263fb1defc56417f46ce6ab13", func := "bartizan/bartizanlaw09.TombClips", spec := "tombClips", inPlace := ["internal/bytealg.Compare"], unfollowed := true, recurses := true, apart := false, narrowed := true }
def TombClipsUptoSaid : Prop := tombClipsUptoRow.holds Try.pinned (OpenSpec.upto tombClipsSpec)

/-- 'bartizanlaw09.TombMore', WHERE WHAT IT READS IS OF BULK AT MOST 1048576: true; the input reads as it did. -/
def tombMoreUptoRow : OpenClaim := { program := "ytifdomhmmhepcaa", sum := "4037c1b30a23d21371744ddbd60a46b27e0f507263fb1defc56417f46ce6ab13", func := "bartizan/bartizanlaw09.TombMore", spec := "tombMore", inPlace := ["internal/bytealg.Compare"], unfollowed := true, recurses := true, apart := false, narrowed := true }
def TombMoreUptoSaid : Prop := tombMoreUptoRow.holds Try.pinned (OpenSpec.upto tombMoreSpec)

end Rows
end Go.Proofs.Ytifdomhmmhepcaa
