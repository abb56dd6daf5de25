/- Is a version right: ikey.Check, and the document's own answer. -/
import Derived.Test.YtifdomhmmhepcaaCut
namespace Go.Proofs.Ytifdomhmmhepcaa
open Go.RowKit

/-- a struct that comes in is laid anew -/
theorem below_box (w : World) (cs : Array Value) (t : TypeId) : Below w.heap.size w (w.alloc (.cells cs t)) := (Below.refl _ _).alloc (Nat.le_refl _) _

/-- what is not right with a version of so long a key -/
def chk (n : Nat) (s k : Int) : Int :=
  if 72057594037927935 < s ∨ (k ≠ 1 ∧ k ≠ 2) then 1 else if n = 0 then 2 else if 64 < n then 3 else 0

end Go.Proofs.Ytifdomhmmhepcaa
