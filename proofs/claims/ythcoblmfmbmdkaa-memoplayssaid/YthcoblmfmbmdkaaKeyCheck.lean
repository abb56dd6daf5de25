/- Is a version right: ikey.Check, and the document's own answer. -/
import Derived.Test.YthcoblmfmbmdkaaGrpA
namespace Go.Proofs.Ythcoblmfmbmdkaa
open Go.RowKit

/-- a struct that comes in is laid anew -/
theorem below_box (w : World) (cs : Array Value) (t : TypeId) : Below w.heap.size w (w.alloc (.cells cs t)) := (Below.refl _ _).alloc (Nat.le_refl _) _

/-- what is not right with a version of so long a key -/
def chk (n : Nat) (s k : Int) : Int :=
  if 72057594037927935 < s ∨ (k ≠ 1 ∧ k ≠ 2) then 1 else if n = 0 then 2 else if 64 < n then 3 else 0

theorem check_any (w : World) (ao : Option Addr) (n cap : Nat) (s k : Int) (hs : 0 ≤ s) (hk : 0 ≤ k) :
    Calls Try.prog 84 #[.agg #[.slice ao n cap, .int .u64 s, .int .u8 k]] w fun e w' => e = .returned (.int .i64 (chk n s k)) ∧ Below w.heap.size w w' := by
  unfold chk
  go_enter Try.func84, Try.ntmps84
  go_wp2
  all_goals (go_ret)
  all_goals (refine ⟨ret_int ?_, below_box _ _ _⟩; grind)

end Go.Proofs.Ythcoblmfmbmdkaa
