/- KeyNewest, as the frame asks it. -/
import Derived.Test.YtkcdfmbjmacafaaNewestWalk
namespace Go.Proofs.Ytkcdfmbjmacafaa
open Go.RowKit

theorem keyNewest_walk (a0 : Option Addr) (len0 cap0 : Nat) (z0 : List Int) (a1 : Option Addr) (len1 cap1 : Nat) (z1 : List Int) (a2 : Int) (w : World)
    (w0 : IsRow .u8 w a0 len0 cap0 z0) (w1 : IsRow .u64 w a1 len1 cap1 z1) (_w2 : (Lit.int .u64 a2).wf = true) :
    Calls Try.prog 8 #[.slice a0 len0 cap0, .slice a1 len1 cap1, .int .u64 a2] w fun e w' => e = .returned (.bool true) ∧ Below w.heap.size w w' := by
  have hl : len1 ≤ 9223372036854775807 := by
    rcases w1 with ⟨_, rfl, _⟩ | ⟨x, _, hl, hm, _⟩
    · omega
    · unfold maxLen at hm; omega
  exact newest_walk w _ _ _ rfl (List.length_take_le _ _) a1 len1 cap1 a2 hl (arg_of w0) (nums64_of w1)

end Go.Proofs.Ytkcdfmbjmacafaa
