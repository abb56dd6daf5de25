/- KeyOrders, as the frame asks it. -/
import Derived.Test.YtkcdfmbjmacafaaOrdersWalk
namespace Go.Proofs.Ytkcdfmbjmacafaa
open Go.RowKit

theorem keyOrders_walk (a0 : Option Addr) (len0 cap0 : Nat) (z0 : List Int) (s0 e0 : Int) (a1 : Option Addr) (len1 cap1 : Nat) (z1 : List Int) (s1 e1 : Int) (a2 : Option Addr) (len2 cap2 : Nat) (z2 : List Int) (s2 e2 : Int) (w : World)
    (w0 : IsRow .u8 w a0 len0 cap0 z0) (_ws0 : (Lit.int .u64 s0).wf = true) (_wk0 : (Lit.int .u8 e0).wf = true) (w1 : IsRow .u8 w a1 len1 cap1 z1) (_ws1 : (Lit.int .u64 s1).wf = true) (_wk1 : (Lit.int .u8 e1).wf = true) (w2 : IsRow .u8 w a2 len2 cap2 z2) (_ws2 : (Lit.int .u64 s2).wf = true) (_wk2 : (Lit.int .u8 e2).wf = true) :
    Calls Try.prog 3 #[.agg #[.slice a0 len0 cap0, .int .u64 s0, .int .u8 e0], .agg #[.slice a1 len1 cap1, .int .u64 s1, .int .u8 e1], .agg #[.slice a2 len2 cap2, .int .u64 s2, .int .u8 e2]] w fun e w' => e = .returned (.bool true) ∧ Below w.heap.size w w' :=
  orders_walk w _ _ _ _ _ _ s0 e0 s1 e1 s2 e2 (arg_of w0) (arg_of w1) (arg_of w2)

end Go.Proofs.Ytkcdfmbjmacafaa
