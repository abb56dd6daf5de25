/- atom.TakeText. -/
import Derived.Test.YtekmlbbfipldoaaTake2
namespace Go.Proofs.Ytekmlbbfipldoaa
open Go.RowKit

end Go.Proofs.Ytekmlbbfipldoaa
