/- atom.Num, its short forms. -/
import Derived.Test.YtekmlbbfipldoaaSame
namespace Go.Proofs.Ytekmlbbfipldoaa
open Go.RowKit

end Go.Proofs.Ytekmlbbfipldoaa
