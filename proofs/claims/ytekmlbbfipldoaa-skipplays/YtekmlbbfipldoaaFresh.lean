/- atom.fresh. -/
import Derived.Test.YtekmlbbfipldoaaWide
namespace Go.Proofs.Ytekmlbbfipldoaa
open Go.RowKit

end Go.Proofs.Ytekmlbbfipldoaa
