/- bartizanref01's Take, forms of more bytes. -/
import Derived.Test.YtekmlbbfipldoaaRefTake
namespace Go.Proofs.Ytekmlbbfipldoaa
open Go.RowKit

end Go.Proofs.Ytekmlbbfipldoaa
