/- small: a version whose key is cut; key: a version of a text. -/
import Derived.Test.YtekmlbbfipldoaaConvStr
import Derived.Test.YtekmlbbfipldoaaKeyCheck
namespace Go.Proofs.Ytekmlbbfipldoaa
open Go.RowKit

end Go.Proofs.Ytekmlbbfipldoaa
