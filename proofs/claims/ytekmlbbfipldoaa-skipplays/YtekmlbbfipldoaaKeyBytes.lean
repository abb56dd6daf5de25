/- ikey.Bytes. -/
import Derived.Test.YtekmlbbfipldoaaKeyTail
import Derived.Test.YtekmlbbfipldoaaText
import Derived.Deep.RegionWith
namespace Go.Proofs.Ytekmlbbfipldoaa
open Go.RowKit

/-- a version's bytes -/
def keyB (l : List UInt8) (s k : Nat) : List UInt8 := textB l ++ tailB s k

end Go.Proofs.Ytekmlbbfipldoaa
