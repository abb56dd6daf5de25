/- ikey.Bytes. -/
import Derived.Test.YthaglfdefiipdaaKeyTail
import Derived.Test.YthaglfdefiipdaaText
import Derived.Deep.RegionWith
namespace Go.Proofs.Ythaglfdefiipdaa
open Go.RowKit

/-- a version's bytes -/
def keyB (l : List UInt8) (s k : Nat) : List UInt8 := textB l ++ tailB s k

end Go.Proofs.Ythaglfdefiipdaa
