/- ikey.Bytes. -/
import Derived.Test.YthcoblmfmbmdkaaKeyTail
import Derived.Test.YthcoblmfmbmdkaaText
import Derived.Deep.RegionWith
namespace Go.Proofs.Ythcoblmfmbmdkaa
open Go.RowKit

/-- a version's bytes -/
def keyB (l : List UInt8) (s k : Nat) : List UInt8 := textB l ++ tailB s k

end Go.Proofs.Ythcoblmfmbmdkaa
