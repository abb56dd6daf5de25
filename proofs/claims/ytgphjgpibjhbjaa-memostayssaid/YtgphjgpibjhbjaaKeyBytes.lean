/- ikey.Bytes. -/
import Derived.Test.YtgphjgpibjhbjaaKeyTail
import Derived.Test.YtgphjgpibjhbjaaText
import Derived.Deep.RegionWith
namespace Go.Proofs.Ytgphjgpibjhbjaa
open Go.RowKit

/-- a version's bytes -/
def keyB (l : List UInt8) (s k : Nat) : List UInt8 := textB l ++ tailB s k

end Go.Proofs.Ytgphjgpibjhbjaa
