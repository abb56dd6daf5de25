/- ikey.Bytes. -/
import Derived.Test.YtonblnfjoeeadaaKeyTail
import Derived.Test.YtonblnfjoeeadaaText
import Derived.Deep.RegionWith
namespace Go.Proofs.Ytonblnfjoeeadaa
open Go.RowKit

/-- a version's bytes -/
def keyB (l : List UInt8) (s k : Nat) : List UInt8 := textB l ++ tailB s k

end Go.Proofs.Ytonblnfjoeeadaa
