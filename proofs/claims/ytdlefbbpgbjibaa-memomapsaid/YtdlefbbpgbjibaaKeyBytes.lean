/- ikey.Bytes. -/
import Derived.Test.YtdlefbbpgbjibaaKeyTail
import Derived.Test.YtdlefbbpgbjibaaText
import Derived.Deep.RegionWith
namespace Go.Proofs.Ytdlefbbpgbjibaa
open Go.RowKit

/-- a version's bytes -/
def keyB (l : List UInt8) (s k : Nat) : List UInt8 := textB l ++ tailB s k

end Go.Proofs.Ytdlefbbpgbjibaa
