/- atom.TakeText, where there is a text. -/
import Derived.Test.YtekmlbbfipldoaaTakeText
import Derived.Deep.RegionWith
namespace Go.Proofs.Ytekmlbbfipldoaa
open Go.RowKit

end Go.Proofs.Ytekmlbbfipldoaa
