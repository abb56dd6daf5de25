/- atom.TakeText, where there is a text. -/
import Derived.Test.YtnnedoohppobpabTakeText
import Derived.Deep.RegionWith
namespace Go.Proofs.Ytnnedoohppobpab
open Go.RowKit

end Go.Proofs.Ytnnedoohppobpab
