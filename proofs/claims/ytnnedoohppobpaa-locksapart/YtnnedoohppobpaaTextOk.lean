/- atom.TakeText, where there is a text. -/
import Derived.Test.YtnnedoohppobpaaTakeText
import Derived.Deep.RegionWith
namespace Go.Proofs.Ytnnedoohppobpaa
open Go.RowKit

end Go.Proofs.Ytnnedoohppobpaa
