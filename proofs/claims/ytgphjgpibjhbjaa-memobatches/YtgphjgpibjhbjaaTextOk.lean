/- atom.TakeText, where there is a text. -/
import Derived.Test.YtgphjgpibjhbjaaTakeText
import Derived.Deep.RegionWith
namespace Go.Proofs.Ytgphjgpibjhbjaa
open Go.RowKit

end Go.Proofs.Ytgphjgpibjhbjaa
