/- atom.TakeText, where there is a text. -/
import Derived.Test.YtifdomhmmhepcaaTakeText
import Derived.Deep.RegionWith
namespace Go.Proofs.Ytifdomhmmhepcaa
open Go.RowKit

end Go.Proofs.Ytifdomhmmhepcaa
