/- atom.TakeText, where there is a text. -/
import Derived.Test.YtfgecjljnaimoaaTakeText
import Derived.Deep.RegionWith
namespace Go.Proofs.Ytfgecjljnaimoaa
open Go.RowKit

end Go.Proofs.Ytfgecjljnaimoaa
