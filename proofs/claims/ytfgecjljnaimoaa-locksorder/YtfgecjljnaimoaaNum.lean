/- atom.Num, its short forms. -/
import Derived.Test.YtfgecjljnaimoaaSame
namespace Go.Proofs.Ytfgecjljnaimoaa
open Go.RowKit

end Go.Proofs.Ytfgecjljnaimoaa
