/- atom.fresh. -/
import Derived.Test.YtfgecjljnaimoaaWide
namespace Go.Proofs.Ytfgecjljnaimoaa
open Go.RowKit

end Go.Proofs.Ytfgecjljnaimoaa
