/- Same and bytes.Equal. -/
import Derived.Test.YtfgecjljnaimoaaBase
namespace Go.Proofs.Ytfgecjljnaimoaa
open Go.RowKit

end Go.Proofs.Ytfgecjljnaimoaa
