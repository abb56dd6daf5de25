/- bartizanref01's Take, forms of more bytes. -/
import Derived.Test.YtfgecjljnaimoaaRefTake
namespace Go.Proofs.Ytfgecjljnaimoaa
open Go.RowKit

end Go.Proofs.Ytfgecjljnaimoaa
