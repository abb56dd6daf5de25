/- bartizanref03.Read. -/
import Derived.Test.YtbmpnafbmgcniaaKeyReadOk
namespace Go.Proofs.Ytbmpnafbmgcniaa
open Go.RowKit

end Go.Proofs.Ytbmpnafbmgcniaa
