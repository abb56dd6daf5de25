/- small: a version whose key is cut; key: a version of a text. -/
import Derived.Test.YtbmpnafbmgcniaaConvStr
import Derived.Test.YtbmpnafbmgcniaaKeyCheck
namespace Go.Proofs.Ytbmpnafbmgcniaa
open Go.RowKit

end Go.Proofs.Ytbmpnafbmgcniaa
