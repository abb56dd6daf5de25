/- small: a version whose key is cut; key: a version of a text. -/
import Derived.Test.YthcoblmfmbmdkaaConvStr
import Derived.Test.YthcoblmfmbmdkaaKeyCheck
namespace Go.Proofs.Ythcoblmfmbmdkaa
open Go.RowKit

end Go.Proofs.Ythcoblmfmbmdkaa
