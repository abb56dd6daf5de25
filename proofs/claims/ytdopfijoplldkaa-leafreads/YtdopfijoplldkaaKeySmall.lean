/- small: a version whose key is cut; key: a version of a text. -/
import Derived.Test.YtdopfijoplldkaaConvStr
import Derived.Test.YtdopfijoplldkaaKeyCheck
namespace Go.Proofs.Ytdopfijoplldkaa
open Go.RowKit

end Go.Proofs.Ytdopfijoplldkaa
