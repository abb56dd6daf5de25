/- bartizanref03.Read. -/
import Derived.Test.YtdopfijoplldkaaKeyReadOk
namespace Go.Proofs.Ytdopfijoplldkaa
open Go.RowKit

end Go.Proofs.Ytdopfijoplldkaa
