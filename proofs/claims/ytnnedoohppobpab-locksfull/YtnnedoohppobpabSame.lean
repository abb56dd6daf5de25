/- Same and bytes.Equal. -/
import Derived.Test.YtnnedoohppobpabBase
namespace Go.Proofs.Ytnnedoohppobpab
open Go.RowKit

end Go.Proofs.Ytnnedoohppobpab
