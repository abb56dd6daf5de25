/- Same and bytes.Equal. -/
import Derived.Test.YtnnedoohppobpaaBase
namespace Go.Proofs.Ytnnedoohppobpaa
open Go.RowKit

end Go.Proofs.Ytnnedoohppobpaa
