/- atom.fresh. -/
import Derived.Test.YtnnedoohppobpaaWide
namespace Go.Proofs.Ytnnedoohppobpaa
open Go.RowKit

end Go.Proofs.Ytnnedoohppobpaa
