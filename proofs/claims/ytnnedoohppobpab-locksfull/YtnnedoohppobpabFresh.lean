/- atom.fresh. -/
import Derived.Test.YtnnedoohppobpabWide
namespace Go.Proofs.Ytnnedoohppobpab
open Go.RowKit

end Go.Proofs.Ytnnedoohppobpab
