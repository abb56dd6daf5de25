/- atom.Num, its short forms. -/
import Derived.Test.YtnnedoohppobpabSame
namespace Go.Proofs.Ytnnedoohppobpab
open Go.RowKit

end Go.Proofs.Ytnnedoohppobpab
