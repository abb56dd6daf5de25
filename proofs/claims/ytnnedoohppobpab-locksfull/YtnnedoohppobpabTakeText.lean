/- atom.TakeText. -/
import Derived.Test.YtnnedoohppobpabTake2
namespace Go.Proofs.Ytnnedoohppobpab
open Go.RowKit

end Go.Proofs.Ytnnedoohppobpab
