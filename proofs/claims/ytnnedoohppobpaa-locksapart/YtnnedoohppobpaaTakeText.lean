/- atom.TakeText. -/
import Derived.Test.YtnnedoohppobpaaTake2
namespace Go.Proofs.Ytnnedoohppobpaa
open Go.RowKit

end Go.Proofs.Ytnnedoohppobpaa
