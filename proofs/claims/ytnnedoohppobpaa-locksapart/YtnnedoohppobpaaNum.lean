/- atom.Num, its short forms. -/
import Derived.Test.YtnnedoohppobpaaSame
namespace Go.Proofs.Ytnnedoohppobpaa
open Go.RowKit

end Go.Proofs.Ytnnedoohppobpaa
