/- bartizanref01's Take, forms of more bytes. -/
import Derived.Test.YtnnedoohppobpabRefTake
namespace Go.Proofs.Ytnnedoohppobpab
open Go.RowKit

end Go.Proofs.Ytnnedoohppobpab
