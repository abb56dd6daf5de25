/- bartizanref01's Take, forms of more bytes. -/
import Derived.Test.YtnnedoohppobpaaRefTake
namespace Go.Proofs.Ytnnedoohppobpaa
open Go.RowKit

end Go.Proofs.Ytnnedoohppobpaa
