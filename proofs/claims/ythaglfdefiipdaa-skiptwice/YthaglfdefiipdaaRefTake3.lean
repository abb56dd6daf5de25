/- bartizanref01's Take, forms of more bytes. -/
import Derived.Test.YthaglfdefiipdaaRefTake
namespace Go.Proofs.Ythaglfdefiipdaa
open Go.RowKit

end Go.Proofs.Ythaglfdefiipdaa
