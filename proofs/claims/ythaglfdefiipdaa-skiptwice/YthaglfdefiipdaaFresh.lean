/- atom.fresh. -/
import Derived.Test.YthaglfdefiipdaaWide
namespace Go.Proofs.Ythaglfdefiipdaa
open Go.RowKit

end Go.Proofs.Ythaglfdefiipdaa
