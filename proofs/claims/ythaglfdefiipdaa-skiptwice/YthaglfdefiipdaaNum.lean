/- atom.Num, its short forms. -/
import Derived.Test.YthaglfdefiipdaaSame
namespace Go.Proofs.Ythaglfdefiipdaa
open Go.RowKit

end Go.Proofs.Ythaglfdefiipdaa
