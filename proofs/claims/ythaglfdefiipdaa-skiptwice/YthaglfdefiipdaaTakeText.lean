/- atom.TakeText. -/
import Derived.Test.YthaglfdefiipdaaTake2
namespace Go.Proofs.Ythaglfdefiipdaa
open Go.RowKit

end Go.Proofs.Ythaglfdefiipdaa
