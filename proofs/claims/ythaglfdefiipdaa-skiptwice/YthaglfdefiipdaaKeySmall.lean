/- small: a version whose key is cut; key: a version of a text. -/
import Derived.Test.YthaglfdefiipdaaConvStr
import Derived.Test.YthaglfdefiipdaaKeyCheck
namespace Go.Proofs.Ythaglfdefiipdaa
open Go.RowKit

end Go.Proofs.Ythaglfdefiipdaa
