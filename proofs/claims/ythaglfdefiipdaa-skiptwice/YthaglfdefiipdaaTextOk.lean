/- atom.TakeText, where there is a text. -/
import Derived.Test.YthaglfdefiipdaaTakeText
import Derived.Deep.RegionWith
namespace Go.Proofs.Ythaglfdefiipdaa
open Go.RowKit

end Go.Proofs.Ythaglfdefiipdaa
