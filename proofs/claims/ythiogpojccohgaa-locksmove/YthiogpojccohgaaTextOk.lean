/- atom.TakeText, where there is a text. -/
import Derived.Test.YthiogpojccohgaaTakeText
import Derived.Deep.RegionWith
namespace Go.Proofs.Ythiogpojccohgaa
open Go.RowKit

end Go.Proofs.Ythiogpojccohgaa
