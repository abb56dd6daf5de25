/- atom.Num, its short forms. -/
import Derived.Test.YthiogpojccohgaaSame
namespace Go.Proofs.Ythiogpojccohgaa
open Go.RowKit

end Go.Proofs.Ythiogpojccohgaa
