/- atom.fresh. -/
import Derived.Test.YthiogpojccohgaaWide
namespace Go.Proofs.Ythiogpojccohgaa
open Go.RowKit

end Go.Proofs.Ythiogpojccohgaa
