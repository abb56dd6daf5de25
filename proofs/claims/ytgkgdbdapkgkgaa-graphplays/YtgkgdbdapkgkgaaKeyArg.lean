/- What a law is told of a version that came in. -/
import Derived.Test.YtgkgdbdapkgkgaaCut
import Derived.Lib.SmallJoins
namespace Go.Proofs.Ytgkgdbdapkgkgaa
set_option maxRecDepth 20000
open Go.ChangeShapes Go.WideShapes Go.ChangeAt Go.RowKit

end Go.Proofs.Ytgkgdbdapkgkgaa
