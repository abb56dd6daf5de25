/- atom.fresh. -/
import Derived.Test.YtgkgdbdapkgkgaaWide
namespace Go.Proofs.Ytgkgdbdapkgkgaa
open Go.RowKit

end Go.Proofs.Ytgkgdbdapkgkgaa
