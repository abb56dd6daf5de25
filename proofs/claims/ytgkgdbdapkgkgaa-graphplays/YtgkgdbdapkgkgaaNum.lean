/- atom.Num, its short forms. -/
import Derived.Test.YtgkgdbdapkgkgaaSame
namespace Go.Proofs.Ytgkgdbdapkgkgaa
open Go.RowKit

end Go.Proofs.Ytgkgdbdapkgkgaa
