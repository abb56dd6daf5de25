/- atom.TakeText. -/
import Derived.Test.YtgkgdbdapkgkgaaTake2
namespace Go.Proofs.Ytgkgdbdapkgkgaa
open Go.RowKit

end Go.Proofs.Ytgkgdbdapkgkgaa
