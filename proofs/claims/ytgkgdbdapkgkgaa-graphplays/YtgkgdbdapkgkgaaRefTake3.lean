/- bartizanref01's Take, forms of more bytes. -/
import Derived.Test.YtgkgdbdapkgkgaaRefTake
namespace Go.Proofs.Ytgkgdbdapkgkgaa
open Go.RowKit

end Go.Proofs.Ytgkgdbdapkgkgaa
