/- Same and bytes.Equal. -/
import Derived.Test.YtgkgdbdapkgkgaaBase
namespace Go.Proofs.Ytgkgdbdapkgkgaa
open Go.RowKit

end Go.Proofs.Ytgkgdbdapkgkgaa
