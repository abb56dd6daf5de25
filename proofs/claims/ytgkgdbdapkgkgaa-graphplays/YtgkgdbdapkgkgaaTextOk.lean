/- atom.TakeText, where there is a text. -/
import Derived.Test.YtgkgdbdapkgkgaaTakeText
import Derived.Deep.RegionWith
namespace Go.Proofs.Ytgkgdbdapkgkgaa
open Go.RowKit

end Go.Proofs.Ytgkgdbdapkgkgaa
