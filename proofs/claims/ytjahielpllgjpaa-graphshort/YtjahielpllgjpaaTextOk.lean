/- atom.TakeText, where there is a text. -/
import Derived.Test.YtjahielpllgjpaaTakeText
import Derived.Deep.RegionWith
namespace Go.Proofs.Ytjahielpllgjpaa
open Go.RowKit

end Go.Proofs.Ytjahielpllgjpaa
