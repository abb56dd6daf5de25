/- atom.fresh. -/
import Derived.Test.YtjahielpllgjpaaWide
namespace Go.Proofs.Ytjahielpllgjpaa
open Go.RowKit

end Go.Proofs.Ytjahielpllgjpaa
