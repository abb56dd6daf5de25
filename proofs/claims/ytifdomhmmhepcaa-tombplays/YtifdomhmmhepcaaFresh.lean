/- atom.fresh. -/
import Derived.Test.YtifdomhmmhepcaaWide
namespace Go.Proofs.Ytifdomhmmhepcaa
open Go.RowKit

end Go.Proofs.Ytifdomhmmhepcaa
