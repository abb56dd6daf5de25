/- atom.Num, its short forms. -/
import Derived.Test.YtifdomhmmhepcaaSame
namespace Go.Proofs.Ytifdomhmmhepcaa
open Go.RowKit

end Go.Proofs.Ytifdomhmmhepcaa
