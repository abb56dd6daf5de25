/- atom.TakeText. -/
import Derived.Test.YtifdomhmmhepcaaTake2
namespace Go.Proofs.Ytifdomhmmhepcaa
open Go.RowKit

end Go.Proofs.Ytifdomhmmhepcaa
