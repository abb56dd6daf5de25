/- bartizanref01's Take, forms of more bytes. -/
import Derived.Test.YtifdomhmmhepcaaRefTake
namespace Go.Proofs.Ytifdomhmmhepcaa
open Go.RowKit

end Go.Proofs.Ytifdomhmmhepcaa
