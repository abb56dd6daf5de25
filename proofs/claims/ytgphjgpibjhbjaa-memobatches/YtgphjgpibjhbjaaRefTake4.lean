/- bartizanref01's Take, forms of more bytes. -/
import Derived.Test.YtgphjgpibjhbjaaRefTake
namespace Go.Proofs.Ytgphjgpibjhbjaa
open Go.RowKit

end Go.Proofs.Ytgphjgpibjhbjaa
