/- atom.fresh. -/
import Derived.Test.YtgphjgpibjhbjaaWide
namespace Go.Proofs.Ytgphjgpibjhbjaa
open Go.RowKit

end Go.Proofs.Ytgphjgpibjhbjaa
