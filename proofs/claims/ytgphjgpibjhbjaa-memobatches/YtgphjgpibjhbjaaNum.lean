/- atom.Num, its short forms. -/
import Derived.Test.YtgphjgpibjhbjaaSame
namespace Go.Proofs.Ytgphjgpibjhbjaa
open Go.RowKit

end Go.Proofs.Ytgphjgpibjhbjaa
