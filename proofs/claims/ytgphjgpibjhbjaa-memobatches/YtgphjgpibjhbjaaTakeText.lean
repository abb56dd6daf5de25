/- atom.TakeText. -/
import Derived.Test.YtgphjgpibjhbjaaTake2
namespace Go.Proofs.Ytgphjgpibjhbjaa
open Go.RowKit

end Go.Proofs.Ytgphjgpibjhbjaa
