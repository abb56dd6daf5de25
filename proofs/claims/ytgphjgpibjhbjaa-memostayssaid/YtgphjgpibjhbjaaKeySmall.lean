/- small: a version whose key is cut; key: a version of a text. -/
import Derived.Test.YtgphjgpibjhbjaaConvStr
import Derived.Test.YtgphjgpibjhbjaaKeyCheck
namespace Go.Proofs.Ytgphjgpibjhbjaa
open Go.RowKit

end Go.Proofs.Ytgphjgpibjhbjaa
