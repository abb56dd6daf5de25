/- small: a version whose key is cut; key: a version of a text. -/
import Derived.Test.YtonblnfjoeeadaaConvStr
import Derived.Test.YtonblnfjoeeadaaKeyCheck
namespace Go.Proofs.Ytonblnfjoeeadaa
open Go.RowKit

end Go.Proofs.Ytonblnfjoeeadaa
