/- small: a version whose key is cut; key: a version of a text. -/
import Derived.Test.YtdlefbbpgbjibaaConvStr
import Derived.Test.YtdlefbbpgbjibaaKeyCheck
namespace Go.Proofs.Ytdlefbbpgbjibaa
open Go.RowKit

end Go.Proofs.Ytdlefbbpgbjibaa
