/- Same and bytes.Equal. -/
import Derived.Test.YthiogpojccohgaaBase
namespace Go.Proofs.Ythiogpojccohgaa
open Go.RowKit

end Go.Proofs.Ythiogpojccohgaa
