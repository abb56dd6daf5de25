/- bartizanref01's Take, forms of more bytes. -/
import Derived.Test.YthiogpojccohgaaRefTake
namespace Go.Proofs.Ythiogpojccohgaa
open Go.RowKit

end Go.Proofs.Ythiogpojccohgaa
