/- atom.TakeText. -/
import Derived.Test.YthiogpojccohgaaTake2
namespace Go.Proofs.Ythiogpojccohgaa
open Go.RowKit

end Go.Proofs.Ythiogpojccohgaa
