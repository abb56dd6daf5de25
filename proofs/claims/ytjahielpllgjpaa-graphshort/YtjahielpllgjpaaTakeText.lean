/- atom.TakeText. -/
import Derived.Test.YtjahielpllgjpaaTake2
namespace Go.Proofs.Ytjahielpllgjpaa
open Go.RowKit

end Go.Proofs.Ytjahielpllgjpaa
