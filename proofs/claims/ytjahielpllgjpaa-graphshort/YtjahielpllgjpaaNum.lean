/- atom.Num, its short forms. -/
import Derived.Test.YtjahielpllgjpaaSame
namespace Go.Proofs.Ytjahielpllgjpaa
open Go.RowKit

end Go.Proofs.Ytjahielpllgjpaa
