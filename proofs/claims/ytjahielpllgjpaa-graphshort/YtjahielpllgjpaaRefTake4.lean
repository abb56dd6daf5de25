/- bartizanref01's Take, forms of more bytes. -/
import Derived.Test.YtjahielpllgjpaaRefTake
namespace Go.Proofs.Ytjahielpllgjpaa
open Go.RowKit

end Go.Proofs.Ytjahielpllgjpaa
