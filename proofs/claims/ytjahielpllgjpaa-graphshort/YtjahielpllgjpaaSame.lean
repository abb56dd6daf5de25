/- Same and bytes.Equal. -/
import Derived.Test.YtjahielpllgjpaaBase
namespace Go.Proofs.Ytjahielpllgjpaa
open Go.RowKit

end Go.Proofs.Ytjahielpllgjpaa
