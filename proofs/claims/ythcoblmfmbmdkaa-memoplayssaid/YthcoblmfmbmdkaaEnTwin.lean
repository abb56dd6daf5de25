/- bartizanref03.Twin, Twins: entries of their own. -/
import Derived.Test.YthcoblmfmbmdkaaEnFew
namespace Go.Proofs.Ythcoblmfmbmdkaa
open Go.RowKit
set_option linter.unusedVariables false

/-- an entry's value -/
abbrev enV (x : Value) (s k : Int) (y : Value) : Value := .agg #[x, .int .u64 s, .int .u8 k, y]

end Go.Proofs.Ythcoblmfmbmdkaa
