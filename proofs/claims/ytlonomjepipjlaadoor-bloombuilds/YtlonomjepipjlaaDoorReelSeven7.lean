/- reel.piece: just seven bytes of room. -/
import Derived.Test.YtlonomjepipjlaaDoorReelSeven
namespace Go.Proofs.YtlonomjepipjlaaDoor
open Go.RowKit
set_option linter.unusedVariables false

end Go.Proofs.YtlonomjepipjlaaDoor
