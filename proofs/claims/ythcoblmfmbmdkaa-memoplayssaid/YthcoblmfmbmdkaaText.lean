/- atom.Text. -/
import Derived.Test.YthcoblmfmbmdkaaJoin
import Derived.Test.YthcoblmfmbmdkaaGrpA
import Derived.Deep.Slices
namespace Go.Proofs.Ythcoblmfmbmdkaa
open Go.ChangeShapes Go.WideShapes Go.ChangeAt Go.RowKit

/-- a text's bytes -/
def textB (t : List UInt8) : List UInt8 := Mth.numB t.length ++ t

theorem textB_flat (t : List UInt8) : [Mth.numB t.length, t].flatten = textB t := by simp [textB]

end Go.Proofs.Ythcoblmfmbmdkaa
