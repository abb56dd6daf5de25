/- bartizanref02's Close. -/
import Derived.Test.YtppoimmoohfbnaaDoorRefSum
import Derived.Test.YtppoimmoohfbnaaDoorClose
namespace Go.Proofs.YtppoimmoohfbnaaDoor
open Go.RowKit

theorem lit_row4 (w : World) (B : Nat) (hB : B ≤ w.heap.size) (a b c d : UInt8) : (w.alloc (.cells #[.int .u8 (a.toNat : Int), .int .u8 (b.toNat : Int), .int .u8 (c.toNat : Int), .int .u8 (d.toNat : Int)] 5)).ownsRow B 5 1 (.slice (some ⟨w.heap.size, 0, none⟩) 4 4) 4 (bv [a, b, c, d]) :=
  World.ownsRow_lit w #[.int .u8 (a.toNat : Int), .int .u8 (b.toNat : Int), .int .u8 (c.toNat : Int), .int .u8 (d.toNat : Int)] 4 hB (by simp [maxLen]) rfl

end Go.Proofs.YtppoimmoohfbnaaDoor
