/- bartizanref03.Read, where all is right. -/
import Derived.Test.YtdopfijoplldkaaKeyRefRead
namespace Go.Proofs.Ytdopfijoplldkaa
open Go.RowKit

theorem textS_rest (l : List UInt8) (m : Int) : (textS l m).2.1.length ≤ l.length := by
  unfold textS
  split
  · split
    · simp
    · split
      · simp
      · simp
  · simp

end Go.Proofs.Ytdopfijoplldkaa
