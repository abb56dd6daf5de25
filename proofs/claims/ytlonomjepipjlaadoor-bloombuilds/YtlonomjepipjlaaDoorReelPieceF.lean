/- reel.Piece. -/
import Derived.Test.YtlonomjepipjlaaDoorReelAt
namespace Go.Proofs.YtlonomjepipjlaaDoor
open Go.RowKit
set_option linter.unusedVariables false

/-- what reel.Piece answers -/
def PiecePost (w : World) (a : Nat) (q : Option (UInt8 × List UInt8)) (x : Ending) (w' : World) : Prop :=
  Below w.heap.size w w' ∧ match q with
    | none => x = .returned (.tuple #[.int .u8 0, .slice none 0 0, .int .i64 0, .bool false])
    | some (k, t) => ∃ y, x = .returned (.tuple #[.int .u8 (k.toNat : Int), y, .int .i64 ((a + 7 + t.length : Nat) : Int), .bool true]) ∧ OwnN w.heap.size w' y t

theorem pcAt_len {p : List UInt8} {a : Nat} {k : UInt8} {t : List UInt8} (h : pcAt p a = some (k, t)) : t.length ≤ 64 := by
  unfold pcAt at h
  split at h
  · rename_i e
    split at h
    · cases h
      have := congrArg List.length e
      rw [List.length_take] at this
      have hl := left_bd a
      simp only [List.length_cons] at this
      rw [List.length_take]
      omega
    · cases h
  · cases h

end Go.Proofs.YtlonomjepipjlaaDoor
