/- bartizanlaw06's awake: the document's examples. -/
import Derived.Test.YtlonomjepipjlaaDoorReelFrame
import Derived.Lib.SmallJoins
namespace Go.Proofs.YtlonomjepipjlaaDoor
open Go.RowKit
set_option linter.unusedVariables false

theorem rex1 : ∃ P, frameB 0 [97, 98] = P ∧ P.length = 9 ∧ P.drop 4 = [2, 0, 1, 97, 98] := by
  refine ⟨pcB 1 [97, 98], ?_, rfl, rfl⟩
  have h0 : gapN 0 = 0 := by decide
  unfold frameB
  rw [h0]
  have h1 : leftN (0 + 0) - 7 = 57 := by decide
  rw [h1]
  unfold frF
  rw [if_pos (by decide)]
  rfl

theorem rex2 : ∃ P, frameB 60 [120] = P ∧ P.length = 12 ∧ P.take 4 = [0, 0, 0, 0] := by
  refine ⟨[0, 0, 0, 0] ++ pcB 1 [120], ?_, rfl, rfl⟩
  have h0 : gapN 60 = 4 := by decide
  unfold frameB
  rw [h0]
  have h1 : leftN (60 + 4) - 7 = 57 := by decide
  rw [h1]
  unfold frF
  rw [if_pos (by decide)]
  rfl

theorem Own.caps {B : Nat} {w : World} {g n k : Nat} {l : List UInt8} (h : Own B w (.slice (some ⟨g, 0, none⟩) n k) l) : l.length ≤ k ∧ k ≤ maxLen := by
  obtain ⟨g', k', c, e, _, _, h1, h2, _⟩ := h
  cases e
  exact ⟨h1, h2⟩

theorem Own.cellsAt {B : Nat} {w : World} {g n k : Nat} {l : List UInt8} (h : Own B w (.slice (some ⟨g, 0, none⟩) n k) l) : ∀ j u, (bv l)[j]? = some u → w.cell? ⟨g, 0 + j, none⟩ = some u := fun j u hu => by
  have := (rd_cells h.rd).2 j u hu
  rwa [Addr.add_lit] at this

theorem zeros_rd {w : World} : Rd (w.alloc (.cells #[.int .u8 0, .int .u8 0, .int .u8 0, .int .u8 0] 5)) (.slice (some ⟨w.heap.size, 0, none⟩) 4 4) [0, 0, 0, 0] := rd_lit w [0, 0, 0, 0] (by simp [maxLen]) _ rfl

end Go.Proofs.YtlonomjepipjlaaDoor
