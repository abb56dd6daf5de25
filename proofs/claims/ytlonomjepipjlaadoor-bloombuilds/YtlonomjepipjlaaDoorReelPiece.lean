/- reel's appendLowFirst, appendPiece. -/
import Derived.Test.YtlonomjepipjlaaDoorReelApp
namespace Go.Proofs.YtlonomjepipjlaaDoor
open Go.RowKit
set_option linter.unusedVariables false

theorem lowK_step (F l : List UInt8) (s j m m' : Nat) (hj : j < s) (h : F ++ lowK (s - j) m' = l ++ lowK s m) : (F ++ [UInt8.ofNat (m' % 256)]) ++ lowK (s - (j + 1)) (m' / 256) = l ++ lowK s m := by
  rw [← h, show s - j = (s - (j + 1)) + 1 by omega, lowK, List.append_assoc]
  rfl

theorem lowK_end (F l : List UInt8) (s m m' : Nat) (h : F ++ lowK (s - s) m' = l ++ lowK s m) : F = l ++ lowK s m := by
  rw [← h, Nat.sub_self, lowK, List.append_nil]

theorem len_step (F l : List UInt8) (s j : Nat) (h : F.length = l.length + j) (hl : l.length ≤ 1000000) (hs : s ≤ 4) (hj : j < s) (b : UInt8) : F.length + 1 ≤ maxLen ∧ (F.length + 1) * 1 ≤ 140737488355328 ∧ (F ++ [b]).length = l.length + (j + 1) := by
  refine ⟨by unfold maxLen; omega, by omega, by simp; omega⟩

/-- what lies below block B is read as it was -/
theorem Rd.low {B : Nat} {w w' : World} {v : Value} {t : List UInt8} (h : Rd w v t) (hv : ∀ b, v.ownBlock = some b → b < B) (hb : Below B w w') : Rd w' v t := by
  rcases h with h | ⟨b, off, cap, rfl, h1, h2, h3⟩
  · exact .inl h
  · refine .inr ⟨b, off, cap, rfl, h1, h2, fun j u hu => ?_⟩
    rw [hb.cell (p := ⟨b, off + j, none⟩) (hv b rfl)]
    exact h3 j u hu

theorem arg_cells {w : World} {ad : Addr} {n cap : Nat} {t : List UInt8} (h : Rd w (.slice (some ad) n cap) t) : ∀ j u, (bv t)[j]? = some u → w.cell? (ad.add j) = some u := by
  rcases h with ⟨e, _⟩ | ⟨b, off, cap', e, h1, h2, h3⟩
  · cases e
  · simp only [Value.slice.injEq, Option.some.injEq] at e
    obtain ⟨rfl, _⟩ := e
    intro j u hu
    rw [Addr.add_lit]
    exact h3 j u hu

theorem piece_flat (F t : List UInt8) (k : UInt8) : (((F ++ lowK 4 (Crc.mask (Crc.sum (k :: t)))) ++ lowK 2 t.length) ++ [k]) ++ t = F ++ pcB k t := by
  unfold pcB
  rw [lowK_four]
  simp [lowK]

end Go.Proofs.YtlonomjepipjlaaDoor
