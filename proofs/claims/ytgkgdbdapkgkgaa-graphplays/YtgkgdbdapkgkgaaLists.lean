/- What a law is told of a slice of slices of bytes that came in. -/
import Derived.Test.YtgkgdbdapkgkgaaCut
import Derived.Deep.Slices
namespace Go.Proofs.Ytgkgdbdapkgkgaa
open Go.ChangeShapes Go.WideShapes Go.ChangeAt Go.RowKit

/-- the value v, wherever it lies, is a slice of slices that read as the texts ls: it has none; or it lies in cells -/
def ArgL (w : World) (v : Value) (ls : List (List UInt8)) : Prop :=
  (ls = [] ∧ ∃ ao cap, v = .slice ao 0 cap ∧ (ao = none → cap = 0) ∧ cap ≤ maxLen) ∨
  ∃ b off cap, v = .slice (some ⟨b, off, none⟩) ls.length cap ∧ 0 < ls.length ∧ ls.length ≤ cap ∧ cap ≤ maxLen ∧ ∀ j (h : j < ls.length), ∃ u, w.cell? ⟨b, off + j, none⟩ = some u ∧ Arg w u (ls[j])

theorem ArgL.below {B : Nat} {w w' : World} {v : Value} {ls : List (List UInt8)} (h : ArgL w v ls) (hb : Below B w w') (hB : w.heap.size ≤ B) : ArgL w' v ls := by
  rcases h with h | ⟨b, off, cap, rfl, h0, h1, h2, h3⟩
  · exact .inl h
  · refine .inr ⟨b, off, cap, rfl, h0, h1, h2, fun j hj => ?_⟩
    obtain ⟨u, hc, hr⟩ := h3 j hj
    refine ⟨u, ?_, hr.below hb hB⟩
    rw [hb.cell (p := ⟨b, off + j, none⟩) (Nat.lt_of_lt_of_le (World.block_lt_of_cell? w _ hc) hB)]
    exact hc

theorem Arg.shape {w : World} {v : Value} {l : List UInt8} (h : Arg w v l) : ∃ ao cap, v = .slice ao l.length cap := by
  rcases h with ⟨rfl, rfl⟩ | ⟨a, cap, rfl, _⟩
  · exact ⟨none, 0, rfl⟩
  · exact ⟨_, _, rfl⟩

/-- a slice of slices, by its places -/
theorem ArgL.places {w : World} {v : Value} {ls : List (List UInt8)} (h : ArgL w v ls) : ∃ ao cap, v = .slice ao ls.length cap ∧ ls.length ≤ cap ∧ cap ≤ maxLen ∧ ∀ j (h : j < ls.length), ∃ b off, ao = some ⟨b, off, none⟩ ∧ ∃ u, w.cell? ⟨b, off + j, none⟩ = some u ∧ Arg w u (ls[j]) := by
  rcases h with ⟨rfl, ao, cap, rfl, _, hc⟩ | ⟨b, off, cap, rfl, h0, h1, h2, h3⟩
  · exact ⟨ao, cap, rfl, Nat.zero_le _, hc, fun j h => absurd h (Nat.not_lt_zero _)⟩
  · exact ⟨_, cap, rfl, h1, h2, fun j h => ⟨b, off, rfl, h3 j h⟩⟩

end Go.Proofs.Ytgkgdbdapkgkgaa
