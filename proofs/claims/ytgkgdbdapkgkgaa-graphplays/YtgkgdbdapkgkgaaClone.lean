/- bytes.Clone. -/
import Derived.Test.YtgkgdbdapkgkgaaBoxes
namespace Go.Proofs.Ytgkgdbdapkgkgaa
open Go.RowKit

/-- nothing, or a row of the call's own -/
def OwnN (B : Nat) (w : World) (v : Value) (l : List UInt8) : Prop := (v = .slice none 0 0 ∧ l = []) ∨ Own B w v l

theorem OwnN.rd {B : Nat} {w : World} {v : Value} {l : List UInt8} (h : OwnN B w v l) : Rd w v l := by
  rcases h with h | h
  · exact .inl h
  · exact h.rd

theorem OwnN.below {B C : Nat} {w w' : World} {v : Value} {l : List UInt8} (h : OwnN B w v l) (hb : Below C w w') (hC : w.heap.size ≤ C) : OwnN B w' v l := by
  rcases h with h | h
  · exact .inl h
  · exact .inr (h.below hb hC)

theorem OwnN.mono {B C : Nat} {w : World} {v : Value} {l : List UInt8} (h : OwnN B w v l) (hC : C ≤ B) : OwnN C w v l := by
  rcases h with h | h
  · exact .inl h
  · exact .inr (h.mono hC)

end Go.Proofs.Ytgkgdbdapkgkgaa
