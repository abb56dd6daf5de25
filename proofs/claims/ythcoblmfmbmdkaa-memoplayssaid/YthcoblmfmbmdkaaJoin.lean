/- atom.Join. -/
import Derived.Test.YthcoblmfmbmdkaaGrpA
namespace Go.Proofs.Ythcoblmfmbmdkaa
open Go.RowKit

/-- the second loop's relation carries this of what has been gathered -/
def Gath (B : Nat) (w : World) (v : Value) (l : List UInt8) : Prop := w.ownsRow B 5 1 v l.length (bv l) ∧ v ≠ .slice none 0 0

theorem Gath.own {B : Nat} {w : World} {v : Value} {l : List UInt8} (h : Gath B w v l) : Own B w v l := Own.of_row h.1 h.2

theorem gath_add {B : Nat} {w w' : World} {v v' : Value} {l m : List UInt8} {k : Nat} (hv : Gath B w v l) (hk : k = m.length) (ho : w'.ownsRow B 5 1 v' (l.length + k) (bv l ++ bv m))
    (hn : v' = .slice none 0 0 ↔ v = .slice none 0 0 ∧ k = 0) : Gath B w' v' (l ++ m) := by
  subst hk
  refine ⟨?_, fun e => hv.2 (hn.1 e).1⟩
  rw [List.length_append, bv_append]
  exact ho

end Go.Proofs.Ythcoblmfmbmdkaa
