/- ikey.tail: Seq and Kind as eight bytes, the lowest first. -/
import Derived.Test.YthcoblmfmbmdkaaKeySmall
import Derived.Test.YthcoblmfmbmdkaaGrpA
import Derived.Laws.BitsAllLaws
namespace Go.Proofs.Ythcoblmfmbmdkaa
open Go.RowKit

/-- Seq and Kind as eight bytes, the lowest first -/
def tailB (s k : Nat) : List UInt8 :=
  [UInt8.ofNat k, UInt8.ofNat (s % 256), UInt8.ofNat (s / 256 % 256), UInt8.ofNat (s / 65536 % 256), UInt8.ofNat (s / 16777216 % 256), UInt8.ofNat (s / 4294967296 % 256), UInt8.ofNat (s / 1099511627776 % 256), UInt8.ofNat (s / 281474976710656 % 256)]

theorem tail_or (s k : Nat) (hs : s ≤ 72057594037927935) (hk : k < 256) : bits BinOp.or IntKind.u64 ((s : Int) * 256) (k : Int) = ((s * 256 + k : Nat) : Int) := by
  have e : ((s : Int) * 256) = ((s * 256 : Nat) : Int) := by simp
  rw [e, u64_or_nat _ _ (by omega) (by omega), nat_join8 _ _ (by omega) (by omega)]

theorem stored8 {w : World} {B g : Nat} {xs : List Value} {u0 u1 u2 u3 u4 u5 u6 u7 : Value} (h : w.ownsRow B 5 1 (.slice (some ⟨g, 0, none⟩) 8 8) 8 xs) (hx : xs.length = 8) :
    ((((((((w.setCell ⟨g, 0, none⟩ u0).setCell ⟨g, 1, none⟩ u1).setCell ⟨g, 2, none⟩ u2).setCell ⟨g, 3, none⟩ u3).setCell ⟨g, 4, none⟩ u4).setCell ⟨g, 5, none⟩ u5).setCell ⟨g, 6, none⟩ u6).setCell ⟨g, 7, none⟩ u7).ownsRow B 5 1 (.slice (some ⟨g, 0, none⟩) 8 8) 8 [u0, u1, u2, u3, u4, u5, u6, u7] := by
  have h0 := (h.stored 0 u0).1
  have h1 := (h0.stored 1 u1).1
  have h2 := (h1.stored 2 u2).1
  have h3 := (h2.stored 3 u3).1
  have h4 := (h3.stored 4 u4).1
  have h5 := (h4.stored 5 u5).1
  have h6 := (h5.stored 6 u6).1
  have h7 := (h6.stored 7 u7).1
  match xs, hx with
  | [_, _, _, _, _, _, _, _], _ => exact h7

end Go.Proofs.Ythcoblmfmbmdkaa
