/- seal.Close. -/
import Derived.Test.YtppoimmoohfbnaaDoorLow
namespace Go.Proofs.YtppoimmoohfbnaaDoor
open Go.RowKit

/-- a seal -/
def sealB (l : List UInt8) : List UInt8 := l ++ Crc.four (Crc.mask (Crc.sum l))

/-- a row that is filled behind so many cells, one by one -/
theorem fill4 {w : World} {B g L : Nat} {hd : List Value} {t0 t1 t2 t3 u0 u1 u2 u3 : Value} (hL : hd.length = L) (h : w.ownsRow B 5 1 (.slice (some ⟨g, 0, none⟩) (L + 4) (L + 4)) (L + 4) (hd ++ [t0, t1, t2, t3])) :
    ((((w.setCell ⟨g, L, none⟩ u0).setCell ⟨g, L + 1, none⟩ u1).setCell ⟨g, L + 2, none⟩ u2).setCell ⟨g, L + 3, none⟩ u3).ownsRow B 5 1 (.slice (some ⟨g, 0, none⟩) (L + 4) (L + 4)) (L + 4) (hd ++ [u0, u1, u2, u3]) := by
  have h0 := (h.stored L u0).1
  have h1 := (h0.stored (L + 1) u1).1
  have h2 := (h1.stored (L + 2) u2).1
  have h3 := (h2.stored (L + 3) u3).1
  have e : ((((hd ++ [t0, t1, t2, t3]).set L u0).set (L + 1) u1).set (L + 2) u2).set (L + 3) u3 = hd ++ [u0, u1, u2, u3] := by
    subst hL
    simp [List.set_append_right]
  rw [e] at h3
  exact h3

theorem bytes4 (m : Nat) (h : m < 4294967296) : Value.int .u8 ((m : Int) % 256) = .int .u8 ((UInt8.ofNat (m % 256)).toNat : Int) ∧ Value.int .u8 ((m : Int) / 256 % 256) = .int .u8 ((UInt8.ofNat (m / 256 % 256)).toNat : Int) ∧
    Value.int .u8 ((m : Int) / 65536 % 256) = .int .u8 ((UInt8.ofNat (m / 65536 % 256)).toNat : Int) ∧ Value.int .u8 ((m : Int) / 16777216) = .int .u8 ((UInt8.ofNat (m / 16777216 % 256)).toNat : Int) := by
  refine ⟨?_, ?_, ?_, ?_⟩ <;> congr 1 <;> simp <;> omega

end Go.Proofs.YtppoimmoohfbnaaDoor
