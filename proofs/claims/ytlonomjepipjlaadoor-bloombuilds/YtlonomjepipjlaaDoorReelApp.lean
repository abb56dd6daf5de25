/- reel's small functions: left, gap, kindOf, sumOf, appendLowFirst, appendPiece. -/
import Derived.Test.YtlonomjepipjlaaDoorReelPure
import Derived.Deep.LoopGhost
import Derived.Deep.RegionHeld3
namespace Go.Proofs.YtlonomjepipjlaaDoor
open Go.RowKit
set_option linter.unusedVariables false

def kindB (b e : Bool) : UInt8 := if b then (if e then 4 else 3) else (if e then 1 else 2)

theorem Tab.low {B : Nat} {w w' : World} (h : Tab w) (hb : Below B w w') (hB : 0 < B) : Tab w' := fun i hi => by
  rw [hb.cell (p := ⟨0, i, none⟩) hB]
  exact h i hi

/-- so many bytes of a number, the lowest first -/
def lowK : Nat → Nat → List UInt8
  | 0, _ => []
  | k + 1, n => UInt8.ofNat (n % 256) :: lowK k (n / 256)

theorem lowK_four (n : Nat) : lowK 4 n = Crc.four n := by
  simp only [lowK, Crc.four, Nat.div_div_eq_div_mul]

theorem lowK_length (k n : Nat) : (lowK k n).length = k := by
  induction k generalizing n with
  | zero => rfl
  | succ k ih => simp [lowK, ih]

theorem byte_val (n : Nat) : ((UInt8.ofNat (n % 256)).toNat : Int) = (n : Int) % 256 := by simp

theorem Own.bd {B : Nat} {w : World} {g n k : Nat} {l : List UInt8} (h : Own B w (.slice (some ⟨g, 0, none⟩) n k) l) : l.length = n := by
  obtain ⟨g', k', c, e, _⟩ := h
  cases e
  rfl

theorem low_next {m : Nat} (h : m < 4294967296) : m / 256 < 4294967296 := by omega
theorem gk_nxt {gk j n : Nat} (hj : gk + j = n) (hlt : j < n) : gk - 1 < gk ∧ gk - 1 + (j + 1) = n := by omega
theorem shr8 (m : Nat) : (m : Int) / 256 = ((m / 256 : Nat) : Int) := by omega

end Go.Proofs.YtlonomjepipjlaaDoor
