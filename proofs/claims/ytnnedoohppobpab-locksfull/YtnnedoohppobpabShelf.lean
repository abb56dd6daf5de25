/- bits.Len64. -/
import Derived.Test.YtnnedoohppobpabBase
import Derived.Shelf.Strconv.Itoa0
namespace Go.Proofs.Ytnnedoohppobpab
open Go.Shelf

theorem bl_pos : ∀ n : Fin 256, n.val ≠ 0 → 1 ≤ Lib.bitLen n.val := by decide +kernel

theorem bl_bd (x : Nat) (h0 : x ≠ 0) (h : x < 256) : 1 ≤ Lib.bitLen x ∧ Lib.bitLen x ≤ 8 := ⟨bl_pos ⟨x, h⟩ h0, Lib.bitLen_le8 ⟨x, h⟩⟩

theorem bl_wsize (n : Nat) (h1 : 67823 < n) (h2 : n < 18446744073709551616) : (Lib.bitLen n + 7) / 8 = Mth.wsize n := by
  unfold Mth.wsize
  split
  · have := Lib.bitLen_shift16 n (by omega) h2
    have := bl_bd (n / 65536) (by omega) (by omega)
    omega
  split
  · have := Lib.bitLen_shift24 n (by omega) h2
    have := bl_bd (n / 16777216) (by omega) (by omega)
    omega
  split
  · have := Lib.bitLen_shift32 n (by omega) h2
    have := bl_bd (n / 4294967296) (by omega) (by omega)
    omega
  split
  · have := Lib.bitLen_shift40 n (by omega) h2
    have := bl_bd (n / 1099511627776) (by omega) (by omega)
    omega
  split
  · have := Lib.bitLen_shift48 n (by omega) h2
    have := bl_bd (n / 281474976710656) (by omega) (by omega)
    omega
  · have := Lib.bitLen_shift56 n (by omega) h2
    have := bl_bd (n / 72057594037927936) (by omega) (by omega)
    omega

end Go.Proofs.Ytnnedoohppobpab
