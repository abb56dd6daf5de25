/- atom.front. -/
import Derived.Test.YtgkgdbdapkgkgaaFront
import Derived.Deep.RegionWith
namespace Go.Proofs.Ytgkgdbdapkgkgaa
open Go.RowKit

/-- the number in front and how many bytes it has; or the error -/
def frontS (l : List UInt8) : Nat × Nat × Nat :=
  match l with
  | [] => (0, 0, 2)
  | f :: t => if (f :: t).length < sizeN f.toNat then (0, 0, 2)
    else if Mth.numB (decN ((f :: t).take (sizeN f.toNat))) == (f :: t).take (sizeN f.toNat) then (decN ((f :: t).take (sizeN f.toNat)), sizeN f.toNat, 0)
    else (0, 0, 4)

theorem decN_lt (f : UInt8) (t : List UInt8) (hl : (f :: t).length = sizeN f.toNat) : decN (f :: t) < 18446744073709551616 := by
  have hfb := f.toNat_lt
  have hsb := sizeN_bd f.toNat f.toNat_lt
  have hht := Mth.hf_lt t
  simp only [List.length_cons] at hl
  have e : decN (f :: t) = if f.toNat ≤ 240 then f.toNat else if f.toNat ≤ 248 then 240 + (f.toNat - 241) * 256 + Mth.hf t else if f.toNat = 249 then 2288 + Mth.hf t else Mth.hf t := rfl
  rw [e]
  by_cases g1 : f.toNat ≤ 240
  · rw [if_pos g1]; omega
  rw [if_neg g1]
  by_cases g2 : f.toNat ≤ 248
  · rw [if_pos g2]
    have : t.length = 1 := by simp only [sizeN, if_neg g1, if_pos g2] at hl; omega
    rw [this] at hht; omega
  rw [if_neg g2]
  by_cases g3 : f.toNat = 249
  · rw [if_pos g3]
    have : t.length = 2 := by simp only [sizeN, if_neg g1, if_neg g2, if_pos g3] at hl; omega
    rw [this] at hht; omega
  · rw [if_neg g3]
    exact Nat.lt_of_lt_of_le hht (Nat.pow_le_pow_right (n := 256) (by omega) (show t.length ≤ 8 by omega))

/-- what front answers -/
def frontV (x : Nat × Nat × Nat) : Value := .tuple #[.int .u64 (x.1 : Int), .int .i64 (x.2.1 : Int), .int .i64 (x.2.2 : Int)]

end Go.Proofs.Ytgkgdbdapkgkgaa
