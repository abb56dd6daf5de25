/- bartizanref01's Num. -/
import Derived.Test.YtgkgdbdapkgkgaaWide
namespace Go.Proofs.Ytgkgdbdapkgkgaa
open Go.RowKit

theorem wsize_low (n : Nat) (h : 67823 < n) : 256 ^ (Mth.wsize n - 1) ≤ n := by
  unfold Mth.wsize
  repeat' split
  all_goals (simp; omega)

theorem wsize_pos (n k : Nat) (h : 67823 < n) (hk : k < Mth.wsize n) : 0 < n / 256 ^ k := by
  have h1 := wsize_low n h
  have h2 : 256 ^ k ≤ 256 ^ (Mth.wsize n - 1) := Nat.pow_le_pow_right (by omega) (by omega)
  exact Nat.div_pos (Nat.le_trans h2 h1) (Nat.pow_pos (by omega))

theorem wsize_zero (n : Nat) (h : n < 18446744073709551616) : n / 256 ^ Mth.wsize n = 0 := Nat.div_eq_of_lt (Mth.wsize_fits n h)

end Go.Proofs.Ytgkgdbdapkgkgaa
