/- atom.Num. -/
import Derived.Test.YtgkgdbdapkgkgaaNum
import Derived.Test.YtgkgdbdapkgkgaaShelf
namespace Go.Proofs.Ytgkgdbdapkgkgaa
set_option maxRecDepth 20000
open Go.RowKit

theorem beB_cons (k n : Nat) : Mth.beB (k + 1) n = UInt8.ofNat (n / 256 ^ k % 256) :: Mth.beB k n := by
  induction k generalizing n with
  | zero => simp [Mth.beB]
  | succ k ih =>
    rw [Mth.beB, ih (n / 256), Mth.beB, Nat.div_div_eq_div_mul, Nat.pow_succ, Nat.mul_comm 256]
    rfl

/-- what the row holds behind k rounds -/
def wrow (s k n : Nat) : List Value := Value.int .u8 (247 + s : Nat) :: (List.replicate (s - k) (Value.int .u8 0) ++ bv (Mth.beB k n))

theorem wrow_length (s k n : Nat) (h : k ≤ s) : (wrow s k n).length = 1 + s := by simp [wrow, bv_length, Mth.beB_length]; omega

theorem wrow_step (s k n : Nat) (h : k < s) : (wrow s k n).set (s - k) (.int .u8 ((n / 256 ^ k % 256 : Nat) : Int)) = wrow s (k + 1) n := by
  obtain ⟨d, rfl⟩ : ∃ d, s = k + 1 + d := ⟨s - k - 1, by omega⟩
  have e1 : k + 1 + d - k = d + 1 := by omega
  have e2 : k + 1 + d - (k + 1) = d := by omega
  unfold wrow
  rw [e1, e2, List.set_cons_succ, beB_cons, List.replicate_succ']
  congr 1
  rw [List.append_assoc, List.set_append_right _ _ (by simp)]
  simp [bv]

theorem wrow_end (n : Nat) (h : 67823 < n) : wrow (Mth.wsize n) (Mth.wsize n) n = bv (Mth.numB n) := by
  have := Mth.wsize_le n
  rw [Mth.numB, if_neg (by omega), if_neg (by omega), if_neg (by omega)]
  simp [wrow, bv]
  omega

end Go.Proofs.Ytgkgdbdapkgkgaa
