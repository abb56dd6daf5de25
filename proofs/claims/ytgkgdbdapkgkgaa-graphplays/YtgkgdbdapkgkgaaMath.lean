/- The plain mathematics of layer 1: the bytes of a number, how many they are, and how they are read. Nothing of the program is named here. -/
import Derived.Laws.BytesArg
namespace Go.Proofs.Ytgkgdbdapkgkgaa.Mth

/-- so many bytes of a number, the highest first -/
def beB : Nat → Nat → List UInt8
  | 0, _ => []
  | k + 1, n => beB k (n / 256) ++ [UInt8.ofNat (n % 256)]

theorem beB_length (k n : Nat) : (beB k n).length = k := by
  induction k generalizing n with
  | zero => rfl
  | succ k ih => simp [beB, ih]

/-- bytes as one number, the highest first -/
def hf (l : List UInt8) : Nat := l.foldl (fun n b => n * 256 + b.toNat) 0

theorem hf_snoc (l : List UInt8) (b : UInt8) : hf (l ++ [b]) = hf l * 256 + b.toNat := by simp [hf]

theorem hf_lt (l : List UInt8) : hf l < 256 ^ l.length := by
  induction h : l.length generalizing l with
  | zero => obtain rfl := List.eq_nil_of_length_eq_zero h; simp [hf]
  | succ k ih =>
    have hne : l ≠ [] := by intro e; simp [e] at h
    have hl : (l.dropLast).length = k := by simp [h]
    have := ih l.dropLast hl
    rw [← List.dropLast_concat_getLast hne, hf_snoc]
    have hb := (l.getLast hne).toNat_lt
    rw [Nat.pow_succ]
    omega

theorem hf_beB (k n : Nat) : hf (beB k n) = n % 256 ^ k := by
  induction k generalizing n with
  | zero => simp [beB, hf, Nat.mod_one]
  | succ k ih =>
    rw [beB, hf_snoc, ih]
    have h1 : (UInt8.ofNat (n % 256)).toNat = n % 256 := by simp
    rw [h1, Nat.pow_succ, Nat.mul_comm (256 ^ k) 256, Nat.mod_mul]
    omega

theorem beB_hf (l : List UInt8) : beB l.length (hf l) = l := by
  induction h : l.length generalizing l with
  | zero => obtain rfl := List.eq_nil_of_length_eq_zero h; rfl
  | succ k ih =>
    have hne : l ≠ [] := by intro e; simp [e] at h
    have hl : (l.dropLast).length = k := by simp [h]
    have := ih l.dropLast hl
    conv => rhs; rw [← List.dropLast_concat_getLast hne]
    have e : hf l = hf l.dropLast * 256 + (l.getLast hne).toNat := by
      conv => lhs; rw [← List.dropLast_concat_getLast hne]
      rw [hf_snoc]
    have hb := (l.getLast hne).toNat_lt
    rw [beB, e]
    have e1 : (hf l.dropLast * 256 + (l.getLast hne).toNat) / 256 = hf l.dropLast := by omega
    have e2 : (hf l.dropLast * 256 + (l.getLast hne).toNat) % 256 = (l.getLast hne).toNat := by omega
    rw [e1, e2, this]
    simp

/-- how many bytes a wide number has behind its first -/
def wsize (n : Nat) : Nat :=
  if n < 16777216 then 3 else if n < 4294967296 then 4 else if n < 1099511627776 then 5 else if n < 281474976710656 then 6 else if n < 72057594037927936 then 7 else 8

theorem wsize_le (n : Nat) : 3 ≤ wsize n ∧ wsize n ≤ 8 := by
  unfold wsize; repeat' split
  all_goals omega

theorem wsize_fits (n : Nat) (h : n < 18446744073709551616) : n < 256 ^ wsize n := by
  unfold wsize; repeat' split
  all_goals (simp; omega)

/-- a number's bytes -/
def numB (n : Nat) : List UInt8 :=
  if n ≤ 240 then [UInt8.ofNat n]
  else if n ≤ 2287 then [UInt8.ofNat (241 + (n - 240) / 256), UInt8.ofNat ((n - 240) % 256)]
  else if n ≤ 67823 then [249, UInt8.ofNat ((n - 2288) / 256), UInt8.ofNat ((n - 2288) % 256)]
  else UInt8.ofNat (247 + wsize n) :: beB (wsize n) n

/-- how many they are -/
def numL (n : Nat) : Nat := if n ≤ 240 then 1 else if n ≤ 2287 then 2 else if n ≤ 67823 then 3 else 1 + wsize n

theorem numB_length (n : Nat) : (numB n).length = numL n := by
  unfold numB numL; repeat' split
  all_goals simp [beB_length]; try omega

theorem numL_bd (n : Nat) : 1 ≤ numL n ∧ numL n ≤ 9 := by
  have := wsize_le n
  unfold numL; repeat' split
  all_goals omega

end Go.Proofs.Ytgkgdbdapkgkgaa.Mth
