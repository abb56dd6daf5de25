/- A number's bytes are read as it. -/
import Derived.Test.YtgkgdbdapkgkgaaTake2
import Derived.Test.YtgkgdbdapkgkgaaRefNum
namespace Go.Proofs.Ytgkgdbdapkgkgaa
open Go.RowKit

set_option maxRecDepth 20000 in
/-- a number's bytes: its first tells how many; and they are read as it -/
theorem numB_read (n : Nat) (h : n < 18446744073709551616) : ∃ f t, Mth.numB n = f :: t ∧ (f :: t).length = sizeN f.toNat ∧ decN (f :: t) = n := by
  have hw := Mth.wsize_le n
  by_cases a1 : n ≤ 240
  · have e : (UInt8.ofNat n).toNat = n := by simp; omega
    refine ⟨UInt8.ofNat n, [], by rw [Mth.numB, if_pos a1], ?_, ?_⟩
    · rw [e, sizeN, if_pos a1]; rfl
    · simp only [decN, List.headD_cons, e]
      rw [if_pos a1]
  by_cases a2 : n ≤ 2287
  · have e : (UInt8.ofNat (241 + (n - 240) / 256)).toNat = 241 + (n - 240) / 256 := by simp; omega
    refine ⟨_, _, by rw [Mth.numB, if_neg a1, if_pos a2], ?_, ?_⟩
    · rw [e, sizeN, if_neg (by omega), if_pos (by omega)]; rfl
    · simp only [decN, List.headD_cons, List.tail_cons, e]
      rw [if_neg (by omega), if_pos (by omega)]
      simp [Mth.hf]
      omega
  by_cases a3 : n ≤ 67823
  · have e : (249 : UInt8).toNat = 249 := by decide
    refine ⟨_, _, by rw [Mth.numB, if_neg a1, if_neg a2, if_pos a3], ?_, ?_⟩
    · rw [e]; rfl
    · simp only [decN, List.headD_cons, List.tail_cons, e]
      rw [if_neg (by omega), if_neg (by omega), if_pos trivial]
      simp [Mth.hf]
      omega
  · have e : (UInt8.ofNat (247 + Mth.wsize n)).toNat = 247 + Mth.wsize n := by simp; omega
    refine ⟨_, _, by rw [Mth.numB, if_neg a1, if_neg a2, if_neg a3], ?_, ?_⟩
    · rw [e, sizeN, if_neg (by omega), if_neg (by omega), if_neg (by omega), List.length_cons, Mth.beB_length]; omega
    · simp only [decN, List.headD_cons, List.tail_cons, e]
      rw [if_neg (by omega), if_neg (by omega), if_neg (by omega), Mth.hf_beB]
      exact Nat.mod_eq_of_lt (Mth.wsize_fits n h)

/-- and so it is what stands in front of its bytes -/
theorem front_numB (n : Nat) (h : n < 18446744073709551616) (t : List UInt8) : frontS (Mth.numB n ++ t) = (n, (Mth.numB n).length, 0) := by
  obtain ⟨f, u, e, hl, hd⟩ := numB_read n h
  have et : (f :: (u ++ t)).take (sizeN f.toNat) = f :: u := by
    rw [← hl, ← List.cons_append]
    exact List.take_left
  rw [e, List.cons_append, frontS, if_neg (by rw [← hl]; simp), et, hd, e, hl]
  simp

end Go.Proofs.Ytgkgdbdapkgkgaa
