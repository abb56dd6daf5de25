/- atom.Take. -/
import Derived.Test.YtgkgdbdapkgkgaaTake
import Derived.Test.YtgkgdbdapkgkgaaFresh
namespace Go.Proofs.Ytgkgdbdapkgkgaa
open Go.RowKit

theorem frontS_ok {l : List UInt8} {n s : Nat} (h : frontS l = (n, s, 0)) : 1 ≤ s ∧ s ≤ l.length ∧ s ≤ 9 ∧ n < 18446744073709551616 := by
  cases l with
  | nil => simp [frontS] at h
  | cons f t =>
    have hb := sizeN_bd f.toNat f.toNat_lt
    by_cases hl : (f :: t).length < sizeN f.toNat
    · rw [frontS, if_pos hl] at h; simp at h
    · rw [frontS, if_neg hl] at h
      split at h
      · simp only [Prod.mk.injEq, and_true] at h
        obtain ⟨hn, hs⟩ := h
        refine ⟨by omega, by omega, by omega, ?_⟩
        rw [← hn]
        obtain ⟨q, hq⟩ : ∃ q, sizeN f.toNat = q + 1 := ⟨sizeN f.toNat - 1, by omega⟩
        rw [hq, List.take_succ_cons]
        refine decN_lt f _ ?_
        simp only [List.length_cons] at hl ⊢
        rw [List.length_take]; omega
      · simp at h

/-- the error of a number in front, if it isn't one -/
theorem frontS_err {l : List UInt8} {n s e : Nat} (h : frontS l = (n, s, e)) (he : e ≠ 0) : n = 0 ∧ s = 0 ∧ (e = 2 ∨ e = 4) := by
  cases l with
  | nil => simp [frontS] at h; omega
  | cons f t =>
    by_cases hl : (f :: t).length < sizeN f.toNat
    · rw [frontS, if_pos hl] at h; simp at h; omega
    · rw [frontS, if_neg hl] at h
      split at h
      · simp at h; omega
      · simp at h; omega

end Go.Proofs.Ytgkgdbdapkgkgaa
