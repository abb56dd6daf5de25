/- Texts compared byte by byte: an order. -/
import Derived.Test.YthcoblmfmbmdkaaOrder
namespace Go.Proofs.Ythcoblmfmbmdkaa.Mth

theorem cmp_vals (l m : List UInt8) : Lib.compareBytes l m = -1 ∨ Lib.compareBytes l m = 0 ∨ Lib.compareBytes l m = 1 := by
  induction l generalizing m with
  | nil => cases m <;> simp [Lib.compareBytes]
  | cons x l ih =>
    cases m with
    | nil => simp [Lib.compareBytes]
    | cons y m =>
      simp only [Lib.compareBytes]
      split
      · simp
      · split
        · simp
        · exact ih m

theorem cmp_neg (l m : List UInt8) : Lib.compareBytes m l = - Lib.compareBytes l m := by
  induction l generalizing m with
  | nil => cases m <;> simp [Lib.compareBytes]
  | cons x l ih =>
    cases m with
    | nil => simp [Lib.compareBytes]
    | cons y m =>
      simp only [Lib.compareBytes]
      by_cases h1 : x < y
      · have h2 : ¬ y < x := by simp only [UInt8.lt_iff_toNat_lt] at *; omega
        simp [h1, h2]
      · by_cases h2 : y < x
        · simp [h1, h2]
        · simp [h1, h2, ih m]

theorem cmp_zero {l m : List UInt8} : Lib.compareBytes l m = 0 ↔ l = m := by
  induction l generalizing m with
  | nil => cases m <;> simp [Lib.compareBytes]
  | cons x l ih =>
    cases m with
    | nil => simp [Lib.compareBytes]
    | cons y m =>
      simp only [Lib.compareBytes]
      by_cases h1 : x < y
      · have h2 : ¬ x = y := by rintro rfl; simp only [UInt8.lt_iff_toNat_lt] at h1; omega
        simp [h1, h2]
      · by_cases h2 : y < x
        · have h3 : ¬ x = y := by rintro rfl; simp only [UInt8.lt_iff_toNat_lt] at h2; omega
          simp [h1, h2, h3]
        · have h3 : x = y := by apply UInt8.toNat_inj.1; simp only [UInt8.lt_iff_toNat_lt] at *; omega
          simp [h3, UInt8.lt_irrefl, ih]

theorem cmp_trans {l m n : List UInt8} (h1 : Lib.compareBytes l m < 0) (h2 : Lib.compareBytes m n < 0) : Lib.compareBytes l n < 0 := by
  induction l generalizing m n with
  | nil =>
    cases n with
    | nil => cases m <;> simp [Lib.compareBytes] at h1 h2
    | cons z n => simp [Lib.compareBytes]
  | cons x l ih =>
    cases m with
    | nil => simp [Lib.compareBytes] at h1
    | cons y m =>
      cases n with
      | nil => simp [Lib.compareBytes] at h2
      | cons z n =>
        simp only [Lib.compareBytes] at h1 h2 ⊢
        have e : ∀ a b : UInt8, a < b ↔ a.toNat < b.toNat := fun a b => UInt8.lt_iff_toNat_lt
        simp only [e] at h1 h2 ⊢
        by_cases a1 : x.toNat < y.toNat
        · by_cases a2 : z.toNat < y.toNat
          · rw [if_neg (by omega), if_pos a2] at h2; omega
          · rw [if_pos (by omega)]; omega
        · rw [if_neg a1] at h1
          by_cases a2 : y.toNat < x.toNat
          · rw [if_pos a2] at h1; omega
          · rw [if_neg a2] at h1
            by_cases a3 : y.toNat < z.toNat
            · rw [if_pos (by omega)]; omega
            · rw [if_neg a3] at h2
              by_cases a4 : z.toNat < y.toNat
              · rw [if_pos a4] at h2; omega
              · rw [if_neg a4] at h2
                rw [if_neg (by omega), if_neg (by omega)]
                exact ih h1 h2

/-- which of two versions stands ahead -/
def cmpK (a : List UInt8) (s k : Int) (b : List UInt8) (t j : Int) : Int :=
  if Lib.compareBytes a b ≠ 0 then Lib.compareBytes a b else if t < s then -1 else if s < t then 1 else if j < k then -1 else if k < j then 1 else 0

theorem cmpK_vals (a : List UInt8) (s k : Int) (b : List UInt8) (t j : Int) : cmpK a s k b t j = -1 ∨ cmpK a s k b t j = 0 ∨ cmpK a s k b t j = 1 := by
  have := cmp_vals a b
  unfold cmpK
  grind

theorem cmpK_neg (a : List UInt8) (s k : Int) (b : List UInt8) (t j : Int) : cmpK b t j a s k = - cmpK a s k b t j := by
  have := cmp_neg a b
  unfold cmpK
  grind

theorem cmpK_zero {a : List UInt8} {s k : Int} {b : List UInt8} {t j : Int} : cmpK a s k b t j = 0 ↔ a = b ∧ s = t ∧ k = j := by
  have := cmp_zero (l := a) (m := b)
  unfold cmpK
  grind

theorem cmpK_trans {a : List UInt8} {s k : Int} {b : List UInt8} {t j : Int} {c : List UInt8} {u i : Int} (h1 : cmpK a s k b t j ≤ 0) (h2 : cmpK b t j c u i ≤ 0) : cmpK a s k c u i ≤ 0 := by
  have e1 := cmp_zero (l := a) (m := b)
  have e2 := cmp_zero (l := b) (m := c)
  have e3 := cmp_zero (l := a) (m := c)
  have e4 := @cmp_trans a b c
  unfold cmpK at *
  grind

end Go.Proofs.Ythcoblmfmbmdkaa.Mth
