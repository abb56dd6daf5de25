/- The plain mathematics of P1.2: of two numbers the lesser one's bytes are less, whatever stands behind either. -/
import Derived.Test.YthcoblmfmbmdkaaGrpA
import Derived.Lib.Bytealg
namespace Go.Proofs.Ythcoblmfmbmdkaa.Mth

/-- one text stands ahead of the other: behind a common beginning a byte is less -/
def Ahead (l m : List UInt8) : Prop := ∃ c x y l' m', l = c ++ x :: l' ∧ m = c ++ y :: m' ∧ x < y

theorem Ahead.head {x y : UInt8} (l m : List UInt8) (h : x < y) : Ahead (x :: l) (y :: m) := ⟨[], x, y, l, m, rfl, rfl, h⟩
theorem Ahead.cons {l m : List UInt8} (z : UInt8) (h : Ahead l m) : Ahead (z :: l) (z :: m) := by
  obtain ⟨c, x, y, l', m', rfl, rfl, hxy⟩ := h
  exact ⟨z :: c, x, y, l', m', rfl, rfl, hxy⟩
theorem Ahead.append {l m : List UInt8} (h : Ahead l m) (t u : List UInt8) : Ahead (l ++ t) (m ++ u) := by
  obtain ⟨c, x, y, l', m', rfl, rfl, hxy⟩ := h
  exact ⟨c, x, y, l' ++ t, m' ++ u, by simp, by simp, hxy⟩
theorem Ahead.pre (c : List UInt8) {l m : List UInt8} (h : Ahead l m) : Ahead (c ++ l) (c ++ m) := by
  obtain ⟨d, x, y, l', m', rfl, rfl, hxy⟩ := h
  exact ⟨c ++ d, x, y, l', m', by simp, by simp, hxy⟩

theorem Ahead.cmp {l m : List UInt8} (h : Ahead l m) : Lib.compareBytes l m = -1 ∧ Lib.compareBytes m l = 1 := by
  obtain ⟨c, x, y, l', m', rfl, rfl, hxy⟩ := h
  have hyx : ¬ y < x := by simp only [UInt8.lt_iff_toNat_lt] at *; omega
  induction c with
  | nil => simp [Lib.compareBytes, hxy, hyx]
  | cons z c ih =>
    have hz : ¬ z < z := by simp only [UInt8.lt_iff_toNat_lt]; omega
    simp only [List.cons_append, Lib.compareBytes, if_neg hz]
    exact ih
theorem cmp_self (l : List UInt8) : Lib.compareBytes l l = 0 := by
  induction l with
  | nil => rfl
  | cons z l ih =>
    have hz : ¬ z < z := by simp only [UInt8.lt_iff_toNat_lt]; omega
    simp only [Lib.compareBytes, if_neg hz]
    exact ih

theorem of_lt {x y : Nat} (h : x < y) (hy : y < 256) : UInt8.ofNat x < UInt8.ofNat y := by
  rw [UInt8.lt_iff_toNat_lt]
  simp
  omega

theorem lt249 {y : Nat} (h : 249 < y) (hy : y < 256) : (249 : UInt8) < UInt8.ofNat y := by
  rw [UInt8.lt_iff_toNat_lt]
  have e : (249 : UInt8).toNat = 249 := by decide
  rw [e]
  simp
  omega

theorem beB_cons (k n : Nat) : beB (k + 1) n = UInt8.ofNat (n / 256 ^ k % 256) :: beB k n := by
  induction k generalizing n with
  | zero => simp [beB]
  | succ k ih =>
    rw [beB, ih (n / 256), beB, Nat.div_div_eq_div_mul, Nat.pow_succ, Nat.mul_comm 256]
    rfl

theorem beB_ahead (k a b : Nat) (h : a % 256 ^ k < b % 256 ^ k) : Ahead (beB k a) (beB k b) := by
  induction k with
  | zero => simp [Nat.mod_one] at h
  | succ k ih =>
    rw [beB_cons, beB_cons]
    have e1 : a % 256 ^ (k + 1) = a % 256 ^ k + 256 ^ k * (a / 256 ^ k % 256) := by rw [Nat.pow_succ, Nat.mod_mul]
    have e2 : b % 256 ^ (k + 1) = b % 256 ^ k + 256 ^ k * (b / 256 ^ k % 256) := by rw [Nat.pow_succ, Nat.mod_mul]
    rw [e1, e2] at h
    have hp : 0 < 256 ^ k := Nat.pow_pos (by omega)
    have ha := Nat.mod_lt a hp
    have hb := Nat.mod_lt b hp
    by_cases hq : a / 256 ^ k % 256 < b / 256 ^ k % 256
    · exact Ahead.head _ _ (of_lt hq (by omega))
    · by_cases hq2 : a / 256 ^ k % 256 = b / 256 ^ k % 256
      · rw [hq2] at h ⊢
        exact Ahead.cons _ (ih (by omega))
      · exfalso
        have h3 : b / 256 ^ k % 256 + 1 ≤ a / 256 ^ k % 256 := by omega
        have h4 := Nat.mul_le_mul_left (256 ^ k) h3
        rw [Nat.mul_add, Nat.mul_one] at h4
        omega

theorem wsize_mono (a b : Nat) (h : a ≤ b) : wsize a ≤ wsize b := by
  unfold wsize
  grind

set_option maxRecDepth 20000 in
/-- P1.2 -/
theorem numB_ahead (a b : Nat) (h : a < b) (hb : b < 18446744073709551616) : Ahead (numB a) (numB b) := by
  have wa := wsize_le a
  have wb := wsize_le b
  have wm := wsize_mono a b (by omega)
  by_cases a1 : a ≤ 240
  · have ea : numB a = [UInt8.ofNat a] := by rw [numB, if_pos a1]
    rw [ea]
    by_cases b1 : b ≤ 240
    · rw [numB, if_pos b1]; exact Ahead.head _ _ (of_lt h (by omega))
    by_cases b2 : b ≤ 2287
    · rw [numB, if_neg b1, if_pos b2]; exact Ahead.head _ _ (of_lt (by omega) (by omega))
    by_cases b3 : b ≤ 67823
    · rw [numB, if_neg b1, if_neg b2, if_pos b3]; exact Ahead.head _ _ (of_lt (y := 249) (by omega) (by omega))
    · rw [numB, if_neg b1, if_neg b2, if_neg b3]; exact Ahead.head _ _ (of_lt (by omega) (by omega))
  by_cases a2 : a ≤ 2287
  · have ea : numB a = [UInt8.ofNat (241 + (a - 240) / 256), UInt8.ofNat ((a - 240) % 256)] := by rw [numB, if_neg a1, if_pos a2]
    rw [ea]
    by_cases b2 : b ≤ 2287
    · rw [numB, if_neg (by omega), if_pos b2]
      by_cases hq : (a - 240) / 256 < (b - 240) / 256
      · exact Ahead.head _ _ (of_lt (by omega) (by omega))
      · have e : (a - 240) / 256 = (b - 240) / 256 := by omega
        rw [e]
        exact Ahead.cons _ (Ahead.head _ _ (of_lt (by omega) (by omega)))
    by_cases b3 : b ≤ 67823
    · rw [numB, if_neg (by omega), if_neg b2, if_pos b3]; exact Ahead.head _ _ (of_lt (y := 249) (by omega) (by omega))
    · rw [numB, if_neg (by omega), if_neg b2, if_neg b3]; exact Ahead.head _ _ (of_lt (by omega) (by omega))
  by_cases a3 : a ≤ 67823
  · have ea : numB a = [249, UInt8.ofNat ((a - 2288) / 256), UInt8.ofNat ((a - 2288) % 256)] := by rw [numB, if_neg a1, if_neg a2, if_pos a3]
    rw [ea]
    by_cases b3 : b ≤ 67823
    · rw [numB, if_neg (by omega), if_neg (by omega), if_pos b3]
      refine Ahead.cons _ ?_
      by_cases hq : (a - 2288) / 256 < (b - 2288) / 256
      · exact Ahead.head _ _ (of_lt (by omega) (by omega))
      · have e : (a - 2288) / 256 = (b - 2288) / 256 := by omega
        rw [e]
        exact Ahead.cons _ (Ahead.head _ _ (of_lt (by omega) (by omega)))
    · rw [numB, if_neg (by omega), if_neg (by omega), if_neg b3]; exact Ahead.head _ _ (lt249 (by omega) (by omega))
  · rw [numB, if_neg a1, if_neg a2, if_neg a3, numB, if_neg (by omega), if_neg (by omega), if_neg (by omega)]
    by_cases hw : wsize a < wsize b
    · exact Ahead.head _ _ (of_lt (by omega) (by omega))
    · have e : wsize a = wsize b := by omega
      have fb := wsize_fits b hb
      rw [e]
      refine Ahead.cons _ (beB_ahead _ _ _ ?_)
      rw [Nat.mod_eq_of_lt (by omega), Nat.mod_eq_of_lt fb]
      exact h

theorem numB_inj (a b : Nat) (ha : a < 18446744073709551616) (hb : b < 18446744073709551616) (h : numB a = numB b) : a = b := by
  rcases Nat.lt_trichotomy a b with hl | he | hl
  · have := (numB_ahead a b hl hb).cmp; rw [h, cmp_self] at this; omega
  · exact he
  · have := (numB_ahead b a hl ha).cmp; rw [h, cmp_self] at this; omega

end Go.Proofs.Ythcoblmfmbmdkaa.Mth
