/- Two texts of one length that are apart within 32 bits that follow one another have unlike sums. -/
import Derived.Test.YtgmoedoalbmkpaaDoorInj
namespace Go.Proofs.YtgmoedoalbmkpaaDoor.Crc

theorem feed_snoc (k s b : Nat) : feed (k + 1) s b = stp (feed k s b ^^^ b / 2 ^ k % 2) := by
  induction k generalizing s b with
  | zero => simp [feed]
  | succ k ih =>
    rw [feed, ih, feed]
    congr 3
    rw [Nat.div_div_eq_div_mul, Nat.pow_succ, Nat.mul_comm 2]
theorem feed_iter (k b : Nat) : feed k 0 b = iter k (b % 2 ^ k) := by
  rw [feed_mod]
  have h := iter_feed k 0 (b % 2 ^ k)
  rw [Nat.zero_xor, Nat.div_eq_of_lt (Nat.mod_lt _ (Nat.two_pow_pos k)), Nat.xor_zero] at h
  exact h.symm
theorem iter_zero (k : Nat) : iter k 0 = 0 := by
  induction k with
  | zero => rfl
  | succ k ih => rw [iter]; exact ih
theorem iter_pos (k s : Nat) (hs : s < 4294967296) (h : s ≠ 0) : iter k s ≠ 0 := fun e => h (iter_inj k s 0 hs (by omega) (by rw [e, iter_zero]))
theorem bool_xor (a b : Bool) : (a ^^ b).toNat = a.toNat ^^^ b.toNat := by cases a <;> cases b <;> rfl
theorem test_val (P j : Nat) : (P.testBit j).toNat = P / 2 ^ j % 2 := by rw [Nat.toNat_testBit]

/-- where two texts are apart -/
def winB (k0 P q : Nat) : Bool := decide (k0 ≤ q) && decide (q < k0 + 32) && P.testBit (q - k0)

theorem bs_front (p q : List UInt8) (k0 P : Nat) (h : ∀ i, i < 8 * p.length → mbit q i = (mbit p i ^^ winB k0 P i)) (i : Nat) (hi : i ≤ k0) (hl : i ≤ 8 * p.length) : bs q i = bs p i := by
  induction i with
  | zero => rfl
  | succ i ih =>
    rw [bs, bs, ih (by omega) (by omega), h i (by omega)]
    have : winB k0 P i = false := by simp [winB]; omega
    rw [this]; simp
theorem bs_win (p q : List UInt8) (k0 P : Nat) (h : ∀ i, i < 8 * p.length → mbit q i = (mbit p i ^^ winB k0 P i)) (j : Nat) (hj : j ≤ 32) (hl : k0 + j ≤ 8 * p.length) : bs q (k0 + j) = bs p (k0 + j) ^^^ feed j 0 P := by
  induction j with
  | zero => rw [Nat.add_zero, bs_front p q k0 P h k0 (Nat.le_refl _) (by omega)]; simp [feed]
  | succ j ih =>
    rw [← Nat.add_assoc, bs, bs, ih (by omega) (by omega), h (k0 + j) (by omega), feed_snoc]
    have : winB k0 P (k0 + j) = P.testBit j := by
      have e : k0 + j - k0 = j := by omega
      simp [winB, e]; omega
    rw [this, bool_xor, test_val, ← stp_xor]
    congr 1
    generalize bs p (k0 + j) = a
    generalize feed j 0 P = b
    generalize (mbit p (k0 + j)).toNat = c
    generalize P / 2 ^ j % 2 = d
    rw [Nat.xor_assoc, Nat.xor_assoc, ← Nat.xor_assoc b, Nat.xor_comm b c, Nat.xor_assoc]
theorem bs_far (p q : List UInt8) (k0 P : Nat) (h : ∀ i, i < 8 * p.length → mbit q i = (mbit p i ^^ winB k0 P i)) (r : Nat) (hl : k0 + 32 + r ≤ 8 * p.length) : bs q (k0 + 32 + r) = bs p (k0 + 32 + r) ^^^ iter r (feed 32 0 P) := by
  induction r with
  | zero => rw [Nat.add_zero, bs_win p q k0 P h 32 (Nat.le_refl _) (by omega)]; rfl
  | succ r ih =>
    rw [← Nat.add_assoc, bs, bs, ih (by omega), h (k0 + 32 + r) (by omega), iter_add r 1]
    have : winB k0 P (k0 + 32 + r) = false := by simp [winB]; omega
    rw [this]
    simp only [Bool.xor_false]
    show _ = _ ^^^ stp _
    rw [← stp_xor]
    congr 1
    rw [Nat.xor_assoc, Nat.xor_assoc, Nat.xor_comm (iter r _)]

theorem sum_apart (p q : List UInt8) (k0 P : Nat) (hlen : q.length = p.length) (hP : P % 2 = 1) (hP2 : P < 4294967296) (hk : k0 < 8 * p.length) (h : ∀ i, i < 8 * p.length → mbit q i = (mbit p i ^^ winB k0 P i)) : sum q ≠ sum p := by
  have key : ∃ D, D ≠ 0 ∧ bs q (8 * p.length) = bs p (8 * p.length) ^^^ D := by
    by_cases hc : 8 * p.length ≤ k0 + 32
    · obtain ⟨j, hj⟩ : ∃ j, 8 * p.length = k0 + j := ⟨8 * p.length - k0, by omega⟩
      refine ⟨feed j 0 P, ?_, by rw [hj]; exact bs_win p q k0 P h j (by omega) (by omega)⟩
      rw [feed_iter]
      have hle : P % 2 ^ j ≤ P := Nat.mod_le _ _
      apply iter_pos
      · omega
      · intro e
        obtain ⟨j', rfl⟩ : ∃ j', j = j' + 1 := ⟨j - 1, by omega⟩
        have : P % 2 ^ (j' + 1) % 2 = P % 2 := by rw [Nat.pow_succ, Nat.mul_comm, Nat.mod_mul_right_mod]
        omega
    · obtain ⟨r, hr⟩ : ∃ r, 8 * p.length = k0 + 32 + r := ⟨8 * p.length - k0 - 32, by omega⟩
      refine ⟨iter r (feed 32 0 P), ?_, by rw [hr]; exact bs_far p q k0 P h r (by omega)⟩
      rw [feed_iter]
      have e : P % 2 ^ 32 = P := Nat.mod_eq_of_lt hP2
      rw [e]
      exact iter_pos _ _ (iter_lt _ _ hP2) (iter_pos _ _ hP2 (by omega))
  obtain ⟨D, hD, e⟩ := key
  intro hs
  have hq := bs_end q
  have hp := bs_end p
  rw [hlen] at hq
  have h1 := on_lt 4294967295 q (by omega)
  have h2 := on_lt 4294967295 p (by omega)
  have h3 : on 4294967295 q = on 4294967295 p := by unfold sum at hs; omega
  rw [← hq, ← hp] at h3
  rw [h3] at e
  apply hD
  have := xor_left (bs p (8 * p.length)) 0 D (by rw [Nat.xor_zero]; exact e)
  exact this.symm

/-! ### bits are turned -/
def flip1 (l : List UInt8) (k : Nat) : List UInt8 := l.set (k / 8) (l.getD (k / 8) 0 ^^^ UInt8.ofNat (2 ^ (k % 8)))
theorem flip1_length (l : List UInt8) (k : Nat) : (flip1 l k).length = l.length := by simp [flip1]
theorem mbit_test (l : List UInt8) (q : Nat) : mbit l q = (l.getD (q / 8) 0).toNat.testBit (q % 8) := by
  unfold mbit
  rw [Nat.testBit_eq_decide_div_mod_eq, Bool.eq_iff_iff]
  simp
theorem pow_byte (j : Nat) (h : j < 8) : (UInt8.ofNat (2 ^ j)).toNat = 2 ^ j := by
  have : 2 ^ j < 2 ^ 8 := Nat.pow_lt_pow_right (by omega) h
  simp; omega
theorem flip1_bit (l : List UInt8) (k q : Nat) (hk : k < 8 * l.length) : mbit (flip1 l k) q = (mbit l q ^^ (q == k)) := by
  rw [mbit_test, mbit_test]
  by_cases hq : q / 8 = k / 8
  · have e : (flip1 l k).getD (q / 8) 0 = l.getD (q / 8) 0 ^^^ UInt8.ofNat (2 ^ (k % 8)) := by
      unfold flip1
      rw [hq, List.getD_eq_getElem?_getD, List.getElem?_set_self (by omega)]
      rfl
    rw [e, UInt8.toNat_xor, Nat.testBit_xor, pow_byte _ (Nat.mod_lt _ (by omega)), Nat.testBit_two_pow]
    congr 1
    rw [Bool.eq_iff_iff]
    simp
    omega
  · have e : (flip1 l k).getD (q / 8) 0 = l.getD (q / 8) 0 := by
      unfold flip1
      rw [List.getD_eq_getElem?_getD, List.getElem?_set_ne (by omega), List.getD_eq_getElem?_getD]
    rw [e]
    have : (q == k) = false := by simp; omega
    rw [this]; simp

/-- the text behind so many turns -/
def ap (l : List UInt8) (k0 P : Nat) : Nat → List UInt8
  | 0 => l
  | i + 1 => if P.testBit i = true ∧ k0 + i < 8 * l.length then flip1 (ap l k0 P i) (k0 + i) else ap l k0 P i
theorem ap_length (l : List UInt8) (k0 P i : Nat) : (ap l k0 P i).length = l.length := by
  induction i with
  | zero => rfl
  | succ i ih => rw [ap]; split; rw [flip1_length, ih]; exact ih
theorem ap_bit (l : List UInt8) (k0 P i q : Nat) (hq : q < 8 * l.length) : mbit (ap l k0 P i) q = (mbit l q ^^ (decide (k0 ≤ q) && decide (q < k0 + i) && P.testBit (q - k0))) := by
  induction i with
  | zero =>
    have : (decide (k0 ≤ q) && decide (q < k0 + 0)) = false := by simp
    rw [ap, this]; simp
  | succ i ih =>
    rw [ap]
    by_cases hqi : q = k0 + i
    · subst hqi
      rw [show k0 + i - k0 = i by omega] at ih ⊢
      have e0 : (decide (k0 ≤ k0 + i) && decide (k0 + i < k0 + i)) = false := by simp
      have e1 : (decide (k0 ≤ k0 + i) && decide (k0 + i < k0 + (i + 1))) = true := by simp
      rw [e0] at ih
      rw [e1]
      split
      · rename_i h
        rw [flip1_bit _ _ _ (by rw [ap_length]; exact h.2), ih, h.1]
        simp
      · rename_i h
        rw [ih]
        have : P.testBit i = false := by
          cases hb : P.testBit i
          · rfl
          · exact absurd ⟨hb, hq⟩ h
        rw [this]; simp
    · have e : (decide (k0 ≤ q) && decide (q < k0 + (i + 1))) = (decide (k0 ≤ q) && decide (q < k0 + i)) := by
        rw [Bool.eq_iff_iff]; simp; omega
      rw [e, ← ih]
      split
      · rename_i h
        rw [flip1_bit _ _ _ (by rw [ap_length]; exact h.2)]
        have : (q == k0 + i) = false := by simp; omega
        rw [this]; simp
      · rfl
theorem ap_apart (l : List UInt8) (k0 P : Nat) (hP : P % 2 = 1) (hP2 : P < 4294967296) (hk : k0 < 8 * l.length) : sum (ap l k0 P 32) ≠ sum l :=
  sum_apart l (ap l k0 P 32) k0 P (ap_length _ _ _ _) hP hP2 hk (fun i hi => ap_bit l k0 P 32 i hi)

end Go.Proofs.YtgmoedoalbmkpaaDoor.Crc
