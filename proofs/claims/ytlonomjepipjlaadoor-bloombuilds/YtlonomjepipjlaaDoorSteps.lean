/- The plain mathematics of the sum, bit by bit: the table of half bytes does four steps of the division, and the division's list is the sum that is under way. -/
import Derived.Test.YtlonomjepipjlaaDoorCrc
namespace Go.Proofs.YtlonomjepipjlaaDoor.Crc

/-- one bit of the division -/
def stp (s : Nat) : Nat := s / 2 ^^^ (if s % 2 = 1 then 2197175160 else 0)

theorem xor_div (x y : Nat) : (x ^^^ y) / 2 = x / 2 ^^^ y / 2 := by
  apply Nat.eq_of_testBit_eq
  intro i
  simp [Nat.testBit_div_two, Nat.testBit_xor]
theorem xor_mod (x y : Nat) : (x ^^^ y) % 2 = (x % 2 + y % 2) % 2 := by
  have h := Nat.testBit_xor x y 0
  simp only [Nat.testBit_zero] at h
  have h1 : x % 2 = 0 ∨ x % 2 = 1 := by omega
  have h2 : y % 2 = 0 ∨ y % 2 = 1 := by omega
  have h3 : (x ^^^ y) % 2 = 0 ∨ (x ^^^ y) % 2 = 1 := by omega
  rcases h1 with h1 | h1 <;> rcases h2 with h2 | h2 <;> rcases h3 with h3 | h3 <;> simp [h1, h2, h3] at h ⊢

theorem stp_xor (x y : Nat) : stp (x ^^^ y) = stp x ^^^ stp y := by
  unfold stp
  rw [xor_div, xor_mod]
  have h1 : x % 2 = 0 ∨ x % 2 = 1 := by omega
  have h2 : y % 2 = 0 ∨ y % 2 = 1 := by omega
  rcases h1 with h1 | h1 <;> rcases h2 with h2 | h2 <;> simp [h1, h2]
  · rw [Nat.xor_assoc]
  · rw [Nat.xor_assoc, Nat.xor_assoc, Nat.xor_comm (y / 2)]
  · rw [Nat.xor_assoc, Nat.xor_comm 2197175160, Nat.xor_assoc, Nat.xor_self, Nat.xor_zero]
theorem stp_even (y : Nat) : stp (2 * y) = y := by
  unfold stp
  rw [if_neg (by omega), Nat.xor_zero]
  omega
theorem split (b : Nat) : b = b % 2 ^^^ 2 * (b / 2) := by
  apply Nat.eq_of_testBit_eq
  intro i
  cases i with
  | zero => simp
  | succ i =>
    have e : (2 * (b / 2)).testBit (i + 1) = (b / 2).testBit i := by
      rw [Nat.testBit_succ]; congr 1; omega
    rw [Nat.testBit_xor, e, Nat.testBit_succ]
    have e2 : (b % 2).testBit (i + 1) = false := by
      rw [Nat.testBit_succ]
      have : b % 2 / 2 = 0 := by omega
      rw [this]; simp
    rw [e2]; simp

/-- so many bits of b, the lowest first, into a sum -/
def feed : Nat → Nat → Nat → Nat
  | 0, s, _ => s
  | k + 1, s, b => feed k (stp (s ^^^ b % 2)) (b / 2)
def iter : Nat → Nat → Nat
  | 0, s => s
  | k + 1, s => iter k (stp s)

theorem iter_feed (k s b : Nat) : iter k (s ^^^ b) = feed k s b ^^^ b / 2 ^ k := by
  induction k generalizing s b with
  | zero => simp [iter, feed]
  | succ k ih =>
    rw [iter, feed]
    have e : stp (s ^^^ b) = stp (s ^^^ b % 2) ^^^ b / 2 := by
      conv => lhs; rw [split b]
      rw [← Nat.xor_assoc, stp_xor, stp_even]
    rw [e, ih, Nat.div_div_eq_div_mul, Nat.pow_succ, Nat.mul_comm 2]

theorem feed_mod (k s b : Nat) : feed k s b = feed k s (b % 2 ^ k) := by
  induction k generalizing s b with
  | zero => rfl
  | succ k ih =>
    rw [feed, feed, ih, ih (b := b % 2 ^ (k + 1) / 2)]
    have e1 : b % 2 ^ (k + 1) % 2 = b % 2 := by rw [Nat.pow_succ, Nat.mul_comm, Nat.mod_mul_right_mod]
    have e2 : b % 2 ^ (k + 1) / 2 % 2 ^ k = b / 2 % 2 ^ k := by
      rw [Nat.pow_succ, Nat.mul_comm, Nat.mod_mul_right_div_self, Nat.mod_mod]
    rw [e1, e2]

theorem nib_feed : ∀ n : Fin 16, feed 4 0 n.val = nib.getD n.val 0 := by decide +kernel
theorem nb_iter (s : Nat) : nb s = iter 4 s := by
  have h := iter_feed 4 0 s
  rw [Nat.zero_xor] at h
  rw [h, feed_mod 4 0 s]
  have e := nib_feed ⟨s % 16, Nat.mod_lt _ (by omega)⟩
  simp only at e
  rw [show (2 : Nat) ^ 4 = 16 from rfl, e, nb, Nat.xor_comm]

theorem iter_add (a b s : Nat) : iter (a + b) s = iter b (iter a s) := by
  induction a generalizing s with
  | zero => simp [iter]
  | succ a ih => rw [Nat.succ_add, iter, ih, iter]

theorem byt_feed (s b : Nat) (hb : b < 256) : byt s b = feed 8 s b := by
  unfold byt
  rw [nb_iter (s ^^^ b), nb_iter, ← iter_add 4 4, iter_feed]
  rw [show b / 2 ^ 8 = 0 by omega, Nat.xor_zero]

/-! ### bit by bit over a text -/
/-- the bits of a text, the lowest of each byte first; and noughts -/
def mbit (p : List UInt8) (i : Nat) : Bool := ((p.getD (i / 8) 0).toNat / 2 ^ (i % 8)) % 2 == 1
/-- the sum behind so many bits -/
def bs (p : List UInt8) : Nat → Nat
  | 0 => 4294967295
  | i + 1 => stp (bs p i ^^^ (mbit p i).toNat)

theorem mbit_val (p : List UInt8) (i : Nat) : (mbit p i).toNat = ((p.getD (i / 8) 0).toNat / 2 ^ (i % 8)) % 2 := by
  unfold mbit
  have h : ((p.getD (i / 8) 0).toNat / 2 ^ (i % 8)) % 2 = 0 ∨ ((p.getD (i / 8) 0).toNat / 2 ^ (i % 8)) % 2 = 1 := by omega
  rcases h with h | h <;> rw [h] <;> rfl

theorem bs_feed (p : List UInt8) (q k : Nat) (hk : k ≤ 8) : bs p (8 * q + k) = feed k (bs p (8 * q)) ((p.getD q 0).toNat) := by
  have key : ∀ k s b j, j + k ≤ 8 → (∀ i, i < k → (mbit p (8 * q + j + i)).toNat = b / 2 ^ i % 2) → bs p (8 * q + j) = s → bs p (8 * q + j + k) = feed k s b := by
    intro k
    induction k with
    | zero => intro s b j _ _ h; simpa [feed] using h
    | succ k ih =>
      intro s b j hj hb hs
      rw [feed]
      have h0 := hb 0 (by omega)
      rw [Nat.add_zero, Nat.pow_zero, Nat.div_one] at h0
      have := ih (stp (s ^^^ b % 2)) (b / 2) (j + 1) (by omega) (fun i hi => by
        have := hb (i + 1) (by omega)
        rw [show 8 * q + (j + 1) + i = 8 * q + j + (i + 1) by omega, this, Nat.div_div_eq_div_mul, Nat.pow_succ, Nat.mul_comm 2]) (by
        rw [show 8 * q + (j + 1) = 8 * q + j + 1 by omega, bs, hs, h0])
      rw [← this]; congr 1; omega
  have := key k (bs p (8 * q)) ((p.getD q 0).toNat) 0 (by omega) (fun i hi => by
    rw [mbit_val, Nat.add_zero]
    have e1 : (8 * q + i) / 8 = q := by omega
    have e2 : (8 * q + i) % 8 = i := by omega
    rw [e1, e2]) rfl
  simpa using this

theorem bs_on (p : List UInt8) (q : Nat) (hq : q ≤ p.length) : bs p (8 * q) = on 4294967295 (p.take q) := by
  induction q with
  | zero => rfl
  | succ q ih =>
    have hlt : q < p.length := by omega
    rw [show 8 * (q + 1) = 8 * q + 8 by omega, bs_feed p q 8 (by omega), ih (by omega), List.take_succ_eq_append_getElem hlt, on_snoc]
    have e : p.getD q 0 = p[q] := by simp [hlt]
    rw [e, byt_feed _ _ (p[q]).toNat_lt]

theorem bs_end (p : List UInt8) : bs p (8 * p.length) = on 4294967295 p := by rw [bs_on p _ (Nat.le_refl _), List.take_length]

theorem stp_lt (s : Nat) (h : s < 4294967296) : stp s < 4294967296 := by
  unfold stp
  refine xor_lt (by omega) ?_
  split <;> omega
theorem bs_lt (p : List UInt8) (i : Nat) : bs p i < 4294967296 := by
  induction i with
  | zero => show 4294967295 < _; omega
  | succ i ih =>
    rw [bs]
    refine stp_lt _ (xor_lt ih ?_)
    cases mbit p i <;> simp

/-! ### the division's list -/
def bys : List Nat := [0, 6, 8, 9, 10, 11, 13, 14, 18, 19, 20, 22, 23, 25, 26, 27, 28]
/-- where the powers of the divisor stand behind place i -/
def hit (i q : Nat) : Bool := bys.any fun k => q + k == i + 32
def divF (f : Nat → Bool) (i : Nat) : Nat → Bool := fun q => f q ^^ (f i && hit i q)
/-- the list behind so many steps -/
def fs (p : List UInt8) : Nat → Nat → Bool
  | 0 => fun q => if q < 32 then !mbit p q else mbit p q
  | i + 1 => divF (fs p i) i

theorem poly_bits : ∀ j : Fin 32, (2197175160 : Nat).testBit j.val = bys.any fun k => j.val + k == 31 := by decide +kernel
theorem ones_bits : ∀ j : Fin 32, (4294967295 : Nat).testBit j.val = true := by decide +kernel

theorem hit_eq (i j : Nat) : hit i (i + 1 + j) = bys.any fun k => j + k == 31 := by
  unfold hit
  congr 1
  funext k
  rw [Bool.eq_iff_iff]
  simp only [beq_iff_eq]
  omega
theorem hit_far (i q : Nat) (h : i + 33 ≤ q) : hit i q = false := by
  unfold hit
  rw [List.any_eq_false]
  intro k _
  simp only [beq_iff_eq]
  omega

theorem stp_bit (x j : Nat) : (stp x).testBit j = (x.testBit (j + 1) ^^ (x.testBit 0 && (2197175160 : Nat).testBit j)) := by
  unfold stp
  rw [Nat.testBit_xor, Nat.testBit_div_two]
  congr 1
  have h : x % 2 = 0 ∨ x % 2 = 1 := by omega
  rcases h with h | h
  · rw [if_neg (by omega)]
    have : x.testBit 0 = false := by simp [Nat.testBit_zero, h]
    rw [this]; simp
  · rw [if_pos h]
    have : x.testBit 0 = true := by simp [Nat.testBit_zero, h]
    rw [this]; simp

theorem bit_toNat (b : Bool) (j : Nat) : b.toNat.testBit j = (b && j == 0) := by
  cases b
  · simp
  · cases j with
    | zero => rfl
    | succ j => simp [Nat.testBit_succ]

theorem fs_inv (p : List UInt8) (i : Nat) : (∀ j, j < 32 → fs p i (i + j) = ((bs p i).testBit j ^^ mbit p (i + j))) ∧ ∀ q, i + 32 ≤ q → fs p i q = mbit p q := by
  induction i with
  | zero =>
    refine ⟨fun j hj => ?_, fun q hq => ?_⟩
    · have h := ones_bits ⟨j, hj⟩
      simp only at h
      rw [Nat.zero_add, bs, h, fs]
      simp [hj]
    · rw [fs]; simp only; rw [if_neg (by omega)]
  | succ i ih =>
    obtain ⟨h1, h2⟩ := ih
    have hc : fs p i i = ((bs p i).testBit 0 ^^ mbit p i) := by have := h1 0 (by omega); simpa using this
    have hbl := bs_lt p i
    refine ⟨fun j hj => ?_, fun q hq => ?_⟩
    · have hp := poly_bits ⟨j, hj⟩
      simp only at hp
      have hx0 : (bs p i ^^^ (mbit p i).toNat).testBit 0 = ((bs p i).testBit 0 ^^ mbit p i) := by rw [Nat.testBit_xor, bit_toNat]; simp
      have hx1 : (bs p i ^^^ (mbit p i).toNat).testBit (j + 1) = (bs p i).testBit (j + 1) := by rw [Nat.testBit_xor, bit_toNat]; simp
      rw [bs, stp_bit, hx0, hx1, fs, divF, hit_eq, ← hp, hc]
      by_cases hj31 : j < 31
      · have := h1 (j + 1) (by omega)
        rw [show i + (j + 1) = i + 1 + j by omega] at this
        rw [this]
        generalize (bs p i).testBit (j + 1) = A
        generalize mbit p (i + 1 + j) = B
        generalize ((bs p i).testBit 0 ^^ mbit p i) = C
        generalize (2197175160 : Nat).testBit j = D
        cases A <;> cases B <;> cases C <;> cases D <;> rfl
      · have hj' : j = 31 := by omega
        subst hj'
        have hf := h2 (i + 1 + 31) (by omega)
        rw [hf]
        have hz : (bs p i).testBit (31 + 1) = false := Nat.testBit_lt_two_pow (Nat.lt_of_lt_of_le hbl (by decide))
        rw [hz]
        generalize mbit p (i + 1 + 31) = B
        generalize ((bs p i).testBit 0 ^^ mbit p i) = C
        generalize (2197175160 : Nat).testBit 31 = D
        cases B <;> cases C <;> cases D <;> rfl
    · rw [fs, divF, hit_far i q (by omega), h2 q (by omega)]
      simp

theorem mbit_far (p : List UInt8) (q : Nat) (h : 8 * p.length ≤ q) : mbit p q = false := by
  unfold mbit
  have e : p.getD (q / 8) 0 = 0 := by
    rw [List.getD_eq_getElem?_getD, List.getElem?_eq_none (by omega)]; rfl
  rw [e]; simp

/-- what is left: the sum, turned -/
theorem fs_end (p : List UInt8) (j : Nat) (h : j < 32) : fs p (8 * p.length) (8 * p.length + j) = (on 4294967295 p).testBit j := by
  rw [(fs_inv p _).1 j h, bs_end, mbit_far p _ (by omega)]
  simp

end Go.Proofs.YtlonomjepipjlaaDoor.Crc
