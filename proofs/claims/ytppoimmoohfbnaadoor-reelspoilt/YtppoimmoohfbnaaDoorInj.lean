/- The sum tells texts of one length apart: one step loses nothing. -/
import Derived.Test.YtppoimmoohfbnaaDoorSteps
namespace Go.Proofs.YtppoimmoohfbnaaDoor.Crc

theorem stp_top (s : Nat) (h : s < 4294967296) : (stp s).testBit 31 = s.testBit 0 := by
  rw [stp_bit]
  have e1 : s.testBit (31 + 1) = false := Nat.testBit_lt_two_pow (Nat.lt_of_lt_of_le h (by decide))
  have e2 : (2197175160 : Nat).testBit 31 = true := by decide +kernel
  rw [e1, e2]; simp
theorem stp_inj (s t : Nat) (hs : s < 4294967296) (ht : t < 4294967296) (h : stp s = stp t) : s = t := by
  have h0 : s.testBit 0 = t.testBit 0 := by rw [← stp_top s hs, ← stp_top t ht, h]
  apply Nat.eq_of_testBit_eq
  intro i
  cases i with
  | zero => exact h0
  | succ i =>
    have h1 := stp_bit s i
    have h2 := stp_bit t i
    rw [h, h2, h0] at h1
    generalize s.testBit (i + 1) = A at h1 ⊢
    generalize t.testBit (i + 1) = B at h1 ⊢
    generalize (t.testBit 0 && Nat.testBit 2197175160 i) = C at h1
    cases A <;> cases B <;> cases C <;> simp_all
theorem iter_lt (k s : Nat) (h : s < 4294967296) : iter k s < 4294967296 := by
  induction k generalizing s with
  | zero => exact h
  | succ k ih => exact ih _ (stp_lt s h)
theorem iter_inj (k s t : Nat) (hs : s < 4294967296) (ht : t < 4294967296) (h : iter k s = iter k t) : s = t := by
  induction k generalizing s t with
  | zero => exact h
  | succ k ih => exact stp_inj s t hs ht (ih _ _ (stp_lt s hs) (stp_lt t ht) h)
theorem byt_inj (s t b c : Nat) (hs : s < 4294967296) (ht : t < 4294967296) (hb : b < 256) (hc : c < 256) (h : byt s b = byt t c) : s ^^^ b = t ^^^ c := by
  unfold byt at h
  have h1 := xor_lt hs (show b < 4294967296 by omega)
  have h2 := xor_lt ht (show c < 4294967296 by omega)
  have e1 := nb_iter (nb (s ^^^ b))
  have e2 := nb_iter (nb (t ^^^ c))
  rw [e1, e2] at h
  have h3 := iter_inj 4 _ _ (nb_lt _ h1) (nb_lt _ h2) h
  rw [nb_iter, nb_iter] at h3
  exact iter_inj 4 _ _ h1 h2 h3
theorem on_inj (l : List UInt8) (s t : Nat) (hs : s < 4294967296) (ht : t < 4294967296) (h : on s l = on t l) : s = t := by
  induction l generalizing s t with
  | nil => exact h
  | cons b l ih =>
    have hb : b.toNat < 256 := b.toNat_lt
    have := ih (byt s b.toNat) (byt t b.toNat) (byt_lt _ _ hs hb) (byt_lt _ _ ht hb) h
    have h2 := byt_inj s t b.toNat b.toNat hs ht hb hb this
    have h3 : (s ^^^ b.toNat) ^^^ b.toNat = (t ^^^ b.toNat) ^^^ b.toNat := by rw [h2]
    simpa [Nat.xor_assoc] using h3
theorem xor_left (s b c : Nat) (h : s ^^^ b = s ^^^ c) : b = c := by
  have : s ^^^ (s ^^^ b) = s ^^^ (s ^^^ c) := by rw [h]
  simpa [← Nat.xor_assoc] using this
/-- one byte -/
theorem sum_byte (l m : List UInt8) (x y : UInt8) (h : sum (l ++ x :: m) = sum (l ++ y :: m)) : x = y := by
  have h1 := on_lt 4294967295 (l ++ x :: m) (by omega)
  have h2 := on_lt 4294967295 (l ++ y :: m) (by omega)
  have e : on 4294967295 (l ++ x :: m) = on 4294967295 (l ++ y :: m) := by unfold sum at h; omega
  rw [on_append, on_append] at e
  have hl := on_lt 4294967295 l (by omega)
  have hx : x.toNat < 256 := x.toNat_lt
  have hy : y.toNat < 256 := y.toNat_lt
  have h3 := on_inj m (byt (on 4294967295 l) x.toNat) (byt (on 4294967295 l) y.toNat) (byt_lt _ _ hl hx) (byt_lt _ _ hl hy) e
  have h4 := byt_inj _ _ _ _ hl hl hx hy h3
  exact UInt8.toNat_inj.1 (xor_left _ _ _ h4)
theorem sum_set (l : List UInt8) (i : Nat) (hi : i < l.length) (y : UInt8) (h : sum (l.set i y) = sum l) : y = l[i] := by
  have e1 : l = l.take i ++ l[i] :: l.drop (i + 1) := by simp
  have e2 : l.set i y = l.take i ++ y :: l.drop (i + 1) := by rw [List.set_eq_take_append_cons_drop]; simp [hi]
  rw [e2] at h
  conv at h => rhs; rw [e1]
  exact sum_byte _ _ _ _ h

end Go.Proofs.YtppoimmoohfbnaaDoor.Crc
