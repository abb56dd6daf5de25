/- The plain mathematics of layer 2: the sum by half bytes; masks; the four bytes of a sum. -/
import Derived.Laws.BytesArg
namespace Go.Proofs.YtlonomjepipjlaaDoor.Crc

def nib : List Nat := [0, 274646895, 549293790, 820201905, 1098587580, 1361435347, 1640403810, 1905808397, 2197175160, 2460548119, 2722870694, 2987750089, 3280807620, 3553878443, 3811616794, 4084100981]
theorem nib_lt (i : Nat) : nib.getD i 0 < 4294967296 := by
  by_cases h : i < 16
  · have : i = 0 ∨ i = 1 ∨ i = 2 ∨ i = 3 ∨ i = 4 ∨ i = 5 ∨ i = 6 ∨ i = 7 ∨ i = 8 ∨ i = 9 ∨ i = 10 ∨ i = 11 ∨ i = 12 ∨ i = 13 ∨ i = 14 ∨ i = 15 := by omega
    rcases this with rfl | rfl | rfl | rfl | rfl | rfl | rfl | rfl | rfl | rfl | rfl | rfl | rfl | rfl | rfl | rfl <;> decide
  · rw [List.getD_eq_getElem?_getD, List.getElem?_eq_none (by simp [nib]; omega)]; decide

/-- four bits of a sum -/
def nb (s : Nat) : Nat := s / 16 ^^^ nib.getD (s % 16) 0
theorem xor_lt {a b : Nat} (ha : a < 4294967296) (hb : b < 4294967296) : a ^^^ b < 4294967296 := Nat.xor_lt_two_pow (n := 32) ha hb
theorem nb_lt (s : Nat) (h : s < 4294967296) : nb s < 4294967296 := xor_lt (by omega) (nib_lt _)
/-- a byte more -/
def byt (s b : Nat) : Nat := nb (nb (s ^^^ b))
theorem byt_lt (s b : Nat) (h : s < 4294967296) (hb : b < 256) : byt s b < 4294967296 := nb_lt _ (nb_lt _ (xor_lt h (by omega)))
/-- bytes more -/
def on (s : Nat) (l : List UInt8) : Nat := l.foldl (fun s b => byt s b.toNat) s
theorem on_nil (s : Nat) : on s [] = s := rfl
theorem on_snoc (s : Nat) (l : List UInt8) (b : UInt8) : on s (l ++ [b]) = byt (on s l) b.toNat := by simp [on]
theorem on_append (s : Nat) (l m : List UInt8) : on s (l ++ m) = on (on s l) m := by simp [on]
theorem on_lt (s : Nat) (l : List UInt8) (h : s < 4294967296) : on s l < 4294967296 := by
  induction l generalizing s with
  | nil => exact h
  | cons b l ih => exact ih _ (byt_lt s b.toNat h b.toNat_lt)
/-- the sum -/
def sum (l : List UInt8) : Nat := 4294967295 - on 4294967295 l
theorem sum_lt (l : List UInt8) : sum l < 4294967296 := by unfold sum; omega

/-- the masked sum -/
def mask (s : Nat) : Nat := (s / 32768 + s % 32768 * 131072 + 2726488792) % 4294967296
def unmask (s : Nat) : Nat := (s + 1568478504) % 4294967296 % 131072 * 32768 + (s + 1568478504) % 4294967296 / 131072
theorem mask_lt (s : Nat) : mask s < 4294967296 := Nat.mod_lt _ (by omega)
theorem unmask_lt (s : Nat) : unmask s < 4294967296 := by unfold unmask; omega
theorem back (r : Nat) (h : r < 4294967296) : ((r + 2726488792) % 4294967296 + 1568478504) % 4294967296 = r := by omega
theorem forth (r : Nat) (h : r < 4294967296) : ((r + 1568478504) % 4294967296 + 2726488792) % 4294967296 = r := by omega
theorem unmask_mask (s : Nat) (h : s < 4294967296) : unmask (mask s) = s := by
  have e : (mask s + 1568478504) % 4294967296 = s / 32768 + s % 32768 * 131072 := back _ (by omega)
  unfold unmask
  rw [e]
  have e1 : (s / 32768 + s % 32768 * 131072) % 131072 = s / 32768 := by omega
  have e2 : (s / 32768 + s % 32768 * 131072) / 131072 = s % 32768 := by omega
  rw [e1, e2]
  omega
theorem mask_unmask (s : Nat) (h : s < 4294967296) : mask (unmask s) = s := by
  obtain ⟨r, hr⟩ : ∃ r, (s + 1568478504) % 4294967296 = r := ⟨_, rfl⟩
  have hr2 : r < 4294967296 := by omega
  have e1 : (r % 131072 * 32768 + r / 131072) / 32768 = r % 131072 := by omega
  have e2 : (r % 131072 * 32768 + r / 131072) % 32768 = r / 131072 := by omega
  unfold mask unmask
  rw [hr, e1, e2]
  have e3 : r % 131072 + r / 131072 * 131072 = r := by omega
  rw [e3, ← hr]
  exact forth s h
theorem mask_inj (s t : Nat) (hs : s < 4294967296) (ht : t < 4294967296) (h : mask s = mask t) : s = t := by rw [← unmask_mask s hs, h, unmask_mask t ht]

/-- a number's four bytes, the lowest first -/
def four (s : Nat) : List UInt8 := [UInt8.ofNat (s % 256), UInt8.ofNat (s / 256 % 256), UInt8.ofNat (s / 65536 % 256), UInt8.ofNat (s / 16777216 % 256)]
/-- the number of four bytes -/
def low (l : List UInt8) : Nat := (l.getD 0 0).toNat + (l.getD 1 0).toNat * 256 + (l.getD 2 0).toNat * 65536 + (l.getD 3 0).toNat * 16777216
theorem low_four (s : Nat) (h : s < 4294967296) : low (four s) = s := by simp [low, four]; omega
theorem four_low (a b c d : UInt8) : four (low [a, b, c, d]) = [a, b, c, d] := by
  have ha := a.toNat_lt; have hb := b.toNat_lt; have hc := c.toNat_lt; have hd := d.toNat_lt
  have e1 : low [a, b, c, d] % 256 = a.toNat := by simp [low]; omega
  have e2 : low [a, b, c, d] / 256 % 256 = b.toNat := by simp [low]; omega
  have e3 : low [a, b, c, d] / 65536 % 256 = c.toNat := by simp [low]; omega
  have e4 : low [a, b, c, d] / 16777216 % 256 = d.toNat := by simp [low]; omega
  simp only [four, e1, e2, e3, e4, UInt8.ofNat_toNat]
theorem low_lt (l : List UInt8) : low l < 4294967296 := by
  have h1 := (l.getD 0 0).toNat_lt; have h2 := (l.getD 1 0).toNat_lt; have h3 := (l.getD 2 0).toNat_lt; have h4 := (l.getD 3 0).toNat_lt
  unfold low; omega

end Go.Proofs.YtlonomjepipjlaaDoor.Crc
