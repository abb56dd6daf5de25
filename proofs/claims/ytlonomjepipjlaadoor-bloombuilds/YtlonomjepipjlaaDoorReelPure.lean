/- A reel, as plain bytes: pieces, and what a record's frame is. -/
import Derived.Test.YtlonomjepipjlaaDoorSum
import Derived.Test.YtlonomjepipjlaaDoorClone
namespace Go.Proofs.YtlonomjepipjlaaDoor
open Go.RowKit

/-- a piece: its sum, how many bytes, its kind, its bytes -/
def pcB (k : UInt8) (t : List UInt8) : List UInt8 := Crc.four (Crc.mask (Crc.sum (k :: t))) ++ ([UInt8.ofNat (t.length % 256), UInt8.ofNat (t.length / 256 % 256)] ++ (k :: t))

theorem pcB_length (k : UInt8) (t : List UInt8) : (pcB k t).length = 7 + t.length := by
  simp [pcB, Crc.four]
  omega

/-- what follows the first piece, from a block's beginning on, by at most so many pieces more -/
def frG : Nat → List UInt8 → List UInt8
  | 0, l => pcB 4 l
  | n + 1, l => if l.length ≤ 57 then pcB 4 l else pcB 3 (l.take 57) ++ frG n (l.drop 57)

/-- what follows the first piece, from a block's beginning on -/
def frR (l : List UInt8) : List UInt8 := frG l.length l

theorem frG_any : ∀ (n m : Nat) (l : List UInt8), l.length ≤ n → l.length ≤ m → frG n l = frG m l := by
  intro n
  induction n with
  | zero =>
    intro m l hn hm
    cases m with
    | zero => rfl
    | succ m => rw [frG, frG, if_pos (by omega)]
  | succ n ih =>
    intro m l hn hm
    cases m with
    | zero => rw [frG, frG, if_pos (by omega)]
    | succ m =>
      rw [frG, frG]
      split
      · rfl
      · rw [ih m (l.drop 57) (by rw [List.length_drop]; omega) (by rw [List.length_drop]; omega)]

theorem frR_eq (l : List UInt8) : frR l = if l.length ≤ 57 then pcB 4 l else pcB 3 (l.take 57) ++ frR (l.drop 57) := by
  unfold frR
  cases h : l.length with
  | zero => rw [frG, if_pos (by omega)]
  | succ n =>
    rw [frG, h]
    split
    · rfl
    · rw [frG_any n (l.drop 57).length (l.drop 57) (by rw [List.length_drop]; omega) (Nat.le_refl _)]

theorem frR_ind {P : List UInt8 → Prop} (h1 : ∀ l : List UInt8, l.length ≤ 57 → P l) (h2 : ∀ l : List UInt8, ¬ l.length ≤ 57 → P (l.drop 57) → P l) : ∀ l, P l := by
  have key : ∀ (n : Nat) (l : List UInt8), l.length ≤ n → P l := by
    intro n
    induction n with
    | zero => intro l h; exact h1 l (by omega)
    | succ n ih =>
      intro l h
      by_cases hl : l.length ≤ 57
      · exact h1 l hl
      · exact h2 l hl (ih _ (by rw [List.length_drop]; omega))
  exact fun l => key l.length l (Nat.le_refl _)

/-- a record's pieces, with room for so many bytes in the first one -/
def frF (r : Nat) (l : List UInt8) : List UInt8 := if l.length ≤ r then pcB 1 l else pcB 2 (l.take r) ++ frR (l.drop r)

def leftN (at' : Nat) : Nat := 64 - at' % 64

def gapN (at' : Nat) : Nat := if leftN at' < 7 then leftN at' else 0

def frameB (at' : Nat) (l : List UInt8) : List UInt8 := List.replicate (gapN at') 0 ++ frF (leftN (at' + gapN at') - 7) l

theorem left_bd (a : Nat) : 1 ≤ leftN a ∧ leftN a ≤ 64 := by unfold leftN; omega

theorem gap_bd (a : Nat) : gapN a ≤ 6 := by unfold gapN; split <;> omega

theorem gap_left (a : Nat) : 7 ≤ leftN (a + gapN a) := by
  unfold gapN
  split
  · rename_i h
    unfold leftN at *
    omega
  · rename_i h
    rw [Nat.add_zero]
    omega

theorem left_mod (a : Nat) : leftN (a % 64) = leftN a := by unfold leftN; omega
theorem gap_mod (a : Nat) : gapN (a % 64) = gapN a := by unfold gapN; rw [left_mod]
theorem left_add (a n : Nat) : leftN (a % 64 + n) = leftN (a + n) := by unfold leftN; omega

theorem frameB_mod (a : Nat) (l : List UInt8) : frameB (a % 64) l = frameB a l := by
  unfold frameB
  rw [gap_mod, left_add]

theorem frR_long (l : List UInt8) : l.length < (frR l).length := by
  induction l using frR_ind with
  | h1 l h => rw [frR_eq, if_pos h, pcB_length]; omega
  | h2 l h ih =>
    rw [frR_eq, if_neg h, List.length_append, pcB_length, List.length_take]
    rw [List.length_drop] at ih
    omega

theorem frF_long (r : Nat) (l : List UInt8) : l.length < (frF r l).length := by
  unfold frF
  split
  · rw [pcB_length]; omega
  · have := frR_long (l.drop r)
    rw [List.length_append, pcB_length, List.length_take]
    rw [List.length_drop] at this
    omega

theorem frameB_long (a : Nat) (l : List UInt8) : l.length < (frameB a l).length := by
  have := frF_long (leftN (a + gapN a) - 7) l
  unfold frameB
  rw [List.length_append]
  omega

end Go.Proofs.YtlonomjepipjlaaDoor
