/- Several texts in one. -/
import Derived.Test.YtmgofohaoppajaaDoorGrpB
import Derived.Lib.AppendZeros
import Derived.BigQuiet
import Derived.Deep.DeepCutAuto
import Derived.Deep.CutRange
import Derived.Deep.CutBlock
import Derived.Deep.RegionHeld3
import Derived.Laws.OwnMore
import Derived.Deep.LoopGhost
import Derived.Laws.AppendOwnNone

/- ReelBack answers true. -/
namespace Go.Proofs.YtmgofohaoppajaaDoor
open Go.RowKit
set_option linter.unusedVariables false

/-- where the loop has come to; each record has at most m bytes -/
structure FrK (m : Nat) (w2 wr : World) (T : List (List UInt8)) (j : Nat) (pv : Value) (P : List UInt8) : Prop where
  eq : P = allB (T.take j) []
  ow : OwnN w2.heap.size wr pv P
  bd : P.length ≤ (2 * m + 20) * j
  be : Below w2.heap.size w2 wr

theorem frk_step {m : Nat} {w2 wr w4 : World} {T : List (List UInt8)} {j : Nat} {pv pv' : Value} {P : List UInt8} (h : FrK m w2 wr T j pv P) (hj : j < T.length) (hl : T[j].length ≤ m) (ho : OwnN w2.heap.size w4 pv' (P ++ frameB P.length T[j])) (hb : Below w2.heap.size w2 w4) : FrK m w2 w4 T (j + 1) pv' (P ++ frameB P.length T[j]) := by
  refine ⟨?_, ho, ?_, hb⟩
  · rw [List.take_succ_eq_append_getElem hj, allB_snoc, ← h.eq]
  · have := frame_most P.length T[j]
    have := h.bd
    rw [List.length_append, Nat.mul_add]
    omega

theorem allB_most (m : Nat) : ∀ (ls : List (List UInt8)) (P : List UInt8), (∀ r ∈ ls, r.length ≤ m) → (allB ls P).length ≤ P.length + (2 * m + 20) * ls.length := by
  intro ls
  induction ls with
  | nil => intro P h; simp [allB]
  | cons r ls ih =>
    intro P h
    have := ih (P ++ frameB P.length r) (fun x hx => h x (by simp [hx]))
    have h1 := frame_most P.length r
    have h2 := h r (by simp)
    rw [List.length_append] at this
    rw [allB, List.length_cons, Nat.mul_add]
    omega

end Go.Proofs.YtmgofohaoppajaaDoor

/- The plain mathematics of the sum, bit by bit: the table of half bytes does four steps of the division, and the division's list is the sum that is under way. -/
namespace Go.Proofs.YtmgofohaoppajaaDoor.Crc

/-- one bit of the division -/
def stp (s : Nat) : Nat := s / 2 ^^^ (if s % 2 = 1 then 2197175160 else 0)

theorem xor_div (x y : Nat) : (x ^^^ y) / 2 = x / 2 ^^^ y / 2 := by
  apply Nat.eq_of_testBit_eq
  intro i
  simp [Nat.testBit_div_two, Nat.testBit_xor]
theorem xor_mod (x y : Nat) : (x ^^^ y) % 2 = (x % 2 + y % 2) % 2 := by
  have h := Nat.testBit_xor x y 0
  simp only [Nat.testBit_zero] at h
  have h1 : x % 2 = 0 ∨ x % 2 = 1 := by omega
  have h2 : y % 2 = 0 ∨ y % 2 = 1 := by omega
  have h3 : (x ^^^ y) % 2 = 0 ∨ (x ^^^ y) % 2 = 1 := by omega
  rcases h1 with h1 | h1 <;> rcases h2 with h2 | h2 <;> rcases h3 with h3 | h3 <;> simp [h1, h2, h3] at h ⊢

theorem stp_xor (x y : Nat) : stp (x ^^^ y) = stp x ^^^ stp y := by
  unfold stp
  rw [xor_div, xor_mod]
  have h1 : x % 2 = 0 ∨ x % 2 = 1 := by omega
  have h2 : y % 2 = 0 ∨ y % 2 = 1 := by omega
  rcases h1 with h1 | h1 <;> rcases h2 with h2 | h2 <;> simp [h1, h2]
  · rw [Nat.xor_assoc]
  · rw [Nat.xor_assoc, Nat.xor_assoc, Nat.xor_comm (y / 2)]
  · rw [Nat.xor_assoc, Nat.xor_comm 2197175160, Nat.xor_assoc, Nat.xor_self, Nat.xor_zero]
theorem stp_even (y : Nat) : stp (2 * y) = y := by
  unfold stp
  rw [if_neg (by omega), Nat.xor_zero]
  omega
theorem split (b : Nat) : b = b % 2 ^^^ 2 * (b / 2) := by
  apply Nat.eq_of_testBit_eq
  intro i
  cases i with
  | zero => simp
  | succ i =>
    have e : (2 * (b / 2)).testBit (i + 1) = (b / 2).testBit i := by
      rw [Nat.testBit_succ]; congr 1; omega
    rw [Nat.testBit_xor, e, Nat.testBit_succ]
    have e2 : (b % 2).testBit (i + 1) = false := by
      rw [Nat.testBit_succ]
      have : b % 2 / 2 = 0 := by omega
      rw [this]; simp
    rw [e2]; simp

/-- so many bits of b, the lowest first, into a sum -/
def feed : Nat → Nat → Nat → Nat
  | 0, s, _ => s
  | k + 1, s, b => feed k (stp (s ^^^ b % 2)) (b / 2)
def iter : Nat → Nat → Nat
  | 0, s => s
  | k + 1, s => iter k (stp s)

theorem iter_feed (k s b : Nat) : iter k (s ^^^ b) = feed k s b ^^^ b / 2 ^ k := by
  induction k generalizing s b with
  | zero => simp [iter, feed]
  | succ k ih =>
    rw [iter, feed]
    have e : stp (s ^^^ b) = stp (s ^^^ b % 2) ^^^ b / 2 := by
      conv => lhs; rw [split b]
      rw [← Nat.xor_assoc, stp_xor, stp_even]
    rw [e, ih, Nat.div_div_eq_div_mul, Nat.pow_succ, Nat.mul_comm 2]

theorem feed_mod (k s b : Nat) : feed k s b = feed k s (b % 2 ^ k) := by
  induction k generalizing s b with
  | zero => rfl
  | succ k ih =>
    rw [feed, feed, ih, ih (b := b % 2 ^ (k + 1) / 2)]
    have e1 : b % 2 ^ (k + 1) % 2 = b % 2 := by rw [Nat.pow_succ, Nat.mul_comm, Nat.mod_mul_right_mod]
    have e2 : b % 2 ^ (k + 1) / 2 % 2 ^ k = b / 2 % 2 ^ k := by
      rw [Nat.pow_succ, Nat.mul_comm, Nat.mod_mul_right_div_self, Nat.mod_mod]
    rw [e1, e2]

theorem nib_feed : ∀ n : Fin 16, feed 4 0 n.val = nib.getD n.val 0 := by decide +kernel
theorem nb_iter (s : Nat) : nb s = iter 4 s := by
  have h := iter_feed 4 0 s
  rw [Nat.zero_xor] at h
  rw [h, feed_mod 4 0 s]
  have e := nib_feed ⟨s % 16, Nat.mod_lt _ (by omega)⟩
  simp only at e
  rw [show (2 : Nat) ^ 4 = 16 from rfl, e, nb, Nat.xor_comm]

theorem iter_add (a b s : Nat) : iter (a + b) s = iter b (iter a s) := by
  induction a generalizing s with
  | zero => simp [iter]
  | succ a ih => rw [Nat.succ_add, iter, ih, iter]

theorem byt_feed (s b : Nat) (hb : b < 256) : byt s b = feed 8 s b := by
  unfold byt
  rw [nb_iter (s ^^^ b), nb_iter, ← iter_add 4 4, iter_feed]
  rw [show b / 2 ^ 8 = 0 by omega, Nat.xor_zero]

/-! ### bit by bit over a text -/
/-- the bits of a text, the lowest of each byte first; and noughts -/
def mbit (p : List UInt8) (i : Nat) : Bool := ((p.getD (i / 8) 0).toNat / 2 ^ (i % 8)) % 2 == 1
/-- the sum behind so many bits -/
def bs (p : List UInt8) : Nat → Nat
  | 0 => 4294967295
  | i + 1 => stp (bs p i ^^^ (mbit p i).toNat)

theorem mbit_val (p : List UInt8) (i : Nat) : (mbit p i).toNat = ((p.getD (i / 8) 0).toNat / 2 ^ (i % 8)) % 2 := by
  unfold mbit
  have h : ((p.getD (i / 8) 0).toNat / 2 ^ (i % 8)) % 2 = 0 ∨ ((p.getD (i / 8) 0).toNat / 2 ^ (i % 8)) % 2 = 1 := by omega
  rcases h with h | h <;> rw [h] <;> rfl

theorem bs_feed (p : List UInt8) (q k : Nat) (hk : k ≤ 8) : bs p (8 * q + k) = feed k (bs p (8 * q)) ((p.getD q 0).toNat) := by
  have key : ∀ k s b j, j + k ≤ 8 → (∀ i, i < k → (mbit p (8 * q + j + i)).toNat = b / 2 ^ i % 2) → bs p (8 * q + j) = s → bs p (8 * q + j + k) = feed k s b := by
    intro k
    induction k with
    | zero => intro s b j _ _ h; simpa [feed] using h
    | succ k ih =>
      intro s b j hj hb hs
      rw [feed]
      have h0 := hb 0 (by omega)
      rw [Nat.add_zero, Nat.pow_zero, Nat.div_one] at h0
      have := ih (stp (s ^^^ b % 2)) (b / 2) (j + 1) (by omega) (fun i hi => by
        have := hb (i + 1) (by omega)
        rw [show 8 * q + (j + 1) + i = 8 * q + j + (i + 1) by omega, this, Nat.div_div_eq_div_mul, Nat.pow_succ, Nat.mul_comm 2]) (by
        rw [show 8 * q + (j + 1) = 8 * q + j + 1 by omega, bs, hs, h0])
      rw [← this]; congr 1; omega
  have := key k (bs p (8 * q)) ((p.getD q 0).toNat) 0 (by omega) (fun i hi => by
    rw [mbit_val, Nat.add_zero]
    have e1 : (8 * q + i) / 8 = q := by omega
    have e2 : (8 * q + i) % 8 = i := by omega
    rw [e1, e2]) rfl
  simpa using this

theorem bs_on (p : List UInt8) (q : Nat) (hq : q ≤ p.length) : bs p (8 * q) = on 4294967295 (p.take q) := by
  induction q with
  | zero => rfl
  | succ q ih =>
    have hlt : q < p.length := by omega
    rw [show 8 * (q + 1) = 8 * q + 8 by omega, bs_feed p q 8 (by omega), ih (by omega), List.take_succ_eq_append_getElem hlt, on_snoc]
    have e : p.getD q 0 = p[q] := by simp [hlt]
    rw [e, byt_feed _ _ (p[q]).toNat_lt]

theorem bs_end (p : List UInt8) : bs p (8 * p.length) = on 4294967295 p := by rw [bs_on p _ (Nat.le_refl _), List.take_length]

theorem stp_lt (s : Nat) (h : s < 4294967296) : stp s < 4294967296 := by
  unfold stp
  refine xor_lt (by omega) ?_
  split <;> omega
theorem bs_lt (p : List UInt8) (i : Nat) : bs p i < 4294967296 := by
  induction i with
  | zero => show 4294967295 < _; omega
  | succ i ih =>
    rw [bs]
    refine stp_lt _ (xor_lt ih ?_)
    cases mbit p i <;> simp

/-! ### the division's list -/
def bys : List Nat := [0, 6, 8, 9, 10, 11, 13, 14, 18, 19, 20, 22, 23, 25, 26, 27, 28]
/-- where the powers of the divisor stand behind place i -/
def hit (i q : Nat) : Bool := bys.any fun k => q + k == i + 32
def divF (f : Nat → Bool) (i : Nat) : Nat → Bool := fun q => f q ^^ (f i && hit i q)
/-- the list behind so many steps -/
def fs (p : List UInt8) : Nat → Nat → Bool
  | 0 => fun q => if q < 32 then !mbit p q else mbit p q
  | i + 1 => divF (fs p i) i

theorem poly_bits : ∀ j : Fin 32, (2197175160 : Nat).testBit j.val = bys.any fun k => j.val + k == 31 := by decide +kernel
theorem ones_bits : ∀ j : Fin 32, (4294967295 : Nat).testBit j.val = true := by decide +kernel

theorem hit_eq (i j : Nat) : hit i (i + 1 + j) = bys.any fun k => j + k == 31 := by
  unfold hit
  congr 1
  funext k
  rw [Bool.eq_iff_iff]
  simp only [beq_iff_eq]
  omega
theorem hit_far (i q : Nat) (h : i + 33 ≤ q) : hit i q = false := by
  unfold hit
  rw [List.any_eq_false]
  intro k _
  simp only [beq_iff_eq]
  omega

theorem stp_bit (x j : Nat) : (stp x).testBit j = (x.testBit (j + 1) ^^ (x.testBit 0 && (2197175160 : Nat).testBit j)) := by
  unfold stp
  rw [Nat.testBit_xor, Nat.testBit_div_two]
  congr 1
  have h : x % 2 = 0 ∨ x % 2 = 1 := by omega
  rcases h with h | h
  · rw [if_neg (by omega)]
    have : x.testBit 0 = false := by simp [Nat.testBit_zero, h]
    rw [this]; simp
  · rw [if_pos h]
    have : x.testBit 0 = true := by simp [Nat.testBit_zero, h]
    rw [this]; simp

theorem bit_toNat (b : Bool) (j : Nat) : b.toNat.testBit j = (b && j == 0) := by
  cases b
  · simp
  · cases j with
    | zero => rfl
    | succ j => simp [Nat.testBit_succ]

theorem fs_inv (p : List UInt8) (i : Nat) : (∀ j, j < 32 → fs p i (i + j) = ((bs p i).testBit j ^^ mbit p (i + j))) ∧ ∀ q, i + 32 ≤ q → fs p i q = mbit p q := by
  induction i with
  | zero =>
    refine ⟨fun j hj => ?_, fun q hq => ?_⟩
    · have h := ones_bits ⟨j, hj⟩
      simp only at h
      rw [Nat.zero_add, bs, h, fs]
      simp [hj]
    · rw [fs]; simp only; rw [if_neg (by omega)]
  | succ i ih =>
    obtain ⟨h1, h2⟩ := ih
    have hc : fs p i i = ((bs p i).testBit 0 ^^ mbit p i) := by have := h1 0 (by omega); simpa using this
    have hbl := bs_lt p i
    refine ⟨fun j hj => ?_, fun q hq => ?_⟩
    · have hp := poly_bits ⟨j, hj⟩
      simp only at hp
      have hx0 : (bs p i ^^^ (mbit p i).toNat).testBit 0 = ((bs p i).testBit 0 ^^ mbit p i) := by rw [Nat.testBit_xor, bit_toNat]; simp
      have hx1 : (bs p i ^^^ (mbit p i).toNat).testBit (j + 1) = (bs p i).testBit (j + 1) := by rw [Nat.testBit_xor, bit_toNat]; simp
      rw [bs, stp_bit, hx0, hx1, fs, divF, hit_eq, ← hp, hc]
      by_cases hj31 : j < 31
      · have := h1 (j + 1) (by omega)
        rw [show i + (j + 1) = i + 1 + j by omega] at this
        rw [this]
        generalize (bs p i).testBit (j + 1) = A
        generalize mbit p (i + 1 + j) = B
        generalize ((bs p i).testBit 0 ^^ mbit p i) = C
        generalize (2197175160 : Nat).testBit j = D
        cases A <;> cases B <;> cases C <;> cases D <;> rfl
      · have hj' : j = 31 := by omega
        subst hj'
        have hf := h2 (i + 1 + 31) (by omega)
        rw [hf]
        have hz : (bs p i).testBit (31 + 1) = false := Nat.testBit_lt_two_pow (Nat.lt_of_lt_of_le hbl (by decide))
        rw [hz]
        generalize mbit p (i + 1 + 31) = B
        generalize ((bs p i).testBit 0 ^^ mbit p i) = C
        generalize (2197175160 : Nat).testBit 31 = D
        cases B <;> cases C <;> cases D <;> rfl
    · rw [fs, divF, hit_far i q (by omega), h2 q (by omega)]
      simp

theorem mbit_far (p : List UInt8) (q : Nat) (h : 8 * p.length ≤ q) : mbit p q = false := by
  unfold mbit
  have e : p.getD (q / 8) 0 = 0 := by
    rw [List.getD_eq_getElem?_getD, List.getElem?_eq_none (by omega)]; rfl
  rw [e]; simp

/-- what is left: the sum, turned -/
theorem fs_end (p : List UInt8) (j : Nat) (h : j < 32) : fs p (8 * p.length) (8 * p.length + j) = (on 4294967295 p).testBit j := by
  rw [(fs_inv p _).1 j h, bs_end, mbit_far p _ (by omega)]
  simp

end Go.Proofs.YtmgofohaoppajaaDoor.Crc

/- Rows of bools of a call's own. -/
namespace Go.Proofs.YtmgofohaoppajaaDoor
open Go.RowKit

theorem info4 : (Tryd.prog.info? 4).map (fun i => (i.zero, i.size, i.bytes)) = some (some (.bool false), 1, 1) := by kernel_rfl

/-- a row of bools by their places -/
def bbf (N : Nat) (f : Nat → Bool) : List Value := (List.range N).map fun i => Value.bool (f i)

theorem bbf_length (N : Nat) (f : Nat → Bool) : (bbf N f).length = N := by simp [bbf]

theorem bbf_congr (N : Nat) (f f' : Nat → Bool) (h : ∀ q, q < N → f q = f' q) : bbf N f = bbf N f' := by
  unfold bbf
  apply List.map_congr_left
  intro q hq
  rw [h q (by simpa using hq)]

def upd (f : Nat → Bool) (j : Nat) (b : Bool) : Nat → Bool := fun q => if q = j then b else f q

theorem bbf_set (N : Nat) (f : Nat → Bool) (j : Nat) (b : Bool) : (bbf N f).set j (.bool b) = bbf N (upd f j b) := by
  apply List.ext_getElem?
  intro i
  by_cases hi : i < N
  · by_cases hij : j = i
    · subst hij; simp [bbf, upd, hi]
    · simp [bbf, upd, hi, hij, Ne.symm hij]
  · simp [bbf, hi]

/-- N bools in block g, of the call's own -/
def RowB (B g N : Nat) (w : World) (f : Nat → Bool) : Prop := w.ownsRow B 4 1 (.slice (some ⟨g, 0, none⟩) N N) N (bbf N f)

theorem RowB.cell {B g N : Nat} {w : World} {f : Nat → Bool} (h : RowB B g N w f) (j : Nat) (hj : j < N) : w.cell? ⟨g, j, none⟩ = some (.bool (f j)) := by
  have := World.ownsRow.cellAt h j (by omega)
  rw [this]
  simp [bbf, hj]

theorem RowB.frozen {B g N : Nat} {w : World} {f : Nat → Bool} (h : RowB B g N w f) (j : Nat) : w.frozen? ⟨g, j, none⟩ = false := World.ownsRow.frozenAt h j

theorem RowB.set {B g N : Nat} {w : World} {f : Nat → Bool} (h : RowB B g N w f) (j : Nat) (b : Bool) : RowB B g N (w.setCell ⟨g, j, none⟩ (.bool b)) (upd f j b) := by
  have := (World.ownsRow.stored h j (.bool b)).1
  rw [bbf_set] at this
  exact this

theorem RowB.congr {B g N : Nat} {w : World} {f f' : Nat → Bool} (h : RowB B g N w f) (e : ∀ q, q < N → f q = f' q) : RowB B g N w f' := by
  unfold RowB at *
  rw [← bbf_congr N f f' e]; exact h

theorem sum_half (l : List UInt8) (j : Nat) (hj : j < 32) : Crc.sum l / 2 ^ j = 2 * (Crc.sum l / 2 ^ (j + 1)) + (if Crc.fs l (8 * l.length) (8 * l.length + j) = true then 0 else 1) := by
  rw [Crc.fs_end l j hj]
  have hb : (Crc.sum l).testBit j = !(Crc.on 4294967295 l).testBit j := by
    have hon := Crc.on_lt 4294967295 l (by omega)
    have := Nat.testBit_two_pow_sub_succ (x := Crc.on 4294967295 l) (n := 32) hon j
    rw [show 2 ^ 32 - (Crc.on 4294967295 l + 1) = Crc.sum l by unfold Crc.sum; omega] at this
    rw [this]; simp [hj]
  have h2 : Crc.sum l / 2 ^ (j + 1) = Crc.sum l / 2 ^ j / 2 := by rw [Nat.pow_succ, Nat.div_div_eq_div_mul]
  have h3 : (Crc.sum l).testBit j = decide (Crc.sum l / 2 ^ j % 2 = 1) := Nat.testBit_eq_decide_div_mod_eq
  rw [h2]
  generalize Crc.sum l / 2 ^ j = a at h3
  rw [h3] at hb
  cases h : (Crc.on 4294967295 l).testBit j <;> rw [h] at hb <;> simp at hb ⊢ <;> omega

theorem sum_top (l : List UInt8) : Crc.sum l / 2 ^ 32 = 0 := by have := Crc.sum_lt l; omega

theorem sum_part (l : List UInt8) (k : Nat) : Crc.sum l / 2 ^ (k + 1) < 2147483648 := by
  have := Crc.sum_lt l
  rw [Nat.pow_succ, Nat.mul_comm, ← Nat.div_div_eq_div_mul]
  exact Nat.lt_of_le_of_lt (Nat.div_le_self _ _) (by omega)

def hitT (i t q : Nat) : Bool := (Crc.bys.take t).any fun k => q + k == i + 32

theorem hitT_zero (i q : Nat) : hitT i 0 q = false := rfl

theorem hitT_all (i q : Nat) : hitT i 17 q = Crc.hit i q := rfl

theorem bys_take : ∀ t : Fin 17, Crc.bys.take (t.val + 1) = Crc.bys.take t.val ++ [Crc.bys.getD t.val 0] := by decide +kernel

theorem bys_new : ∀ t : Fin 17, ∀ k ∈ Crc.bys.take t.val, k ≠ Crc.bys.getD t.val 0 := by decide +kernel

theorem bys_le : ∀ t : Fin 17, Crc.bys.getD t.val 0 ≤ 28 := by decide +kernel

theorem hitT_succ (i t q : Nat) (h : t < 17) : hitT i (t + 1) q = (hitT i t q || q + Crc.bys.getD t 0 == i + 32) := by
  unfold hitT
  have := bys_take ⟨t, h⟩
  simp only at this
  rw [this, List.any_append]
  simp

theorem hitT_new (i t q : Nat) (h : t < 17) (hq : q + Crc.bys.getD t 0 = i + 32) : hitT i t q = false := by
  unfold hitT
  rw [List.any_eq_false]
  intro k hk
  have := bys_new ⟨t, h⟩ k hk
  simp only at this
  simp only [beq_iff_eq]
  omega

/-- the block of the powers -/
def ByC (g : Nat) (w : World) : Prop := ∀ t, t < 17 → w.cell? ⟨g, t, none⟩ = some (.int .i64 (Crc.bys.getD t 0 : Int))

theorem ByC.set {g : Nat} {w : World} (h : ByC g w) (p : Addr) (u : Value) (hp : p.block ≠ g) : ByC g (w.setCell p u) := fun t ht => by
  rw [World.cell?_of_block (w := w) (Below.heap_setCell w p u g (Ne.symm hp))]; exact h t ht

theorem byc_new (w : World) : ByC w.heap.size (w.alloc (.cells #[.int .i64 0, .int .i64 6, .int .i64 8, .int .i64 9, .int .i64 10, .int .i64 11, .int .i64 13, .int .i64 14, .int .i64 18, .int .i64 19, .int .i64 20, .int .i64 22, .int .i64 23, .int .i64 25, .int .i64 26, .int .i64 27, .int .i64 28] 3)) := fun t ht => by
  rw [World.cell?_alloc_new]
  have key : ∀ t : Fin 17, (#[Value.int .i64 0, .int .i64 6, .int .i64 8, .int .i64 9, .int .i64 10, .int .i64 11, .int .i64 13, .int .i64 14, .int .i64 18, .int .i64 19, .int .i64 20, .int .i64 22, .int .i64 23, .int .i64 25, .int .i64 26, .int .i64 27, .int .i64 28] : Array Value)[t.val]? = some (.int .i64 (Crc.bys.getD t.val 0 : Int)) := by
    intro t
    obtain ⟨t, ht⟩ := t
    match t, ht with
    | 0, _ => rfl
    | 1, _ => rfl
    | 2, _ => rfl
    | 3, _ => rfl
    | 4, _ => rfl
    | 5, _ => rfl
    | 6, _ => rfl
    | 7, _ => rfl
    | 8, _ => rfl
    | 9, _ => rfl
    | 10, _ => rfl
    | 11, _ => rfl
    | 12, _ => rfl
    | 13, _ => rfl
    | 14, _ => rfl
    | 15, _ => rfl
    | 16, _ => rfl
    | n + 17, h => omega
  exact key ⟨t, ht⟩

theorem RowB.alloc {B g N : Nat} {w : World} {f : Nat → Bool} (h : RowB B g N w f) (o : Obj) : RowB B g N (w.alloc o) f := World.ownsRow.alloc h o

theorem RowB.lt {B g N : Nat} {w : World} {f : Nat → Bool} (h : RowB B g N w f) (hN : 0 < N) : g < w.heap.size := World.block_lt_of_cell? w ⟨g, 0, none⟩ (h.cell 0 hN)

end Go.Proofs.YtmgofohaoppajaaDoor

/- bartizanref02's Sum. -/
namespace Go.Proofs.YtmgofohaoppajaaDoor
open Go.RowKit

set_option maxHeartbeats 4000000 in
set_option maxRecDepth 100000 in
theorem refsum_any (w : World) (v : Value) (l : List UInt8) (hv : Rd w v l) (hl : l.length ≤ 1000000) :
    Calls Tryd.prog 44 #[v] w fun e w' => e = .returned (.int .u32 (Crc.sum l : Int)) ∧ Below w.heap.size w w' := by
  obtain ⟨i0, hi, hz0, hz1, hz2⟩ := info_parts info4
  obtain ⟨ao, cap, hvv⟩ := hv.len
  subst hvv
  have hcell : ∀ j (h : j < l.length), ∃ b off, ao = some ⟨b, off, none⟩ ∧ w.cell? ⟨b, off + j, none⟩ = some (.int .u8 ((l[j]).toNat : Int)) := fun j h => by
    rcases hv with ⟨_, rfl⟩ | ⟨b, off, cap', e, h1, h2, h3⟩
    · simp at h
    · simp only [Value.slice.injEq] at e
      exact ⟨b, off, e.1, h3 j _ (bv_get l j h)⟩
  have hcapl : l.length ≤ cap := by
    rcases hv with ⟨e, rfl⟩ | ⟨b, off, cap', e, h1, h2, h3⟩
    · simp
    · simp only [Value.slice.injEq] at e
      omega
  obtain ⟨n, hn⟩ : ∃ n, l.length = n := ⟨_, rfl⟩
  obtain ⟨N, hN⟩ : ∃ N, 8 * n + 32 = N := ⟨_, rfl⟩
  have HN : Hid (8 * n + 32 = N) := hN
  have HL : Hid (l.length = n) := hn
  have hNn : 8 * n + 32 ≤ N := by omega
  have hNn2 : N ≤ 8 * n + 32 := by omega
  rw [hn] at hl hcapl
  rw [hn]
  clear hv hN hn
  go_enter Tryd.func44, Tryd.ntmps44
  go_wp2_with (at_make; refine wpList_make_full _ rfl (.tmp 15) (.tmp 15) 99 rfl w.heap.size 4 i0 (.bool false) 1 Tryd.underlying99 hi hz0 hz1 .i64 .i64 _ _ N rfl rfl (by omega) (by omega) (by rw [hz2]; omega) (by simp only [maxLen]; omega) (Nat.le_refl _) ?_; intro w1 hown hgr)
  have hr1 : RowB w.heap.size w.heap.size N w1 (fun _ => false) := by
    unfold RowB
    have e : (madeCells (Value.bool false).cells (N * 1)).toList = bbf N (fun _ => false) := by
      rw [Nat.mul_one]
      have := toList_madeCells_one (Value.bool false) N
      rw [show (Value.bool false).cells = #[Value.bool false] from rfl, this]
      unfold bbf
      apply List.ext_getElem?
      intro i
      by_cases hi : i < N
      · simp [hi]
      · simp [hi]
    rw [e] at hown
    exact hown
  have hb1 : Below w.heap.size w w1 := (Below.refl _ _).grown hgr (Nat.le_refl _) (fun k h => by cases h)
  clear hown hgr
  go_loopw [20] (fun iv wr => ∃ k : Nat, k ≤ 8 * n ∧ iv = .int .i64 (k : Int) ∧ RowB w.heap.size w.heap.size N wr (fun q => if q < k then Crc.mbit l q else false) ∧ Below w.heap.size w wr) (fun iv _ => 8 * n - (intOf iv).toNat)
  case atStart => exact ⟨0, Nat.zero_le _, rfl, hr1.congr (fun q _ => by simp), hb1⟩
  case round =>
    clear hr1 hb1
    obtain ⟨k, hk, rfl, hrow, hbl⟩ := hrel
    by_cases hlt : k < 8 * n
    · obtain ⟨b, off, hao, hc⟩ := hcell (k / 8) (by have := HL.out; omega)
      subst hao
      have hc2 : wr.cell? ⟨b, off + k / 8, none⟩ = some (.int .u8 ((l[k / 8]'(by have := HL.out; omega)).toNat : Int)) := by rw [hbl.cell (p := ⟨b, off + k / 8, none⟩) (World.block_lt_of_cell? w _ hc)]; exact hc
      have hxb := (l[k / 8]'(by have := HL.out; omega)).toNat_lt
      have HM : Hid (Crc.mbit l k = ((l[k / 8]'(by have := HL.out; omega)).toNat / 2 ^ (k % 8) % 2 == 1)) := by
        show _ = _
        unfold Crc.mbit
        have e : l.getD (k / 8) 0 = l[k / 8]'(by have := HL.out; omega) := by simp [show k / 8 < l.length by have := HL.out; omega]
        rw [e]
      obtain ⟨x, hx⟩ : ∃ x, (l[k / 8]'(by have := HL.out; omega)).toNat = x := ⟨_, rfl⟩
      rw [hx] at hc2 hxb HM
      have hcl := hrow.cell k (by omega)
      have hfz := hrow.frozen k
      have hk8 : k / 8 < n := by omega
      clear hc hx hcell
      go_wp2
      have hset := hrow.set k (Int.tmod ((x : Int) / 2 ^ (k % 8)) 2 == 1)
      go_round
      case rel =>
        refine ⟨k + 1, by omega, by go_num, ?_, hbl.setCell (Nat.le_refl _) _⟩
        refine RowB.congr hset (fun q _ => ?_)
        have e : (Int.tmod ((x : Int) / 2 ^ (k % 8)) 2 == 1) = Crc.mbit l k := by
          rw [HM.out]
          have e1 : (x : Int) / 2 ^ (k % 8) = ((x / 2 ^ (k % 8) : Nat) : Int) := by simp
          rw [e1]
          generalize x / 2 ^ (k % 8) = y
          rw [Bool.eq_iff_iff]
          simp only [beq_iff_eq]
          rw [Int.tmod_eq_emod_of_nonneg (by omega)]
          omega
        rw [e]
        unfold upd
        simp only
        split
        · rename_i h; subst h; rw [if_pos (by omega)]
        · split
          · rw [if_pos (by omega)]
          · rw [if_neg (by omega)]
      case measure => simp [intOf]; omega
    · have hk' : k = 8 * n := by omega
      subst hk'
      go_wp2
      go_loopw [38] (fun iv wr => ∃ k : Nat, k ≤ 32 ∧ iv = .int .i64 (k : Int) ∧ RowB w.heap.size w.heap.size N wr (fun q => if q < k then !Crc.mbit l q else Crc.mbit l q) ∧ Below w.heap.size w wr) (fun iv _ => 32 - (intOf iv).toNat)
      case atStart =>
        refine ⟨0, Nat.zero_le _, rfl, hrow.congr (fun q hq => ?_), hbl⟩
        rw [if_neg (Nat.not_lt_zero q)]
        split
        · rfl
        · rename_i h; rw [Crc.mbit_far l q (by have := HL.out; omega)]
      case round =>
        clear hrow hbl
        obtain ⟨k, hk, rfl, hrow, hbl⟩ := hrel
        by_cases hlt : k < 32
        · have hcl := hrow.cell k (by omega)
          have hfz := hrow.frozen k
          rw [if_neg (by omega)] at hcl
          have hset := hrow.set k (!Crc.mbit l k)
          go_wp2
          go_round
          case rel =>
            refine ⟨k + 1, by omega, by go_num, ?_, hbl.setCell (Nat.le_refl _) _⟩
            refine RowB.congr hset (fun q _ => ?_)
            unfold upd
            simp only
            split
            · rename_i h; subst h; rw [if_pos (by omega)]
            · split
              · rw [if_pos (by omega)]
              · rw [if_neg (by omega)]
          case measure => simp [intOf]; omega
        · have hk' : k = 32 := by omega
          subst hk'
          have hgl := hrow.lt (by omega)
          go_wp2
          have hrow2 := hrow.alloc (.cells #[.int .i64 0, .int .i64 6, .int .i64 8, .int .i64 9, .int .i64 10, .int .i64 11, .int .i64 13, .int .i64 14, .int .i64 18, .int .i64 19, .int .i64 20, .int .i64 22, .int .i64 23, .int .i64 25, .int .i64 26, .int .i64 27, .int .i64 28] 3)
          have hbl2 := hbl.alloc (Nat.le_of_lt hgl) (.cells #[.int .i64 0, .int .i64 6, .int .i64 8, .int .i64 9, .int .i64 10, .int .i64 11, .int .i64 13, .int .i64 14, .int .i64 18, .int .i64 19, .int .i64 20, .int .i64 22, .int .i64 23, .int .i64 25, .int .i64 26, .int .i64 27, .int .i64 28] 3)
          have hby := byc_new wr
          obtain ⟨g, hg⟩ : ∃ g, wr.heap.size = g := ⟨_, rfl⟩
          rw [hg] at hgl hby
          rw [hg]
          generalize wr.alloc _ = wa at hrow2 hbl2 hby
          clear hrow hbl hg
          go_loopw [7] (fun iv wr => ∃ i : Nat, i ≤ 8 * n ∧ iv = .int .i64 (i : Int) ∧ RowB w.heap.size w.heap.size N wr (Crc.fs l i) ∧ ByC g wr ∧ Below w.heap.size w wr) (fun iv _ => 8 * n - (intOf iv).toNat)
          case atStart => exact ⟨0, Nat.zero_le _, rfl, hrow2, hby, hbl2⟩
          case round =>
            clear hrow2 hbl2 hby
            obtain ⟨i, hi8, rfl, hrow, hby, hbl⟩ := hrel
            by_cases hlt : i < 8 * n
            · have hcl := hrow.cell i (by omega)
              cases hfi : Crc.fs l i i
              · rw [hfi] at hcl
                go_wp2
                go_round
                case rel =>
                  refine ⟨i + 1, by omega, by go_num, hrow.congr (fun q _ => ?_), hby, hbl⟩
                  rw [Crc.fs, Crc.divF, hfi]; simp
                case measure => simp [intOf]; omega
              · rw [hfi] at hcl
                go_wp2
                go_loopw [64] (fun tv wr => ∃ t : Nat, t ≤ 17 ∧ tv = .int .i64 (t : Int) ∧ RowB w.heap.size w.heap.size N wr (fun q => Crc.fs l i q ^^ hitT i t q) ∧ ByC g wr ∧ Below w.heap.size w wr) (fun tv _ => 17 - (intOf tv).toNat)
                case atStart => exact ⟨0, Nat.zero_le _, rfl, hrow.congr (fun q _ => by rw [hitT_zero]; simp), hby, hbl⟩
                case round =>
                  clear hrow hbl hby hcl
                  obtain ⟨t, ht17, rfl, hrow, hby, hbl⟩ := hrel
                  by_cases htl : t < 17
                  · have hc1 := hby t htl
                    have hy28 := bys_le ⟨t, htl⟩
                    have HS : Hid (∀ q, hitT i (t + 1) q = (hitT i t q || q + Crc.bys.getD t 0 == i + 32)) := fun q => hitT_succ i t q htl
                    have HW : Hid (∀ q, q + Crc.bys.getD t 0 = i + 32 → hitT i t q = false) := fun q => hitT_new i t q htl
                    obtain ⟨y, hy⟩ : ∃ y, Crc.bys.getD t 0 = y := ⟨_, rfl⟩
                    simp only at hy28
                    rw [hy] at hc1 hy28 HS HW
                    clear hy
                    obtain ⟨j, hj⟩ : ∃ j, j + y = i + 32 := ⟨i + 32 - y, by omega⟩
                    have hjy : (i : Int) + 32 - (y : Int) = (j : Int) := by omega
                    have hcj := hrow.cell j (by omega)
                    have hfz := hrow.frozen j
                    have hset := hrow.set j (!(Crc.fs l i j ^^ hitT i t j))
                    have hjN : j < N := by omega
                    obtain ⟨c, hc⟩ : ∃ c, (Crc.fs l i j ^^ hitT i t j) = c := ⟨_, rfl⟩
                    have HC : Hid ((Crc.fs l i j ^^ hitT i t j) = c) := hc
                    rw [hc] at hcj hset
                    clear hc
                    go_wp2
                    go_round
                    case rel =>
                      refine ⟨t + 1, by omega, by go_num, RowB.congr hset (fun q _ => ?_), hby.set _ _ (by simp only; omega), hbl.setCell (Nat.le_refl _) _⟩
                      unfold upd
                      simp only
                      rw [HS.out]
                      split
                      · rename_i h
                        subst h
                        have e1 := HW.out q hj
                        have e2 := HC.out
                        rw [e1] at e2 ⊢
                        rw [← e2]
                        simp [hj]
                      · rename_i h
                        have : (q + y == i + 32) = false := by simp; omega
                        rw [this]; simp
                    case measure => simp [intOf]; omega
                  · have ht' : t = 17 := by omega
                    subst ht'
                    go_wp2
                    go_round
                    case rel =>
                      refine ⟨i + 1, by omega, by go_num, hrow.congr (fun q _ => ?_), hby, hbl⟩
                      rw [hitT_all, Crc.fs, Crc.divF, hfi]; simp
                    case measure => simp [intOf]; omega
            · have hi' : i = 8 * n := by omega
              subst hi'
              clear hby
              go_wp2
              go_loopw [10, 11] (fun sv iv wr => ∃ k : Nat, k ≤ 32 ∧ sv = .int .u32 ((Crc.sum l / 2 ^ k : Nat) : Int) ∧ iv = .int .i64 ((k : Int) - 1) ∧ RowB w.heap.size w.heap.size N wr (Crc.fs l (8 * n)) ∧ Below w.heap.size w wr) (fun _ iv _ => (intOf iv + 1).toNat)
              case atStart => exact ⟨32, Nat.le_refl _, by rw [sum_top]; rfl, rfl, hrow, hbl⟩
              case round =>
                clear hrow hbl
                obtain ⟨k, hk32, rfl, rfl, hrow, hbl⟩ := hrel
                cases k with
                | zero =>
                  have e0 : Crc.sum l / 2 ^ 0 = Crc.sum l := by simp
                  rw [e0]
                  go_wp2
                  go_ret
                  exact ⟨rfl, hbl⟩
                | succ j =>
                  have hcl := hrow.cell (8 * n + j) (by omega)
                  have hb := sum_part l j
                  have HH : Hid (Crc.sum l / 2 ^ j = 2 * (Crc.sum l / 2 ^ (j + 1)) + (if Crc.fs l (8 * n) (8 * n + j) = true then 0 else 1)) := by
                    have := sum_half l j (by omega)
                    rw [HL.out] at this
                    exact this
                  obtain ⟨s, hs⟩ : ∃ s, Crc.sum l / 2 ^ (j + 1) = s := ⟨_, rfl⟩
                  rw [hs] at hb HH
                  rw [hs]
                  clear hs
                  have hjN : (N : Int) - 32 + (((j + 1 : Nat) : Int) - 1) = ((8 * n + j : Nat) : Int) := by omega
                  have hjp : ((j + 1 : Nat) : Int) - 1 = (j : Int) := by omega
                  rw [hjp] at hjN
                  rw [hjp]
                  obtain ⟨m, hm⟩ : ∃ m, 8 * n + j = m := ⟨_, rfl⟩
                  rw [hm] at hcl HH hjN
                  have hmN : m < N := by omega
                  cases hf : Crc.fs l (8 * n) m
                  · rw [hf] at hcl HH
                    go_wp2
                    refine ⟨⟨j, by omega, ?_, rfl, hrow, hbl⟩, by simp [intOf]⟩
                    have := HH.out
                    simp at this
                    rw [this]
                    congr 1
                    omega
                  · rw [hf] at hcl HH
                    go_wp2
                    refine ⟨⟨j, by omega, ?_, rfl, hrow, hbl⟩, by simp [intOf]⟩
                    have := HH.out
                    simp at this
                    rw [this]
                    congr 1
                    omega

end Go.Proofs.YtmgofohaoppajaaDoor

/- seal.lowFirst. -/
namespace Go.Proofs.YtmgofohaoppajaaDoor
open Go.RowKit

theorem orbL (n b s k : Nat) (hk : k ≤ 24) (hn : n < 2 ^ k) (hs : s = 2 ^ k) (h : b * s < 4294967296) : bits BinOp.or IntKind.u32 (n : Int) ((b : Int) * (s : Int)) = ((n + b * s : Nat) : Int) := by
  subst hs
  have h2 : (2 : Nat) ^ k ≤ 2 ^ 24 := Nat.pow_le_pow_right (by omega) hk
  have e : ((b : Int) * ((2 ^ k : Nat) : Int)) = ((b * 2 ^ k : Nat) : Int) := by simp
  rw [e, u32_or_nat _ _ (by omega) h, Nat.or_comm, nat_join k _ _ (by simp) hn, Nat.add_comm]

end Go.Proofs.YtmgofohaoppajaaDoor

/- seal.Close. -/
namespace Go.Proofs.YtmgofohaoppajaaDoor
open Go.RowKit

/-- a seal -/
def sealB (l : List UInt8) : List UInt8 := l ++ Crc.four (Crc.mask (Crc.sum l))

/-- a row that is filled behind so many cells, one by one -/
theorem fill4 {w : World} {B g L : Nat} {hd : List Value} {t0 t1 t2 t3 u0 u1 u2 u3 : Value} (hL : hd.length = L) (h : w.ownsRow B 5 1 (.slice (some ⟨g, 0, none⟩) (L + 4) (L + 4)) (L + 4) (hd ++ [t0, t1, t2, t3])) :
    ((((w.setCell ⟨g, L, none⟩ u0).setCell ⟨g, L + 1, none⟩ u1).setCell ⟨g, L + 2, none⟩ u2).setCell ⟨g, L + 3, none⟩ u3).ownsRow B 5 1 (.slice (some ⟨g, 0, none⟩) (L + 4) (L + 4)) (L + 4) (hd ++ [u0, u1, u2, u3]) := by
  have h0 := (h.stored L u0).1
  have h1 := (h0.stored (L + 1) u1).1
  have h2 := (h1.stored (L + 2) u2).1
  have h3 := (h2.stored (L + 3) u3).1
  have e : ((((hd ++ [t0, t1, t2, t3]).set L u0).set (L + 1) u1).set (L + 2) u2).set (L + 3) u3 = hd ++ [u0, u1, u2, u3] := by
    subst hL
    simp [List.set_append_right]
  rw [e] at h3
  exact h3

theorem bytes4 (m : Nat) (h : m < 4294967296) : Value.int .u8 ((m : Int) % 256) = .int .u8 ((UInt8.ofNat (m % 256)).toNat : Int) ∧ Value.int .u8 ((m : Int) / 256 % 256) = .int .u8 ((UInt8.ofNat (m / 256 % 256)).toNat : Int) ∧
    Value.int .u8 ((m : Int) / 65536 % 256) = .int .u8 ((UInt8.ofNat (m / 65536 % 256)).toNat : Int) ∧ Value.int .u8 ((m : Int) / 16777216) = .int .u8 ((UInt8.ofNat (m / 16777216 % 256)).toNat : Int) := by
  refine ⟨?_, ?_, ?_, ?_⟩ <;> congr 1 <;> simp <;> omega

end Go.Proofs.YtmgofohaoppajaaDoor

/- bartizanref02's Close. -/
namespace Go.Proofs.YtmgofohaoppajaaDoor
open Go.RowKit

theorem lit_row4 (w : World) (B : Nat) (hB : B ≤ w.heap.size) (a b c d : UInt8) : (w.alloc (.cells #[.int .u8 (a.toNat : Int), .int .u8 (b.toNat : Int), .int .u8 (c.toNat : Int), .int .u8 (d.toNat : Int)] 5)).ownsRow B 5 1 (.slice (some ⟨w.heap.size, 0, none⟩) 4 4) 4 (bv [a, b, c, d]) :=
  World.ownsRow_lit w #[.int .u8 (a.toNat : Int), .int .u8 (b.toNat : Int), .int .u8 (c.toNat : Int), .int .u8 (d.toNat : Int)] 4 hB (by simp [maxLen]) rfl

end Go.Proofs.YtmgofohaoppajaaDoor

/- bartizanref06.Frame. -/
namespace Go.Proofs.YtmgofohaoppajaaDoor
open Go.RowKit
set_option linter.unusedVariables false

theorem rframe_refused (w : World) (z : Int) (v : Value) (l : List UInt8) (hv : Rd w v l) (h : z < 0) :
    Calls Tryd.prog 27 #[.int .i64 z, v] w fun e w' => e = .returned (.tuple #[.slice none 0 0, .int .i64 1]) ∧ w' = w := by
  go_enter Tryd.func27, Tryd.ntmps27
  go_wp2
  go_ret2
  exact ⟨rfl, rfl⟩

theorem rframe_over (w : World) (z : Int) (v : Value) (l : List UInt8) (hv : Rd w v l) (h : 0 ≤ z) (hl : 65536 < l.length) :
    Calls Tryd.prog 27 #[.int .i64 z, v] w fun e w' => e = .returned (.tuple #[.slice none 0 0, .int .i64 3]) ∧ w' = w := by
  obtain ⟨ao, cap, rfl⟩ := hv.len
  obtain ⟨n, hn⟩ : ∃ n, l.length = n := ⟨_, rfl⟩
  rw [hn] at hl ⊢
  have hl' : (65536 : Int) < (n : Int) := by omega
  have h' : ¬ z < 0 := by omega
  clear hv hn hl h
  go_enter Tryd.func27, Tryd.ntmps27
  go_wp2
  go_ret2
  exact ⟨rfl, rfl⟩

/-- what stands ahead of a piece's bytes -/
def headB (k : UInt8) (n : Nat) (s : Nat) : List UInt8 := Crc.four s ++ [UInt8.ofNat (n % 256), UInt8.ofNat (n / 256 % 256), k]

theorem pcB_head (k : UInt8) (t : List UInt8) : pcB k t = headB k t.length (Crc.mask (Crc.sum (k :: t))) ++ t := by
  unfold pcB headB
  simp

/-- where a frame has come to at the loop's head -/
def RfI (x : Nat) (W : List UInt8) (bg : Bool) (F R : List UInt8) (y : Nat) : Prop :=
  if bg then FrI x W true F R ∧ y = 0 else F = [] ∧ y = x ∧ W = frameB x R ∧ R.length ≤ 65536

theorem rf_gap {x : Nat} {W : List UInt8} {bg : Bool} {F R : List UInt8} {y : Nat} (h : RfI x W bg F R y) (hx : x < 64) (hy : 64 - y < 7) : bg = false ∧ F = [] ∧ y = x ∧ FrI x W false (List.replicate (64 - y) 0) R ∧ leftN (x + (List.replicate (64 - y) (0 : UInt8)).length) = 64 := by
  unfold RfI at h
  cases bg
  · simp only [Bool.false_eq_true, if_false] at h
    obtain ⟨rfl, rfl, rfl, hl⟩ := h
    have hg : gapN y = 64 - y := by unfold gapN leftN; rw [if_pos (by omega)]; omega
    have := FrI.first y R hx hl
    rw [hg] at this
    refine ⟨rfl, rfl, rfl, this, ?_⟩
    rw [List.length_replicate]
    unfold leftN
    omega
  · simp only [if_true] at h
    omega

theorem rf_none {x : Nat} {W : List UInt8} {bg : Bool} {F R : List UInt8} {y : Nat} (h : RfI x W bg F R y) (hx : x < 64) (hy : ¬ 64 - y < 7) : FrI x W bg F R ∧ leftN (x + F.length) = 64 - y ∧ y < 64 := by
  unfold RfI at h
  cases bg
  · simp only [Bool.false_eq_true, if_false] at h
    obtain ⟨rfl, rfl, rfl, hl⟩ := h
    have hg : gapN y = 0 := by unfold gapN leftN; rw [if_neg (by omega)]
    have := FrI.first y R hx hl
    rw [hg] at this
    refine ⟨this, ?_, hx⟩
    unfold leftN
    simp
    omega
  · simp only [if_true] at h
    obtain ⟨h, rfl⟩ := h
    exact ⟨h, h.zr rfl, by omega⟩

theorem sum_cons_lt (k : UInt8) (t : List UInt8) : Crc.mask (Crc.sum (k :: t)) < 4294967296 := Crc.mask_lt _

theorem lit_row7 (w : World) (B : Nat) (hB : B ≤ w.heap.size) (a b c d e f g : UInt8) : (w.alloc (.cells #[.int .u8 (a.toNat : Int), .int .u8 (b.toNat : Int), .int .u8 (c.toNat : Int), .int .u8 (d.toNat : Int), .int .u8 (e.toNat : Int), .int .u8 (f.toNat : Int), .int .u8 (g.toNat : Int)] 5)).ownsRow B 5 1 (.slice (some ⟨w.heap.size, 0, none⟩) 7 7) 7 (bv [a, b, c, d, e, f, g]) :=
  World.ownsRow_lit w #[.int .u8 (a.toNat : Int), .int .u8 (b.toNat : Int), .int .u8 (c.toNat : Int), .int .u8 (d.toNat : Int), .int .u8 (e.toNat : Int), .int .u8 (f.toNat : Int), .int .u8 (g.toNat : Int)] 7 hB (by simp [maxLen]) rfl

/-- the piece is appended: its sum, then its head, then its bytes: from a region's beginning to the loop's end, as one contract of the parts -/
theorem zeros_own {w : World} {B n cap : Nat} (hB : B ≤ w.heap.size) (hn : 0 < n) (h1 : n ≤ cap) (h2 : cap ≤ maxLen) :
    Own B (w.alloc (.cells (Builtin.zeroCells (Value.int .u8 0).cells n ++ Builtin.zeroCells (Value.int .u8 0).cells (cap - n)) 5)) (.slice (some ⟨w.heap.size, 0, none⟩) (List.replicate n (0 : UInt8)).length cap) (List.replicate n 0) := by
  have hz : ∀ k, (Builtin.zeroCells (Value.int .u8 0).cells k).toList = List.replicate k (Value.int .u8 0) := by
    intro k
    have := made_list k
    rw [Nat.mul_one] at this
    rw [← this]
    apply List.ext_getElem?
    intro i
    simp [Builtin.zeroCells, madeCells, Value.cells]
  have hsz : ∀ k, (Builtin.zeroCells (Value.int .u8 0).cells k).size = k := by
    intro k
    rw [← Array.length_toList, hz]
    simp
  refine ⟨w.heap.size, cap, _, rfl, hB, heap_alloc_new w _, by simpa using h1, h2, ?_, ?_⟩
  · rw [Array.size_append, hsz, hsz]
    omega
  · rw [Array.toList_append, hz, hz, List.length_replicate, List.take_left' (by simp)]
    simp [bv]

end Go.Proofs.YtmgofohaoppajaaDoor

/- bartizanref06.Frame, of any record. -/
namespace Go.Proofs.YtmgofohaoppajaaDoor
open Go.RowKit
set_option linter.unusedVariables false

/-- the masked sum of a piece -/
def sumK (k : UInt8) (t : List UInt8) : Nat := Crc.mask (Crc.sum (k :: t))

theorem mask_facts (k : UInt8) (t : List UInt8) : ∃ s m, Crc.sum (k :: t) = s ∧ Crc.mask s = m ∧ s < 4294967296 ∧ m < 4294967296 := ⟨_, _, rfl, rfl, Crc.sum_lt _, Crc.mask_lt _⟩

theorem rf_nums {x y n rl : Nat} (hy : y ≤ 57) (hn : n = min rl (57 - y)) (hr : rl ≤ 65600) : (y : Int) ≤ 57 ∧ (0 : Int) ≤ (y : Int) ∧ (n : Int) ≤ 57 ∧ (0 : Int) ≤ (n : Int) ∧ (n : Int) ≤ (rl : Int) ∧ min (rl : Int) (57 - (y : Int)) = (n : Int) ∧ (if 57 - (y : Int) < (rl : Int) then 57 - (y : Int) else (rl : Int)) = (n : Int) ∧ (rl : Int) ≤ 65600 ∧ (y : Int) + 7 + (n : Int) ≤ 64 ∧ n ≤ rl := by
  refine ⟨by omega, by omega, by omega, by omega, by omega, by omega, ?_, by omega, by omega, by omega⟩
  split <;> omega

theorem seven_lit (w : World) (m n : Nat) (mI kz : Int) (k : UInt8) (hm : m < 4294967296 ∧ (m : Int) = mI) (hn : n ≤ 57) (hk : (k.toNat : Int) = kz) :
    ∀ j u, (bv (headB k n m))[j]? = some u → (w.alloc (.cells #[.int .u8 (mI % 256), .int .u8 (mI / 256 % 256), .int .u8 (mI / 65536 % 256), .int .u8 (mI / 16777216), .int .u8 (n : Int), .int .u8 ((n : Int) / 256), .int .u8 kz] 5)).cell? ((⟨w.heap.size, 0, none⟩ : Addr).add j) = some u := by
  obtain ⟨hm, rfl⟩ := hm
  subst hk
  obtain ⟨p0, p1, p2, p3⟩ := bytes4 m hm
  have p4 : Value.int .u8 (n : Int) = .int .u8 ((UInt8.ofNat (n % 256)).toNat : Int) := by congr 1; simp; omega
  have p5 : Value.int .u8 ((n : Int) / 256) = .int .u8 ((UInt8.ofNat (n / 256 % 256)).toNat : Int) := by congr 1; simp; omega
  rw [p0, p1, p2, p3, p4, p5]
  exact (lit_row7 w w.heap.size (Nat.le_refl _) _ _ _ _ _ _ k).cells rfl

theorem seven_lit57 (w : World) (m : Nat) (mI kz : Int) (k : UInt8) (hm : m < 4294967296 ∧ (m : Int) = mI) (hk : (k.toNat : Int) = kz) :
    ∀ j u, (bv (headB k 57 m))[j]? = some u → (w.alloc (.cells #[.int .u8 (mI % 256), .int .u8 (mI / 256 % 256), .int .u8 (mI / 65536 % 256), .int .u8 (mI / 16777216), .int .u8 57, .int .u8 0, .int .u8 kz] 5)).cell? ((⟨w.heap.size, 0, none⟩ : Addr).add j) = some u :=
  seven_lit w m 57 mI kz k hm (Nat.le_refl _) hk

theorem ownN_some {B : Nat} {w : World} {a : Option Addr} {n c : Nat} {l : List UInt8} (h : OwnN B w (.slice a n c) l) (hl : 0 < l.length) : ∃ g, a = some ⟨g, 0, none⟩ ∧ Own B w (.slice (some ⟨g, 0, none⟩) n c) l := by
  rcases h with ⟨_, rfl⟩ | h
  · simp at hl
  · obtain ⟨g, k, e⟩ := h.shape
    cases e
    exact ⟨g, rfl, h⟩

theorem head_len (k : UInt8) (n m : Nat) : (headB k n m).length = 7 := rfl

/-- append(nil, make([]byte, n)...) -/
theorem zeros_run (w : World) (B n : Nat) (hB : B ≤ w.heap.size) (h0 : 0 < n) (hn : n ≤ 6) : ∃ cz wz, (∀ ty, (Builtin.append_ #[26, 3] ty #[.slice none 0 0, .int .i64 (n : Int)]).run Tryd.prog w = .ok (.slice (some ⟨w.heap.size, 0, none⟩) n cz) wz) ∧ Own B wz (.slice (some ⟨w.heap.size, 0, none⟩) n cz) (List.replicate n 0) ∧ Below B w wz := by
  obtain ⟨i0, hi, hz0, hz1, hz2⟩ := info_parts info5
  have hm : n ≤ maxLen := by unfold maxLen; omega
  refine ⟨grownCap w n 0 5, _, fun ty => Lib.run_append_nil_zeros (P := Tryd.prog) w 26 3 ty 5 i0 (.int .u8 0) .i64 .i64 Tryd.underlying26 Tryd.underlying3 hi hz0 n h0 (by rw [hz1]; decide) (by omega) (by rw [hz2]; omega), ?_, ?_⟩
  · have := zeros_own (w := w.drew) (B := B) (n := n) (cap := grownCap w n 0 5) hB h0 (grownCap_ge w n 0 5) (grownCap_le_maxLen w n 0 5 hm)
    rw [List.length_replicate] at this
    exact this
  · exact ((Below.refl B w).drew).alloc hB _

/-- what is known of a round behind the noughts -/
structure RfG (x : Nat) (W : List UInt8) (bg : Bool) (F R : List UInt8) (y : Nat) : Prop where
  fr : FrI x W bg F R
  lf : leftN (x + F.length) = 64 - y
  le : y ≤ 57

theorem RfG.n {x : Nat} {W : List UInt8} {bg : Bool} {F R : List UInt8} {y : Nat} (h : RfG x W bg F R y) : frN x F R = min R.length (57 - y) := by
  have := h.lf
  have := h.le
  unfold frN
  omega

theorem RfG.len {x : Nat} {W : List UInt8} {bg : Bool} {F R : List UInt8} {y : Nat} (h : RfG x W bg F R y) : R.length ≤ 65600 ∧ F.length ≤ 200000 := by
  have h2 := h.fr.bd
  have h3 := h.fr.zr
  cases bg
  · simp at h2
    omega
  · simp at h2
    omega

set_option maxRecDepth 100000 in
set_option maxHeartbeats 8000000 in
theorem rframe_some (w : World) (a b off c : Nat) (l : List UInt8) (hcs : ∀ j u, (bv l)[j]? = some u → w.cell? ⟨b, off + j, none⟩ = some u) (hb : b < w.heap.size) (hc : l.length ≤ c) (hM : c ≤ maxLen) (hl : l.length ≤ 65536) :
    Calls Tryd.prog 27 #[.int .i64 (a : Int), .slice (some ⟨b, off, none⟩) l.length c] w fun e w' => ∃ g c, e = .returned (.tuple #[.slice (some ⟨g, 0, none⟩) (frameB a l).length c, .int .i64 0]) ∧ Own w.heap.size w' (.slice (some ⟨g, 0, none⟩) (frameB a l).length c) (frameB a l) ∧ Below w.heap.size w w' := by
  obtain ⟨i0, hi, hz0, hz1, hz2⟩ := info_parts info5
  obtain ⟨x, hx⟩ : ∃ x, a % 64 = x := ⟨_, rfl⟩
  have hx64 : x < 64 := by omega
  have hm := mod_64 a
  rw [hx] at hm
  have HW : Hid (frameB x l = frameB a l) := by show _ = _; rw [← hx]; exact frameB_mod a l
  obtain ⟨W, hW⟩ : ∃ W, frameB a l = W := ⟨_, rfl⟩
  rw [hW] at HW ⊢
  have HF : Hid (RfI x W false [] l x) := ⟨rfl, rfl, HW.out.symm, hl⟩
  have HR : Hid (Rd w (.slice (some ⟨b, off, none⟩) l.length c) l) := .inr ⟨b, off, c, rfl, hc, hM, hcs⟩
  have HRB : Hid (∀ b', (Value.slice (some ⟨b, off, none⟩) l.length c).ownBlock = some b' → b' < w.heap.size) := fun b' e => by cases e; exact hb
  have HX : Hid (x < 64) := hx64
  have hl' : ¬ (65536 : Int) < (l.length : Int) := by omega
  have ha0 : ¬ (a : Int) < 0 := by omega
  clear hx hW hcs hb hc hM hl hx64
  go_enter Tryd.func27, Tryd.ntmps27
  go_wp2_with fail
  go_loopg [0, 1, 6, 7] (l.length + 2) (fun gk yv pv fv kv wr => ∃ (bg : Bool) (F R : List UInt8) (fa : Option Addr) (fc y : Nat) (kz : Int), yv = .int .i64 (y : Int) ∧ fv = .slice fa F.length fc ∧ kv = .int .u8 kz ∧ Hid (gk = R.length + (if bg then 1 else 2)) ∧ Hid (RfI x W bg F R y) ∧ Hid (if bg then kz = 2 ∨ kz = 3 else kz = 1) ∧ Hid (bg = false → fa = none ∧ fc = 0) ∧ Hid (OwnN w.heap.size wr fv F) ∧ Hid (Rd w pv R ∧ (∀ b, pv.ownBlock = some b → b < w.heap.size) ∧ ∃ q n c, pv = .slice (some q) n c) ∧ Hid (Below w.heap.size w wr))
  case atStart => exact ⟨false, [], l, none, 0, x, 1, rfl, rfl, rfl, rfl, HF, rfl, (fun _ => ⟨rfl, rfl⟩), .inl ⟨rfl, rfl⟩, ⟨HR.out, HRB.out, _, _, _, rfl⟩, Below.refl _ _⟩
  case round =>
    obtain ⟨bg, F, R, fa, fc, y, kz, rfl, rfl, rfl, HK, HI, HKZ, HNN, HO, HP, HBr⟩ := hrel
    obtain ⟨q0, n0, c', hpv⟩ := HP.out.2.2
    rcases rd_shape HP.out.1 HP.out.2.1 with ⟨hpv2, _⟩ | ⟨b', off', c', hpv2, hc1, hc2, hbB, hcs⟩
    · rw [hpv2] at hpv; cases hpv
    subst hpv2
    clear hpv
    obtain ⟨rl, hrl⟩ : ∃ rl, R.length = rl := ⟨_, rfl⟩
    rw [hrl] at hc1 ⊢
    have HRL : Hid (R.length = rl) := hrl
    have HCS : Hid (∀ j u, (bv R)[j]? = some u → w.cell? ⟨b', off' + j, none⟩ = some u) := hcs
    have HBB : Hid (b' < w.heap.size ∧ rl ≤ c' ∧ c' ≤ 9223372036854775807) := ⟨hbB, hc1, hc2⟩
    clear hcs hbB hrl
    have hcI : (rl : Int) ≤ (c' : Int) := by omega
    have hstate : ∃ (w1 : World) (F1 : List UInt8) (f1a : Option Addr) (f1l f1c y1 : Nat) (kzU : UInt8),
        Hid (RfG x W bg F1 R y1) ∧ Hid (OwnN w.heap.size w1 (.slice f1a f1l f1c) F1) ∧ Hid (F1.length = f1l) ∧ Hid (Below w.heap.size w w1) ∧ (kzU.toNat : Int) = kz ∧ Hid (if bg then kz = 2 ∨ kz = 3 else kz = 1) ∧
        ((bg = false ∧ (y : Int) ≤ 63 ∧ y1 = 0 ∧ fa = none ∧ fc = 0 ∧ F = [] ∧ ∃ lf : Nat, 64 - (y : Int) = (lf : Int) ∧ (lf : Int) < 7 ∧ (0 : Int) ≤ (lf : Int) ∧ f1l = lf ∧ ∀ ty, (Builtin.append_ #[26, 3] ty #[.slice none 0 0, .int .i64 (lf : Int)]).run Tryd.prog wr = .ok (.slice f1a f1l f1c) w1) ∨
         (¬ 64 - (y : Int) < 7 ∧ y1 = y ∧ w1 = wr ∧ F1 = F ∧ f1a = fa ∧ f1c = fc)) := by
      by_cases hgap : 64 - y < 7
      · obtain ⟨hbg, hF0, hyx, hfr, hlf⟩ := rf_gap HI.out HX.out hgap
        subst hbg hF0
        obtain ⟨lf, hlfq⟩ : ∃ lf, 64 - y = lf := ⟨_, rfl⟩
        have hx64 := HX.out
        have hlf0 : 0 < lf := by omega
        obtain ⟨cz, wz, hrz, hoz, hbz⟩ := zeros_run wr w.heap.size lf HBr.out.size hlf0 (by omega)
        rw [hlfq] at hfr hlf
        have hOFA : fa = none ∧ fc = 0 := by
          rcases HO.out with ⟨e, _⟩ | h
          · cases e; exact ⟨rfl, rfl⟩
          · exact HNN.out rfl
        exact ⟨wz, List.replicate lf 0, _, lf, cz, 0, 1, ⟨hfr, hlf, by omega⟩, .inr hoz, (by show _ = _; simp), HBr.out.trans hbz, by have := HKZ.out; simp at this; rw [this]; rfl, HKZ, .inl ⟨rfl, by omega, rfl, hOFA.1, hOFA.2, rfl, lf, by omega, by omega, by omega, rfl, hrz⟩⟩
      · obtain ⟨h1, h2, h3⟩ := rf_none HI.out HX.out hgap
        refine ⟨wr, F, fa, F.length, fc, y, UInt8.ofNat kz.toNat, ⟨h1, h2, by omega⟩, HO, rfl, HBr, ?_, HKZ, .inr ⟨by omega, rfl, rfl, rfl, rfl, rfl⟩⟩
        have := HKZ.out
        cases bg
        · simp at this; rw [this]; rfl
        · simp at this; rcases this with rfl | rfl <;> rfl
    obtain ⟨w1, F1, f1a, f1l, f1c, y1, kzU, HG, HO1, HL1, HB1, hkzU, HKZ1, hgapc⟩ := hstate
    obtain ⟨n, hnq⟩ : ∃ n, frN x F1 R = n := ⟨_, rfl⟩
    have hn2 := HG.out.n
    rw [hnq, HRL.out] at hn2
    obtain ⟨k1, k2, k3, k4, k5, k6, k7, k8, k9, k10⟩ := rf_nums (x := 0) HG.out.le hn2 (by have := HG.out.len.1; rw [HRL.out] at this; exact this)
    have HN : Hid (frN x F1 R = n) := hnq
    have hncI : (n : Int) ≤ (c' : Int) := by omega
    have HTN : Hid ((R.take n).length = n) := by show _ = _; rw [List.length_take, HRL.out]; omega
    have HF1L : Hid (f1l ≤ 200000 ∧ n ≤ 57 ∧ rl ≤ 65600) := ⟨by rw [← HL1.out]; exact HG.out.len.2, by omega, by omega⟩
    have hrdn : Hid (Rd w (.slice (some ⟨b', off', none⟩) n c') (R.take n)) := by
      have := rd_sub HCS.out 0 n c' (by omega) (by unfold maxLen; omega) (by rw [HRL.out]; omega)
      rw [List.drop_zero] at this
      exact this
    clear hnq hn2 hc1 hc2
    have HWL : Hid (0 < W.length) := by show _ < _; rw [← HW.out]; exact Nat.lt_of_le_of_lt (Nat.zero_le _) (frameB_long x l)
    have HWL : Hid (0 < W.length) := by show _ < _; rw [← HW.out]; exact Nat.lt_of_le_of_lt (Nat.zero_le _) (frameB_long x l)
    have HWL : Hid (0 < W.length) := by show _ < _; rw [← HW.out]; exact Nat.lt_of_le_of_lt (Nat.zero_le _) (frameB_long x l)
    have HWL : Hid (0 < W.length) := by show _ < _; rw [← HW.out]; exact Nat.lt_of_le_of_lt (Nat.zero_le _) (frameB_long x l)
    have HWL : Hid (0 < W.length) := by show _ < _; rw [← HW.out]; exact Nat.lt_of_le_of_lt (Nat.zero_le _) (frameB_long x l)
    by_cases hend : n = rl
    · have HE : Hid (F1 ++ pcB (kindB bg true) (R.take n) = W) := by
        show _ = _
        rw [List.take_of_length_le (by rw [HRL.out, hend]; exact Nat.le_refl _)]
        exact HG.out.fr.last (by rw [HN.out, HRL.out]; exact hend)
      have heI : ¬ (n : Int) < (rl : Int) := by omega
      subst hend
      rcases hgapc with ⟨rfl, hy63, hy1, rfl, rfl, rfl, lf, g1, g2, g3, rfl, hrz⟩ | ⟨hng, rfl, rfl, rfl, rfl, rfl⟩
      · subst hy1
        have hkz : kz = 1 := HKZ.out
        subst hkz
        have HT : Hid (F1 ++ (headB (1 : UInt8) n (sumK (1 : UInt8) (R.take n)) ++ R.take n) = W) := by
          have h9 := HE.out
          rw [show kindB false true = (1 : UInt8) from rfl, pcB_head, HTN.out] at h9
          exact h9
        have hlit := lit_row w1 w1.heap.size (Nat.le_refl _) (1 : UInt8)
        rw [show (((1 : UInt8).toNat : Nat) : Int) = 1 from rfl] at hlit
        have hbl : Below w.heap.size w (w1.alloc (.cells #[.int .u8 1] 5)) := HB1.out.alloc HB1.out.size _
        have hcn := (rd_cells (hrdn.out.below hbl (Nat.le_refl _))).2
        go_wp2_with (first | (at_builtin; refine Lib.wpList_append_run _ rfl (.tmp 22) (.tmp 23) 26 3 rfl (.slice none 0 0) (.int .i64 (f1l : Int)) rfl rfl _ _ (hrz _) ?_) | (at_builtin; skip; refine wpList_append_own _ rfl (.tmp 45) (.tmp 48) 26 rfl w1.heap.size 5 i0 (.int .u8 0) 1 1 Tryd.underlying26 hi hz0 hz1 hz2 rfl (by decide) (.slice (some ⟨w1.heap.size, 0, none⟩) 1 1) 1 (bv [(1 : UInt8)]) rfl hlit ⟨b', off', none⟩ n c' (bv (R.take n)) rfl (by rw [bv_length, HTN.out, Nat.mul_one]) hcn (bv_one _) (by have := HF1L.out; unfold maxLen; omega) (by have := HF1L.out; omega) (by simp) ?_; intro v2 w2 ho2 hgr2 hn2; obtain ⟨g2, c2, hv2, hk1, hk2, o2⟩ := app_shape (n := 1) (l := [(1 : UInt8)]) ho2 rfl HTN.out (fun e => by have := (hn2.1 e).1; cases this); subst hv2; clear ho2 hn2) | fail)
        obtain ⟨s, m, hs, hmm, hsl, hml⟩ := mask_facts (1 : UInt8) (R.take n)
        have o2' : Own w1.heap.size w2 (.slice (some ⟨g2, 0, none⟩) (1 + n) c2) ((1 : UInt8) :: R.take n) := o2
        have hrs := refsum_any w2 _ _ o2'.rd (by have := HF1L.out; rw [List.length_cons, HTN.out]; omega)
        rw [hs] at hrs
        have b12 : Below w1.heap.size w1 w2 := ((Below.refl _ _).alloc (Nat.le_refl _) _).grown hgr2 (by simp) (fun k' e => (hlit.lt k' e).1)
        have HSM : Hid (sumK (1 : UInt8) (R.take n) = m) := by show _ = _; unfold sumK; rw [hs]; exact hmm
        rw [HSM.out] at HT
        clear hlit hbl hcn o2 o2' hgr2 hk1 hk2 hs
        refine hrs.mono ?_
        rintro e w3 ⟨rfl, hb3⟩
        have hrm := refmask_any s hsl w3
        rw [hmm] at hrm
        have b13 : Below w1.heap.size w1 w3 := b12.trans (hb3.mono b12.size)
        have HO3 : Hid (OwnN w.heap.size w3 (.slice f1a f1l f1c) F1) := HO1.out.below b13 (Nat.le_refl _)
        have HB3 : Hid (Below w.heap.size w w3) := HB1.out.trans (b13.mono HB1.out.size)
        clear hrs b12 b13 hb3 hmm
        go_wp2_with fail
        refine hrm.mono ?_
        rintro e w4 ⟨rfl, rfl⟩
        obtain ⟨mI, hmI⟩ : ∃ mI : Int, (m : Int) = mI := ⟨_, rfl⟩
        have hmI0 : 0 ≤ mI := by omega
        have hmI1 : mI < 4294967296 := by omega
        rw [hmI]
        have HML : Hid (m < 4294967296 ∧ (m : Int) = mI) := ⟨hml, hmI⟩
        clear hrm hsl hml hmI
        have hsev := seven_lit w4 m n mI 1 (1 : UInt8) HML.out (by have := HF1L.out; omega) rfl
        have hrw5 : (w4.alloc (.cells #[.int .u8 (mI % 256), .int .u8 (mI / 256 % 256), .int .u8 (mI / 65536 % 256), .int .u8 (mI / 16777216), .int .u8 (n : Int), .int .u8 ((n : Int) / 256), .int .u8 1] 5)).ownsRow w.heap.size 5 1 (.slice f1a f1l f1c) f1l (bv F1) := by
          have h9 := (ownN_row HO3.out).alloc (.cells #[.int .u8 (mI % 256), .int .u8 (mI / 256 % 256), .int .u8 (mI / 65536 % 256), .int .u8 (mI / 16777216), .int .u8 (n : Int), .int .u8 ((n : Int) / 256), .int .u8 1] 5)
          rw [HL1.out] at h9
          exact h9
        have HB4 : Hid (Below w.heap.size w (w4.alloc (.cells #[.int .u8 (mI % 256), .int .u8 (mI / 256 % 256), .int .u8 (mI / 65536 % 256), .int .u8 (mI / 16777216), .int .u8 (n : Int), .int .u8 ((n : Int) / 256), .int .u8 1] 5))) := HB3.out.alloc HB3.out.size _
        obtain ⟨F2, HF2⟩ : ∃ F2, Hid (F1 ++ headB (1 : UInt8) n m = F2) := ⟨_, rfl⟩
        obtain ⟨f2l, HL2⟩ : ∃ f2l, Hid (F2.length = f2l) := ⟨_, rfl⟩
        have HL2b : Hid (f2l = f1l + 7) := by show _ = _; rw [← HL2.out, ← HF2.out, List.length_append, HL1.out, head_len]
        have HT2 : Hid (F2 ++ R.take n = W) := by show _ = _; rw [← HF2.out, List.append_assoc]; exact HT.out
        clear HT HSM
        go_wp2_with (first
          | (at_builtin; refine wpList_append_own _ rfl (.tmp 52) (.tmp 70) 26 rfl w.heap.size 5 i0 (.int .u8 0) 1 1 Tryd.underlying26 hi hz0 hz1 hz2 rfl (by decide) (.slice f1a f1l f1c) f1l (bv F1) rfl hrw5 ⟨w4.heap.size, 0, none⟩ 7 7 (bv (headB (1 : UInt8) n m)) rfl (by rw [bv_length, head_len]) hsev (bv_one _) (by have := HF1L.out; unfold maxLen; omega) (by have := HF1L.out; omega) HB4.out.size ?_; intro v5 w5 ho5 hgr5 hn5; have h9 : OwnN w.heap.size w5 v5 (F1 ++ headB (1 : UInt8) n m) := ownN_of_rowT (by rw [HL1.out]; exact ho5); rw [HF2.out] at h9; obtain ⟨v5a, v5c, hv5⟩ := h9.rd.len; rw [HL2.out] at hv5; subst hv5; have HO5 : Hid (OwnN w.heap.size w5 (.slice v5a f2l v5c) F2) := h9; have HB5 : Hid (Below w.heap.size w w5) := HB4.out.grown hgr5 HB4.out.size (fun k' e => (hrw5.lt k' e).1); clear ho5 hgr5 hn5 h9)
          | (at_builtin; refine wpList_append_own _ rfl (.tmp 72) (.tmp 75) 26 rfl w.heap.size 5 i0 (.int .u8 0) 1 1 Tryd.underlying26 hi hz0 hz1 hz2 rfl (by decide) (.slice v5a f2l v5c) f2l (bv F2) rfl (by have h9 := ownN_row HO5.out; rw [HL2.out] at h9; exact h9) ⟨b', off', none⟩ n c' (bv (R.take n)) rfl (by rw [bv_length, HTN.out, Nat.mul_one]) (rd_cells (hrdn.out.below HB5.out (Nat.le_refl _))).2 (bv_one _) (by have := HF1L.out; have := HL2b.out; unfold maxLen; omega) (by have := HF1L.out; have := HL2b.out; omega) HB5.out.size ?_; intro v6 w6 ho6 hgr6 hn6; have h9 : OwnN w.heap.size w6 v6 (F2 ++ R.take n) := ownN_of_rowT (by rw [HL2.out, HTN.out]; exact ho6); rw [HT2.out] at h9; obtain ⟨v6a, v6c, hv6⟩ := h9.rd.len; subst hv6; obtain ⟨g6, hg6, h10⟩ := ownN_some h9 HWL.out; subst hg6; have HO6 : Hid (Own w.heap.size w6 (.slice (some ⟨g6, 0, none⟩) W.length v6c) W) := h10; have HB6 : Hid (Below w.heap.size w w6) := HB5.out.grown hgr6 HB5.out.size (fun k' e => ((ownN_row HO5.out).lt k' e).1); clear ho6 hgr6 hn6 h9 h10)
          | fail)
        all_goals
          go_ret2
          exact ⟨g6, v6c, rfl, HO6.out, HB6.out⟩
      · rw [HL1.out]
        cases bg
        · have hkz : kz = 1 := HKZ.out
          subst hkz
          have HT : Hid (F1 ++ (headB (1 : UInt8) n (sumK (1 : UInt8) (R.take n)) ++ R.take n) = W) := by
            have h9 := HE.out
            rw [show kindB false true = (1 : UInt8) from rfl, pcB_head, HTN.out] at h9
            exact h9
          have hlit := lit_row w1 w1.heap.size (Nat.le_refl _) (1 : UInt8)
          rw [show (((1 : UInt8).toNat : Nat) : Int) = 1 from rfl] at hlit
          have hbl : Below w.heap.size w (w1.alloc (.cells #[.int .u8 1] 5)) := HB1.out.alloc HB1.out.size _
          have hcn := (rd_cells (hrdn.out.below hbl (Nat.le_refl _))).2
          go_wp2_with (first | (at_builtin; skip; refine wpList_append_own _ rfl (.tmp 45) (.tmp 48) 26 rfl w1.heap.size 5 i0 (.int .u8 0) 1 1 Tryd.underlying26 hi hz0 hz1 hz2 rfl (by decide) (.slice (some ⟨w1.heap.size, 0, none⟩) 1 1) 1 (bv [(1 : UInt8)]) rfl hlit ⟨b', off', none⟩ n c' (bv (R.take n)) rfl (by rw [bv_length, HTN.out, Nat.mul_one]) hcn (bv_one _) (by have := HF1L.out; unfold maxLen; omega) (by have := HF1L.out; omega) (by simp) ?_; intro v2 w2 ho2 hgr2 hn2; obtain ⟨g2, c2, hv2, hk1, hk2, o2⟩ := app_shape (n := 1) (l := [(1 : UInt8)]) ho2 rfl HTN.out (fun e => by have := (hn2.1 e).1; cases this); subst hv2; clear ho2 hn2) | fail)
          obtain ⟨s, m, hs, hmm, hsl, hml⟩ := mask_facts (1 : UInt8) (R.take n)
          have o2' : Own w1.heap.size w2 (.slice (some ⟨g2, 0, none⟩) (1 + n) c2) ((1 : UInt8) :: R.take n) := o2
          have hrs := refsum_any w2 _ _ o2'.rd (by have := HF1L.out; rw [List.length_cons, HTN.out]; omega)
          rw [hs] at hrs
          have b12 : Below w1.heap.size w1 w2 := ((Below.refl _ _).alloc (Nat.le_refl _) _).grown hgr2 (by simp) (fun k' e => (hlit.lt k' e).1)
          have HSM : Hid (sumK (1 : UInt8) (R.take n) = m) := by show _ = _; unfold sumK; rw [hs]; exact hmm
          rw [HSM.out] at HT
          clear hlit hbl hcn o2 o2' hgr2 hk1 hk2 hs
          refine hrs.mono ?_
          rintro e w3 ⟨rfl, hb3⟩
          have hrm := refmask_any s hsl w3
          rw [hmm] at hrm
          have b13 : Below w1.heap.size w1 w3 := b12.trans (hb3.mono b12.size)
          have HO3 : Hid (OwnN w.heap.size w3 (.slice f1a f1l f1c) F1) := HO1.out.below b13 (Nat.le_refl _)
          have HB3 : Hid (Below w.heap.size w w3) := HB1.out.trans (b13.mono HB1.out.size)
          clear hrs b12 b13 hb3 hmm
          go_wp2_with fail
          refine hrm.mono ?_
          rintro e w4 ⟨rfl, rfl⟩
          obtain ⟨mI, hmI⟩ : ∃ mI : Int, (m : Int) = mI := ⟨_, rfl⟩
          have hmI0 : 0 ≤ mI := by omega
          have hmI1 : mI < 4294967296 := by omega
          rw [hmI]
          have HML : Hid (m < 4294967296 ∧ (m : Int) = mI) := ⟨hml, hmI⟩
          clear hrm hsl hml hmI
          have hsev := seven_lit w4 m n mI 1 (1 : UInt8) HML.out (by have := HF1L.out; omega) rfl
          have hrw5 : (w4.alloc (.cells #[.int .u8 (mI % 256), .int .u8 (mI / 256 % 256), .int .u8 (mI / 65536 % 256), .int .u8 (mI / 16777216), .int .u8 (n : Int), .int .u8 ((n : Int) / 256), .int .u8 1] 5)).ownsRow w.heap.size 5 1 (.slice f1a f1l f1c) f1l (bv F1) := by
            have h9 := (ownN_row HO3.out).alloc (.cells #[.int .u8 (mI % 256), .int .u8 (mI / 256 % 256), .int .u8 (mI / 65536 % 256), .int .u8 (mI / 16777216), .int .u8 (n : Int), .int .u8 ((n : Int) / 256), .int .u8 1] 5)
            rw [HL1.out] at h9
            exact h9
          have HB4 : Hid (Below w.heap.size w (w4.alloc (.cells #[.int .u8 (mI % 256), .int .u8 (mI / 256 % 256), .int .u8 (mI / 65536 % 256), .int .u8 (mI / 16777216), .int .u8 (n : Int), .int .u8 ((n : Int) / 256), .int .u8 1] 5))) := HB3.out.alloc HB3.out.size _
          obtain ⟨F2, HF2⟩ : ∃ F2, Hid (F1 ++ headB (1 : UInt8) n m = F2) := ⟨_, rfl⟩
          obtain ⟨f2l, HL2⟩ : ∃ f2l, Hid (F2.length = f2l) := ⟨_, rfl⟩
          have HL2b : Hid (f2l = f1l + 7) := by show _ = _; rw [← HL2.out, ← HF2.out, List.length_append, HL1.out, head_len]
          have HT2 : Hid (F2 ++ R.take n = W) := by show _ = _; rw [← HF2.out, List.append_assoc]; exact HT.out
          clear HT HSM
          go_wp2_with (first
            | (at_builtin; refine wpList_append_own _ rfl (.tmp 52) (.tmp 70) 26 rfl w.heap.size 5 i0 (.int .u8 0) 1 1 Tryd.underlying26 hi hz0 hz1 hz2 rfl (by decide) (.slice f1a f1l f1c) f1l (bv F1) rfl hrw5 ⟨w4.heap.size, 0, none⟩ 7 7 (bv (headB (1 : UInt8) n m)) rfl (by rw [bv_length, head_len]) hsev (bv_one _) (by have := HF1L.out; unfold maxLen; omega) (by have := HF1L.out; omega) HB4.out.size ?_; intro v5 w5 ho5 hgr5 hn5; have h9 : OwnN w.heap.size w5 v5 (F1 ++ headB (1 : UInt8) n m) := ownN_of_rowT (by rw [HL1.out]; exact ho5); rw [HF2.out] at h9; obtain ⟨v5a, v5c, hv5⟩ := h9.rd.len; rw [HL2.out] at hv5; subst hv5; have HO5 : Hid (OwnN w.heap.size w5 (.slice v5a f2l v5c) F2) := h9; have HB5 : Hid (Below w.heap.size w w5) := HB4.out.grown hgr5 HB4.out.size (fun k' e => (hrw5.lt k' e).1); clear ho5 hgr5 hn5 h9)
            | (at_builtin; refine wpList_append_own _ rfl (.tmp 72) (.tmp 75) 26 rfl w.heap.size 5 i0 (.int .u8 0) 1 1 Tryd.underlying26 hi hz0 hz1 hz2 rfl (by decide) (.slice v5a f2l v5c) f2l (bv F2) rfl (by have h9 := ownN_row HO5.out; rw [HL2.out] at h9; exact h9) ⟨b', off', none⟩ n c' (bv (R.take n)) rfl (by rw [bv_length, HTN.out, Nat.mul_one]) (rd_cells (hrdn.out.below HB5.out (Nat.le_refl _))).2 (bv_one _) (by have := HF1L.out; have := HL2b.out; unfold maxLen; omega) (by have := HF1L.out; have := HL2b.out; omega) HB5.out.size ?_; intro v6 w6 ho6 hgr6 hn6; have h9 : OwnN w.heap.size w6 v6 (F2 ++ R.take n) := ownN_of_rowT (by rw [HL2.out, HTN.out]; exact ho6); rw [HT2.out] at h9; obtain ⟨v6a, v6c, hv6⟩ := h9.rd.len; subst hv6; obtain ⟨g6, hg6, h10⟩ := ownN_some h9 HWL.out; subst hg6; have HO6 : Hid (Own w.heap.size w6 (.slice (some ⟨g6, 0, none⟩) W.length v6c) W) := h10; have HB6 : Hid (Below w.heap.size w w6) := HB5.out.grown hgr6 HB5.out.size (fun k' e => ((ownN_row HO5.out).lt k' e).1); clear ho6 hgr6 hn6 h9 h10)
            | fail)
          all_goals
            go_ret2
            exact ⟨g6, v6c, rfl, HO6.out, HB6.out⟩
        · rcases HKZ.out with hkz | hkz
          all_goals
            subst hkz
            have HT : Hid (F1 ++ (headB (4 : UInt8) n (sumK (4 : UInt8) (R.take n)) ++ R.take n) = W) := by
              have h9 := HE.out
              rw [show kindB true true = (4 : UInt8) from rfl, pcB_head, HTN.out] at h9
              exact h9
            have hlit := lit_row w1 w1.heap.size (Nat.le_refl _) (4 : UInt8)
            rw [show (((4 : UInt8).toNat : Nat) : Int) = 4 from rfl] at hlit
            have hbl : Below w.heap.size w (w1.alloc (.cells #[.int .u8 4] 5)) := HB1.out.alloc HB1.out.size _
            have hcn := (rd_cells (hrdn.out.below hbl (Nat.le_refl _))).2
            go_wp2_with (first | (at_builtin; skip; refine wpList_append_own _ rfl (.tmp 45) (.tmp 48) 26 rfl w1.heap.size 5 i0 (.int .u8 0) 1 1 Tryd.underlying26 hi hz0 hz1 hz2 rfl (by decide) (.slice (some ⟨w1.heap.size, 0, none⟩) 1 1) 1 (bv [(4 : UInt8)]) rfl hlit ⟨b', off', none⟩ n c' (bv (R.take n)) rfl (by rw [bv_length, HTN.out, Nat.mul_one]) hcn (bv_one _) (by have := HF1L.out; unfold maxLen; omega) (by have := HF1L.out; omega) (by simp) ?_; intro v2 w2 ho2 hgr2 hn2; obtain ⟨g2, c2, hv2, hk1, hk2, o2⟩ := app_shape (n := 1) (l := [(4 : UInt8)]) ho2 rfl HTN.out (fun e => by have := (hn2.1 e).1; cases this); subst hv2; clear ho2 hn2) | fail)
            obtain ⟨s, m, hs, hmm, hsl, hml⟩ := mask_facts (4 : UInt8) (R.take n)
            have o2' : Own w1.heap.size w2 (.slice (some ⟨g2, 0, none⟩) (1 + n) c2) ((4 : UInt8) :: R.take n) := o2
            have hrs := refsum_any w2 _ _ o2'.rd (by have := HF1L.out; rw [List.length_cons, HTN.out]; omega)
            rw [hs] at hrs
            have b12 : Below w1.heap.size w1 w2 := ((Below.refl _ _).alloc (Nat.le_refl _) _).grown hgr2 (by simp) (fun k' e => (hlit.lt k' e).1)
            have HSM : Hid (sumK (4 : UInt8) (R.take n) = m) := by show _ = _; unfold sumK; rw [hs]; exact hmm
            rw [HSM.out] at HT
            clear hlit hbl hcn o2 o2' hgr2 hk1 hk2 hs
            refine hrs.mono ?_
            rintro e w3 ⟨rfl, hb3⟩
            have hrm := refmask_any s hsl w3
            rw [hmm] at hrm
            have b13 : Below w1.heap.size w1 w3 := b12.trans (hb3.mono b12.size)
            have HO3 : Hid (OwnN w.heap.size w3 (.slice f1a f1l f1c) F1) := HO1.out.below b13 (Nat.le_refl _)
            have HB3 : Hid (Below w.heap.size w w3) := HB1.out.trans (b13.mono HB1.out.size)
            clear hrs b12 b13 hb3 hmm
            go_wp2_with fail
            refine hrm.mono ?_
            rintro e w4 ⟨rfl, rfl⟩
            obtain ⟨mI, hmI⟩ : ∃ mI : Int, (m : Int) = mI := ⟨_, rfl⟩
            have hmI0 : 0 ≤ mI := by omega
            have hmI1 : mI < 4294967296 := by omega
            rw [hmI]
            have HML : Hid (m < 4294967296 ∧ (m : Int) = mI) := ⟨hml, hmI⟩
            clear hrm hsl hml hmI
            have hsev := seven_lit w4 m n mI 4 (4 : UInt8) HML.out (by have := HF1L.out; omega) rfl
            have hrw5 : (w4.alloc (.cells #[.int .u8 (mI % 256), .int .u8 (mI / 256 % 256), .int .u8 (mI / 65536 % 256), .int .u8 (mI / 16777216), .int .u8 (n : Int), .int .u8 ((n : Int) / 256), .int .u8 4] 5)).ownsRow w.heap.size 5 1 (.slice f1a f1l f1c) f1l (bv F1) := by
              have h9 := (ownN_row HO3.out).alloc (.cells #[.int .u8 (mI % 256), .int .u8 (mI / 256 % 256), .int .u8 (mI / 65536 % 256), .int .u8 (mI / 16777216), .int .u8 (n : Int), .int .u8 ((n : Int) / 256), .int .u8 4] 5)
              rw [HL1.out] at h9
              exact h9
            have HB4 : Hid (Below w.heap.size w (w4.alloc (.cells #[.int .u8 (mI % 256), .int .u8 (mI / 256 % 256), .int .u8 (mI / 65536 % 256), .int .u8 (mI / 16777216), .int .u8 (n : Int), .int .u8 ((n : Int) / 256), .int .u8 4] 5))) := HB3.out.alloc HB3.out.size _
            obtain ⟨F2, HF2⟩ : ∃ F2, Hid (F1 ++ headB (4 : UInt8) n m = F2) := ⟨_, rfl⟩
            obtain ⟨f2l, HL2⟩ : ∃ f2l, Hid (F2.length = f2l) := ⟨_, rfl⟩
            have HL2b : Hid (f2l = f1l + 7) := by show _ = _; rw [← HL2.out, ← HF2.out, List.length_append, HL1.out, head_len]
            have HT2 : Hid (F2 ++ R.take n = W) := by show _ = _; rw [← HF2.out, List.append_assoc]; exact HT.out
            clear HT HSM
            go_wp2_with (first
              | (at_builtin; refine wpList_append_own _ rfl (.tmp 52) (.tmp 70) 26 rfl w.heap.size 5 i0 (.int .u8 0) 1 1 Tryd.underlying26 hi hz0 hz1 hz2 rfl (by decide) (.slice f1a f1l f1c) f1l (bv F1) rfl hrw5 ⟨w4.heap.size, 0, none⟩ 7 7 (bv (headB (4 : UInt8) n m)) rfl (by rw [bv_length, head_len]) hsev (bv_one _) (by have := HF1L.out; unfold maxLen; omega) (by have := HF1L.out; omega) HB4.out.size ?_; intro v5 w5 ho5 hgr5 hn5; have h9 : OwnN w.heap.size w5 v5 (F1 ++ headB (4 : UInt8) n m) := ownN_of_rowT (by rw [HL1.out]; exact ho5); rw [HF2.out] at h9; obtain ⟨v5a, v5c, hv5⟩ := h9.rd.len; rw [HL2.out] at hv5; subst hv5; have HO5 : Hid (OwnN w.heap.size w5 (.slice v5a f2l v5c) F2) := h9; have HB5 : Hid (Below w.heap.size w w5) := HB4.out.grown hgr5 HB4.out.size (fun k' e => (hrw5.lt k' e).1); clear ho5 hgr5 hn5 h9)
              | (at_builtin; refine wpList_append_own _ rfl (.tmp 72) (.tmp 75) 26 rfl w.heap.size 5 i0 (.int .u8 0) 1 1 Tryd.underlying26 hi hz0 hz1 hz2 rfl (by decide) (.slice v5a f2l v5c) f2l (bv F2) rfl (by have h9 := ownN_row HO5.out; rw [HL2.out] at h9; exact h9) ⟨b', off', none⟩ n c' (bv (R.take n)) rfl (by rw [bv_length, HTN.out, Nat.mul_one]) (rd_cells (hrdn.out.below HB5.out (Nat.le_refl _))).2 (bv_one _) (by have := HF1L.out; have := HL2b.out; unfold maxLen; omega) (by have := HF1L.out; have := HL2b.out; omega) HB5.out.size ?_; intro v6 w6 ho6 hgr6 hn6; have h9 : OwnN w.heap.size w6 v6 (F2 ++ R.take n) := ownN_of_rowT (by rw [HL2.out, HTN.out]; exact ho6); rw [HT2.out] at h9; obtain ⟨v6a, v6c, hv6⟩ := h9.rd.len; subst hv6; obtain ⟨g6, hg6, h10⟩ := ownN_some h9 HWL.out; subst hg6; have HO6 : Hid (Own w.heap.size w6 (.slice (some ⟨g6, 0, none⟩) W.length v6c) W) := h10; have HB6 : Hid (Below w.heap.size w w6) := HB5.out.grown hgr6 HB5.out.size (fun k' e => ((ownN_row HO5.out).lt k' e).1); clear ho6 hgr6 hn6 h9 h10)
              | fail)
            all_goals
              go_ret2
              exact ⟨g6, v6c, rfl, HO6.out, HB6.out⟩
    · have hltI : (n : Int) < (rl : Int) := by omega
      obtain ⟨hnx, hnlt⟩ := HG.out.fr.next (by rw [HN.out, HRL.out]; exact hend)
      rw [HN.out] at hnx
      have HN57 : Hid (n = 57 - y1) := by have h1 := HG.out.n; rw [HN.out, HRL.out] at h1; show _ = _; omega
      obtain ⟨F', hF'⟩ : ∃ F', F1 ++ pcB (kindB bg false) (R.take n) = F' := ⟨_, rfl⟩
      rw [hF'] at hnx
      have HE : Hid _ := hF'
      have HNX : Hid (FrI x W true F' (R.drop n)) := hnx
      have HFL : Hid (0 < F'.length) := by show _ < _; rw [← hF', List.length_append, pcB_length]; omega
      have hcn0 : ¬ c' = n := by have := HBB.out; omega
      have hrd2 : Hid (Rd w (.slice (some ⟨b', off' + n, none⟩) (rl - n) (c' - n)) (R.drop n)) := by
        obtain ⟨off2, e1, _, r, _⟩ := rd_drop HCS.out (by rw [HRL.out]; exact HBB.out.2.1) (by have := HBB.out; unfold maxLen; omega) n (by rw [HRL.out]; omega)
        rw [e1 hcn0, HRL.out] at r
        exact r
      have hvb2 : Hid (∀ bb, (Value.slice (some ⟨b', off' + n, none⟩) (rl - n) (c' - n)).ownBlock = some bb → bb < w.heap.size) := fun bb e => by cases e; exact HBB.out.1
      have HMS : Hid ((R.drop n).length + 1 < gk ∧ True) := by
        have hk := HK.out
        show _ ∧ _
        rw [List.length_drop]
        rw [HRL.out] at hk ⊢
        refine ⟨?_, trivial⟩
        cases bg
        · simp at hk
          omega
        · simp at hk
          have hz := HG.out.fr.zr rfl
          have hlf9 := HG.out.lf
          have := HN57.out
          omega
      clear hnx hnlt hF'
      rcases hgapc with ⟨rfl, hy63, hy1, rfl, rfl, rfl, lf, g1, g2, g3, rfl, hrz⟩ | ⟨hng, rfl, rfl, rfl, rfl, rfl⟩
      · subst hy1
        have hkz : kz = 1 := HKZ.out
        subst hkz
        have hrem : (7 + (n : Int)).tmod 64 = 0 := by rw [HN57.out]; rfl
        obtain rfl : n = 57 := HN57.out
        rw [show ((57 : Nat) : Int) = 57 from rfl] at k3 k4 k5 k6 k7 k9 hncI hltI hrem
        have HT : Hid (F1 ++ (headB (2 : UInt8) 57 (sumK (2 : UInt8) (R.take 57)) ++ R.take 57) = F') := by
          have h9 := HE.out
          rw [show kindB false false = (2 : UInt8) from rfl, pcB_head, HTN.out] at h9
          exact h9
        have hlit := lit_row w1 w1.heap.size (Nat.le_refl _) (2 : UInt8)
        rw [show (((2 : UInt8).toNat : Nat) : Int) = 2 from rfl] at hlit
        have hbl : Below w.heap.size w (w1.alloc (.cells #[.int .u8 2] 5)) := HB1.out.alloc HB1.out.size _
        have hcn := (rd_cells (hrdn.out.below hbl (Nat.le_refl _))).2
        go_wp2_with (first | (at_builtin; refine Lib.wpList_append_run _ rfl (.tmp 22) (.tmp 23) 26 3 rfl (.slice none 0 0) (.int .i64 (f1l : Int)) rfl rfl _ _ (hrz _) ?_) | (at_builtin; skip; refine wpList_append_own _ rfl (.tmp 45) (.tmp 48) 26 rfl w1.heap.size 5 i0 (.int .u8 0) 1 1 Tryd.underlying26 hi hz0 hz1 hz2 rfl (by decide) (.slice (some ⟨w1.heap.size, 0, none⟩) 1 1) 1 (bv [(2 : UInt8)]) rfl hlit ⟨b', off', none⟩ 57 c' (bv (R.take 57)) rfl (by rw [bv_length, HTN.out, Nat.mul_one]) hcn (bv_one _) (by have := HF1L.out; unfold maxLen; omega) (by have := HF1L.out; omega) (by simp) ?_; intro v2 w2 ho2 hgr2 hn2; obtain ⟨g2, c2, hv2, hk1, hk2, o2⟩ := app_shape (n := 1) (l := [(2 : UInt8)]) ho2 rfl HTN.out (fun e => by have := (hn2.1 e).1; cases this); subst hv2; clear ho2 hn2) | fail)
        obtain ⟨s, m, hs, hmm, hsl, hml⟩ := mask_facts (2 : UInt8) (R.take 57)
        have o2' : Own w1.heap.size w2 (.slice (some ⟨g2, 0, none⟩) (1 + 57) c2) ((2 : UInt8) :: R.take 57) := o2
        have hrs := refsum_any w2 _ _ o2'.rd (by have := HF1L.out; rw [List.length_cons, HTN.out]; omega)
        rw [hs] at hrs
        have b12 : Below w1.heap.size w1 w2 := ((Below.refl _ _).alloc (Nat.le_refl _) _).grown hgr2 (by simp) (fun k' e => (hlit.lt k' e).1)
        have HSM : Hid (sumK (2 : UInt8) (R.take 57) = m) := by show _ = _; unfold sumK; rw [hs]; exact hmm
        rw [HSM.out] at HT
        clear hlit hbl hcn o2 o2' hgr2 hk1 hk2 hs
        refine hrs.mono ?_
        rintro e w3 ⟨rfl, hb3⟩
        have hrm := refmask_any s hsl w3
        rw [hmm] at hrm
        have b13 : Below w1.heap.size w1 w3 := b12.trans (hb3.mono b12.size)
        have HO3 : Hid (OwnN w.heap.size w3 (.slice f1a f1l f1c) F1) := HO1.out.below b13 (Nat.le_refl _)
        have HB3 : Hid (Below w.heap.size w w3) := HB1.out.trans (b13.mono HB1.out.size)
        clear hrs b12 b13 hb3 hmm
        go_wp2_with fail
        refine hrm.mono ?_
        rintro e w4 ⟨rfl, rfl⟩
        obtain ⟨mI, hmI⟩ : ∃ mI : Int, (m : Int) = mI := ⟨_, rfl⟩
        have hmI0 : 0 ≤ mI := by omega
        have hmI1 : mI < 4294967296 := by omega
        rw [hmI]
        have HML : Hid (m < 4294967296 ∧ (m : Int) = mI) := ⟨hml, hmI⟩
        clear hrm hsl hml hmI
        have hsev := seven_lit57 w4 m mI 2 (2 : UInt8) HML.out rfl
        have hrw5 : (w4.alloc (.cells #[.int .u8 (mI % 256), .int .u8 (mI / 256 % 256), .int .u8 (mI / 65536 % 256), .int .u8 (mI / 16777216), .int .u8 57, .int .u8 0, .int .u8 2] 5)).ownsRow w.heap.size 5 1 (.slice f1a f1l f1c) f1l (bv F1) := by
          have h9 := (ownN_row HO3.out).alloc (.cells #[.int .u8 (mI % 256), .int .u8 (mI / 256 % 256), .int .u8 (mI / 65536 % 256), .int .u8 (mI / 16777216), .int .u8 57, .int .u8 0, .int .u8 2] 5)
          rw [HL1.out] at h9
          exact h9
        have HB4 : Hid (Below w.heap.size w (w4.alloc (.cells #[.int .u8 (mI % 256), .int .u8 (mI / 256 % 256), .int .u8 (mI / 65536 % 256), .int .u8 (mI / 16777216), .int .u8 57, .int .u8 0, .int .u8 2] 5))) := HB3.out.alloc HB3.out.size _
        obtain ⟨F2, HF2⟩ : ∃ F2, Hid (F1 ++ headB (2 : UInt8) 57 m = F2) := ⟨_, rfl⟩
        obtain ⟨f2l, HL2⟩ : ∃ f2l, Hid (F2.length = f2l) := ⟨_, rfl⟩
        have HL2b : Hid (f2l = f1l + 7) := by show _ = _; rw [← HL2.out, ← HF2.out, List.length_append, HL1.out, head_len]
        have HT2 : Hid (F2 ++ R.take 57 = F') := by show _ = _; rw [← HF2.out, List.append_assoc]; exact HT.out
        clear HT HSM
        go_wp2_with (first
          | (at_builtin; refine wpList_append_own _ rfl (.tmp 52) (.tmp 70) 26 rfl w.heap.size 5 i0 (.int .u8 0) 1 1 Tryd.underlying26 hi hz0 hz1 hz2 rfl (by decide) (.slice f1a f1l f1c) f1l (bv F1) rfl hrw5 ⟨w4.heap.size, 0, none⟩ 7 7 (bv (headB (2 : UInt8) 57 m)) rfl (by rw [bv_length, head_len]) hsev (bv_one _) (by have := HF1L.out; unfold maxLen; omega) (by have := HF1L.out; omega) HB4.out.size ?_; intro v5 w5 ho5 hgr5 hn5; have h9 : OwnN w.heap.size w5 v5 (F1 ++ headB (2 : UInt8) 57 m) := ownN_of_rowT (by rw [HL1.out]; exact ho5); rw [HF2.out] at h9; obtain ⟨v5a, v5c, hv5⟩ := h9.rd.len; rw [HL2.out] at hv5; subst hv5; have HO5 : Hid (OwnN w.heap.size w5 (.slice v5a f2l v5c) F2) := h9; have HB5 : Hid (Below w.heap.size w w5) := HB4.out.grown hgr5 HB4.out.size (fun k' e => (hrw5.lt k' e).1); clear ho5 hgr5 hn5 h9)
          | (at_builtin; refine wpList_append_own _ rfl (.tmp 72) (.tmp 75) 26 rfl w.heap.size 5 i0 (.int .u8 0) 1 1 Tryd.underlying26 hi hz0 hz1 hz2 rfl (by decide) (.slice v5a f2l v5c) f2l (bv F2) rfl (by have h9 := ownN_row HO5.out; rw [HL2.out] at h9; exact h9) ⟨b', off', none⟩ 57 c' (bv (R.take 57)) rfl (by rw [bv_length, HTN.out, Nat.mul_one]) (rd_cells (hrdn.out.below HB5.out (Nat.le_refl _))).2 (bv_one _) (by have := HF1L.out; have := HL2b.out; unfold maxLen; omega) (by have := HF1L.out; have := HL2b.out; omega) HB5.out.size ?_; intro v6 w6 ho6 hgr6 hn6; have h9 : OwnN w.heap.size w6 v6 (F2 ++ R.take 57) := ownN_of_rowT (by rw [HL2.out, HTN.out]; exact ho6); rw [HT2.out] at h9; obtain ⟨v6a, v6c, hv6⟩ := h9.rd.len; subst hv6; obtain ⟨g6, hg6, h10⟩ := ownN_some h9 HFL.out; subst hg6; have HO6 : Hid (Own w.heap.size w6 (.slice (some ⟨g6, 0, none⟩) F'.length v6c) F') := h10; have HB6 : Hid (Below w.heap.size w w6) := HB5.out.grown hgr6 HB5.out.size (fun k' e => ((ownN_row HO5.out).lt k' e).1); clear ho6 hgr6 hn6 h9 h10)
          | fail)
        go_roundg ((R.drop 57).length + 1)
        case measure => exact HMS.out.1
        case rel => exact ⟨true, F', R.drop 57, _, v6c, 0, 2, rfl, rfl, rfl, rfl, ⟨HNX.out, rfl⟩, .inl rfl, (fun h => by cases h), .inr HO6.out, ⟨hrd2.out, hvb2.out, _, _, _, rfl⟩, HB6⟩
      · rw [HL1.out]
        cases bg
        · have hkz : kz = 1 := HKZ.out
          subst hkz
          have hmn : 57 - (y1 : Int) = (n : Int) := by have := HN57.out; omega
          have hrem : ((y1 : Int) + 7 + (n : Int)).tmod 64 = 0 := by
            have h9 : (y1 : Int) + 7 + (n : Int) = 64 := by omega
            rw [h9]
            rfl
          have HT : Hid (F1 ++ (headB (2 : UInt8) n (sumK (2 : UInt8) (R.take n)) ++ R.take n) = F') := by
            have h9 := HE.out
            rw [show kindB false false = (2 : UInt8) from rfl, pcB_head, HTN.out] at h9
            exact h9
          have hlit := lit_row w1 w1.heap.size (Nat.le_refl _) (2 : UInt8)
          rw [show (((2 : UInt8).toNat : Nat) : Int) = 2 from rfl] at hlit
          have hbl : Below w.heap.size w (w1.alloc (.cells #[.int .u8 2] 5)) := HB1.out.alloc HB1.out.size _
          have hcn := (rd_cells (hrdn.out.below hbl (Nat.le_refl _))).2
          go_wp2_with (first | (at_builtin; skip; refine wpList_append_own _ rfl (.tmp 45) (.tmp 48) 26 rfl w1.heap.size 5 i0 (.int .u8 0) 1 1 Tryd.underlying26 hi hz0 hz1 hz2 rfl (by decide) (.slice (some ⟨w1.heap.size, 0, none⟩) 1 1) 1 (bv [(2 : UInt8)]) rfl hlit ⟨b', off', none⟩ n c' (bv (R.take n)) rfl (by rw [bv_length, HTN.out, Nat.mul_one]) hcn (bv_one _) (by have := HF1L.out; unfold maxLen; omega) (by have := HF1L.out; omega) (by simp) ?_; intro v2 w2 ho2 hgr2 hn2; obtain ⟨g2, c2, hv2, hk1, hk2, o2⟩ := app_shape (n := 1) (l := [(2 : UInt8)]) ho2 rfl HTN.out (fun e => by have := (hn2.1 e).1; cases this); subst hv2; clear ho2 hn2) | fail)
          obtain ⟨s, m, hs, hmm, hsl, hml⟩ := mask_facts (2 : UInt8) (R.take n)
          have o2' : Own w1.heap.size w2 (.slice (some ⟨g2, 0, none⟩) (1 + n) c2) ((2 : UInt8) :: R.take n) := o2
          have hrs := refsum_any w2 _ _ o2'.rd (by have := HF1L.out; rw [List.length_cons, HTN.out]; omega)
          rw [hs] at hrs
          have b12 : Below w1.heap.size w1 w2 := ((Below.refl _ _).alloc (Nat.le_refl _) _).grown hgr2 (by simp) (fun k' e => (hlit.lt k' e).1)
          have HSM : Hid (sumK (2 : UInt8) (R.take n) = m) := by show _ = _; unfold sumK; rw [hs]; exact hmm
          rw [HSM.out] at HT
          clear hlit hbl hcn o2 o2' hgr2 hk1 hk2 hs
          refine hrs.mono ?_
          rintro e w3 ⟨rfl, hb3⟩
          have hrm := refmask_any s hsl w3
          rw [hmm] at hrm
          have b13 : Below w1.heap.size w1 w3 := b12.trans (hb3.mono b12.size)
          have HO3 : Hid (OwnN w.heap.size w3 (.slice f1a f1l f1c) F1) := HO1.out.below b13 (Nat.le_refl _)
          have HB3 : Hid (Below w.heap.size w w3) := HB1.out.trans (b13.mono HB1.out.size)
          clear hrs b12 b13 hb3 hmm
          go_wp2_with fail
          refine hrm.mono ?_
          rintro e w4 ⟨rfl, rfl⟩
          obtain ⟨mI, hmI⟩ : ∃ mI : Int, (m : Int) = mI := ⟨_, rfl⟩
          have hmI0 : 0 ≤ mI := by omega
          have hmI1 : mI < 4294967296 := by omega
          rw [hmI]
          have HML : Hid (m < 4294967296 ∧ (m : Int) = mI) := ⟨hml, hmI⟩
          clear hrm hsl hml hmI
          have hsev := seven_lit w4 m n mI 2 (2 : UInt8) HML.out (by have := HF1L.out; omega) rfl
          have hrw5 : (w4.alloc (.cells #[.int .u8 (mI % 256), .int .u8 (mI / 256 % 256), .int .u8 (mI / 65536 % 256), .int .u8 (mI / 16777216), .int .u8 (n : Int), .int .u8 ((n : Int) / 256), .int .u8 2] 5)).ownsRow w.heap.size 5 1 (.slice f1a f1l f1c) f1l (bv F1) := by
            have h9 := (ownN_row HO3.out).alloc (.cells #[.int .u8 (mI % 256), .int .u8 (mI / 256 % 256), .int .u8 (mI / 65536 % 256), .int .u8 (mI / 16777216), .int .u8 (n : Int), .int .u8 ((n : Int) / 256), .int .u8 2] 5)
            rw [HL1.out] at h9
            exact h9
          have HB4 : Hid (Below w.heap.size w (w4.alloc (.cells #[.int .u8 (mI % 256), .int .u8 (mI / 256 % 256), .int .u8 (mI / 65536 % 256), .int .u8 (mI / 16777216), .int .u8 (n : Int), .int .u8 ((n : Int) / 256), .int .u8 2] 5))) := HB3.out.alloc HB3.out.size _
          obtain ⟨F2, HF2⟩ : ∃ F2, Hid (F1 ++ headB (2 : UInt8) n m = F2) := ⟨_, rfl⟩
          obtain ⟨f2l, HL2⟩ : ∃ f2l, Hid (F2.length = f2l) := ⟨_, rfl⟩
          have HL2b : Hid (f2l = f1l + 7) := by show _ = _; rw [← HL2.out, ← HF2.out, List.length_append, HL1.out, head_len]
          have HT2 : Hid (F2 ++ R.take n = F') := by show _ = _; rw [← HF2.out, List.append_assoc]; exact HT.out
          clear HT HSM
          go_wp2_with (first
            | (at_builtin; refine wpList_append_own _ rfl (.tmp 52) (.tmp 70) 26 rfl w.heap.size 5 i0 (.int .u8 0) 1 1 Tryd.underlying26 hi hz0 hz1 hz2 rfl (by decide) (.slice f1a f1l f1c) f1l (bv F1) rfl hrw5 ⟨w4.heap.size, 0, none⟩ 7 7 (bv (headB (2 : UInt8) n m)) rfl (by rw [bv_length, head_len]) hsev (bv_one _) (by have := HF1L.out; unfold maxLen; omega) (by have := HF1L.out; omega) HB4.out.size ?_; intro v5 w5 ho5 hgr5 hn5; have h9 : OwnN w.heap.size w5 v5 (F1 ++ headB (2 : UInt8) n m) := ownN_of_rowT (by rw [HL1.out]; exact ho5); rw [HF2.out] at h9; obtain ⟨v5a, v5c, hv5⟩ := h9.rd.len; rw [HL2.out] at hv5; subst hv5; have HO5 : Hid (OwnN w.heap.size w5 (.slice v5a f2l v5c) F2) := h9; have HB5 : Hid (Below w.heap.size w w5) := HB4.out.grown hgr5 HB4.out.size (fun k' e => (hrw5.lt k' e).1); clear ho5 hgr5 hn5 h9)
            | (at_builtin; refine wpList_append_own _ rfl (.tmp 72) (.tmp 75) 26 rfl w.heap.size 5 i0 (.int .u8 0) 1 1 Tryd.underlying26 hi hz0 hz1 hz2 rfl (by decide) (.slice v5a f2l v5c) f2l (bv F2) rfl (by have h9 := ownN_row HO5.out; rw [HL2.out] at h9; exact h9) ⟨b', off', none⟩ n c' (bv (R.take n)) rfl (by rw [bv_length, HTN.out, Nat.mul_one]) (rd_cells (hrdn.out.below HB5.out (Nat.le_refl _))).2 (bv_one _) (by have := HF1L.out; have := HL2b.out; unfold maxLen; omega) (by have := HF1L.out; have := HL2b.out; omega) HB5.out.size ?_; intro v6 w6 ho6 hgr6 hn6; have h9 : OwnN w.heap.size w6 v6 (F2 ++ R.take n) := ownN_of_rowT (by rw [HL2.out, HTN.out]; exact ho6); rw [HT2.out] at h9; obtain ⟨v6a, v6c, hv6⟩ := h9.rd.len; subst hv6; obtain ⟨g6, hg6, h10⟩ := ownN_some h9 HFL.out; subst hg6; have HO6 : Hid (Own w.heap.size w6 (.slice (some ⟨g6, 0, none⟩) F'.length v6c) F') := h10; have HB6 : Hid (Below w.heap.size w w6) := HB5.out.grown hgr6 HB5.out.size (fun k' e => ((ownN_row HO5.out).lt k' e).1); clear ho6 hgr6 hn6 h9 h10)
            | fail)
          go_roundg ((R.drop n).length + 1)
          case measure => exact HMS.out.1
          case rel => exact ⟨true, F', R.drop n, _, v6c, 0, 2, rfl, rfl, rfl, rfl, ⟨HNX.out, rfl⟩, .inl rfl, (fun h => by cases h), .inr HO6.out, ⟨hrd2.out, hvb2.out, _, _, _, rfl⟩, HB6⟩
        · rcases HKZ.out with hkz | hkz
          all_goals
            subst hkz
            have hmn : 57 - (y1 : Int) = (n : Int) := by have := HN57.out; omega
            have hrem : ((y1 : Int) + 7 + (n : Int)).tmod 64 = 0 := by
              have h9 : (y1 : Int) + 7 + (n : Int) = 64 := by omega
              rw [h9]
              rfl
            have HT : Hid (F1 ++ (headB (3 : UInt8) n (sumK (3 : UInt8) (R.take n)) ++ R.take n) = F') := by
              have h9 := HE.out
              rw [show kindB true false = (3 : UInt8) from rfl, pcB_head, HTN.out] at h9
              exact h9
            have hlit := lit_row w1 w1.heap.size (Nat.le_refl _) (3 : UInt8)
            rw [show (((3 : UInt8).toNat : Nat) : Int) = 3 from rfl] at hlit
            have hbl : Below w.heap.size w (w1.alloc (.cells #[.int .u8 3] 5)) := HB1.out.alloc HB1.out.size _
            have hcn := (rd_cells (hrdn.out.below hbl (Nat.le_refl _))).2
            go_wp2_with (first | (at_builtin; skip; refine wpList_append_own _ rfl (.tmp 45) (.tmp 48) 26 rfl w1.heap.size 5 i0 (.int .u8 0) 1 1 Tryd.underlying26 hi hz0 hz1 hz2 rfl (by decide) (.slice (some ⟨w1.heap.size, 0, none⟩) 1 1) 1 (bv [(3 : UInt8)]) rfl hlit ⟨b', off', none⟩ n c' (bv (R.take n)) rfl (by rw [bv_length, HTN.out, Nat.mul_one]) hcn (bv_one _) (by have := HF1L.out; unfold maxLen; omega) (by have := HF1L.out; omega) (by simp) ?_; intro v2 w2 ho2 hgr2 hn2; obtain ⟨g2, c2, hv2, hk1, hk2, o2⟩ := app_shape (n := 1) (l := [(3 : UInt8)]) ho2 rfl HTN.out (fun e => by have := (hn2.1 e).1; cases this); subst hv2; clear ho2 hn2) | fail)
            obtain ⟨s, m, hs, hmm, hsl, hml⟩ := mask_facts (3 : UInt8) (R.take n)
            have o2' : Own w1.heap.size w2 (.slice (some ⟨g2, 0, none⟩) (1 + n) c2) ((3 : UInt8) :: R.take n) := o2
            have hrs := refsum_any w2 _ _ o2'.rd (by have := HF1L.out; rw [List.length_cons, HTN.out]; omega)
            rw [hs] at hrs
            have b12 : Below w1.heap.size w1 w2 := ((Below.refl _ _).alloc (Nat.le_refl _) _).grown hgr2 (by simp) (fun k' e => (hlit.lt k' e).1)
            have HSM : Hid (sumK (3 : UInt8) (R.take n) = m) := by show _ = _; unfold sumK; rw [hs]; exact hmm
            rw [HSM.out] at HT
            clear hlit hbl hcn o2 o2' hgr2 hk1 hk2 hs
            refine hrs.mono ?_
            rintro e w3 ⟨rfl, hb3⟩
            have hrm := refmask_any s hsl w3
            rw [hmm] at hrm
            have b13 : Below w1.heap.size w1 w3 := b12.trans (hb3.mono b12.size)
            have HO3 : Hid (OwnN w.heap.size w3 (.slice f1a f1l f1c) F1) := HO1.out.below b13 (Nat.le_refl _)
            have HB3 : Hid (Below w.heap.size w w3) := HB1.out.trans (b13.mono HB1.out.size)
            clear hrs b12 b13 hb3 hmm
            go_wp2_with fail
            refine hrm.mono ?_
            rintro e w4 ⟨rfl, rfl⟩
            obtain ⟨mI, hmI⟩ : ∃ mI : Int, (m : Int) = mI := ⟨_, rfl⟩
            have hmI0 : 0 ≤ mI := by omega
            have hmI1 : mI < 4294967296 := by omega
            rw [hmI]
            have HML : Hid (m < 4294967296 ∧ (m : Int) = mI) := ⟨hml, hmI⟩
            clear hrm hsl hml hmI
            have hsev := seven_lit w4 m n mI 3 (3 : UInt8) HML.out (by have := HF1L.out; omega) rfl
            have hrw5 : (w4.alloc (.cells #[.int .u8 (mI % 256), .int .u8 (mI / 256 % 256), .int .u8 (mI / 65536 % 256), .int .u8 (mI / 16777216), .int .u8 (n : Int), .int .u8 ((n : Int) / 256), .int .u8 3] 5)).ownsRow w.heap.size 5 1 (.slice f1a f1l f1c) f1l (bv F1) := by
              have h9 := (ownN_row HO3.out).alloc (.cells #[.int .u8 (mI % 256), .int .u8 (mI / 256 % 256), .int .u8 (mI / 65536 % 256), .int .u8 (mI / 16777216), .int .u8 (n : Int), .int .u8 ((n : Int) / 256), .int .u8 3] 5)
              rw [HL1.out] at h9
              exact h9
            have HB4 : Hid (Below w.heap.size w (w4.alloc (.cells #[.int .u8 (mI % 256), .int .u8 (mI / 256 % 256), .int .u8 (mI / 65536 % 256), .int .u8 (mI / 16777216), .int .u8 (n : Int), .int .u8 ((n : Int) / 256), .int .u8 3] 5))) := HB3.out.alloc HB3.out.size _
            obtain ⟨F2, HF2⟩ : ∃ F2, Hid (F1 ++ headB (3 : UInt8) n m = F2) := ⟨_, rfl⟩
            obtain ⟨f2l, HL2⟩ : ∃ f2l, Hid (F2.length = f2l) := ⟨_, rfl⟩
            have HL2b : Hid (f2l = f1l + 7) := by show _ = _; rw [← HL2.out, ← HF2.out, List.length_append, HL1.out, head_len]
            have HT2 : Hid (F2 ++ R.take n = F') := by show _ = _; rw [← HF2.out, List.append_assoc]; exact HT.out
            clear HT HSM
            go_wp2_with (first
              | (at_builtin; refine wpList_append_own _ rfl (.tmp 52) (.tmp 70) 26 rfl w.heap.size 5 i0 (.int .u8 0) 1 1 Tryd.underlying26 hi hz0 hz1 hz2 rfl (by decide) (.slice f1a f1l f1c) f1l (bv F1) rfl hrw5 ⟨w4.heap.size, 0, none⟩ 7 7 (bv (headB (3 : UInt8) n m)) rfl (by rw [bv_length, head_len]) hsev (bv_one _) (by have := HF1L.out; unfold maxLen; omega) (by have := HF1L.out; omega) HB4.out.size ?_; intro v5 w5 ho5 hgr5 hn5; have h9 : OwnN w.heap.size w5 v5 (F1 ++ headB (3 : UInt8) n m) := ownN_of_rowT (by rw [HL1.out]; exact ho5); rw [HF2.out] at h9; obtain ⟨v5a, v5c, hv5⟩ := h9.rd.len; rw [HL2.out] at hv5; subst hv5; have HO5 : Hid (OwnN w.heap.size w5 (.slice v5a f2l v5c) F2) := h9; have HB5 : Hid (Below w.heap.size w w5) := HB4.out.grown hgr5 HB4.out.size (fun k' e => (hrw5.lt k' e).1); clear ho5 hgr5 hn5 h9)
              | (at_builtin; refine wpList_append_own _ rfl (.tmp 72) (.tmp 75) 26 rfl w.heap.size 5 i0 (.int .u8 0) 1 1 Tryd.underlying26 hi hz0 hz1 hz2 rfl (by decide) (.slice v5a f2l v5c) f2l (bv F2) rfl (by have h9 := ownN_row HO5.out; rw [HL2.out] at h9; exact h9) ⟨b', off', none⟩ n c' (bv (R.take n)) rfl (by rw [bv_length, HTN.out, Nat.mul_one]) (rd_cells (hrdn.out.below HB5.out (Nat.le_refl _))).2 (bv_one _) (by have := HF1L.out; have := HL2b.out; unfold maxLen; omega) (by have := HF1L.out; have := HL2b.out; omega) HB5.out.size ?_; intro v6 w6 ho6 hgr6 hn6; have h9 : OwnN w.heap.size w6 v6 (F2 ++ R.take n) := ownN_of_rowT (by rw [HL2.out, HTN.out]; exact ho6); rw [HT2.out] at h9; obtain ⟨v6a, v6c, hv6⟩ := h9.rd.len; subst hv6; obtain ⟨g6, hg6, h10⟩ := ownN_some h9 HFL.out; subst hg6; have HO6 : Hid (Own w.heap.size w6 (.slice (some ⟨g6, 0, none⟩) F'.length v6c) F') := h10; have HB6 : Hid (Below w.heap.size w w6) := HB5.out.grown hgr6 HB5.out.size (fun k' e => ((ownN_row HO5.out).lt k' e).1); clear ho6 hgr6 hn6 h9 h10)
              | fail)
            go_roundg ((R.drop n).length + 1)
            case measure => exact HMS.out.1
            case rel => exact ⟨true, F', R.drop n, _, v6c, 0, 3, rfl, rfl, rfl, rfl, ⟨HNX.out, rfl⟩, .inr rfl, (fun h => by cases h), .inr HO6.out, ⟨hrd2.out, hvb2.out, _, _, _, rfl⟩, HB6⟩

end Go.Proofs.YtmgofohaoppajaaDoor

/- bartizanref06.Frame, of nothing; of any record. -/
namespace Go.Proofs.YtmgofohaoppajaaDoor
open Go.RowKit
set_option linter.unusedVariables false

theorem frame_nil (x : Nat) (hx : x < 64) : frameB x [] = List.replicate (gapN x) 0 ++ headB 1 0 (sumK 1 []) := by
  unfold frameB frF
  rw [if_pos (by simp), pcB_head]
  simp [sumK]

theorem seven_lit0 (w : World) (m : Nat) (mI kz : Int) (k : UInt8) (hm : m < 4294967296 ∧ (m : Int) = mI) (hk : (k.toNat : Int) = kz) :
    ∀ j u, (bv (headB k 0 m))[j]? = some u → (w.alloc (.cells #[.int .u8 (mI % 256), .int .u8 (mI / 256 % 256), .int .u8 (mI / 65536 % 256), .int .u8 (mI / 16777216), .int .u8 0, .int .u8 0, .int .u8 kz] 5)).cell? ((⟨w.heap.size, 0, none⟩ : Addr).add j) = some u :=
  seven_lit w m 0 mI kz k hm (by omega) hk

set_option maxRecDepth 100000 in
set_option maxHeartbeats 8000000 in
theorem rframe_nil (w : World) (a : Nat) :
    Calls Tryd.prog 27 #[.int .i64 (a : Int), .slice none 0 0] w fun e w' => ∃ g c, e = .returned (.tuple #[.slice (some ⟨g, 0, none⟩) (frameB a []).length c, .int .i64 0]) ∧ Own w.heap.size w' (.slice (some ⟨g, 0, none⟩) (frameB a []).length c) (frameB a []) ∧ Below w.heap.size w w' := by
  obtain ⟨i0, hi, hz0, hz1, hz2⟩ := info_parts info5
  obtain ⟨x, hx⟩ : ∃ x, a % 64 = x := ⟨_, rfl⟩
  have hx64 : x < 64 := by omega
  have hm := mod_64 a
  rw [hx] at hm
  have hfn : frameB a [] = List.replicate (gapN x) 0 ++ headB 1 0 (sumK 1 []) := by rw [← frameB_mod a, hx]; exact frame_nil x hx64
  obtain ⟨W, hW⟩ : ∃ W, frameB a [] = W := ⟨_, rfl⟩
  rw [hW] at hfn ⊢
  have hWL : 0 < W.length := by rw [← hW]; exact Nat.lt_of_le_of_lt (Nat.zero_le _) (frameB_long a [])
  have HWL : Hid (0 < W.length) := hWL
  have hx0 : (0 : Int) ≤ (x : Int) := by omega
  have hx1 : (x : Int) ≤ 63 := by omega
  have ha0 : ¬ (a : Int) < 0 := by omega
  have hstate : ∃ (w1 : World) (F1 : List UInt8) (f1a : Option Addr) (f1l f1c : Nat),
      Hid (OwnN w.heap.size w1 (.slice f1a f1l f1c) F1) ∧ Hid (F1.length = f1l) ∧ Hid (f1l ≤ 6) ∧ Hid (Below w.heap.size w w1) ∧ Hid (F1 ++ headB 1 0 (sumK 1 []) = W) ∧
      (((x : Int) ≤ 63 ∧ ∃ lf : Nat, 64 - (x : Int) = (lf : Int) ∧ (lf : Int) < 7 ∧ (0 : Int) ≤ (lf : Int) ∧ f1l = lf ∧ ∀ ty, (Builtin.append_ #[26, 3] ty #[.slice none 0 0, .int .i64 (lf : Int)]).run Tryd.prog w = .ok (.slice f1a f1l f1c) w1) ∨
       (¬ 64 - (x : Int) < 7 ∧ w1 = w ∧ F1 = [] ∧ f1a = none ∧ f1l = 0 ∧ f1c = 0)) := by
    by_cases hgap : 64 - x < 7
    · have hg : gapN x = 64 - x := by unfold gapN leftN; rw [if_pos (by omega)]; omega
      obtain ⟨lf, hlfq⟩ : ∃ lf, 64 - x = lf := ⟨_, rfl⟩
      obtain ⟨cz, wz, hrz, hoz, hbz⟩ := zeros_run w w.heap.size lf (Nat.le_refl _) (by omega) (by omega)
      rw [hg, hlfq] at hfn
      exact ⟨wz, List.replicate lf 0, _, lf, cz, .inr hoz, (by show _ = _; simp), (by show _ ≤ _; omega), hbz, hfn.symm, .inl ⟨by omega, lf, by omega, by omega, by omega, rfl, hrz⟩⟩
    · have hg : gapN x = 0 := by unfold gapN leftN; rw [if_neg (by omega)]
      rw [hg] at hfn
      exact ⟨w, [], none, 0, 0, .inl ⟨rfl, rfl⟩, rfl, (by show _ ≤ _; omega), Below.refl _ _, hfn.symm, .inr ⟨by omega, rfl, rfl, rfl, rfl, rfl⟩⟩
  clear hx hW hfn hWL hx64
  obtain ⟨w1, F1, f1a, f1l, f1c, HO1, HL1, HL6, HB1, HT, hgapc⟩ := hstate
  obtain ⟨s, m, hs, hmm, hsl, hml⟩ := mask_facts (1 : UInt8) []
  have HSM : Hid (sumK (1 : UInt8) [] = m) := by show _ = _; unfold sumK; rw [hs]; exact hmm
  rw [HSM.out] at HT
  have hlit := lit_row w1 w1.heap.size (Nat.le_refl _) (1 : UInt8)
  rw [show (((1 : UInt8).toNat : Nat) : Int) = 1 from rfl] at hlit
  have olit : Own w1.heap.size (w1.alloc (.cells #[.int .u8 1] 5)) (.slice (some ⟨w1.heap.size, 0, none⟩) 1 1) [(1 : UInt8)] := Own.of_row hlit (by simp)
  have hrs := refsum_any (w1.alloc (.cells #[.int .u8 1] 5)) _ _ olit.rd (by simp)
  rw [hs] at hrs
  have b12 : Below w1.heap.size w1 (w1.alloc (.cells #[.int .u8 1] 5)) := (Below.refl _ _).alloc (Nat.le_refl _) _
  obtain ⟨mI, hmI⟩ : ∃ mI : Int, (m : Int) = mI := ⟨_, rfl⟩
  have hmI0 : 0 ≤ mI := by omega
  have hmI1 : mI < 4294967296 := by omega
  have HML : Hid (m < 4294967296 ∧ (m : Int) = mI) := ⟨hml, hmI⟩
  have HRM : Hid (∀ w3, Calls Tryd.prog 43 #[.int .u32 (s : Int)] w3 fun e w' => e = .returned (.int .u32 mI) ∧ w' = w3) := fun w3 => by
    have := refmask_any s hsl w3
    rw [hmm, hmI] at this
    exact this
  have HB12 : Hid _ := b12
  have HRS : Hid _ := hrs
  have HLI : Hid _ := hlit
  clear hs hmm hsl hml hmI olit hrs b12
  go_enter Tryd.func27, Tryd.ntmps27
  go_wp2_with fail
  go_loopg [0, 1, 6, 7] 1 (fun gk yv pv fv kv wr => yv = .int .i64 (x : Int) ∧ pv = .slice none 0 0 ∧ fv = .slice none 0 0 ∧ kv = .int .u8 1 ∧ wr = w)
  case atStart => exact ⟨rfl, rfl, rfl, rfl, rfl⟩
  case round =>
    obtain ⟨rfl, rfl, rfl, rfl, rfl⟩ := hrel
    rcases hgapc with ⟨hy63, lf, g1, g2, g3, rfl, hrz⟩ | ⟨hng, hw1, rfl, rfl, rfl, rfl⟩
    · skip
      go_wp2_with (first | (at_builtin; refine Lib.wpList_append_run _ rfl (.tmp 22) (.tmp 23) 26 3 rfl (.slice none 0 0) (.int .i64 (f1l : Int)) rfl rfl _ _ (hrz _) ?_) | (at_builtin; refine wpList_append_own_none rfl (.tmp 45) (.tmp 48) 26 rfl w1.heap.size 5 i0 1 Tryd.underlying26 hi _ _ _ rfl HLI.out rfl ?_) | fail)
      refine Calls.mono HRS.out ?_
      rintro e w3 ⟨rfl, hb3⟩
      have b13 := HB12.out.trans (hb3.mono HB12.out.size)
      have HO3 : Hid (OwnN wr.heap.size w3 (.slice f1a f1l f1c) F1) := HO1.out.below b13 (Nat.le_refl _)
      have HB3 : Hid (Below wr.heap.size wr w3) := HB1.out.trans (b13.mono HB1.out.size)
      clear b13 hb3
      go_wp2_with fail
      refine (HRM.out _).mono ?_
      rintro e w4 ⟨rfl, rfl⟩
      have hsev := seven_lit0 w4 m mI 1 (1 : UInt8) HML.out rfl
      have hrw5 : (w4.alloc (.cells #[.int .u8 (mI % 256), .int .u8 (mI / 256 % 256), .int .u8 (mI / 65536 % 256), .int .u8 (mI / 16777216), .int .u8 0, .int .u8 0, .int .u8 1] 5)).ownsRow wr.heap.size 5 1 (.slice f1a f1l f1c) f1l (bv F1) := by
        have h9 := (ownN_row HO3.out).alloc (.cells #[.int .u8 (mI % 256), .int .u8 (mI / 256 % 256), .int .u8 (mI / 65536 % 256), .int .u8 (mI / 16777216), .int .u8 0, .int .u8 0, .int .u8 1] 5)
        rw [HL1.out] at h9
        exact h9
      have HB4 : Hid (Below wr.heap.size wr (w4.alloc (.cells #[.int .u8 (mI % 256), .int .u8 (mI / 256 % 256), .int .u8 (mI / 65536 % 256), .int .u8 (mI / 16777216), .int .u8 0, .int .u8 0, .int .u8 1] 5))) := HB3.out.alloc HB3.out.size _
      go_wp2_with (first
        | (at_builtin; refine wpList_append_own _ rfl (.tmp 52) (.tmp 70) 26 rfl wr.heap.size 5 i0 (.int .u8 0) 1 1 Tryd.underlying26 hi hz0 hz1 hz2 rfl (by decide) (.slice f1a f1l f1c) f1l (bv F1) rfl hrw5 ⟨w4.heap.size, 0, none⟩ 7 7 (bv (headB (1 : UInt8) 0 m)) rfl (by rw [bv_length, head_len]) hsev (bv_one _) (by have := HL6.out; unfold maxLen; omega) (by have := HL6.out; omega) HB4.out.size ?_; intro v5 w5 ho5 hgr5 hn5; have h9 : OwnN wr.heap.size w5 v5 (F1 ++ headB (1 : UInt8) 0 m) := ownN_of_rowT (by rw [HL1.out]; exact ho5); rw [HT.out] at h9; obtain ⟨v5a, v5c, hv5⟩ := h9.rd.len; subst hv5; obtain ⟨g6, hg6, h10⟩ := ownN_some h9 HWL.out; subst hg6; have HO5 : Hid (Own wr.heap.size w5 (.slice (some ⟨g6, 0, none⟩) W.length v5c) W) := h10; have HB5 : Hid (Below wr.heap.size wr w5) := HB4.out.grown hgr5 HB4.out.size (fun k' e => (hrw5.lt k' e).1); clear ho5 hgr5 hn5 h9 h10)
        | (at_builtin; refine wpList_append_own_none rfl (.tmp 72) (.tmp 75) 26 rfl wr.heap.size 5 i0 1 Tryd.underlying26 hi _ _ _ rfl HO5.out.row rfl ?_)
        | fail)
      all_goals
        go_ret2
        exact ⟨g6, v5c, rfl, HO5.out, HB5.out⟩
    · subst hw1
      go_wp2_with (first | (at_builtin; refine wpList_append_own_none rfl (.tmp 45) (.tmp 48) 26 rfl w1.heap.size 5 i0 1 Tryd.underlying26 hi _ _ _ rfl HLI.out rfl ?_) | fail)
      refine Calls.mono HRS.out ?_
      rintro e w3 ⟨rfl, hb3⟩
      have b13 := HB12.out.trans (hb3.mono HB12.out.size)
      have HO3 : Hid (OwnN w1.heap.size w3 (.slice none 0 0) []) := HO1.out.below b13 (Nat.le_refl _)
      have HB3 : Hid (Below w1.heap.size w1 w3) := HB1.out.trans (b13.mono HB1.out.size)
      clear b13 hb3
      go_wp2_with fail
      refine (HRM.out _).mono ?_
      rintro e w4 ⟨rfl, rfl⟩
      have hsev := seven_lit0 w4 m mI 1 (1 : UInt8) HML.out rfl
      have hrw5 : (w4.alloc (.cells #[.int .u8 (mI % 256), .int .u8 (mI / 256 % 256), .int .u8 (mI / 65536 % 256), .int .u8 (mI / 16777216), .int .u8 0, .int .u8 0, .int .u8 1] 5)).ownsRow w1.heap.size 5 1 (.slice none 0 0) 0 (bv []) := by
        have h9 := (ownN_row HO3.out).alloc (.cells #[.int .u8 (mI % 256), .int .u8 (mI / 256 % 256), .int .u8 (mI / 65536 % 256), .int .u8 (mI / 16777216), .int .u8 0, .int .u8 0, .int .u8 1] 5)
        rw [HL1.out] at h9
        exact h9
      have HB4 : Hid (Below w1.heap.size w1 (w4.alloc (.cells #[.int .u8 (mI % 256), .int .u8 (mI / 256 % 256), .int .u8 (mI / 65536 % 256), .int .u8 (mI / 16777216), .int .u8 0, .int .u8 0, .int .u8 1] 5))) := HB3.out.alloc HB3.out.size _
      go_wp2_with (first
        | (at_builtin; refine wpList_append_own _ rfl (.tmp 52) (.tmp 70) 26 rfl w1.heap.size 5 i0 (.int .u8 0) 1 1 Tryd.underlying26 hi hz0 hz1 hz2 rfl (by decide) (.slice none 0 0) 0 (bv []) rfl hrw5 ⟨w4.heap.size, 0, none⟩ 7 7 (bv (headB (1 : UInt8) 0 m)) rfl (by rw [bv_length, head_len]) hsev (bv_one _) (by have := HL6.out; unfold maxLen; omega) (by have := HL6.out; omega) HB4.out.size ?_; intro v5 w5 ho5 hgr5 hn5; have h9 : OwnN w1.heap.size w5 v5 ([] ++ headB (1 : UInt8) 0 m) := ownN_of_rowT (by rw [HL1.out]; exact ho5); rw [HT.out] at h9; obtain ⟨v5a, v5c, hv5⟩ := h9.rd.len; subst hv5; obtain ⟨g6, hg6, h10⟩ := ownN_some h9 HWL.out; subst hg6; have HO5 : Hid (Own w1.heap.size w5 (.slice (some ⟨g6, 0, none⟩) W.length v5c) W) := h10; have HB5 : Hid (Below w1.heap.size w1 w5) := HB4.out.grown hgr5 HB4.out.size (fun k' e => (hrw5.lt k' e).1); clear ho5 hgr5 hn5 h9 h10)
        | (at_builtin; refine wpList_append_own_none rfl (.tmp 72) (.tmp 75) 26 rfl w1.heap.size 5 i0 1 Tryd.underlying26 hi _ _ _ rfl HO5.out.row rfl ?_)
        | fail)
      all_goals
        go_ret2
        exact ⟨g6, v5c, rfl, HO5.out, HB5.out⟩

theorem rframe_any (w : World) (a : Nat) (v : Value) (l : List UInt8) (hv : Rd w v l) (hvb : ∀ b, v.ownBlock = some b → b < w.heap.size) (hl : l.length ≤ 65536) :
    Calls Tryd.prog 27 #[.int .i64 (a : Int), v] w fun e w' => ∃ g c, e = .returned (.tuple #[.slice (some ⟨g, 0, none⟩) (frameB a l).length c, .int .i64 0]) ∧ Own w.heap.size w' (.slice (some ⟨g, 0, none⟩) (frameB a l).length c) (frameB a l) ∧ Below w.heap.size w w' := by
  rcases rd_shape hv hvb with ⟨rfl, rfl⟩ | ⟨b, off, c, rfl, h1, h2, h3, h4⟩
  · exact rframe_nil w a
  · exact rframe_some w a b off c l h4 h3 h1 (by unfold maxLen; omega) hl

end Go.Proofs.YtmgofohaoppajaaDoor

/- bartizanref06.All. -/
namespace Go.Proofs.YtmgofohaoppajaaDoor
open Go.RowKit
set_option linter.unusedVariables false

/-- texts in a row, each of them there already -/
def TexL (w : World) (v : Value) (ls : List (List UInt8)) : Prop :=
  ∃ ao cap, v = .slice ao ls.length cap ∧ ls.length ≤ cap ∧ cap ≤ 9223372036854775807 ∧ ∀ j (h : j < ls.length), ∃ b off, ao = some ⟨b, off, none⟩ ∧ b < w.heap.size ∧ ∃ u, w.cell? ⟨b, off + j, none⟩ = some u ∧ Rd w u ls[j] ∧ ∀ bb, u.ownBlock = some bb → bb < w.heap.size

theorem OwnT.tex {B : Nat} {w : World} {v : Value} {ls : List (List UInt8)} (h : OwnT B w v ls) : TexL w v ls := by
  obtain ⟨ao, cap, rfl, h1, h2, h3⟩ := h.rd.places
  refine ⟨ao, cap, rfl, h1, h2, fun j hj => ?_⟩
  obtain ⟨g, rfl, hg, u, hu, hou⟩ := h.elem j hj
  exact ⟨g, 0, rfl, hg, u, by rw [Nat.zero_add]; exact hu, hou.rd, ownN_block hou⟩

theorem TexL.below {C : Nat} {w w' : World} {v : Value} {ls : List (List UInt8)} (h : TexL w v ls) (hb : Below C w w') (hC : w.heap.size ≤ C) : TexL w' v ls := by
  obtain ⟨ao, cap, rfl, h1, h2, h3⟩ := h
  refine ⟨ao, cap, rfl, h1, h2, fun j hj => ?_⟩
  obtain ⟨b, off, rfl, hbl, u, hu, hr, hbb⟩ := h3 j hj
  refine ⟨b, off, rfl, Nat.lt_of_lt_of_le hbl hb.size, u, ?_, hr.below hb hC, fun bb e => Nat.lt_of_lt_of_le (hbb bb e) hb.size⟩
  rw [hb.cell (p := ⟨b, off + j, none⟩) (Nat.lt_of_lt_of_le hbl hC)]
  exact hu

theorem TexL.take {w : World} {ao : Option Addr} {n c : Nat} {ls : List (List UInt8)} (h : TexL w (.slice ao n c) ls) (k : Nat) (hk : k ≤ ls.length) : TexL w (.slice ao k c) (ls.take k) := by
  obtain ⟨ao', cap, e, h1, h2, h3⟩ := h
  cases e
  have hl : (ls.take k).length = k := by rw [List.length_take]; omega
  refine ⟨ao, c, by rw [hl], by omega, h2, fun j hj => ?_⟩
  obtain ⟨b, off, e, hb, u, hu, hr, hbb⟩ := h3 j (by omega)
  exact ⟨b, off, e, hb, u, hu, by rw [List.getElem_take]; exact hr, hbb⟩

theorem TexL.rd {w : World} {v : Value} {ls : List (List UInt8)} (h : TexL w v ls) (hn : ls = [] → v = .slice none 0 0 ∨ ∃ b off c, v = .slice (some ⟨b, off, none⟩) 0 c) : RdL w v ls := by
  obtain ⟨ao, cap, rfl, h1, h2, h3⟩ := h
  by_cases h0 : ls = []
  · subst h0
    rcases hn rfl with e | ⟨b, off, c, e⟩
    · exact .inl ⟨e, rfl⟩
    · cases e
      exact .inr ⟨b, off, _, rfl, h1, by unfold maxLen; omega, fun j hj => absurd hj (Nat.not_lt_zero _)⟩
  · have hp : 0 < ls.length := List.length_pos_iff.2 h0
    obtain ⟨b, off, rfl, _⟩ := h3 0 hp
    refine .inr ⟨b, off, cap, rfl, h1, by unfold maxLen; omega, fun j hj => ?_⟩
    obtain ⟨b', off', e, _, u, hu, hr, _⟩ := h3 j hj
    cases e
    exact ⟨u, hu, hr⟩

set_option maxRecDepth 100000 in
set_option maxHeartbeats 4000000 in
theorem rall_any (w : World) (v : Value) (T : List (List UInt8)) (m : Nat) (hv : TexL w v T) (hm : ∀ l ∈ T, l.length ≤ m) (hm65 : m ≤ 65536) (hN : T.length ≤ 100) :
    Calls Tryd.prog 12 #[v] w fun e w' => ∃ x, e = .returned x ∧ OwnN w.heap.size w' x (allB T []) ∧ Below w.heap.size w w' := by
  obtain ⟨i0, hi, hz0, hz1, hz2⟩ := info_parts info5
  obtain ⟨ta, tc, rfl, h1, h2, h3⟩ := hv
  have H3 : Hid _ := h3
  have HM : Hid (∀ l ∈ T, l.length ≤ m) := hm
  obtain ⟨N, hNq⟩ : ∃ N, T.length = N := ⟨_, rfl⟩
  rw [hNq] at h1 hN ⊢
  have HN : Hid (T.length = N) := hNq
  have HM65 : Hid (m ≤ 65536 ∧ N ≤ 100) := ⟨hm65, hN⟩
  clear h3 hm hNq hm65 hN
  go_enter Tryd.func12, Tryd.ntmps12
  go_wp2_with fail
  go_loopg [3, 10] N (fun gk pv iv wr => ∃ (j : Nat) (P : List UInt8) (pa : Option Addr) (pc : Nat), gk + j = N ∧ iv = .int .i64 (j : Int) ∧ pv = .slice pa P.length pc ∧ Hid (FrK m w wr T j pv P))
  case atStart => exact ⟨0, [], none, 0, by omega, rfl, rfl, ⟨rfl, .inl ⟨rfl, rfl⟩, by simp, Below.refl _ _⟩⟩
  case round =>
    obtain ⟨j, P, pa, pc, hj, rfl, rfl, HF⟩ := hrel
    by_cases hlt : j < N
    · have hlt2 : j < T.length := by rw [HN.out]; exact hlt
      obtain ⟨b, off, rfl, hg, u, hu, hru, hub⟩ := H3.out j hlt2
      have hur := (HF.out.be.cell (p := ⟨b, off + j, none⟩) hg).trans hu
      have hrur := hru.below HF.out.be (Nat.le_refl _)
      obtain ⟨q1, q2⟩ := gk_nxt hj hlt
      obtain ⟨lj, hlj⟩ : ∃ lj, T[j] = lj := ⟨_, rfl⟩
      have hlm : lj.length ≤ m := by rw [← hlj]; exact HM.out _ (List.getElem_mem hlt2)
      rw [hlj] at hrur
      obtain ⟨ua, uc, rfl⟩ := hrur.len
      have hfr := rframe_any wr P.length _ lj hrur (fun bb e => Nat.lt_of_lt_of_le (hub bb e) HF.out.be.size) (by have := HM65.out; omega)
      have hstep := fun w4 pv' => frk_step (w4 := w4) (pv' := pv') HF.out hlt2 (by rw [hlj]; exact hlm)
      rw [hlj] at hstep
      obtain ⟨FB, hFB⟩ : ∃ FB, frameB P.length lj = FB := ⟨_, rfl⟩
      have hPl : P.length ≤ 20000000 := by
        have h9 := HF.out.bd
        have h8 := HM65.out
        have : (2 * m + 20) * j ≤ 131092 * 100 := Nat.mul_le_mul (by omega) (by omega)
        omega
      have hFl : FB.length ≤ 131092 := by have := frame_most P.length lj; rw [hFB] at this; have := HM65.out; omega
      rw [hFB] at hfr hstep
      have HST : Hid (∀ (w4 : World) (pv' : Value), OwnN w.heap.size w4 pv' (P ++ FB) → Below w.heap.size w w4 → FrK m w w4 T (j + 1) pv' (P ++ FB)) := hstep
      have HBD : Hid (P.length + FB.length ≤ maxLen ∧ (P.length + FB.length) * 1 ≤ 140737488355328) := by show _ ∧ _; unfold maxLen; omega
      clear hu hru hrur hlj hlm hstep hFB hPl hFl
      go_wp2_with fail
      refine hfr.mono ?_
      rintro e w3 ⟨g3, c3, rfl, o3, hb3⟩
      have HB3 : Hid (Below w.heap.size w w3) := HF.out.be.trans (hb3.mono HF.out.be.size)
      have hrow := ownN_row (HF.out.ow.below hb3 (Nat.le_refl _))
      have hfc := (rd_cells o3.rd).2
      clear hfr hur hb3
      go_wp2_with (first | (at_builtin; refine wpList_append_own _ rfl (.tmp 21) (.tmp 22) 26 rfl w.heap.size 5 i0 (.int .u8 0) 1 1 Tryd.underlying26 hi hz0 hz1 hz2 rfl (by decide) (.slice pa P.length pc) P.length (bv P) rfl hrow ⟨g3, 0, none⟩ FB.length c3 (bv FB) rfl (by rw [bv_length, Nat.mul_one]) hfc (bv_one _) HBD.out.1 HBD.out.2 HB3.out.size ?_; intro v' w4 ho' hgr' hn'; have HO4 : Hid (OwnN w.heap.size w4 v' (P ++ FB)) := ownN_of_rowT ho'; have HB4 : Hid (Below w.heap.size w w4) := HB3.out.grown hgr' HB3.out.size (fun k' e => (hrow.lt k' e).1); obtain ⟨va, vc, hvv⟩ := HO4.out.rd.len; subst hvv; clear ho' hgr' hn') | fail)
      clear hrow hfc
      go_roundg (gk - 1)
      case measure => exact q1
      case rel => exact ⟨j + 1, P ++ FB, va, vc, q2, by go_num, by rw [List.length_append], by have h4 := HST.out _ _ HO4.out HB4.out; rw [List.length_append] at h4; exact h4⟩
    · have hjN : j = N := by omega
      subst hjN
      have HP : Hid (P = allB T []) := by have := HF.out.eq; rw [← HN.out, List.take_length] at this; exact this
      go_wp2
      go_ret
      rw [← HP.out]
      exact ⟨_, rfl, HF.out.ow, HF.out.be⟩

end Go.Proofs.YtmgofohaoppajaaDoor

/- A reel that is cut off, as plain bytes. -/
namespace Go.Proofs.YtmgofohaoppajaaDoor
open Go.RowKit
set_option linter.unusedVariables false

theorem allB_append (xs ys : List (List UInt8)) : ∀ P, allB (xs ++ ys) P = allB ys (allB xs P) := by
  induction xs with
  | nil => intro P; rfl
  | cons x xs ih => intro P; exact ih _

/-- where a record begins -/
def offT (T : List (List UInt8)) (j : Nat) : Nat := (allB (T.take j) []).length

theorem offT_zero (T : List (List UInt8)) : offT T 0 = 0 := by simp [offT, allB]

theorem offT_step (T : List (List UInt8)) (j : Nat) (h : j < T.length) : offT T (j + 1) = offT T j + (frameB (offT T j) T[j]).length := by
  unfold offT
  rw [List.take_succ_eq_append_getElem h, allB_snoc, List.length_append]

theorem offT_lt (T : List (List UInt8)) (j : Nat) (h : j < T.length) : offT T j < offT T (j + 1) := by
  have := frameB_long (offT T j) T[j]
  rw [offT_step T j h]
  omega

theorem offT_mono (T : List (List UInt8)) (i j : Nat) (h : i ≤ j) (hj : j ≤ T.length) : offT T i ≤ offT T j := by
  induction j with
  | zero => have : i = 0 := by omega
            rw [this]; exact Nat.le_refl _
  | succ j ih =>
    by_cases e : i = j + 1
    · rw [e]; exact Nat.le_refl _
    · have := ih (by omega) (by omega)
      have := offT_lt T j (by omega)
      omega

theorem allB_at (T : List (List UInt8)) (k : Nat) : ∃ X, allB T [] = allB (T.take k) [] ++ X := by
  obtain ⟨X, h⟩ := allB_pre (T.drop k) (allB (T.take k) [])
  refine ⟨X, ?_⟩
  rw [← h, ← allB_append, List.take_append_drop]

theorem allB_take (T : List (List UInt8)) (k : Nat) : (allB T []).take (offT T k) = allB (T.take k) [] := by
  obtain ⟨X, h⟩ := allB_at T k
  rw [h]
  unfold offT
  rw [List.take_left]

theorem allB_here (T : List (List UInt8)) (k : Nat) (hk : k < T.length) : ∃ Y, (allB T []).drop (offT T k) = frameB (offT T k) T[k] ++ Y := by
  obtain ⟨X, h⟩ := allB_pre (T.drop (k + 1)) (allB (T.take k) [] ++ frameB (offT T k) T[k])
  refine ⟨X, ?_⟩
  have e : allB T [] = allB (T.take k) [] ++ (frameB (offT T k) T[k] ++ X) := by
    rw [← List.append_assoc, ← h]
    have e2 : T = T.take k ++ (T[k] :: T.drop (k + 1)) := by rw [← List.drop_eq_getElem_cons hk, List.take_append_drop]
    have e3 : allB T [] = allB (T[k] :: T.drop (k + 1)) (allB (T.take k) []) := by
      rw [← allB_append, ← e2]
    rw [e3, allB]
    rfl
  rw [e]
  unfold offT
  rw [List.drop_left]

theorem readG_pre : ∀ (n : Nat) (p : List UInt8) (a : Nat) (l : List (List UInt8)), ∃ X, (readG n p a l).1 = l ++ X := by
  intro n
  induction n with
  | zero => intro p a l; exact ⟨[], by simp [readG]⟩
  | succ n ih =>
    intro p a l
    rw [readG]
    cases h : recAt p a with
    | none => exact ⟨[], by simp⟩
    | some r =>
      obtain ⟨t, e⟩ := r
      obtain ⟨X, hX⟩ := ih p e (l ++ [t])
      exact ⟨[t] ++ X, by simp only; rw [hX, List.append_assoc]⟩

/-- whatever stands behind whole records changes none of them -/
theorem read_behind (ls : List (List UInt8)) (Z : List UInt8) (h : ∀ r ∈ ls, r.length ≤ 65536) : readB (allB ls [] ++ Z) = readG ((allB ls [] ++ Z).length + 1) (allB ls [] ++ Z) (allB ls []).length ls := by
  have := readG_all Z ls [] ((allB ls [] ++ Z).length + 1) [] h (by simp)
  unfold readB
  rw [List.length_nil, List.nil_append] at this
  exact this

theorem read_more (ls : List (List UInt8)) (Z : List UInt8) (h : ∀ r ∈ ls, r.length ≤ 65536) : ∃ X, (readB (allB ls [] ++ Z)).1 = ls ++ X := by
  rw [read_behind ls Z h]
  exact readG_pre _ _ _ _

/-- CUT OFF ANYWHERE IT HAS WHAT LIES WHOLE AHEAD OF THE CUT -/
theorem read_cut (T : List (List UInt8)) (cut k : Nat) (h : ∀ r ∈ T, r.length ≤ 65536) (hc : cut ≤ (allB T []).length) (hk : k ≤ T.length) (hl : offT T k ≤ cut) (hg : ∀ j, k < j → j ≤ T.length → cut < offT T j) :
    readB ((allB T []).take cut) = (T.take k, offT T k) := by
  obtain ⟨P, hP⟩ : ∃ P, allB T [] = P := ⟨_, rfl⟩
  have htk := allB_take T k
  rw [hP] at htk hc ⊢
  have hspl : P.take cut = allB (T.take k) [] ++ (P.take cut).drop (offT T k) := by
    rw [← htk]
    have : (P.take cut).take (offT T k) = P.take (offT T k) := by rw [List.take_take, Nat.min_eq_left hl]
    rw [← this, List.take_append_drop]
  have hrd := read_behind (T.take k) ((P.take cut).drop (offT T k)) (fun r hr => h r (List.mem_of_mem_take hr))
  rw [← hspl] at hrd
  rw [hrd]
  have hcl : (P.take cut).length = cut := by rw [List.length_take]; omega
  rw [readG_step (by omega)]
  have hnone : recAt (P.take cut) (allB (T.take k) []).length = none := by
    cases hr : recAt (P.take cut) (allB (T.take k) []).length with
    | none => rfl
    | some r =>
      exfalso
      obtain ⟨t, nx⟩ := r
      obtain ⟨s1, s2, s3, s4⟩ := recAt_some hr
      have ek : (allB (T.take k) []).length = offT T k := rfl
      rw [ek] at s2 s3
      rw [hcl] at s4
      by_cases hkl : k = T.length
      · have := frameB_long (offT T k) t
        have e1 : offT T k = P.length := by unfold offT; rw [hkl, List.take_length, hP]
        omega
      · have hkl' : k < T.length := by omega
        obtain ⟨Y, hY⟩ := allB_here T k hkl'
        rw [hP] at hY
        have h1 := recAt_frame P Y T[k] (offT T k) (h _ (List.getElem_mem hkl')) hY
        have hd : P.drop (offT T k) = frameB (offT T k) t ++ ((P.take cut).drop nx ++ P.drop cut) := by
          rw [← List.append_assoc, ← s3]
          have e4 : P = P.take cut ++ P.drop cut := (List.take_append_drop cut P).symm
          rw [show P.drop (offT T k) = (P.take cut ++ P.drop cut).drop (offT T k) by rw [← e4], List.drop_append_of_le_length (by rw [hcl]; exact hl)]
        have h2 := recAt_frame P _ t (offT T k) s1 hd
        rw [h1] at h2
        cases h2
        have h3 := hg (k + 1) (by omega) (by omega)
        rw [offT_step T k hkl'] at h3
        omega
  rw [hnone]
  rfl

theorem reelN_bd (p : List UInt8) : (readB p).2 ≤ reelN p ∧ reelN p ≤ p.length := by
  have := (readG_le (p.length + 1) p 0 [] (Nat.zero_le _)).2
  unfold reelN
  unfold readB at *
  split
  · omega
  · omega

theorem OwnT.takeRd {B : Nat} {w : World} {a : Option Addr} {n c : Nat} {ls : List (List UInt8)} (h : OwnT B w (.slice a n c) ls) (k : Nat) (hk : k ≤ ls.length) : RdL w (.slice a k c) (ls.take k) := by
  refine (h.tex.take k hk).rd ?_
  intro h0
  have hk0 : k = 0 := by
    have := congrArg List.length h0
    rw [List.length_take] at this
    simp at this
    rcases this with e | e
    · exact e
    · rw [e] at hk; simpa using hk
  subst hk0
  obtain ⟨cs, hr, _⟩ := h
  rcases hr.2 with ⟨e, _⟩ | ⟨g, cap, cur, e, _⟩
  · cases e; exact .inl rfl
  · cases e; exact .inr ⟨g, 0, _, rfl⟩

end Go.Proofs.YtmgofohaoppajaaDoor

/- The sum tells texts of one length apart: one step loses nothing. -/
namespace Go.Proofs.YtmgofohaoppajaaDoor.Crc

theorem stp_top (s : Nat) (h : s < 4294967296) : (stp s).testBit 31 = s.testBit 0 := by
  rw [stp_bit]
  have e1 : s.testBit (31 + 1) = false := Nat.testBit_lt_two_pow (Nat.lt_of_lt_of_le h (by decide))
  have e2 : (2197175160 : Nat).testBit 31 = true := by decide +kernel
  rw [e1, e2]; simp
theorem stp_inj (s t : Nat) (hs : s < 4294967296) (ht : t < 4294967296) (h : stp s = stp t) : s = t := by
  have h0 : s.testBit 0 = t.testBit 0 := by rw [← stp_top s hs, ← stp_top t ht, h]
  apply Nat.eq_of_testBit_eq
  intro i
  cases i with
  | zero => exact h0
  | succ i =>
    have h1 := stp_bit s i
    have h2 := stp_bit t i
    rw [h, h2, h0] at h1
    generalize s.testBit (i + 1) = A at h1 ⊢
    generalize t.testBit (i + 1) = B at h1 ⊢
    generalize (t.testBit 0 && Nat.testBit 2197175160 i) = C at h1
    cases A <;> cases B <;> cases C <;> simp_all
theorem iter_lt (k s : Nat) (h : s < 4294967296) : iter k s < 4294967296 := by
  induction k generalizing s with
  | zero => exact h
  | succ k ih => exact ih _ (stp_lt s h)
theorem iter_inj (k s t : Nat) (hs : s < 4294967296) (ht : t < 4294967296) (h : iter k s = iter k t) : s = t := by
  induction k generalizing s t with
  | zero => exact h
  | succ k ih => exact stp_inj s t hs ht (ih _ _ (stp_lt s hs) (stp_lt t ht) h)
theorem byt_inj (s t b c : Nat) (hs : s < 4294967296) (ht : t < 4294967296) (hb : b < 256) (hc : c < 256) (h : byt s b = byt t c) : s ^^^ b = t ^^^ c := by
  unfold byt at h
  have h1 := xor_lt hs (show b < 4294967296 by omega)
  have h2 := xor_lt ht (show c < 4294967296 by omega)
  have e1 := nb_iter (nb (s ^^^ b))
  have e2 := nb_iter (nb (t ^^^ c))
  rw [e1, e2] at h
  have h3 := iter_inj 4 _ _ (nb_lt _ h1) (nb_lt _ h2) h
  rw [nb_iter, nb_iter] at h3
  exact iter_inj 4 _ _ h1 h2 h3
theorem on_inj (l : List UInt8) (s t : Nat) (hs : s < 4294967296) (ht : t < 4294967296) (h : on s l = on t l) : s = t := by
  induction l generalizing s t with
  | nil => exact h
  | cons b l ih =>
    have hb : b.toNat < 256 := b.toNat_lt
    have := ih (byt s b.toNat) (byt t b.toNat) (byt_lt _ _ hs hb) (byt_lt _ _ ht hb) h
    have h2 := byt_inj s t b.toNat b.toNat hs ht hb hb this
    have h3 : (s ^^^ b.toNat) ^^^ b.toNat = (t ^^^ b.toNat) ^^^ b.toNat := by rw [h2]
    simpa [Nat.xor_assoc] using h3
theorem xor_left (s b c : Nat) (h : s ^^^ b = s ^^^ c) : b = c := by
  have : s ^^^ (s ^^^ b) = s ^^^ (s ^^^ c) := by rw [h]
  simpa [← Nat.xor_assoc] using this
/-- one byte -/
theorem sum_byte (l m : List UInt8) (x y : UInt8) (h : sum (l ++ x :: m) = sum (l ++ y :: m)) : x = y := by
  have h1 := on_lt 4294967295 (l ++ x :: m) (by omega)
  have h2 := on_lt 4294967295 (l ++ y :: m) (by omega)
  have e : on 4294967295 (l ++ x :: m) = on 4294967295 (l ++ y :: m) := by unfold sum at h; omega
  rw [on_append, on_append] at e
  have hl := on_lt 4294967295 l (by omega)
  have hx : x.toNat < 256 := x.toNat_lt
  have hy : y.toNat < 256 := y.toNat_lt
  have h3 := on_inj m (byt (on 4294967295 l) x.toNat) (byt (on 4294967295 l) y.toNat) (byt_lt _ _ hl hx) (byt_lt _ _ hl hy) e
  have h4 := byt_inj _ _ _ _ hl hl hx hy h3
  exact UInt8.toNat_inj.1 (xor_left _ _ _ h4)
theorem sum_set (l : List UInt8) (i : Nat) (hi : i < l.length) (y : UInt8) (h : sum (l.set i y) = sum l) : y = l[i] := by
  have e1 : l = l.take i ++ l[i] :: l.drop (i + 1) := by simp
  have e2 : l.set i y = l.take i ++ y :: l.drop (i + 1) := by rw [List.set_eq_take_append_cons_drop]; simp [hi]
  rw [e2] at h
  conv at h => rhs; rw [e1]
  exact sum_byte _ _ _ _ h

end Go.Proofs.YtmgofohaoppajaaDoor.Crc

/- A reel of which one byte is another one, as plain bytes. -/
namespace Go.Proofs.YtmgofohaoppajaaDoor
open Go.RowKit
set_option linter.unusedVariables false

/-- the pieces of a record behind its first one -/
def pcsG : Nat → List UInt8 → List (UInt8 × List UInt8)
  | 0, l => [(4, l)]
  | n + 1, l => if l.length ≤ 57 then [(4, l)] else (3, l.take 57) :: pcsG n (l.drop 57)

/-- the pieces of a record, with room for so many bytes in the first one -/
def pcsF (r : Nat) (l : List UInt8) : List (UInt8 × List UInt8) := if l.length ≤ r then [(1, l)] else (2, l.take r) :: pcsG (l.drop r).length (l.drop r)

/-- the pieces of records from a place on -/
def pcsAll : Nat → List (List UInt8) → List (UInt8 × List UInt8)
  | _, [] => []
  | a, r :: ls => pcsF (leftN (a + gapN a) - 7) r ++ pcsAll (a + (frameB a r).length) ls

/-- a byte that tells in no piece how many bytes it has -/
def okK : Nat → List (UInt8 × List UInt8) → Nat → Prop
  | _, [], _ => True
  | a, (_, t) :: ps, k => (k ≠ a + gapN a + 4 ∧ k ≠ a + gapN a + 5) ∧ okK (a + gapN a + 7 + t.length) ps k

theorem tailB_app : ∀ (xs ys : List (UInt8 × List UInt8)) (a : Nat), tailB a (xs ++ ys) = tailB a xs ++ tailB (a + (tailB a xs).length) ys := by
  intro xs
  induction xs with
  | nil => intro ys a; simp [tailB]
  | cons x xs ih =>
    intro ys a
    obtain ⟨k, t⟩ := x
    simp only [List.cons_append, tailB]
    rw [ih]
    simp only [List.append_assoc, List.length_append, List.length_replicate, pcB_length]
    rw [show a + gapN a + 7 + t.length + (tailB (a + gapN a + 7 + t.length) xs).length = a + (gapN a + (7 + t.length + (tailB (a + gapN a + 7 + t.length) xs).length)) by omega]

theorem tailOk_app : ∀ (xs ys : List (UInt8 × List UInt8)) (a : Nat), tailOk a xs → tailOk (a + (tailB a xs).length) ys → tailOk a (xs ++ ys) := by
  intro xs
  induction xs with
  | nil => intro ys a _ h; simpa [tailB] using h
  | cons x xs ih =>
    intro ys a h1 h2
    obtain ⟨k, t⟩ := x
    refine ⟨h1.1, h1.2.1, ih ys _ h1.2.2 ?_⟩
    simp only [tailB, List.length_append, List.length_replicate, pcB_length] at h2
    rw [show a + gapN a + 7 + t.length + (tailB (a + gapN a + 7 + t.length) xs).length = a + (gapN a + (7 + t.length + (tailB (a + gapN a + 7 + t.length) xs).length)) by omega]
    exact h2

theorem okK_app : ∀ (xs ys : List (UInt8 × List UInt8)) (a k : Nat), okK a (xs ++ ys) k → okK a xs k ∧ okK (a + (tailB a xs).length) ys k := by
  intro xs
  induction xs with
  | nil => intro ys a k h; exact ⟨trivial, by simpa [tailB] using h⟩
  | cons x xs ih =>
    intro ys a k h
    obtain ⟨kd, t⟩ := x
    obtain ⟨h1, h2⟩ := ih ys _ k h.2
    refine ⟨⟨h.1, h1⟩, ?_⟩
    simp only [tailB, List.length_append, List.length_replicate, pcB_length]
    rw [show a + gapN a + 7 + t.length + (tailB (a + gapN a + 7 + t.length) xs).length = a + (gapN a + (7 + t.length + (tailB (a + gapN a + 7 + t.length) xs).length)) by omega] at h2
    exact h2

theorem tailB_one {a : Nat} (h : 7 ≤ leftN a) (k : UInt8) (t : List UInt8) (ps : List (UInt8 × List UInt8)) : tailB a ((k, t) :: ps) = pcB k t ++ tailB (a + 7 + t.length) ps := by
  rw [tailB, gap_none h]
  rfl

theorem tailOk_one {a : Nat} (h : 7 ≤ leftN a) (k : UInt8) (t : List UInt8) (ps : List (UInt8 × List UInt8)) (hk : 1 ≤ k.toNat ∧ k.toNat ≤ 4) (ht : 7 + t.length ≤ leftN a) (hp : tailOk (a + 7 + t.length) ps) : tailOk a ((k, t) :: ps) := by
  refine ⟨hk, ?_, ?_⟩
  · rw [gap_none h]; exact ht
  · rw [gap_none h]; exact hp

theorem left_next {a : Nat} (h : leftN a = 64) : leftN (a + 7 + 57) = 64 := by unfold leftN at *; omega

theorem pcsG_tail : ∀ (n : Nat) (l : List UInt8) (a : Nat), l.length ≤ n → leftN a = 64 → tailB a (pcsG n l) = frG n l ∧ tailOk a (pcsG n l) := by
  intro n
  induction n with
  | zero =>
    intro l a hl ha
    rw [pcsG, frG]
    refine ⟨?_, tailOk_one (by omega) _ _ _ (by decide) (by omega) trivial⟩
    rw [tailB_one (by omega), tailB, List.append_nil]
  | succ n ih =>
    intro l a hl ha
    rw [pcsG, frG]
    by_cases h : l.length ≤ 57
    · rw [if_pos h, if_pos h]
      refine ⟨?_, tailOk_one (by omega) _ _ _ (by decide) (by omega) trivial⟩
      rw [tailB_one (by omega), tailB, List.append_nil]
    · rw [if_neg h, if_neg h]
      have ht : (l.take 57).length = 57 := by rw [List.length_take]; omega
      obtain ⟨h1, h2⟩ := ih (l.drop 57) (a + 7 + 57) (by rw [List.length_drop]; omega) (left_next ha)
      refine ⟨?_, tailOk_one (by omega) _ _ _ (by decide) (by omega) (by rw [ht]; exact h2)⟩
      rw [tailB_one (by omega), ht, h1]

theorem left_next2 {a r : Nat} (h : 7 ≤ leftN a) (hr : r = leftN a - 7) : leftN (a + 7 + r) = 64 := by unfold leftN at *; omega

theorem pcsF_tail (a : Nat) (l : List UInt8) : tailB a (pcsF (leftN (a + gapN a) - 7) l) = frameB a l ∧ tailOk a (pcsF (leftN (a + gapN a) - 7) l) := by
  have hg := gap_left a
  have hb := left_bd (a + gapN a)
  unfold frameB pcsF frF
  obtain ⟨r, hr⟩ : ∃ r, leftN (a + gapN a) - 7 = r := ⟨_, rfl⟩
  rw [hr]
  by_cases h : l.length ≤ r
  · rw [if_pos h, if_pos h]
    exact ⟨by rw [tailB, tailB, List.append_nil], ⟨by decide, by omega, trivial⟩⟩
  · rw [if_neg h, if_neg h]
    have ht : (l.take r).length = r := by rw [List.length_take]; omega
    obtain ⟨h1, h2⟩ := pcsG_tail _ (l.drop r) (a + gapN a + 7 + r) (Nat.le_refl _) (left_next2 hg hr.symm)
    refine ⟨?_, ⟨by decide, by omega, by rw [ht]; exact h2⟩⟩
    rw [tailB, ht, h1]
    rfl

theorem pcsAll_tail : ∀ (ls : List (List UInt8)) (P : List UInt8), ∃ X, allB ls P = P ++ X ∧ X = tailB P.length (pcsAll P.length ls) ∧ tailOk P.length (pcsAll P.length ls) := by
  intro ls
  induction ls with
  | nil => intro P; exact ⟨[], by simp [allB], rfl, trivial⟩
  | cons r ls ih =>
    intro P
    obtain ⟨X, h1, h2, h3⟩ := ih (P ++ frameB P.length r)
    obtain ⟨g1, g2⟩ := pcsF_tail P.length r
    rw [List.length_append] at h2 h3
    refine ⟨frameB P.length r ++ X, by rw [allB, h1, List.append_assoc], ?_, ?_⟩
    · rw [pcsAll, tailB_app, g1, h2]
    · rw [pcsAll]
      exact tailOk_app _ _ _ g2 (by rw [g1]; exact h3)

theorem pcsAll_at (T : List (List UInt8)) (k : Nat) : ∀ (j : Nat), j < T.length → okK 0 (pcsAll 0 T) k → ∃ (h : j < T.length), okK (offT T j) (pcsF (leftN (offT T j + gapN (offT T j)) - 7) T[j]) k := by
  have gen : ∀ (ls : List (List UInt8)) (P : List UInt8) (j : Nat) (hj : j < ls.length), okK P.length (pcsAll P.length ls) k → okK (allB (ls.take j) P).length (pcsF (leftN ((allB (ls.take j) P).length + gapN (allB (ls.take j) P).length) - 7) ls[j]) k := by
    intro ls
    induction ls with
    | nil => intro P j hj; simp at hj
    | cons r ls ih =>
      intro P j hj h
      rw [pcsAll] at h
      obtain ⟨h1, h2⟩ := okK_app _ _ _ _ h
      rw [(pcsF_tail P.length r).1] at h2
      cases j with
      | zero => simpa [allB] using h1
      | succ j =>
        have := ih (P ++ frameB P.length r) j (by simpa using hj) (by rw [List.length_append]; exact h2)
        simpa [allB] using this
  intro j hj h
  exact ⟨hj, gen T [] j hj h⟩

theorem set_ne_low {s0 s1 s2 s3 r0 r1 r2 r3 : UInt8} (h : Crc.low [s0, s1, s2, s3] = Crc.low [r0, r1, r2, r3]) : s0 = r0 ∧ s1 = r1 ∧ s2 = r2 ∧ s3 = r3 := by
  have h1 := Crc.four_low s0 s1 s2 s3
  rw [h, Crc.four_low] at h1
  simp at h1
  exact ⟨h1.1.symm, h1.2.1.symm, h1.2.2.1.symm, h1.2.2.2.symm⟩

theorem pcAt_bad {p : List UInt8} {a : Nat} {s0 s1 s2 s3 n0 n1 k : UInt8} {r : List UInt8} (hq : (p.drop a).take (leftN a) = s0 :: s1 :: s2 :: s3 :: n0 :: n1 :: k :: r) (h : ¬ Crc.low [s0, s1, s2, s3] = Crc.mask (Crc.sum (k :: r.take (n0.toNat + n1.toNat * 256)))) : pcAt p a = none := by
  rw [pcAt_eq hq, if_neg (fun hc => h hc.2)]

/-- a piece of which one byte is another one is none -/
theorem pcAt_spoilt (p Y t : List UInt8) (a i : Nat) (k v : UInt8) (hd : p.drop a = (pcB k t ++ Y).set i v) (ht : 7 + t.length ≤ leftN a) (hi : i < 7 + t.length) (h4 : i ≠ 4) (h5 : i ≠ 5) (hv : (pcB k t ++ Y)[i]? ≠ some v) : pcAt p a = none := by
  obtain ⟨s0, s1, s2, s3, e4, elow⟩ := four_low_sum (Crc.mask (Crc.sum (k :: t))) (Crc.mask_lt _)
  have hl := left_bd a
  obtain ⟨m, hm⟩ : ∃ m, leftN a = m + 7 := ⟨leftN a - 7, by omega⟩
  have hn : (UInt8.ofNat (t.length % 256)).toNat + (UInt8.ofNat (t.length / 256 % 256)).toNat * 256 = t.length := by
    simp
    omega
  have htk : ∀ u : List UInt8, u.length = t.length → ((u ++ Y).take m).take t.length = u := fun u hu => by
    rw [List.take_take, Nat.min_eq_left (by omega), ← hu, List.take_left]
  unfold pcB at hd hv
  rw [e4] at hd hv
  obtain ⟨b0, hb0⟩ : ∃ b0, UInt8.ofNat (t.length % 256) = b0 := ⟨_, rfl⟩
  obtain ⟨b1, hb1⟩ : ∃ b1, UInt8.ofNat (t.length / 256 % 256) = b1 := ⟨_, rfl⟩
  rw [hb0, hb1] at hd hn hv
  simp only [List.cons_append, List.nil_append] at hd hv
  match i, hi, h4, h5, hd, hv with
  | 0, _, _, _, hd, hv =>
    refine pcAt_bad (show (p.drop a).take (leftN a) = v :: s1 :: s2 :: s3 :: b0 :: b1 :: k :: (t ++ Y).take m by rw [hd, hm]; rfl) ?_
    rw [hn, htk t rfl, ← elow]
    intro h
    obtain ⟨e, _⟩ := set_ne_low h
    rw [e] at hv
    simp at hv
  | 1, _, _, _, hd, hv =>
    refine pcAt_bad (show (p.drop a).take (leftN a) = s0 :: v :: s2 :: s3 :: b0 :: b1 :: k :: (t ++ Y).take m by rw [hd, hm]; rfl) ?_
    rw [hn, htk t rfl, ← elow]
    intro h
    obtain ⟨_, e, _⟩ := set_ne_low h
    rw [e] at hv
    simp at hv
  | 2, _, _, _, hd, hv =>
    refine pcAt_bad (show (p.drop a).take (leftN a) = s0 :: s1 :: v :: s3 :: b0 :: b1 :: k :: (t ++ Y).take m by rw [hd, hm]; rfl) ?_
    rw [hn, htk t rfl, ← elow]
    intro h
    obtain ⟨_, _, e, _⟩ := set_ne_low h
    rw [e] at hv
    simp at hv
  | 3, _, _, _, hd, hv =>
    refine pcAt_bad (show (p.drop a).take (leftN a) = s0 :: s1 :: s2 :: v :: b0 :: b1 :: k :: (t ++ Y).take m by rw [hd, hm]; rfl) ?_
    rw [hn, htk t rfl, ← elow]
    intro h
    obtain ⟨_, _, _, e⟩ := set_ne_low h
    rw [e] at hv
    simp at hv
  | 4, _, h4, _, _, _ => exact absurd rfl h4
  | 5, _, _, h5, _, _ => exact absurd rfl h5
  | 6, _, _, _, hd, hv =>
    refine pcAt_bad (show (p.drop a).take (leftN a) = s0 :: s1 :: s2 :: s3 :: b0 :: b1 :: v :: (t ++ Y).take m by rw [hd, hm]; rfl) ?_
    rw [hn, htk t rfl, elow]
    intro h
    have h1 := Crc.mask_inj _ _ (Crc.sum_lt _) (Crc.sum_lt _) h
    have h2 := Crc.sum_byte [] t k v h1
    rw [h2] at hv
    simp at hv
  | j + 7, hi, _, _, hd, hv =>
    have hj : j < t.length := by omega
    have hset : (t ++ Y).set j v = t.set j v ++ Y := List.set_append_left _ _ hj
    refine pcAt_bad (show (p.drop a).take (leftN a) = s0 :: s1 :: s2 :: s3 :: b0 :: b1 :: k :: (t.set j v ++ Y).take m by rw [hd, hm, ← hset]; rfl) ?_
    rw [hn, htk (t.set j v) (by simp), elow]
    intro h
    have h1 := Crc.mask_inj _ _ (Crc.sum_lt _) (Crc.sum_lt _) h
    have h2 := Crc.sum_set (k :: t) (j + 1) (by simpa using hj) v (by rw [List.set_cons_succ]; exact h1.symm)
    apply hv
    rw [h2, List.getElem_cons_succ]
    simp only [List.getElem?_cons_succ]
    rw [List.getElem?_append_left hj, List.getElem?_eq_getElem hj]

theorem recG_none {n : Nat} {p : List UInt8} {nx : Nat} {t : List UInt8} (hn : p.length < n + nx) (h : pcAt p nx = none) : recG n p nx t = none := by
  rw [recG_step hn, h]

theorem set_behind {xs ys : List UInt8} {i : Nat} {v : UInt8} (h : xs.length ≤ i) : (xs ++ ys).set i v = xs ++ ys.set (i - xs.length) v := by
  rw [List.set_append, if_neg (by omega)]

theorem spoilt_G (Y p : List UInt8) (v : UInt8) : ∀ (n : Nat) (l : List UInt8) (a i N : Nat) (t0 : List UInt8), l.length ≤ n → leftN a = 64 → p.length < N + a → p.drop a = (frG n l ++ Y).set i v → i < (frG n l).length → (frG n l ++ Y)[i]? ≠ some v → okK a (pcsG n l) (a + i) → recG N p a t0 = none := by
  intro n
  induction n with
  | zero =>
    intro l a i N t0 hl ha hN hd hi hv hk
    rw [frG] at hd hi hv
    rw [pcsG] at hk
    have hk1 := hk.1
    rw [gap_none (by omega), pcB_length] at *
    exact recG_none hN (pcAt_spoilt p Y l a i 4 v hd (by omega) hi (by omega) (by omega) hv)
  | succ n ih =>
    intro l a i N t0 hl ha hN hd hi hv hk
    have hg := gap_none (a := a) (by omega)
    rw [frG] at hd hi hv
    rw [pcsG] at hk
    by_cases h : l.length ≤ 57
    · rw [if_pos h] at hd hi hv hk
      have hk1 := hk.1
      rw [hg] at hk1
      rw [pcB_length] at hi
      exact recG_none hN (pcAt_spoilt p Y l a i 4 v hd (by omega) hi (by omega) (by omega) hv)
    · rw [if_neg h] at hd hi hv hk
      have hk1 := hk.1
      have hk2 := hk.2
      rw [hg] at hk1 hk2
      have ht : (l.take 57).length = 57 := by rw [List.length_take]; omega
      have hpl : (pcB 3 (l.take 57)).length = 64 := by rw [pcB_length, ht]
      rw [ht] at hk2
      rw [List.append_assoc] at hd hv
      by_cases hi64 : i < 64
      · exact recG_none hN (pcAt_spoilt p _ (l.take 57) a i 3 v hd (by omega) (by omega) (by omega) (by omega) hv)
      · rw [set_behind (by omega), hpl] at hd
        rw [List.length_append, hpl] at hi
        rw [List.getElem?_append_right (by omega), hpl] at hv
        have hthere := pcAt_there p _ (l.take 57) a 3 hd (by decide) (by omega)
        rw [recG_step hN, hthere]
        simp only
        rw [if_neg (by decide), ht]
        refine ih (l.drop 57) (a + 7 + 57) (i - 64) N _ (by rw [List.length_drop]; omega) (left_next ha) (by omega) ?_ (by omega) hv ?_
        · rw [show a + 7 + 57 = a + 64 by omega, ← List.drop_drop, hd, List.drop_left' hpl]
        · rw [show a + 7 + 57 + (i - 64) = a + i by omega]
          exact hk2

theorem spoilt_F (Y p l : List UInt8) (v : UInt8) (a i N : Nat) (hN : p.length < N + (a + gapN a)) (hd : p.drop (a + gapN a) = (frF (leftN (a + gapN a) - 7) l ++ Y).set i v) (hi : i < (frF (leftN (a + gapN a) - 7) l).length) (hv : (frF (leftN (a + gapN a) - 7) l ++ Y)[i]? ≠ some v) (hk : okK a (pcsF (leftN (a + gapN a) - 7) l) (a + gapN a + i)) : recG N p (a + gapN a) [] = none := by
  have hg := gap_left a
  have hb := left_bd (a + gapN a)
  obtain ⟨b, hbq⟩ : ∃ b, a + gapN a = b := ⟨_, rfl⟩
  unfold pcsF at hk
  unfold frF at hd hi hv
  rw [hbq] at hg hb hN hd hi hv hk ⊢
  obtain ⟨r, hr⟩ : ∃ r, leftN b - 7 = r := ⟨_, rfl⟩
  rw [hr] at hd hi hv hk
  by_cases h : l.length ≤ r
  · rw [if_pos h] at hd hi hv hk
    have hk1 := hk.1
    rw [hbq] at hk1
    rw [pcB_length] at hi
    exact recG_none hN (pcAt_spoilt p Y l b i 1 v hd (by omega) hi (by omega) (by omega) hv)
  · rw [if_neg h] at hd hi hv hk
    have hk1 := hk.1
    have hk2 := hk.2
    rw [hbq] at hk1 hk2
    have ht : (l.take r).length = r := by rw [List.length_take]; omega
    have hpl : (pcB 2 (l.take r)).length = 7 + r := by rw [pcB_length, ht]
    rw [ht] at hk2
    rw [List.append_assoc] at hd hv
    by_cases hir : i < 7 + r
    · exact recG_none hN (pcAt_spoilt p _ (l.take r) b i 2 v hd (by omega) (by omega) (by omega) (by omega) hv)
    · rw [set_behind (by omega), hpl] at hd
      rw [List.length_append, hpl] at hi
      rw [List.getElem?_append_right (by omega), hpl] at hv
      have hthere := pcAt_there p _ (l.take r) b 2 hd (by decide) (by omega)
      rw [recG_step hN, hthere]
      simp only
      rw [if_neg (by decide), ht]
      refine spoilt_G Y p v _ (l.drop r) (b + 7 + r) (i - (7 + r)) N _ (Nat.le_refl _) (left_next2 hg hr.symm) (by omega) ?_ ?_ hv ?_
      · rw [Nat.add_assoc, ← List.drop_drop, hd, List.drop_left' hpl]
        rfl
      · have : (frR (l.drop r)).length = (frG (l.drop r).length (l.drop r)).length := rfl
        omega
      · rw [show b + 7 + r + (i - (7 + r)) = b + i by omega]
        exact hk2

theorem left7_frame (a : Nat) (l : List UInt8) : gapN a + 7 ≤ (frameB a l).length := by
  unfold frameB frF
  rw [List.length_append, List.length_replicate]
  split
  · rw [pcB_length]; omega
  · rw [List.length_append, pcB_length]; omega

/-- A REEL OF WHICH ONE BYTE IS ANOTHER ONE HAS THE RECORDS AHEAD OF IT -/
theorem read_spoilt (T : List (List UInt8)) (k wh : Nat) (v : UInt8) (h : ∀ r ∈ T, r.length ≤ 65536) (hwh : wh < T.length) (h1 : offT T wh ≤ k) (h2 : k < offT T (wh + 1)) (hv : (allB T [])[k]? ≠ some v) (hok : okK 0 (pcsAll 0 T) k) :
    readB ((allB T []).set k v) = (T.take wh, offT T wh) ∧ reelN ((allB T []).set k v) ≤ k := by
  obtain ⟨_, hok2⟩ := pcsAll_at T k wh hwh hok
  obtain ⟨o, ho⟩ : ∃ o, offT T wh = o := ⟨_, rfl⟩
  have hst := offT_step T wh hwh
  obtain ⟨Y, hY⟩ := allB_here T wh hwh
  have htk := allB_take T wh
  obtain ⟨l, hl⟩ : ∃ l, T[wh] = l := ⟨_, rfl⟩
  have hl65 : l.length ≤ 65536 := by rw [← hl]; exact h _ (List.getElem_mem hwh)
  rw [hl] at hst hY hok2
  rw [ho] at hst hY htk hok2 h1 ⊢
  have hlen0 : (allB (T.take wh) []).length = o := by rw [← ho]; rfl
  obtain ⟨P, hP⟩ : ∃ P, allB T [] = P := ⟨_, rfl⟩
  rw [hP] at hv hY htk ⊢
  obtain ⟨A, hA⟩ : ∃ A, allB (T.take wh) [] = A := ⟨_, rfl⟩
  rw [hA] at htk hlen0
  have hPA : P = A ++ (frameB o l ++ Y) := by rw [← hY, ← htk, List.take_append_drop]
  have hg := left7_frame o l
  have hkF : k - o < (frameB o l).length := by omega
  have hset : P.set k v = A ++ (frameB o l ++ Y).set (k - o) v := by
    rw [hPA, set_behind (by omega), hlen0]
  have hv2 : (frameB o l ++ Y)[k - o]? ≠ some v := by
    rw [hPA, List.getElem?_append_right (by omega), hlen0] at hv
    exact hv
  have hd : (P.set k v).drop o = (frameB o l ++ Y).set (k - o) v := by rw [hset, List.drop_left' hlen0]
  have hnone : recAt (P.set k v) o = none := by
    by_cases hgap : k < o + gapN o
    · cases hr : recAt (P.set k v) o with
      | none => rfl
      | some r =>
        exfalso
        obtain ⟨t', nx⟩ := r
        obtain ⟨_, _, s3, _⟩ := recAt_some hr
        rw [hd] at s3
        have e1 : ((frameB o l ++ Y).set (k - o) v)[k - o]? = some v := by
          rw [List.getElem?_set_self (by rw [List.length_append]; omega)]
        rw [s3] at e1
        have z1 : ∀ (x Z : List UInt8), (frameB o x ++ Z)[k - o]? = some 0 := fun x Z => by
          unfold frameB
          rw [List.append_assoc, List.getElem?_append_left (by rw [List.length_replicate]; omega), List.getElem?_replicate, if_pos (by omega)]
        rw [z1] at e1
        apply hv2
        rw [z1]
        exact e1
    · apply recAt_none
      have hd2 : (P.set k v).drop (o + gapN o) = (frF (leftN (o + gapN o) - 7) l ++ Y).set (k - o - gapN o) v := by
        rw [← List.drop_drop, hd]
        unfold frameB
        rw [List.append_assoc, set_behind (by simp; omega), List.drop_left' (by simp)]
        simp
      refine spoilt_F Y (P.set k v) l v o (k - o - gapN o) _ (by omega) hd2 ?_ ?_ ?_
      · have : (frameB o l).length = gapN o + (frF (leftN (o + gapN o) - 7) l).length := by unfold frameB; simp
        omega
      · unfold frameB at hv2
        rw [List.append_assoc, List.getElem?_append_right (by simp; omega)] at hv2
        simpa using hv2
      · rw [show o + gapN o + (k - o - gapN o) = k by omega]
        exact hok2
  have hrd := read_behind (T.take wh) ((frameB o l ++ Y).set (k - o) v) (fun r hr => h r (List.mem_of_mem_take hr))
  rw [hA, hlen0, ← hset, readG_step (by omega), hnone] at hrd
  refine ⟨hrd, ?_⟩
  unfold reelN
  rw [hrd]
  simp only
  rw [if_neg]
  · exact h1
  · rintro ⟨e, _⟩
    rw [hd, List.length_set, List.length_append] at e
    omega

end Go.Proofs.YtmgofohaoppajaaDoor

/- A reel cut off, whose last byte is another one, as plain bytes. -/
namespace Go.Proofs.YtmgofohaoppajaaDoor
open Go.RowKit
set_option linter.unusedVariables false

theorem len_two {n m : Nat} (hn : n < 65536) (hm : m < 65536) (h0 : UInt8.ofNat (n % 256) = UInt8.ofNat (m % 256)) (h1 : UInt8.ofNat (n / 256 % 256) = UInt8.ofNat (m / 256 % 256)) : n = m := by
  have a0 := congrArg UInt8.toNat h0
  have a1 := congrArg UInt8.toNat h1
  simp at a0 a1
  omega

/-- a piece's bytes say which it is, whatever stands behind them -/
theorem pcB_inj {k k' : UInt8} {t t' A B : List UInt8} (ht : t.length < 65536) (ht' : t'.length < 65536) (h : pcB k t ++ A = pcB k' t' ++ B) : k = k' ∧ t = t' ∧ A = B := by
  obtain ⟨s0, s1, s2, s3, e4, _⟩ := four_low_sum (Crc.mask (Crc.sum (k :: t))) (Crc.mask_lt _)
  obtain ⟨r0, r1, r2, r3, e5, _⟩ := four_low_sum (Crc.mask (Crc.sum (k' :: t'))) (Crc.mask_lt _)
  unfold pcB at h
  rw [e4, e5] at h
  simp only [List.cons_append, List.nil_append, List.cons.injEq] at h
  obtain ⟨_, _, _, _, h4, h5, h6, h7⟩ := h
  have hl := len_two ht ht' h4 h5
  obtain ⟨h8, h9⟩ := List.append_inj h7 hl
  exact ⟨h6, h8, h9⟩

/-- two pieces that begin with the same bytes: the last byte of the first one is that of the second -/
theorem pcB_last {k k' u v : UInt8} {t t' Z Y Y' : List UInt8} (ht : t.length < 65536) (ht' : t'.length < 65536) (h1 : pcB k t = Z ++ [v]) (h2 : pcB k' t' ++ Y' = Z ++ u :: Y) : u = v := by
  obtain ⟨s0, s1, s2, s3, e4, el⟩ := four_low_sum (Crc.mask (Crc.sum (k :: t))) (Crc.mask_lt _)
  obtain ⟨r0, r1, r2, r3, e5, el'⟩ := four_low_sum (Crc.mask (Crc.sum (k' :: t'))) (Crc.mask_lt _)
  unfold pcB at h1 h2
  rw [e4] at h1
  rw [e5] at h2
  have key : s0 = r0 → s1 = r1 → s2 = r2 → s3 = r3 → Crc.sum (k :: t) = Crc.sum (k' :: t') := by
    rintro rfl rfl rfl rfl
    rw [el] at el'
    exact Crc.mask_inj _ _ (Crc.sum_lt _) (Crc.sum_lt _) el'
  rcases List.eq_nil_or_concat t with rfl | ⟨t0, x, rfl⟩
  · have h3 : [s0, s1, s2, s3, UInt8.ofNat (([] : List UInt8).length % 256), UInt8.ofNat (([] : List UInt8).length / 256 % 256)] ++ [k] = Z ++ [v] := h1
    obtain ⟨h4, h5⟩ := List.append_inj' h3 rfl
    rw [← h4] at h2
    simp only [List.cons_append, List.nil_append, List.cons.injEq] at h2
    obtain ⟨a0, a1, a2, a3, a4, a5, a6, a7⟩ := h2
    have hl := len_two ht' ht a4 a5
    have : t' = [] := List.length_eq_zero_iff.mp (by simpa using hl)
    subst this
    have h6 := Crc.sum_byte [] [] k k' (key a0.symm a1.symm a2.symm a3.symm)
    simp only [List.cons.injEq, and_true] at h5
    rw [← a6, ← h6, h5]
  · have h3 : (s0 :: s1 :: s2 :: s3 :: UInt8.ofNat ((t0 ++ [x]).length % 256) :: UInt8.ofNat ((t0 ++ [x]).length / 256 % 256) :: k :: t0) ++ [x] = Z ++ [v] := by
      rw [← h1]
      simp [List.concat_eq_append]
    rw [List.concat_eq_append] at ht key
    obtain ⟨h4, h5⟩ := List.append_inj' h3 rfl
    rw [← h4] at h2
    simp only [List.cons_append, List.nil_append, List.cons.injEq] at h2
    obtain ⟨a0, a1, a2, a3, a4, a5, a6, a7⟩ := h2
    have hl := len_two ht' ht a4 a5
    have h8 : t' ++ Y' = (t0 ++ [u]) ++ Y := by rw [a7]; simp
    obtain ⟨h9, _⟩ := List.append_inj h8 (by rw [hl]; simp)
    subst h9
    subst a6
    have h6 := Crc.sum_byte (k' :: t0) [] x u (key a0.symm a1.symm a2.symm a3.symm)
    simp only [List.cons.injEq, and_true] at h5
    rw [← h6, h5]

/-- a piece that isn't the last one -/
theorem pcB_full {k k' u v : UInt8} {t t' X Z Y Y' : List UInt8} (ht : t.length < 65536) (ht' : t'.length < 65536) (hX : X ≠ []) (h1 : pcB k t ++ X = Z ++ [v]) (h2 : pcB k' t' ++ Y' = Z ++ u :: Y) : k = k' ∧ t = t' ∧ ∃ Z', X = Z' ++ [v] ∧ Y' = Z' ++ u :: Y := by
  rcases List.eq_nil_or_concat X with rfl | ⟨X0, x, rfl⟩
  · exact absurd rfl hX
  · rw [List.concat_eq_append] at h1 ⊢
    rw [← List.append_assoc] at h1
    obtain ⟨h3, h4⟩ := List.append_inj' h1 rfl
    rw [← h3, List.append_assoc] at h2
    obtain ⟨a1, a2, a3⟩ := pcB_inj ht' ht h2
    exact ⟨a1.symm, a2.symm, X0, by rw [h4], a3⟩

theorem frR_ne (l : List UInt8) : frR l ≠ [] := by
  intro h
  have := frR_long l
  rw [h] at this
  simp at this

theorem frR_torn (l : List UInt8) : ∀ (r Z Y : List UInt8) (u v : UInt8), frR l = Z ++ [v] → frR r = Z ++ u :: Y → u = v := by
  induction l using frR_ind with
  | h1 l hl =>
    intro r Z Y u v e1 e2
    rw [frR_eq, if_pos hl] at e1
    rw [frR_eq] at e2
    by_cases hr : r.length ≤ 57
    · rw [if_pos hr] at e2
      exact pcB_last (t' := r) (Y' := []) (by omega) (by omega) e1 ((List.append_nil _).trans e2)
    · rw [if_neg hr] at e2
      exact pcB_last (by omega) (by rw [List.length_take]; omega) e1 e2
  | h2 l hl ih =>
    intro r Z Y u v e1 e2
    rw [frR_eq, if_neg hl] at e1
    rw [frR_eq] at e2
    by_cases hr : r.length ≤ 57
    · rw [if_pos hr] at e2
      obtain ⟨a, _⟩ := pcB_full (t' := r) (Y' := []) (by rw [List.length_take]; omega) (by omega) (frR_ne _) e1 ((List.append_nil _).trans e2)
      exact absurd a (by decide)
    · rw [if_neg hr] at e2
      obtain ⟨_, _, Z', b1, b2⟩ := pcB_full (by rw [List.length_take]; omega) (by rw [List.length_take]; omega) (frR_ne _) e1 e2
      exact ih _ Z' Y u v b1 b2

theorem frF_torn {c : Nat} (hc : c ≤ 57) {l r Z Y : List UInt8} {u v : UInt8} (e1 : frF c l = Z ++ [v]) (e2 : frF c r = Z ++ u :: Y) : u = v := by
  unfold frF at e1 e2
  by_cases hl : l.length ≤ c
  · rw [if_pos hl] at e1
    by_cases hr : r.length ≤ c
    · rw [if_pos hr] at e2
      exact pcB_last (t' := r) (Y' := []) (by omega) (by omega) e1 ((List.append_nil _).trans e2)
    · rw [if_neg hr] at e2
      exact pcB_last (by omega) (by rw [List.length_take]; omega) e1 e2
  · rw [if_neg hl] at e1
    by_cases hr : r.length ≤ c
    · rw [if_pos hr] at e2
      obtain ⟨a, _⟩ := pcB_full (t' := r) (Y' := []) (by rw [List.length_take]; omega) (by omega) (frR_ne _) e1 ((List.append_nil _).trans e2)
      exact absurd a (by decide)
    · rw [if_neg hr] at e2
      obtain ⟨_, _, Z', b1, b2⟩ := pcB_full (by rw [List.length_take]; omega) (by rw [List.length_take]; omega) (frR_ne _) e1 e2
      exact frR_torn _ _ Z' Y u v b1 b2

theorem frameB_torn {a : Nat} {l r Z Y : List UInt8} {u v : UInt8} (e1 : frameB a l = Z ++ [v]) (e2 : frameB a r = Z ++ u :: Y) : u = v := by
  unfold frameB at e1 e2
  have hb := left_bd (a + gapN a)
  obtain ⟨c, hc⟩ : ∃ c, leftN (a + gapN a) - 7 = c := ⟨_, rfl⟩
  rw [hc] at e1 e2
  have hlong := frF_long c l
  rcases List.eq_nil_or_concat (frF c l) with h | ⟨X0, x, h⟩
  · rw [h] at hlong
    simp at hlong
  · rw [List.concat_eq_append] at h
    rw [h, ← List.append_assoc] at e1
    obtain ⟨h3, h4⟩ := List.append_inj' e1 rfl
    rw [← h3, List.append_assoc] at e2
    rw [h4] at h
    exact frF_torn (c := c) (by omega) h (List.append_cancel_left e2)

/-- CUT OFF ANYWHERE, THE LAST BYTE ANOTHER ONE: IT HAS WHAT LIES WHOLE AHEAD OF THAT BYTE -/
theorem read_torn (T : List (List UInt8)) (k wh : Nat) (v : UInt8) (h : ∀ r ∈ T, r.length ≤ 65536) (hwh : wh < T.length) (h1 : offT T wh < k) (h2 : k ≤ offT T (wh + 1)) (hv : (allB T [])[k - 1]? ≠ some v) :
    readB (((allB T []).take k).set (k - 1) v) = (T.take wh, offT T wh) := by
  obtain ⟨o, ho⟩ : ∃ o, offT T wh = o := ⟨_, rfl⟩
  have hst := offT_step T wh hwh
  obtain ⟨Y, hY⟩ := allB_here T wh hwh
  have htk := allB_take T wh
  obtain ⟨l, hl⟩ : ∃ l, T[wh] = l := ⟨_, rfl⟩
  have hl65 : l.length ≤ 65536 := by rw [← hl]; exact h _ (List.getElem_mem hwh)
  rw [hl] at hst hY
  rw [ho] at hst hY htk h1 ⊢
  have hlen0 : (allB (T.take wh) []).length = o := by rw [← ho]; rfl
  obtain ⟨P, hP⟩ : ∃ P, allB T [] = P := ⟨_, rfl⟩
  rw [hP] at hv hY htk ⊢
  obtain ⟨A, hA⟩ : ∃ A, allB (T.take wh) [] = A := ⟨_, rfl⟩
  rw [hA] at htk hlen0
  have hPA : P = A ++ (frameB o l ++ Y) := by rw [← hY, ← htk, List.take_append_drop]
  obtain ⟨F, hF⟩ : ∃ F, frameB o l = F := ⟨_, rfl⟩
  rw [hF] at hPA hY hst
  obtain ⟨m, hm⟩ : ∃ m, k = o + m + 1 := ⟨k - o - 1, by omega⟩
  have hmF : m < F.length := by omega
  obtain ⟨Z, u, R, hFZ, hZ⟩ : ∃ Z u R, F = Z ++ u :: R ∧ Z.length = m :=
    ⟨F.take m, F[m], F.drop (m + 1), by rw [List.getElem_cons_drop, List.take_append_drop], by rw [List.length_take]; omega⟩
  have hu : u ≠ v := by
    intro e
    apply hv
    rw [hPA, hFZ, List.getElem?_append_right (by omega), List.getElem?_append_left (by simp; omega), List.getElem?_append_right (by omega)]
    rw [show k - 1 - A.length - Z.length = 0 by omega, e]
    rfl
  have hset : (P.take k).set (k - 1) v = A ++ (Z ++ [v]) := by
    have e1 : P.take k = A ++ (Z ++ [u]) := by
      rw [hPA, hFZ]
      rw [show A ++ (Z ++ u :: R ++ Y) = (A ++ (Z ++ [u])) ++ (R ++ Y) by simp]
      exact List.take_left' (by simp; omega)
    rw [e1, set_behind (by omega), set_behind (by omega)]
    rw [show k - 1 - A.length - Z.length = 0 by omega]
    rfl
  have hrd := read_behind (T.take wh) (Z ++ [v]) (fun r hr => h r (List.mem_of_mem_take hr))
  rw [hA, hlen0, ← hset] at hrd
  have hnone : recAt ((P.take k).set (k - 1) v) o = none := by
    cases hr : recAt ((P.take k).set (k - 1) v) o with
    | none => rfl
    | some q =>
      exfalso
      obtain ⟨t, nx⟩ := q
      obtain ⟨s1, s2, s3, s4⟩ := recAt_some hr
      rw [hset, List.drop_left' hlen0] at s3
      rcases List.eq_nil_or_concat ((A ++ (Z ++ [v])).drop nx) with hW | ⟨W0, x, hW⟩
      · rw [hW, List.append_nil] at s3
        rw [hFZ] at hF
        exact hu (frameB_torn s3.symm hF)
      · rw [hW, List.concat_eq_append, ← List.append_assoc] at s3
        obtain ⟨b1, _⟩ := List.append_inj' s3 rfl
        have hd : P.drop o = frameB o t ++ (W0 ++ (u :: R ++ Y)) := by
          rw [hY, hFZ, b1]
          simp
        have r1 := recAt_frame P Y l o hl65 (by rw [hF]; exact hY)
        have r2 := recAt_frame P _ t o s1 hd
        rw [r1] at r2
        cases r2
        rw [hF] at b1
        have := congrArg List.length b1
        rw [List.length_append] at this
        omega
  rw [readG_step (by omega), hnone] at hrd
  exact hrd

/-- bytes cut off at a place, the last one of them made another one -/
def tornP (P : List UInt8) (k : Nat) (b : UInt8) : List UInt8 := if k = 0 then [] else (P.take k).set (k - 1) (P.getD (k - 1) 0 ^^^ b)

theorem xor_ne {x b : UInt8} (hb : b ≠ 0) : ¬ x = x ^^^ b := by
  intro h
  apply hb
  have h2 : x ^^^ x = x ^^^ (x ^^^ b) := congrArg (x ^^^ ·) h
  rw [← UInt8.xor_assoc, UInt8.xor_self, UInt8.zero_xor] at h2
  exact h2.symm

theorem offT_all (T : List (List UInt8)) : offT T T.length = (allB T []).length := by unfold offT; rw [List.take_length]

/-- WHAT IS READ OF A REEL THAT IS TORN: THE RECORDS THAT LIE WHOLE AHEAD OF THE TEAR -/
theorem torn_read (T : List (List UInt8)) (k wh : Nat) (b : UInt8) (h : ∀ r ∈ T, r.length ≤ 65536) (hk : k ≤ (allB T []).length) (hwh : wh ≤ T.length) (hc : wh = 0 ∨ offT T wh < k ∨ (offT T wh = k ∧ b = 0))
    (hg : ∀ j, wh < j → j ≤ T.length → ¬ (offT T j < k ∨ (offT T j = k ∧ b = 0))) : (readB (tornP (allB T []) k b)).1 = T.take wh := by
  unfold tornP
  by_cases hk0 : k = 0
  · rw [if_pos hk0]
    have h0 : wh = 0 := by
      rcases hc with h | h | ⟨h, _⟩
      · exact h
      · omega
      · rcases Nat.eq_zero_or_pos wh with e | e
        · exact e
        · have := offT_lt T 0 (by omega)
          have h2 : offT T (0 + 1) ≤ offT T wh := offT_mono T 1 wh e hwh
          rw [offT_zero] at this
          omega
    rw [h0, List.take_zero]
    rfl
  · rw [if_neg hk0]
    obtain ⟨x, hx⟩ : ∃ x, (allB T [])[k - 1]? = some x := ⟨_, List.getElem?_eq_getElem (by omega)⟩
    have hgd : (allB T []).getD (k - 1) 0 = x := by rw [List.getD_eq_getElem?_getD, hx]; rfl
    rw [hgd]
    by_cases hb : b = 0
    · have e1 : ((allB T []).take k).set (k - 1) (x ^^^ b) = (allB T []).take k := by
        rw [hb, UInt8.xor_zero]
        apply List.ext_getElem?
        intro i
        rw [List.getElem?_set]
        split
        · rename_i e
          subst e
          rw [if_pos (by rw [List.length_take]; omega), List.getElem?_take_of_lt (by omega), hx]
        · rfl
      rw [e1, read_cut T k wh h hk hwh]
      · rcases hc with h | h | ⟨h, _⟩
        · rw [h, offT_zero]; omega
        · omega
        · omega
      · intro j h1 h2
        have := hg j h1 h2
        by_cases h3 : offT T j < k
        · exact absurd (Or.inl h3) this
        · by_cases h4 : offT T j = k
          · exact absurd (Or.inr ⟨h4, hb⟩) this
          · omega
    · have h1 : offT T wh < k := by
        rcases hc with h | h | ⟨_, h⟩
        · rw [h, offT_zero]; omega
        · exact h
        · exact absurd h hb
      have hlt : wh < T.length := by
        rcases Nat.lt_or_ge wh T.length with h | h
        · exact h
        · have e : wh = T.length := by omega
          rw [e, offT_all] at h1
          omega
      have h2 : k ≤ offT T (wh + 1) := by
        have := hg (wh + 1) (by omega) (by omega)
        omega
      rw [read_torn T k wh (x ^^^ b) h hlt h1 h2 (by rw [hx]; intro e; exact xor_ne hb (Option.some.inj e))]

end Go.Proofs.YtmgofohaoppajaaDoor

/- ReelCuts answers true. -/
namespace Go.Proofs.YtmgofohaoppajaaDoor
open Go.RowKit
set_option linter.unusedVariables false

/-- where the loop has come to: the last record that ends ahead of the cut -/
structure CutI (w2 wr : World) (T : List (List UInt8)) (cut j k : Nat) : Prop where
  le : k ≤ j
  ok : offT T k ≤ cut
  no : ∀ i, k < i → i ≤ j → cut < offT T i
  be : Below w2.heap.size w2 wr

theorem cut_yes {w2 wr w3 : World} {T : List (List UInt8)} {cut j k : Nat} (h : CutI w2 wr T cut j k) (hj : offT T (j + 1) ≤ cut) (hb : Below w2.heap.size w2 w3) : CutI w2 w3 T cut (j + 1) (j + 1) :=
  ⟨Nat.le_refl _, hj, fun i h1 h2 => by omega, hb⟩

theorem cut_no {w2 wr w3 : World} {T : List (List UInt8)} {cut j k : Nat} (h : CutI w2 wr T cut j k) (hj : ¬ offT T (j + 1) ≤ cut) (hb : Below w2.heap.size w2 w3) : CutI w2 w3 T cut (j + 1) k :=
  ⟨Nat.le_succ_of_le h.le, h.ok, fun i h1 h2 => by
    by_cases e : i = j + 1
    · rw [e]; omega
    · exact h.no i h1 (by omega), hb⟩

theorem tmod_pos (z : Int) (L : Nat) (h0 : 0 ≤ z) : ∃ c : Nat, z.tmod ((L : Int) + 1) = (c : Int) ∧ c ≤ L := by
  obtain ⟨n, rfl⟩ := Int.eq_ofNat_of_zero_le h0
  refine ⟨n % (L + 1), ?_, by have := Nat.mod_lt n (show 0 < L + 1 by omega); omega⟩
  rw [Int.tmod_eq_emod_of_nonneg h0]
  exact (Int.natCast_emod n (L + 1)).symm

theorem ownN_take {B : Nat} {w : World} {a : Option Addr} {n c : Nat} {l : List UInt8} (h : OwnN B w (.slice a n c) l) (k : Nat) (hk : k ≤ l.length) : Rd w (.slice a k c) (l.take k) ∧ ∀ b, (Value.slice a k c).ownBlock = some b → b < w.heap.size := by
  have hb := ownN_block h
  rcases h with ⟨e, rfl⟩ | h
  · cases e
    obtain rfl : k = 0 := by simpa using hk
    exact ⟨.inl ⟨rfl, rfl⟩, fun b e => by simp [Value.ownBlock] at e⟩
  · obtain ⟨g, k', e⟩ := h.shape
    cases e
    refine ⟨?_, fun b e => by cases e; exact h.lt.2⟩
    have hcs := h.cellsAt
    obtain ⟨g', cap', cur, e, _, _, h1, h2, _⟩ := h
    cases e
    have := rd_sub hcs 0 k c (by omega) h2 (by omega)
    rwa [List.drop_zero, Nat.add_zero] at this

end Go.Proofs.YtmgofohaoppajaaDoor

/- bartizanref06.Piece. -/
namespace Go.Proofs.YtmgofohaoppajaaDoor
open Go.RowKit
set_option linter.unusedVariables false

theorem wrap_sumM {a lf a1 : Int} (h : a + lf = a1) (h0 : 0 ≤ a1) (h1 : a1 ≤ 2000000) : IntKind.i64.wrap (a + lf) = a1 ∧ wrap64 (a + lf) = a1 ∧ IntKind.i64.wrap a1 = a1 ∧ wrap64 a1 = a1 := by
  rw [h]
  refine ⟨?_, ?_, ?_, ?_⟩
  · rw [IntKind.wrap_i64]; omega
  · unfold wrap64; omega
  · rw [IntKind.wrap_i64]; omega
  · unfold wrap64; omega

set_option maxRecDepth 100000 in
set_option maxHeartbeats 2000000 in
theorem rpiece_short (w : World) (a : Nat) (v : Value) (p : List UInt8) (hv : Rd w v p) (hp : p.length ≤ 1000000) (ha : a ≤ 2000000) (h : p.length < a + 7) :
    Calls Tryd.prog 30 #[v, .int .i64 (a : Int)] w fun x w' => x = .returned (.tuple #[.int .u8 0, .slice none 0 0, .int .i64 0, .bool false]) ∧ w' = w := by
  obtain ⟨ao, cap, rfl⟩ := hv.len
  obtain ⟨L, hL⟩ : ∃ L, p.length = L := ⟨_, rfl⟩
  rw [hL] at hp h ⊢
  have h1 : ¬ (a : Int) < 0 := by omega
  have h2 : (L : Int) - 7 < (a : Int) := by omega
  have h3 : (L : Int) ≤ 1000000 := by omega
  clear hv hL h ha
  go_enter Tryd.func30, Tryd.ntmps30
  go_wp2
  refine bodyPost_ret (v := .tuple #[.int .u8 0, .slice none 0 0, .int .i64 0, .bool false]) (by simp [results]) rfl ?_
  exact ⟨rfl, rfl⟩

set_option maxRecDepth 100000 in
set_option maxHeartbeats 2000000 in
theorem rpiece_late (w : World) (a : Nat) (v : Value) (p : List UInt8) (hv : Rd w v p) (hp : p.length ≤ 1000000) (h : a + 7 ≤ p.length) (hx : 57 < a % 64) :
    Calls Tryd.prog 30 #[v, .int .i64 (a : Int)] w fun x w' => x = .returned (.tuple #[.int .u8 0, .slice none 0 0, .int .i64 0, .bool false]) ∧ w' = w := by
  obtain ⟨ao, cap, rfl⟩ := hv.len
  obtain ⟨L, hL⟩ : ∃ L, p.length = L := ⟨_, rfl⟩
  rw [hL] at hp h ⊢
  have h1 : ¬ (a : Int) < 0 := by omega
  have h2 : ¬ (L : Int) - 7 < (a : Int) := by omega
  have h3 : (L : Int) ≤ 1000000 := by omega
  have hm := mod_64 a
  obtain ⟨x, hxq⟩ : ∃ x, a % 64 = x := ⟨_, rfl⟩
  rw [hxq] at hm hx
  have h4 : (57 : Int) < (x : Int) := by omega
  clear hv hL h hx hxq
  go_enter Tryd.func30, Tryd.ntmps30
  go_wp2
  refine bodyPost_ret (v := .tuple #[.int .u8 0, .slice none 0 0, .int .i64 0, .bool false]) (by simp [results]) rfl ?_
  exact ⟨rfl, rfl⟩

set_option maxRecDepth 100000 in
set_option maxHeartbeats 2000000 in
theorem rpieceA (w : World) (a b off c L x n0 n1 k sz : Nat) (h1 : (a : Int) ≤ (L : Int) - 7) (h3 : (L : Int) ≤ 1000000) (hm : (a : Int).tmod 64 = (x : Int)) (h4 : (x : Int) ≤ 57) (hLc : (L : Int) ≤ (c : Int))
    (c4 : w.cell? ⟨b, off + (a + 4), none⟩ = some (.int .u8 (n0 : Int))) (c5 : w.cell? ⟨b, off + (a + 5), none⟩ = some (.int .u8 (n1 : Int))) (c6 : w.cell? ⟨b, off + (a + 6), none⟩ = some (.int .u8 (k : Int)))
    (hn0 : (n0 : Int) ≤ 255) (hn1 : (n1 : Int) ≤ 255) (hk255 : (k : Int) ≤ 255) (hs : (n0 : Int) + 256 * (n1 : Int) = (sz : Int)) (hA : (64 : Int) < (x : Int) + 7 + (sz : Int)) :
    Calls Tryd.prog 30 #[.slice (some ⟨b, off, none⟩) L c, .int .i64 (a : Int)] w fun x w' => x = .returned (.tuple #[.int .u8 0, .slice none 0 0, .int .i64 0, .bool false]) ∧ ∃ n, w' = w.drewN n := by
  have h0 : ¬ (a : Int) < 0 := by omega
  have hx0 : (0 : Int) ≤ (x : Int) := by omega
  have hsz0 : (0 : Int) ≤ (sz : Int) := by omega
  have hk0 : (0 : Int) ≤ (k : Int) := by omega
  go_enter Tryd.func30, Tryd.ntmps30
  go_wp2_with fail
  go_quiet (fail)
  go_wp2
  refine bodyPost_ret (v := .tuple #[.int .u8 0, .slice none 0 0, .int .i64 0, .bool false]) (by simp [results]) rfl ?_
  exact ⟨rfl, _, rfl⟩

set_option maxRecDepth 100000 in
set_option maxHeartbeats 2000000 in
theorem rpieceB (w : World) (a b off c L x n0 n1 k sz : Nat) (h1 : (a : Int) ≤ (L : Int) - 7) (h3 : (L : Int) ≤ 1000000) (hm : (a : Int).tmod 64 = (x : Int)) (h4 : (x : Int) ≤ 57) (hLc : (L : Int) ≤ (c : Int))
    (c4 : w.cell? ⟨b, off + (a + 4), none⟩ = some (.int .u8 (n0 : Int))) (c5 : w.cell? ⟨b, off + (a + 5), none⟩ = some (.int .u8 (n1 : Int))) (c6 : w.cell? ⟨b, off + (a + 6), none⟩ = some (.int .u8 (k : Int)))
    (hn0 : (n0 : Int) ≤ 255) (hn1 : (n1 : Int) ≤ 255) (hk255 : (k : Int) ≤ 255) (hs : (n0 : Int) + 256 * (n1 : Int) = (sz : Int)) (hA : (x : Int) + 7 + (sz : Int) ≤ 64) (hB : (L : Int) < (a : Int) + 7 + (sz : Int)) :
    Calls Tryd.prog 30 #[.slice (some ⟨b, off, none⟩) L c, .int .i64 (a : Int)] w fun x w' => x = .returned (.tuple #[.int .u8 0, .slice none 0 0, .int .i64 0, .bool false]) ∧ ∃ n, w' = w.drewN n := by
  have h0 : ¬ (a : Int) < 0 := by omega
  have hx0 : (0 : Int) ≤ (x : Int) := by omega
  have hsz0 : (0 : Int) ≤ (sz : Int) := by omega
  have hk0 : (0 : Int) ≤ (k : Int) := by omega
  go_enter Tryd.func30, Tryd.ntmps30
  go_wp2_with fail
  go_quiet (fail)
  go_wp2
  refine bodyPost_ret (v := .tuple #[.int .u8 0, .slice none 0 0, .int .i64 0, .bool false]) (by simp [results]) rfl ?_
  exact ⟨rfl, _, rfl⟩

set_option maxRecDepth 100000 in
set_option maxHeartbeats 2000000 in
theorem rpieceC (w : World) (a b off c L x n0 n1 k sz : Nat) (h1 : (a : Int) ≤ (L : Int) - 7) (h3 : (L : Int) ≤ 1000000) (hm : (a : Int).tmod 64 = (x : Int)) (h4 : (x : Int) ≤ 57) (hLc : (L : Int) ≤ (c : Int))
    (c4 : w.cell? ⟨b, off + (a + 4), none⟩ = some (.int .u8 (n0 : Int))) (c5 : w.cell? ⟨b, off + (a + 5), none⟩ = some (.int .u8 (n1 : Int))) (c6 : w.cell? ⟨b, off + (a + 6), none⟩ = some (.int .u8 (k : Int)))
    (hn0 : (n0 : Int) ≤ 255) (hn1 : (n1 : Int) ≤ 255) (hk255 : (k : Int) ≤ 255) (hs : (n0 : Int) + 256 * (n1 : Int) = (sz : Int)) (hA : (x : Int) + 7 + (sz : Int) ≤ 64) (hB : (a : Int) + 7 + (sz : Int) ≤ (L : Int)) (hC : (k : Int) < 1) :
    Calls Tryd.prog 30 #[.slice (some ⟨b, off, none⟩) L c, .int .i64 (a : Int)] w fun x w' => x = .returned (.tuple #[.int .u8 0, .slice none 0 0, .int .i64 0, .bool false]) ∧ ∃ n, w' = w.drewN n := by
  have h0 : ¬ (a : Int) < 0 := by omega
  have hx0 : (0 : Int) ≤ (x : Int) := by omega
  have hsz0 : (0 : Int) ≤ (sz : Int) := by omega
  have hk0 : (0 : Int) ≤ (k : Int) := by omega
  go_enter Tryd.func30, Tryd.ntmps30
  go_wp2_with fail
  go_quiet (fail)
  go_wp2
  refine bodyPost_ret (v := .tuple #[.int .u8 0, .slice none 0 0, .int .i64 0, .bool false]) (by simp [results]) rfl ?_
  exact ⟨rfl, _, rfl⟩

set_option maxRecDepth 100000 in
set_option maxHeartbeats 2000000 in
theorem rpieceD (w : World) (a b off c L x n0 n1 k sz : Nat) (h1 : (a : Int) ≤ (L : Int) - 7) (h3 : (L : Int) ≤ 1000000) (hm : (a : Int).tmod 64 = (x : Int)) (h4 : (x : Int) ≤ 57) (hLc : (L : Int) ≤ (c : Int))
    (c4 : w.cell? ⟨b, off + (a + 4), none⟩ = some (.int .u8 (n0 : Int))) (c5 : w.cell? ⟨b, off + (a + 5), none⟩ = some (.int .u8 (n1 : Int))) (c6 : w.cell? ⟨b, off + (a + 6), none⟩ = some (.int .u8 (k : Int)))
    (hn0 : (n0 : Int) ≤ 255) (hn1 : (n1 : Int) ≤ 255) (hk255 : (k : Int) ≤ 255) (hs : (n0 : Int) + 256 * (n1 : Int) = (sz : Int)) (hA : (x : Int) + 7 + (sz : Int) ≤ 64) (hB : (a : Int) + 7 + (sz : Int) ≤ (L : Int)) (hC : ¬ (k : Int) < 1) (hD : (4 : Int) < (k : Int)) :
    Calls Tryd.prog 30 #[.slice (some ⟨b, off, none⟩) L c, .int .i64 (a : Int)] w fun x w' => x = .returned (.tuple #[.int .u8 0, .slice none 0 0, .int .i64 0, .bool false]) ∧ ∃ n, w' = w.drewN n := by
  have h0 : ¬ (a : Int) < 0 := by omega
  have hx0 : (0 : Int) ≤ (x : Int) := by omega
  have hsz0 : (0 : Int) ≤ (sz : Int) := by omega
  have hk0 : (0 : Int) ≤ (k : Int) := by omega
  go_enter Tryd.func30, Tryd.ntmps30
  go_wp2_with fail
  go_quiet (fail)
  go_wp2
  refine bodyPost_ret (v := .tuple #[.int .u8 0, .slice none 0 0, .int .i64 0, .bool false]) (by simp [results]) rfl ?_
  exact ⟨rfl, _, rfl⟩


set_option maxRecDepth 100000 in
set_option maxHeartbeats 3000000 in
theorem rpieceE (w : World) (a b off c L x n0 n1 k sz : Nat) (h1 : (a : Int) ≤ (L : Int) - 7) (h3 : (L : Int) ≤ 1000000) (hm : (a : Int).tmod 64 = (x : Int)) (h4 : (x : Int) ≤ 57) (hLc : (L : Int) ≤ (c : Int))
    (c4 : w.cell? ⟨b, off + (a + 4), none⟩ = some (.int .u8 (n0 : Int))) (c5 : w.cell? ⟨b, off + (a + 5), none⟩ = some (.int .u8 (n1 : Int))) (c6 : w.cell? ⟨b, off + (a + 6), none⟩ = some (.int .u8 (k : Int)))
    (hn0 : (n0 : Int) ≤ 255) (hn1 : (n1 : Int) ≤ 255) (hk255 : (k : Int) ≤ 255) (hs : (n0 : Int) + 256 * (n1 : Int) = (sz : Int)) (hA : (x : Int) + 7 + (sz : Int) ≤ 64) (hB : (a : Int) + 7 + (sz : Int) ≤ (L : Int)) (hC : ¬ (k : Int) < 1) (hD : ¬ (4 : Int) < (k : Int))
    (kU : UInt8) (t q4 : List UInt8) (m : Nat) (R1 : Hid (Rd w (.slice (some ⟨b, off + (a + 6), none⟩) (a + 7 + sz - (a + 6)) (c - (a + 6))) (kU :: t))) (R2 : Hid (Rd w (.slice (some ⟨b, off + a, none⟩) (a + 4 - a) (c - a)) q4)) (HTL : Hid (t.length = sz)) (HSM : Hid (sumK kU t = m)) (HQ : Hid ((q4 == Crc.four m) = false)) :
    Calls Tryd.prog 30 #[.slice (some ⟨b, off, none⟩) L c, .int .i64 (a : Int)] w fun x w' => x = .returned (.tuple #[.int .u8 0, .slice none 0 0, .int .i64 0, .bool false]) ∧ Below w.heap.size w w' := by
  have h0 : ¬ (a : Int) < 0 := by omega
  have hx0 : (0 : Int) ≤ (x : Int) := by omega
  have hsz0 : (0 : Int) ≤ (sz : Int) := by omega
  have hk0 : (0 : Int) ≤ (k : Int) := by omega
  have hca6 : ¬ c = a + 6 := by omega
  have hca : ¬ c = a := by omega
  obtain ⟨s, m', hs1, hmm, hsl, hml⟩ := mask_facts kU t
  have hm' : m' = m := by rw [← HSM.out]; unfold sumK; rw [hs1, hmm]
  subst hm'
  have HRS : Hid (∀ n, Calls Tryd.prog 44 #[.slice (some ⟨b, off + (a + 6), none⟩) (a + 7 + sz - (a + 6)) (c - (a + 6))] (w.drewN n) fun e w' => e = .returned (.int .u32 (s : Int)) ∧ Below (w.drewN n).heap.size (w.drewN n) w') := fun n => by
    have := refsum_any (w.drewN n) _ (kU :: t) R1.out (by rw [List.length_cons, HTL.out]; omega)
    rw [hs1] at this
    exact this
  obtain ⟨mI, hmI⟩ : ∃ mI : Int, (m' : Int) = mI := ⟨_, rfl⟩
  have hmI0 : 0 ≤ mI := by omega
  have hmI1 : mI < 4294967296 := by omega
  have HML : Hid (m' < 4294967296 ∧ (m' : Int) = mI) := ⟨hml, hmI⟩
  have HRM : Hid (∀ w3, Calls Tryd.prog 43 #[.int .u32 (s : Int)] w3 fun e w' => e = .returned (.int .u32 mI) ∧ w' = w3) := fun w3 => by
    have := refmask_any s hsl w3
    rw [hmm, hmI] at this
    exact this
  have HSZ : Hid (sz ≤ 1000) := by show _ ≤ _; omega
  clear hs1 hmm hsl hml hmI HSM
  go_enter Tryd.func30, Tryd.ntmps30
  go_wp2_with fail
  go_quiet (fail)
  go_wp2_with fail
  refine Calls.mono (HRS.out _) ?_
  rintro e w3 ⟨rfl, hb3⟩
  have HB3 : Hid (Below w.heap.size w w3) := (below_drewN' (Below.refl _ _) _).trans hb3
  clear hb3
  go_wp2_with fail
  refine (HRM.out _).mono ?_
  rintro e w4 ⟨rfl, rfl⟩
  have hsm : Calls Tryd.prog 11 #[.slice (some ⟨b, off + a, none⟩) (a + 4 - a) (c - a), .slice (some ⟨w4.heap.size, 0, none⟩) 4 4] (w4.alloc (.cells #[.int .u8 (mI % 256), .int .u8 (mI / 256 % 256), .int .u8 (mI / 65536 % 256), .int .u8 (mI / 16777216)] 5)) fun e w' => e = .returned (.bool false) ∧ w' = w4.alloc (.cells #[.int .u8 (mI % 256), .int .u8 (mI / 256 % 256), .int .u8 (mI / 65536 % 256), .int .u8 (mI / 16777216)] 5) := by
    obtain ⟨hml, rfl⟩ := HML.out
    refine same_b _ _ _ q4 (Crc.four m') false ((R2.out.below HB3.out (Nat.le_refl _)).below ((Below.refl _ _).alloc (Nat.le_refl _) _) (Nat.le_refl _)) ?_ HQ.out
    obtain ⟨p0, p1, p2, p3⟩ := bytes4 m' hml
    rw [p0, p1, p2, p3]
    exact (Own.of_row (lit_row4 w4 w4.heap.size (Nat.le_refl _) _ _ _ _) (by simp)).rd
  rw [show a + 4 - a = 4 by omega] at hsm
  have HB4 : Hid (Below w.heap.size w (w4.alloc (.cells #[.int .u8 (mI % 256), .int .u8 (mI / 256 % 256), .int .u8 (mI / 65536 % 256), .int .u8 (mI / 16777216)] 5))) := HB3.out.alloc HB3.out.size _
  go_wp2_with fail
  refine hsm.mono ?_
  rintro e w5 ⟨rfl, rfl⟩
  clear hsm
  go_wp2
  refine bodyPost_ret (v := .tuple #[.int .u8 0, .slice none 0 0, .int .i64 0, .bool false]) (by simp [results]) rfl ?_
  exact ⟨rfl, HB4.out⟩

end Go.Proofs.YtmgofohaoppajaaDoor

/- bartizanref06.Piece, where there is one. -/
namespace Go.Proofs.YtmgofohaoppajaaDoor
open Go.RowKit
set_option linter.unusedVariables false

set_option maxRecDepth 100000 in
set_option maxHeartbeats 1200000 in
theorem rpieceF (w : World) (a b off c L x n0 n1 k sz : Nat) (h1 : (a : Int) ≤ (L : Int) - 7) (h3 : (L : Int) ≤ 1000000) (hm : (a : Int).tmod 64 = (x : Int)) (h4 : (x : Int) ≤ 57) (hLc : (L : Int) ≤ (c : Int))
    (c4 : w.cell? ⟨b, off + (a + 4), none⟩ = some (.int .u8 (n0 : Int))) (c5 : w.cell? ⟨b, off + (a + 5), none⟩ = some (.int .u8 (n1 : Int))) (c6 : w.cell? ⟨b, off + (a + 6), none⟩ = some (.int .u8 (k : Int)))
    (hn0 : (n0 : Int) ≤ 255) (hn1 : (n1 : Int) ≤ 255) (hk255 : (k : Int) ≤ 255) (hs : (n0 : Int) + 256 * (n1 : Int) = (sz : Int)) (hA : (x : Int) + 7 + (sz : Int) ≤ 64) (hB : (a : Int) + 7 + (sz : Int) ≤ (L : Int)) (hC : ¬ (k : Int) < 1) (hD : ¬ (4 : Int) < (k : Int))
    (kU : UInt8) (t q4 : List UInt8) (m : Nat) (R1 : Hid (Rd w (.slice (some ⟨b, off + (a + 6), none⟩) (a + 7 + sz - (a + 6)) (c - (a + 6))) (kU :: t))) (R2 : Hid (Rd w (.slice (some ⟨b, off + a, none⟩) (a + 4 - a) (c - a)) q4)) (HTL : Hid (t.length = sz)) (HSM : Hid (sumK kU t = m)) (HQ : Hid ((q4 == Crc.four m) = true)) (hb : b < w.heap.size) (off7 : Nat) (HO7 : Hid (Rd w (.slice (some ⟨b, off7, none⟩) sz (c - (a + 7))) t)) (f7 : (¬ c = a + 7 ∧ off7 = off + (a + 7)) ∨ (c = a + 7 ∧ off7 = off)) :
    Calls Tryd.prog 30 #[.slice (some ⟨b, off, none⟩) L c, .int .i64 (a : Int)] w fun x w' => (∃ y, x = .returned (.tuple #[.int .u8 (k : Int), y, .int .i64 ((a + 7 + sz : Nat) : Int), .bool true]) ∧ OwnN w.heap.size w' y t) ∧ Below w.heap.size w w' := by
  have h0 : ¬ (a : Int) < 0 := by omega
  have hx0 : (0 : Int) ≤ (x : Int) := by omega
  have hsz0 : (0 : Int) ≤ (sz : Int) := by omega
  have hk0 : (0 : Int) ≤ (k : Int) := by omega
  have hca6 : ¬ c = a + 6 := by omega
  have hca : ¬ c = a := by omega
  obtain ⟨s, m', hs1, hmm, hsl, hml⟩ := mask_facts kU t
  have hm' : m' = m := by rw [← HSM.out]; unfold sumK; rw [hs1, hmm]
  subst hm'
  have HRS : Hid (∀ n, Calls Tryd.prog 44 #[.slice (some ⟨b, off + (a + 6), none⟩) (a + 7 + sz - (a + 6)) (c - (a + 6))] (w.drewN n) fun e w' => e = .returned (.int .u32 (s : Int)) ∧ Below (w.drewN n).heap.size (w.drewN n) w') := fun n => by
    have := refsum_any (w.drewN n) _ (kU :: t) R1.out (by rw [List.length_cons, HTL.out]; omega)
    rw [hs1] at this
    exact this
  obtain ⟨mI, hmI⟩ : ∃ mI : Int, (m' : Int) = mI := ⟨_, rfl⟩
  have hmI0 : 0 ≤ mI := by omega
  have hmI1 : mI < 4294967296 := by omega
  have HML : Hid (m' < 4294967296 ∧ (m' : Int) = mI) := ⟨hml, hmI⟩
  have HRM : Hid (∀ w3, Calls Tryd.prog 43 #[.int .u32 (s : Int)] w3 fun e w' => e = .returned (.int .u32 mI) ∧ w' = w3) := fun w3 => by
    have := refmask_any s hsl w3
    rw [hmm, hmI] at this
    exact this
  have HSZ : Hid (sz ≤ 1000) := by show _ ≤ _; omega
  clear hs1 hmm hsl hml hmI HSM
  go_enter Tryd.func30, Tryd.ntmps30
  go_wp2_with fail
  go_quiet (fail)
  go_wp2_with fail
  refine Calls.mono (HRS.out _) ?_
  rintro e w3 ⟨rfl, hb3⟩
  have HB3 : Hid (Below w.heap.size w w3) := (below_drewN' (Below.refl _ _) _).trans hb3
  clear hb3
  go_wp2_with fail
  refine (HRM.out _).mono ?_
  rintro e w4 ⟨rfl, rfl⟩
  have hsm : Calls Tryd.prog 11 #[.slice (some ⟨b, off + a, none⟩) (a + 4 - a) (c - a), .slice (some ⟨w4.heap.size, 0, none⟩) 4 4] (w4.alloc (.cells #[.int .u8 (mI % 256), .int .u8 (mI / 256 % 256), .int .u8 (mI / 65536 % 256), .int .u8 (mI / 16777216)] 5)) fun e w' => e = .returned (.bool true) ∧ w' = w4.alloc (.cells #[.int .u8 (mI % 256), .int .u8 (mI / 256 % 256), .int .u8 (mI / 65536 % 256), .int .u8 (mI / 16777216)] 5) := by
    obtain ⟨hml, rfl⟩ := HML.out
    refine same_b _ _ _ q4 (Crc.four m') true ((R2.out.below HB3.out (Nat.le_refl _)).below ((Below.refl _ _).alloc (Nat.le_refl _) _) (Nat.le_refl _)) ?_ HQ.out
    obtain ⟨p0, p1, p2, p3⟩ := bytes4 m' hml
    rw [p0, p1, p2, p3]
    exact (Own.of_row (lit_row4 w4 w4.heap.size (Nat.le_refl _) _ _ _ _) (by simp)).rd
  rw [show a + 4 - a = 4 by omega] at hsm
  have HB4 : Hid (Below w.heap.size w (w4.alloc (.cells #[.int .u8 (mI % 256), .int .u8 (mI / 256 % 256), .int .u8 (mI / 65536 % 256), .int .u8 (mI / 16777216)] 5))) := HB3.out.alloc HB3.out.size _
  go_wp2_with fail
  refine hsm.mono ?_
  rintro e w5 ⟨rfl, rfl⟩
  clear hsm
  obtain ⟨w6, hw6⟩ : ∃ w6, w4.alloc (.cells #[.int .u8 (mI % 256), .int .u8 (mI / 256 % 256), .int .u8 (mI / 65536 % 256), .int .u8 (mI / 16777216)] 5) = w6 := ⟨_, rfl⟩
  rw [hw6] at HB4 ⊢
  have c66 : w6.cell? ⟨b, off + (a + 6), none⟩ = some (.int .u8 (k : Int)) := by rw [HB4.out.cell (p := ⟨b, off + (a + 6), none⟩) hb]; exact c6
  have hcp := copy_any w6.drew _ t ((HO7.out.below HB4.out (Nat.le_refl _)).drew).arg (by rw [HTL.out]; have := HSZ.out; omega)
  have HBK : Hid (b < w6.heap.size) := Nat.lt_of_lt_of_le hb HB4.out.size
  obtain ⟨a6, ha6⟩ : ∃ a6, a + 6 = a6 := ⟨_, rfl⟩
  obtain ⟨a7, ha7⟩ : ∃ a7, a + 7 = a7 := ⟨_, rfl⟩
  obtain ⟨e7, he7⟩ : ∃ e7, a + 7 + sz = e7 := ⟨_, rfl⟩
  have HE7 : Hid (e7 = a + 7 + sz) := he7.symm
  obtain ⟨i1, i2, i3, i4, i5, i6, i7, i8⟩ : (a : Int) + 6 = (a6 : Int) ∧ (a : Int) + 7 = (a7 : Int) ∧ (a7 : Int) + (sz : Int) = (e7 : Int) ∧ (a6 : Int) < (L : Int) ∧ (a7 : Int) ≤ (e7 : Int) ∧ (e7 : Int) ≤ (c : Int) ∧ e7 - a7 = sz ∧ (e7 : Int) ≤ 1000000 := by omega
  rw [ha6] at c66
  rw [ha7] at f7 hcp
  have j0 : (0 : Int) ≤ (a6 : Int) := Int.natCast_nonneg _
  have j1 : (0 : Int) ≤ (a7 : Int) := Int.natCast_nonneg _
  have j2 : (a : Int) ≤ 1000000 := by omega
  have j3 : (sz : Int) ≤ 64 := by omega
  clear c4 c5 c6 h1 h3 hm h4 hLc hs hA hB hn0 hn1 hca6 hca ha6 ha7 he7 hw6 h0 hx0 hsz0 hk0 hk255 hC hD hmI0 hmI1 HML HRS HRM R1 R2 HQ HO7 HB3
  rcases f7 with ⟨f7, h7⟩ | ⟨f7, h7⟩
  · skip
    have h7' := h7.symm
    subst h7'
    have HW1 : Hid _ := wrap_sumM i1 j0 (by omega)
    have HW2 : Hid _ := wrap_sumM i2 j1 (by omega)
    have HW3 : Hid _ := wrap_sumM i3 (by omega) (by omega)
    have HI13 : Hid ((a : Int) + 6 = (a6 : Int) ∧ (a : Int) + 7 = (a7 : Int) ∧ (a7 : Int) + (sz : Int) = (e7 : Int)) := ⟨i1, i2, i3⟩
    clear i1 i2 i3
    go_wp2_with fail
    obtain ⟨i1, i2, i3⟩ := HI13.out
    obtain ⟨x1, x2, x3, x4⟩ := HW1.out
    obtain ⟨y1, y2, y3, y4⟩ := HW2.out
    obtain ⟨z1, z2, z3, z4⟩ := HW3.out
    clear HW1 HW2 HW3 j2 j3 i8
    go_region_held3 (fun w' => w'.cell? ⟨b, off + a6, none⟩ = some (.int .u8 (k : Int))) (first | exact c67 | exact c66)
      (first
        | (go_at_call 18; refine hcp.mono ?_; rintro e w7 ⟨y, rfl, oy, hb7⟩; obtain ⟨gy, ky, rfl⟩ := oy.shape; have c67 : w7.cell? ⟨b, off + a6, none⟩ = some (.int .u8 (k : Int)) := (hb7.cell (p := ⟨b, off + a6, none⟩) HBK.out).trans c66)
        | fail)
    all_goals
      clear x1 x2 x3 x4 y1 y2 y3 y4 z1 z2 z3 z4
      go_wp2
      refine bodyPost_ret (v := .tuple #[.int .u8 (k : Int), .slice (some ⟨gy, 0, none⟩) t.length ky, .int .i64 (e7 : Int), .bool true]) (by simp [results]) rfl ?_
      refine ⟨⟨_, ?_, .inr (oy.mono HB4.out.size)⟩, HB4.out.trans ((below_drewN' (Below.refl _ _) 1).trans hb7 |>.mono HB4.out.size)⟩
      rw [HE7.out]
  · skip
    have h7' := h7.symm
    subst h7'
    obtain rfl : sz = 0 := by omega
    obtain rfl : e7 = a7 := by omega
    subst f7
    rw [Nat.sub_self] at hcp
    rw [show ((0 : Nat) : Int) = 0 from rfl] at i3
    have HW1 : Hid _ := wrap_sumM i1 j0 (by omega)
    have HW2 : Hid _ := wrap_sumM i2 j1 (by omega)
    have HW3 : Hid _ := wrap_sumM i3 (by omega) (by omega)
    have HI13 : Hid ((a : Int) + 6 = (a6 : Int) ∧ (a : Int) + 7 = (c : Int) ∧ (c : Int) + 0 = (c : Int)) := ⟨i1, i2, i3⟩
    clear i1 i2 i3
    go_wp2_with fail
    have m1 : (c : Int) ≤ (c : Int) := Int.le_refl _
    have m2 : c - c = 0 := Nat.sub_self c
    obtain ⟨i1, i2, i3⟩ := HI13.out
    obtain ⟨x1, x2, x3, x4⟩ := HW1.out
    obtain ⟨y1, y2, y3, y4⟩ := HW2.out
    obtain ⟨z1, z2, z3, z4⟩ := HW3.out
    clear HW1 HW2 HW3 j2 j3 i8
    go_region_held3 (fun w' => w'.cell? ⟨b, off + a6, none⟩ = some (.int .u8 (k : Int))) (first | exact c67 | exact c66)
      (first
        | (go_at_call 18; refine hcp.mono ?_; rintro e w7 ⟨y, rfl, oy, hb7⟩; obtain ⟨gy, ky, rfl⟩ := oy.shape; have c67 : w7.cell? ⟨b, off + a6, none⟩ = some (.int .u8 (k : Int)) := (hb7.cell (p := ⟨b, off + a6, none⟩) HBK.out).trans c66)
        | fail)
    all_goals
      clear x1 x2 x3 x4 y1 y2 y3 y4 z1 z2 z3 z4
      go_wp2
      refine bodyPost_ret (v := .tuple #[.int .u8 (k : Int), .slice (some ⟨gy, 0, none⟩) t.length ky, .int .i64 (c : Int), .bool true]) (by simp [results]) rfl ?_
      refine ⟨⟨_, ?_, .inr (oy.mono HB4.out.size)⟩, HB4.out.trans ((below_drewN' (Below.refl _ _) 1).trans hb7 |>.mono HB4.out.size)⟩
      rw [HE7.out]

theorem win_get {p : List UInt8} {a m : Nat} {q : List UInt8} (hq : (p.drop a).take m = q) (j : Nat) (u : UInt8) (h : q[j]? = some u) : p[a + j]? = some u := by
  rw [← hq] at h
  rw [List.getElem?_take] at h
  split at h
  · rwa [List.getElem?_drop] at h
  · cases h

theorem cell_get {w : World} {b off : Nat} {p : List UInt8} (hcs : ∀ j u, (bv p)[j]? = some u → w.cell? ⟨b, off + j, none⟩ = some u) {j : Nat} {u : UInt8} (h : p[j]? = some u) : w.cell? ⟨b, off + j, none⟩ = some (.int .u8 (u.toNat : Int)) := hcs j _ (by simp [bv, h])

theorem low_beq (s0 s1 s2 s3 : UInt8) (m : Nat) (hm : m < 4294967296) : ([s0, s1, s2, s3] == Crc.four m) = decide (Crc.low [s0, s1, s2, s3] = m) := by
  rw [Bool.eq_iff_iff]
  simp only [beq_iff_eq, decide_eq_true_eq]
  constructor
  · intro h
    rw [h, Crc.low_four m hm]
  · intro h
    rw [← h, Crc.four_low]

set_option maxHeartbeats 2000000 in
theorem rpiece_at (w : World) (a b off c : Nat) (p : List UInt8) (hcs : ∀ j u, (bv p)[j]? = some u → w.cell? ⟨b, off + j, none⟩ = some u) (hb : b < w.heap.size) (ha : a ≤ 2000000) (hc : p.length ≤ c) (hM : c ≤ maxLen) (hp : p.length ≤ 1000000) :
    Calls Tryd.prog 30 #[.slice (some ⟨b, off, none⟩) p.length c, .int .i64 (a : Int)] w (PiecePost w a (pcAt p a)) := by
  have hrd : Rd w (.slice (some ⟨b, off, none⟩) p.length c) p := .inr ⟨b, off, c, rfl, hc, hM, hcs⟩
  have hno : ∀ {x : Ending} {w' : World}, (x = .returned (.tuple #[.int .u8 0, .slice none 0 0, .int .i64 0, .bool false]) ∧ ∃ n, w' = w.drewN n) → PiecePost w a none x w' := by
    rintro x w' ⟨rfl, n, rfl⟩
    exact ⟨below_drewN' (Below.refl _ _) _, rfl⟩
  have hlf : leftN a = 64 - a % 64 := rfl
  by_cases h1 : p.length < a + 7
  · rw [pcAt_short (by rw [List.length_take, List.length_drop]; omega)]
    refine (rpiece_short w a _ p hrd hp ha h1).mono ?_
    rintro x w' ⟨rfl, rfl⟩
    exact ⟨Below.refl _ _, rfl⟩
  · by_cases h2 : 57 < a % 64
    · rw [pcAt_short (by rw [List.length_take, List.length_drop]; omega)]
      refine (rpiece_late w a _ p hrd hp (by omega) h2).mono ?_
      rintro x w' ⟨rfl, rfl⟩
      exact ⟨Below.refl _ _, rfl⟩
    · obtain ⟨s0, s1, s2, s3, n0, n1, k, r, hq⟩ := seven (q := (p.drop a).take (leftN a)) (by rw [List.length_take, List.length_drop]; omega)
      have g := fun j u h => win_get hq j u h
      have d4 := cell_get hcs (g 4 n0 rfl)
      have d5 := cell_get hcs (g 5 n1 rfl)
      have d6 := cell_get hcs (g 6 k rfl)
      have hrl : r.length = min p.length (a + leftN a) - a - 7 := by
        have := congrArg List.length hq
        rw [List.length_take, List.length_drop] at this
        simp at this
        omega
      have hm := mod_64 a
      obtain ⟨x, hx⟩ : ∃ x, a % 64 = x := ⟨_, rfl⟩
      rw [hx] at hm h2 hlf
      obtain ⟨sz, hsz⟩ : ∃ sz, n0.toNat + n1.toNat * 256 = sz := ⟨_, rfl⟩
      have hn0 := n0.toNat_lt
      have hn1 := n1.toNat_lt
      have hkl := k.toNat_lt
      rw [pcAt_eq hq, hsz]
      by_cases hA : 64 < x + 7 + sz
      · rw [if_neg (by omega)]
        exact (rpieceA w a b off c p.length x n0.toNat n1.toNat k.toNat sz (by omega) (by omega) hm (by omega) (by omega) d4 d5 d6 (by omega) (by omega) (by omega) (by omega) (by omega)).mono fun _ _ h => hno h
      · by_cases hB : p.length < a + 7 + sz
        · rw [if_neg (by omega)]
          exact (rpieceB w a b off c p.length x n0.toNat n1.toNat k.toNat sz (by omega) (by omega) hm (by omega) (by omega) d4 d5 d6 (by omega) (by omega) (by omega) (by omega) (by omega) (by omega)).mono fun _ _ h => hno h
        · by_cases hC : k.toNat < 1
          · rw [if_neg (by omega)]
            exact (rpieceC w a b off c p.length x n0.toNat n1.toNat k.toNat sz (by omega) (by omega) hm (by omega) (by omega) d4 d5 d6 (by omega) (by omega) (by omega) (by omega) (by omega) (by omega) (by omega)).mono fun _ _ h => hno h
          · by_cases hD : 4 < k.toNat
            · rw [if_neg (by omega)]
              exact (rpieceD w a b off c p.length x n0.toNat n1.toNat k.toNat sz (by omega) (by omega) hm (by omega) (by omega) d4 d5 d6 (by omega) (by omega) (by omega) (by omega) (by omega) (by omega) (by omega) (by omega)).mono fun _ _ h => hno h
            · have htl : (r.take sz).length = sz := by rw [List.length_take]; omega
              have hwd : (p.drop a).take (7 + sz) = [s0, s1, s2, s3, n0, n1, k] ++ r.take sz := by
                have : (p.drop a).take (7 + sz) = ((p.drop a).take (leftN a)).take (7 + sz) := by rw [List.take_take, Nat.min_eq_left (by omega)]
                rw [this, hq, show 7 + sz = sz + 7 by omega]
                rfl
              have R1 : Rd w (.slice (some ⟨b, off + (a + 6), none⟩) (a + 7 + sz - (a + 6)) (c - (a + 6))) (k :: r.take sz) := by
                have h9 := rd_sub hcs (a + 6) (1 + sz) (c - (a + 6)) (by omega) (by omega) (by omega)
                have e9 : (p.drop (a + 6)).take (1 + sz) = k :: r.take sz := by
                  have e8 : (p.drop (a + 6)).take (1 + sz) = ((p.drop a).take (7 + sz)).drop 6 := by rw [List.drop_take, List.drop_drop, show 7 + sz - 6 = 1 + sz by omega]
                  rw [e8, hwd]
                  rfl
                rw [e9] at h9
                rw [show a + 7 + sz - (a + 6) = 1 + sz by omega]
                exact h9
              have R2 : Rd w (.slice (some ⟨b, off + a, none⟩) (a + 4 - a) (c - a)) [s0, s1, s2, s3] := by
                have h9 := rd_sub hcs a 4 (c - a) (by omega) (by omega) (by omega)
                have e9 : (p.drop a).take 4 = [s0, s1, s2, s3] := by
                  have e8 : (p.drop a).take 4 = ((p.drop a).take (7 + sz)).take 4 := by rw [List.take_take, Nat.min_eq_left (by omega)]
                  rw [e8, hwd]
                  rfl
                rw [e9] at h9
                rw [show a + 4 - a = 4 by omega]
                exact h9
              have hlb := low_beq s0 s1 s2 s3 (sumK k (r.take sz)) (Crc.mask_lt _)
              by_cases hE : Crc.low [s0, s1, s2, s3] = sumK k (r.take sz)
              · rw [if_pos ⟨by omega, hE⟩]
                rw [decide_eq_true hE] at hlb
                obtain ⟨off7, f1, f2, f3⟩ : ∃ off7, (¬ c = a + 7 → off7 = off + (a + 7)) ∧ (c = a + 7 → off7 = off) ∧ Rd w (.slice (some ⟨b, off7, none⟩) sz (c - (a + 7))) (r.take sz) := by
                  have e9 : (p.drop (a + 7)).take sz = r.take sz := by
                    have e8 : (p.drop (a + 7)).take sz = ((p.drop a).take (7 + sz)).drop 7 := by rw [List.drop_take, List.drop_drop, show 7 + sz - 7 = sz by omega]
                    rw [e8, hwd]
                    rfl
                  by_cases hca : c = a + 7
                  · refine ⟨off, fun h => absurd hca h, fun _ => rfl, ?_⟩
                    obtain rfl : sz = 0 := by omega
                    rw [List.take_zero]
                    exact rd_none b off _ (by omega)
                  · refine ⟨off + (a + 7), fun _ => rfl, fun h => absurd h hca, ?_⟩
                    rw [← e9]
                    exact rd_sub hcs (a + 7) sz (c - (a + 7)) (by omega) (by omega) (by omega)
                refine (rpieceF w a b off c p.length x n0.toNat n1.toNat k.toNat sz (by omega) (by omega) hm (by omega) (by omega) d4 d5 d6 (by omega) (by omega) (by omega) (by omega) (by omega) (by omega) (by omega) (by omega) k (r.take sz) [s0, s1, s2, s3] _ R1 R2 htl rfl hlb hb off7 f3 (Decidable.byCases (p := c = a + 7) (fun hca => .inr ⟨hca, f2 hca⟩) (fun hca => .inl ⟨hca, f1 hca⟩))).mono ?_
                rintro e w' ⟨⟨y, rfl, oy⟩, hb'⟩
                exact ⟨hb', y, by rw [htl], oy⟩
              · rw [if_neg (fun h => hE h.2)]
                rw [decide_eq_false hE] at hlb
                refine (rpieceE w a b off c p.length x n0.toNat n1.toNat k.toNat sz (by omega) (by omega) hm (by omega) (by omega) d4 d5 d6 (by omega) (by omega) (by omega) (by omega) (by omega) (by omega) (by omega) (by omega) k (r.take sz) [s0, s1, s2, s3] _ R1 R2 htl rfl hlb).mono ?_
                rintro e w' ⟨rfl, hb'⟩
                exact ⟨hb', rfl⟩

end Go.Proofs.YtmgofohaoppajaaDoor

/- What the document reads of a reel is what the program reads. -/
namespace Go.Proofs.YtmgofohaoppajaaDoor
set_option maxRecDepth 20000
open Go.RowKit
set_option linter.unusedVariables false

/-- the document's pieces of a record, put together; are they whole -/
def gathR : Nat → List UInt8 → Nat → List UInt8 → List UInt8 × Bool
  | 0, _, _, t => (t, false)
  | n + 1, p, k, t => match pcAt p (k + gapN k) with
    | none => (t, false)
    | some (kd, q) => if kd.toNat = 1 ∨ kd.toNat = 4 then (t ++ q, true) else gathR n p (k + gapN k + 7 + q.length) (t ++ q)

theorem pcAt_left {p : List UInt8} {a : Nat} {q : UInt8 × List UInt8} (h : pcAt p a = some q) : 7 ≤ leftN a ∧ a + 7 ≤ p.length := by
  by_cases h1 : ((p.drop a).take (leftN a)).length < 7
  · rw [pcAt_short h1] at h; cases h
  · rw [List.length_take, List.length_drop] at h1
    omega

theorem gap_no {a : Nat} (h : 7 ≤ leftN a) : gapN a = 0 := by unfold gapN; rw [if_neg (by omega)]

theorem gath_rec : ∀ (n m : Nat) (p : List UInt8) (nx k : Nat) (t r : List UInt8) (e : Nat), k + gapN k = nx → p.length < m + nx + 7 → recG n p nx t = some (r, e) → gathR m p k t = (r, true)
  | 0, m, p, nx, k, t, r, e, _, _, h => by rw [recG] at h; cases h
  | n + 1, m, p, nx, k, t, r, e, hk, hm, h => by
    rw [recG] at h
    cases hp : pcAt p nx with
    | none => rw [hp] at h; cases h
    | some q =>
      obtain ⟨kd, q⟩ := q
      rw [hp] at h
      simp only at h
      have hl := pcAt_left hp
      obtain ⟨m', rfl⟩ : ∃ m', m = m' + 1 := ⟨m - 1, by omega⟩
      rw [gathR, hk, hp]
      simp only
      by_cases hf : kd.toNat = 1 ∨ kd.toNat = 4
      · rw [if_pos hf] at h ⊢
        simp only [Option.some.injEq, Prod.mk.injEq] at h
        rw [h.1]
      · rw [if_neg hf] at h ⊢
        have hg : gapN (nx + 7 + q.length) = 0 := by
          cases n with
          | zero => rw [recG] at h; cases h
          | succ n =>
            rw [recG] at h
            cases hp2 : pcAt p (nx + 7 + q.length) with
            | none => rw [hp2] at h; cases h
            | some _ => exact gap_no (pcAt_left hp2).1
        exact gath_rec n m' p (nx + 7 + q.length) (nx + 7 + q.length) (t ++ q) r e (by rw [hg]; rfl) (by omega) h

/-- what the document takes for the record at a place -/
theorem recAt_ref (p : List UInt8) (a : Nat) : recAt p a = if (gathR p.length p a []).2 = true ∧ (gathR p.length p a []).1.length ≤ 65536 ∧ (frameB a (gathR p.length p a []).1).length ≤ p.length - a ∧ (p.drop a).take (frameB a (gathR p.length p a []).1).length = frameB a (gathR p.length p a []).1 then some ((gathR p.length p a []).1, a + (frameB a (gathR p.length p a []).1).length) else none := by
  split
  · rename_i h
    obtain ⟨_, h2, h3, h4⟩ := h
    refine recAt_frame p ((p.drop a).drop (frameB a (gathR p.length p a []).1).length) _ a h2 ?_
    conv => lhs; rw [← List.take_append_drop (frameB a (gathR p.length p a []).1).length (p.drop a), h4]
  · rename_i hno
    cases hr : recAt p a with
    | none => rfl
    | some q =>
      obtain ⟨l, nx⟩ := q
      exfalso
      obtain ⟨h1, h2, h3, h4⟩ := recAt_some hr
      have hg : recG (p.length + 1) p (a + gapN a) [] = some (l, nx) := by
        unfold recAt at hr
        split at hr
        · cases hr
        · rename_i t' nx' hg
          split at hr
          · simp only [Option.some.injEq, Prod.mk.injEq] at hr
            rw [hg, hr.1, hr.2]
          · cases hr
      have hga := gath_rec (p.length + 1) p.length p (a + gapN a) a [] l nx rfl (by omega) hg
      apply hno
      rw [hga]
      refine ⟨rfl, h1, ?_, ?_⟩
      · have := congrArg List.length h3
        rw [List.length_drop, List.length_append] at this
        show (frameB a l).length ≤ _
        omega
      · show (p.drop a).take (frameB a l).length = frameB a l
        rw [h3, List.take_left]

theorem gathR_len : ∀ (n : Nat) (p : List UInt8) (k : Nat) (t : List UInt8), t.length ≤ p.length → k ≤ p.length → t.length ≤ k → (gathR n p k t).1.length ≤ p.length
  | 0, p, k, t, h, _, _ => by rw [gathR]; exact h
  | n + 1, p, k, t, h, hk, ht => by
    rw [gathR]
    cases hp : pcAt p (k + gapN k) with
    | none => exact h
    | some q =>
      obtain ⟨kd, q⟩ := q
      have hf := pcAt_fits hp
      simp only
      split
      · simp only [List.length_append]; omega
      · exact gathR_len n p _ (t ++ q) (by rw [List.length_append]; omega) hf (by rw [List.length_append]; omega)

theorem gathR_no {g k kk : Nat} {p t : List UInt8} (hk : k + gapN k = kk) (h : pcAt p kk = none) : gathR (g + 1) p k t = (t, false) := by rw [gathR, hk, h]
theorem gathR_fin {g k kk : Nat} {p t q : List UInt8} {kd : UInt8} (hk : k + gapN k = kk) (h : pcAt p kk = some (kd, q)) (hf : kd.toNat = 1 ∨ kd.toNat = 4) : gathR (g + 1) p k t = (t ++ q, true) := by
  rw [gathR, hk, h]
  simp only
  rw [if_pos hf]
theorem gathR_more {g k kk : Nat} {p t q : List UInt8} {kd : UInt8} (hk : k + gapN k = kk) (h : pcAt p kk = some (kd, q)) (hf : ¬ (kd.toNat = 1 ∨ kd.toNat = 4)) : gathR (g + 1) p k t = gathR g p (kk + 7 + q.length) (t ++ q) := by
  rw [gathR, hk, h]
  simp only
  rw [if_neg hf]

end Go.Proofs.YtmgofohaoppajaaDoor

/- bartizanref06.Read. -/
namespace Go.Proofs.YtmgofohaoppajaaDoor
set_option maxRecDepth 100000
open Go.RowKit
set_option linter.unusedVariables false

theorem row_shp {w : World} {base e size n : Nat} {v : Value} {xs : List Value} (h : w.ownsRow base e size v n xs) : ∃ a cp, v = .slice a n cp := by
  rcases h.2 with ⟨e', hn⟩ | ⟨g, cap, cur, e', r⟩
  · exact ⟨none, 0, by rw [e', hn]⟩
  · exact ⟨_, cap, e'⟩

/-- append of whatever row, nil or not, to a row of one's own, nil or not -/
theorem wpList_append_sn {P : Program} {w : World} {ops : Array Oper} {rest : List Oper} {o : Oper} {a : Act} {Q : Exit → Act → World → Prop} (hgd : o.guard = none) (s x : Operand) (t : TypeId)
    (ho : o.op = .call { callee := .builtin .append, args := #[s, x], argTypes := #[t, t] })
    (base : Nat) (e : TypeId) (i : TypeInfo) (z : Value) (size bytes : Nat) (ht : P.underlying t = some (.slice e)) (hi : P.info? e = some i) (hz : i.zero = some z)
    (hsize : i.size = size) (hby : i.bytes = bytes) (hzs : z.cells.size = size) (hsz : 0 < size)
    (v : Value) (n : Nat) (xs : List Value) (hs : a.eval s = v) (hown : w.ownsRow base e size v n xs)
    (vx : Value) (hx : a.eval x = vx) (m : Nat) (news : List Value) (hsrc : (vx = .slice none 0 0 ∧ m = 0 ∧ news = []) ∨ ∃ ad c, vx = .slice (some ad) m c ∧ news.length = m * size ∧ ∀ j u, news[j]? = some u → w.cell? (ad.add j) = some u) (h1 : ∀ u ∈ news, u.oneCell' = true)
    (h63 : n + m ≤ maxLen) (hbytes : (n + m) * bytes ≤ 140737488355328) (hbase : base ≤ w.heap.size)
    (h : ∀ g c w', w'.ownsRow base e size (.slice g (n + m) c) (n + m) (xs ++ news) → w.grownBy w' v.ownBlock → wpList P ops Q rest (a.put o.dst (.slice g (n + m) c)) w') : wpList P ops Q (o :: rest) a w := by
  rcases hsrc with ⟨rfl, rfl, rfl⟩ | ⟨ad, c, rfl, hl, hnews⟩
  · obtain ⟨g, cp, e'⟩ := row_shp hown
    have hown' := hown
    rw [e'] at hown'
    refine wpList_append_own_none hgd s x t ho base e i size ht hi v n xs hs hown hx ?_
    rw [e']
    exact h g cp w (by simpa using hown') ⟨rfl, rfl, rfl, Nat.le_refl _, fun _ _ _ => rfl⟩
  · refine wpList_append_own w hgd s x t ho base e i z size bytes ht hi hz hsize hby hzs hsz v n xs hs hown ad m c news hx hl hnews h1 h63 hbytes hbase fun v' w' h2 h3 h4 => ?_
    obtain ⟨g, cp, e'⟩ := row_shp h2
    subst e'
    exact h g cp w' h2 h3

theorem OwnN.src {B : Nat} {w : World} {y : Value} {t : List UInt8} (h : OwnN B w y t) : (y = .slice none 0 0 ∧ t.length = 0 ∧ bv t = []) ∨ ∃ ad c, y = .slice (some ad) t.length c ∧ (bv t).length = t.length * 1 ∧ ∀ j u, (bv t)[j]? = some u → w.cell? (ad.add j) = some u := by
  rcases h with ⟨rfl, rfl⟩ | h
  · exact .inl ⟨rfl, rfl, rfl⟩
  · obtain ⟨g, k, rfl⟩ := h.shape
    exact .inr ⟨_, k, rfl, by rw [bv_length, Nat.mul_one], (rd_cells h.rd).2⟩

/-- make, as one step of a region that draws its order, behind '&&' -/
theorem step_mkg {P : Program} {o : Oper} {a : Act} {w : World} {K : Act → World → Prop} {Q : Exit → Act → World → Prop}
    (l c : Operand) (t : TypeId) (hop : o.op = Op.makeSlice t l c)
    (base : Nat) (e : TypeId) (i : TypeInfo) (z : Value) (size : Nat) (h1 : P.underlying t = some (.slice e)) (h2 : P.info? e = some i) (h3 : i.zero = some z) (h4 : i.size = size)
    (kl kc : IntKind) (L C : Int) (n : Nat) (hl : a.eval l = .int kl L) (hc : a.eval c = .int kc C) (hL : L = (n : Int)) (hC : C = (n : Int)) (b2 : i.bytes * n ≤ 281474976710656) (b3 : n ≤ maxLen) (b4 : base ≤ w.heap.size)
    (hK : ∀ w', w'.ownsRow base e size (.slice (some ⟨w.heap.size, 0, none⟩) n n) n (madeCells z.cells (n * size)).toList → w.grownBy w' none → K (a.put o.dst (.slice (some ⟨w.heap.size, 0, none⟩) n n)) w') :
    Oper.wp P o a w K Q := by
  obtain ⟨w', hrun, r1, r2⟩ := run_make_full (P := P) w base t e i z size h1 h2 h3 h4 kl kc n b2 b3 b4
  subst hL
  subst hC
  unfold Oper.wp
  simp [execOp, hop, hl, hc, hrun, Result.andThen]
  exact hK w' r1 r2

theorem rowN {B : Nat} {w : World} {v : Value} {t : List UInt8} (h : w.ownsRow B 5 1 v t.length (bv t)) : OwnN B w v t := by
  by_cases hv : v = .slice none 0 0
  · refine .inl ⟨hv, ?_⟩
    rcases h.2 with ⟨_, hn⟩ | ⟨g, cap, cur, e', r⟩
    · exact List.eq_nil_of_length_eq_zero hn
    · rw [hv] at e'; cases e'
  · exact .inr (Own.of_row h hv)

set_option maxHeartbeats 4000000 in
theorem rread6_any (w : World) (b off c : Nat) (p : List UInt8) (hcs : ∀ j u, (bv p)[j]? = some u → w.cell? ⟨b, off + j, none⟩ = some u) (hb : b < w.heap.size) (hc : p.length ≤ c) (hM : c ≤ 9223372036854775807) (hp : p.length ≤ 65535) :
    Calls Tryd.prog 14 #[.slice (some ⟨b, off, none⟩) p.length c] w fun x w' => ∃ (y : Value) (n : Int), x = .returned (.tuple #[y, .int .i64 n]) ∧ OwnT w.heap.size w' y (readB p).1 ∧ Below w.heap.size w w' := by
  obtain ⟨i0, hi, hz0, hz1, hz2⟩ := info_parts info24
  obtain ⟨i5, hi5, hz50, hz51, hz52⟩ := info_parts info5
  have HCS : Hid (∀ j u, (bv p)[j]? = some u → w.cell? ⟨b, off + j, none⟩ = some u) := hcs
  obtain ⟨L, hL⟩ : ∃ L, p.length = L := ⟨_, rfl⟩
  have HL : Hid (p.length = L) := hL
  rw [hL] at hc hp ⊢
  clear hcs hL
  go_enter Tryd.func14, Tryd.ntmps14
  go_upto_block 0 with fail
  go_cut [4, 5] (fun pv iv wx => ∃ (a : Nat) (ls : List (List UInt8)) (la : Option Addr) (lc : Nat), iv = .int .i64 (a : Int) ∧ pv = .slice la ls.length lc ∧ a ≤ L ∧ Hid ((readB p).1 = ls) ∧ Hid (OwnT w.heap.size wx pv ls) ∧ Hid (Below w.heap.size w wx))
  case first =>
    go_wp2_with fail
    go_loopg [4, 5] (L + 1) (fun gk pv iv wr => ∃ (a : Nat) (ls : List (List UInt8)) (la : Option Addr) (lc : Nat), gk + a = L + 1 ∧ iv = .int .i64 (a : Int) ∧ pv = .slice la ls.length lc ∧ Hid (ReadI w wr p a pv ls))
    case atStart => exact ⟨0, [], none, 0, by omega, rfl, rfl, ⟨rfl, OwnT.nil _ _, Below.refl _ _, Nat.zero_le _, by simp⟩⟩
    case round =>
      obtain ⟨a, ls, la, lc, hga, rfl, rfl, HI⟩ := hrel
      obtain ⟨wo, hwo⟩ : ∃ wo, wo = wr := ⟨wr, rfl⟩
      subst hwo
      by_cases hlt : a < L
      · have haI : (a : Int) < (L : Int) := by omega
        obtain ⟨G1, hG1⟩ : ∃ G1, G1 = gk := ⟨gk, rfl⟩
        subst hG1
        obtain ⟨⟨T, GD⟩, hT⟩ : ∃ y, gathR p.length p a [] = y := ⟨_, rfl⟩
        have HT : Hid (gathR p.length p a [] = (T, GD)) := hT
        have hTl : T.length ≤ L := by
          have h9 := gathR_len p.length p a [] (Nat.zero_le _) HI.out.le (Nat.zero_le _)
          rw [hT] at h9
          simp only at h9
          have := HL.out
          omega
        clear hT
        go_upto_block 2 with fail
        go_cut [7, 8] (fun tv gv wx => ∃ (ba : Option Addr) (bc : Nat), tv = .slice ba T.length bc ∧ gv = .bool GD ∧ Hid (wx.ownsRow wo.heap.size 5 1 tv T.length (bv T)) ∧ Hid (Below wo.heap.size wo wx))
        case first =>
          go_wp2_with fail
          go_loopg [6, 7, 8, 23] L (fun gk kv tv gv iv wr => ∃ (i k : Nat) (t : List UInt8) (ba : Option Addr) (bc : Nat), gk + i = L ∧ iv = .int .i64 (i : Int) ∧ kv = .int .i64 (k : Int) ∧ tv = .slice ba t.length bc ∧ gv = .bool false ∧ k ≤ L ∧ t.length ≤ k ∧ Hid (gathR gk p k t = (T, GD)) ∧ Hid (wr.ownsRow wo.heap.size 5 1 tv t.length (bv t)) ∧ Hid (Below wo.heap.size wo wr))
          case atStart => exact ⟨0, a, [], none, 0, by omega, rfl, rfl, rfl, rfl, by omega, Nat.zero_le _, by show _ = _; rw [← HL.out]; exact HT.out, World.ownsRow_nil _ _ _ _, Below.refl _ _⟩
          case round =>
            obtain ⟨i, k, t, ba, bc, hgi, rfl, rfl, rfl, rfl, hkL, htk, HG, HO, HB⟩ := hrel
            by_cases hil : i < L
            · obtain ⟨g, rfl⟩ : ∃ g, gk = g + 1 := ⟨gk - 1, by omega⟩
              have hiI : (i : Int) < (L : Int) := by omega
              obtain ⟨kk, hkk⟩ : ∃ kk, k + gapN k = kk := ⟨_, rfl⟩
              have HKK : Hid (k + gapN k = kk) := hkk
              have hkb : kk ≤ 70000 := by
                rw [← hkk]
                unfold gapN leftN
                split <;> omega
              clear hkk
              go_upto_if 27 with fail
              go_cut [6] (fun kv wx => kv = .int .i64 (kk : Int) ∧ wx = wr)
              case first =>
                by_cases h57 : (57 : Int) < (k : Int) % 64
                · have hfin : Hid ((k : Int) + (64 - (k : Int) % 64) = (kk : Int)) := by
                    show _ = _
                    rw [← HKK.out]
                    unfold gapN leftN
                    split <;> omega
                  go_wp2_with fail
                  go_meet
                  exact ⟨by rw [hfin.out], rfl⟩
                · have hfin : Hid ((k : Int) = (kk : Int)) := by
                    show _ = _
                    rw [← HKK.out]
                    unfold gapN leftN
                    split <;> omega
                  go_wp2_with fail
                  go_meet
                  exact ⟨by rw [hfin.out], rfl⟩
              case rest =>
                obtain ⟨rfl, hwc⟩ := hcut
                rw [hwc]
                clear hwc
                have hpc := rpiece_at wr kk b off c p (fun j u hu => by have h9 := HCS.out j u hu; rw [(HI.out.be.trans (HB.out.mono HI.out.be.size)).cell (p := ⟨b, off + j, none⟩) hb]; exact h9) (Nat.lt_of_lt_of_le hb (HI.out.be.trans (HB.out.mono HI.out.be.size)).size) (by omega) (by rw [HL.out]; exact hc) (by unfold maxLen; exact hM) (by rw [HL.out]; omega)
                rw [HL.out] at hpc
                cases hq : pcAt p kk with
                | none =>
                  have HE : Hid (t = T ∧ false = GD) := by
                    have h9 := HG.out
                    rw [gathR_no HKK.out hq] at h9
                    simp only [Prod.mk.injEq] at h9
                    exact h9
                  rw [hq] at hpc
                  clear hq
                  go_wp2_with fail
                  refine hpc.mono ?_
                  rintro x w2 ⟨hb2, rfl⟩
                  have HO2 : Hid (w2.ownsRow wo.heap.size 5 1 (.slice ba t.length bc) t.length (bv t)) := row_below HO.out hb2
                  have HB2 : Hid (Below wo.heap.size wo w2) := HB.out.trans (hb2.mono HB.out.size)
                  clear hpc hb2
                  go_wp2_with fail
                  go_meet
                  obtain ⟨e1, e2⟩ := HE.out
                  subst e1 e2
                  exact ⟨ba, bc, rfl, rfl, HO2, HB2⟩
                | some kq =>
                  obtain ⟨kd, q⟩ := kq
                  rw [hq] at hpc
                  have hft := pcAt_fits hq
                  have HFT : Hid (kk + 7 + q.length ≤ L ∧ k ≤ kk) := by
                    show _ ∧ _
                    have := HL.out
                    have := HKK.out
                    omega
                  have HQ : Hid (pcAt p kk = some (kd, q)) := hq
                  have HBD : Hid (t.length + q.length ≤ maxLen ∧ (t.length + q.length) * 1 ≤ 140737488355328) := by
                    show _ ∧ _
                    have := HFT.out
                    unfold maxLen
                    omega
                  obtain ⟨kn, hkn⟩ : ∃ kn, kd.toNat = kn := ⟨_, rfl⟩
                  have HKN : Hid (kd.toNat = kn) := hkn
                  have hnx : ((kk + 7 + q.length : Nat) : Int) = (kk : Int) + 7 + (q.length : Int) := by omega
                  have HNX : Hid _ := hnx
                  obtain ⟨nx, hnx2⟩ : ∃ nx, kk + 7 + q.length = nx := ⟨_, rfl⟩
                  have HNX2 : Hid (kk + 7 + q.length = nx) := hnx2
                  clear hq hft hnx
                  go_wp2_with fail
                  refine hpc.mono ?_
                  rintro x w2 ⟨hb2, y, rfl, oy⟩
                  rw [hkn, hnx2]
                  have hO2 := row_below HO.out hb2
                  have hB2 := HB.out.trans (hb2.mono HB.out.size)
                  have hsr := oy.src
                  obtain ⟨yl, hyl⟩ : ∃ yl, q.length = yl := ⟨_, rfl⟩
                  obtain ⟨ya, yc, rfl⟩ := oy.rd.len
                  have hse := hB2.size
                  have HB2 : Hid (Below wo.heap.size wo w2) := hB2
                  have HO2 : Hid _ := hO2
                  clear hpc hb2 oy hB2 hkn hnx2 hyl
                  by_cases h1 : kn = 1
                  · have h1I : (kn : Int) = 1 := by omega
                    have HE : Hid (t ++ q = T ∧ true = GD) := by
                      have h9 := HG.out
                      rw [gathR_fin HKK.out HQ.out (by rw [HKN.out]; omega)] at h9
                      simp only [Prod.mk.injEq] at h9
                      exact h9
                    go_wp2_with (first | (at_builtin; refine wpList_append_sn rfl (.tmp 43) (.tmp 44) 26 rfl wo.heap.size 5 i5 (.int .u8 0) 1 1 Tryd.underlying26 hi5 hz50 hz51 hz52 rfl (by decide) (.slice ba t.length bc) t.length (bv t) rfl hO2 (.slice ya q.length yc) rfl q.length (bv q) hsr (bv_one _) HBD.out.1 HBD.out.2 hse ?_; intro g4 c4 w4 hown hgrow; have HO4 : Hid (w4.ownsRow wo.heap.size 5 1 (.slice g4 (t.length + q.length) c4) (t ++ q).length (bv (t ++ q))) := (by rw [List.length_append, bv_append]; exact hown); have HB4 : Hid (Below wo.heap.size wo w4) := HB2.out.grown hgrow HB2.out.size (fun k' e => (hO2.lt k' e).1); clear hown hgrow) | fail)
                    go_meet
                    obtain ⟨e1, e2⟩ := HE.out
                    subst e1 e2
                    exact ⟨g4, c4, by rw [List.length_append], rfl, HO4, HB4⟩
                  · have h1I : ¬ (kn : Int) = 1 := by omega
                    have h1b : ((kn : Int) == 1) = false := by simpa using h1I
                    by_cases h4 : kn = 4
                    · have h4I : (kn : Int) = 4 := by omega
                      have HE : Hid (t ++ q = T ∧ true = GD) := by
                        have h9 := HG.out
                        rw [gathR_fin HKK.out HQ.out (by rw [HKN.out]; omega)] at h9
                        simp only [Prod.mk.injEq] at h9
                        exact h9
                      go_wp2_with (first | (at_builtin; refine wpList_append_sn rfl (.tmp 43) (.tmp 44) 26 rfl wo.heap.size 5 i5 (.int .u8 0) 1 1 Tryd.underlying26 hi5 hz50 hz51 hz52 rfl (by decide) (.slice ba t.length bc) t.length (bv t) rfl hO2 (.slice ya q.length yc) rfl q.length (bv q) hsr (bv_one _) HBD.out.1 HBD.out.2 hse ?_; intro g4 c4 w4 hown hgrow; have HO4 : Hid (w4.ownsRow wo.heap.size 5 1 (.slice g4 (t.length + q.length) c4) (t ++ q).length (bv (t ++ q))) := (by rw [List.length_append, bv_append]; exact hown); have HB4 : Hid (Below wo.heap.size wo w4) := HB2.out.grown hgrow HB2.out.size (fun k' e => (hO2.lt k' e).1); clear hown hgrow) | fail)
                      go_meet
                      obtain ⟨e1, e2⟩ := HE.out
                      subst e1 e2
                      exact ⟨g4, c4, by rw [List.length_append], rfl, HO4, HB4⟩
                    · have h4I : ¬ (kn : Int) = 4 := by omega
                      have h4b : ((kn : Int) == 4) = false := by simpa using h4I
                      have HE : Hid (gathR g p nx (t ++ q) = (T, GD)) := by
                        have h9 := HG.out
                        rw [gathR_more HKK.out HQ.out (by rw [HKN.out]; omega), HNX2.out] at h9
                        exact h9
                      have HNN : Hid (nx ≤ L ∧ (t ++ q).length ≤ nx) := by
                        have h1 := HFT.out
                        have h2 := HNX2.out
                        refine ⟨by omega, ?_⟩
                        rw [List.length_append]
                        omega
                      go_wp2_with (first | (at_builtin; refine wpList_append_sn rfl (.tmp 43) (.tmp 44) 26 rfl wo.heap.size 5 i5 (.int .u8 0) 1 1 Tryd.underlying26 hi5 hz50 hz51 hz52 rfl (by decide) (.slice ba t.length bc) t.length (bv t) rfl hO2 (.slice ya q.length yc) rfl q.length (bv q) hsr (bv_one _) HBD.out.1 HBD.out.2 hse ?_; intro g4 c4 w4 hown hgrow; have HO4 : Hid (w4.ownsRow wo.heap.size 5 1 (.slice g4 (t.length + q.length) c4) (t ++ q).length (bv (t ++ q))) := (by rw [List.length_append, bv_append]; exact hown); have HB4 : Hid (Below wo.heap.size wo w4) := HB2.out.grown hgrow HB2.out.size (fun k' e => (hO2.lt k' e).1); clear hown hgrow) | fail)
                      go_roundg g
                      case measure => omega
                      case rel => exact ⟨i + 1, nx, t ++ q, g4, c4, by omega, by go_num, rfl, by rw [List.length_append], rfl, HNN.out.1, HNN.out.2, HE, HO4, HB4⟩
            · have hiI : ¬ (i : Int) < (L : Int) := by omega
              obtain rfl : gk = 0 := by omega
              have HE : Hid (t = T ∧ false = GD) := by
                have h9 := HG.out
                rw [gathR] at h9
                simp only [Prod.mk.injEq] at h9
                exact h9
              go_wp2_with fail
              go_meet
              obtain ⟨e1, e2⟩ := HE.out
              subst e1 e2
              exact ⟨ba, bc, rfl, rfl, HO, HB⟩
        case rest =>
          obtain ⟨ba, bc, rfl, rfl, HO, HBx⟩ := hcut
          have hra := recAt_ref p a
          rw [HT.out] at hra
          simp only at hra
          have HRA : Hid _ := hra
          have hLL := HL.out
          have HST : Hid (∀ nx, recAt p a = some (T, nx) → readB p = readG (p.length + 1) p nx (ls ++ [T])) := by
            intro nx h
            rw [HI.out.eq, readG_step (by omega), h]
          have HEN : Hid (recAt p a = none → (readB p).1 = ls) := by
            intro h
            rw [HI.out.eq, readG_step (by omega), h]
          have hfr := rframe_any wc a _ T (rowN HO.out).rd (fun q hq => (HO.out.lt q hq).2) (by omega)
          obtain ⟨FR, hFR⟩ : ∃ FR, frameB a T = FR := ⟨_, rfl⟩
          have hfl := frameB_long a T
          rw [hFR] at hfr HRA hfl
          have HB0 : Hid (Below w.heap.size w wc) := HI.out.be.trans (HBx.out.mono HI.out.be.size)
          have HFL : Hid (0 < FR.length) := by show 0 < _; omega
          clear hra hFR hfl
          go_wp2_with fail
          refine hfr.mono ?_
          rintro x w2 ⟨gf, cf, rfl, oF, hb2⟩
          have HB2 : Hid (Below w.heap.size w w2) := HB0.out.trans (hb2.mono HB0.out.size)
          have HOF : Hid (Rd w2 (.slice (some ⟨gf, 0, none⟩) FR.length cf) FR) := oF.rd
          have HOT : Hid (OwnT w.heap.size w2 (.slice la ls.length lc) ls) := (HI.out.ow.below HBx.out (Nat.le_refl _)).below hb2 (Nat.le_refl _)
          have HON : Hid (OwnN w.heap.size w2 (.slice ba T.length bc) T) := ((rowN HO.out).below hb2 (Nat.le_refl _)).mono HI.out.be.size
          have haL : a ≤ L := by omega
          clear hfr hb2 oF
          cases GD with
          | false =>
            have HE : Hid ((readB p).1 = ls) := HEN.out (by rw [HRA.out, if_neg (by simp)])
            go_wp2_with fail
            go_meet
            exact ⟨a, ls, la, lc, rfl, rfl, haL, HE, HOT, HB2⟩
          | true =>
            by_cases hfit : FR.length ≤ L - a
            · have hfI : ¬ ((L : Int) - (a : Int) < (FR.length : Int)) := by omega
              have hcp : ∀ j u, (bv p)[j]? = some u → w2.cell? ⟨b, off + j, none⟩ = some u := fun j u hu => by
                have h9 := HCS.out j u hu
                rw [HB2.out.cell (p := ⟨b, off + j, none⟩) hb]
                exact h9
              have hsub := rd_sub hcp a FR.length (c - a) (by omega) (by unfold maxLen; omega) (by omega)
              obtain ⟨r, hr⟩ : ∃ r, (FR == (p.drop a).take FR.length) = r := ⟨_, rfl⟩
              have hsm := same_b w2 _ _ FR ((p.drop a).take FR.length) r HOF.out hsub hr
              have HR : Hid ((FR == (p.drop a).take FR.length) = r) := hr
              have hacI : (a : Int) + (FR.length : Int) ≤ (c : Int) := by omega
              clear hcp hsub hr
              cases r with
              | false =>
                have HE : Hid ((readB p).1 = ls) := HEN.out (by
                  rw [HRA.out, if_neg]
                  rintro ⟨_, _, _, h4⟩
                  have h9 := HR.out
                  rw [h4] at h9
                  simp at h9)
                go_wp2_with fail
                refine hsm.mono ?_
                rintro x w3 ⟨rfl, hw3⟩
                subst w3
                clear hsm
                go_wp2_with fail
                go_meet
                exact ⟨a, ls, la, lc, rfl, rfl, haL, HE, HOT, HB2⟩
              | true =>
                have HEQ : Hid (readB p = readG (p.length + 1) p (a + FR.length) (ls ++ [T])) := HST.out _ (by
                  rw [HRA.out, if_pos]
                  exact ⟨rfl, by omega, by omega, (eq_of_beq HR.out).symm⟩)
                have HNX : Hid (a + FR.length ≤ L ∧ L + 1 - (a + FR.length) < G1 ∧ L + 1 - (a + FR.length) + (a + FR.length) = L + 1 ∧ ls.length ≤ a) := by
                  have h1 := HFL.out
                  have h2 := HI.out.nm
                  show _ ∧ _ ∧ _ ∧ _
                  omega
                have hbe : Below w2.heap.size w2 (w2.alloc (.cells #[.slice ba T.length bc] 26)) := (Below.refl _ _).alloc (Nat.le_refl _) _
                have hOe := HOT.out.below hbe (Nat.le_refl _)
                have oxe := HON.out.below hbe (Nat.le_refl _)
                obtain ⟨cs, hrow, hel⟩ := hOe
                have HBe : Hid (Below w.heap.size w (w2.alloc (.cells #[.slice ba T.length bc] 26))) := HB2.out.trans (hbe.mono HB2.out.size)
                have hse : w.heap.size ≤ (w2.alloc (.cells #[.slice ba T.length bc] 26)).heap.size := HBe.out.size
                have HBD : Hid (ls.length + 1 ≤ maxLen ∧ (ls.length + 1) * 24 ≤ 140737488355328) := by
                  have h2 := HI.out.nm
                  show _ ∧ _
                  unfold maxLen
                  omega
                have HOX : Hid _ := oxe
                have HEL : Hid _ := hel
                clear hbe oxe hel
                go_wp2_with fail
                refine hsm.mono ?_
                rintro x w3 ⟨rfl, hw3⟩
                subst w3
                clear hsm
                go_wp2_with (first | (at_builtin; refine wpList_append_lies _ rfl (.tmp 87) (.tmp 89) 32 rfl w.heap.size 26 i0 (.slice none 0 0) 1 24 Tryd.underlying32 hi hz0 hz1 hz2 rfl (by decide) (.slice la ls.length lc) ls.length cs rfl hrow ⟨w2.heap.size, 0, none⟩ 1 1 [.slice ba T.length bc] rfl rfl (laid1 _ _ _) (one_slice _ _ _) (by decide) HBD.out.1 HBD.out.2 hse _ rfl ?_; intro g4 c4 w4 hown hgrow hat hlt4; have HP4 : Hid (OwnT w.heap.size w4 (.slice (some ⟨g4, 0, none⟩) (ls.length + 1) c4) (ls ++ [T])) := own_push1 T hrow HEL.out HOX.out hown hgrow; have HB4 : Hid (Below w.heap.size w w4) := HBe.out.grown hgrow HBe.out.size (fun k' e => (hrow.lt k' e).1); clear hown hgrow hat hlt4) | fail)
                clear hrow
                go_roundg (L + 1 - (a + FR.length))
                case measure => exact HNX.out.2.1
                case rel => exact ⟨a + FR.length, ls ++ [T], some ⟨g4, 0, none⟩, c4, HNX.out.2.2.1, by go_num, by rw [List.length_append]; rfl, ⟨HEQ.out, HP4.out, HB4.out, by rw [HL.out]; exact HNX.out.1, by rw [List.length_append]; have h1 := HNX.out.2.2.2; have h2 := HFL.out; simp; omega⟩⟩
            · have hfI : (L : Int) - (a : Int) < (FR.length : Int) := by omega
              have HE : Hid ((readB p).1 = ls) := HEN.out (by rw [HRA.out, if_neg (by omega)])
              go_wp2_with fail
              go_meet
              exact ⟨a, ls, la, lc, rfl, rfl, haL, HE, HOT, HB2⟩
      · have haI : ¬ (a : Int) < (L : Int) := by omega
        have HE : Hid ((readB p).1 = ls) := by
          show _ = _
          rw [HI.out.eq, readG_step (by have := HL.out; omega), recAt_over (by have := HL.out; omega)]
        go_wp2_with fail
        go_meet
        exact ⟨a, ls, la, lc, rfl, rfl, by have := HI.out.le; have := HL.out; omega, HE, HI.out.ow, HI.out.be⟩
  case rest =>
    obtain ⟨a, ls, la, lc, rfl, rfl, haL, HE, HOT, HB⟩ := hcut
    have HFIN : Hid (OwnT w.heap.size wc (.slice la ls.length lc) (readB p).1) := by rw [HE.out]; exact HOT.out
    obtain ⟨n, hn⟩ : ∃ n, 64 - a % 64 = n := ⟨_, rfl⟩
    have hnI : (64 : Int) - (a : Int) % 64 = (n : Int) := by omega
    have haI : (a : Int) ≤ (L : Int) := by omega
    clear hn
    obtain ⟨d, hd⟩ : ∃ d, L - a = d := ⟨_, rfl⟩
    have hdI : (L : Int) - (a : Int) = (d : Int) := by omega
    have HD : Hid (a + d = L) := by show _ = _; omega
    clear hd
    by_cases h7 : n < 7
    · have h7I : (n : Int) < 7 := by omega
      have h7b : decide ((n : Int) < 7) = true := decide_eq_true h7I
      by_cases hln : d ≤ n
      · have hlI : (d : Int) ≤ (n : Int) := by omega
        have hlb : decide ((d : Int) ≤ (n : Int)) = true := decide_eq_true hlI
        have hcp : ∀ j u, (bv p)[j]? = some u → wc.cell? ⟨b, off + j, none⟩ = some u := fun j u hu => by
          have h9 := HCS.out j u hu
          rw [HB.out.cell (p := ⟨b, off + j, none⟩) hb]
          exact h9
        have hsub := rd_sub hcp a d (c - a) (by have := HD.out; omega) (by unfold maxLen; omega) (by have := HD.out; have := HL.out; omega)
        have HSUB : Hid _ := hsub
        obtain ⟨wm, hrun0, hom, hgm⟩ := run_make_full (P := Tryd.prog) wc.drew wc.heap.size 26 5 i5 (.int .u8 0) 1 Tryd.underlying26 hi5 hz50 hz51 .i64 .i64 d (by rw [hz52]; omega) (by unfold maxLen; omega) (Nat.le_refl _)
        rw [made_list] at hom
        have HBM : Hid (Below w.heap.size w wm) := HB.out.drew.grown hgm HB.out.size (fun k h => by cases h)
        have BC : Below wc.heap.size wc wm := (Below.refl wc.heap.size wc).drew.grown hgm (Nat.le_refl _) (fun k h => by cases h)
        have HFM : Hid (OwnT w.heap.size wm (.slice la ls.length lc) (readB p).1) := HFIN.out.below BC (Nat.le_refl _)
        have HMR : Hid (Rd wm (.slice (some ⟨wc.heap.size, 0, none⟩) d d) (List.replicate d 0)) := by have h9 := (Own.of_row (B := wc.heap.size) (w := wm) (v := .slice (some ⟨wc.heap.size, 0, none⟩) d d) (l := List.replicate d 0) (by rw [List.length_replicate]; simpa [bv] using hom) (by simp)).rd; exact h9
        have HSM : Hid (Rd wm (.slice (if c = a then some ⟨b, off, none⟩ else some ⟨b, off + a, none⟩) (L - a) (c - a)) ((p.drop a).take d)) := by
          have h9 := hsub.below BC (Nat.le_refl _)
          have h8 := HD.out
          rw [show L - a = d by omega]
          split
          · have hd0 : d = 0 := by omega
            subst hd0
            rw [List.take_zero]
            exact .inr ⟨b, off, c - a, rfl, Nat.zero_le _, by unfold maxLen; omega, fun j u hu => by simp [bv] at hu⟩
          · exact h9
        have HRUN2 : Hid _ := hrun0
        obtain ⟨r, hr⟩ : ∃ r, ((p.drop a).take d == List.replicate d 0) = r := ⟨_, rfl⟩
        have hsm := same_b wm _ (.slice (some ⟨wc.heap.size, 0, none⟩) d d) ((p.drop a).take d) (List.replicate d 0) r HSM.out HMR.out hr
        clear hcp hsub HSUB BC hom hgm hrun0 hr
        cases r with
        | false =>
          by_cases hca : c = a
          · have hsm2 := hsm
            rw [if_pos hca] at hsm2
            clear hsm
            subst hca
            rw [show L - c = 0 by omega, Nat.sub_self] at hsm2
            go_wp2_with fail
            have hwd1 : IntKind.i64.wrap (d : Int) = (d : Int) := by rw [IntKind.wrap_i64]; omega
            have hwd2 : wrap64 (d : Int) = (d : Int) := by unfold wrap64; omega
            have hrun := HRUN2.out
            go_region_held3 (fun w' => True) (trivial)
              (first
                | (go_at_call 11; refine hsm2.mono ?_; rintro x w3 ⟨rfl, hw3⟩; subst w3)
                | fail)
            all_goals clear hwd1 hwd2 hrun hsm2
            all_goals go_wp2
            all_goals refine bodyPost_ret (v := .tuple #[.slice la ls.length lc, .int .i64 (c : Int)]) (by simp [results]) rfl ?_
            all_goals exact ⟨_, _, rfl, HFM.out, HBM.out⟩
          · have hsm2 := hsm
            rw [if_neg hca] at hsm2
            clear hsm
            go_wp2_with fail
            have hwd1 : IntKind.i64.wrap (d : Int) = (d : Int) := by rw [IntKind.wrap_i64]; omega
            have hwd2 : wrap64 (d : Int) = (d : Int) := by unfold wrap64; omega
            have hrun := HRUN2.out
            go_region_held3 (fun w' => True) (trivial)
              (first
                | (go_at_call 11; refine hsm2.mono ?_; rintro x w3 ⟨rfl, hw3⟩; subst w3)
                | fail)
            all_goals clear hwd1 hwd2 hrun hsm2
            all_goals go_wp2
            all_goals refine bodyPost_ret (v := .tuple #[.slice la ls.length lc, .int .i64 (a : Int)]) (by simp [results]) rfl ?_
            all_goals exact ⟨_, _, rfl, HFM.out, HBM.out⟩
        | true =>
          by_cases hca : c = a
          · have hsm2 := hsm
            rw [if_pos hca] at hsm2
            clear hsm
            subst hca
            rw [show L - c = 0 by omega, Nat.sub_self] at hsm2
            go_wp2_with fail
            have hwd1 : IntKind.i64.wrap (d : Int) = (d : Int) := by rw [IntKind.wrap_i64]; omega
            have hwd2 : wrap64 (d : Int) = (d : Int) := by unfold wrap64; omega
            have hrun := HRUN2.out
            go_region_held3 (fun w' => True) (trivial)
              (first
                | (go_at_call 11; refine hsm2.mono ?_; rintro x w3 ⟨rfl, hw3⟩; subst w3)
                | fail)
            all_goals clear hwd1 hwd2 hrun hsm2
            all_goals go_wp2
            all_goals refine bodyPost_ret (v := .tuple #[.slice la ls.length lc, .int .i64 (L : Int)]) (by simp [results]) rfl ?_
            all_goals exact ⟨_, _, rfl, HFM.out, HBM.out⟩
          · have hsm2 := hsm
            rw [if_neg hca] at hsm2
            clear hsm
            go_wp2_with fail
            have hwd1 : IntKind.i64.wrap (d : Int) = (d : Int) := by rw [IntKind.wrap_i64]; omega
            have hwd2 : wrap64 (d : Int) = (d : Int) := by unfold wrap64; omega
            have hrun := HRUN2.out
            go_region_held3 (fun w' => True) (trivial)
              (first
                | (go_at_call 11; refine hsm2.mono ?_; rintro x w3 ⟨rfl, hw3⟩; subst w3)
                | fail)
            all_goals clear hwd1 hwd2 hrun hsm2
            all_goals go_wp2
            all_goals refine bodyPost_ret (v := .tuple #[.slice la ls.length lc, .int .i64 (L : Int)]) (by simp [results]) rfl ?_
            all_goals exact ⟨_, _, rfl, HFM.out, HBM.out⟩
      · have hlI : ¬ (d : Int) ≤ (n : Int) := by omega
        have hlb : decide ((d : Int) ≤ (n : Int)) = false := decide_eq_false hlI
        go_wp2_with fail
        have hwd1 : IntKind.i64.wrap (d : Int) = (d : Int) := by rw [IntKind.wrap_i64]; omega
        have hwd2 : wrap64 (d : Int) = (d : Int) := by unfold wrap64; omega
        go_quiet (fail)
        all_goals clear hwd1 hwd2
        all_goals go_wp2
        all_goals refine bodyPost_ret (v := .tuple #[.slice la ls.length lc, .int .i64 (a : Int)]) (by simp [results]) rfl ?_
        all_goals exact ⟨_, _, rfl, HFIN.out, below_drewN HB.out _⟩
    · have h7I : ¬ (n : Int) < 7 := by omega
      have h7b : decide ((n : Int) < 7) = false := decide_eq_false h7I
      go_wp2_with fail
      go_quiet (fail)
      all_goals go_wp2
      all_goals refine bodyPost_ret (v := .tuple #[.slice la ls.length lc, .int .i64 (a : Int)]) (by simp [results]) rfl ?_
      all_goals exact ⟨_, _, rfl, HFIN.out, below_drewN HB.out _⟩

end Go.Proofs.YtmgofohaoppajaaDoor

/- bartizanref06's Read of nothing. -/
namespace Go.Proofs.YtmgofohaoppajaaDoor
set_option maxRecDepth 20000
open Go.RowKit
set_option linter.unusedVariables false

theorem rread6_nil (w : World) :
    Calls Tryd.prog 14 #[.slice none 0 0] w fun x w' => ∃ (y : Value) (n : Int), x = .returned (.tuple #[y, .int .i64 n]) ∧ OwnT w.heap.size w' y [] ∧ Below w.heap.size w w' := by
  go_enter Tryd.func14, Tryd.ntmps14
  go_wp2_with fail
  go_loopg [4, 5] 0 (fun gk pv iv wr => pv = .slice none 0 0 ∧ iv = .int .i64 0 ∧ wr = w)
  case atStart => exact ⟨rfl, rfl, rfl⟩
  case round =>
    obtain ⟨rfl, rfl, rfl⟩ := hrel
    go_wp2_with fail
    go_quiet (fail)
    go_wp2
    go_ret2
    exact ⟨_, _, rfl, OwnT.nil _ _, below_drewN (Below.refl _ _) _⟩

end Go.Proofs.YtmgofohaoppajaaDoor
