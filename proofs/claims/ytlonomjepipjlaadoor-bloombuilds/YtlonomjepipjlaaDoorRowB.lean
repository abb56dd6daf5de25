/- Rows of bools of a call's own. -/
import Derived.Test.YtlonomjepipjlaaDoorSteps
import Derived.Test.YtlonomjepipjlaaDoorSum
namespace Go.Proofs.YtlonomjepipjlaaDoor
open Go.RowKit

theorem info4 : (Tryd.prog.info? 4).map (fun i => (i.zero, i.size, i.bytes)) = some (some (.bool false), 1, 1) := by kernel_rfl

/-- a row of bools by their places -/
def bbf (N : Nat) (f : Nat → Bool) : List Value := (List.range N).map fun i => Value.bool (f i)

theorem bbf_length (N : Nat) (f : Nat → Bool) : (bbf N f).length = N := by simp [bbf]

theorem bbf_congr (N : Nat) (f f' : Nat → Bool) (h : ∀ q, q < N → f q = f' q) : bbf N f = bbf N f' := by
  unfold bbf
  apply List.map_congr_left
  intro q hq
  rw [h q (by simpa using hq)]

def upd (f : Nat → Bool) (j : Nat) (b : Bool) : Nat → Bool := fun q => if q = j then b else f q

theorem bbf_set (N : Nat) (f : Nat → Bool) (j : Nat) (b : Bool) : (bbf N f).set j (.bool b) = bbf N (upd f j b) := by
  apply List.ext_getElem?
  intro i
  by_cases hi : i < N
  · by_cases hij : j = i
    · subst hij; simp [bbf, upd, hi]
    · simp [bbf, upd, hi, hij, Ne.symm hij]
  · simp [bbf, hi]

/-- N bools in block g, of the call's own -/
def RowB (B g N : Nat) (w : World) (f : Nat → Bool) : Prop := w.ownsRow B 4 1 (.slice (some ⟨g, 0, none⟩) N N) N (bbf N f)

theorem RowB.cell {B g N : Nat} {w : World} {f : Nat → Bool} (h : RowB B g N w f) (j : Nat) (hj : j < N) : w.cell? ⟨g, j, none⟩ = some (.bool (f j)) := by
  have := World.ownsRow.cellAt h j (by omega)
  rw [this]
  simp [bbf, hj]

theorem RowB.frozen {B g N : Nat} {w : World} {f : Nat → Bool} (h : RowB B g N w f) (j : Nat) : w.frozen? ⟨g, j, none⟩ = false := World.ownsRow.frozenAt h j

theorem RowB.set {B g N : Nat} {w : World} {f : Nat → Bool} (h : RowB B g N w f) (j : Nat) (b : Bool) : RowB B g N (w.setCell ⟨g, j, none⟩ (.bool b)) (upd f j b) := by
  have := (World.ownsRow.stored h j (.bool b)).1
  rw [bbf_set] at this
  exact this

theorem RowB.congr {B g N : Nat} {w : World} {f f' : Nat → Bool} (h : RowB B g N w f) (e : ∀ q, q < N → f q = f' q) : RowB B g N w f' := by
  unfold RowB at *
  rw [← bbf_congr N f f' e]; exact h

theorem sum_half (l : List UInt8) (j : Nat) (hj : j < 32) : Crc.sum l / 2 ^ j = 2 * (Crc.sum l / 2 ^ (j + 1)) + (if Crc.fs l (8 * l.length) (8 * l.length + j) = true then 0 else 1) := by
  rw [Crc.fs_end l j hj]
  have hb : (Crc.sum l).testBit j = !(Crc.on 4294967295 l).testBit j := by
    have hon := Crc.on_lt 4294967295 l (by omega)
    have := Nat.testBit_two_pow_sub_succ (x := Crc.on 4294967295 l) (n := 32) hon j
    rw [show 2 ^ 32 - (Crc.on 4294967295 l + 1) = Crc.sum l by unfold Crc.sum; omega] at this
    rw [this]; simp [hj]
  have h2 : Crc.sum l / 2 ^ (j + 1) = Crc.sum l / 2 ^ j / 2 := by rw [Nat.pow_succ, Nat.div_div_eq_div_mul]
  have h3 : (Crc.sum l).testBit j = decide (Crc.sum l / 2 ^ j % 2 = 1) := Nat.testBit_eq_decide_div_mod_eq
  rw [h2]
  generalize Crc.sum l / 2 ^ j = a at h3
  rw [h3] at hb
  cases h : (Crc.on 4294967295 l).testBit j <;> rw [h] at hb <;> simp at hb ⊢ <;> omega

theorem sum_top (l : List UInt8) : Crc.sum l / 2 ^ 32 = 0 := by have := Crc.sum_lt l; omega

theorem sum_part (l : List UInt8) (k : Nat) : Crc.sum l / 2 ^ (k + 1) < 2147483648 := by
  have := Crc.sum_lt l
  rw [Nat.pow_succ, Nat.mul_comm, ← Nat.div_div_eq_div_mul]
  exact Nat.lt_of_le_of_lt (Nat.div_le_self _ _) (by omega)

def hitT (i t q : Nat) : Bool := (Crc.bys.take t).any fun k => q + k == i + 32

theorem hitT_zero (i q : Nat) : hitT i 0 q = false := rfl

theorem hitT_all (i q : Nat) : hitT i 17 q = Crc.hit i q := rfl

theorem bys_take : ∀ t : Fin 17, Crc.bys.take (t.val + 1) = Crc.bys.take t.val ++ [Crc.bys.getD t.val 0] := by decide +kernel

theorem bys_new : ∀ t : Fin 17, ∀ k ∈ Crc.bys.take t.val, k ≠ Crc.bys.getD t.val 0 := by decide +kernel

theorem bys_le : ∀ t : Fin 17, Crc.bys.getD t.val 0 ≤ 28 := by decide +kernel

theorem hitT_succ (i t q : Nat) (h : t < 17) : hitT i (t + 1) q = (hitT i t q || q + Crc.bys.getD t 0 == i + 32) := by
  unfold hitT
  have := bys_take ⟨t, h⟩
  simp only at this
  rw [this, List.any_append]
  simp

theorem hitT_new (i t q : Nat) (h : t < 17) (hq : q + Crc.bys.getD t 0 = i + 32) : hitT i t q = false := by
  unfold hitT
  rw [List.any_eq_false]
  intro k hk
  have := bys_new ⟨t, h⟩ k hk
  simp only at this
  simp only [beq_iff_eq]
  omega

/-- the block of the powers -/
def ByC (g : Nat) (w : World) : Prop := ∀ t, t < 17 → w.cell? ⟨g, t, none⟩ = some (.int .i64 (Crc.bys.getD t 0 : Int))

theorem ByC.set {g : Nat} {w : World} (h : ByC g w) (p : Addr) (u : Value) (hp : p.block ≠ g) : ByC g (w.setCell p u) := fun t ht => by
  rw [World.cell?_of_block (w := w) (Below.heap_setCell w p u g (Ne.symm hp))]; exact h t ht

theorem byc_new (w : World) : ByC w.heap.size (w.alloc (.cells #[.int .i64 0, .int .i64 6, .int .i64 8, .int .i64 9, .int .i64 10, .int .i64 11, .int .i64 13, .int .i64 14, .int .i64 18, .int .i64 19, .int .i64 20, .int .i64 22, .int .i64 23, .int .i64 25, .int .i64 26, .int .i64 27, .int .i64 28] 3)) := fun t ht => by
  rw [World.cell?_alloc_new]
  have key : ∀ t : Fin 17, (#[Value.int .i64 0, .int .i64 6, .int .i64 8, .int .i64 9, .int .i64 10, .int .i64 11, .int .i64 13, .int .i64 14, .int .i64 18, .int .i64 19, .int .i64 20, .int .i64 22, .int .i64 23, .int .i64 25, .int .i64 26, .int .i64 27, .int .i64 28] : Array Value)[t.val]? = some (.int .i64 (Crc.bys.getD t.val 0 : Int)) := by
    intro t
    obtain ⟨t, ht⟩ := t
    match t, ht with
    | 0, _ => rfl
    | 1, _ => rfl
    | 2, _ => rfl
    | 3, _ => rfl
    | 4, _ => rfl
    | 5, _ => rfl
    | 6, _ => rfl
    | 7, _ => rfl
    | 8, _ => rfl
    | 9, _ => rfl
    | 10, _ => rfl
    | 11, _ => rfl
    | 12, _ => rfl
    | 13, _ => rfl
    | 14, _ => rfl
    | 15, _ => rfl
    | 16, _ => rfl
    | n + 17, h => omega
  exact key ⟨t, ht⟩

theorem RowB.alloc {B g N : Nat} {w : World} {f : Nat → Bool} (h : RowB B g N w f) (o : Obj) : RowB B g N (w.alloc o) f := World.ownsRow.alloc h o

theorem RowB.lt {B g N : Nat} {w : World} {f : Nat → Bool} (h : RowB B g N w f) (hN : 0 < N) : g < w.heap.size := World.block_lt_of_cell? w ⟨g, 0, none⟩ (h.cell 0 hN)

end Go.Proofs.YtlonomjepipjlaaDoor
