/- bartizanref06.Frame. -/
import Derived.Test.YtppoimmoohfbnaaDoorRBackWalk
import Derived.Test.YtppoimmoohfbnaaDoorRefClose
import Derived.Lib.AppendZeros
namespace Go.Proofs.YtppoimmoohfbnaaDoor
open Go.RowKit
set_option linter.unusedVariables false

theorem rframe_refused (w : World) (z : Int) (v : Value) (l : List UInt8) (hv : Rd w v l) (h : z < 0) :
    Calls Tryd.prog 14 #[.int .i64 z, v] w fun e w' => e = .returned (.tuple #[.slice none 0 0, .int .i64 1]) ∧ w' = w := by
  go_enter Tryd.func14, Tryd.ntmps14
  go_wp2
  go_ret2
  exact ⟨rfl, rfl⟩

theorem rframe_over (w : World) (z : Int) (v : Value) (l : List UInt8) (hv : Rd w v l) (h : 0 ≤ z) (hl : 65536 < l.length) :
    Calls Tryd.prog 14 #[.int .i64 z, v] w fun e w' => e = .returned (.tuple #[.slice none 0 0, .int .i64 3]) ∧ w' = w := by
  obtain ⟨ao, cap, rfl⟩ := hv.len
  obtain ⟨n, hn⟩ : ∃ n, l.length = n := ⟨_, rfl⟩
  rw [hn] at hl ⊢
  have hl' : (65536 : Int) < (n : Int) := by omega
  have h' : ¬ z < 0 := by omega
  clear hv hn hl h
  go_enter Tryd.func14, Tryd.ntmps14
  go_wp2
  go_ret2
  exact ⟨rfl, rfl⟩

/-- what stands ahead of a piece's bytes -/
def headB (k : UInt8) (n : Nat) (s : Nat) : List UInt8 := Crc.four s ++ [UInt8.ofNat (n % 256), UInt8.ofNat (n / 256 % 256), k]

theorem pcB_head (k : UInt8) (t : List UInt8) : pcB k t = headB k t.length (Crc.mask (Crc.sum (k :: t))) ++ t := by
  unfold pcB headB
  simp

/-- where a frame has come to at the loop's head -/
def RfI (x : Nat) (W : List UInt8) (bg : Bool) (F R : List UInt8) (y : Nat) : Prop :=
  if bg then FrI x W true F R ∧ y = 0 else F = [] ∧ y = x ∧ W = frameB x R ∧ R.length ≤ 65536

theorem rf_gap {x : Nat} {W : List UInt8} {bg : Bool} {F R : List UInt8} {y : Nat} (h : RfI x W bg F R y) (hx : x < 64) (hy : 64 - y < 7) : bg = false ∧ F = [] ∧ y = x ∧ FrI x W false (List.replicate (64 - y) 0) R ∧ leftN (x + (List.replicate (64 - y) (0 : UInt8)).length) = 64 := by
  unfold RfI at h
  cases bg
  · simp only [Bool.false_eq_true, if_false] at h
    obtain ⟨rfl, rfl, rfl, hl⟩ := h
    have hg : gapN y = 64 - y := by unfold gapN leftN; rw [if_pos (by omega)]; omega
    have := FrI.first y R hx hl
    rw [hg] at this
    refine ⟨rfl, rfl, rfl, this, ?_⟩
    rw [List.length_replicate]
    unfold leftN
    omega
  · simp only [if_true] at h
    omega

theorem rf_none {x : Nat} {W : List UInt8} {bg : Bool} {F R : List UInt8} {y : Nat} (h : RfI x W bg F R y) (hx : x < 64) (hy : ¬ 64 - y < 7) : FrI x W bg F R ∧ leftN (x + F.length) = 64 - y ∧ y < 64 := by
  unfold RfI at h
  cases bg
  · simp only [Bool.false_eq_true, if_false] at h
    obtain ⟨rfl, rfl, rfl, hl⟩ := h
    have hg : gapN y = 0 := by unfold gapN leftN; rw [if_neg (by omega)]
    have := FrI.first y R hx hl
    rw [hg] at this
    refine ⟨this, ?_, hx⟩
    unfold leftN
    simp
    omega
  · simp only [if_true] at h
    obtain ⟨h, rfl⟩ := h
    exact ⟨h, h.zr rfl, by omega⟩

theorem sum_cons_lt (k : UInt8) (t : List UInt8) : Crc.mask (Crc.sum (k :: t)) < 4294967296 := Crc.mask_lt _

theorem lit_row7 (w : World) (B : Nat) (hB : B ≤ w.heap.size) (a b c d e f g : UInt8) : (w.alloc (.cells #[.int .u8 (a.toNat : Int), .int .u8 (b.toNat : Int), .int .u8 (c.toNat : Int), .int .u8 (d.toNat : Int), .int .u8 (e.toNat : Int), .int .u8 (f.toNat : Int), .int .u8 (g.toNat : Int)] 5)).ownsRow B 5 1 (.slice (some ⟨w.heap.size, 0, none⟩) 7 7) 7 (bv [a, b, c, d, e, f, g]) :=
  World.ownsRow_lit w #[.int .u8 (a.toNat : Int), .int .u8 (b.toNat : Int), .int .u8 (c.toNat : Int), .int .u8 (d.toNat : Int), .int .u8 (e.toNat : Int), .int .u8 (f.toNat : Int), .int .u8 (g.toNat : Int)] 7 hB (by simp [maxLen]) rfl

/-- the piece is appended: its sum, then its head, then its bytes: from a region's beginning to the loop's end, as one contract of the parts -/
theorem zeros_own {w : World} {B n cap : Nat} (hB : B ≤ w.heap.size) (hn : 0 < n) (h1 : n ≤ cap) (h2 : cap ≤ maxLen) :
    Own B (w.alloc (.cells (Builtin.zeroCells (Value.int .u8 0).cells n ++ Builtin.zeroCells (Value.int .u8 0).cells (cap - n)) 5)) (.slice (some ⟨w.heap.size, 0, none⟩) (List.replicate n (0 : UInt8)).length cap) (List.replicate n 0) := by
  have hz : ∀ k, (Builtin.zeroCells (Value.int .u8 0).cells k).toList = List.replicate k (Value.int .u8 0) := by
    intro k
    have := made_list k
    rw [Nat.mul_one] at this
    rw [← this]
    apply List.ext_getElem?
    intro i
    simp [Builtin.zeroCells, madeCells, Value.cells]
  have hsz : ∀ k, (Builtin.zeroCells (Value.int .u8 0).cells k).size = k := by
    intro k
    rw [← Array.length_toList, hz]
    simp
  refine ⟨w.heap.size, cap, _, rfl, hB, heap_alloc_new w _, by simpa using h1, h2, ?_, ?_⟩
  · rw [Array.size_append, hsz, hsz]
    omega
  · rw [Array.toList_append, hz, hz, List.length_replicate, List.take_left' (by simp)]
    simp [bv]

end Go.Proofs.YtppoimmoohfbnaaDoor
