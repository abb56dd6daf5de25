/- awake answers true: the document's examples of layer 1. -/
import Derived.Test.YtecmijocgkhnpaaTake2
namespace Go.Proofs.Ytecmijocgkhnpaa
open Go.RowKit

theorem rd_lit (w : World) (l : List UInt8) (h : l.length ≤ maxLen) (cs : Array Value) (hc : cs = (bv l).toArray) : Rd (w.alloc (.cells cs 5)) (.slice (some ⟨w.heap.size, 0, none⟩) l.length l.length) l :=
  (own_lit w w.heap.size (Nat.le_refl _) l h cs hc).rd

theorem ex1 : frontS [250, 0, 0, 1] = (0, 0, 4) := by decide +kernel
theorem ex2 : Mth.numB 241 = [241, 1] := by decide +kernel
theorem ex3 : Mth.numB 2288 = [249, 0, 0] := by decide +kernel
theorem ex4 : Mth.numB 67824 = [250, 1, 8, 240] := by decide +kernel

theorem num_lit (k : Int) (n : Nat) (hk : k = (n : Int)) (l : List UInt8) (hl : Mth.numB n = l) (w : World) (h2 : n < 18446744073709551616) :
    Calls Try.prog 12 #[.int .u64 k] w fun e w' => ∃ v, e = .returned v ∧ Own w.heap.size w' v l ∧ Below w.heap.size w w' := by
  subst hk; subst hl
  exact num_any n w h2

theorem below_lit {B : Nat} {w w' : World} (h : Below B w w') (hB : B ≤ w'.heap.size) (cs : Array Value) : Below B w (w'.alloc (.cells cs 5)) := h.alloc hB _

set_option maxHeartbeats 1000000 in
theorem awake_any (w : World) : Calls Try.prog 10 #[] w fun e w' => e = .returned (.bool true) ∧ Below w.heap.size w w' := by
  go_enter Try.func10, Try.ntmps10
  go_wp2_with fail
  have hR := rd_lit w [250, 0, 0, 1] (by simp [maxLen]) _ rfl
  refine (take_err _ _ [250, 0, 0, 1] 4 hR ex1 (.inr rfl)).mono ?_
  rintro r w1 ⟨rfl, hb1⟩
  clear hR
  have hB1 : Below w.heap.size w w1 := ((Below.refl _ _).alloc (Nat.le_refl _) _).trans (hb1.mono (by simp))
  clear hb1
  go_wp2_with fail
  refine (num_lit _ 241 rfl [241, 1] ex2 _ (by omega)).mono ?_
  rintro r w2 ⟨v2, rfl, ho2, hb2⟩
  have hB2 : Below w.heap.size w w2 := hB1.trans (hb2.mono hB1.size)
  go_wp2_with fail
  refine (same_any _ _ _ [241, 1] [241, 1] (ho2.rd.below ((Below.refl _ _).alloc (Nat.le_refl _) _) (Nat.le_refl _)) (rd_lit _ [241, 1] (by simp [maxLen]) _ rfl)).mono ?_
  rintro r w' ⟨rfl, hw⟩
  subst hw
  have hC2 : Below w.heap.size w (w2.alloc _) := below_lit hB2 hB2.size #[Value.int .u8 241, Value.int .u8 1]
  clear ho2 hb2 hB2
  go_wp2_with fail
  refine (num_lit _ 2288 rfl [249, 0, 0] ex3 _ (by omega)).mono ?_
  rintro r w3 ⟨v3, rfl, ho3, hb3⟩
  have hB3 : Below w.heap.size w w3 := hC2.trans (hb3.mono hC2.size)
  go_wp2_with fail
  refine (same_any _ _ _ [249, 0, 0] [249, 0, 0] (ho3.rd.below ((Below.refl _ _).alloc (Nat.le_refl _) _) (Nat.le_refl _)) (rd_lit _ [249, 0, 0] (by simp [maxLen]) _ rfl)).mono ?_
  rintro r w' ⟨rfl, hw⟩
  subst hw
  have hC3 : Below w.heap.size w (w3.alloc _) := below_lit hB3 hB3.size #[Value.int .u8 249, Value.int .u8 0, Value.int .u8 0]
  clear ho3 hb3 hB3
  go_wp2_with fail
  refine (num_lit _ 67824 rfl [250, 1, 8, 240] ex4 _ (by omega)).mono ?_
  rintro r w4 ⟨v4, rfl, ho4, hb4⟩
  have hB4 : Below w.heap.size w w4 := hC3.trans (hb4.mono hC3.size)
  go_wp2_with fail
  refine (same_any _ _ _ [250, 1, 8, 240] [250, 1, 8, 240] (ho4.rd.below ((Below.refl _ _).alloc (Nat.le_refl _) _) (Nat.le_refl _)) (rd_lit _ [250, 1, 8, 240] (by simp [maxLen]) _ rfl)).mono ?_
  rintro r w' ⟨rfl, hw⟩
  subst hw
  have hC4 : Below w.heap.size w (w4.alloc _) := below_lit hB4 hB4.size #[Value.int .u8 250, Value.int .u8 1, Value.int .u8 8, Value.int .u8 240]
  clear ho4 hb4 hB4
  go_wp2
  go_ret
  exact ⟨rfl, hC4⟩

end Go.Proofs.Ytecmijocgkhnpaa
