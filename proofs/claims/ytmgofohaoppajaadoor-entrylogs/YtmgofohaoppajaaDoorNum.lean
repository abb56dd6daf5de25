/- atom.Num, its short forms. -/
import Derived.Test.YtmgofohaoppajaaDoorSame
namespace Go.Proofs.YtmgofohaoppajaaDoor
open Go.RowKit

theorem num_a (n : Nat) (w : World) (h : n ≤ 240) :
    Calls Tryd.prog 36 #[.int .u64 (n : Int)] w fun e w' => ∃ v, e = .returned v ∧ Own w.heap.size w' v (Mth.numB n) ∧ Below w.heap.size w w' := by
  go_enter Tryd.func36, Tryd.ntmps36
  go_wp2
  go_ret
  refine ⟨_, rfl, ?_, (Below.refl _ _).alloc (Nat.le_refl _) _⟩
  rw [Mth.numB, if_pos h]
  refine own_lit w _ (Nat.le_refl _) [_] (by simp [maxLen]) _ ?_
  rw [u8_of _ (by omega) (by omega)]
  rfl

theorem num_b (n : Nat) (w : World) (h0 : 240 < n) (h : n ≤ 2287) :
    Calls Tryd.prog 36 #[.int .u64 (n : Int)] w fun e w' => ∃ v, e = .returned v ∧ Own w.heap.size w' v (Mth.numB n) ∧ Below w.heap.size w w' := by
  go_enter Tryd.func36, Tryd.ntmps36
  go_wp2
  go_ret
  refine ⟨_, rfl, ?_, (Below.refl _ _).alloc (Nat.le_refl _) _⟩
  rw [Mth.numB, if_neg (by omega), if_pos h]
  refine own_lit w _ (Nat.le_refl _) [_, _] (by simp [maxLen]) _ ?_
  rw [u8_of _ (by omega) (by omega), u8_of (_ % _) (by omega) (by omega)]
  have e1 : (241 + ((n : Int) - 240) / 256).toNat = 241 + (n - 240) / 256 := by omega
  have e2 : (((n : Int) - 240) % 256).toNat = (n - 240) % 256 := by omega
  rw [e1, e2]
  rfl

theorem num_c (n : Nat) (w : World) (h0 : 2287 < n) (h : n ≤ 67823) :
    Calls Tryd.prog 36 #[.int .u64 (n : Int)] w fun e w' => ∃ v, e = .returned v ∧ Own w.heap.size w' v (Mth.numB n) ∧ Below w.heap.size w w' := by
  go_enter Tryd.func36, Tryd.ntmps36
  go_wp2
  go_ret
  refine ⟨_, rfl, ?_, (Below.refl _ _).alloc (Nat.le_refl _) _⟩
  rw [Mth.numB, if_neg (by omega), if_neg (by omega), if_pos h]
  refine own_lit w _ (Nat.le_refl _) [_, _, _] (by simp [maxLen]) _ ?_
  rw [u8_of ((_ - _) / _) (by omega) (by omega), u8_of (_ % _) (by omega) (by omega)]
  have e1 : (((n : Int) - 2288) / 256).toNat = (n - 2288) / 256 := by omega
  have e2 : (((n : Int) - 2288) % 256).toNat = (n - 2288) % 256 := by omega
  rw [e1, e2]
  rfl

end Go.Proofs.YtmgofohaoppajaaDoor
