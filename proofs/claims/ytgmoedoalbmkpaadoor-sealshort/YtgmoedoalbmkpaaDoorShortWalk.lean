/- SealShort answers true: what has fewer than four bytes is no seal. -/
import Derived.Test.YtgmoedoalbmkpaaDoorAwake
import Derived.Test.YtgmoedoalbmkpaaDoorOpen
namespace Go.Proofs.YtgmoedoalbmkpaaDoor
open Go.RowKit

set_option maxHeartbeats 1000000 in
theorem short_walk (w : World) (vx : Value) (x cx : List UInt8) (CX : Hid (x.take 3 = cx)) (hcx : cx.length ≤ 3) (hx : Arg w vx x) (ht : Tab w) :
    Calls Tryd.prog 9 #[vx] w fun e w' => e = .returned (.bool true) ∧ Below w.heap.size w w' := by
  go_enter Tryd.func9, Tryd.ntmps9
  go_wp2_with fail
  refine (cut_any _ _ x 3 hx (by omega)).mono ?_
  rintro e w1 ⟨vp, rfl, op, hb1⟩
  rw [CX.out] at op
  have ht1 := ht.below hb1 (Nat.le_refl _)
  go_wp2_with fail
  refine (open_short _ _ cx op.rd (by omega)).mono ?_
  rintro e w2 ⟨rfl, hw⟩
  subst hw
  go_wp2_with fail
  refine (awake_any _ ht1).mono ?_
  rintro e w3 ⟨rfl, hb3⟩
  go_wp2
  go_ret
  exact ⟨rfl, hb1.trans (hb3.mono hb1.size)⟩

theorem sealShort_walk (a0 : Option Addr) (len0 cap0 : Nat) (z0 : List Int) (w : World) (w0 : IsRow .u8 w a0 len0 cap0 z0) (ht : Tab w) :
    Calls Tryd.prog 9 #[.slice a0 len0 cap0] w fun e w' => e = .returned (.bool true) ∧ Below w.heap.size w w' :=
  short_walk w _ _ _ rfl (List.length_take_le _ _) (arg_of w0) ht

end Go.Proofs.YtgmoedoalbmkpaaDoor
