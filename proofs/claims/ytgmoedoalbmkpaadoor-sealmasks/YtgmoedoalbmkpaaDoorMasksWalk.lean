/- SealMasks answers true: every sum is masked, and unmasked again. -/
import Derived.Test.YtgmoedoalbmkpaaDoorAwake
namespace Go.Proofs.YtgmoedoalbmkpaaDoor
open Go.RowKit

theorem u32_nat {a : Int} (h : (Lit.int .u32 a).wf = true) : ∃ n : Nat, a = (n : Int) ∧ n < 4294967296 := by
  have hb := bounds_u32 h
  exact ⟨a.toNat, by omega, by omega⟩

set_option maxHeartbeats 1000000 in
theorem masks_walk (s : Nat) (hs : s < 4294967296) (w : World) (ht : Tab w) :
    Calls Tryd.prog 4 #[.int .u32 (s : Int)] w fun e w' => e = .returned (.bool true) ∧ Below w.heap.size w w' := by
  have hm := Crc.mask_lt s
  have hu := Crc.unmask_lt s
  have H1 : Hid (Crc.unmask (Crc.mask s) = s) := Crc.unmask_mask s hs
  have H2 : Hid (Crc.mask (Crc.unmask s) = s) := Crc.mask_unmask s hs
  obtain ⟨m, hm0⟩ : ∃ m, Crc.mask s = m := ⟨_, rfl⟩
  obtain ⟨u, hu0⟩ : ∃ u, Crc.unmask s = u := ⟨_, rfl⟩
  rw [hm0] at hm H1
  rw [hu0] at hu H2
  have HM : Hid (Crc.mask s = m) := hm0
  have HU : Hid (Crc.unmask s = u) := hu0
  clear hm0 hu0
  go_enter Tryd.func4, Tryd.ntmps4
  go_wp2_with fail
  refine (awake_any _ ht).mono ?_
  rintro e w1 ⟨rfl, hb1⟩
  go_wp2_with fail
  refine (mask_any s hs _).mono ?_
  rintro e w2 ⟨rfl, hw⟩
  subst hw
  rw [HM.out]
  go_wp2_with fail
  refine (refmask_any s hs _).mono ?_
  rintro e w2 ⟨rfl, hw⟩
  subst hw
  rw [HM.out]
  go_wp2_with fail
  refine (mask_any s hs _).mono ?_
  rintro e w2 ⟨rfl, hw⟩
  subst hw
  rw [HM.out]
  go_wp2_with fail
  refine (unmask_any m hm _).mono ?_
  rintro e w2 ⟨rfl, hw⟩
  subst hw
  rw [H1.out]
  go_wp2_with fail
  refine (unmask_any s hs _).mono ?_
  rintro e w2 ⟨rfl, hw⟩
  subst hw
  rw [HU.out]
  go_wp2_with fail
  refine (mask_any u hu _).mono ?_
  rintro e w2 ⟨rfl, hw⟩
  subst hw
  rw [H2.out]
  go_wp2
  go_ret
  exact ⟨rfl, hb1⟩

theorem sealMasks_walk (a0 : Int) (w : World) (w0 : (Lit.int .u32 a0).wf = true) (ht : Tab w) :
    Calls Tryd.prog 4 #[.int .u32 a0] w fun e w' => e = .returned (.bool true) ∧ Below w.heap.size w w' := by
  obtain ⟨s, rfl, hs⟩ := u32_nat w0
  exact masks_walk s hs w ht

end Go.Proofs.YtgmoedoalbmkpaaDoor
