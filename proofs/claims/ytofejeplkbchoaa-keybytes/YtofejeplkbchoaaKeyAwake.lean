/- awake answers true: the document's examples of layer 3. -/
import Derived.Test.YtofejeplkbchoaaKeyBytes
import Derived.Test.YtofejeplkbchoaaKeyCmp
namespace Go.Proofs.Ytofejeplkbchoaa
open Go.RowKit

theorem kex1 : keyB [97] 1 2 = [1, 97, 2, 1, 0, 0, 0, 0, 0, 0] := by decide +kernel
theorem kex2 : Mth.cmpK [97] 5 1 [97] 4 2 = -1 := by decide +kernel
theorem kex3 : Mth.cmpK [97] 4 1 [98] 9 1 = -1 := by decide +kernel
theorem kex4 : chk ([97] : List UInt8).length ((1 : Nat) : Int) ((2 : Nat) : Int) = 0 := by decide +kernel

theorem key_lit (w : World) (s k : Int) (c : UInt8) :
    Calls Try.prog 16 #[.string ⟨#[c]⟩, .int .u64 s, .int .u8 k] w fun e w' => ∃ ao cap, e = .returned (.agg #[.slice ao 1 cap, .int .u64 s, .int .u8 k]) ∧ Rd w' (.slice ao 1 cap) [c] ∧ Below w.heap.size w w' := by
  refine (key_any w s k ⟨#[c]⟩ [c] rfl (by simp)).mono ?_
  rintro e w' ⟨x, rfl, hr, hb⟩
  obtain ⟨ao, cap, rfl⟩ := hr.len
  exact ⟨ao, cap, rfl, hr, hb⟩

set_option maxHeartbeats 1000000 in
theorem kawake_any (w : World) : Calls Try.prog 5 #[] w fun e w' => e = .returned (.bool true) ∧ Below w.heap.size w w' := by
  go_enter Try.func5, Try.ntmps5
  go_wp2_with fail
  refine (key_lit _ 1 2 97).mono ?_
  rintro e w1 ⟨a1, k1, rfl, r1, hb1⟩
  go_wp2_with fail
  refine (keybytes_ok _ _ [97] 1 2 r1 (by omega) (by omega) kex4 (by simp)).mono ?_
  rintro e w2 ⟨x2, rfl, o2, hb2⟩
  rw [kex1] at o2
  obtain ⟨g2, k2, e2⟩ := o2.shape
  subst e2
  have rp := o2.rd
  have hB2 := hb1.trans (hb2.mono hb1.size)
  clear hb1 hb2 r1 o2
  go_wp2_with fail
  refine (key_lit _ 5 1 97).mono ?_
  rintro e w3 ⟨a3, k3, rfl, r3, hb3⟩
  have rp3 := rp.below hb3 (Nat.le_refl _)
  have hB3 := hB2.trans (hb3.mono hB2.size)
  clear rp hb3 hB2
  go_wp2_with fail
  refine (key_lit _ 4 2 97).mono ?_
  rintro e w4 ⟨a4, k4, rfl, r4, hb4⟩
  have rp4 := rp3.below hb4 (Nat.le_refl _)
  have r34 := r3.below hb4 (Nat.le_refl _)
  have hB4 := hB3.trans (hb4.mono hB3.size)
  clear rp3 hb4 hB3 r3
  go_wp2_with fail
  refine (compare_any _ _ _ [97] [97] 5 1 4 2 (-1) r34 r4 kex2).mono ?_
  rintro e w5 ⟨rfl, hb5⟩
  have rp5 := rp4.below hb5 (Nat.le_refl _)
  have hB5 := hB4.trans (hb5.mono hB4.size)
  clear rp4 hb5 hB4 r34 r4
  go_wp2_with fail
  refine (key_lit _ 4 1 97).mono ?_
  rintro e w6 ⟨a6, k6, rfl, r6, hb6⟩
  have rp6 := rp5.below hb6 (Nat.le_refl _)
  have hB6 := hB5.trans (hb6.mono hB5.size)
  clear rp5 hb6 hB5
  go_wp2_with fail
  refine (key_lit _ 9 1 98).mono ?_
  rintro e w7 ⟨a7, k7, rfl, r7, hb7⟩
  have rp7 := rp6.below hb7 (Nat.le_refl _)
  have r67 := r6.below hb7 (Nat.le_refl _)
  have hB7 := hB6.trans (hb7.mono hB6.size)
  clear rp6 hb7 hB6 r6
  go_wp2_with fail
  refine (compare_any _ _ _ [97] [98] 4 1 9 1 (-1) r67 r7 kex3).mono ?_
  rintro e w8 ⟨rfl, hb8⟩
  have rp8 := rp7.below hb8 (Nat.le_refl _)
  have hB8 := hB7.trans (hb8.mono hB7.size)
  clear rp7 hb8 hB7 r67 r7
  go_wp2_with fail
  refine (same_b _ _ _ _ [1, 97, 2, 1, 0, 0, 0, 0, 0, 0] true (rp8.below ((Below.refl _ _).alloc (Nat.le_refl _) _) (Nat.le_refl _)) (rd_lit _ [1, 97, 2, 1, 0, 0, 0, 0, 0, 0] (by simp [maxLen]) _ rfl) (by simp)).mono ?_
  rintro r w' ⟨rfl, hw⟩
  subst hw
  have hC := hB8.alloc hB8.size (.cells #[.int .u8 1, .int .u8 97, .int .u8 2, .int .u8 1, .int .u8 0, .int .u8 0, .int .u8 0, .int .u8 0, .int .u8 0, .int .u8 0] 5)
  clear hB8 rp8
  go_wp2
  go_ret
  exact ⟨rfl, hC⟩

end Go.Proofs.Ytofejeplkbchoaa
