/- ReelLong answers true. -/
import Derived.Test.YtppoimmoohfbnaaDoorReelAwake
namespace Go.Proofs.YtppoimmoohfbnaaDoor
open Go.RowKit
set_option linter.unusedVariables false

theorem long_bd (k : Nat) (h1 : 65534 ≤ k) (h2 : k ≤ 65538) : 1 * k ≤ 281474976710656 ∧ k ≤ maxLen ∧ (List.replicate k (0 : UInt8)).length = k := by
  unfold maxLen
  rw [List.length_replicate]
  omega

set_option maxRecDepth 100000 in
set_option maxHeartbeats 4000000 in
theorem rlong (w : World) (x r : Int) (k : Nat) (hx : x.tmod 5 = r) (hr0 : 0 ≤ r) (hr1 : r ≤ 4) (hk : 65534 + r = (k : Int)) (hT : Tab w) (h0 : 0 < w.heap.size) :
    Calls Tryd.prog 9 #[.int .u8 x] w fun e w' => e = .returned (.bool true) ∧ Below w.heap.size w w' := by
  obtain ⟨i0, hi, hz0, hz1, hz2⟩ := info_parts info5
  have HK : Hid _ := long_bd k (by omega) (by omega)
  obtain ⟨K, hK⟩ : ∃ K : Int, K = (k : Int) := ⟨_, rfl⟩
  rw [← hK] at hk
  have HKk : Hid (K = (k : Int)) := hK
  have hK0 : 65534 ≤ K := by omega
  have hK1 : K ≤ 65538 := by omega
  have HT : Hid (Tab w) := hT
  have H0 : Hid (0 < w.heap.size) := h0
  clear hT h0 hK
  go_enter Tryd.func9, Tryd.ntmps9
  go_wp2_with fail
  refine (rawake_any w HT.out H0.out).mono ?_
  rintro e w1 ⟨rfl, hb1⟩
  have HB1 : Hid (Below w.heap.size w w1) := hb1
  clear hb1
  by_cases hlong : K ≤ 65536
  · go_wp2_with (first | (at_make; refine wpList_make_full _ rfl (.tmp 13) (.tmp 13) 22 rfl w1.heap.size 5 i0 (.int .u8 0) 1 Tryd.underlying22 hi hz0 hz1 .i64 .i64 K K k rfl rfl HKk.out HKk.out (by rw [hz2]; exact HK.out.1) HK.out.2.1 (Nat.le_refl _) ?_; intro w2 hown hgr; have OZ : Hid (Own w1.heap.size w2 (.slice (some ⟨w1.heap.size, 0, none⟩) (List.replicate k (0 : UInt8)).length k) (List.replicate k 0)) := zeros_of hown; have HBZ : Hid (Below w1.heap.size w1 w2) := (Below.refl w1.heap.size w1).grown hgr (Nat.le_refl _) (fun k h => by cases h); clear hown hgr) | fail)
    have hb2 := HB1.out.trans (HBZ.out.mono HB1.out.size)
    have f1 := frame_any w2 3 _ (List.replicate k 0) OZ.out.rd (fun b h => by simp [Value.ownBlock] at h; rw [← h]; exact OZ.out.lt.2) (by rw [HK.out.2.2]; have := HKk.out; omega) (HT.out.below hb2 (Nat.le_refl _)) (Nat.lt_of_lt_of_le H0.out hb2.size)
    obtain ⟨W, hW⟩ : ∃ W, frameB 3 (List.replicate k 0) = W := ⟨_, rfl⟩
    have hWl : (K : Int) < (W.length : Int) := by
      have := frameB_long 3 (List.replicate k 0)
      rw [hW, HK.out.2.2] at this
      have := HKk.out
      omega
    rw [hW, HK.out.2.2] at f1
    have HB2 : Hid _ := hb2
    clear hW hb2
    refine f1.mono ?_
    rintro e w3 ⟨g3, c3, rfl, _, hb3⟩
    have HB3 : Hid (Below w.heap.size w w3) := HB2.out.trans (hb3.mono HB2.out.size)
    clear f1 hb3
    go_wp2
    go_ret
    exact ⟨rfl, HB3.out⟩
  · have hlong' : 65536 < K := by omega
    go_wp2_with (first | (at_make; refine wpList_make_full _ rfl (.tmp 13) (.tmp 13) 22 rfl w1.heap.size 5 i0 (.int .u8 0) 1 Tryd.underlying22 hi hz0 hz1 .i64 .i64 K K k rfl rfl HKk.out HKk.out (by rw [hz2]; exact HK.out.1) HK.out.2.1 (Nat.le_refl _) ?_; intro w2 hown hgr; have OZ : Hid (Own w1.heap.size w2 (.slice (some ⟨w1.heap.size, 0, none⟩) (List.replicate k (0 : UInt8)).length k) (List.replicate k 0)) := zeros_of hown; have HBZ : Hid (Below w1.heap.size w1 w2) := (Below.refl w1.heap.size w1).grown hgr (Nat.le_refl _) (fun k h => by cases h); clear hown hgr) | fail)
    have hb2 := HB1.out.trans (HBZ.out.mono HB1.out.size)
    have f1 := frame_over w2 3 _ (List.replicate k 0) OZ.out.rd (by decide) (by rw [HK.out.2.2]; have := HKk.out; omega)
    rw [HK.out.2.2] at f1
    have HB2 : Hid (Below w.heap.size w w2) := hb2
    clear hb2
    refine f1.mono ?_
    rintro e w3 ⟨rfl, hw3⟩
    subst hw3
    clear f1
    go_wp2
    go_ret
    exact ⟨rfl, HB2.out⟩

theorem reelLong_walk (x : Int) (w : World) (w0 : (Lit.int .u8 x).wf = true) (ht : Tab w) :
    Calls Tryd.prog 9 #[.int .u8 x] w fun e w' => e = .returned (.bool true) ∧ Below w.heap.size w w' := by
  have hb := bounds_u8 w0
  have hm : x.tmod 5 = x % 5 := Int.tmod_eq_emod_of_nonneg (by omega)
  exact rlong w x _ (65534 + x.tmod 5).toNat rfl (by omega) (by omega) (by omega) ht (World.block_lt_of_cell? w _ (ht 0 (by decide)))

end Go.Proofs.YtppoimmoohfbnaaDoor
