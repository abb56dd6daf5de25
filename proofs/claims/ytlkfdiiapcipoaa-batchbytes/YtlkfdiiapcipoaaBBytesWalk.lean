/- BatchBytes answers true: every batch has its bytes, or is refused; it is read again; it comes back untouched, and isn't kept. -/
import Derived.Test.YtlkfdiiapcipoaaBChecksWalk
import Derived.Test.YtlkfdiiapcipoaaOpRead
import Derived.Test.YtlkfdiiapcipoaaOpSame
import Derived.Test.YtlkfdiiapcipoaaOpCopy
namespace Go.Proofs.Ytlkfdiiapcipoaa
open Go.RowKit

set_option maxHeartbeats 4000000 in
set_option maxRecDepth 20000 in
theorem bbytes_walk (w : World) (v : Value) (os fs : List OpB) (HF : Hid (fewO 70 os = fs)) (hv : ArgO w v os) :
    Calls Try.prog 4 #[v] w fun e w' => e = .returned (.bool true) ∧ Below w.heap.size w w' := by
  go_enter Try.func4, Try.ntmps4
  go_wp2_with fail
  refine (bawake_any _).mono ?_
  rintro e w1 ⟨rfl, hb1⟩
  have hv1 := hv.belowA hb1 (Nat.le_refl _)
  clear hv
  go_wp2_with fail
  refine (fewop_any _ _ os 70 hv1 (by omega)).mono ?_
  rintro e w2 ⟨x, rfl, ox, hb2⟩
  rw [HF.out] at ox
  have hB2 := hb1.trans (hb2.mono hb1.size)
  have hlen : fs.length ≤ 70 := by rw [← HF.out]; exact fewO_length _ _
  have hbd : Hid (∀ o ∈ fs, o.2.1.length ≤ 1000000 ∧ o.2.2.length ≤ 1000000) := by
    intro o ho
    rw [← HF.out] at ho
    have := fewO_bound _ _ o ho
    omega
  have hsz : sizeO fs ≤ 100000 := by
    have := sizeO_bound fs (by rw [← HF.out]; exact fewO_bound _ _)
    omega
  have rl2 := ox.rd
  clear hb1 hb2 hv1 ox
  go_wp2_with fail
  refine (opcopy_any _ _ fs rl2.arg (by omega) hbd.out).mono ?_
  rintro e w3 ⟨m, rfl, om, hb3⟩
  have rl3 := rl2.below hb3 (Nat.le_refl _)
  have rm3 := om.rd
  have hB3 := hB2.trans (hb3.mono hB2.size)
  obtain ⟨c, hc⟩ : ∃ c, chkL fs = c := ⟨_, rfl⟩
  have HC : Hid _ := hc
  clear hb3 om rl2 hB2 hc
  go_wp2_with fail
  by_cases hc0 : c = 0
  · subst hc0
    have hl64 := (chkL_zero.1 HC.out).1
    obtain ⟨bb, hbb⟩ : ∃ bb, batB fs = bb := ⟨_, rfl⟩
    have hbl : bb.length ≤ 1000000 := by rw [← hbb]; have := parts_len fs.length fs; unfold batB; omega
    have HBB : Hid _ := hbb
    have HBK : Hid (batS bb = (fs, 0)) := by show _ = _; rw [← hbb]; exact bat_back fs HC.out
    clear hbb
    refine (bytes_ok _ _ fs rm3 HC.out hl64 (by omega)).mono ?_
    rintro e w4 ⟨p, rfl, op, hb4⟩
    rw [HBB.out] at op
    have rp4 := op.rd
    have rl4 := rl3.below hb4 (Nat.le_refl _)
    have rm4 := rm3.below hb4 (Nat.le_refl _)
    have hB4 := hB3.trans (hb4.mono hB3.size)
    clear rl3 rm3 hB3 hb4 op
    go_wp2_with fail
    refine (rbytes_ok _ _ fs rl4 HC.out hl64 (by omega)).mono ?_
    rintro e w5 ⟨q, rfl, oq, hb5⟩
    rw [HBB.out] at oq
    have rp5 := rp4.below hb5 (Nat.le_refl _)
    have rl5 := rl4.below hb5 (Nat.le_refl _)
    have rm5 := rm4.below hb5 (Nat.le_refl _)
    have hB5 := hB4.trans (hb5.mono hB4.size)
    clear rl4 rm4 hB4 hb5 rp4
    go_wp2_with fail
    refine (same_b _ _ _ bb bb true rp5 oq.rd (by simp)).mono ?_
    rintro e w6 ⟨rfl, hw⟩
    subst hw
    clear oq
    go_wp2_with fail
    refine (sameops_any _ _ _ fs fs true rm5 rl5 (by simp)).mono ?_
    rintro e w7 ⟨rfl, nn, hw7⟩
    have rp7 : Rd w7 p bb := by rw [hw7]; exact rp5
    have rl7 : RdO w7 x fs := by rw [hw7]; exact rl5
    have hB7 : Below w.heap.size w w7 := by rw [hw7]; exact below_drewN hB5 _
    clear hw7 rp5 rl5 rm5 hB5
    go_wp2_with fail
    refine (bread_any _ _ bb _ rp7 hbl HBK.out).mono ?_
    rintro e w8 ⟨x8, rfl, r8, hb8⟩
    simp only at r8
    have rl8 := rl7.below hb8 (Nat.le_refl _)
    have hB8 := hB7.trans (hb8.mono hB7.size)
    clear rp7 rl7 hB7 hb8
    go_wp2_with fail
    refine (sameops_any _ _ _ fs fs true r8 rl8 (by simp)).mono ?_
    rintro e w9 ⟨rfl, nn, hw9⟩
    have hB9 : Below w.heap.size w w9 := by rw [hw9]; exact below_drewN hB8 _
    clear hw9 r8 rl8 hB8
    go_wp2
    go_ret
    exact ⟨ret_bool (by simp), hB9⟩
  · have hcb : (c != 0) = true := by simp [hc0]
    have hcb2 : (c == 0) = false := by simp [hc0]
    refine (bytes_err _ _ fs c rm3 HC.out hc0).mono ?_
    rintro e w4 ⟨rfl, hb4⟩
    have rl4 := rl3.below hb4 (Nat.le_refl _)
    have rm4 := rm3.below hb4 (Nat.le_refl _)
    have hB4 := hB3.trans (hb4.mono hB3.size)
    clear rl3 rm3 hB3 hb4
    go_wp2_with fail
    refine (rbytes_err _ _ fs c rl4 HC.out hc0).mono ?_
    rintro e w5 ⟨rfl, hb5⟩
    have rl5 := rl4.below hb5 (Nat.le_refl _)
    have rm5 := rm4.below hb5 (Nat.le_refl _)
    have hB5 := hB4.trans (hb5.mono hB4.size)
    clear rl4 rm4 hB4 hb5
    go_wp2_with fail
    refine (same_b _ _ _ [] [] true (.inl ⟨rfl, rfl⟩) (.inl ⟨rfl, rfl⟩) (by simp)).mono ?_
    rintro e w6 ⟨rfl, hw⟩
    subst hw
    go_wp2_with fail
    refine (sameops_any _ _ _ fs fs true rm5 rl5 (by simp)).mono ?_
    rintro e w7 ⟨rfl, nn, hw7⟩
    have hB7 : Below w.heap.size w w7 := by rw [hw7]; exact below_drewN hB5 _
    clear hw7 rl5 rm5 hB5
    go_wp2
    go_ret
    exact ⟨rfl, hB7⟩

theorem batchBytes_walk (a0 : Option Addr) (len0 cap0 : Nat) (z0 : List OpB) (w : World) (w0 : ArgO w (.slice a0 len0 cap0) z0) :
    Calls Try.prog 4 #[.slice a0 len0 cap0] w fun e w' => e = .returned (.bool true) ∧ Below w.heap.size w w' :=
  bbytes_walk w _ z0 _ rfl w0

end Go.Proofs.Ytlkfdiiapcipoaa
