/- bartizanref04's Few. -/
import Derived.Test.YtmgofohaoppajaaDoorOpsPush
import Derived.Test.YtmgofohaoppajaaDoorKeyCheck
import Derived.Test.YtmgofohaoppajaaDoorLists
import Derived.Deep.RegionHeld3
import Derived.Deep.DeepCutAuto
import Derived.Deep.CutRange
import Derived.Deep.LoopGhost
namespace Go.Proofs.YtmgofohaoppajaaDoor
open Go.RowKit

theorem few_take {n : Nat} {os : List OpB} {j : Nat} (h : j < os.length) (hn : j < n) : fewO n (os.take (j + 1)) = fewO n (os.take j) ++ [cutOp os[j]] := by
  unfold fewO
  rw [List.take_take, List.take_take, Nat.min_eq_right (by omega), Nat.min_eq_right (by omega), List.take_succ_eq_append_getElem h, List.map_append]
  rfl

theorem few_stay {n : Nat} {os : List OpB} {j : Nat} (hn : ¬ j < n) : fewO n (os.take (j + 1)) = fewO n (os.take j) := by
  unfold fewO
  rw [List.take_take, List.take_take, Nat.min_eq_left (by omega), Nat.min_eq_left (by omega)]

set_option maxHeartbeats 4000000 in
theorem fewop_any (w : World) (v : Value) (os : List OpB) (n : Nat) (hv : ArgO w v os) (hn : n ≤ 1000) :
    Calls Tryd.prog 21 #[v, .int .i64 (n : Int)] w fun e w' => ∃ x, e = .returned x ∧ OwnO w.heap.size w' x (fewO n os) ∧ Below w.heap.size w w' := by
  obtain ⟨i0, hi, hz0, hz1, hz2⟩ := info_parts infoOp
  have hv0 := hv
  obtain ⟨ao, cap, rfl, h1, h2, h3⟩ := hv
  unfold maxLen at h2
  have H3 : Hid _ := hv0
  clear hv0 h3
  go_enter Tryd.func21, Tryd.ntmps21
  go_wp2_with fail
  go_loopg [5, 10] os.length (fun gk pv iv wr => ∃ j n' c' : Nat, ∃ a' : Option Addr, gk + j = os.length ∧ iv = .int .i64 (j : Int) ∧ pv = .slice a' n' c' ∧ OwnO w.heap.size wr pv (fewO n (os.take j)) ∧ Below w.heap.size w wr)
  case atStart => exact ⟨0, 0, 0, none, rfl, rfl, rfl, by rw [List.take_zero, show fewO n [] = [] by simp [fewO]]; exact OwnO.nil _ _, Below.refl _ _⟩
  case round =>
    obtain ⟨j, n', c', a', hj, rfl, rfl, hO, hB⟩ := hrel
    have hrd : ArgO wr _ os := LsO.belowA (show ArgO w _ os from H3.out) hB (Nat.le_refl _)
    by_cases hlt : j < os.length
    · obtain ⟨_, _, e, _, _, h3⟩ := hrd
      cases e
      obtain ⟨b, off, rfl, xv, yv, c0, c1, c2, rx, ry⟩ := h3 j hlt
      obtain ⟨x1, x2, ex⟩ := Arg.shape rx
      obtain ⟨y1, y2, ey⟩ := Arg.shape ry
      subst ex ey
      obtain ⟨⟨ok, ol, om⟩, ho⟩ : ∃ o, os[j] = o := ⟨_, rfl⟩
      rw [ho] at c0 c1 c2 rx ry
      obtain ⟨ck, hck⟩ : ∃ ck, ol.take 80 = ck := ⟨_, rfl⟩
      obtain ⟨cv, hcv⟩ : ∃ cv, om.take 600 = cv := ⟨_, rfl⟩
      have HCK : Hid _ := hck
      have HCV : Hid _ := hcv
      have HR : Hid (j < n → fewO n (os.take (j + 1)) = fewO n (os.take j) ++ [(ok, ck, cv)]) := by intro h; rw [few_take hlt h, ho, ← hck, ← hcv]; rfl
      have hnl : (fewO n (os.take j)).length = min n j := by unfold fewO; rw [List.length_map, List.length_take, List.length_take, Nat.min_eq_left (show j ≤ os.length by omega)]
      clear hck hcv
      clear h3 ho
      have hlow := hB.size
      have hb0 := below_box wr #[.int .u8 (ok.toNat : Int), .slice x1 ol.length x2, .slice y1 om.length y2] 72
      have bx := (box_new wr (.int .u8 (ok.toNat : Int)) (.slice x1 ol.length x2) (.slice y1 om.length y2) 72).drew
      have rx0 := arg_drew (rx.below hb0 (Nat.le_refl _))
      have ry0 := arg_drew (ry.below hb0 (Nat.le_refl _))
      have hO0 := (hO.below hb0 (Nat.le_refl _)).drew
      have hB9 := hB.alloc hB.size (.cells #[.int .u8 (ok.toNat : Int), .slice x1 ol.length x2, .slice y1 om.length y2] 72)
      have hB0 := (hB.alloc hB.size (.cells #[.int .u8 (ok.toNat : Int), .slice x1 ol.length x2, .slice y1 om.length y2] 72)).drew
      have hne : some wr.heap.size ≠ (Value.slice a' n' c').ownBlock := by
        obtain ⟨cs, hrow, _⟩ := hO
        intro e
        have := (hrow.lt _ e.symm).2
        omega
      have hlen : n' = (fewO n (os.take j)).length := by
        obtain ⟨cs, hrow, _⟩ := hO
        rcases hrow.2 with ⟨e, e2⟩ | ⟨g, cap', cur, e, _⟩
        · cases e; exact e2.symm
        · cases e; rfl
      have hmm : n' = min n j := by omega
      clear rx ry hO hB hb0
      have htl : (fewO n (os.take j)).length = n' := hlen.symm
      have hnb : n' ≤ 1000 := by omega
      clear hlen hnl hmm

      by_cases hjn : j < n
      · go_wp2_with fail
        go_region_held3 (fun w' => w'.cell? ⟨wr.heap.size, 0, none⟩ = some (.int .u8 (ok.toNat : Int)) ∧ w'.cell? ⟨wr.heap.size, 1, none⟩ = some (.slice x1 ol.length x2) ∧ w'.cell? ⟨wr.heap.size, 2, none⟩ = some (.slice y1 om.length y2))
          (first | exact ⟨b4.c0, b4.c1, b4.c2⟩ | exact ⟨be.c0, be.c1, be.c2⟩ | exact ⟨by2.c0, by2.c1, by2.c2⟩ | exact ⟨bx2.c0, bx2.c1, bx2.c2⟩ | exact ⟨bx.c0, bx.c1, bx.c2⟩)
          (first
            | (go_at_call_of 17 (Value.slice x1 ol.length x2); refine (cut_any _ _ ol 80 rx0 (by omega)).mono ?_; rintro e wx ⟨x, rfl, ox, hbx⟩; rw [HCK.out] at ox; obtain ⟨gx, kx, hx⟩ := ox.shape; subst hx; have bx2 := bx.below hbx (Nat.le_refl _))
            | (go_at_call_of 17 (Value.slice y1 om.length y2); refine (cut_any _ _ om 600 (ry0.below hbx (Nat.le_refl _)) (by omega)).mono ?_; rintro e wy ⟨y, rfl, oy, hby⟩; rw [HCV.out] at oy; obtain ⟨gy, ky, hy⟩ := oy.shape; subst hy; have by2 := bx2.below hby (Nat.le_refl _); have be := by2.alloc (.cells #[.int .u8 (ok.toNat : Int), .slice (some ⟨gx, 0, none⟩) ck.length kx, .slice (some ⟨gy, 0, none⟩) cv.length ky] 72))
            | (have hbe := below_box wy #[.int .u8 (ok.toNat : Int), .slice (some ⟨gx, 0, none⟩) ck.length kx, .slice (some ⟨gy, 0, none⟩) cv.length ky] 72
               have hOe := ((hO0.below hbx (Nat.le_refl _)).below hby (Nat.le_refl _)).below hbe (Nat.le_refl _)
               have oxe := ((ox.below hby (Nat.le_refl _)).below hbe (Nat.le_refl _)).mono (C := w.heap.size) (by simp; omega)
               have oye := (oy.below hbe (Nat.le_refl _)).mono (C := w.heap.size) (by have := hbx.size; simp at this; omega)
               have hBx := hB0.trans (hbx.mono hB0.size)
               have hBy := hBx.trans (hby.mono hBx.size)
               have hBe := hBy.trans (hbe.mono hBy.size)
               obtain ⟨cs, hrow, hel⟩ := hOe
               have hsz : w.heap.size ≤ wy.heap.size := hBy.size
               refine step_append_lies _ rfl (.tmp 18) (.tmp 28) 34 rfl w.heap.size 72 i0 (.agg #[.int .u8 0, .slice none 0 0, .slice none 0 0]) 3 56 Tryd.underlying34 hi hz0 hz1 hz2 rfl (by decide) (.slice a' n' c') (fewO n (os.take j)).length cs rfl hrow ⟨wy.heap.size, 0, none⟩ 1 1 [.int .u8 (ok.toNat : Int), .slice (some ⟨gx, 0, none⟩) ck.length kx, .slice (some ⟨gy, 0, none⟩) cv.length ky] rfl rfl (laid3 _ _ _ _ _) (one3 _ _ _ _ _ _ _) (by decide) (by simp only [maxLen]; omega) (by omega) (by simp; omega) _ rfl ?_
               intro g4 c4 w4 hown hgrow hat hlt4
               have b4 := be.grown hgrow hne
               have hpush := own_push (ok, ck, cv) hrow hel (.inr oxe) (.inr oye) hown hgrow
               rw [htl] at hpush
               have hB4 := hBe.grown hgrow (Nat.le_trans hsz (by simp)) (fun k' e => (hrow.lt k' e).1))
            | fail)
        all_goals
          clear hO0 hB0 bx rx0 ry0 hB9
          go_wp2
          go_roundg (gk - 1)
          case measure => omega
          case rel => exact ⟨j + 1, _, c4, _, by omega, by go_num, rfl, by rw [HR.out hjn]; exact hpush, hB4⟩
      · have HN : Hid (fewO n (os.take (j + 1)) = fewO n (os.take j)) := few_stay hjn
        go_wp2
        go_roundg (gk - 1)
        case measure => omega
        case rel => exact ⟨j + 1, n', c', a', by omega, by go_num, rfl, by rw [HN.out]; exact hO0, hB9⟩
    · obtain rfl : j = os.length := by omega
      clear hrd
      go_wp2
      go_ret
      exact ⟨_, rfl, by rw [List.take_length] at hO; exact hO, hB⟩

end Go.Proofs.YtmgofohaoppajaaDoor
