/- Are ops right together: batch.Check, and the document's own answer. -/
import Derived.Test.YtmgofohaoppajaaDoorOps
import Derived.Test.YtmgofohaoppajaaDoorOpChk
import Derived.Deep.LoopGhost
namespace Go.Proofs.YtmgofohaoppajaaDoor
open Go.RowKit

/-- the first error of ops -/
def chkOps : List OpB → Int
  | [] => 0
  | o :: r => if chkOp (o.1.toNat : Int) o.2.1 o.2.2 = 0 then chkOps r else chkOp (o.1.toNat : Int) o.2.1 o.2.2

def chkL (os : List OpB) : Int := if 64 < os.length then 3 else chkOps os

set_option maxHeartbeats 2000000 in
theorem bcheck_any (w : World) (v : Value) (os : List OpB) (c : Int) (hv : RdO w v os) (hc : chkL os = c) :
    Calls Tryd.prog 55 #[v] w fun e w' => e = .returned (.int .i64 c) ∧ Below w.heap.size w w' := by
  have hv0 := hv
  obtain ⟨ao, cap, rfl, h1, h2, h3⟩ := hv
  unfold maxLen at h2
  have H3 : Hid _ := hv0
  have HC : Hid _ := hc
  clear hv0 h3 hc
  by_cases h64 : 64 < os.length
  · go_enter Tryd.func55, Tryd.ntmps55
    go_wp2
    go_ret
    exact ⟨ret_int (by rw [← HC.out]; unfold chkL; rw [if_pos h64]), Below.refl _ _⟩
  · have HD : Hid (chkOps os = c) := by show _ = _; rw [← HC.out]; unfold chkL; rw [if_neg h64]
    clear HC
    go_enter Tryd.func55, Tryd.ntmps55
    go_wp2_with fail
    go_loopg [11] os.length (fun gk iv wr => ∃ j : Nat, gk + j = os.length ∧ iv = .int .i64 (j : Int) ∧ chkOps (os.drop j) = c ∧ Below w.heap.size w wr)
    case atStart => exact ⟨0, rfl, rfl, HD.out, Below.refl _ _⟩
    case round =>
      obtain ⟨j, hj, rfl, hd, hB⟩ := hrel
      have HJ : Hid _ := hd
      clear hd
      have hrd : RdO wr _ os := LsO.below (show RdO w _ os from H3.out) hB (Nat.le_refl _)
      by_cases hlt : j < os.length
      · obtain ⟨_, _, e, _, _, h3⟩ := hrd
        cases e
        obtain ⟨b, off, rfl, x, y, c0, c1, c2, rx, ry⟩ := h3 j hlt
        obtain ⟨x1, x2, ex⟩ := rx.len
        obtain ⟨y1, y2, ey⟩ := ry.len
        subst ex ey
        obtain ⟨⟨ok, ol, om⟩, ho⟩ : ∃ o, os[j] = o := ⟨_, rfl⟩
        rw [ho] at c0 c1 c2 rx ry
        obtain ⟨d, hd⟩ : ∃ d, chkOp (ok.toNat : Int) ol om = d := ⟨_, rfl⟩
        have HE : Hid (c = if d = 0 then chkOps (os.drop (j + 1)) else d) := by
          show _ = _
          rw [← HJ.out, List.drop_eq_getElem_cons hlt, ho, ← hd]
          rfl
        have HX : Hid _ := hd
        have hba := below_box wr #[.int .u8 (ok.toNat : Int), .slice x1 ol.length x2, .slice y1 om.length y2] 72
        have rx2 := rx.below hba (Nat.le_refl _)
        have ry2 := ry.below hba (Nat.le_refl _)
        clear h3 rx ry ho hd HJ HD
        go_wp2_with fail
        refine (checkop_any _ _ _ ol om ok.toNat d (by omega) rx2 ry2 HX.out).mono ?_
        rintro e w2 ⟨rfl, hb⟩
        have hB2 := (hB.trans (hba.mono hB.size)).trans (hb.mono (Nat.le_trans hB.size hba.size))
        clear hB hba hb rx2 ry2 c0 c1 c2
        by_cases hd0 : d = 0
        · subst hd0
          go_wp2
          go_roundg (gk - 1)
          case measure => omega
          case rel => exact ⟨j + 1, by omega, by go_num, by rw [HE.out]; simp, hB2⟩
        · have hdb : (d != 0) = true := by simp [hd0]
          have hdb2 : (d == 0) = false := by simp [hd0]
          go_wp2
          go_ret
          exact ⟨ret_int (by rw [HE.out, if_neg hd0]), hB2⟩
      · obtain rfl : j = os.length := by omega
        have h0 : Hid (c = 0) := by show _ = _; rw [← HJ.out, List.drop_length]; rfl
        clear hrd
        go_wp2
        go_ret
        exact ⟨ret_int h0.out.symm, hB⟩

set_option maxHeartbeats 2000000 in
theorem rcheck_any (w : World) (v : Value) (os : List OpB) (c : Int) (hv : RdO w v os) (hc : chkL os = c) :
    Calls Tryd.prog 42 #[v] w fun e w' => e = .returned (.int .i64 c) ∧ Below w.heap.size w w' := by
  have hv0 := hv
  obtain ⟨ao, cap, rfl, h1, h2, h3⟩ := hv
  unfold maxLen at h2
  have H3 : Hid _ := hv0
  have HC : Hid _ := hc
  clear hv0 h3 hc
  by_cases h64 : 64 < os.length
  · go_enter Tryd.func42, Tryd.ntmps42
    go_wp2
    go_ret
    exact ⟨ret_int (by rw [← HC.out]; unfold chkL; rw [if_pos h64]), Below.refl _ _⟩
  · have HD : Hid (chkOps os = c) := by show _ = _; rw [← HC.out]; unfold chkL; rw [if_neg h64]
    clear HC
    go_enter Tryd.func42, Tryd.ntmps42
    go_wp2_with fail
    go_loopg [11] os.length (fun gk iv wr => ∃ j : Nat, gk + j = os.length ∧ iv = .int .i64 (j : Int) ∧ chkOps (os.drop j) = c ∧ Below w.heap.size w wr)
    case atStart => exact ⟨0, rfl, rfl, HD.out, Below.refl _ _⟩
    case round =>
      obtain ⟨j, hj, rfl, hd, hB⟩ := hrel
      have HJ : Hid _ := hd
      clear hd
      have hrd : RdO wr _ os := LsO.below (show RdO w _ os from H3.out) hB (Nat.le_refl _)
      by_cases hlt : j < os.length
      · obtain ⟨_, _, e, _, _, h3⟩ := hrd
        cases e
        obtain ⟨b, off, rfl, x, y, c0, c1, c2, rx, ry⟩ := h3 j hlt
        obtain ⟨x1, x2, ex⟩ := rx.len
        obtain ⟨y1, y2, ey⟩ := ry.len
        subst ex ey
        obtain ⟨⟨ok, ol, om⟩, ho⟩ : ∃ o, os[j] = o := ⟨_, rfl⟩
        rw [ho] at c0 c1 c2 rx ry
        obtain ⟨d, hd⟩ : ∃ d, chkOp (ok.toNat : Int) ol om = d := ⟨_, rfl⟩
        have HE : Hid (c = if d = 0 then chkOps (os.drop (j + 1)) else d) := by
          show _ = _
          rw [← HJ.out, List.drop_eq_getElem_cons hlt, ho, ← hd]
          rfl
        have HX : Hid _ := hd
        have hba := below_box wr #[.int .u8 (ok.toNat : Int), .slice x1 ol.length x2, .slice y1 om.length y2] 72
        have rx2 := rx.below hba (Nat.le_refl _)
        have ry2 := ry.below hba (Nat.le_refl _)
        clear h3 rx ry ho hd HJ HD
        go_wp2_with fail
        refine (refcheckop_any _ _ _ ol om ok.toNat d (by omega) rx2 ry2 HX.out).mono ?_
        rintro e w2 ⟨rfl, hb⟩
        have hB2 := (hB.trans (hba.mono hB.size)).trans (hb.mono (Nat.le_trans hB.size hba.size))
        clear hB hba hb rx2 ry2 c0 c1 c2
        by_cases hd0 : d = 0
        · subst hd0
          go_wp2
          go_roundg (gk - 1)
          case measure => omega
          case rel => exact ⟨j + 1, by omega, by go_num, by rw [HE.out]; simp, hB2⟩
        · have hdb : (d != 0) = true := by simp [hd0]
          have hdb2 : (d == 0) = false := by simp [hd0]
          go_wp2
          go_ret
          exact ⟨ret_int (by rw [HE.out, if_neg hd0]), hB2⟩
      · obtain rfl : j = os.length := by omega
        have h0 : Hid (c = 0) := by show _ = _; rw [← HJ.out, List.drop_length]; rfl
        clear hrd
        go_wp2
        go_ret
        exact ⟨ret_int h0.out.symm, hB⟩

end Go.Proofs.YtmgofohaoppajaaDoor
