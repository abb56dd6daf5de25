/- bartizanref04's Copy. -/
import Derived.Test.YtlkfdiiapcipoaaOpsPush
import Derived.Test.YtlkfdiiapcipoaaKeyCheck
import Derived.Test.YtlkfdiiapcipoaaLists
import Derived.Deep.RegionHeld3
import Derived.Deep.DeepCutAuto
import Derived.Deep.CutRange
import Derived.Deep.LoopGhost
namespace Go.Proofs.Ytlkfdiiapcipoaa
open Go.RowKit

set_option maxHeartbeats 4000000 in
theorem opcopy_any (w : World) (v : Value) (os : List OpB)  (hv : ArgO w v os) (hn : os.length ≤ 1000) (hb : ∀ o ∈ os, o.2.1.length ≤ 1000000 ∧ o.2.2.length ≤ 1000000) :
    Calls Try.prog 16 #[v] w fun e w' => ∃ x, e = .returned x ∧ OwnO w.heap.size w' x os ∧ Below w.heap.size w w' := by
  obtain ⟨i0, hi, hz0, hz1, hz2⟩ := info_parts infoOp
  have hv0 := hv
  obtain ⟨ao, cap, rfl, h1, h2, h3⟩ := hv
  unfold maxLen at h2
  have H3 : Hid _ := hv0
  clear hv0 h3
  go_enter Try.func16, Try.ntmps16
  go_wp2_with fail
  go_loopg [3, 8] os.length (fun gk pv iv wr => ∃ j n' c' : Nat, ∃ a' : Option Addr, gk + j = os.length ∧ iv = .int .i64 (j : Int) ∧ pv = .slice a' n' c' ∧ OwnO w.heap.size wr pv (os.take j) ∧ Below w.heap.size w wr)
  case atStart => exact ⟨0, 0, 0, none, rfl, rfl, rfl, by rw [List.take_zero]; exact OwnO.nil _ _, Below.refl _ _⟩
  case round =>
    obtain ⟨j, n', c', a', hj, rfl, rfl, hO, hB⟩ := hrel
    have hrd : ArgO wr _ os := LsO.belowA (show ArgO w _ os from H3.out) hB (Nat.le_refl _)
    by_cases hlt : j < os.length
    · obtain ⟨_, _, e, _, _, h3⟩ := hrd
      cases e
      obtain ⟨b, off, rfl, xv, yv, c0, c1, c2, rx, ry⟩ := h3 j hlt
      obtain ⟨x1, x2, ex⟩ := Arg.shape rx
      obtain ⟨y1, y2, ey⟩ := Arg.shape ry
      subst ex ey
      obtain ⟨⟨ok, ol, om⟩, ho⟩ : ∃ o, os[j] = o := ⟨_, rfl⟩
      rw [ho] at c0 c1 c2 rx ry
      have hbd : ol.length ≤ 1000000 ∧ om.length ≤ 1000000 := by have := hb _ (List.getElem_mem hlt); rw [ho] at this; exact this
      obtain ⟨hol, hom⟩ := hbd
      have HR : Hid (os.take (j + 1) = os.take j ++ [(ok, ol, om)]) := by show _ = _; rw [List.take_succ_eq_append_getElem hlt, ho]
      have htl : (os.take j).length = j := by rw [List.length_take]; omega
      clear h3 ho
      have hlow := hB.size
      have hb0 := below_box wr #[.int .u8 (ok.toNat : Int), .slice x1 ol.length x2, .slice y1 om.length y2] 27
      have bx := (box_new wr (.int .u8 (ok.toNat : Int)) (.slice x1 ol.length x2) (.slice y1 om.length y2) 27).drew
      have rx0 := arg_drew (rx.below hb0 (Nat.le_refl _))
      have ry0 := arg_drew (ry.below hb0 (Nat.le_refl _))
      have hO0 := (hO.below hb0 (Nat.le_refl _)).drew
      have hB0 := (hB.alloc hB.size (.cells #[.int .u8 (ok.toNat : Int), .slice x1 ol.length x2, .slice y1 om.length y2] 27)).drew
      have hne : some wr.heap.size ≠ (Value.slice a' n' c').ownBlock := by
        obtain ⟨cs, hrow, _⟩ := hO
        intro e
        have := (hrow.lt _ e.symm).2
        omega
      have hlen : n' = (os.take j).length := by
        obtain ⟨cs, hrow, _⟩ := hO
        rcases hrow.2 with ⟨e, e2⟩ | ⟨g, cap', cur, e, _⟩
        · cases e; exact e2.symm
        · cases e; rfl
      obtain rfl : j = n' := by omega
      clear rx ry hO hB hb0 hlen

      go_wp2_with fail
      go_region_held3 (fun w' => w'.cell? ⟨wr.heap.size, 0, none⟩ = some (.int .u8 (ok.toNat : Int)) ∧ w'.cell? ⟨wr.heap.size, 1, none⟩ = some (.slice x1 ol.length x2) ∧ w'.cell? ⟨wr.heap.size, 2, none⟩ = some (.slice y1 om.length y2))
        (first | exact ⟨b4.c0, b4.c1, b4.c2⟩ | exact ⟨be.c0, be.c1, be.c2⟩ | exact ⟨by2.c0, by2.c1, by2.c2⟩ | exact ⟨bx2.c0, bx2.c1, bx2.c2⟩ | exact ⟨bx.c0, bx.c1, bx.c2⟩)
        (first
          | (go_at_call_of 23 (Value.slice x1 ol.length x2); refine (copy_any _ _ ol rx0 (by omega)).mono ?_; rintro e wx ⟨x, rfl, ox, hbx⟩; obtain ⟨gx, kx, hx⟩ := ox.shape; subst hx; have bx2 := bx.below hbx (Nat.le_refl _))
          | (go_at_call_of 23 (Value.slice y1 om.length y2); refine (copy_any _ _ om (ry0.below hbx (Nat.le_refl _)) (by omega)).mono ?_; rintro e wy ⟨y, rfl, oy, hby⟩; obtain ⟨gy, ky, hy⟩ := oy.shape; subst hy; have by2 := bx2.below hby (Nat.le_refl _); have be := by2.alloc (.cells #[.int .u8 (ok.toNat : Int), .slice (some ⟨gx, 0, none⟩) ol.length kx, .slice (some ⟨gy, 0, none⟩) om.length ky] 27))
          | (have hbe := below_box wy #[.int .u8 (ok.toNat : Int), .slice (some ⟨gx, 0, none⟩) ol.length kx, .slice (some ⟨gy, 0, none⟩) om.length ky] 27
             have hOe := ((hO0.below hbx (Nat.le_refl _)).below hby (Nat.le_refl _)).below hbe (Nat.le_refl _)
             have oxe := ((ox.below hby (Nat.le_refl _)).below hbe (Nat.le_refl _)).mono (C := w.heap.size) (by simp; omega)
             have oye := (oy.below hbe (Nat.le_refl _)).mono (C := w.heap.size) (by have := hbx.size; simp at this; omega)
             have hBx := hB0.trans (hbx.mono hB0.size)
             have hBy := hBx.trans (hby.mono hBx.size)
             have hBe := hBy.trans (hbe.mono hBy.size)
             obtain ⟨cs, hrow, hel⟩ := hOe
             have hsz : w.heap.size ≤ wy.heap.size := hBy.size
             refine step_append_lies _ rfl (.tmp 12) (.tmp 22) 22 rfl w.heap.size 27 i0 (.agg #[.int .u8 0, .slice none 0 0, .slice none 0 0]) 3 56 Try.underlying22 hi hz0 hz1 hz2 rfl (by decide) (.slice a' j c') (os.take j).length cs rfl hrow ⟨wy.heap.size, 0, none⟩ 1 1 [.int .u8 (ok.toNat : Int), .slice (some ⟨gx, 0, none⟩) ol.length kx, .slice (some ⟨gy, 0, none⟩) om.length ky] rfl rfl (laid3 _ _ _ _ _) (one3 _ _ _ _ _ _ _) (by decide) (by simp only [maxLen]; omega) (by omega) (by simp; omega) _ rfl ?_
             intro g4 c4 w4 hown hgrow hat hlt4
             have b4 := be.grown hgrow hne
             have hpush := own_push (ok, ol, om) hrow hel (.inr oxe) (.inr oye) hown hgrow
             rw [htl] at hpush
             have hB4 := hBe.grown hgrow (Nat.le_trans hsz (by simp)) (fun k' e => (hrow.lt k' e).1))
          | fail)
      all_goals
        clear hO0 hB0 bx rx0 ry0
        go_wp2
        go_roundg (gk - 1)
        case measure => omega
        case rel => exact ⟨j + 1, _, c4, _, by omega, by go_num, rfl, by rw [HR.out]; exact hpush, hB4⟩
    · obtain rfl : j = os.length := by omega
      clear hrd
      go_wp2
      go_ret
      exact ⟨_, rfl, by rw [List.take_length] at hO; exact hO, hB⟩

end Go.Proofs.Ytlkfdiiapcipoaa
