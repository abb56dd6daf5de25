/- batch.Copy. -/
import Derived.Test.YtlkfdiiapcipoaaOpCover
import Derived.Test.YtlkfdiiapcipoaaOpsPush
import Derived.Deep.LoopGhost
namespace Go.Proofs.Ytlkfdiiapcipoaa
open Go.RowKit

set_option maxHeartbeats 4000000 in
theorem bcopy_any (w : World) (v : Value) (os : List OpB) (hv : RdO w v os) (hn : os.length ≤ 1000) (hb : ∀ o ∈ os, o.2.1.length ≤ 1000000 ∧ o.2.2.length ≤ 1000000) :
    Calls Try.prog 29 #[v] w fun e w' => ∃ x, e = .returned x ∧ OwnO w.heap.size w' x os ∧ Below w.heap.size w w' := by
  obtain ⟨i0, hi, hz0, hz1, hz2⟩ := info_parts infoOp
  have hv0 := hv
  obtain ⟨ao, cap, rfl, h1, h2, h3⟩ := hv
  unfold maxLen at h2
  have H3 : Hid _ := hv0
  clear hv0 h3
  go_enter Try.func29, Try.ntmps29
  go_wp2_with fail
  go_loopg [3, 8] os.length (fun gk pv iv wr => ∃ j n' c' : Nat, ∃ a' : Option Addr, gk + j = os.length ∧ iv = .int .i64 (j : Int) ∧ pv = .slice a' n' c' ∧ OwnO w.heap.size wr pv (os.take j) ∧ Below w.heap.size w wr)
  case atStart => exact ⟨0, 0, 0, none, rfl, rfl, rfl, by rw [List.take_zero]; exact OwnO.nil _ _, Below.refl _ _⟩
  case round =>
    obtain ⟨j, n', c', a', hj, rfl, rfl, hO, hB⟩ := hrel
    have hrd : RdO wr _ os := LsO.below (show RdO w _ os from H3.out) hB (Nat.le_refl _)
    by_cases hlt : j < os.length
    · obtain ⟨_, _, e, _, _, h3⟩ := hrd
      cases e
      obtain ⟨b, off, rfl, xv, yv, c0, c1, c2, rx, ry⟩ := h3 j hlt
      obtain ⟨x1, x2, ex⟩ := rx.len
      obtain ⟨y1, y2, ey⟩ := ry.len
      subst ex ey
      obtain ⟨⟨ok, ol, om⟩, ho⟩ : ∃ o, os[j] = o := ⟨_, rfl⟩
      rw [ho] at c0 c1 c2 rx ry
      have hbd : ol.length ≤ 1000000 ∧ om.length ≤ 1000000 := by have := hb _ (List.getElem_mem hlt); rw [ho] at this; exact this
      obtain ⟨hol, hom⟩ := hbd
      have HR : Hid (os.take (j + 1) = os.take j ++ [(ok, ol, om)]) := by show _ = _; rw [List.take_succ_eq_append_getElem hlt, ho]
      have htl : (os.take j).length = j := by rw [List.length_take]; omega
      clear h3 ho
      have hlow := hB.size
      have hb0 := below_box wr #[.int .u8 (ok.toNat : Int), .slice x1 ol.length x2, .slice y1 om.length y2] 27
      have rx0 := rx.below hb0 (Nat.le_refl _)
      have ry0 := ry.below hb0 (Nat.le_refl _)
      have hO0 := hO.below hb0 (Nat.le_refl _)
      have hB0 := hB.alloc hB.size (.cells #[.int .u8 (ok.toNat : Int), .slice x1 ol.length x2, .slice y1 om.length y2] 27)
      have hlen : n' = (os.take j).length := by
        obtain ⟨cs, hrow, _⟩ := hO
        rcases hrow.2 with ⟨e, e2⟩ | ⟨g, cap', cur, e, _⟩
        · cases e; exact e2.symm
        · cases e; rfl
      obtain rfl : j = n' := by omega
      clear rx ry hO hB hb0 hlen
      go_wp2_with fail
      refine (apart_any _ _ _ ol om ok.toNat rx0 ry0 hol hom).mono ?_
      rintro e w2 ⟨x', y', rfl, ox, oy, hb2⟩
      obtain ⟨xa, xc, hxx⟩ := ox.len
      subst hxx
      obtain ⟨ya, yc, hyy⟩ := oy.len
      subst hyy
      have hB2 := hB0.trans (hb2.mono hB0.size)
      have hbe := below_box w2 #[.int .u8 (ok.toNat : Int), .slice xa ol.length xc, .slice ya om.length yc] 27
      have hOe := (hO0.below hb2 (Nat.le_refl _)).below hbe (Nat.le_refl _)
      have oxe := (ox.below hbe (Nat.le_refl _)).mono (C := w.heap.size) (by simp; omega)
      have oye := (oy.below hbe (Nat.le_refl _)).mono (C := w.heap.size) (by simp; omega)
      have hBe := hB2.trans (hbe.mono hB2.size)
      obtain ⟨cs, hrow, hel⟩ := hOe
      have hsz : w.heap.size ≤ w2.heap.size := hB2.size
      clear hO0 hB0 rx0 ry0 hb2 ox oy hbe hB2 c0 c1 c2
      go_wp2_with (at_builtin; refine wpList_append_lies _ rfl (.tmp 12) (.tmp 15) 22 rfl w.heap.size 27 i0 (.agg #[.int .u8 0, .slice none 0 0, .slice none 0 0]) 3 56 Try.underlying22 hi hz0 hz1 hz2 rfl (by decide) (.slice a' j c') (os.take j).length cs rfl hrow ⟨w2.heap.size, 0, none⟩ 1 1 [.int .u8 (ok.toNat : Int), .slice xa ol.length xc, .slice ya om.length yc] rfl rfl (laid3 _ _ _ _ _) (one3 _ _ _ _ _ _ _) (by decide) (by simp only [maxLen]; omega) (by omega) (by simp; omega) _ rfl ?_; intro g4 c4 w4 hown hgrow hat hlt4)
      have hpush := own_push (ok, ol, om) hrow hel oxe oye hown hgrow
      rw [htl] at hpush
      have hB4 := hBe.grown hgrow (Nat.le_trans hsz (by simp)) (fun k' e => (hrow.lt k' e).1)
      go_roundg (gk - 1)
      case measure => omega
      case rel => exact ⟨j + 1, _, c4, _, by omega, by go_num, rfl, by rw [HR.out]; exact hpush, hB4⟩
    · obtain rfl : j = os.length := by omega
      clear hrd
      go_wp2
      go_ret
      exact ⟨_, rfl, by rw [List.take_length] at hO; exact hO, hB⟩

end Go.Proofs.Ytlkfdiiapcipoaa
