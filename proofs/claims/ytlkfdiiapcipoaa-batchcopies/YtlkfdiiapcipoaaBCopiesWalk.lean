/- BatchCopies answers true: a copy is the same, and goes its own way; and how many bytes ops have. -/
import Derived.Test.YtlkfdiiapcipoaaBChecksWalk
import Derived.Test.YtlkfdiiapcipoaaOpSame
import Derived.Test.YtlkfdiiapcipoaaOpCopy
import Derived.Test.YtlkfdiiapcipoaaOpBCopy
import Derived.Test.YtlkfdiiapcipoaaOpSize
import Derived.Test.YtlkfdiiapcipoaaOpFlips
namespace Go.Proofs.Ytlkfdiiapcipoaa
open Go.RowKit

set_option maxHeartbeats 4000000 in
set_option maxRecDepth 20000 in
theorem bcopies_walk (w : World) (v : Value) (os fs : List OpB) (HF : Hid (fewO 70 os = fs)) (hv : ArgO w v os) :
    Calls Try.prog 7 #[v] w fun e w' => e = .returned (.bool true) ∧ Below w.heap.size w w' := by
  go_enter Try.func7, Try.ntmps7
  go_wp2_with fail
  refine (bawake_any _).mono ?_
  rintro e w1 ⟨rfl, hb1⟩
  have hv1 := hv.belowA hb1 (Nat.le_refl _)
  clear hv
  go_wp2_with fail
  refine (fewop_any _ _ os 70 hv1 (by omega)).mono ?_
  rintro e w2 ⟨x, rfl, ox, hb2⟩
  rw [HF.out] at ox
  have hB2 := hb1.trans (hb2.mono hb1.size)
  have hlen : fs.length ≤ 70 := by rw [← HF.out]; exact fewO_length _ _
  have hbd : Hid (∀ o ∈ fs, o.2.1.length ≤ 1000000 ∧ o.2.2.length ≤ 1000000) := by
    intro o ho
    rw [← HF.out] at ho
    have := fewO_bound _ _ o ho
    omega
  have hsz : sizeO fs ≤ 100000 := by
    have := sizeO_bound fs (by rw [← HF.out]; exact fewO_bound _ _)
    omega
  obtain ⟨a, c, hx⟩ := ox.shape
  subst hx
  have rl2 := ox.rd
  clear hb1 hb2 hv1 ox
  go_wp2_with fail
  refine (opcopy_any _ _ fs rl2.arg (by omega) hbd.out).mono ?_
  rintro e w3 ⟨m, rfl, om, hb3⟩
  obtain ⟨ma, mc, hm⟩ := om.shape
  subst hm
  have rl3 := rl2.below hb3 (Nat.le_refl _)
  have rm3 := om.rd
  have hB3 := hB2.trans (hb3.mono hB2.size)
  clear hb3 om rl2 hB2
  go_wp2_with fail
  refine (bcopy_any _ _ fs rm3 (by omega) hbd.out).mono ?_
  rintro e w4 ⟨cv, rfl, oc, hb4⟩
  obtain ⟨ca, cc, hcv⟩ := oc.shape
  subst hcv
  have RL : Hid _ := rl3
  have RM : Hid _ := rm3
  clear rl3 rm3
  have HC : Hid _ := oc
  have HB4 : Hid _ := hb4
  have hb4s := hb4.size
  go_wp2_with fail
  go_loopg [5, 21] fs.length (fun gk sv iv wr => ∃ j : Nat, gk + j = fs.length ∧ iv = .int .i64 (j : Int) ∧ sv = .int .i64 (sizeO (fs.take j) : Int) ∧ Below w4.heap.size w4 wr)
  case atStart => exact ⟨0, rfl, rfl, rfl, Below.refl _ _⟩
  case round =>
    obtain ⟨j, hj, rfl, rfl, hB⟩ := hrel
    have hrd : RdO wr (.slice a fs.length c) fs := LsO.below (LsO.below (show RdO w3 (.slice a fs.length c) fs from RL.out) hb4 (Nat.le_refl _)) hB (Nat.le_refl _)
    by_cases hlt : j < fs.length
    · obtain ⟨_, _, e, _, _, h3⟩ := hrd
      cases e
      obtain ⟨b, off, rfl, x, y, c0, c1, c2, rx, ry⟩ := h3 j hlt
      obtain ⟨x1, x2, ex⟩ := rx.len
      obtain ⟨y1, y2, ey⟩ := ry.len
      subst ex ey
      obtain ⟨o, ho⟩ : ∃ o, fs[j] = o := ⟨_, rfl⟩
      have HS : Hid (sizeO (fs.take (j + 1)) = sizeO (fs.take j) + (o.2.1.length + o.2.2.length)) := by rw [← ho]; exact sizeO_take hlt
      have hle : sizeO (fs.take j) + (o.2.1.length + o.2.2.length) ≤ 100000 := by rw [← HS.out]; exact Nat.le_trans (sizeO_le _ _) hsz
      rw [ho] at c0 c1 c2
      clear h3 rx ry ho oc hb4
      obtain ⟨z, hz⟩ : ∃ z, sizeO (fs.take j) = z := ⟨_, rfl⟩
      rw [hz] at HS hle ⊢
      clear hz
      go_wp2
      go_roundg (gk - 1)
      case measure => omega
      case rel => exact ⟨j + 1, by omega, by go_num, by rw [HS.out]; go_num, hB.alloc hB.size _⟩
    · obtain rfl : j = fs.length := by omega
      rw [List.take_length]
      have oc5 := oc.below hB (Nat.le_refl _)
      have rm5 : RdO wr (.slice ma fs.length mc) fs := LsO.below (LsO.below (show RdO w3 (.slice ma fs.length mc) fs from RM.out) hb4 (Nat.le_refl _)) hB (Nat.le_refl _)
      have hB5 := hb4.trans (hB.mono hb4.size)
      clear oc hb4 hB HC HB4
      obtain ⟨N, hN⟩ : ∃ N, sizeO fs = N := ⟨_, rfl⟩
      have HN : Hid _ := hN
      rw [hN] at hsz
      rw [hN]
      clear hN
      go_wp2_with fail
      refine (sameops_any _ _ _ fs fs true oc5.rd hrd (by simp)).mono ?_
      rintro e w6 ⟨rfl, nn, hw6⟩
      have oc6 : OwnO w3.heap.size w6 (.slice ca fs.length cc) fs := by rw [hw6]; exact oc5
      have rm6 : RdO w6 (.slice ma fs.length mc) fs := by rw [hw6]; exact rm5
      have hB6 : Below w3.heap.size w3 w6 := by rw [hw6]; exact below_drewN hB5 _
      clear hw6 oc5 rm5 hB5 hrd
      go_wp2_with fail
      refine (bsize_any _ _ fs rm6 (by rw [HN.out]; omega)).mono ?_
      rintro e w7 ⟨rfl, hb7⟩
      rw [HN.out]
      have oc7 := oc6.below hb7 (Nat.le_refl _)
      have hB7 := hB6.trans (hb7.mono hB6.size)
      clear oc6 rm6 hB6 hb7
      obtain ⟨cs, hrow⟩ := rowC_of oc7
      clear oc7
      go_wp2_with fail
      go_loopg [47] fs.length (fun gk iv wq => ∃ j : Nat, gk + j = fs.length ∧ iv = .int .i64 (j : Int) ∧ RowC w3.heap.size wq (.slice ca fs.length cc) fs.length cs ∧ Below w3.heap.size w3 wq)
      case atStart => exact ⟨0, rfl, rfl, hrow, hB7⟩
      case round =>
        obtain ⟨j, hj2, rfl, hR, hB⟩ := hrel
        obtain ⟨G, hG⟩ : ∃ G, gk = G := ⟨_, rfl⟩
        rw [hG] at hj2
        clear hrow hB7
        by_cases hlt : j < fs.length
        · obtain ⟨g, k, hg⟩ : ∃ g k, Value.slice ca fs.length cc = .slice (some ⟨g, 0, none⟩) fs.length k := by
            obtain ⟨g, k, e, _, _⟩ := hR.1.form (by omega)
            exact ⟨g, k, e⟩
          cases hg
          have hkb : fs.length ≤ cc ∧ cc ≤ 9223372036854775807 := by
            rcases hR.1.2 with ⟨e, _⟩ | ⟨g', c', cur, e, _, _, h1, h2, _⟩
            · cases e
            · cases e; unfold maxLen at h2; omega
          obtain ⟨hk1, hk2⟩ := hkb
          obtain ⟨x, y, ex, ey, cx, cy, sx, sy⟩ := hR.cells j hlt
          have HXY : Hid (cs[j * 3 + 1]? = some x ∧ cs[j * 3 + 2]? = some y) := ⟨ex, ey⟩
          clear ex ey
          obtain ⟨xa, xn, xc, hxx⟩ : ∃ xa xn xc, x = .slice xa xn xc := by rcases sx with h | ⟨g', n, c', e, _⟩; exact ⟨_, _, _, h⟩; exact ⟨_, _, _, e⟩
          obtain ⟨ya, yn, yc, hyy⟩ : ∃ ya yn yc, y = .slice ya yn yc := by rcases sy with h | ⟨g', n, c', e, _⟩; exact ⟨_, _, _, h⟩; exact ⟨_, _, _, e⟩
          subst hxx hyy
          have hxm : xn ≤ 9223372036854775807 := by rcases sx with h | ⟨g', n, c', e, _, h1, h2, _⟩; cases h; omega; cases e; unfold maxLen at h2; omega
          have hym : yn ≤ 9223372036854775807 := by rcases sy with h | ⟨g', n, c', e, _, h1, h2, _⟩; cases h; omega; cases e; unfold maxLen at h2; omega
          clear sx sy
          go_wp2_with fail
          clear cx cy
          go_loopg [56] xn (fun gk iv wq => ∃ i : Nat, gk + i = xn ∧ iv = .int .i64 (i : Int) ∧ RowC w3.heap.size wq (.slice (some ⟨g, 0, none⟩) fs.length cc) fs.length cs ∧ Below w3.heap.size w3 wq)
          case atStart => exact ⟨0, by omega, rfl, hR, hB⟩
          case round =>
            clear hR hB
            obtain ⟨i, hi2, rfl, hR, hB⟩ := hrel
            obtain ⟨x, y, ex, ey, cx, cy, sx, sy⟩ := hR.cells j hlt
            obtain ⟨rfl, rfl⟩ : x = .slice xa xn xc ∧ y = .slice ya yn yc := by
              have e1 := HXY.out.1.symm.trans ex
              have e2 := HXY.out.2.symm.trans ey
              simp at e1 e2
              exact ⟨e1.symm, e2.symm⟩
            clear ex ey
            by_cases hlt3 : i < xn
            · rcases sx with h | ⟨gx, n, c', e, hu, h1, h2, h3⟩
              · cases h; omega
              · cases e
                unfold maxLen at h2
                obtain ⟨b, hcx, hfx⟩ := u8_cell hu i hlt3
                have hxb := b.toNat_lt
                have q1 := hR.set hu i (b ^^^ 1)
                have q2 := hB.setCell (p := ⟨gx, i, none⟩) h3 (.int .u8 ((b ^^^ 1).toNat : Int))
                have hx1 := xor_one b
                have HQ1 : Hid _ := q1
                have HQ2 : Hid _ := q2
                clear hR hB hu q1 q2 sy cy
                go_wp2
                go_roundg (gk - 1)
                case measure => omega
                case rel => exact ⟨i + 1, by omega, by go_num, HQ1.out, HQ2.out⟩
            · obtain rfl : i = xn := by omega
              clear sx sy
              go_wp2_with fail
              clear cx cy
              go_loopg [76] yn (fun gk iv wq => ∃ i : Nat, gk + i = yn ∧ iv = .int .i64 (i : Int) ∧ RowC w3.heap.size wq (.slice (some ⟨g, 0, none⟩) fs.length cc) fs.length cs ∧ Below w3.heap.size w3 wq)
              case atStart => exact ⟨0, by omega, rfl, hR, hB⟩
              case round =>
                clear hR hB
                obtain ⟨i', hi3, rfl, hR, hB⟩ := hrel
                obtain ⟨x, y, ex, ey, cx, cy, sx, sy⟩ := hR.cells j hlt
                obtain ⟨rfl, rfl⟩ : x = .slice xa i xc ∧ y = .slice ya yn yc := by
                  have e1 := HXY.out.1.symm.trans ex
                  have e2 := HXY.out.2.symm.trans ey
                  simp at e1 e2
                  exact ⟨e1.symm, e2.symm⟩
                clear ex ey
                by_cases hlt3 : i' < yn
                · rcases sy with h | ⟨gx, n, c', e, hu, h1, h2, h3⟩
                  · cases h; omega
                  · cases e
                    unfold maxLen at h2
                    obtain ⟨b, hcx, hfx⟩ := u8_cell hu i' hlt3
                    have hxb := b.toNat_lt
                    have q1 := hR.set hu i' (b ^^^ 1)
                    have q2 := hB.setCell (p := ⟨gx, i', none⟩) h3 (.int .u8 ((b ^^^ 1).toNat : Int))
                    have hx1 := xor_one b
                    have HQ1 : Hid _ := q1
                    have HQ2 : Hid _ := q2
                    clear hR hB hu q1 q2 sx cx
                    go_wp2
                    go_roundg (gk - 1)
                    case measure => omega
                    case rel => exact ⟨i' + 1, by omega, by go_num, HQ1.out, HQ2.out⟩
                · obtain rfl : i' = yn := by omega
                  clear sx sy cx cy
                  go_wp2
                  go_roundg (G - 1)
                  case measure => omega
                  case rel => exact ⟨j + 1, by omega, by go_num, hR, hB⟩
        · obtain rfl : j = fs.length := by omega
          have rm8 : RdO wr (.slice ma fs.length mc) fs := LsO.below (show RdO w3 (.slice ma fs.length mc) fs from RM.out) hB (Nat.le_refl _)
          have rl8 : RdO wr (.slice a fs.length c) fs := LsO.below (show RdO w3 (.slice a fs.length c) fs from RL.out) hB (Nat.le_refl _)
          clear hR
          go_wp2_with fail
          refine (sameops_any _ _ _ fs fs true rm8 rl8 (by simp)).mono ?_
          rintro e w9 ⟨rfl, nn, hw9⟩
          have hB9 : Below w3.heap.size w3 w9 := by rw [hw9]; exact below_drewN hB _
          clear hw9
          go_wp2
          go_ret
          exact ⟨ret_bool (by simp), hB3.trans (hB9.mono hB3.size)⟩

theorem batchCopies_walk (a0 : Option Addr) (len0 cap0 : Nat) (z0 : List OpB) (w : World) (w0 : ArgO w (.slice a0 len0 cap0) z0) :
    Calls Try.prog 7 #[.slice a0 len0 cap0] w fun e w' => e = .returned (.bool true) ∧ Below w.heap.size w w' :=
  bcopies_walk w _ z0 _ rfl w0

end Go.Proofs.Ytlkfdiiapcipoaa
