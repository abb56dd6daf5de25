/- bartizanref04's Bytes. -/
import Derived.Test.YtjgpkmdmicjdhaaOpBytes
import Derived.Test.YtjgpkmdmicjdhaaRText
import Derived.Test.YtjgpkmdmicjdhaaRefText
namespace Go.Proofs.Ytjgpkmdmicjdhaa
open Go.RowKit

theorem rbytes_err (w : World) (v : Value) (os : List OpB) (c : Int) (hv : RdO w v os) (hc : chkL os = c) (hc0 : ¬ c = 0) :
    Calls Try.prog 23 #[v] w fun e w' => e = .returned (.tuple #[.slice none 0 0, .int .i64 c]) ∧ Below w.heap.size w w' := by
  have hcb : (c != 0) = true := by simp [hc0]
  have hcb2 : (c == 0) = false := by simp [hc0]
  have HC : Hid _ := hc
  clear hc
  obtain ⟨ao, cap, rfl, h1, h2, h3⟩ := hv
  have hv : RdO w (.slice ao os.length cap) os := ⟨ao, cap, rfl, h1, h2, h3⟩
  clear h3
  go_enter Try.func23, Try.ntmps23
  go_wp2_with fail
  refine (rcheck_any _ _ os c hv HC.out).mono ?_
  rintro e w1 ⟨rfl, hb⟩
  go_wp2
  go_ret2
  exact ⟨rfl, hb⟩

/-- a batch's bytes, up to some op -/
def flatO (n : Nat) (os : List OpB) : List UInt8 := (partsO n os).flatten

theorem flatO_nil (n : Nat) : flatO n [] = Mth.numB n := by simp [flatO, partsO]

theorem flat_take {n : Nat} {os : List OpB} {j : Nat} (h : j < os.length) : flatO n (os.take (j + 1)) = flatO n (os.take j) ++ Mth.numB os[j].1.toNat ++ textB os[j].2.1 ++ textB os[j].2.2 := by
  unfold flatO
  rw [partsO_take h, List.flatten_append]
  simp [opP]

theorem flat_le (n : Nat) (os : List OpB) (j : Nat) : (flatO n (os.take j)).length ≤ 9 + 27 * os.length + sizeO os := by
  unfold flatO
  have h1 := parts_len n (os.take j)
  have h2 := sizeO_le os j
  have h3 : (os.take j).length ≤ os.length := by rw [List.length_take]; omega
  omega

theorem textB_pos (l : List UInt8) : 0 < (textB l).length := by
  unfold textB
  rw [List.length_append, Mth.numB_length]
  have := (Mth.numL_bd l.length).1
  omega

theorem Own.of_row' {B : Nat} {w : World} {v : Value} {l : List UInt8} {n : Nat} (hn : l.length = n) (h : w.ownsRow B 5 1 v n (bv l)) (hv : v ≠ .slice none 0 0) : Own B w v l := by
  subst hn
  exact Own.of_row h hv

set_option maxHeartbeats 4000000 in
theorem rbytes_ok (w : World) (v : Value) (os : List OpB) (hv : RdO w v os) (hc : chkL os = 0) (hn : os.length ≤ 64) (hs : sizeO os ≤ 1000000) :
    Calls Try.prog 23 #[v] w fun e w' => ∃ x, e = .returned (.tuple #[x, .int .i64 0]) ∧ Own w.heap.size w' x (batB os) ∧ Below w.heap.size w w' := by
  obtain ⟨i0, hi, hz0, hz1, hz2⟩ := info_parts info5
  have HV : Hid _ := hv
  obtain ⟨ao, cap, rfl, h1, h2, h3⟩ := hv
  unfold maxLen at h2
  have HC : Hid _ := hc
  clear h3 hc
  go_enter Try.func23, Try.ntmps23
  go_wp2_with fail
  refine (rcheck_any _ _ os 0 (show RdO w _ os from HV.out) HC.out).mono ?_
  rintro e w1 ⟨rfl, hb⟩
  go_wp2_with fail
  refine (refnum_any os.length _ (by omega)).mono ?_
  rintro e w2 ⟨x, rfl, ox, hb2⟩
  rw [← flatO_nil, ← List.take_zero (l := os)] at ox
  obtain ⟨gx, kx, hx⟩ := ox.shape
  subst hx
  have hB2 := hb.trans (hb2.mono hb.size)
  have ox2 := ox.mono hb.size
  clear hb hb2 ox
  go_wp2_with fail
  go_loopg [5, 19] os.length (fun gk pv iv wr => ∃ j n' c' g' : Nat, gk + j = os.length ∧ iv = .int .i64 (j : Int) ∧ pv = .slice (some ⟨g', 0, none⟩) n' c' ∧ n' = (flatO os.length (os.take j)).length ∧ Own w.heap.size wr pv (flatO os.length (os.take j)) ∧ Below w.heap.size w wr)
  case atStart => exact ⟨0, _, kx, gx, rfl, rfl, rfl, rfl, ox2, hB2⟩
  case round =>
    obtain ⟨j, n', c', g', hj, rfl, rfl, hn', hO, hB⟩ := hrel
    clear ox2 hB2
    by_cases hlt : j < os.length
    · obtain ⟨_, _, e, _, _, h3⟩ := (show RdO w (.slice ao os.length cap) os from HV.out)
      cases e
      obtain ⟨b, off, rfl, xv, yv, k0, k1, k2, rx, ry⟩ := h3 j hlt
      have hbw := World.block_lt_of_cell? w _ k0
      have c0 := (hB.cell (p := ⟨b, off + j * 3, none⟩) hbw).trans k0
      have c1 := (hB.cell (p := ⟨b, off + j * 3 + 1, none⟩) hbw).trans k1
      have c2 := (hB.cell (p := ⟨b, off + j * 3 + 2, none⟩) hbw).trans k2
      clear k0 k1 k2 hbw
      obtain ⟨x1, x2, ex⟩ := rx.len
      obtain ⟨y1, y2, ey⟩ := ry.len
      subst ex ey
      obtain ⟨⟨ok, ol, om⟩, ho⟩ : ∃ o, os[j] = o := ⟨_, rfl⟩
      have hsl : ol.length + om.length ≤ 1000000 := by
        have e1 := sizeO_take hlt
        have e2 := sizeO_le os (j + 1)
        rw [ho] at e1
        simp only at e1
        omega
      rw [ho] at c0 c1 c2 rx ry
      obtain ⟨nk, hnk⟩ : ∃ nk, Mth.numB ok.toNat = nk := ⟨_, rfl⟩
      obtain ⟨tk, htk⟩ : ∃ tk, textB ol = tk := ⟨_, rfl⟩
      obtain ⟨tv, htv⟩ : ∃ tv, textB om = tv := ⟨_, rfl⟩
      obtain ⟨pp, hpp⟩ : ∃ pp, flatO os.length (os.take j) = pp := ⟨_, rfl⟩
      have HNK : Hid _ := hnk
      have HTK : Hid _ := htk
      have HTV : Hid _ := htv
      have HR : Hid (flatO os.length (os.take (j + 1)) = pp ++ nk ++ tk ++ tv) := by show _ = _; rw [flat_take hlt, ho, hpp, ← hnk, ← htk, ← htv]
      have hpl : pp.length ≤ 2000000 := by rw [← hpp]; have := flat_le os.length os j; omega
      have hnl : nk.length ≤ 9 := by rw [← hnk, Mth.numB_length]; exact (Mth.numL_bd _).2
      have htkl : tk.length ≤ 1000009 := by rw [← htk]; have := textB_le ol; omega
      have htvl : tv.length ≤ 1000009 := by rw [← htv]; have := textB_le om; omega
      have hnk0 : 0 < nk.length := by rw [← hnk, Mth.numB_length]; exact (Mth.numL_bd _).1
      have htk0 : 0 < tk.length := by rw [← htk]; exact textB_pos ol
      have htv0 : 0 < tv.length := by rw [← htv]; exact textB_pos om
      rw [hpp] at hn' hO
      subst hn'
      clear h3 ho hnk htk htv hpp
      have hb0 := below_box wr #[.int .u8 (ok.toNat : Int), .slice x1 ol.length x2, .slice y1 om.length y2] 67
      have bx := (box_new wr (.int .u8 (ok.toNat : Int)) (.slice x1 ol.length x2) (.slice y1 om.length y2) 67).drew
      have hO0 := (hO.below hb0 (Nat.le_refl _)).drew
      have hB0 := (hB.alloc hB.size (.cells #[.int .u8 (ok.toNat : Int), .slice x1 ol.length x2, .slice y1 om.length y2] 67)).drew
      have hgl := hO.lt.2
      have HRX : Hid _ := rx
      have HRY : Hid _ := ry
      clear rx ry hO hb0
      have hok : ok.toNat < 256 := ok.toNat_lt
      have hwk : IntKind.u64.wrap (ok.toNat : Int) = (ok.toNat : Int) := by rw [IntKind.wrap_u64]; omega
      have hgw : w.heap.size ≤ wr.heap.size := hB.size
      clear hB
      go_wp2_with fail
      go_region_held3 (fun w' => w'.cell? ⟨wr.heap.size, 0, none⟩ = some (.int .u8 (ok.toNat : Int)) ∧ w'.cell? ⟨wr.heap.size, 1, none⟩ = some (.slice x1 ol.length x2) ∧ w'.cell? ⟨wr.heap.size, 2, none⟩ = some (.slice y1 om.length y2))
        (first | exact ⟨bx6.c0, bx6.c1, bx6.c2⟩ | exact ⟨bx5.c0, bx5.c1, bx5.c2⟩ | exact ⟨bx4.c0, bx4.c1, bx4.c2⟩ | exact ⟨bx3.c0, bx3.c1, bx3.c2⟩ | exact ⟨bx2.c0, bx2.c1, bx2.c2⟩ | exact ⟨bx1.c0, bx1.c1, bx1.c2⟩ | exact ⟨bx.c0, bx.c1, bx.c2⟩)
        (first
          | (go_at_call 24; refine (refnum_any ok.toNat _ (by omega)).mono ?_; rintro e wk ⟨x, rfl, okk, hbk⟩; rw [HNK.out] at okk; obtain ⟨gk1, kk1, hx⟩ := okk.shape; subst hx; have bx1 := bx.below hbk (Nat.le_refl _); have hB1 := hB0.trans (hbk.mono hB0.size); have hO1 := hO0.below hbk (Nat.le_refl _); have hk1 := okk.lt; have hs1 := hbk.size)
          | (have hrow := hO1.row; refine step_append_lies _ rfl (.tmp 23) (.tmp 27) 23 rfl w.heap.size 5 i0 (.int .u8 0) 1 1 Try.underlying23 hi hz0 hz1 hz2 rfl (by decide) (.slice (some ⟨g', 0, none⟩) pp.length c') pp.length (bv pp) rfl hrow ⟨gk1, 0, none⟩ nk.length kk1 (bv nk) rfl (by rw [bv_length, Nat.mul_one]) (rd_cells okk.rd).2 (bv_one _) hnk0 (by simp only [maxLen]; omega) (by omega) hB1.size _ rfl ?_; intro g1 q1 wp1 hown1 hgrow1 hat1 hlt1; have hO2 : Own w.heap.size wp1 (.slice (some ⟨g1, 0, none⟩) (pp.length + nk.length) q1) (pp ++ nk) := Own.of_row (by rw [List.length_append, bv_append]; exact hown1) (by simp); have hg1 : g1 ≠ wr.heap.size := (by rcases hat1 with h | h; simp [Value.ownBlock] at h; omega; simp at hs1; omega); have bx2 := bx1.grown hgrow1 (by simp [Value.ownBlock]; omega); have hB2 := hB1.grown hgrow1 hB1.size (fun k' e => (hrow.lt k' e).1))
          | (go_at_call_of 25 (Value.slice x1 ol.length x2); refine (rtext_any _ _ ol (Rd.below (show Rd w (.slice x1 ol.length x2) ol from HRX.out) hB2 (Nat.le_refl _)) (by omega)).mono ?_; rintro e wx ⟨x, rfl, ox, hbx⟩; rw [HTK.out] at ox; obtain ⟨gx, kx, hx⟩ := ox.shape; subst hx; have bx3 := bx2.below hbx (Nat.le_refl _); have hB3 := hB2.trans (hbx.mono hB2.size); have hO3 := hO2.below hbx (Nat.le_refl _); have hs3 := hbx.size)
          | (have hrow := hO3.row; rw [List.length_append, bv_append] at hrow; refine step_append_lies _ rfl (.tmp 28) (.tmp 31) 23 rfl w.heap.size 5 i0 (.int .u8 0) 1 1 Try.underlying23 hi hz0 hz1 hz2 rfl (by decide) (.slice (some ⟨g1, 0, none⟩) (pp.length + nk.length) q1) (pp.length + nk.length) (bv pp ++ bv nk) rfl hrow ⟨gx, 0, none⟩ tk.length kx (bv tk) rfl (by rw [bv_length, Nat.mul_one]) (rd_cells ox.rd).2 (bv_one _) htk0 (by simp only [maxLen]; omega) (by omega) hB3.size _ rfl ?_; intro g2 q2 wp2 hown2 hgrow2 hat2 hlt2; have hO4 : Own w.heap.size wp2 (.slice (some ⟨g2, 0, none⟩) (pp.length + nk.length + tk.length) q2) (pp ++ nk ++ tk) := Own.of_row' (by rw [List.length_append, List.length_append]) (by rw [bv_append, bv_append]; exact hown2) (by simp); have hg2 : g2 ≠ wr.heap.size := (by rcases hat2 with h | h; simp [Value.ownBlock] at h; omega; have := bx3.lt; omega); have bx4 := bx3.grown hgrow2 (by simp [Value.ownBlock]; omega); have hB4 := hB3.grown hgrow2 hB3.size (fun k' e => (hrow.lt k' e).1))
          | (go_at_call_of 25 (Value.slice y1 om.length y2); refine (rtext_any _ _ om (Rd.below (show Rd w (.slice y1 om.length y2) om from HRY.out) hB4 (Nat.le_refl _)) (by omega)).mono ?_; rintro e wy ⟨y, rfl, oy, hby⟩; rw [HTV.out] at oy; obtain ⟨gy, ky, hy⟩ := oy.shape; subst hy; have bx5 := bx4.below hby (Nat.le_refl _); have hB5 := hB4.trans (hby.mono hB4.size); have hO5 := hO4.below hby (Nat.le_refl _))
          | (have hrow := hO5.row; rw [List.length_append, List.length_append, bv_append, bv_append] at hrow; refine step_append_lies _ rfl (.tmp 32) (.tmp 35) 23 rfl w.heap.size 5 i0 (.int .u8 0) 1 1 Try.underlying23 hi hz0 hz1 hz2 rfl (by decide) (.slice (some ⟨g2, 0, none⟩) (pp.length + nk.length + tk.length) q2) (pp.length + nk.length + tk.length) (bv pp ++ bv nk ++ bv tk) rfl hrow ⟨gy, 0, none⟩ tv.length ky (bv tv) rfl (by rw [bv_length, Nat.mul_one]) (rd_cells oy.rd).2 (bv_one _) htv0 (by simp only [maxLen]; omega) (by omega) hB5.size _ rfl ?_; intro g3 q3 wp3 hown3 hgrow3 hat3 hlt3; have hO6 : Own w.heap.size wp3 (.slice (some ⟨g3, 0, none⟩) (pp.length + nk.length + tk.length + tv.length) q3) (pp ++ nk ++ tk ++ tv) := Own.of_row' (by rw [List.length_append, List.length_append, List.length_append]) (by rw [bv_append, bv_append, bv_append]; exact hown3) (by simp); have bx6 := bx5.grown hgrow3 (by simp [Value.ownBlock]; omega); have hB6 := hB5.grown hgrow3 hB5.size (fun k' e => (hrow.lt k' e).1))
          | fail)
      all_goals
        clear hO0 hB0 bx
        go_wp2
        go_roundg (gk - 1)
        case measure => omega
        case rel => exact ⟨j + 1, _, q3, g3, by omega, by go_num, rfl, by rw [HR.out]; simp only [List.length_append], by rw [HR.out]; exact hO6, hB6⟩
    · obtain rfl : j = os.length := by omega
      have hfl : Hid (flatO os.length (os.take os.length) = batB os) := by show _ = _; rw [List.take_length]; rfl
      rw [hfl.out] at hO hn'
      subst hn'
      go_wp2
      go_ret2
      exact ⟨_, rfl, hO, hB⟩

end Go.Proofs.Ytjgpkmdmicjdhaa
