/- Several texts in one. -/
import Derived.Test.YtmgofohaoppajaaDoorOpBytes
import Derived.Test.YtmgofohaoppajaaDoorRText
import Derived.Test.YtmgofohaoppajaaDoorRefText
import Derived.Deep.RegionHeld3
import Derived.Test.YtmgofohaoppajaaDoorHeld
import Derived.Test.YtmgofohaoppajaaDoorOpsPush
import Derived.Deep.LoopGhost
import Derived.Test.YtmgofohaoppajaaDoorEntRow
import Derived.Test.YtmgofohaoppajaaDoorEntBytes
import Derived.Deep.AppendLies

/- bartizanref04's Bytes. -/
namespace Go.Proofs.YtmgofohaoppajaaDoor
set_option maxRecDepth 20000
open Go.RowKit

theorem rbytes_err (w : World) (v : Value) (os : List OpB) (c : Int) (hv : RdO w v os) (hc : chkL os = c) (hc0 : ¬ c = 0) :
    Calls Tryd.prog 24 #[v] w fun e w' => e = .returned (.tuple #[.slice none 0 0, .int .i64 c]) ∧ Below w.heap.size w w' := by
  have hcb : (c != 0) = true := by simp [hc0]
  have hcb2 : (c == 0) = false := by simp [hc0]
  have HC : Hid _ := hc
  clear hc
  obtain ⟨ao, cap, rfl, h1, h2, h3⟩ := hv
  have hv : RdO w (.slice ao os.length cap) os := ⟨ao, cap, rfl, h1, h2, h3⟩
  clear h3
  go_enter Tryd.func24, Tryd.ntmps24
  go_wp2_with fail
  refine (rcheck_any _ _ os c hv HC.out).mono ?_
  rintro e w1 ⟨rfl, hb⟩
  go_wp2
  go_ret2
  exact ⟨rfl, hb⟩

/-- a batch's bytes, up to some op -/
def flatO (n : Nat) (os : List OpB) : List UInt8 := (partsO n os).flatten

theorem flatO_nil (n : Nat) : flatO n [] = Mth.numB n := by simp [flatO, partsO]

theorem flat_take {n : Nat} {os : List OpB} {j : Nat} (h : j < os.length) : flatO n (os.take (j + 1)) = flatO n (os.take j) ++ Mth.numB os[j].1.toNat ++ textB os[j].2.1 ++ textB os[j].2.2 := by
  unfold flatO
  rw [partsO_take h, List.flatten_append]
  simp [opP]

theorem flat_le (n : Nat) (os : List OpB) (j : Nat) : (flatO n (os.take j)).length ≤ 9 + 27 * os.length + sizeO os := by
  unfold flatO
  have h1 := parts_len n (os.take j)
  have h2 := sizeO_le os j
  have h3 : (os.take j).length ≤ os.length := by rw [List.length_take]; omega
  omega

theorem textB_pos (l : List UInt8) : 0 < (textB l).length := by
  unfold textB
  rw [List.length_append, Mth.numB_length]
  have := (Mth.numL_bd l.length).1
  omega

theorem Own.of_row' {B : Nat} {w : World} {v : Value} {l : List UInt8} {n : Nat} (hn : l.length = n) (h : w.ownsRow B 5 1 v n (bv l)) (hv : v ≠ .slice none 0 0) : Own B w v l := by
  subst hn
  exact Own.of_row h hv

set_option maxHeartbeats 4000000 in
theorem rbytes_ok (w : World) (v : Value) (os : List OpB) (hv : RdO w v os) (hc : chkL os = 0) (hn : os.length ≤ 64) (hs : sizeO os ≤ 1000000) :
    Calls Tryd.prog 24 #[v] w fun e w' => ∃ x, e = .returned (.tuple #[x, .int .i64 0]) ∧ Own w.heap.size w' x (batB os) ∧ Below w.heap.size w w' := by
  obtain ⟨i0, hi, hz0, hz1, hz2⟩ := info_parts info5
  have HV : Hid _ := hv
  obtain ⟨ao, cap, rfl, h1, h2, h3⟩ := hv
  unfold maxLen at h2
  have HC : Hid _ := hc
  clear h3 hc
  go_enter Tryd.func24, Tryd.ntmps24
  go_wp2_with fail
  refine (rcheck_any _ _ os 0 (show RdO w _ os from HV.out) HC.out).mono ?_
  rintro e w1 ⟨rfl, hb⟩
  go_wp2_with fail
  refine (refnum_any os.length _ (by omega)).mono ?_
  rintro e w2 ⟨x, rfl, ox, hb2⟩
  rw [← flatO_nil, ← List.take_zero (l := os)] at ox
  obtain ⟨gx, kx, hx⟩ := ox.shape
  subst hx
  have hB2 := hb.trans (hb2.mono hb.size)
  have ox2 := ox.mono hb.size
  clear hb hb2 ox
  go_wp2_with fail
  go_loopg [5, 19] os.length (fun gk pv iv wr => ∃ j n' c' g' : Nat, gk + j = os.length ∧ iv = .int .i64 (j : Int) ∧ pv = .slice (some ⟨g', 0, none⟩) n' c' ∧ n' = (flatO os.length (os.take j)).length ∧ Own w.heap.size wr pv (flatO os.length (os.take j)) ∧ Below w.heap.size w wr)
  case atStart => exact ⟨0, _, kx, gx, rfl, rfl, rfl, rfl, ox2, hB2⟩
  case round =>
    obtain ⟨j, n', c', g', hj, rfl, rfl, hn', hO, hB⟩ := hrel
    clear ox2 hB2
    by_cases hlt : j < os.length
    · obtain ⟨_, _, e, _, _, h3⟩ := (show RdO w (.slice ao os.length cap) os from HV.out)
      cases e
      obtain ⟨b, off, rfl, xv, yv, k0, k1, k2, rx, ry⟩ := h3 j hlt
      have hbw := World.block_lt_of_cell? w _ k0
      have c0 := (hB.cell (p := ⟨b, off + j * 3, none⟩) hbw).trans k0
      have c1 := (hB.cell (p := ⟨b, off + j * 3 + 1, none⟩) hbw).trans k1
      have c2 := (hB.cell (p := ⟨b, off + j * 3 + 2, none⟩) hbw).trans k2
      clear k0 k1 k2 hbw
      obtain ⟨x1, x2, ex⟩ := rx.len
      obtain ⟨y1, y2, ey⟩ := ry.len
      subst ex ey
      obtain ⟨⟨ok, ol, om⟩, ho⟩ : ∃ o, os[j] = o := ⟨_, rfl⟩
      have hsl : ol.length + om.length ≤ 1000000 := by
        have e1 := sizeO_take hlt
        have e2 := sizeO_le os (j + 1)
        rw [ho] at e1
        simp only at e1
        omega
      rw [ho] at c0 c1 c2 rx ry
      obtain ⟨nk, hnk⟩ : ∃ nk, Mth.numB ok.toNat = nk := ⟨_, rfl⟩
      obtain ⟨tk, htk⟩ : ∃ tk, textB ol = tk := ⟨_, rfl⟩
      obtain ⟨tv, htv⟩ : ∃ tv, textB om = tv := ⟨_, rfl⟩
      obtain ⟨pp, hpp⟩ : ∃ pp, flatO os.length (os.take j) = pp := ⟨_, rfl⟩
      have HNK : Hid _ := hnk
      have HTK : Hid _ := htk
      have HTV : Hid _ := htv
      have HR : Hid (flatO os.length (os.take (j + 1)) = pp ++ nk ++ tk ++ tv) := by show _ = _; rw [flat_take hlt, ho, hpp, ← hnk, ← htk, ← htv]
      have hpl : pp.length ≤ 2000000 := by rw [← hpp]; have := flat_le os.length os j; omega
      have hnl : nk.length ≤ 9 := by rw [← hnk, Mth.numB_length]; exact (Mth.numL_bd _).2
      have htkl : tk.length ≤ 1000009 := by rw [← htk]; have := textB_le ol; omega
      have htvl : tv.length ≤ 1000009 := by rw [← htv]; have := textB_le om; omega
      have hnk0 : 0 < nk.length := by rw [← hnk, Mth.numB_length]; exact (Mth.numL_bd _).1
      have htk0 : 0 < tk.length := by rw [← htk]; exact textB_pos ol
      have htv0 : 0 < tv.length := by rw [← htv]; exact textB_pos om
      rw [hpp] at hn' hO
      subst hn'
      clear h3 ho hnk htk htv hpp
      have hb0 := below_box wr #[.int .u8 (ok.toNat : Int), .slice x1 ol.length x2, .slice y1 om.length y2] 72
      have bx := (box_new wr (.int .u8 (ok.toNat : Int)) (.slice x1 ol.length x2) (.slice y1 om.length y2) 72).drew
      have hO0 := (hO.below hb0 (Nat.le_refl _)).drew
      have hB0 := (hB.alloc hB.size (.cells #[.int .u8 (ok.toNat : Int), .slice x1 ol.length x2, .slice y1 om.length y2] 72)).drew
      have hgl := hO.lt.2
      have HRX : Hid _ := rx
      have HRY : Hid _ := ry
      clear rx ry hO hb0
      have hok : ok.toNat < 256 := ok.toNat_lt
      have hwk : IntKind.u64.wrap (ok.toNat : Int) = (ok.toNat : Int) := by rw [IntKind.wrap_u64]; omega
      have hgw : w.heap.size ≤ wr.heap.size := hB.size
      clear hB
      go_wp2_with fail
      go_region_held3 (fun w' => w'.cell? ⟨wr.heap.size, 0, none⟩ = some (.int .u8 (ok.toNat : Int)) ∧ w'.cell? ⟨wr.heap.size, 1, none⟩ = some (.slice x1 ol.length x2) ∧ w'.cell? ⟨wr.heap.size, 2, none⟩ = some (.slice y1 om.length y2))
        (first | exact ⟨bx6.c0, bx6.c1, bx6.c2⟩ | exact ⟨bx5.c0, bx5.c1, bx5.c2⟩ | exact ⟨bx4.c0, bx4.c1, bx4.c2⟩ | exact ⟨bx3.c0, bx3.c1, bx3.c2⟩ | exact ⟨bx2.c0, bx2.c1, bx2.c2⟩ | exact ⟨bx1.c0, bx1.c1, bx1.c2⟩ | exact ⟨bx.c0, bx.c1, bx.c2⟩)
        (first
          | (go_at_call 25; refine (refnum_any ok.toNat _ (by omega)).mono ?_; rintro e wk ⟨x, rfl, okk, hbk⟩; rw [HNK.out] at okk; obtain ⟨gk1, kk1, hx⟩ := okk.shape; subst hx; have bx1 := bx.below hbk (Nat.le_refl _); have hB1 := hB0.trans (hbk.mono hB0.size); have hO1 := hO0.below hbk (Nat.le_refl _); have hk1 := okk.lt; have hs1 := hbk.size)
          | (have hrow := hO1.row; refine step_append_lies _ rfl (.tmp 23) (.tmp 27) 26 rfl w.heap.size 5 i0 (.int .u8 0) 1 1 Tryd.underlying26 hi hz0 hz1 hz2 rfl (by decide) (.slice (some ⟨g', 0, none⟩) pp.length c') pp.length (bv pp) rfl hrow ⟨gk1, 0, none⟩ nk.length kk1 (bv nk) rfl (by rw [bv_length, Nat.mul_one]) (rd_cells okk.rd).2 (bv_one _) hnk0 (by simp only [maxLen]; omega) (by omega) hB1.size _ rfl ?_; intro g1 q1 wp1 hown1 hgrow1 hat1 hlt1; have hO2 : Own w.heap.size wp1 (.slice (some ⟨g1, 0, none⟩) (pp.length + nk.length) q1) (pp ++ nk) := Own.of_row (by rw [List.length_append, bv_append]; exact hown1) (by simp); have hg1 : g1 ≠ wr.heap.size := (by rcases hat1 with h | h; simp [Value.ownBlock] at h; omega; simp at hs1; omega); have bx2 := bx1.grown hgrow1 (by simp [Value.ownBlock]; omega); have hB2 := hB1.grown hgrow1 hB1.size (fun k' e => (hrow.lt k' e).1))
          | (go_at_call_of 26 (Value.slice x1 ol.length x2); refine (rtext_any _ _ ol (Rd.below (show Rd w (.slice x1 ol.length x2) ol from HRX.out) hB2 (Nat.le_refl _)) (by omega)).mono ?_; rintro e wx ⟨x, rfl, ox, hbx⟩; rw [HTK.out] at ox; obtain ⟨gx, kx, hx⟩ := ox.shape; subst hx; have bx3 := bx2.below hbx (Nat.le_refl _); have hB3 := hB2.trans (hbx.mono hB2.size); have hO3 := hO2.below hbx (Nat.le_refl _); have hs3 := hbx.size)
          | (have hrow := hO3.row; rw [List.length_append, bv_append] at hrow; refine step_append_lies _ rfl (.tmp 28) (.tmp 31) 26 rfl w.heap.size 5 i0 (.int .u8 0) 1 1 Tryd.underlying26 hi hz0 hz1 hz2 rfl (by decide) (.slice (some ⟨g1, 0, none⟩) (pp.length + nk.length) q1) (pp.length + nk.length) (bv pp ++ bv nk) rfl hrow ⟨gx, 0, none⟩ tk.length kx (bv tk) rfl (by rw [bv_length, Nat.mul_one]) (rd_cells ox.rd).2 (bv_one _) htk0 (by simp only [maxLen]; omega) (by omega) hB3.size _ rfl ?_; intro g2 q2 wp2 hown2 hgrow2 hat2 hlt2; have hO4 : Own w.heap.size wp2 (.slice (some ⟨g2, 0, none⟩) (pp.length + nk.length + tk.length) q2) (pp ++ nk ++ tk) := Own.of_row' (by rw [List.length_append, List.length_append]) (by rw [bv_append, bv_append]; exact hown2) (by simp); have hg2 : g2 ≠ wr.heap.size := (by rcases hat2 with h | h; simp [Value.ownBlock] at h; omega; have := bx3.lt; omega); have bx4 := bx3.grown hgrow2 (by simp [Value.ownBlock]; omega); have hB4 := hB3.grown hgrow2 hB3.size (fun k' e => (hrow.lt k' e).1))
          | (go_at_call_of 26 (Value.slice y1 om.length y2); refine (rtext_any _ _ om (Rd.below (show Rd w (.slice y1 om.length y2) om from HRY.out) hB4 (Nat.le_refl _)) (by omega)).mono ?_; rintro e wy ⟨y, rfl, oy, hby⟩; rw [HTV.out] at oy; obtain ⟨gy, ky, hy⟩ := oy.shape; subst hy; have bx5 := bx4.below hby (Nat.le_refl _); have hB5 := hB4.trans (hby.mono hB4.size); have hO5 := hO4.below hby (Nat.le_refl _))
          | (have hrow := hO5.row; rw [List.length_append, List.length_append, bv_append, bv_append] at hrow; refine step_append_lies _ rfl (.tmp 32) (.tmp 35) 26 rfl w.heap.size 5 i0 (.int .u8 0) 1 1 Tryd.underlying26 hi hz0 hz1 hz2 rfl (by decide) (.slice (some ⟨g2, 0, none⟩) (pp.length + nk.length + tk.length) q2) (pp.length + nk.length + tk.length) (bv pp ++ bv nk ++ bv tk) rfl hrow ⟨gy, 0, none⟩ tv.length ky (bv tv) rfl (by rw [bv_length, Nat.mul_one]) (rd_cells oy.rd).2 (bv_one _) htv0 (by simp only [maxLen]; omega) (by omega) hB5.size _ rfl ?_; intro g3 q3 wp3 hown3 hgrow3 hat3 hlt3; have hO6 : Own w.heap.size wp3 (.slice (some ⟨g3, 0, none⟩) (pp.length + nk.length + tk.length + tv.length) q3) (pp ++ nk ++ tk ++ tv) := Own.of_row' (by rw [List.length_append, List.length_append, List.length_append]) (by rw [bv_append, bv_append, bv_append]; exact hown3) (by simp); have bx6 := bx5.grown hgrow3 (by simp [Value.ownBlock]; omega); have hB6 := hB5.grown hgrow3 hB5.size (fun k' e => (hrow.lt k' e).1))
          | fail)
      all_goals
        clear hO0 hB0 bx
        go_wp2
        go_roundg (gk - 1)
        case measure => omega
        case rel => exact ⟨j + 1, _, q3, g3, by omega, by go_num, rfl, by rw [HR.out]; simp only [List.length_append], by rw [HR.out]; exact hO6, hB6⟩
    · obtain rfl : j = os.length := by omega
      have hfl : Hid (flatO os.length (os.take os.length) = batB os) := by show _ = _; rw [List.take_length]; rfl
      rw [hfl.out] at hO hn'
      subst hn'
      go_wp2
      go_ret2
      exact ⟨_, rfl, hO, hB⟩

end Go.Proofs.YtmgofohaoppajaaDoor

/- TakeText, both ways. -/
namespace Go.Proofs.YtmgofohaoppajaaDoor
set_option maxRecDepth 20000
open Go.RowKit

/-- what both TakeTexts answer -/
def textS (l : List UInt8) (most : Int) : List UInt8 × List UInt8 × Nat :=
  if (frontS l).2.2 = 0 then
    if most < 0 ∨ most < ((frontS l).1 : Int) then ([], [], 3)
    else if l.length - (frontS l).2.1 < (frontS l).1 then ([], [], 2)
    else ((l.drop (frontS l).2.1).take (frontS l).1, l.drop ((frontS l).2.1 + (frontS l).1), 0)
  else ([], [], (frontS l).2.2)

theorem text_any (w : World) (v : Value) (l : List UInt8) (most : Int) (hm2 : most ≤ 9223372036854775807) (hv : Rd w v l) (hlen : l.length ≤ 1099511627776) :
    Calls Tryd.prog 48 #[v, .int .i64 most] w fun e w' => ∃ x y, e = .returned (.tuple #[x, y, .int .i64 ((textS l most).2.2 : Int)]) ∧ Rd w' x (textS l most).1 ∧ Rd w' y (textS l most).2.1 ∧ From w.heap.size x ∧ From w.heap.size y ∧ Below w.heap.size w w' := by
  obtain ⟨⟨n, s, e⟩, hf⟩ : ∃ y, frontS l = y := ⟨_, rfl⟩
  by_cases he : e = 0
  · subst he
    by_cases h1 : most < 0 ∨ most < (n : Int)
    · have hT : textS l most = ([], [], 3) := by unfold textS; rw [hf]; simp only [if_true]; rw [if_pos h1]
      refine (tt_long w v l most n s hm2 hv hf h1).mono ?_
      rintro r w' ⟨rfl, hb⟩
      rw [hT]
      exact ⟨_, _, rfl, .inl ⟨rfl, rfl⟩, .inl ⟨rfl, rfl⟩, from_nil _, from_nil _, hb⟩
    · by_cases h2 : l.length - s < n
      · have hT : textS l most = ([], [], 2) := by unfold textS; rw [hf]; simp only [if_true]; rw [if_neg h1, if_pos h2]
        refine (tt_short w v l most n s hm2 hv hf (by omega) h2).mono ?_
        rintro r w' ⟨rfl, hb⟩
        rw [hT]
        exact ⟨_, _, rfl, .inl ⟨rfl, rfl⟩, .inl ⟨rfl, rfl⟩, from_nil _, from_nil _, hb⟩
      · have hT : textS l most = ((l.drop s).take n, l.drop (s + n), 0) := by unfold textS; rw [hf]; simp only [if_true]; rw [if_neg h1, if_neg h2]
        refine (tt_ok w v l _ _ most n s hm2 hv hf (by omega) (by omega) hlen rfl rfl).mono ?_
        rintro r w' ⟨x, y, rfl, hx, hy, hb⟩
        rw [hT]
        exact ⟨x, y, rfl, hx.rd, hy.rd, hx.from, hy.from, hb⟩
  · obtain ⟨rfl, rfl, h24⟩ := frontS_err hf he
    have hT : textS l most = ([], [], e) := by unfold textS; rw [hf]; simp only; rw [if_neg he]
    refine (tt_front w v l most e hv hf h24).mono ?_
    rintro r w' ⟨rfl, hb⟩
    rw [hT]
    exact ⟨_, _, rfl, .inl ⟨rfl, rfl⟩, .inl ⟨rfl, rfl⟩, from_nil _, from_nil _, hb⟩

theorem reftext_any (w : World) (v : Value) (l : List UInt8) (most : Int) (hm2 : most ≤ 9223372036854775807) (hv : Rd w v l) (hlen : l.length ≤ 1099511627776) :
    Calls Tryd.prog 51 #[v, .int .i64 most] w fun e w' => ∃ x y, e = .returned (.tuple #[x, y, .int .i64 ((textS l most).2.2 : Int)]) ∧ Rd w' x (textS l most).1 ∧ Rd w' y (textS l most).2.1 ∧ From w.heap.size x ∧ From w.heap.size y ∧ Below w.heap.size w w' := by
  obtain ⟨⟨n, s, e⟩, hf⟩ : ∃ y, frontS l = y := ⟨_, rfl⟩
  by_cases he : e = 0
  · subst he
    by_cases h1 : most < 0 ∨ most < (n : Int)
    · have hT : textS l most = ([], [], 3) := by unfold textS; rw [hf]; simp only [if_true]; rw [if_pos h1]
      refine (rtt_long w v l most n s hm2 hv hlen hf h1).mono ?_
      rintro r w' ⟨rfl, hb⟩
      rw [hT]
      exact ⟨_, _, rfl, .inl ⟨rfl, rfl⟩, .inl ⟨rfl, rfl⟩, from_nil _, from_nil _, hb⟩
    · by_cases h2 : l.length - s < n
      · have hT : textS l most = ([], [], 2) := by unfold textS; rw [hf]; simp only [if_true]; rw [if_neg h1, if_pos h2]
        refine (rtt_short w v l most n s hm2 hv hlen hf (by omega) h2).mono ?_
        rintro r w' ⟨rfl, hb⟩
        rw [hT]
        exact ⟨_, _, rfl, .inl ⟨rfl, rfl⟩, .inl ⟨rfl, rfl⟩, from_nil _, from_nil _, hb⟩
      · have hT : textS l most = ((l.drop s).take n, l.drop (s + n), 0) := by unfold textS; rw [hf]; simp only [if_true]; rw [if_neg h1, if_neg h2]
        refine (rtt_ok w v l _ _ most n s hm2 hv hf (by omega) (by omega) hlen rfl rfl).mono ?_
        rintro r w' ⟨x, y, rfl, hx, hy, fx, fy, hb⟩
        rw [hT]
        exact ⟨x, y, rfl, hx, hy, fx, fy, hb⟩
  · obtain ⟨rfl, rfl, h24⟩ := frontS_err hf he
    have hT : textS l most = ([], [], e) := by unfold textS; rw [hf]; simp only; rw [if_neg he]
    refine (rtt_front w v l most e hv hlen hf h24).mono ?_
    rintro r w' ⟨rfl, hb⟩
    rw [hT]
    exact ⟨_, _, rfl, .inl ⟨rfl, rfl⟩, .inl ⟨rfl, rfl⟩, from_nil _, from_nil _, hb⟩

/-- what stands behind the number, as bytes -/
def behindS (l : List UInt8) : List UInt8 := if (frontS l).2.2 = 0 then l.drop (frontS l).2.1 else []

theorem TakePost.rd {l : List UInt8} {B : Nat} {w : World} {x : Value} (h : TakePost l B w x) : Rd w x (behindS l) := by
  unfold TakePost at h
  unfold behindS
  split at h
  · rename_i e; rw [if_pos e]; exact h.rd
  · rename_i e; rw [if_neg e]; exact .inl ⟨h, rfl⟩

end Go.Proofs.YtmgofohaoppajaaDoor

/- Which batch bytes are. -/
namespace Go.Proofs.YtmgofohaoppajaaDoor
set_option maxRecDepth 20000
open Go.RowKit

/-- the op in front, what stands behind; false: there is no right one -/
def takeS (l : List UInt8) : OpB × List UInt8 × Bool :=
  if (frontS l).2.2 = 0 ∧ (frontS l).1 ≤ 3 then
    if (textS (l.drop (frontS l).2.1) 64).2.2 = 0 then
      if (textS (textS (l.drop (frontS l).2.1) 64).2.1 512).2.2 = 0 then
        ((UInt8.ofNat (frontS l).1, (textS (l.drop (frontS l).2.1) 64).1, (textS (textS (l.drop (frontS l).2.1) 64).2.1 512).1), (textS (textS (l.drop (frontS l).2.1) 64).2.1 512).2.1,
          decide (chkOp ((frontS l).1 : Int) (textS (l.drop (frontS l).2.1) 64).1 (textS (textS (l.drop (frontS l).2.1) 64).2.1 512).1 = 0))
      else ((0, [], []), [], false)
    else ((0, [], []), [], false)
  else ((0, [], []), [], false)

def readN : Nat → List UInt8 → Option (List OpB × List UInt8)
  | 0, l => some ([], l)
  | n + 1, l => if (takeS l).2.2 = true then (readN n (takeS l).2.1).map fun r => ((takeS l).1 :: r.1, r.2) else none

def batS (l : List UInt8) : List OpB × Nat :=
  if (frontS l).2.2 = 0 ∧ (frontS l).1 ≤ 64 then
    match readN (frontS l).1 (l.drop (frontS l).2.1) with
    | some (os, []) => (os, 0)
    | _ => ([], 4)
  else ([], 4)

/-- the document's: what stands there, whatever it is -/
def takeR (l : List UInt8) : Option (OpB × List UInt8) :=
  if (frontS l).2.2 = 0 ∧ (textS (behindS l) 512).2.2 = 0 ∧ (textS (textS (behindS l) 512).2.1 512).2.2 = 0 ∧ (frontS l).1 ≤ 255 then
    some ((UInt8.ofNat (frontS l).1, (textS (behindS l) 512).1, (textS (textS (behindS l) 512).2.1 512).1), (textS (textS (behindS l) 512).2.1 512).2.1)
  else none

def refN : Nat → List UInt8 → Option (List OpB × List UInt8)
  | 0, l => some ([], l)
  | n + 1, l => match takeR l with
    | some (o, r) => (refN n r).map fun q => (o :: q.1, q.2)
    | none => none

def refS (l : List UInt8) : List OpB × Nat :=
  if (frontS l).2.2 = 0 ∧ (frontS l).1 ≤ 64 then
    match refN (frontS l).1 (l.drop (frontS l).2.1) with
    | some (os, _) => if chkL os = 0 ∧ batB os = l then (os, 0) else ([], 4)
    | none => ([], 4)
  else ([], 4)

theorem front_inv {l : List UInt8} {n s : Nat} (h : frontS l = (n, s, 0)) : l = Mth.numB n ++ l.drop s := by
  match l, h with
  | [], h => simp [frontS] at h
  | f :: t, h =>
    rw [frontS] at h
    split at h
    · simp at h
    · split at h
      · rename_i hb
        simp only [Prod.mk.injEq] at h
        obtain ⟨h1, h2, _⟩ := h
        have := eq_of_beq hb
        rw [h1, h2] at this
        rw [this, List.take_append_drop]
      · simp at h

theorem text_inv {l u r : List UInt8} {m : Int} (h : textS l m = (u, r, 0)) : l = textB u ++ r ∧ (u.length : Int) ≤ m := by
  unfold textS at h
  obtain ⟨⟨n, s, e⟩, hf⟩ : ∃ y, frontS l = y := ⟨_, rfl⟩
  rw [hf] at h
  simp only at h
  split at h
  · rename_i he
    subst he
    split at h
    · simp at h
    · rename_i h1
      split at h
      · simp at h
      · rename_i h2
        simp only [Prod.mk.injEq, and_true] at h
        obtain ⟨rfl, rfl⟩ := h
        have hl : ((l.drop s).take n).length = n := by rw [List.length_take, List.length_drop]; omega
        refine ⟨?_, by rw [hl]; omega⟩
        unfold textB
        rw [hl, List.append_assoc, ← List.drop_drop, List.take_append_drop]
        exact front_inv hf
  · rename_i he
    simp only [Prod.mk.injEq] at h
    exact absurd h.2.2 he

theorem text_mk (u r : List UInt8) (m : Int) (hm : (u.length : Int) ≤ m) (hu : u.length < 18446744073709551616) : textS (textB u ++ r) m = (u, r, 0) := by
  unfold textS textB
  rw [List.append_assoc, front_numB u.length hu (u ++ r)]
  simp only [if_true]
  rw [if_neg (by omega), if_neg (by simp only [List.length_append]; omega)]
  simp

theorem chk_le {k : Int} {l m : List UInt8} (h : chkOp k l m = 0) : 1 ≤ k ∧ k ≤ 3 ∧ l.length ≤ 64 ∧ m.length ≤ 512 := by
  unfold chkOp at h
  split at h
  · simp at h
  · rename_i h1
    split at h
    · simp at h
    · rename_i h2
      split at h
      · simp at h
      · rename_i h3
        grind

/-- an op's bytes -/
def opB (o : OpB) : List UInt8 := Mth.numB o.1.toNat ++ (textB o.2.1 ++ textB o.2.2)

theorem take_inv {l r : List UInt8} {o : OpB} (h : takeS l = (o, r, true)) : l = opB o ++ r ∧ chkOp (o.1.toNat : Int) o.2.1 o.2.2 = 0 := by
  unfold takeS at h
  obtain ⟨⟨n, s, e⟩, hf⟩ : ∃ y, frontS l = y := ⟨_, rfl⟩
  rw [hf] at h
  simp only at h
  obtain ⟨⟨u, p, e1⟩, hu⟩ : ∃ y, textS (l.drop s) 64 = y := ⟨_, rfl⟩
  rw [hu] at h
  simp only at h
  obtain ⟨⟨x, q, e2⟩, hx⟩ : ∃ y, textS p 512 = y := ⟨_, rfl⟩
  rw [hx] at h
  simp only at h
  split at h
  · rename_i h1
    obtain ⟨rfl, hn⟩ := h1
    split at h
    · rename_i h2
      subst h2
      split at h
      · rename_i h3
        subst h3
        simp only [Prod.mk.injEq, decide_eq_true_eq] at h
        obtain ⟨rfl, rfl, hc⟩ := h
        have hnn : (UInt8.ofNat n).toNat = n := by simp; omega
        have i1 := front_inv hf
        have i2 := (text_inv hu).1
        have i3 := (text_inv hx).1
        refine ⟨?_, by simp only [hnn]; exact hc⟩
        unfold opB
        simp only [hnn, List.append_assoc]
        rw [← i3, ← i2]
        exact i1
      · simp at h
    · simp at h
  · simp at h

theorem take_mk (o : OpB) (r : List UInt8) (hc : chkOp (o.1.toNat : Int) o.2.1 o.2.2 = 0) : takeS (opB o ++ r) = (o, r, true) := by
  have hb := chk_le hc
  have hn : o.1.toNat < 256 := o.1.toNat_lt
  have hf : frontS (opB o ++ r) = (o.1.toNat, (Mth.numB o.1.toNat).length, 0) := by unfold opB; rw [List.append_assoc]; exact front_numB _ (by omega) _
  have hd : (opB o ++ r).drop (Mth.numB o.1.toNat).length = textB o.2.1 ++ (textB o.2.2 ++ r) := by unfold opB; simp
  unfold takeS
  rw [hf]
  simp only [hd]
  rw [text_mk o.2.1 _ 64 (by omega) (by omega)]
  simp only [if_true]
  rw [text_mk o.2.2 _ 512 (by omega) (by omega)]
  simp only [if_true]
  rw [if_pos ⟨trivial, by omega⟩]
  simp [hc]

theorem takeR_inv {l r : List UInt8} {o : OpB} (h : takeR l = some (o, r)) : l = opB o ++ r := by
  unfold takeR at h
  obtain ⟨⟨n, s, e⟩, hf⟩ : ∃ y, frontS l = y := ⟨_, rfl⟩
  have hbh : e = 0 → behindS l = l.drop s := by intro he; unfold behindS; rw [hf]; simp only; rw [if_pos he]
  rw [hf] at h
  simp only at h
  obtain ⟨⟨u, p, e1⟩, hu⟩ : ∃ y, textS (behindS l) 512 = y := ⟨_, rfl⟩
  rw [hu] at h
  simp only at h
  obtain ⟨⟨x, q, e2⟩, hx⟩ : ∃ y, textS p 512 = y := ⟨_, rfl⟩
  rw [hx] at h
  simp only at h
  split at h
  · rename_i h1
    obtain ⟨rfl, rfl, rfl, hn⟩ := h1
    simp only [Option.some.injEq, Prod.mk.injEq] at h
    obtain ⟨rfl, rfl⟩ := h
    have hnn : (UInt8.ofNat n).toNat = n := by simp; omega
    rw [hbh rfl] at hu
    have i1 := front_inv hf
    have i2 := (text_inv hu).1
    have i3 := (text_inv hx).1
    unfold opB
    simp only [hnn, List.append_assoc]
    rw [← i3, ← i2]
    exact i1
  · simp at h

theorem takeR_mk (o : OpB) (r : List UInt8) (hc : chkOp (o.1.toNat : Int) o.2.1 o.2.2 = 0) : takeR (opB o ++ r) = some (o, r) := by
  have hb := chk_le hc
  have hn : o.1.toNat < 256 := o.1.toNat_lt
  have hf : frontS (opB o ++ r) = (o.1.toNat, (Mth.numB o.1.toNat).length, 0) := by unfold opB; rw [List.append_assoc]; exact front_numB _ (by omega) _
  have hd : behindS (opB o ++ r) = textB o.2.1 ++ (textB o.2.2 ++ r) := by unfold behindS; rw [hf]; simp only [if_true]; unfold opB; simp
  unfold takeR
  rw [hf, hd, text_mk o.2.1 _ 512 (by omega) (by omega)]
  simp only
  rw [text_mk o.2.2 _ 512 (by omega) (by omega)]
  simp only
  rw [if_pos ⟨trivial, trivial, trivial, by omega⟩]
  simp

/-- ops' bytes, one behind the other -/
def opsB (os : List OpB) : List UInt8 := (os.map opB).flatten

theorem batB_eq (os : List OpB) : batB os = Mth.numB os.length ++ opsB os := by
  have h : ∀ ps : List OpB, (ps.flatMap opP).flatten = opsB ps := by
    intro ps
    induction ps with
    | nil => rfl
    | cons o ps ih =>
      rw [List.flatMap_cons, List.flatten_append, ih]
      simp [opsB, opP, opB]
  unfold batB partsO
  rw [List.flatten_cons, h]

theorem readN_inv {n : Nat} {l t : List UInt8} {os : List OpB} (h : readN n l = some (os, t)) : l = opsB os ++ t ∧ os.length = n ∧ (∀ o ∈ os, chkOp (o.1.toNat : Int) o.2.1 o.2.2 = 0) := by
  induction n generalizing l os with
  | zero => simp [readN] at h; obtain ⟨rfl, rfl⟩ := h; exact ⟨by simp [opsB], rfl, by simp⟩
  | succ n ih =>
    unfold readN at h
    obtain ⟨⟨o, r, b⟩, ht⟩ : ∃ y, takeS l = y := ⟨_, rfl⟩
    rw [ht] at h
    simp only at h
    split at h
    · rename_i hb
      subst hb
      rw [Option.map_eq_some_iff] at h
      obtain ⟨⟨ps, t'⟩, h1, h2⟩ := h
      simp only [Prod.mk.injEq] at h2
      obtain ⟨rfl, rfl⟩ := h2
      obtain ⟨e1, e2, e3⟩ := ih h1
      obtain ⟨i1, i2⟩ := take_inv ht
      refine ⟨?_, by simp [e2], ?_⟩
      · rw [i1, e1]; simp [opsB]
      · intro q hq
        rcases List.mem_cons.1 hq with rfl | hq
        · exact i2
        · exact e3 q hq
    · simp at h

theorem refN_inv {n : Nat} {l t : List UInt8} {os : List OpB} (h : refN n l = some (os, t)) : l = opsB os ++ t ∧ os.length = n := by
  induction n generalizing l os with
  | zero => simp [refN] at h; obtain ⟨rfl, rfl⟩ := h; exact ⟨by simp [opsB], rfl⟩
  | succ n ih =>
    unfold refN at h
    split at h
    · rename_i o r ht
      rw [Option.map_eq_some_iff] at h
      obtain ⟨⟨ps, t'⟩, h1, h2⟩ := h
      simp only [Prod.mk.injEq] at h2
      obtain ⟨rfl, rfl⟩ := h2
      obtain ⟨e1, e2⟩ := ih h1
      have i1 := takeR_inv ht
      exact ⟨by rw [i1, e1]; simp [opsB], by simp [e2]⟩
    · simp at h

theorem readN_mk (os : List OpB) (t : List UInt8) (hc : ∀ o ∈ os, chkOp (o.1.toNat : Int) o.2.1 o.2.2 = 0) : readN os.length (opsB os ++ t) = some (os, t) := by
  induction os with
  | nil => rfl
  | cons o os ih =>
    have e : opsB (o :: os) ++ t = opB o ++ (opsB os ++ t) := by simp [opsB]
    rw [List.length_cons, e, readN, take_mk o _ (hc o (by simp))]
    simp [ih (fun p hp => hc p (by simp [hp]))]

theorem refN_mk (os : List OpB) (t : List UInt8) (hc : ∀ o ∈ os, chkOp (o.1.toNat : Int) o.2.1 o.2.2 = 0) : refN os.length (opsB os ++ t) = some (os, t) := by
  induction os with
  | nil => rfl
  | cons o os ih =>
    have e : opsB (o :: os) ++ t = opB o ++ (opsB os ++ t) := by simp [opsB]
    rw [List.length_cons, e, refN, takeR_mk o _ (hc o (by simp))]
    simp [ih (fun p hp => hc p (by simp [hp]))]

theorem chkOps_zero {os : List OpB} : chkOps os = 0 ↔ ∀ o ∈ os, chkOp (o.1.toNat : Int) o.2.1 o.2.2 = 0 := by
  induction os with
  | nil => simp [chkOps]
  | cons o os ih =>
    unfold chkOps
    split
    · rename_i h
      rw [ih]
      simp [h]
    · rename_i h
      simp [h]

theorem chkL_zero {os : List OpB} : chkL os = 0 ↔ os.length ≤ 64 ∧ ∀ o ∈ os, chkOp (o.1.toNat : Int) o.2.1 o.2.2 = 0 := by
  unfold chkL
  split
  · rename_i h
    constructor
    · intro h'; simp at h'
    · intro h'; omega
  · rename_i h
    rw [chkOps_zero]
    exact ⟨fun h' => ⟨by omega, h'⟩, fun h' => h'.2⟩

/-- the two answers are one -/
theorem bat_same (l : List UInt8) : batS l = refS l := by
  unfold batS refS
  obtain ⟨⟨n, s, e⟩, hf⟩ : ∃ y, frontS l = y := ⟨_, rfl⟩
  rw [hf]
  simp only
  split
  · rename_i h
    obtain ⟨rfl, hn⟩ := h
    have i0 := front_inv hf
    cases hr : readN n (l.drop s) with
    | some q =>
      obtain ⟨os, t⟩ := q
      obtain ⟨e1, e2, e3⟩ := readN_inv hr
      have hr2 : refN n (l.drop s) = some (os, t) := by rw [e1, ← e2]; exact refN_mk os t e3
      rw [hr2]
      simp only
      have hcl : chkL os = 0 := chkL_zero.2 ⟨by omega, e3⟩
      cases t with
      | nil =>
        rw [List.append_nil] at e1
        rw [if_pos ⟨hcl, by rw [batB_eq, e2, ← e1]; exact i0.symm⟩]
      | cons b t =>
        rw [if_neg]
        rintro ⟨_, hb⟩
        rw [batB_eq, e2] at hb
        have h2 : opsB os = l.drop s := by
          have := hb.trans i0
          exact List.append_cancel_left this
        rw [← h2] at e1
        have := congrArg List.length e1
        simp at this
    | none =>
      simp only
      cases hr2 : refN n (l.drop s) with
      | none => rfl
      | some q =>
        obtain ⟨os, t⟩ := q
        simp only
        rw [if_neg]
        rintro ⟨hc, _⟩
        obtain ⟨e1, e2⟩ := refN_inv hr2
        have h3 := readN_mk os t (chkL_zero.1 hc).2
        rw [← e1, e2, hr] at h3
        cases h3
  · rfl

theorem bat_back (os : List OpB) (hc : chkL os = 0) : batS (batB os) = (os, 0) := by
  obtain ⟨h1, h2⟩ := chkL_zero.1 hc
  have hf : frontS (batB os) = (os.length, (Mth.numB os.length).length, 0) := by rw [batB_eq]; exact front_numB _ (by omega) _
  have hd : (batB os).drop (Mth.numB os.length).length = opsB os := by rw [batB_eq]; simp
  have hr := readN_mk os [] h2
  rw [List.append_nil] at hr
  unfold batS
  rw [hf]
  simp only [hd, hr]
  rw [if_pos ⟨trivial, by omega⟩]

end Go.Proofs.YtmgofohaoppajaaDoor

/- batch.takeOp. -/
namespace Go.Proofs.YtmgofohaoppajaaDoor
set_option maxRecDepth 20000
open Go.RowKit

theorem Rd.stored3f {w : World} {v : Value} {l : List UInt8} {b : Nat} (h : Rd w v l) (hf : From (b + 1) v) (u0 u1 u2 : Value) : Rd (((w.setCell ⟨b, 0, none⟩ u0).setCell ⟨b, 1, none⟩ u1).setCell ⟨b, 2, none⟩ u2) v l := by
  rcases h with h | ⟨g, off, cap, rfl, h1, h2, h3⟩
  · exact .inl h
  · have hg : b + 1 ≤ g := hf _ _ _ rfl
    have : Rd w (.slice (some ⟨g, off, none⟩) l.length cap) l := .inr ⟨g, off, cap, rfl, h1, h2, h3⟩
    exact this.store3 (by omega) u0 u1 u2

theorem From.mono {B C : Nat} {v : Value} (h : From B v) (hC : C ≤ B) : From C v := fun a n c e => Nat.le_trans hC (h a n c e)

/-- what takeOp says -/
def TakeOpPost (l : List UInt8) (w w' : World) (e : Ending) : Prop :=
  ∃ x y z, e = .returned (.tuple #[.agg #[.int .u8 ((takeS l).1.1.toNat : Int), x, y], z, .bool (takeS l).2.2]) ∧ Rd w' x (takeS l).1.2.1 ∧ Rd w' y (takeS l).1.2.2 ∧ Rd w' z (takeS l).2.1 ∧ From w.heap.size x ∧ From w.heap.size y ∧ From w.heap.size z ∧ Below w.heap.size w w'

theorem takeop_zero {l : List UInt8} {w w' : World} {e : Ending} (h : takeS l = ((0, [], []), [], false)) (he : e = .returned (.tuple #[.agg #[.int .u8 0, .slice none 0 0, .slice none 0 0], .slice none 0 0, .bool false])) (hb : Below w.heap.size w w') : TakeOpPost l w w' e := by
  subst he
  unfold TakeOpPost
  rw [h]
  exact ⟨_, _, _, rfl, .inl ⟨rfl, rfl⟩, .inl ⟨rfl, rfl⟩, .inl ⟨rfl, rfl⟩, from_nil _, from_nil _, from_nil _, hb⟩

set_option maxHeartbeats 4000000 in
theorem takeop_any (w : World) (v : Value) (l : List UInt8) (hv : Rd w v l) (hlen : l.length ≤ 1000000) :
    Calls Tryd.prog 64 #[v] w fun e w' => TakeOpPost l w w' e := by
  obtain ⟨⟨n, s, e⟩, hf⟩ : ∃ y, frontS l = y := ⟨_, rfl⟩
  have q0 := box_new w (.int .u8 0) (.slice none 0 0) (.slice none 0 0) 72
  have hB0 := below_box w #[.int .u8 0, .slice none 0 0, .slice none 0 0] 72
  have rv := hv.below hB0 (Nat.le_refl _)
  have HV : Hid (∀ x, takeV l x = .tuple #[.int .u64 (n : Int), x, .int .i64 (e : Int)]) := by intro x; unfold takeV; rw [hf]
  have hsz0 : (w.alloc (.cells #[.int .u8 0, .slice none 0 0, .slice none 0 0] 72)).heap.size = w.heap.size + 1 := by simp
  clear hv
  by_cases he : e = 0 ∧ n ≤ 3
  · obtain ⟨rfl, hn3⟩ := he
    have HP : Hid (∀ B w x, TakePost l B w x → Own B w x (l.drop s)) := by intro B w x h; unfold TakePost at h; rw [hf] at h; exact h
    obtain ⟨p1, hp1⟩ : ∃ p, l.drop s = p := ⟨_, rfl⟩
    have hp1l : p1.length ≤ 1000000 := by rw [← hp1, List.length_drop]; omega
    rw [hp1] at HP
    obtain ⟨⟨u, p2, e1⟩, hu⟩ : ∃ y, textS p1 64 = y := ⟨_, rfl⟩
    obtain ⟨⟨x, p3, e2⟩, hx⟩ : ∃ y, textS p2 512 = y := ⟨_, rfl⟩
    have HU : Hid _ := hu
    have HX : Hid _ := hx
    have HT : Hid (takeS l = if e1 = 0 then if e2 = 0 then ((UInt8.ofNat n, u, x), p3, decide (chkOp (n : Int) u x = 0)) else ((0, [], []), [], false) else ((0, [], []), [], false)) := by
      show _ = _
      unfold takeS
      rw [hf]
      simp only [hp1, hu, hx]
      rw [if_pos ⟨trivial, hn3⟩]
    have hp2l : p2.length ≤ 1000000 := by
      by_cases h0 : e1 = 0
      · subst h0
        have := congrArg List.length (text_inv hu).1
        rw [List.length_append] at this
        omega
      · have : p2 = [] := by
          have h := hu
          unfold textS at h
          split at h
          · split at h
            · simp at h; exact h.2.1
            · split at h
              · simp at h; exact h.2.1
              · simp at h; exact absurd h.2.2.symm h0
          · simp at h; exact h.2.1
        rw [this]; simp
    have hn3i : (n : Int) ≤ 3 := by omega
    clear hf hp1 hu hx hn3
    go_enter Tryd.func64, Tryd.ntmps64
    go_wp2_with fail
    refine (take_any _ _ l rv (by omega)).mono ?_
    rintro r w1 ⟨xr, rfl, hp, hb⟩
    rw [HV.out]
    have hrow := HP.out _ _ _ hp
    rw [hsz0] at hrow
    have q1 := q0.below hb (Nat.le_refl _)
    have hB1 := hB0.trans (hb.mono hB0.size)
    have hs1 : w.heap.size + 1 ≤ w1.heap.size := by have := hb.size; omega
    clear q0 hB0 rv hp hb HP HV hsz0
    go_wp2_with fail
    refine (text_any _ _ p1 64 (by omega) hrow.rd (by omega)).mono ?_
    rintro r w2 ⟨xk, yk, rfl, rk, ry, fk, fy, hb⟩
    rw [HU.out] at rk ry ⊢
    have q2 := q1.below hb (Nat.le_refl _)
    have hB2 := hB1.trans (hb.mono hB1.size)
    have hs2 := Nat.le_trans hs1 hb.size
    clear q1 hB1 hb hrow
    by_cases h1 : e1 = 0
    · subst h1
      go_wp2_with fail
      refine (text_any _ _ p2 512 (by omega) ry (by omega)).mono ?_
      rintro r w3 ⟨xv, yv, rfl, rvv, rz, fv, fz, hb⟩
      rw [HX.out] at rvv rz ⊢
      have q3 := q2.below hb (Nat.le_refl _)
      have rk3 := rk.below hb (Nat.le_refl _)
      have hB3 := hB2.trans (hb.mono hB2.size)
      have hs3 := Nat.le_trans hs2 hb.size
      clear q2 hB2 hb ry rk fy
      by_cases h2 : e2 = 0
      · subst h2
        obtain ⟨xk1, xk2, hxk⟩ := rk3.len
        subst hxk
        obtain ⟨xv1, xv2, hxv⟩ := rvv.len
        subst hxv
        have hwn : IntKind.u8.wrap (n : Int) = (n : Int) := by rw [IntKind.wrap_u8]; omega
        have hba := below_box w3 #[.int .u8 (n : Int), .slice xk1 u.length xk2, .slice xv1 x.length xv2] 72
        have b9 := (box_new w3 (.int .u8 (n : Int)) (.slice xk1 u.length xk2) (.slice xv1 x.length xv2) 72).drew
        have q4 := (q3.below hba (Nat.le_refl _)).drew
        have rk4 := Rd.drew (rk3.below hba (Nat.le_refl _))
        have rv4 := Rd.drew (rvv.below hba (Nat.le_refl _))
        have rz4 := Rd.drew (rz.below hba (Nat.le_refl _))
        have hB4 := (hB3.trans (hba.mono hB3.size)).drew
        obtain ⟨d, hd⟩ : ∃ d, chkOp (n : Int) u x = d := ⟨_, rfl⟩
        have HD : Hid _ := hd
        have hne9 : w3.heap.size ≠ w.heap.size := by omega
        clear q3 rk3 rvv rz hB3 hba hd
        go_wp2_with fail
        go_region_held3 (fun w' => w'.cell? ⟨w3.heap.size, 0, none⟩ = some (.int .u8 (n : Int)) ∧ w'.cell? ⟨w3.heap.size, 1, none⟩ = some (.slice xk1 u.length xk2) ∧ w'.cell? ⟨w3.heap.size, 2, none⟩ = some (.slice xv1 x.length xv2))
          (first | exact ⟨b11.c0, b11.c1, b11.c2⟩ | exact ⟨b10.c0, b10.c1, b10.c2⟩ | exact ⟨b9.c0, b9.c1, b9.c2⟩)
          (first
            | (go_at_call 65; refine (checkop_any _ _ _ u x n d (by omega) rk4 rv4 HD.out).mono ?_; rintro e w5 ⟨rfl, hb5⟩; have b10 := b9.below hb5 (Nat.le_refl _); have b11 := ((b10.other ⟨w.heap.size, 0, none⟩ hne9 (.int .u8 (n : Int))).other ⟨w.heap.size, 1, none⟩ hne9 (.slice xk1 u.length xk2)).other ⟨w.heap.size, 2, none⟩ hne9 (.slice xv1 x.length xv2); obtain ⟨e0, e1, e2, f0, f1, f2⟩ := q4.below hb5 (Nat.le_refl _))
            | fail)
        all_goals
          have hB5 := hB4.trans (hb5.mono hB4.size)
          have hBs := below_store3 hB5 (b := w.heap.size) (Nat.le_refl _) (.int .u8 (n : Int)) (.slice xk1 u.length xk2) (.slice xv1 x.length xv2)
          have fk1 := fk.mono hs1
          have fv1 := fv.mono hs2
          have fz1 := fz.mono hs2
          have rk5 := (rk4.below hb5 (Nat.le_refl _)).stored3f (b := w.heap.size) fk1 (.int .u8 (n : Int)) (.slice xk1 u.length xk2) (.slice xv1 x.length xv2)
          have rv5 := (rv4.below hb5 (Nat.le_refl _)).stored3f (b := w.heap.size) fv1 (.int .u8 (n : Int)) (.slice xk1 u.length xk2) (.slice xv1 x.length xv2)
          have rz5 := (rz4.below hb5 (Nat.le_refl _)).stored3f (b := w.heap.size) fz1 (.int .u8 (n : Int)) (.slice xk1 u.length xk2) (.slice xv1 x.length xv2)
          clear q4 rk4 rv4 rz4 hB4 b9 b10 b11 hB5 hb5
          go_wp2
          have hnn : ((UInt8.ofNat n).toNat : Int) = (n : Int) := by simp; omega
          refine bodyPost_ret (v := .tuple #[.agg #[.int .u8 (n : Int), .slice xk1 u.length xk2, .slice xv1 x.length xv2], yv, .bool (d == 0)]) (by simp [results, Tryd.results64, go_sem, e0, e1, e2]) rfl ?_
          have hT := HT.out
          simp only [if_true] at hT
          unfold TakeOpPost
          rw [hT, HD.out]
          simp only [hnn]
          exact ⟨_, _, _, rfl, rk5, rv5, rz5, fk1.mono (Nat.le_succ _), fv1.mono (Nat.le_succ _), fz1.mono (Nat.le_succ _), hBs⟩
      · have h2b : ((e2 : Int) != 0) = true := by simp; omega
        have h2c : ((e2 : Int) == 0) = false := by simp; omega
        obtain ⟨e0, e1', e2', f0, f1, f2⟩ := q3
        have HT2 : Hid (takeS l = ((0, [], []), [], false)) := by have := HT.out; simp only [if_true] at this; rw [if_neg h2] at this; exact this
        clear rk3 rvv rz HT
        go_wp2
        exact bodyPost_ret (v := .tuple #[.agg #[.int .u8 0, .slice none 0 0, .slice none 0 0], .slice none 0 0, .bool false]) (by simp [results, Tryd.results64, go_sem, e0, e1', e2']) rfl (takeop_zero HT2.out rfl (below_store3 hB3 (Nat.le_refl _) _ _ _))
    · have h1b : ((e1 : Int) != 0) = true := by simp; omega
      have h1c : ((e1 : Int) == 0) = false := by simp; omega
      obtain ⟨e0, e1', e2', f0, f1, f2⟩ := q2
      have HT2 : Hid (takeS l = ((0, [], []), [], false)) := by have := HT.out; rw [if_neg h1] at this; exact this
      clear rk ry HT
      go_wp2
      exact bodyPost_ret (v := .tuple #[.agg #[.int .u8 0, .slice none 0 0, .slice none 0 0], .slice none 0 0, .bool false]) (by simp [results, Tryd.results64, go_sem, e0, e1', e2']) rfl (takeop_zero HT2.out rfl (below_store3 hB2 (Nat.le_refl _) _ _ _))
  · have HT2 : Hid (takeS l = ((0, [], []), [], false)) := by
      show _ = _
      unfold takeS
      rw [hf]
      simp only
      rw [if_neg he]
    clear hf
    go_enter Tryd.func64, Tryd.ntmps64
    go_wp2_with fail
    refine (take_any _ _ l rv (by omega)).mono ?_
    rintro r w1 ⟨xr, rfl, hp, hb⟩
    rw [HV.out]
    have hB1 := hB0.trans (hb.mono hB0.size)
    obtain ⟨e0, e1', e2', f0, f1, f2⟩ := q0.below hb (Nat.le_refl _)
    clear q0 hB0 rv hp hb HV hsz0
    by_cases he0 : e = 0
    · subst he0
      have hn : (3 : Int) < (n : Int) := by omega
      clear he
      go_wp2
      exact bodyPost_ret (v := .tuple #[.agg #[.int .u8 0, .slice none 0 0, .slice none 0 0], .slice none 0 0, .bool false]) (by simp [results, Tryd.results64, go_sem, e0, e1', e2']) rfl (takeop_zero HT2.out rfl (below_store3 hB1 (Nat.le_refl _) _ _ _))
    · have h1b : ((e : Int) != 0) = true := by simp; omega
      have h1c : ((e : Int) == 0) = false := by simp; omega
      clear he
      go_wp2
      exact bodyPost_ret (v := .tuple #[.agg #[.int .u8 0, .slice none 0 0, .slice none 0 0], .slice none 0 0, .bool false]) (by simp [results, Tryd.results64, go_sem, e0, e1', e2']) rfl (takeop_zero HT2.out rfl (below_store3 hB1 (Nat.le_refl _) _ _ _))

end Go.Proofs.YtmgofohaoppajaaDoor

/- A row of ops of the call's own; what they hold lies elsewhere. -/
namespace Go.Proofs.YtmgofohaoppajaaDoor
set_option maxRecDepth 20000
open Go.RowKit

/-- ops in a row of the call's own -/
def OwnR (B : Nat) (w : World) (v : Value) (os : List OpB) : Prop :=
  ∃ cs, w.ownsRow B 72 3 v os.length cs ∧ ∀ j (h : j < os.length), ∃ x y, cs[j * 3]? = some (.int .u8 (os[j].1.toNat : Int)) ∧ cs[j * 3 + 1]? = some x ∧ cs[j * 3 + 2]? = some y ∧ Rd w x os[j].2.1 ∧ Rd w y os[j].2.2 ∧ NeB x os[j].2.1 v ∧ NeB y os[j].2.2 v ∧ From B x ∧ From B y

theorem OwnR.nil (B : Nat) (w : World) : OwnR B w (.slice none 0 0) [] := ⟨[], World.ownsRow_nil _ _ _ _, fun _ h => absurd h (Nat.not_lt_zero _)⟩

theorem OwnR.below {B C : Nat} {w w' : World} {v : Value} {os : List OpB} (h : OwnR B w v os) (hb : Below C w w') (hC : w.heap.size ≤ C) : OwnR B w' v os := by
  obtain ⟨cs, hr, hj⟩ := h
  have hb' : Below w.heap.size w w' := ⟨hb.os, hb.tape, hb.output, hb.size, fun i hi => hb.block i (Nat.lt_of_lt_of_le hi hC)⟩
  refine ⟨cs, row_below hr hb', fun j h => ?_⟩
  obtain ⟨x, y, c0, c1, c2, ox, oy, nx, ny, fx, fy⟩ := hj j h
  exact ⟨x, y, c0, c1, c2, ox.below hb hC, oy.below hb hC, nx, ny, fx, fy⟩

theorem OwnR.rd {B : Nat} {w : World} {v : Value} {os : List OpB} (h : OwnR B w v os) : RdO w v os := by
  obtain ⟨cs, hr, hj⟩ := h
  have hr2 := hr
  rcases hr.2 with ⟨e, hn⟩ | ⟨g, cap, cur, e, hb, hg, h1, h2, h3, h4⟩
  · refine ⟨none, 0, by rw [e, hn], by omega, Nat.zero_le _, fun j hj => by omega⟩
  · subst e
    refine ⟨_, cap, rfl, h1, h2, fun j h => ⟨g, 0, rfl, ?_⟩⟩
    obtain ⟨x, y, c0, c1, c2, ox, oy, _, _⟩ := hj j h
    have hc := hr2.cells (g := g) rfl
    refine ⟨x, y, ?_, ?_, ?_, ox, oy⟩
    · have := hc _ _ c0; rwa [Addr.add_lit] at this
    · have := hc _ _ c1; rwa [Addr.add_lit] at this
    · have := hc _ _ c2; rwa [Addr.add_lit] at this

theorem own_pushR {B : Nat} {w w' : World} {v x y : Value} {g c : Nat} {os : List OpB} {cs : List Value} (o : OpB) (hrow : w.ownsRow B 72 3 v os.length cs)
    (hel : ∀ j (h : j < os.length), ∃ x y, cs[j * 3]? = some (.int .u8 (os[j].1.toNat : Int)) ∧ cs[j * 3 + 1]? = some x ∧ cs[j * 3 + 2]? = some y ∧ Rd w x os[j].2.1 ∧ Rd w y os[j].2.2 ∧ NeB x os[j].2.1 v ∧ NeB y os[j].2.2 v ∧ From B x ∧ From B y)
    (hx : Rd w x o.2.1) (hy : Rd w y o.2.2) (nx : NeB x o.2.1 v) (ny : NeB y o.2.2 v) (fx : From B x) (fy : From B y) (hn : w'.ownsRow B 72 3 (.slice (some ⟨g, 0, none⟩) (os.length + 1) c) (os.length + 1) (cs ++ [.int .u8 (o.1.toNat : Int), x, y])) (hg : w.grownBy w' v.ownBlock) (hat : v.ownBlock = some g ∨ g = w.heap.size) :
    OwnR B w' (.slice (some ⟨g, 0, none⟩) (os.length + 1) c) (os ++ [o]) := by
  have hcl : cs.length = os.length * 3 := hrow.1
  refine ⟨_, by rw [List.length_append]; exact hn, fun j h => ?_⟩
  by_cases hj : j < os.length
  · obtain ⟨x', y', c0, c1, c2, ox, oy, n1, n2, f1, f2⟩ := hel j hj
    refine ⟨x', y', ?_, ?_, ?_, ?_, ?_, ?_, ?_, f1, f2⟩
    · rw [List.getElem?_append_left (by omega), List.getElem_append_left hj]; exact c0
    · rw [List.getElem?_append_left (by omega)]; exact c1
    · rw [List.getElem?_append_left (by omega)]; exact c2
    · rw [List.getElem_append_left hj]; exact rd_grown ox hg n1
    · rw [List.getElem_append_left hj]; exact rd_grown oy hg n2
    · rw [List.getElem_append_left hj]; exact neb_step n1 ox hat
    · rw [List.getElem_append_left hj]; exact neb_step n2 oy hat
  · have hje : j = os.length := by rw [List.length_append] at h; simp at h; omega
    subst hje
    have e : (os ++ [o])[os.length]'h = o := by simp
    rw [e]
    refine ⟨x, y, ?_, ?_, ?_, rd_grown hx hg nx, rd_grown hy hg ny, neb_step nx hx hat, neb_step ny hy hat, fx, fy⟩
    · rw [List.getElem?_append_right (by omega), show os.length * 3 - cs.length = 0 by omega]; rfl
    · rw [List.getElem?_append_right (by omega), show os.length * 3 + 1 - cs.length = 1 by omega]; rfl
    · rw [List.getElem?_append_right (by omega), show os.length * 3 + 2 - cs.length = 2 by omega]; rfl

/-- bytes that lie from block B on -/
def RdF (B : Nat) (w : World) (v : Value) (l : List UInt8) : Prop := Rd w v l ∧ From B v

/-- ops that lie from block B on, they and what they hold -/
def RdOF (B : Nat) (w : World) (v : Value) (os : List OpB) : Prop := LsO (RdF B) w v os ∧ From B v

theorem RdOF.nil (B : Nat) (w : World) : RdOF B w (.slice none 0 0) [] := ⟨LsO.nil _, from_nil _⟩

theorem RdOF.rd {B : Nat} {w : World} {v : Value} {os : List OpB} (h : RdOF B w v os) : RdO w v os := by
  obtain ⟨⟨ao, cap, e, h1, h2, h3⟩, _⟩ := h
  refine ⟨ao, cap, e, h1, h2, fun j hj => ?_⟩
  obtain ⟨b, off, e1, x, y, c0, c1, c2, r1, r2⟩ := h3 j hj
  exact ⟨b, off, e1, x, y, c0, c1, c2, r1.1, r2.1⟩

theorem RdOF.below {B C : Nat} {w w' : World} {v : Value} {os : List OpB} (h : RdOF B w v os) (hb : Below C w w') (hC : w.heap.size ≤ C) : RdOF B w' v os :=
  ⟨h.1.belowR (fun _ _ hr => ⟨hr.1.below hb hC, hr.2⟩) hb hC, h.2⟩

theorem OwnR.rdf {B : Nat} {w : World} {v : Value} {os : List OpB} (h : OwnR B w v os) : RdOF B w v os := by
  obtain ⟨cs, hr, hj⟩ := h
  have hr2 := hr
  rcases hr.2 with ⟨e, hn⟩ | ⟨g, cap, cur, e, hb, hg, h1, h2, h3, h4⟩
  · refine ⟨⟨none, 0, by rw [e, hn], by omega, Nat.zero_le _, fun j hj => by omega⟩, by rw [e]; exact from_nil _⟩
  · subst e
    refine ⟨⟨_, cap, rfl, h1, h2, fun j h => ⟨g, 0, rfl, ?_⟩⟩, from_at hb⟩
    obtain ⟨x, y, c0, c1, c2, ox, oy, _, _, fx, fy⟩ := hj j h
    have hc := hr2.cells (g := g) rfl
    refine ⟨x, y, ?_, ?_, ?_, ⟨ox, fx⟩, ⟨oy, fy⟩⟩
    · have := hc _ _ c0; rwa [Addr.add_lit] at this
    · have := hc _ _ c1; rwa [Addr.add_lit] at this
    · have := hc _ _ c2; rwa [Addr.add_lit] at this

theorem From.mono' {B C : Nat} {v : Value} (h : From C v) (hB : B ≤ C) : From B v := fun a n c e => Nat.le_trans hB (h a n c e)

theorem RdOF.mono {B C : Nat} {w : World} {v : Value} {os : List OpB} (h : RdOF C w v os) (hB : B ≤ C) : RdOF B w v os := by
  obtain ⟨⟨ao, cap, e, h1, h2, h3⟩, hf⟩ := h
  refine ⟨⟨ao, cap, e, h1, h2, fun j hj => ?_⟩, hf.mono' hB⟩
  obtain ⟨b, off, e1, x, y, c0, c1, c2, r1, r2⟩ := h3 j hj
  exact ⟨b, off, e1, x, y, c0, c1, c2, ⟨r1.1, r1.2.mono' hB⟩, ⟨r2.1, r2.2.mono' hB⟩⟩

theorem cell_elsewhere {w : World} {q p : Addr} {u : Value} (h : q.block ≠ p.block) : (w.setCell p u).cell? q = w.cell? q := by
  unfold World.cell?
  rw [Below.heap_setCell w p u q.block h]

/-- bytes from block B on are what they were when something ahead of B is written -/
theorem RdF.store {B : Nat} {w : World} {v : Value} {l : List UInt8} (h : RdF B w v l) (p : Addr) (hp : p.block < B) (u : Value) : RdF B (w.setCell p u) v l := by
  refine ⟨?_, h.2⟩
  rcases h.1 with h0 | ⟨g, off, cap, rfl, h1, h2, h3⟩
  · exact .inl h0
  · have h0 : Rd w (.slice (some ⟨g, off, none⟩) l.length cap) l := .inr ⟨g, off, cap, rfl, h1, h2, h3⟩
    have hg : B ≤ g := h.2 _ _ _ rfl
    exact h0.other p (by omega) u

theorem RdOF.store {B : Nat} {w : World} {v : Value} {os : List OpB} (h : RdOF B w v os) (p : Addr) (hp : p.block < B) (u : Value) : RdOF B (w.setCell p u) v os := by
  obtain ⟨⟨ao, cap, e, h1, h2, h3⟩, hf⟩ := h
  refine ⟨⟨ao, cap, e, h1, h2, fun j hj => ?_⟩, hf⟩
  obtain ⟨b, off, e1, x, y, c0, c1, c2, r1, r2⟩ := h3 j hj
  have hg : B ≤ b := hf ⟨b, off, none⟩ _ _ (by rw [e, e1])
  have hne : ∀ k, (⟨b, k, none⟩ : Addr).block ≠ p.block := fun k => by show b ≠ p.block; omega
  exact ⟨b, off, e1, x, y, by rw [cell_elsewhere (hne _)]; exact c0, by rw [cell_elsewhere (hne _)]; exact c1, by rw [cell_elsewhere (hne _)]; exact c2, r1.store p hp u, r2.store p hp u⟩

theorem OwnR.shape {B : Nat} {w : World} {v : Value} {os : List OpB} (h : OwnR B w v os) : ∃ a c, v = .slice a os.length c := by
  obtain ⟨a, c, e, _⟩ := h.rd
  exact ⟨a, c, e⟩

end Go.Proofs.YtmgofohaoppajaaDoor

/- batch.Read. -/
namespace Go.Proofs.YtmgofohaoppajaaDoor
set_option maxRecDepth 20000
open Go.RowKit

theorem readN_step {g : Nat} {r r' : List UInt8} {o : OpB} {os : List OpB} (h : takeS r = (o, r', true)) : (readN (g + 1) r).map (fun q => (os ++ q.1, q.2)) = (readN g r').map (fun q => ((os ++ [o]) ++ q.1, q.2)) := by
  rw [readN, h]
  simp only [if_true]
  cases readN g r' with
  | none => rfl
  | some q => simp

theorem readN_stop {g : Nat} {r r' : List UInt8} {o : OpB} (h : takeS r = (o, r', false)) : readN (g + 1) r = none := by
  rw [readN, h]
  simp

theorem takeS_len {l r : List UInt8} {o : OpB} (h : takeS l = (o, r, true)) : r.length ≤ l.length := by
  have := congrArg List.length (take_inv h).1
  rw [List.length_append] at this
  omega

set_option maxHeartbeats 4000000 in
theorem bread_own (w : World) (v : Value) (l : List UInt8) (q : List OpB × Nat) (hv : Rd w v l) (hlen : l.length ≤ 1000000) (hq : batS l = q) :
    Calls Tryd.prog 49 #[v] w fun e w' => ∃ x, e = .returned (.tuple #[x, .int .i64 (q.2 : Int)]) ∧ RdOF w.heap.size w' x q.1 ∧ Below w.heap.size w w' := by
  obtain ⟨i0, hi, hz0, hz1, hz2⟩ := info_parts infoOp
  obtain ⟨⟨n, s, e⟩, hf⟩ : ∃ y, frontS l = y := ⟨_, rfl⟩
  have HV : Hid (∀ x, takeV l x = .tuple #[.int .u64 (n : Int), x, .int .i64 (e : Int)]) := by intro x; unfold takeV; rw [hf]
  by_cases he : e = 0 ∧ n ≤ 64
  · obtain ⟨rfl, hn⟩ := he
    have HP : Hid (∀ B w x, TakePost l B w x → Own B w x (l.drop s)) := by intro B w x h; unfold TakePost at h; rw [hf] at h; exact h
    have HQ : Hid (q = match readN n (l.drop s) with | some (os, []) => (os, 0) | _ => ([], 4)) := by
      show _ = _
      rw [← hq]
      unfold batS
      rw [hf]
      simp only
      rw [if_pos ⟨trivial, hn⟩]
      try rfl
    obtain ⟨p, hp⟩ : ∃ p, l.drop s = p := ⟨_, rfl⟩
    have hpl : p.length ≤ 1000000 := by rw [← hp, List.length_drop]; omega
    rw [hp] at HP HQ
    have hni : (n : Int) ≤ 64 := by omega
    clear hf hq hp
    go_enter Tryd.func49, Tryd.ntmps49
    go_wp2_with fail
    refine (take_any _ _ l hv (by omega)).mono ?_
    rintro r w1 ⟨xr, rfl, hpost, hb⟩
    rw [HV.out]
    have hrow := (HP.out _ _ _ hpost).rd
    have hneb : NeB xr p (.slice none 0 0) := by
      rcases hrow with h | ⟨b, off, cap, e, _⟩
      · exact .inl h.2
      · exact .inr ⟨b, off, _, cap, e, by simp [Value.ownBlock]⟩
    clear hpost HP HV hv
    go_wp2_with fail
    go_loopg [5, 7, 24] n (fun gk rv pv iv wr => ∃ (j : Nat) (os : List OpB) (r : List UInt8) (a' : Option Addr) (c' : Nat), gk + j = n ∧ iv = .int .u64 (j : Int) ∧ os.length = j ∧ pv = .slice a' j c' ∧ Rd wr rv r ∧ r.length ≤ 1000000 ∧ OwnR w.heap.size wr pv os ∧ NeB rv r pv ∧ readN n p = (readN gk r).map (fun q => (os ++ q.1, q.2)) ∧ Below w.heap.size w wr)
    case atStart => exact ⟨0, [], p, none, 0, rfl, rfl, rfl, rfl, hrow, hpl, OwnR.nil _ _, hneb, by cases readN n p <;> simp, hb⟩
    case round =>
      clear hrow hneb hb
      obtain ⟨j, os, r, a', c', hj, rfl, hol, rfl, hr, hrl, hO, hneb, hN, hB⟩ := hrel
      have HN : Hid _ := hN
      clear hN
      by_cases hlt : j < n
      · obtain ⟨g, rfl⟩ : ∃ g, gk = g + 1 := ⟨gk - 1, by omega⟩
        obtain ⟨⟨⟨ok, ol, om⟩, r', b⟩, ht⟩ : ∃ y, takeS r = y := ⟨_, rfl⟩
        have HT : Hid _ := ht
        clear ht
        have hji : (j : Int) < (n : Int) := by omega
        go_wp2_with fail
        refine (takeop_any _ _ r hr hrl).mono ?_
        intro e w2 hpost
        obtain ⟨x, y, z, rfl, rx, ry, rz, fx, fy, fz, hb2⟩ : ∃ x y z, e = .returned (.tuple #[.agg #[.int .u8 (ok.toNat : Int), x, y], z, .bool b]) ∧ Rd w2 x ol ∧ Rd w2 y om ∧ Rd w2 z r' ∧ From wr.heap.size x ∧ From wr.heap.size y ∧ From wr.heap.size z ∧ Below wr.heap.size wr w2 := by
          unfold TakeOpPost at hpost
          rw [HT.out] at hpost
          exact hpost
        obtain ⟨x1, x2, hx⟩ := rx.len
        subst hx
        obtain ⟨y1, y2, hy⟩ := ry.len
        subst hy
        have hlow : ∀ k, (Value.slice a' j c').ownBlock = some k → k < wr.heap.size := fun k hk => by obtain ⟨cs, hrow, _⟩ := hO; exact (hrow.lt k hk).2
        have hB2 := hB.trans (hb2.mono hB.size)
        have hO2 := hO.below hb2 (Nat.le_refl _)
        have hwB : w.heap.size ≤ wr.heap.size := hB.size
        clear hpost hr hO hB hb2 hneb
        cases b
        · have hfin : Hid (q = ([], 4)) := by
            show _ = _
            rw [HQ.out, HN.out, readN_stop HT.out]
            rfl
          clear rx ry rz hO2
          go_wp2
          go_ret2
          exact ⟨_, by rw [hfin.out]; rfl, by rw [hfin.out]; exact RdOF.nil _ _, hB2.alloc hB2.size _⟩
        · have hba := below_box w2 #[.int .u8 (ok.toNat : Int), .slice x1 ol.length x2, .slice y1 om.length y2] 72
          have hbb := below_box (w2.alloc (.cells #[.int .u8 (ok.toNat : Int), .slice x1 ol.length x2, .slice y1 om.length y2] 72)) #[.int .u8 (ok.toNat : Int), .slice x1 ol.length x2, .slice y1 om.length y2] 72
          have hOe := (hO2.below hba (Nat.le_refl _)).below hbb (Nat.le_refl _)
          have rxe := (rx.below hba (Nat.le_refl _)).below hbb (Nat.le_refl _)
          have rye := (ry.below hba (Nat.le_refl _)).below hbb (Nat.le_refl _)
          have rze := (rz.below hba (Nat.le_refl _)).below hbb (Nat.le_refl _)
          have hBe := (hB2.trans (hba.mono hB2.size)).trans (hbb.mono (Nat.le_trans hB2.size hba.size))
          have nx := neb_of fx hlow rx
          have ny := neb_of fy hlow ry
          have nz := neb_of fz hlow rz
          have hlit := laid3 (w2.alloc (.cells #[.int .u8 (ok.toNat : Int), .slice x1 ol.length x2, .slice y1 om.length y2] 72)) (.int .u8 (ok.toNat : Int)) (.slice x1 ol.length x2) (.slice y1 om.length y2) 72
          rw [show (w2.alloc (.cells #[.int .u8 (ok.toNat : Int), .slice x1 ol.length x2, .slice y1 om.length y2] 72)).heap.size = w2.heap.size + 1 by simp] at hlit
          have hwz : w.heap.size ≤ w2.heap.size := hB2.size
          have hrl' : r'.length ≤ 1000000 := Nat.le_trans (takeS_len HT.out) hrl
          obtain ⟨cs, hrow, hel⟩ := hOe
          subst hol
          clear hba hbb hO2 rx ry rz hB2
          go_wp2_with (at_builtin; refine wpList_append_lies _ rfl (.tmp 34) (.tmp 36) 34 rfl w.heap.size 72 i0 (.agg #[.int .u8 0, .slice none 0 0, .slice none 0 0]) 3 56 Tryd.underlying34 hi hz0 hz1 hz2 rfl (by decide) (.slice a' os.length c') os.length cs rfl hrow ⟨w2.heap.size + 1, 0, none⟩ 1 1 [.int .u8 (ok.toNat : Int), .slice x1 ol.length x2, .slice y1 om.length y2] rfl rfl hlit (one3 _ _ _ _ _ _ _) (by decide) (by simp only [maxLen]; omega) (by omega) (by simp; omega) _ rfl ?_; intro g4 c4 w4 hown hgrow hat hlt4)
          have hpush := own_pushR (ok, ol, om) hrow hel rxe rye nx ny (fx.mono' hwB) (fy.mono' hwB) hown hgrow hat
          have hB4 := hBe.grown hgrow hBe.size (fun k' e => (hrow.lt k' e).1)
          have rz4 := rd_grown rze hgrow nz
          have nz4 : NeB z r' (.slice (some ⟨g4, 0, none⟩) (os.length + 1) c4) := neb_step nz rze hat
          clear hlit
          go_wp2
          go_roundg g
          case measure => omega
          case rel => exact ⟨os.length + 1, os ++ [(ok, ol, om)], r', _, c4, by omega, by go_num, by simp, rfl, rz4, hrl', hpush, nz4, by rw [HN.out]; exact readN_step HT.out, hB4⟩
      · obtain rfl : j = n := by omega
        obtain rfl : gk = 0 := by omega
        have hji : ¬ (j : Int) < (j : Int) := by omega
        obtain ⟨ra, rc, hrv⟩ := hr.len
        subst hrv
        have HN2 : Hid (readN j p = some (os, r)) := by show _ = _; rw [HN.out]; simp [readN]
        by_cases hr0 : r.length = 0
        · have hrn : r = [] := List.eq_nil_of_length_eq_zero hr0
          have hfin : Hid (q = (os, 0)) := by
            show _ = _
            rw [HQ.out, HN2.out, hrn]
          have hri : ¬ (0 : Int) < (r.length : Int) := by omega
          clear hr hneb hr0 hrn
          go_wp2
          go_ret2
          exact ⟨_, by rw [hfin.out]; rfl, by rw [hfin.out]; exact hO.rdf, hB⟩
        · have hfin : Hid (q = ([], 4)) := by
            show _ = _
            rw [HQ.out, HN2.out]
            cases r with
            | nil => simp at hr0
            | cons _ _ => rfl
          have hri : (0 : Int) < (r.length : Int) := by omega
          clear hr hneb hO
          go_wp2
          go_ret2
          exact ⟨_, by rw [hfin.out]; rfl, by rw [hfin.out]; exact RdOF.nil _ _, hB⟩
  · have hfin : Hid (q = ([], 4)) := by
      show _ = _
      rw [← hq]
      unfold batS
      rw [hf]
      simp only
      rw [if_neg he]
    clear hf hq
    go_enter Tryd.func49, Tryd.ntmps49
    go_wp2_with fail
    refine (take_any _ _ l hv (by omega)).mono ?_
    rintro r w1 ⟨xr, rfl, hpost, hb⟩
    rw [HV.out]
    clear hpost HV hv
    by_cases he0 : e = 0
    · subst he0
      have hn : (64 : Int) < (n : Int) := by omega
      clear he
      go_wp2
      go_ret2
      exact ⟨_, by rw [hfin.out]; rfl, by rw [hfin.out]; exact RdOF.nil _ _, hb⟩
    · have h1b : ((e : Int) != 0) = true := by simp; omega
      have h1c : ((e : Int) == 0) = false := by simp; omega
      clear he
      go_wp2
      go_ret2
      exact ⟨_, by rw [hfin.out]; rfl, by rw [hfin.out]; exact RdOF.nil _ _, hb⟩

theorem bread_any (w : World) (v : Value) (l : List UInt8) (q : List OpB × Nat) (hv : Rd w v l) (hlen : l.length ≤ 1000000) (hq : batS l = q) :
    Calls Tryd.prog 49 #[v] w fun e w' => ∃ x, e = .returned (.tuple #[x, .int .i64 (q.2 : Int)]) ∧ RdO w' x q.1 ∧ Below w.heap.size w w' :=
  (bread_own w v l q hv hlen hq).mono fun _ _ ⟨x, e, h, hb⟩ => ⟨x, e, h.rd, hb⟩

end Go.Proofs.YtmgofohaoppajaaDoor

/- bartizanref04's Read. -/
namespace Go.Proofs.YtmgofohaoppajaaDoor
open Go.RowKit

theorem refN_step {g : Nat} {r r' : List UInt8} {o : OpB} {os : List OpB} (h : takeR r = some (o, r')) : (refN (g + 1) r).map (fun q => (os ++ q.1, q.2)) = (refN g r').map (fun q => ((os ++ [o]) ++ q.1, q.2)) := by
  rw [refN, h]
  simp only
  cases refN g r' with
  | none => rfl
  | some q => simp

theorem refN_stop {g : Nat} {r : List UInt8} (h : takeR r = none) : refN (g + 1) r = none := by
  rw [refN, h]

theorem textS_rest {l u r : List UInt8} {m : Int} {e : Nat} (h : textS l m = (u, r, e)) : r.length ≤ l.length := by
  by_cases he : e = 0
  · subst he
    have := congrArg List.length (text_inv h).1
    rw [List.length_append] at this
    omega
  · have : r = [] := by
      unfold textS at h
      split at h
      · split at h
        · simp at h; exact h.2.1
        · split at h
          · simp at h; exact h.2.1
          · simp at h; exact absurd h.2.2.symm he
      · simp at h; exact h.2.1
    rw [this]; simp

theorem behind_len (l : List UInt8) : (behindS l).length ≤ l.length := by
  unfold behindS
  split
  · rw [List.length_drop]; omega
  · simp

theorem sizeO_bound2 (os : List OpB) (h : ∀ o ∈ os, o.2.1.length ≤ 512 ∧ o.2.2.length ≤ 512) : sizeO os ≤ 1024 * os.length := by
  induction os with
  | nil => simp [sizeO]
  | cons o os ih =>
    have h1 := h o (by simp)
    have h2 := ih (fun p hp => h p (by simp [hp]))
    have e : sizeO (o :: os) = o.2.1.length + o.2.2.length + sizeO os := by simp [sizeO]
    rw [e, List.length_cons]
    omega

theorem from_take {l : List UInt8} {B : Nat} {w : World} {x : Value} (h : TakePost l B w x) : From B x := by
  unfold TakePost at h
  split at h
  · exact h.from
  · subst h; exact from_nil _

set_option maxHeartbeats 4000000 in
set_option maxRecDepth 20000 in
theorem rread_own (w : World) (v : Value) (l : List UInt8) (q : List OpB × Nat) (hv : Rd w v l) (hlen : l.length ≤ 1000000) (hq : refS l = q) :
    Calls Tryd.prog 52 #[v] w fun e w' => ∃ x, e = .returned (.tuple #[x, .int .i64 (q.2 : Int)]) ∧ RdOF w.heap.size w' x q.1 ∧ Below w.heap.size w w' := by
  obtain ⟨i0, hi, hz0, hz1, hz2⟩ := info_parts infoOp
  obtain ⟨⟨n, s, e⟩, hf⟩ : ∃ y, frontS l = y := ⟨_, rfl⟩
  have HV : Hid (∀ x, takeV l x = .tuple #[.int .u64 (n : Int), x, .int .i64 (e : Int)]) := by intro x; unfold takeV; rw [hf]
  by_cases he : e = 0 ∧ n ≤ 64
  · obtain ⟨rfl, hn⟩ := he
    have HP : Hid (∀ B w x, TakePost l B w x → Own B w x (l.drop s)) := by intro B w x h; unfold TakePost at h; rw [hf] at h; exact h
    have HQ : Hid (q = match refN n (l.drop s) with | some (os, _) => if chkL os = 0 ∧ batB os = l then (os, 0) else ([], 4) | none => ([], 4)) := by
      show _ = _
      rw [← hq]
      unfold refS
      rw [hf]
      simp only
      rw [if_pos ⟨trivial, hn⟩]
      try rfl
    obtain ⟨p, hp⟩ : ∃ p, l.drop s = p := ⟨_, rfl⟩
    have hpl : p.length ≤ 1000000 := by rw [← hp, List.length_drop]; omega
    rw [hp] at HP HQ
    have hni : (n : Int) ≤ 64 := by omega
    have HRV : Hid _ := hv
    clear hf hq hp
    go_enter Tryd.func52, Tryd.ntmps52
    go_wp2_with fail
    refine (reftake_any _ _ l hv (by omega)).mono ?_
    rintro r w1 ⟨xr, rfl, hpost, hb⟩
    rw [HV.out]
    have hrow := (HP.out _ _ _ hpost).rd
    have hneb : NeB xr p (.slice none 0 0) := by
      rcases hrow with h | ⟨b, off, cap, e, _⟩
      · exact .inl h.2
      · exact .inr ⟨b, off, _, cap, e, by simp [Value.ownBlock]⟩
    clear hpost HP HV hv
    go_wp2_with fail
    go_loopg [5, 7, 32] n (fun gk rv pv iv wr => ∃ (j : Nat) (os : List OpB) (r : List UInt8) (a' : Option Addr) (c' : Nat), gk + j = n ∧ iv = .int .u64 (j : Int) ∧ os.length = j ∧ pv = .slice a' j c' ∧ Rd wr rv r ∧ r.length ≤ 1000000 ∧ OwnR w.heap.size wr pv os ∧ NeB rv r pv ∧ refN n p = (refN gk r).map (fun q => (os ++ q.1, q.2)) ∧ (∀ o ∈ os, o.2.1.length ≤ 512 ∧ o.2.2.length ≤ 512) ∧ Below w.heap.size w wr)
    case atStart => exact ⟨0, [], p, none, 0, rfl, rfl, rfl, rfl, hrow, hpl, OwnR.nil _ _, hneb, by cases refN n p <;> simp, by simp, hb⟩
    case round =>
      clear hrow hneb hb
      obtain ⟨j, os, r, a', c', hj, rfl, hol, rfl, hr, hrl, hO, hneb, hN, hbd, hB⟩ := hrel
      have HN : Hid _ := hN
      have HBD : Hid _ := hbd
      clear hN hbd
      by_cases hlt : j < n
      · obtain ⟨g, rfl⟩ : ∃ g, gk = g + 1 := ⟨gk - 1, by omega⟩
        obtain ⟨⟨m, s1, e1⟩, hf1⟩ : ∃ y, frontS r = y := ⟨_, rfl⟩
        have HV1 : Hid (∀ x, takeV r x = .tuple #[.int .u64 (m : Int), x, .int .i64 (e1 : Int)]) := by intro x; unfold takeV; rw [hf1]
        obtain ⟨b1, hb1⟩ : ∃ b, behindS r = b := ⟨_, rfl⟩
        obtain ⟨⟨u, p2, e2⟩, hu⟩ : ∃ y, textS b1 512 = y := ⟨_, rfl⟩
        obtain ⟨⟨x, p3, e3⟩, hx⟩ : ∃ y, textS p2 512 = y := ⟨_, rfl⟩
        have HT : Hid (takeR r = if e1 = 0 ∧ e2 = 0 ∧ e3 = 0 ∧ m ≤ 255 then some ((UInt8.ofNat m, u, x), p3) else none) := by
          show _ = _
          unfold takeR
          rw [hf1, hb1, hu]
          simp only
          rw [hx]
        have HB1 : Hid _ := hb1
        have HU : Hid _ := hu
        have HX : Hid _ := hx
        have hb1l : b1.length ≤ 1000000 := by rw [← hb1]; exact Nat.le_trans (behind_len r) hrl
        have hp2l : p2.length ≤ 1000000 := Nat.le_trans (textS_rest hu) hb1l
        have hp3l : p3.length ≤ 1000000 := Nat.le_trans (textS_rest hx) hp2l
        have hji : (j : Int) < (n : Int) := by omega
        clear hf1 hb1 hu hx
        have hlow : ∀ k, (Value.slice a' j c').ownBlock = some k → k < wr.heap.size := fun k hk => by obtain ⟨cs, hrow, _⟩ := hO; exact (hrow.lt k hk).2
        go_wp2_with fail
        refine (reftake_any _ _ r hr (by omega)).mono ?_
        rintro e w2 ⟨xa, rfl, hpost, hb2⟩
        rw [HV1.out]
        have ra := hpost.rd
        rw [HB1.out] at ra
        have hB2 := hB.trans (hb2.mono hB.size)
        have hO2 := hO.below hb2 (Nat.le_refl _)
        have hs2 := hb2.size
        clear hpost hr hO hB hb2 hneb
        go_wp2_with fail
        refine (reftext_any _ _ b1 512 (by omega) ra (by omega)).mono ?_
        rintro e w3 ⟨xk, xb, rfl, rk, rb, fk, fb, hb3⟩
        rw [HU.out] at rk rb ⊢
        have hB3 := hB2.trans (hb3.mono hB2.size)
        have hO3 := hO2.below hb3 (Nat.le_refl _)
        have hs3 := Nat.le_trans hs2 hb3.size
        have hw23 := hb3.size
        have hwB2 := hB2.size
        clear ra hB2 hO2 hb3
        go_wp2_with fail
        refine (reftext_any _ _ p2 512 (by omega) rb (by omega)).mono ?_
        rintro e w4 ⟨xv, xc, rfl, rv, rc, fv, fc, hb4⟩
        rw [HX.out] at rv rc ⊢
        have hB4 := hB3.trans (hb4.mono hB3.size)
        have hO4 := hO3.below hb4 (Nat.le_refl _)
        have rk4 := rk.below hb4 (Nat.le_refl _)
        have hs4 := Nat.le_trans hs3 hb4.size
        clear rb hB3 hO3 hb4 rk
        by_cases hall : e1 = 0 ∧ e2 = 0 ∧ e3 = 0 ∧ m ≤ 255
        · obtain ⟨rfl, rfl, rfl, hm⟩ := hall
          have HT2 : Hid (takeR r = some ((UInt8.ofNat m, u, x), p3)) := by have := HT.out; rw [if_pos ⟨rfl, rfl, rfl, hm⟩] at this; exact this
          have hmi : ¬ (255 : Int) < (m : Int) := by omega
          have hwn : IntKind.u8.wrap (m : Int) = (m : Int) := by rw [IntKind.wrap_u8]; omega
          have hnn : ((UInt8.ofNat m).toNat : Int) = (m : Int) := by simp; omega
          have hul : u.length ≤ 512 := by have := (text_inv HU.out).2; omega
          have hxl : x.length ≤ 512 := by have := (text_inv HX.out).2; omega
          obtain ⟨k1, k2, hk⟩ := rk4.len
          subst hk
          obtain ⟨v1, v2, hvv⟩ := rv.len
          subst hvv
          have hba := below_box w4 #[.int .u8 (m : Int), .slice k1 u.length k2, .slice v1 x.length v2] 72
          have hOe := hO4.below hba (Nat.le_refl _)
          have rke := rk4.below hba (Nat.le_refl _)
          have rve := rv.below hba (Nat.le_refl _)
          have rce := rc.below hba (Nat.le_refl _)
          have hBe := hB4.trans (hba.mono hB4.size)
          have nk := neb_of (fk.mono hs2) hlow rk4
          have nv := neb_of (fv.mono hs3) hlow rv
          have nc := neb_of (fc.mono hs3) hlow rc
          have hlit := laid3 w4 (.int .u8 (m : Int)) (.slice k1 u.length k2) (.slice v1 x.length v2) 72
          have hwz : w.heap.size ≤ w4.heap.size := hB4.size
          have fkB := fk.mono' hwB2
          have fvB := fv.mono' (Nat.le_trans hwB2 hw23)
          obtain ⟨cs, hrow, hel⟩ := hOe
          subst hol
          have HNN : Hid _ := hnn
          clear hba hO4 rk4 rv rc hB4 HT hnn
          go_wp2_with (at_builtin; refine wpList_append_lies _ rfl (.tmp 66) (.tmp 72) 34 rfl w.heap.size 72 i0 (.agg #[.int .u8 0, .slice none 0 0, .slice none 0 0]) 3 56 Tryd.underlying34 hi hz0 hz1 hz2 rfl (by decide) (.slice a' os.length c') os.length cs rfl hrow ⟨w4.heap.size, 0, none⟩ 1 1 [.int .u8 (m : Int), .slice k1 u.length k2, .slice v1 x.length v2] rfl rfl hlit (one3 _ _ _ _ _ _ _) (by decide) (by simp only [maxLen]; omega) (by omega) (by simp; omega) _ rfl ?_; intro g4 c4 w5 hown hgrow hat hlt4)
          rw [← HNN.out] at hown
          have hpush := own_pushR (UInt8.ofNat m, u, x) hrow hel rke rve nk nv fkB fvB hown hgrow hat
          have hB5 := hBe.grown hgrow hBe.size (fun k' e => (hrow.lt k' e).1)
          have rc5 := rd_grown rce hgrow nc
          have nc5 : NeB xc p3 (.slice (some ⟨g4, 0, none⟩) (os.length + 1) c4) := neb_step nc rce hat
          clear hlit
          go_wp2
          go_roundg g
          case measure => omega
          case rel => exact ⟨os.length + 1, os ++ [(UInt8.ofNat m, u, x)], p3, _, c4, by omega, by go_num, by simp, rfl, rc5, hp3l, hpush, nc5, by rw [HN.out]; exact refN_step HT2.out, by intro o ho; rcases List.mem_append.1 ho with h | h; exact HBD.out o h; simp at h; subst h; exact ⟨hul, hxl⟩, hB5⟩
        · have HT2 : Hid (takeR r = none) := by have := HT.out; rw [if_neg hall] at this; exact this
          have hfin : Hid (q = ([], 4)) := by
            show _ = _
            rw [HQ.out, HN.out, refN_stop HT2.out]
            rfl
          clear HT hO4 rk4 rv rc
          by_cases h1 : e1 = 0
          · subst h1
            by_cases h2 : e2 = 0
            · subst h2
              by_cases h3 : e3 = 0
              · subst h3
                have hmi : (255 : Int) < (m : Int) := by omega
                clear hall
                go_wp2
                go_ret2
                exact ⟨_, by rw [hfin.out]; rfl, by rw [hfin.out]; exact RdOF.nil _ _, hB4⟩
              · have h1b : ((e3 : Int) != 0) = true := by simp; omega
                have h1c : ((e3 : Int) == 0) = false := by simp; omega
                clear hall
                go_wp2
                go_ret2
                exact ⟨_, by rw [hfin.out]; rfl, by rw [hfin.out]; exact RdOF.nil _ _, hB4⟩
            · have h1b : ((e2 : Int) != 0) = true := by simp; omega
              have h1c : ((e2 : Int) == 0) = false := by simp; omega
              clear hall
              go_wp2
              go_ret2
              exact ⟨_, by rw [hfin.out]; rfl, by rw [hfin.out]; exact RdOF.nil _ _, hB4⟩
          · have h1b : ((e1 : Int) != 0) = true := by simp; omega
            have h1c : ((e1 : Int) == 0) = false := by simp; omega
            clear hall
            go_wp2
            go_ret2
            exact ⟨_, by rw [hfin.out]; rfl, by rw [hfin.out]; exact RdOF.nil _ _, hB4⟩
      · obtain rfl : j = n := by omega
        obtain rfl : gk = 0 := by omega
        have hji : ¬ (j : Int) < (j : Int) := by omega
        have HN2 : Hid (refN j p = some (os, r)) := by show _ = _; rw [HN.out]; simp [refN]
        have HQ2 : Hid (q = if chkL os = 0 ∧ batB os = l then (os, 0) else ([], 4)) := by show _ = _; rw [HQ.out, HN2.out]
        have hsz : sizeO os ≤ 1000000 := by have := sizeO_bound2 os HBD.out; omega
        obtain ⟨c, hc⟩ : ∃ c, chkL os = c := ⟨_, rfl⟩
        have HC : Hid _ := hc
        rw [hc] at HQ2
        clear hr hneb HQ hc
        by_cases hc0 : c = 0
        · subst hc0
          obtain ⟨bb, hbb⟩ : ∃ bb, batB os = bb := ⟨_, rfl⟩
          have HBB : Hid _ := hbb
          rw [hbb] at HQ2
          clear hbb
          go_wp2_with fail
          refine (rbytes_ok _ _ os hO.rd HC.out (by omega) hsz).mono ?_
          rintro e w5 ⟨xq, rfl, oq, hb5⟩
          rw [HBB.out] at oq
          obtain ⟨gq, kq, hgq⟩ := oq.shape
          subst hgq
          have hO5 := hO.below hb5 (Nat.le_refl _)
          have hB5 := hB.trans (hb5.mono hB.size)
          have rv5 : Rd w5 v l := Rd.below (show Rd w v l from HRV.out) hB5 (Nat.le_refl _)
          obtain ⟨d, hd⟩ : ∃ d, (bb == l) = d := ⟨_, rfl⟩
          have HD : Hid _ := hd
          clear hO hB hb5 hd
          go_wp2_with fail
          refine (same_b _ _ _ bb l d oq.rd rv5 HD.out).mono ?_
          rintro e w6 ⟨rfl, hw⟩
          subst hw
          cases d
          · have hfin : Hid (q = ([], 4)) := by
              show _ = _
              rw [HQ2.out, if_neg]
              rintro ⟨_, h⟩
              have := HD.out
              rw [h] at this
              simp at this
            go_wp2
            go_ret2
            exact ⟨_, by rw [hfin.out]; rfl, by rw [hfin.out]; exact RdOF.nil _ _, hB5⟩
          · have hfin : Hid (q = (os, 0)) := by
              show _ = _
              rw [HQ2.out, if_pos]
              exact ⟨by simp, eq_of_beq HD.out⟩
            go_wp2
            go_ret2
            exact ⟨_, by rw [hfin.out]; rfl, by rw [hfin.out]; exact hO5.rdf, hB5⟩
        · have h1b : (c != 0) = true := by simp [hc0]
          have h1c : (c == 0) = false := by simp [hc0]
          have hfin : Hid (q = ([], 4)) := by
            show _ = _
            rw [HQ2.out, if_neg]
            rintro ⟨h, _⟩
            exact hc0 h
          go_wp2_with fail
          refine (rbytes_err _ _ os c hO.rd HC.out hc0).mono ?_
          rintro e w5 ⟨rfl, hb5⟩
          have hB5 := hB.trans (hb5.mono hB.size)
          clear hO hB hb5
          go_wp2
          go_ret2
          exact ⟨_, by rw [hfin.out]; rfl, by rw [hfin.out]; exact RdOF.nil _ _, hB5⟩
  · have hfin : Hid (q = ([], 4)) := by
      show _ = _
      rw [← hq]
      unfold refS
      rw [hf]
      simp only
      rw [if_neg he]
    clear hf hq
    go_enter Tryd.func52, Tryd.ntmps52
    go_wp2_with fail
    refine (reftake_any _ _ l hv (by omega)).mono ?_
    rintro r w1 ⟨xr, rfl, hpost, hb⟩
    rw [HV.out]
    clear hpost HV hv
    by_cases he0 : e = 0
    · subst he0
      have hn : (64 : Int) < (n : Int) := by omega
      clear he
      go_wp2
      go_ret2
      exact ⟨_, by rw [hfin.out]; rfl, by rw [hfin.out]; exact RdOF.nil _ _, hb⟩
    · have h1b : ((e : Int) != 0) = true := by simp; omega
      have h1c : ((e : Int) == 0) = false := by simp; omega
      clear he
      go_wp2
      go_ret2
      exact ⟨_, by rw [hfin.out]; rfl, by rw [hfin.out]; exact RdOF.nil _ _, hb⟩

theorem rread_any (w : World) (v : Value) (l : List UInt8) (q : List OpB × Nat) (hv : Rd w v l) (hlen : l.length ≤ 1000000) (hq : refS l = q) :
    Calls Tryd.prog 52 #[v] w fun e w' => ∃ x, e = .returned (.tuple #[x, .int .i64 (q.2 : Int)]) ∧ RdO w' x q.1 ∧ Below w.heap.size w w' :=
  (rread_own w v l q hv hlen hq).mono fun _ _ ⟨x, e, h, hb⟩ => ⟨x, e, h.rd, hb⟩

end Go.Proofs.YtmgofohaoppajaaDoor

/- entry.Read. -/
namespace Go.Proofs.YtmgofohaoppajaaDoor
open Go.RowKit
set_option linter.unusedVariables false

/-- the entry of bytes -/
def noteS (l : List UInt8) : Option NtB :=
  if (frontS l).2.2 = 0 ∧ (frontS l).1 ≤ 4 then
    if (frontS (l.drop (frontS l).2.1)).2.2 = 0 then
      if (textS ((l.drop (frontS l).2.1).drop (frontS (l.drop (frontS l).2.1)).2.1) 32).2.2 = 0 then
        if (batS (textS ((l.drop (frontS l).2.1).drop (frontS (l.drop (frontS l).2.1)).2.1) 32).2.1).2 = 0 then
          if rightB ((frontS l).1 : Int) ((frontS (l.drop (frontS l).2.1)).1 : Int) (textS ((l.drop (frontS l).2.1).drop (frontS (l.drop (frontS l).2.1)).2.1) 32).1.length (batS (textS ((l.drop (frontS l).2.1).drop (frontS (l.drop (frontS l).2.1)).2.1) 32).2.1).1.length = true then
            some (UInt8.ofNat (frontS l).1, (frontS (l.drop (frontS l).2.1)).1, (textS ((l.drop (frontS l).2.1).drop (frontS (l.drop (frontS l).2.1)).2.1) 32).1, (batS (textS ((l.drop (frontS l).2.1).drop (frontS (l.drop (frontS l).2.1)).2.1) 32).2.1).1)
          else none
        else none
      else none
    else none
  else none

abbrev noteZ : Value := .agg #[.int .u8 0, .int .u64 0, .slice none 0 0, .slice none 0 0]

set_option maxHeartbeats 2000000 in
set_option maxRecDepth 20000 in
theorem eread_kind (w : World) (v : Value) (l : List UInt8) (e : Nat) (hv : Rd w v l) (hf : frontS l = (0, 0, e)) (he : e = 2 ∨ e = 4) :
    Calls Tryd.prog 29 #[v] w fun o w' => o = .returned (.tuple #[noteZ, .int .i64 4]) ∧ Below w.heap.size w w' := by
  have b0 := box4f_new w (.int .u8 0) (.int .u64 0) (.slice none 0 0) (.slice none 0 0) 54
  have hB0 := below_box4 w (.cells #[.int .u8 0, .int .u64 0, .slice none 0 0, .slice none 0 0] 54)
  have htk := take_err (w.alloc (.cells #[.int .u8 0, .int .u64 0, .slice none 0 0, .slice none 0 0] 54)) v l e (hv.below hB0 (Nat.le_refl _)) hf he
  have he0 : ¬ (e : Int) = 0 := by omega
  have heb2 : ((e : Int) == 0) = false := by simpa using he0
  clear hv hf he
  go_enter Tryd.func29, Tryd.ntmps29
  go_wp2_with fail
  refine htk.mono ?_
  rintro o w1 ⟨rfl, hb⟩
  have hB1 := hB0.trans (hb.mono hB0.size)
  obtain ⟨⟨c0, c1, c2, c3⟩, f0, f1, f2, f3⟩ := b0.below hb (Nat.le_refl _)
  clear b0 hb hB0 htk
  go_wp2
  refine bodyPost_ret (v := .tuple #[noteZ, .int .i64 4]) (by simp [results, Tryd.results29, go_sem, c0, c1, c2, c3]) rfl ⟨rfl, below_store4 hB1 (Nat.le_refl _) _ _ _ _⟩

/-- what entry.Read answers -/
def ERPost (w : World) (q : Option NtB) (o : Ending) (w' : World) : Prop :=
  Below w.heap.size w w' ∧ match q with
    | none => o = .returned (.tuple #[noteZ, .int .i64 4])
    | some n => ∃ x y, o = .returned (.tuple #[.agg #[.int .u8 (n.1.toNat : Int), .int .u64 (n.2.1 : Int), x, y], .int .i64 0]) ∧ Rd w' x n.2.2.1 ∧ RdO w' y n.2.2.2

set_option maxHeartbeats 4000000 in
set_option maxRecDepth 20000 in
theorem eread_none (w : World) (v : Value) (l : List UInt8) (n s : Nat) (hv : Rd w v l) (hlen : l.length ≤ 1000000) (hf : frontS l = (n, s, 0)) (q2 s2 e2 : Nat) (hf2 : frontS (l.drop s) = (q2, s2, e2)) (nm l3 : List UInt8) (e3 : Nat) (hT : textS ((l.drop s).drop s2) 32 = (nm, l3, e3)) (os : List OpB) (e4 : Nat) (hO : batS l3 = (os, e4))
    (hno : 4 < n ∨ (¬ e2 = 0) ∨ (¬ e3 = 0) ∨ (¬ e4 = 0) ∨ rightB (n : Int) (q2 : Int) nm.length os.length = false) :
    Calls Tryd.prog 29 #[v] w fun o w' => o = .returned (.tuple #[noteZ, .int .i64 4]) ∧ Below w.heap.size w w' := by
  have BX0 := box4f_new w (.int .u8 0) (.int .u64 0) (.slice none 0 0) (.slice none 0 0) 54
  have hB0 := below_box4 w (.cells #[.int .u8 0, .int .u64 0, .slice none 0 0, .slice none 0 0] 54)
  obtain ⟨hs1, hs2, hs9, hnb⟩ := frontS_ok hf
  have htk := take_ok (w.alloc (.cells #[.int .u8 0, .int .u64 0, .slice none 0 0, .slice none 0 0] 54)) v l n s (hv.below hB0 (Nat.le_refl _)) hf (by omega)
  have HRF : Hid (¬ 4 < n → e2 = 0 → e3 = 0 → e4 = 0 → rightB (n : Int) (q2 : Int) nm.length os.length = false) := by
    intro a1 a2 a3 a4
    rcases hno with h | h | h | h | h
    · exact absurd h a1
    · exact absurd a2 h
    · exact absurd a3 h
    · exact absurd a4 h
    · exact h
  have HF2 : Hid (frontS (l.drop s) = (q2, s2, e2)) := hf2
  have HT : Hid (textS ((l.drop s).drop s2) 32 = (nm, l3, e3)) := hT
  have HO : Hid (batS l3 = (os, e4)) := hO
  have HL : Hid (l.length ≤ 1000000) := hlen
  clear hv hf hf2 hT hO hlen hs1 hs2 hs9 hno
  go_enter Tryd.func29, Tryd.ntmps29
  go_wp2_with fail
  refine htk.mono ?_
  rintro o w1 ⟨x1, rfl, o1, hb1⟩
  obtain ⟨g1, k1, rfl⟩ := o1.shape
  have HB1 : Hid (Below w.heap.size w w1) := hB0.trans (hb1.mono hB0.size)
  have BX1 := BX0.below hb1 (Nat.le_refl _)
  obtain ⟨l1, hl1⟩ : ∃ l1, l.drop s = l1 := ⟨_, rfl⟩
  rw [hl1] at o1 HF2 HT ⊢
  have hl1l : l1.length ≤ 1000000 := by rw [← hl1, List.length_drop]; have := HL.out; omega
  have HO1 : Hid (Rd w1 (.slice (some ⟨g1, 0, none⟩) l1.length k1) l1) := o1.rd
  clear htk hB0 BX0 hb1 o1 hl1
  by_cases hn4 : 4 < n
  · have hnI : (4 : Int) < (n : Int) := by omega
    obtain ⟨⟨c0, c1, c2, c3⟩, f0, f1, f2, f3⟩ := BX1
    go_wp2
    refine bodyPost_ret (v := .tuple #[noteZ, .int .i64 4]) (by simp [results, Tryd.results29, go_sem, c0, c1, c2, c3]) rfl ?_
    exact ⟨rfl, below_store4 HB1.out (Nat.le_refl _) _ _ _ _⟩
  · have hnI : ¬ (4 : Int) < (n : Int) := by omega
    by_cases he2 : e2 = 0
    · subst he2
      have htk2 := take_ok w1 _ l1 q2 s2 HO1.out HF2.out (by omega)
      go_wp2_with fail
      refine htk2.mono ?_
      rintro o w2 ⟨x2, rfl, o2, hb2⟩
      obtain ⟨g2, k2, rfl⟩ := o2.shape
      have HB2 : Hid (Below w.heap.size w w2) := HB1.out.trans (hb2.mono HB1.out.size)
      have BX2 := BX1.below hb2 (Nat.le_refl _)
      obtain ⟨l2, hl2⟩ : ∃ l2, l1.drop s2 = l2 := ⟨_, rfl⟩
      rw [hl2] at o2 HT ⊢
      have hl2l : l2.length ≤ 1000000 := by rw [← hl2, List.length_drop]; omega
      have htx := text_any w2 _ l2 32 (by omega) o2.rd (by omega)
      rw [HT.out] at htx
      clear htk2 BX1 hb2 o2 hl2
      go_wp2_with fail
      refine htx.mono ?_
      rintro o w3 ⟨x3, y3, rfl, rx3, ry3, fx3, fy3, hb3⟩
      have HB3 : Hid (Below w.heap.size w w3) := HB2.out.trans (hb3.mono HB2.out.size)
      have BX3 := BX2.below hb3 (Nat.le_refl _)
      obtain ⟨xa3, xc3, rfl⟩ := rx3.len
      obtain ⟨ya3, yc3, rfl⟩ := ry3.len
      have hl3l : l3.length ≤ 1000000 := by have := textS_rest HT.out; omega
      clear htx BX2 hb3 fx3 fy3
      by_cases he3 : e3 = 0
      · subst he3
        have hbr := bread_any w3 _ l3 (os, e4) ry3 hl3l HO.out
        go_wp2_with fail
        refine hbr.mono ?_
        rintro o w4 ⟨x4, rfl, ro4, hb4⟩
        have HB4 : Hid (Below w.heap.size w w4) := HB3.out.trans (hb4.mono HB3.out.size)
        have BX4 := BX3.below hb4 (Nat.le_refl _)
        obtain ⟨oa4, oc4, rfl⟩ := rdo_shape ro4
        clear hbr BX3 hb4 rx3 ry3
        by_cases he4 : e4 = 0
        · subst he4
          have hrf := HRF.out hn4 (by first | rfl | trivial) (by first | rfl | trivial) (by first | rfl | trivial)
          have hbn := below_box4 w4 (.cells #[.int .u8 (n : Int), .int .u64 (q2 : Int), .slice xa3 nm.length xc3, .slice oa4 os.length oc4] 54)
          have hri := right_any (w4.alloc (.cells #[.int .u8 (n : Int), .int .u64 (q2 : Int), .slice xa3 nm.length xc3, .slice oa4 os.length oc4] 54)) (n : Int) (q2 : Int) xa3 nm.length xc3 oa4 os.length oc4 (by omega)
          rw [hrf] at hri
          have BX5 := BX4.below hbn (Nat.le_refl _)
          have HB5 : Hid (Below w.heap.size w (w4.alloc (.cells #[.int .u8 (n : Int), .int .u64 (q2 : Int), .slice xa3 nm.length xc3, .slice oa4 os.length oc4] 54))) := HB4.out.trans (hbn.mono HB4.out.size)
          clear ro4 hrf hbn BX4
          go_wp2_with fail
          refine hri.mono ?_
          rintro o w6 ⟨rfl, hb6⟩
          have HB6 : Hid (Below w.heap.size w w6) := HB5.out.trans (hb6.mono HB5.out.size)
          have BX6 := BX5.below hb6 (Nat.le_refl _)
          clear hri BX5 hb6
          obtain ⟨⟨c0, c1, c2, c3⟩, f0, f1, f2, f3⟩ := BX6
          go_wp2
          refine bodyPost_ret (v := .tuple #[noteZ, .int .i64 4]) (by simp [results, Tryd.results29, go_sem, c0, c1, c2, c3]) rfl ?_
          exact ⟨rfl, below_store4 HB6.out (Nat.le_refl _) _ _ _ _⟩
        · have heI : ¬ (e4 : Int) = 0 := by omega
          have hebq : ((e4 : Int) == 0) = false := by simpa using heI
          clear ro4
          obtain ⟨⟨c0, c1, c2, c3⟩, f0, f1, f2, f3⟩ := BX4
          go_wp2
          refine bodyPost_ret (v := .tuple #[noteZ, .int .i64 4]) (by simp [results, Tryd.results29, go_sem, c0, c1, c2, c3]) rfl ?_
          exact ⟨rfl, below_store4 HB4.out (Nat.le_refl _) _ _ _ _⟩
      · have heI : ¬ (e3 : Int) = 0 := by omega
        have hebq : ((e3 : Int) == 0) = false := by simpa using heI
        clear rx3 ry3
        obtain ⟨⟨c0, c1, c2, c3⟩, f0, f1, f2, f3⟩ := BX3
        go_wp2
        refine bodyPost_ret (v := .tuple #[noteZ, .int .i64 4]) (by simp [results, Tryd.results29, go_sem, c0, c1, c2, c3]) rfl ?_
        exact ⟨rfl, below_store4 HB3.out (Nat.le_refl _) _ _ _ _⟩
    · have hf3 := frontS_err HF2.out he2
      obtain ⟨hq0, hs0, he24⟩ := hf3
      have hff := HF2.out
      rw [hq0, hs0] at hff
      have htk2 := take_err w1 _ l1 e2 HO1.out hff he24
      have heI : ¬ (e2 : Int) = 0 := by omega
      have hebq : ((e2 : Int) == 0) = false := by simpa using heI
      clear hff hq0 hs0 he24
      go_wp2_with fail
      refine htk2.mono ?_
      rintro o w2 ⟨rfl, hb2⟩
      have HB2 : Hid (Below w.heap.size w w2) := HB1.out.trans (hb2.mono HB1.out.size)
      have BX2 := BX1.below hb2 (Nat.le_refl _)
      clear htk2 BX1 hb2
      obtain ⟨⟨c0, c1, c2, c3⟩, f0, f1, f2, f3⟩ := BX2
      go_wp2
      refine bodyPost_ret (v := .tuple #[noteZ, .int .i64 4]) (by simp [results, Tryd.results29, go_sem, c0, c1, c2, c3]) rfl ?_
      exact ⟨rfl, below_store4 HB2.out (Nat.le_refl _) _ _ _ _⟩

end Go.Proofs.YtmgofohaoppajaaDoor

/- entry.Read, where there is an entry. -/
namespace Go.Proofs.YtmgofohaoppajaaDoor
open Go.RowKit
set_option linter.unusedVariables false

theorem RdF.store4 {B : Nat} {w : World} {v : Value} {l : List UInt8} {b : Nat} (h : RdF B w v l) (hb : b < B) (u0 u1 u2 u3 : Value) : RdF B ((((w.setCell ⟨b, 0, none⟩ u0).setCell ⟨b, 1, none⟩ u1).setCell ⟨b, 2, none⟩ u2).setCell ⟨b, 3, none⟩ u3) v l :=
  (((h.store ⟨b, 0, none⟩ hb u0).store ⟨b, 1, none⟩ hb u1).store ⟨b, 2, none⟩ hb u2).store ⟨b, 3, none⟩ hb u3

theorem RdOF.store4 {B : Nat} {w : World} {v : Value} {os : List OpB} {b : Nat} (h : RdOF B w v os) (hb : b < B) (u0 u1 u2 u3 : Value) : RdOF B ((((w.setCell ⟨b, 0, none⟩ u0).setCell ⟨b, 1, none⟩ u1).setCell ⟨b, 2, none⟩ u2).setCell ⟨b, 3, none⟩ u3) v os :=
  (((h.store ⟨b, 0, none⟩ hb u0).store ⟨b, 1, none⟩ hb u1).store ⟨b, 2, none⟩ hb u2).store ⟨b, 3, none⟩ hb u3

theorem RdF.below {B C : Nat} {w w' : World} {v : Value} {l : List UInt8} (h : RdF B w v l) (hb : Below C w w') (hC : w.heap.size ≤ C) : RdF B w' v l := ⟨h.1.below hb hC, h.2⟩
theorem RdF.mono {B C : Nat} {w : World} {v : Value} {l : List UInt8} (h : RdF C w v l) (hB : B ≤ C) : RdF B w v l := ⟨h.1, h.2.mono' hB⟩

set_option maxHeartbeats 4000000 in
set_option maxRecDepth 20000 in
theorem eread_ok (w : World) (v : Value) (l : List UInt8) (n s : Nat) (hv : Rd w v l) (hlen : l.length ≤ 1000000) (hf : frontS l = (n, s, 0)) (q2 s2 : Nat) (hf2 : frontS (l.drop s) = (q2, s2, 0)) (nm l3 : List UInt8) (hT : textS ((l.drop s).drop s2) 32 = (nm, l3, 0)) (os : List OpB) (hO : batS l3 = (os, 0))
    (hn4 : ¬ 4 < n) (hrt : rightB (n : Int) (q2 : Int) nm.length os.length = true) :
    Calls Tryd.prog 29 #[v] w fun o w' => ∃ x y, o = .returned (.tuple #[.agg #[.int .u8 (n : Int), .int .u64 (q2 : Int), x, y], .int .i64 0]) ∧ RdF (w.heap.size + 1) w' x nm ∧ RdOF (w.heap.size + 1) w' y os ∧ Below w.heap.size w w' := by
  have BX0 := box4f_new w (.int .u8 0) (.int .u64 0) (.slice none 0 0) (.slice none 0 0) 54
  have hB0 := below_box4 w (.cells #[.int .u8 0, .int .u64 0, .slice none 0 0, .slice none 0 0] 54)
  obtain ⟨hs1, hs2, hs9, hnb⟩ := frontS_ok hf
  have htk := take_ok (w.alloc (.cells #[.int .u8 0, .int .u64 0, .slice none 0 0, .slice none 0 0] 54)) v l n s (hv.below hB0 (Nat.le_refl _)) hf (by omega)
  have HRF : Hid (rightB (n : Int) (q2 : Int) nm.length os.length = true) := hrt
  have HF2 : Hid (frontS (l.drop s) = (q2, s2, 0)) := hf2
  have HT : Hid (textS ((l.drop s).drop s2) 32 = (nm, l3, 0)) := hT
  have HO : Hid (batS l3 = (os, 0)) := hO
  have HL : Hid (l.length ≤ 1000000) := hlen
  have HZ : Hid ((w.alloc (.cells #[.int .u8 0, .int .u64 0, .slice none 0 0, .slice none 0 0] 54)).heap.size = w.heap.size + 1) := by show _ = _; simp
  clear hv hf hf2 hT hO hlen hs1 hs2 hs9 hrt
  go_enter Tryd.func29, Tryd.ntmps29
  go_wp2_with fail
  refine htk.mono ?_
  rintro o w1 ⟨x1, rfl, o1, hb1⟩
  obtain ⟨g1, k1, rfl⟩ := o1.shape
  have HB1 : Hid (Below w.heap.size w w1) := hB0.trans (hb1.mono hB0.size)
  have HZ1 : Hid (w.heap.size + 1 ≤ w1.heap.size) := by have h1 := HZ.out; have h2 := hb1.size; rw [h1] at h2; exact h2
  have BX1 := BX0.below hb1 (Nat.le_refl _)
  obtain ⟨l1, hl1⟩ : ∃ l1, l.drop s = l1 := ⟨_, rfl⟩
  rw [hl1] at o1 HF2 HT ⊢
  have hl1l : l1.length ≤ 1000000 := by rw [← hl1, List.length_drop]; have := HL.out; omega
  have HO1 : Hid (Rd w1 (.slice (some ⟨g1, 0, none⟩) l1.length k1) l1) := o1.rd
  clear htk hB0 BX0 hb1 o1 hl1 HZ
  have hnI : ¬ (4 : Int) < (n : Int) := by omega
  have htk2 := take_ok w1 _ l1 q2 s2 HO1.out HF2.out (by omega)
  go_wp2_with fail
  refine htk2.mono ?_
  rintro o w2 ⟨x2, rfl, o2, hb2⟩
  obtain ⟨g2, k2, rfl⟩ := o2.shape
  have HB2 : Hid (Below w.heap.size w w2) := HB1.out.trans (hb2.mono HB1.out.size)
  have HZ2 : Hid (w.heap.size + 1 ≤ w2.heap.size) := Nat.le_trans HZ1.out hb2.size
  have BX2 := BX1.below hb2 (Nat.le_refl _)
  obtain ⟨l2, hl2⟩ : ∃ l2, l1.drop s2 = l2 := ⟨_, rfl⟩
  rw [hl2] at o2 HT ⊢
  have hl2l : l2.length ≤ 1000000 := by rw [← hl2, List.length_drop]; omega
  have htx := text_any w2 _ l2 32 (by omega) o2.rd (by omega)
  rw [HT.out] at htx
  clear htk2 BX1 hb2 o2 hl2
  go_wp2_with fail
  refine htx.mono ?_
  rintro o w3 ⟨x3, y3, rfl, rx3, ry3, fx3, fy3, hb3⟩
  have HB3 : Hid (Below w.heap.size w w3) := HB2.out.trans (hb3.mono HB2.out.size)
  have HZ3 : Hid (w.heap.size + 1 ≤ w3.heap.size) := Nat.le_trans HZ2.out hb3.size
  have BX3 := BX2.below hb3 (Nat.le_refl _)
  obtain ⟨xa3, xc3, rfl⟩ := rx3.len
  obtain ⟨ya3, yc3, rfl⟩ := ry3.len
  have RX3 : Hid (RdF (w.heap.size + 1) w3 (.slice xa3 nm.length xc3) nm) := ⟨rx3, fx3.mono HZ2.out⟩
  have hl3l : l3.length ≤ 1000000 := by have := textS_rest HT.out; omega
  have hbr := bread_own w3 _ l3 (os, 0) ry3 hl3l HO.out
  clear htx BX2 hb3 fx3 fy3 rx3 ry3
  go_wp2_with fail
  refine hbr.mono ?_
  rintro o w4 ⟨x4, rfl, ro4, hb4⟩
  have HB4 : Hid (Below w.heap.size w w4) := HB3.out.trans (hb4.mono HB3.out.size)
  have BX4 := BX3.below hb4 (Nat.le_refl _)
  obtain ⟨oa4, oc4, rfl⟩ := rdo_shape ro4.rd
  have RX4 : Hid (RdF (w.heap.size + 1) w4 (.slice xa3 nm.length xc3) nm) := RX3.out.below hb4 (Nat.le_refl _)
  have RO4 : Hid (RdOF (w.heap.size + 1) w4 (.slice oa4 os.length oc4) os) := ro4.mono HZ3.out
  clear hbr BX3 hb4 ro4
  have hrf := HRF.out
  have hbn := below_box4 w4 (.cells #[.int .u8 (n : Int), .int .u64 (q2 : Int), .slice xa3 nm.length xc3, .slice oa4 os.length oc4] 54)
  have hri := right_any (w4.alloc (.cells #[.int .u8 (n : Int), .int .u64 (q2 : Int), .slice xa3 nm.length xc3, .slice oa4 os.length oc4] 54)) (n : Int) (q2 : Int) xa3 nm.length xc3 oa4 os.length oc4 (by omega)
  rw [hrf] at hri
  have BX5 := BX4.below hbn (Nat.le_refl _)
  have BN5 := box4_new w4 (.int .u8 (n : Int)) (.int .u64 (q2 : Int)) (.slice xa3 nm.length xc3) (.slice oa4 os.length oc4) 54
  have HB5 : Hid (Below w.heap.size w (w4.alloc (.cells #[.int .u8 (n : Int), .int .u64 (q2 : Int), .slice xa3 nm.length xc3, .slice oa4 os.length oc4] 54))) := HB4.out.trans (hbn.mono HB4.out.size)
  have RX5 : Hid (RdF (w.heap.size + 1) (w4.alloc (.cells #[.int .u8 (n : Int), .int .u64 (q2 : Int), .slice xa3 nm.length xc3, .slice oa4 os.length oc4] 54)) (.slice xa3 nm.length xc3) nm) := RX4.out.below hbn (Nat.le_refl _)
  have RO5 : Hid (RdOF (w.heap.size + 1) (w4.alloc (.cells #[.int .u8 (n : Int), .int .u64 (q2 : Int), .slice xa3 nm.length xc3, .slice oa4 os.length oc4] 54)) (.slice oa4 os.length oc4) os) := RO4.out.below hbn (Nat.le_refl _)
  clear hrf hbn BX4
  go_wp2_with fail
  refine hri.mono ?_
  rintro o w6 ⟨rfl, hb6⟩
  have HB6 : Hid (Below w.heap.size w w6) := HB5.out.trans (hb6.mono HB5.out.size)
  have RX6 : Hid (RdF (w.heap.size + 1) w6 (.slice xa3 nm.length xc3) nm) := RX5.out.below hb6 (Nat.le_refl _)
  have RO6 : Hid (RdOF (w.heap.size + 1) w6 (.slice oa4 os.length oc4) os) := RO5.out.below hb6 (Nat.le_refl _)
  have BX6 := BX5.below hb6 (Nat.le_refl _)
  have BN6 := BN5.below hb6 (Nat.le_refl _)
  clear hri BX5 BN5 hb6
  obtain ⟨⟨c0, c1, c2, c3⟩, f0, f1, f2, f3⟩ := BX6
  obtain ⟨d0, d1, d2, d3⟩ := BN6
  go_wp2
  refine bodyPost_ret (v := .tuple #[.agg #[.int .u8 (n : Int), .int .u64 (q2 : Int), .slice xa3 nm.length xc3, .slice oa4 os.length oc4], .int .i64 0]) (by simp [results, Tryd.results29, go_sem, c0, c1, c2, c3]) rfl ?_
  exact ⟨_, _, rfl, RX6.out.store4 (Nat.lt_succ_self _) _ _ _ _, RO6.out.store4 (Nat.lt_succ_self _) _ _ _ _, below_store4 HB6.out (Nat.le_refl _) _ _ _ _⟩

end Go.Proofs.YtmgofohaoppajaaDoor

/- Two entries with the same bytes are one entry. -/
namespace Go.Proofs.YtmgofohaoppajaaDoor
set_option maxRecDepth 20000
open Go.RowKit
set_option linter.unusedVariables false

theorem num_front {a b : Nat} {s t : List UInt8} (ha : a < 18446744073709551616) (hb : b < 18446744073709551616) (h : Mth.numB a ++ s = Mth.numB b ++ t) : a = b ∧ s = t := by
  have h1 := front_numB a ha s
  have h2 := front_numB b hb t
  rw [h, h2] at h1
  simp only [Prod.mk.injEq] at h1
  obtain ⟨rfl, _, _⟩ := h1
  exact ⟨rfl, List.append_cancel_left h⟩

theorem text_front {l m s t : List UInt8} (hl : l.length < 18446744073709551616) (hm : m.length < 18446744073709551616) (h : textB l ++ s = textB m ++ t) : l = m ∧ s = t := by
  unfold textB at h
  rw [List.append_assoc, List.append_assoc] at h
  obtain ⟨h1, h2⟩ := num_front hl hm h
  exact List.append_inj h2 h1

theorem noteB_inj {k s k' s' : Nat} {l l' : List UInt8} {os os' : List OpB} (hk : k < 256) (hk' : k' < 256) (hs : s < 18446744073709551616) (hs' : s' < 18446744073709551616) (hl : l.length ≤ 1000) (hl' : l'.length ≤ 1000) (hc : chkL os = 0) (hc' : chkL os' = 0) (h : noteB k s l os = noteB k' s' l' os') : k = k' ∧ s = s' ∧ l = l' ∧ os = os' := by
  unfold noteB at h
  obtain ⟨h1, h⟩ := num_front (by omega) (by omega) h
  obtain ⟨h2, h⟩ := num_front hs hs' h
  obtain ⟨h3, h⟩ := text_front (by omega) (by omega) h
  refine ⟨h1, h2, h3, ?_⟩
  have e1 := bat_back os hc
  rw [h, bat_back os' hc'] at e1
  exact (congrArg Prod.fst e1).symm

end Go.Proofs.YtmgofohaoppajaaDoor

/- bartizanref07.Form: is an entry right. -/
namespace Go.Proofs.YtmgofohaoppajaaDoor
open Go.RowKit
set_option linter.unusedVariables false

/-- is it right, as the document asks it -/
def formB (k s : Int) (nl ol : Nat) : Bool :=
  if 72057594037927936 ≤ s ∨ 32 < nl then false
  else if k = 1 then decide (¬ s = 0) && decide (nl = 0)
  else if k = 2 then decide (s = 0) && decide (¬ nl = 0)
  else if k = 3 then decide (¬ s = 0) && decide (¬ nl = 0) && decide (ol = 0)
  else if k = 4 then decide (s = 0) && decide (¬ nl = 0) && decide (ol = 0)
  else false

theorem form_right (k s : Int) (nl ol : Nat) (hs : 0 ≤ s) : formB k s nl ol = rightB k s nl ol := by
  unfold formB rightB numbB namedB
  rw [Bool.eq_iff_iff]
  by_cases h0 : 72057594037927936 ≤ s ∨ 32 < nl
  · rw [if_pos h0]
    split
    · simp; omega
    · split
      · simp; omega
      · split
        · simp; omega
        · split
          · simp; omega
          · simp
  · rw [if_neg h0]
    split
    · simp; omega
    · split
      · simp; omega
      · split
        · simp; omega
        · split
          · simp; omega
          · simp

theorem formB_is (k s : Int) (nl ol : Nat) (h0 : ¬ (72057594037927936 ≤ s ∨ 32 < nl)) : (k = 1 ∧ formB k s nl ol = (decide (¬ s = 0) && decide (nl = 0))) ∨ (k = 2 ∧ formB k s nl ol = (decide (s = 0) && decide (¬ nl = 0))) ∨ (k = 3 ∧ formB k s nl ol = (decide (¬ s = 0) && decide (¬ nl = 0) && decide (ol = 0))) ∨ (k = 4 ∧ formB k s nl ol = (decide (s = 0) && decide (¬ nl = 0) && decide (ol = 0))) ∨ (¬ k = 1 ∧ ¬ k = 2 ∧ ¬ k = 3 ∧ ¬ k = 4 ∧ formB k s nl ol = false) := by
  unfold formB
  rw [if_neg h0]
  by_cases h1 : k = 1
  · exact .inl ⟨h1, by rw [if_pos h1]⟩
  · by_cases h2 : k = 2
    · exact .inr (.inl ⟨h2, by rw [if_neg h1, if_pos h2]⟩)
    · by_cases h3 : k = 3
      · exact .inr (.inr (.inl ⟨h3, by rw [if_neg h1, if_neg h2, if_pos h3]⟩))
      · by_cases h4 : k = 4
        · exact .inr (.inr (.inr (.inl ⟨h4, by rw [if_neg h1, if_neg h2, if_neg h3, if_pos h4]⟩)))
        · exact .inr (.inr (.inr (.inr ⟨h1, h2, h3, h4, by rw [if_neg h1, if_neg h2, if_neg h3, if_neg h4]⟩)))

set_option maxRecDepth 20000 in
set_option maxHeartbeats 8000000 in
theorem rform_any (w : World) (k s : Int) (na : Option Addr) (nl nc : Nat) (oa : Option Addr) (ol oc : Nat) (os : List OpB) (c : Int) (hs0 : 0 ≤ s) (ho : RdO w (.slice oa ol oc) os) (hc : chkL os = c) :
    Calls Tryd.prog 23 #[noteV k s na nl nc oa ol oc] w fun e w' => e = .returned (.bool (decide (c = 0) && formB k s nl ol)) ∧ Below w.heap.size w w' := by
  have hb := below_box4 w (.cells #[.int .u8 k, .int .u64 s, .slice na nl nc, .slice oa ol oc] 36)
  have bx := box4_new w (.int .u8 k) (.int .u64 s) (.slice na nl nc) (.slice oa ol oc) 36
  have hck := rcheck_any (w.alloc (.cells #[.int .u8 k, .int .u64 s, .slice na nl nc, .slice oa ol oc] 36)) _ os c (LsO.below ho hb (Nat.le_refl _)) hc
  have HB : Hid (Below w.heap.size w (w.alloc (.cells #[.int .u8 k, .int .u64 s, .slice na nl nc, .slice oa ol oc] 36))) := hb
  have HX : Hid (Box4 (w.alloc (.cells #[.int .u8 k, .int .u64 s, .slice na nl nc, .slice oa ol oc] 36)) w.heap.size (.int .u8 k) (.int .u64 s) (.slice na nl nc) (.slice oa ol oc)) := bx
  obtain ⟨rb, hrb⟩ : ∃ rb, (decide (c = 0) && formB k s nl ol) = rb := ⟨_, rfl⟩
  rw [hrb]
  clear hb bx hc ho
  by_cases hc0 : c = 0
  · subst hc0
    have hrb2 : formB k s nl ol = rb := by rw [← hrb]; simp
    clear hrb
    by_cases hs56 : 72057594037927936 ≤ s
    · have HR : Hid (rb = false) := by show _ = _; rw [← hrb2]; unfold formB; rw [if_pos (.inl hs56)]
      clear hrb2
      go_enter Tryd.func23, Tryd.ntmps23
      go_wp2_with fail
      refine hck.mono ?_
      rintro e w1 ⟨rfl, hb1⟩
      have hB1 := HB.out.trans (hb1.mono HB.out.size)
      have X1 := HX.out.below hb1 (Nat.le_refl _)
      have c0 := X1.c0; have c1 := X1.c1; have c2 := X1.c2; have c3 := X1.c3
      clear hck
      go_wp2
      go_ret
      exact ⟨retBo (by first | (rw [HR.out]; done) | (rw [HR.out]; first | rfl | (simp; done) | (simp; omega) | (rw [Bool.eq_iff_iff]; simp; done) | (rw [Bool.eq_iff_iff]; simp; omega))), hB1⟩
    · by_cases hn32 : (32 : Int) < (nl : Int)
      · have HR : Hid (rb = false) := by show _ = _; rw [← hrb2]; unfold formB; rw [if_pos (.inr (by omega))]
        clear hrb2
        go_enter Tryd.func23, Tryd.ntmps23
        go_wp2_with fail
        refine hck.mono ?_
        rintro e w1 ⟨rfl, hb1⟩
        have hB1 := HB.out.trans (hb1.mono HB.out.size)
        have X1 := HX.out.below hb1 (Nat.le_refl _)
        have c0 := X1.c0; have c1 := X1.c1; have c2 := X1.c2; have c3 := X1.c3
        clear hck
        go_wp2
        go_ret
        exact ⟨retBo (by first | (rw [HR.out]; done) | (rw [HR.out]; first | rfl | (simp; done) | (simp; omega) | (rw [Bool.eq_iff_iff]; simp; done) | (rw [Bool.eq_iff_iff]; simp; omega))), hB1⟩
      · have hcs := formB_is k s nl ol (by omega)
        rw [hrb2] at hcs
        clear hrb2
        rcases hcs with ⟨rfl, hr⟩ | ⟨rfl, hr⟩ | ⟨rfl, hr⟩ | ⟨rfl, hr⟩ | ⟨h1, h2, h3, h4, hr⟩
        all_goals have HR : Hid _ := hr
        all_goals clear hr
        · skip
          by_cases hsz : s = 0
          · subst hsz
            by_cases hn0 : (nl : Int) = 0
            · go_enter Tryd.func23, Tryd.ntmps23
              go_wp2_with fail
              refine hck.mono ?_
              rintro e w1 ⟨rfl, hb1⟩
              have hB1 := HB.out.trans (hb1.mono HB.out.size)
              have X1 := HX.out.below hb1 (Nat.le_refl _)
              have c0 := X1.c0; have c1 := X1.c1; have c2 := X1.c2; have c3 := X1.c3
              clear hck
              go_wp2
              go_ret
              exact ⟨retBo (by first | (rw [HR.out]; done) | (rw [HR.out]; first | rfl | (simp; done) | (simp; omega) | (rw [Bool.eq_iff_iff]; simp; done) | (rw [Bool.eq_iff_iff]; simp; omega))), hB1⟩
            · have hn0q : decide ((nl : Int) = 0) = false := decide_eq_false hn0
              have hn0b : ((nl : Int) == 0) = false := by simpa using hn0
              go_enter Tryd.func23, Tryd.ntmps23
              go_wp2_with fail
              refine hck.mono ?_
              rintro e w1 ⟨rfl, hb1⟩
              have hB1 := HB.out.trans (hb1.mono HB.out.size)
              have X1 := HX.out.below hb1 (Nat.le_refl _)
              have c0 := X1.c0; have c1 := X1.c1; have c2 := X1.c2; have c3 := X1.c3
              clear hck
              go_wp2
              go_ret
              exact ⟨retBo (by first | (rw [HR.out]; done) | (rw [HR.out]; first | rfl | (simp; done) | (simp; omega) | (rw [Bool.eq_iff_iff]; simp; done) | (rw [Bool.eq_iff_iff]; simp; omega))), hB1⟩
          · have hs0q : decide (s = 0) = false := decide_eq_false hsz
            have hs0b : (s == 0) = false := by simpa using hsz
            by_cases hn0 : (nl : Int) = 0
            · go_enter Tryd.func23, Tryd.ntmps23
              go_wp2_with fail
              refine hck.mono ?_
              rintro e w1 ⟨rfl, hb1⟩
              have hB1 := HB.out.trans (hb1.mono HB.out.size)
              have X1 := HX.out.below hb1 (Nat.le_refl _)
              have c0 := X1.c0; have c1 := X1.c1; have c2 := X1.c2; have c3 := X1.c3
              clear hck
              go_wp2
              go_ret
              exact ⟨retBo (by first | (rw [HR.out]; done) | (rw [HR.out]; first | rfl | (simp; done) | (simp; omega) | (rw [Bool.eq_iff_iff]; simp; done) | (rw [Bool.eq_iff_iff]; simp; omega))), hB1⟩
            · have hn0q : decide ((nl : Int) = 0) = false := decide_eq_false hn0
              have hn0b : ((nl : Int) == 0) = false := by simpa using hn0
              go_enter Tryd.func23, Tryd.ntmps23
              go_wp2_with fail
              refine hck.mono ?_
              rintro e w1 ⟨rfl, hb1⟩
              have hB1 := HB.out.trans (hb1.mono HB.out.size)
              have X1 := HX.out.below hb1 (Nat.le_refl _)
              have c0 := X1.c0; have c1 := X1.c1; have c2 := X1.c2; have c3 := X1.c3
              clear hck
              go_wp2
              go_ret
              exact ⟨retBo (by first | (rw [HR.out]; done) | (rw [HR.out]; first | rfl | (simp; done) | (simp; omega) | (rw [Bool.eq_iff_iff]; simp; done) | (rw [Bool.eq_iff_iff]; simp; omega))), hB1⟩
        · skip
          by_cases hsz : s = 0
          · subst hsz
            by_cases hn0 : (nl : Int) = 0
            · go_enter Tryd.func23, Tryd.ntmps23
              go_wp2_with fail
              refine hck.mono ?_
              rintro e w1 ⟨rfl, hb1⟩
              have hB1 := HB.out.trans (hb1.mono HB.out.size)
              have X1 := HX.out.below hb1 (Nat.le_refl _)
              have c0 := X1.c0; have c1 := X1.c1; have c2 := X1.c2; have c3 := X1.c3
              clear hck
              go_wp2
              go_ret
              exact ⟨retBo (by first | (rw [HR.out]; done) | (rw [HR.out]; first | rfl | (simp; done) | (simp; omega) | (rw [Bool.eq_iff_iff]; simp; done) | (rw [Bool.eq_iff_iff]; simp; omega))), hB1⟩
            · have hn0q : decide ((nl : Int) = 0) = false := decide_eq_false hn0
              have hn0b : ((nl : Int) == 0) = false := by simpa using hn0
              go_enter Tryd.func23, Tryd.ntmps23
              go_wp2_with fail
              refine hck.mono ?_
              rintro e w1 ⟨rfl, hb1⟩
              have hB1 := HB.out.trans (hb1.mono HB.out.size)
              have X1 := HX.out.below hb1 (Nat.le_refl _)
              have c0 := X1.c0; have c1 := X1.c1; have c2 := X1.c2; have c3 := X1.c3
              clear hck
              go_wp2
              go_ret
              exact ⟨retBo (by first | (rw [HR.out]; done) | (rw [HR.out]; first | rfl | (simp; done) | (simp; omega) | (rw [Bool.eq_iff_iff]; simp; done) | (rw [Bool.eq_iff_iff]; simp; omega))), hB1⟩
          · have hs0q : decide (s = 0) = false := decide_eq_false hsz
            have hs0b : (s == 0) = false := by simpa using hsz
            by_cases hn0 : (nl : Int) = 0
            · go_enter Tryd.func23, Tryd.ntmps23
              go_wp2_with fail
              refine hck.mono ?_
              rintro e w1 ⟨rfl, hb1⟩
              have hB1 := HB.out.trans (hb1.mono HB.out.size)
              have X1 := HX.out.below hb1 (Nat.le_refl _)
              have c0 := X1.c0; have c1 := X1.c1; have c2 := X1.c2; have c3 := X1.c3
              clear hck
              go_wp2
              go_ret
              exact ⟨retBo (by first | (rw [HR.out]; done) | (rw [HR.out]; first | rfl | (simp; done) | (simp; omega) | (rw [Bool.eq_iff_iff]; simp; done) | (rw [Bool.eq_iff_iff]; simp; omega))), hB1⟩
            · have hn0q : decide ((nl : Int) = 0) = false := decide_eq_false hn0
              have hn0b : ((nl : Int) == 0) = false := by simpa using hn0
              go_enter Tryd.func23, Tryd.ntmps23
              go_wp2_with fail
              refine hck.mono ?_
              rintro e w1 ⟨rfl, hb1⟩
              have hB1 := HB.out.trans (hb1.mono HB.out.size)
              have X1 := HX.out.below hb1 (Nat.le_refl _)
              have c0 := X1.c0; have c1 := X1.c1; have c2 := X1.c2; have c3 := X1.c3
              clear hck
              go_wp2
              go_ret
              exact ⟨retBo (by first | (rw [HR.out]; done) | (rw [HR.out]; first | rfl | (simp; done) | (simp; omega) | (rw [Bool.eq_iff_iff]; simp; done) | (rw [Bool.eq_iff_iff]; simp; omega))), hB1⟩
        · skip
          by_cases hsz : s = 0
          · subst hsz
            by_cases hn0 : (nl : Int) = 0
            · by_cases ho0 : (ol : Int) = 0
              · go_enter Tryd.func23, Tryd.ntmps23
                go_wp2_with fail
                refine hck.mono ?_
                rintro e w1 ⟨rfl, hb1⟩
                have hB1 := HB.out.trans (hb1.mono HB.out.size)
                have X1 := HX.out.below hb1 (Nat.le_refl _)
                have c0 := X1.c0; have c1 := X1.c1; have c2 := X1.c2; have c3 := X1.c3
                clear hck
                go_wp2
                go_ret
                exact ⟨retBo (by first | (rw [HR.out]; done) | (rw [HR.out]; first | rfl | (simp; done) | (simp; omega) | (rw [Bool.eq_iff_iff]; simp; done) | (rw [Bool.eq_iff_iff]; simp; omega))), hB1⟩
              · have ho0q : decide ((ol : Int) = 0) = false := decide_eq_false ho0
                have ho0b : ((ol : Int) == 0) = false := by simpa using ho0
                go_enter Tryd.func23, Tryd.ntmps23
                go_wp2_with fail
                refine hck.mono ?_
                rintro e w1 ⟨rfl, hb1⟩
                have hB1 := HB.out.trans (hb1.mono HB.out.size)
                have X1 := HX.out.below hb1 (Nat.le_refl _)
                have c0 := X1.c0; have c1 := X1.c1; have c2 := X1.c2; have c3 := X1.c3
                clear hck
                go_wp2
                go_ret
                exact ⟨retBo (by first | (rw [HR.out]; done) | (rw [HR.out]; first | rfl | (simp; done) | (simp; omega) | (rw [Bool.eq_iff_iff]; simp; done) | (rw [Bool.eq_iff_iff]; simp; omega))), hB1⟩
            · have hn0q : decide ((nl : Int) = 0) = false := decide_eq_false hn0
              have hn0b : ((nl : Int) == 0) = false := by simpa using hn0
              by_cases ho0 : (ol : Int) = 0
              · go_enter Tryd.func23, Tryd.ntmps23
                go_wp2_with fail
                refine hck.mono ?_
                rintro e w1 ⟨rfl, hb1⟩
                have hB1 := HB.out.trans (hb1.mono HB.out.size)
                have X1 := HX.out.below hb1 (Nat.le_refl _)
                have c0 := X1.c0; have c1 := X1.c1; have c2 := X1.c2; have c3 := X1.c3
                clear hck
                go_wp2
                go_ret
                exact ⟨retBo (by first | (rw [HR.out]; done) | (rw [HR.out]; first | rfl | (simp; done) | (simp; omega) | (rw [Bool.eq_iff_iff]; simp; done) | (rw [Bool.eq_iff_iff]; simp; omega))), hB1⟩
              · have ho0q : decide ((ol : Int) = 0) = false := decide_eq_false ho0
                have ho0b : ((ol : Int) == 0) = false := by simpa using ho0
                go_enter Tryd.func23, Tryd.ntmps23
                go_wp2_with fail
                refine hck.mono ?_
                rintro e w1 ⟨rfl, hb1⟩
                have hB1 := HB.out.trans (hb1.mono HB.out.size)
                have X1 := HX.out.below hb1 (Nat.le_refl _)
                have c0 := X1.c0; have c1 := X1.c1; have c2 := X1.c2; have c3 := X1.c3
                clear hck
                go_wp2
                go_ret
                exact ⟨retBo (by first | (rw [HR.out]; done) | (rw [HR.out]; first | rfl | (simp; done) | (simp; omega) | (rw [Bool.eq_iff_iff]; simp; done) | (rw [Bool.eq_iff_iff]; simp; omega))), hB1⟩
          · have hs0q : decide (s = 0) = false := decide_eq_false hsz
            have hs0b : (s == 0) = false := by simpa using hsz
            by_cases hn0 : (nl : Int) = 0
            · by_cases ho0 : (ol : Int) = 0
              · go_enter Tryd.func23, Tryd.ntmps23
                go_wp2_with fail
                refine hck.mono ?_
                rintro e w1 ⟨rfl, hb1⟩
                have hB1 := HB.out.trans (hb1.mono HB.out.size)
                have X1 := HX.out.below hb1 (Nat.le_refl _)
                have c0 := X1.c0; have c1 := X1.c1; have c2 := X1.c2; have c3 := X1.c3
                clear hck
                go_wp2
                go_ret
                exact ⟨retBo (by first | (rw [HR.out]; done) | (rw [HR.out]; first | rfl | (simp; done) | (simp; omega) | (rw [Bool.eq_iff_iff]; simp; done) | (rw [Bool.eq_iff_iff]; simp; omega))), hB1⟩
              · have ho0q : decide ((ol : Int) = 0) = false := decide_eq_false ho0
                have ho0b : ((ol : Int) == 0) = false := by simpa using ho0
                go_enter Tryd.func23, Tryd.ntmps23
                go_wp2_with fail
                refine hck.mono ?_
                rintro e w1 ⟨rfl, hb1⟩
                have hB1 := HB.out.trans (hb1.mono HB.out.size)
                have X1 := HX.out.below hb1 (Nat.le_refl _)
                have c0 := X1.c0; have c1 := X1.c1; have c2 := X1.c2; have c3 := X1.c3
                clear hck
                go_wp2
                go_ret
                exact ⟨retBo (by first | (rw [HR.out]; done) | (rw [HR.out]; first | rfl | (simp; done) | (simp; omega) | (rw [Bool.eq_iff_iff]; simp; done) | (rw [Bool.eq_iff_iff]; simp; omega))), hB1⟩
            · have hn0q : decide ((nl : Int) = 0) = false := decide_eq_false hn0
              have hn0b : ((nl : Int) == 0) = false := by simpa using hn0
              by_cases ho0 : (ol : Int) = 0
              · go_enter Tryd.func23, Tryd.ntmps23
                go_wp2_with fail
                refine hck.mono ?_
                rintro e w1 ⟨rfl, hb1⟩
                have hB1 := HB.out.trans (hb1.mono HB.out.size)
                have X1 := HX.out.below hb1 (Nat.le_refl _)
                have c0 := X1.c0; have c1 := X1.c1; have c2 := X1.c2; have c3 := X1.c3
                clear hck
                go_wp2
                go_ret
                exact ⟨retBo (by first | (rw [HR.out]; done) | (rw [HR.out]; first | rfl | (simp; done) | (simp; omega) | (rw [Bool.eq_iff_iff]; simp; done) | (rw [Bool.eq_iff_iff]; simp; omega))), hB1⟩
              · have ho0q : decide ((ol : Int) = 0) = false := decide_eq_false ho0
                have ho0b : ((ol : Int) == 0) = false := by simpa using ho0
                go_enter Tryd.func23, Tryd.ntmps23
                go_wp2_with fail
                refine hck.mono ?_
                rintro e w1 ⟨rfl, hb1⟩
                have hB1 := HB.out.trans (hb1.mono HB.out.size)
                have X1 := HX.out.below hb1 (Nat.le_refl _)
                have c0 := X1.c0; have c1 := X1.c1; have c2 := X1.c2; have c3 := X1.c3
                clear hck
                go_wp2
                go_ret
                exact ⟨retBo (by first | (rw [HR.out]; done) | (rw [HR.out]; first | rfl | (simp; done) | (simp; omega) | (rw [Bool.eq_iff_iff]; simp; done) | (rw [Bool.eq_iff_iff]; simp; omega))), hB1⟩
        · skip
          by_cases hsz : s = 0
          · subst hsz
            by_cases hn0 : (nl : Int) = 0
            · by_cases ho0 : (ol : Int) = 0
              · go_enter Tryd.func23, Tryd.ntmps23
                go_wp2_with fail
                refine hck.mono ?_
                rintro e w1 ⟨rfl, hb1⟩
                have hB1 := HB.out.trans (hb1.mono HB.out.size)
                have X1 := HX.out.below hb1 (Nat.le_refl _)
                have c0 := X1.c0; have c1 := X1.c1; have c2 := X1.c2; have c3 := X1.c3
                clear hck
                go_wp2
                go_ret
                exact ⟨retBo (by first | (rw [HR.out]; done) | (rw [HR.out]; first | rfl | (simp; done) | (simp; omega) | (rw [Bool.eq_iff_iff]; simp; done) | (rw [Bool.eq_iff_iff]; simp; omega))), hB1⟩
              · have ho0q : decide ((ol : Int) = 0) = false := decide_eq_false ho0
                have ho0b : ((ol : Int) == 0) = false := by simpa using ho0
                go_enter Tryd.func23, Tryd.ntmps23
                go_wp2_with fail
                refine hck.mono ?_
                rintro e w1 ⟨rfl, hb1⟩
                have hB1 := HB.out.trans (hb1.mono HB.out.size)
                have X1 := HX.out.below hb1 (Nat.le_refl _)
                have c0 := X1.c0; have c1 := X1.c1; have c2 := X1.c2; have c3 := X1.c3
                clear hck
                go_wp2
                go_ret
                exact ⟨retBo (by first | (rw [HR.out]; done) | (rw [HR.out]; first | rfl | (simp; done) | (simp; omega) | (rw [Bool.eq_iff_iff]; simp; done) | (rw [Bool.eq_iff_iff]; simp; omega))), hB1⟩
            · have hn0q : decide ((nl : Int) = 0) = false := decide_eq_false hn0
              have hn0b : ((nl : Int) == 0) = false := by simpa using hn0
              by_cases ho0 : (ol : Int) = 0
              · go_enter Tryd.func23, Tryd.ntmps23
                go_wp2_with fail
                refine hck.mono ?_
                rintro e w1 ⟨rfl, hb1⟩
                have hB1 := HB.out.trans (hb1.mono HB.out.size)
                have X1 := HX.out.below hb1 (Nat.le_refl _)
                have c0 := X1.c0; have c1 := X1.c1; have c2 := X1.c2; have c3 := X1.c3
                clear hck
                go_wp2
                go_ret
                exact ⟨retBo (by first | (rw [HR.out]; done) | (rw [HR.out]; first | rfl | (simp; done) | (simp; omega) | (rw [Bool.eq_iff_iff]; simp; done) | (rw [Bool.eq_iff_iff]; simp; omega))), hB1⟩
              · have ho0q : decide ((ol : Int) = 0) = false := decide_eq_false ho0
                have ho0b : ((ol : Int) == 0) = false := by simpa using ho0
                go_enter Tryd.func23, Tryd.ntmps23
                go_wp2_with fail
                refine hck.mono ?_
                rintro e w1 ⟨rfl, hb1⟩
                have hB1 := HB.out.trans (hb1.mono HB.out.size)
                have X1 := HX.out.below hb1 (Nat.le_refl _)
                have c0 := X1.c0; have c1 := X1.c1; have c2 := X1.c2; have c3 := X1.c3
                clear hck
                go_wp2
                go_ret
                exact ⟨retBo (by first | (rw [HR.out]; done) | (rw [HR.out]; first | rfl | (simp; done) | (simp; omega) | (rw [Bool.eq_iff_iff]; simp; done) | (rw [Bool.eq_iff_iff]; simp; omega))), hB1⟩
          · have hs0q : decide (s = 0) = false := decide_eq_false hsz
            have hs0b : (s == 0) = false := by simpa using hsz
            by_cases hn0 : (nl : Int) = 0
            · by_cases ho0 : (ol : Int) = 0
              · go_enter Tryd.func23, Tryd.ntmps23
                go_wp2_with fail
                refine hck.mono ?_
                rintro e w1 ⟨rfl, hb1⟩
                have hB1 := HB.out.trans (hb1.mono HB.out.size)
                have X1 := HX.out.below hb1 (Nat.le_refl _)
                have c0 := X1.c0; have c1 := X1.c1; have c2 := X1.c2; have c3 := X1.c3
                clear hck
                go_wp2
                go_ret
                exact ⟨retBo (by first | (rw [HR.out]; done) | (rw [HR.out]; first | rfl | (simp; done) | (simp; omega) | (rw [Bool.eq_iff_iff]; simp; done) | (rw [Bool.eq_iff_iff]; simp; omega))), hB1⟩
              · have ho0q : decide ((ol : Int) = 0) = false := decide_eq_false ho0
                have ho0b : ((ol : Int) == 0) = false := by simpa using ho0
                go_enter Tryd.func23, Tryd.ntmps23
                go_wp2_with fail
                refine hck.mono ?_
                rintro e w1 ⟨rfl, hb1⟩
                have hB1 := HB.out.trans (hb1.mono HB.out.size)
                have X1 := HX.out.below hb1 (Nat.le_refl _)
                have c0 := X1.c0; have c1 := X1.c1; have c2 := X1.c2; have c3 := X1.c3
                clear hck
                go_wp2
                go_ret
                exact ⟨retBo (by first | (rw [HR.out]; done) | (rw [HR.out]; first | rfl | (simp; done) | (simp; omega) | (rw [Bool.eq_iff_iff]; simp; done) | (rw [Bool.eq_iff_iff]; simp; omega))), hB1⟩
            · have hn0q : decide ((nl : Int) = 0) = false := decide_eq_false hn0
              have hn0b : ((nl : Int) == 0) = false := by simpa using hn0
              by_cases ho0 : (ol : Int) = 0
              · go_enter Tryd.func23, Tryd.ntmps23
                go_wp2_with fail
                refine hck.mono ?_
                rintro e w1 ⟨rfl, hb1⟩
                have hB1 := HB.out.trans (hb1.mono HB.out.size)
                have X1 := HX.out.below hb1 (Nat.le_refl _)
                have c0 := X1.c0; have c1 := X1.c1; have c2 := X1.c2; have c3 := X1.c3
                clear hck
                go_wp2
                go_ret
                exact ⟨retBo (by first | (rw [HR.out]; done) | (rw [HR.out]; first | rfl | (simp; done) | (simp; omega) | (rw [Bool.eq_iff_iff]; simp; done) | (rw [Bool.eq_iff_iff]; simp; omega))), hB1⟩
              · have ho0q : decide ((ol : Int) = 0) = false := decide_eq_false ho0
                have ho0b : ((ol : Int) == 0) = false := by simpa using ho0
                go_enter Tryd.func23, Tryd.ntmps23
                go_wp2_with fail
                refine hck.mono ?_
                rintro e w1 ⟨rfl, hb1⟩
                have hB1 := HB.out.trans (hb1.mono HB.out.size)
                have X1 := HX.out.below hb1 (Nat.le_refl _)
                have c0 := X1.c0; have c1 := X1.c1; have c2 := X1.c2; have c3 := X1.c3
                clear hck
                go_wp2
                go_ret
                exact ⟨retBo (by first | (rw [HR.out]; done) | (rw [HR.out]; first | rfl | (simp; done) | (simp; omega) | (rw [Bool.eq_iff_iff]; simp; done) | (rw [Bool.eq_iff_iff]; simp; omega))), hB1⟩
        · skip
          have g1 : (k == 1) = false := by simpa using h1
          have g2 : (k == 2) = false := by simpa using h2
          have g3 : (k == 3) = false := by simpa using h3
          have g4 : (k == 4) = false := by simpa using h4
          go_enter Tryd.func23, Tryd.ntmps23
          go_wp2_with fail
          refine hck.mono ?_
          rintro e w1 ⟨rfl, hb1⟩
          have hB1 := HB.out.trans (hb1.mono HB.out.size)
          have X1 := HX.out.below hb1 (Nat.le_refl _)
          have c0 := X1.c0; have c1 := X1.c1; have c2 := X1.c2; have c3 := X1.c3
          clear hck
          go_wp2
          go_ret
          exact ⟨retBo (by first | (rw [HR.out]; done) | (rw [HR.out]; first | rfl | (simp; done) | (simp; omega) | (rw [Bool.eq_iff_iff]; simp; done) | (rw [Bool.eq_iff_iff]; simp; omega))), hB1⟩
  · have HR : Hid (rb = false) := by show _ = _; rw [← hrb]; simp [hc0]
    have hcq : (c == 0) = false := by simpa using hc0
    clear hrb
    go_enter Tryd.func23, Tryd.ntmps23
    go_wp2_with fail
    refine hck.mono ?_
    rintro e w1 ⟨rfl, hb1⟩
    have hB1 := HB.out.trans (hb1.mono HB.out.size)
    have X1 := HX.out.below hb1 (Nat.le_refl _)
    have c0 := X1.c0; have c1 := X1.c1; have c2 := X1.c2; have c3 := X1.c3
    clear hck
    go_wp2
    go_ret
    exact ⟨retBo (by first | (rw [HR.out]; done) | (rw [HR.out]; first | rfl | (simp; done) | (simp; omega) | (rw [Bool.eq_iff_iff]; simp; done) | (rw [Bool.eq_iff_iff]; simp; omega))), hB1⟩

end Go.Proofs.YtmgofohaoppajaaDoor

/- bartizanref07.Bytes: where the entry is not right. -/
namespace Go.Proofs.YtmgofohaoppajaaDoor
open Go.RowKit
set_option linter.unusedVariables false

set_option maxRecDepth 20000 in
set_option maxHeartbeats 2000000 in
theorem refbytes_wrong (w : World) (k s : Int) (na : Option Addr) (nl nc : Nat) (oa : Option Addr) (ol oc : Nat) (os : List OpB) (c : Int) (hs0 : 0 ≤ s) (ho : RdO w (.slice oa ol oc) os) (hc : chkL os = c) (hr : (decide (c = 0) && formB k s nl ol) = false) :
    Calls Tryd.prog 10 #[noteV k s na nl nc oa ol oc] w fun e w' => e = .returned (.tuple #[.slice none 0 0, .int .i64 4]) ∧ Below w.heap.size w w' := by
  have hb := below_box4 w (.cells #[.int .u8 k, .int .u64 s, .slice na nl nc, .slice oa ol oc] 36)
  have hri := rform_any (w.alloc (.cells #[.int .u8 k, .int .u64 s, .slice na nl nc, .slice oa ol oc] 36)) k s na nl nc oa ol oc os c hs0 (LsO.below ho hb (Nat.le_refl _)) hc
  rw [hr] at hri
  clear hr ho hc
  go_enter Tryd.func10, Tryd.ntmps10
  go_wp2_with fail
  refine hri.mono ?_
  rintro e w1 ⟨rfl, hb1⟩
  have hB1 := hb.trans (hb1.mono hb.size)
  go_wp2
  go_ret2
  exact ⟨rfl, hB1⟩

end Go.Proofs.YtmgofohaoppajaaDoor

/- bartizanref07.Bytes: where the entry is right. -/
namespace Go.Proofs.YtmgofohaoppajaaDoor
open Go.RowKit
set_option linter.unusedVariables false

set_option maxRecDepth 20000 in
set_option maxHeartbeats 4000000 in
theorem refbytes_ok (w : World) (k s : Nat) (na : Option Addr) (nl nc : Nat) (oa : Option Addr) (ol oc : Nat) (name : List UInt8) (os : List OpB) (hk : k < 256) (hs : s < 18446744073709551616) (hr : formB (k : Int) (s : Int) nl ol = true) (hn : Rd w (.slice na nl nc) name) (hnl : name.length ≤ 1000) (ho : RdO w (.slice oa ol oc) os) (hc : chkL os = 0) (hol : os.length ≤ 64) (hsz : sizeO os ≤ 1000000) :
    Calls Tryd.prog 10 #[noteV (k : Int) (s : Int) na nl nc oa ol oc] w fun e w' => ∃ x, e = .returned (.tuple #[x, .int .i64 0]) ∧ Own w.heap.size w' x (noteB k s name os) ∧ Below w.heap.size w w' := by
  obtain ⟨i0, hi, hz0, hz1, hz2⟩ := info_parts info5
  have hb := below_box4 w (.cells #[.int .u8 (k : Int), .int .u64 (s : Int), .slice na nl nc, .slice oa ol oc] 36)
  have bx := box4_new w (.int .u8 (k : Int)) (.int .u64 (s : Int)) (.slice na nl nc) (.slice oa ol oc) 36
  have hri := rform_any (w.alloc (.cells #[.int .u8 (k : Int), .int .u64 (s : Int), .slice na nl nc, .slice oa ol oc] 36)) (k : Int) (s : Int) na nl nc oa ol oc os 0 (by omega) (LsO.below ho hb (Nat.le_refl _)) hc
  rw [hr] at hri
  have HO : Hid (RdO w (.slice oa ol oc) os) := ho
  have HN : Hid (Rd w (.slice na nl nc) name) := hn
  have HC : Hid (chkL os = 0 ∧ os.length ≤ 64 ∧ sizeO os ≤ 1000000) := ⟨hc, hol, hsz⟩
  have HNL : Hid (name.length ≤ 1000) := hnl
  have HNK : Hid (∀ w', Calls Tryd.prog 25 #[.int .u64 (k : Int)] w' fun e w'' => ∃ v, e = .returned v ∧ Own w'.heap.size w'' v (Mth.numB k) ∧ Below w'.heap.size w' w'') := fun w' => refnum_any k w' (by omega)
  have HNS : Hid (∀ w', Calls Tryd.prog 25 #[.int .u64 (s : Int)] w' fun e w'' => ∃ v, e = .returned v ∧ Own w'.heap.size w'' v (Mth.numB s) ∧ Below w'.heap.size w' w'') := fun w' => refnum_any s w' hs
  obtain ⟨A, hA⟩ : ∃ A, Mth.numB k = A := ⟨_, rfl⟩
  obtain ⟨B, hB⟩ : ∃ B, Mth.numB s = B := ⟨_, rfl⟩
  obtain ⟨C, hC⟩ : ∃ C, textB name = C := ⟨_, rfl⟩
  obtain ⟨D, hD⟩ : ∃ D, batB os = D := ⟨_, rfl⟩
  have HLEN : Hid (A.length ≤ 9 ∧ B.length ≤ 9 ∧ C.length ≤ 2000 ∧ D.length ≤ 2000000 ∧ 0 < B.length ∧ 0 < C.length ∧ 0 < D.length) := by
    refine ⟨?_, ?_, ?_, ?_, ?_, ?_, ?_⟩
    · rw [← hA, Mth.numB_length]; exact (Mth.numL_bd k).2
    · rw [← hB, Mth.numB_length]; exact (Mth.numL_bd s).2
    · rw [← hC]; unfold textB; rw [List.length_append, Mth.numB_length]; have := (Mth.numL_bd name.length).2; omega
    · rw [← hD]; unfold batB; have h1 := parts_len os.length os; have := hol; have := hsz; omega
    · rw [← hB, Mth.numB_length]; exact (Mth.numL_bd s).1
    · rw [← hC]; exact textB_pos name
    · rw [← hD]; unfold batB partsO; rw [List.flatten_cons, List.length_append, Mth.numB_length]; have := (Mth.numL_bd os.length).1; omega
  have HFL : Hid (A ++ B ++ C ++ D = noteB k s name os) := by
    show _ = _; unfold noteB; rw [hA, hB, hC, hD]; simp
  obtain ⟨NB, hNB⟩ : ∃ NB, noteB k s name os = NB := ⟨_, rfl⟩
  rw [hNB] at HFL ⊢
  rw [hA] at HNK
  rw [hB] at HNS
  have HCD : Hid (textB name = C ∧ batB os = D) := ⟨hC, hD⟩
  clear hr hc ho hn hnl hol hsz hs hA hB hC hD hNB
  have hkI : (k : Int) ≤ 255 := by omega
  have hkI0 : (0 : Int) ≤ (k : Int) := by omega
  have HKU : Hid (IntKind.u64.wrap (k : Int) = (k : Int)) := by show _ = _; rw [IntKind.wrap_u64]; omega
  clear hk
  go_enter Tryd.func10, Tryd.ntmps10
  go_wp2_with fail
  refine hri.mono ?_
  rintro e w1 ⟨rfl, hb1⟩
  have HB1 : Hid (Below w.heap.size w w1) := hb.trans (hb1.mono hb.size)
  have bx1 := bx.below hb1 (Nat.le_refl _)
  have c3 := bx1.c3
  have hby := rbytes_ok w1 _ os (HO.out.below HB1.out (Nat.le_refl _)) HC.out.1 HC.out.2.1 HC.out.2.2
  rw [HCD.out.2] at hby
  clear hb1 hb bx hri
  go_wp2_with fail
  refine hby.mono ?_
  rintro e w2 ⟨xd, rfl, od, hb2⟩
  obtain ⟨gd, kd, rfl⟩ := od.shape
  have HB2 : Hid (Below w.heap.size w w2) := HB1.out.trans (hb2.mono HB1.out.size)
  have bx2 := bx1.below hb2 (Nat.le_refl _)
  have HOD : Hid (Own w1.heap.size w2 (.slice (some ⟨gd, 0, none⟩) D.length kd) D) := od
  have S0 : w2.cell? ⟨w.heap.size, 0, none⟩ = some (.int .u8 (k : Int)) ∧ w2.cell? ⟨w.heap.size, 1, none⟩ = some (.int .u64 (s : Int)) ∧ w2.cell? ⟨w.heap.size, 2, none⟩ = some (.slice na nl nc) := ⟨bx2.c0, bx2.c1, bx2.c2⟩
  have HX2 : Hid (Box4 w2 w.heap.size (.int .u8 (k : Int)) (.int .u64 (s : Int)) (.slice na nl nc) (.slice oa ol oc)) := bx2
  have hn2 := HN.out.below HB2.out (Nat.le_refl _)
  have HN2 : Hid (Rd w2 (.slice na nl nc) name) := hn2
  have hk1 := HNK.out
  have hs1 := HNS.out
  clear c3 hby hb2 od bx1 bx2 hn2
  go_wp2_with fail
  have hku := HKU.out
  go_region_held3 (fun w' => w'.cell? ⟨w.heap.size, 0, none⟩ = some (.int .u8 (k : Int)) ∧ w'.cell? ⟨w.heap.size, 1, none⟩ = some (.int .u64 (s : Int)) ∧ w'.cell? ⟨w.heap.size, 2, none⟩ = some (.slice na nl nc))
    (first | with_reducible exact SP3 | with_reducible exact SP2 | with_reducible exact S3 | with_reducible exact SP1 | with_reducible exact S2 | with_reducible exact S1 | exact S0)
    (first
      | (go_at_call 25; refine (hk1 _).mono ?_; rintro e wa ⟨xa, rfl, oa', hba⟩; obtain ⟨ga, ka, rfl⟩ := oa'.shape; have BA : Below w2.heap.size w2 wa := (Below.refl w2.heap.size w2).drew.trans hba; have XA := HX2.out.below BA (Nat.le_refl _); have S1 := And.intro XA.c0 (And.intro XA.c1 XA.c2); clear hba hk1)
      | (go_at_call 25; refine (hs1 _).mono ?_; rintro e wb ⟨xb, rfl, ob', hbb⟩; obtain ⟨gb, kb, rfl⟩ := ob'.shape; have BB : Below w2.heap.size w2 wb := BA.trans (hbb.mono BA.size); have XB := HX2.out.below BB (Nat.le_refl _); have S2 := And.intro XB.c0 (And.intro XB.c1 XB.c2); have OA2 : Own w2.heap.size wb _ A := oa'.below hbb (Nat.le_refl _); clear oa' hbb hs1)
      | (have hrow := OA2.row; refine step_append_lies _ rfl (.tmp 18) (.tmp 21) 26 rfl w2.heap.size 5 i0 (.int .u8 0) 1 1 Tryd.underlying26 hi hz0 hz1 hz2 rfl (by decide) (.slice (some ⟨ga, 0, none⟩) A.length ka) (A.length) (bv A) rfl hrow ⟨gb, 0, none⟩ B.length kb (bv B) rfl (by rw [bv_length, Nat.mul_one]) (rd_cells ob'.rd).2 (bv_one _) HLEN.out.2.2.2.2.1 (by have := HLEN.out; simp only [maxLen]; omega) (by have := HLEN.out; omega) BB.size _ rfl ?_; intro g1 q1 wp1 hown1 hgrow1 hat1 hlt1; have OP1 : Own w2.heap.size wp1 (.slice (some ⟨g1, 0, none⟩) (A.length + B.length) q1) (A ++ B) := Own.of_row' (by simp only [List.length_append]; rfl) (by simp only [bv_append]; exact hown1) (by simp); have BP1 := BB.grown hgrow1 BB.size (fun k' e => (hrow.lt k' e).1); have XP1 := HX2.out.below BP1 (Nat.le_refl _); have SP1 := And.intro XP1.c0 (And.intro XP1.c1 XP1.c2))
      | (go_at_call 26; refine (rtext_any _ _ name (HN2.out.below BP1 (Nat.le_refl _)) (by have := HNL.out; omega)).mono ?_; rintro e wc ⟨xc, rfl, oc', hbc⟩; rw [HCD.out.1] at oc'; obtain ⟨gc, kc, rfl⟩ := oc'.shape; have BC : Below w2.heap.size w2 wc := BP1.trans (hbc.mono BP1.size); have XC := HX2.out.below BC (Nat.le_refl _); have S3 := And.intro XC.c0 (And.intro XC.c1 XC.c2); have OP1c := OP1.below hbc (Nat.le_refl _); clear hbc)
      | (have hrow := OP1c.row; simp only [List.length_append, bv_append] at hrow; refine step_append_lies _ rfl (.tmp 22) (.tmp 25) 26 rfl w2.heap.size 5 i0 (.int .u8 0) 1 1 Tryd.underlying26 hi hz0 hz1 hz2 rfl (by decide) (.slice (some ⟨g1, 0, none⟩) (A.length + B.length) q1) (A.length + B.length) (bv A ++ bv B) rfl hrow ⟨gc, 0, none⟩ C.length kc (bv C) rfl (by rw [bv_length, Nat.mul_one]) (rd_cells oc'.rd).2 (bv_one _) HLEN.out.2.2.2.2.2.1 (by have := HLEN.out; simp only [maxLen]; omega) (by have := HLEN.out; omega) BC.size _ rfl ?_; intro g2 q2 wp2 hown2 hgrow2 hat2 hlt2; have OP2 : Own w2.heap.size wp2 (.slice (some ⟨g2, 0, none⟩) (A.length + B.length + C.length) q2) (A ++ B ++ C) := Own.of_row' (by simp only [List.length_append]; rfl) (by simp only [bv_append]; exact hown2) (by simp); have BP2 := BC.grown hgrow2 BC.size (fun k' e => (hrow.lt k' e).1); have XP2 := HX2.out.below BP2 (Nat.le_refl _); have SP2 := And.intro XP2.c0 (And.intro XP2.c1 XP2.c2))
      | (have hrow := OP2.row; simp only [List.length_append, bv_append] at hrow; refine step_append_lies _ rfl (.tmp 26) (.tmp 27) 26 rfl w2.heap.size 5 i0 (.int .u8 0) 1 1 Tryd.underlying26 hi hz0 hz1 hz2 rfl (by decide) (.slice (some ⟨g2, 0, none⟩) (A.length + B.length + C.length) q2) (A.length + B.length + C.length) (bv A ++ bv B ++ bv C) rfl hrow ⟨gd, 0, none⟩ D.length kd (bv D) rfl (by rw [bv_length, Nat.mul_one]) (rd_cells (HOD.out.rd.below BP2 (Nat.le_refl _))).2 (bv_one _) HLEN.out.2.2.2.2.2.2 (by have := HLEN.out; simp only [maxLen]; omega) (by have := HLEN.out; omega) BP2.size _ rfl ?_; intro g3 q3 wp3 hown3 hgrow3 hat3 hlt3; have OP3 : Own w2.heap.size wp3 (.slice (some ⟨g3, 0, none⟩) (A.length + B.length + C.length + D.length) q3) (A ++ B ++ C ++ D) := Own.of_row' (by simp only [List.length_append]; rfl) (by simp only [bv_append]; exact hown3) (by simp); have BP3 := BP2.grown hgrow3 BP2.size (fun k' e => (hrow.lt k' e).1); have XP3 := HX2.out.below BP3 (Nat.le_refl _); have SP3 := And.intro XP3.c0 (And.intro XP3.c1 XP3.c2))
      | fail)
  all_goals
    have hBj := HB2.out.trans (BP3.mono HB2.out.size)
    have hoj := OP3.mono (C := w.heap.size) HB2.out.size
    rw [HFL.out] at hoj
    clear OP3
    go_wp2
    go_ret2
    exact ⟨_, rfl, hoj, hBj⟩

end Go.Proofs.YtmgofohaoppajaaDoor

/- bartizanref07.Few: entries in a row of one's own. -/
namespace Go.Proofs.YtmgofohaoppajaaDoor
set_option maxRecDepth 20000
open Go.RowKit
set_option linter.unusedVariables false

/-- the four cells of an entry that came in -/
def NtArg (w : World) (b o : Nat) (n : NtB) : Prop :=
  ∃ x y, w.cell? ⟨b, o, none⟩ = some (.int .u8 (n.1.toNat : Int)) ∧ w.cell? ⟨b, o + 1, none⟩ = some (.int .u64 (n.2.1 : Int)) ∧ w.cell? ⟨b, o + 2, none⟩ = some x ∧ w.cell? ⟨b, o + 3, none⟩ = some y ∧ Arg w x n.2.2.1 ∧ ArgO w y n.2.2.2

def ArgN (w : World) (v : Value) (ns : List NtB) : Prop :=
  ∃ ao cap, v = .slice ao ns.length cap ∧ ns.length ≤ cap ∧ cap ≤ maxLen ∧ ∀ j (h : j < ns.length), ∃ b off, ao = some ⟨b, off, none⟩ ∧ NtArg w b (off + j * 4) ns[j]

theorem NtArg.below {B : Nat} {w w' : World} {b o : Nat} {n : NtB} (h : NtArg w b o n) (hb : Below B w w') (hB : w.heap.size ≤ B) : NtArg w' b o n := by
  obtain ⟨x, y, c0, c1, c2, c3, rx, ry⟩ := h
  have hl : b < B := Nat.lt_of_lt_of_le (World.block_lt_of_cell? w _ c0) hB
  exact ⟨x, y, (hb.cell (p := ⟨b, o, none⟩) hl).trans c0, (hb.cell (p := ⟨b, o + 1, none⟩) hl).trans c1, (hb.cell (p := ⟨b, o + 2, none⟩) hl).trans c2, (hb.cell (p := ⟨b, o + 3, none⟩) hl).trans c3, rx.below hb hB, LsO.belowA ry hb hB⟩

theorem ArgN.below {B : Nat} {w w' : World} {v : Value} {ns : List NtB} (h : ArgN w v ns) (hb : Below B w w') (hB : w.heap.size ≤ B) : ArgN w' v ns := by
  obtain ⟨ao, cap, rfl, h1, h2, h3⟩ := h
  refine ⟨ao, cap, rfl, h1, h2, fun j hj => ?_⟩
  obtain ⟨b, off, e, h⟩ := h3 j hj
  exact ⟨b, off, e, h.below hb hB⟩

theorem RdN.arg {w : World} {v : Value} {ns : List NtB} (h : RdN w v ns) : ArgN w v ns := by
  obtain ⟨ao, cap, rfl, h1, h2, h3⟩ := h
  refine ⟨ao, cap, rfl, h1, h2, fun j hj => ?_⟩
  obtain ⟨b, off, e, x, y, c0, c1, c2, c3, rx, ry⟩ := h3 j hj
  exact ⟨b, off, e, x, y, c0, c1, c2, c3, rx.arg, LsO.arg ry⟩

/-- entries in a row of the call's own, and what they hold -/
def OwnNt (B : Nat) (w : World) (v : Value) (ns : List NtB) : Prop :=
  ∃ cs, w.ownsRow B 36 4 v ns.length cs ∧ ∀ j (h : j < ns.length), ∃ x y, cs[j * 4]? = some (.int .u8 (ns[j].1.toNat : Int)) ∧ cs[j * 4 + 1]? = some (.int .u64 (ns[j].2.1 : Int)) ∧ cs[j * 4 + 2]? = some x ∧ cs[j * 4 + 3]? = some y ∧ OwnN B w x ns[j].2.2.1 ∧ OwnO B w y ns[j].2.2.2

theorem OwnNt.nil (B : Nat) (w : World) : OwnNt B w (.slice none 0 0) [] := ⟨[], World.ownsRow_nil _ _ _ _, fun _ h => absurd h (Nat.not_lt_zero _)⟩

theorem OwnNt.below {B C : Nat} {w w' : World} {v : Value} {ns : List NtB} (h : OwnNt B w v ns) (hb : Below C w w') (hC : w.heap.size ≤ C) : OwnNt B w' v ns := by
  obtain ⟨cs, hr, hj⟩ := h
  have hb' : Below w.heap.size w w' := ⟨hb.os, hb.tape, hb.output, hb.size, fun i hi => hb.block i (Nat.lt_of_lt_of_le hi hC)⟩
  refine ⟨cs, row_below hr hb', fun j h => ?_⟩
  obtain ⟨x, y, c0, c1, c2, c3, ox, oy⟩ := hj j h
  exact ⟨x, y, c0, c1, c2, c3, ox.below hb hC, oy.below hb hC⟩

theorem OwnNt.drew {B : Nat} {w : World} {v : Value} {ns : List NtB} (h : OwnNt B w v ns) : OwnNt B w.drew v ns := h

theorem OwnNt.rd {B : Nat} {w : World} {v : Value} {ns : List NtB} (h : OwnNt B w v ns) : RdN w v ns := by
  obtain ⟨cs, hr, hj⟩ := h
  have hr2 := hr
  rcases hr.2 with ⟨e, hn⟩ | ⟨g, cap, cur, e, hb, hg, h1, h2, h3, h4⟩
  · exact ⟨none, 0, by rw [e, hn], by omega, Nat.zero_le _, fun j hj => by omega⟩
  · subst e
    refine ⟨_, cap, rfl, h1, h2, fun j h => ⟨g, 0, rfl, ?_⟩⟩
    obtain ⟨x, y, c0, c1, c2, c3, ox, oy⟩ := hj j h
    have hc := hr2.cells (g := g) rfl
    refine ⟨x, y, ?_, ?_, ?_, ?_, ox.rd, oy.rd⟩
    · have := hc _ _ c0; rwa [Addr.add_lit] at this
    · have := hc _ _ c1; rwa [Addr.add_lit] at this
    · have := hc _ _ c2; rwa [Addr.add_lit] at this
    · have := hc _ _ c3; rwa [Addr.add_lit] at this

theorem ownO_kept {w w' : World} {B B' n s : Nat} {e : TypeId} {v x : Value} {cs : List Value} {os : List OpB} (h : OwnO B' w x os) (he : e ≠ 72) (he5 : e ≠ 5) (hr : w.ownsRow B e s v n cs) (hg : w.grownBy w' v.ownBlock) : OwnO B' w' x os := by
  obtain ⟨ds, hd, hj⟩ := h
  refine ⟨ds, hd.kept hg (rows_ne he hr hd), fun j h => ?_⟩
  obtain ⟨x', y', c0, c1, c2, ox, oy⟩ := hj j h
  exact ⟨x', y', c0, c1, c2, ownN_kept ox he5 hr hg, ownN_kept oy he5 hr hg⟩

theorem own_pushN {B : Nat} {w w' : World} {v v' x y : Value} {ns : List NtB} {cs : List Value} (o : NtB) (hrow : w.ownsRow B 36 4 v ns.length cs)
    (hel : ∀ j (h : j < ns.length), ∃ x y, cs[j * 4]? = some (.int .u8 (ns[j].1.toNat : Int)) ∧ cs[j * 4 + 1]? = some (.int .u64 (ns[j].2.1 : Int)) ∧ cs[j * 4 + 2]? = some x ∧ cs[j * 4 + 3]? = some y ∧ OwnN B w x ns[j].2.2.1 ∧ OwnO B w y ns[j].2.2.2)
    (hx : OwnN B w x o.2.2.1) (hy : OwnO B w y o.2.2.2) (hn : w'.ownsRow B 36 4 v' (ns.length + 1) (cs ++ [.int .u8 (o.1.toNat : Int), .int .u64 (o.2.1 : Int), x, y])) (hg : w.grownBy w' v.ownBlock) : OwnNt B w' v' (ns ++ [o]) := by
  have hcl : cs.length = ns.length * 4 := hrow.1
  refine ⟨_, by rw [List.length_append]; exact hn, fun j h => ?_⟩
  by_cases hj : j < ns.length
  · obtain ⟨x', y', c0, c1, c2, c3, ox, oy⟩ := hel j hj
    refine ⟨x', y', ?_, ?_, ?_, ?_, ?_, ?_⟩
    · rw [List.getElem?_append_left (by omega), List.getElem_append_left hj]; exact c0
    · rw [List.getElem?_append_left (by omega), List.getElem_append_left hj]; exact c1
    · rw [List.getElem?_append_left (by omega)]; exact c2
    · rw [List.getElem?_append_left (by omega)]; exact c3
    · rw [List.getElem_append_left hj]; exact ownN_kept ox (by decide) hrow hg
    · rw [List.getElem_append_left hj]; exact ownO_kept oy (by decide) (by decide) hrow hg
  · have hje : j = ns.length := by rw [List.length_append] at h; simp at h; omega
    subst hje
    have e : (ns ++ [o])[ns.length]'h = o := by simp
    rw [e]
    refine ⟨x, y, ?_, ?_, ?_, ?_, ownN_kept hx (by decide) hrow hg, ownO_kept hy (by decide) (by decide) hrow hg⟩
    · rw [List.getElem?_append_right (by omega), show ns.length * 4 - cs.length = 0 by omega]; rfl
    · rw [List.getElem?_append_right (by omega), show ns.length * 4 + 1 - cs.length = 1 by omega]; rfl
    · rw [List.getElem?_append_right (by omega), show ns.length * 4 + 2 - cs.length = 2 by omega]; rfl
    · rw [List.getElem?_append_right (by omega), show ns.length * 4 + 3 - cs.length = 3 by omega]; rfl

theorem infoNote : (Tryd.prog.info? 36).map (fun i => (i.zero, i.size, i.bytes)) = some (some (.agg #[.int .u8 0, .int .u64 0, .slice none 0 0, .slice none 0 0]), 4, 64) := by kernel_rfl

/-- an entry, cut -/
def cutN (n : NtB) : NtB := (n.1, n.2.1, n.2.2.1.take 40, fewO 66 n.2.2.2)

def fewN (n : Nat) (ns : List NtB) : List NtB := (ns.take n).map cutN

theorem fewN_take {n : Nat} {ns : List NtB} {j : Nat} (h : j < ns.length) (hn : j < n) : fewN n (ns.take (j + 1)) = fewN n (ns.take j) ++ [cutN ns[j]] := by
  unfold fewN
  rw [List.take_take, List.take_take, Nat.min_eq_right (by omega), Nat.min_eq_right (by omega), List.take_succ_eq_append_getElem h, List.map_append]
  rfl

theorem fewN_stay {n : Nat} {ns : List NtB} {j : Nat} (hn : ¬ j < n) : fewN n (ns.take (j + 1)) = fewN n (ns.take j) := by
  unfold fewN
  rw [List.take_take, List.take_take, Nat.min_eq_left (by omega), Nat.min_eq_left (by omega)]

end Go.Proofs.YtmgofohaoppajaaDoor

/- bartizanref07.Few. -/
namespace Go.Proofs.YtmgofohaoppajaaDoor
open Go.RowKit
set_option linter.unusedVariables false

theorem ownO_mono {B C : Nat} {w : World} {v : Value} {os : List OpB} (h : OwnO B w v os) (hC : C ≤ B) : OwnO C w v os := h.mono hC

theorem argO_shape {w : World} {v : Value} {os : List OpB} (h : ArgO w v os) : ∃ a c, v = .slice a os.length c := by
  obtain ⟨ao, cap, e, _⟩ := h
  exact ⟨ao, cap, e⟩

theorem ownO_shape {B : Nat} {w : World} {v : Value} {os : List OpB} (h : OwnO B w v os) : ∃ a c, v = .slice a os.length c := by
  obtain ⟨ao, cap, e, _⟩ := h.rd
  exact ⟨ao, cap, e⟩

set_option maxRecDepth 20000 in
set_option maxHeartbeats 4000000 in
theorem fewnt_any (w : World) (v : Value) (ns : List NtB) (n : Nat) (hv : ArgN w v ns) (hn : n ≤ 1000) :
    Calls Tryd.prog 7 #[v, .int .i64 (n : Int)] w fun e w' => ∃ x, e = .returned x ∧ OwnNt w.heap.size w' x (fewN n ns) ∧ Below w.heap.size w w' := by
  obtain ⟨i0, hi, hz0, hz1, hz2⟩ := info_parts infoNote
  have hv0 := hv
  obtain ⟨ao, cap, rfl, h1, h2, h3⟩ := hv
  unfold maxLen at h2
  have H3 : Hid _ := hv0
  obtain ⟨N, hN⟩ : ∃ N, ns.length = N := ⟨_, rfl⟩
  rw [hN] at h1 ⊢
  have HN : Hid (ns.length = N) := hN
  clear hv0 h3 hN
  go_enter Tryd.func7, Tryd.ntmps7
  go_wp2_with fail
  go_loopg [5, 10] N (fun gk pv iv wr => ∃ j n' c' : Nat, ∃ a' : Option Addr, gk + j = N ∧ iv = .int .i64 (j : Int) ∧ pv = .slice a' n' c' ∧ Hid (OwnNt w.heap.size wr pv (fewN n (ns.take j))) ∧ Hid (Below w.heap.size w wr))
  case atStart => exact ⟨0, 0, 0, none, by omega, rfl, rfl, by show OwnNt _ _ _ _; rw [List.take_zero, show fewN n [] = [] by simp [fewN]]; exact OwnNt.nil _ _, Below.refl _ _⟩
  case round =>
    obtain ⟨j, n', c', a', hj, rfl, rfl, HO, HB⟩ := hrel
    by_cases hlt : j < N
    · have hlt2 : j < ns.length := by rw [HN.out]; exact hlt
      obtain ⟨_, _, e, _, _, h3⟩ := ArgN.below (show ArgN w _ ns from H3.out) HB.out (Nat.le_refl _)
      cases e
      obtain ⟨b, off, rfl, xv, yv, c0, c1, c2, c3, rx, ry⟩ := h3 j hlt2
      obtain ⟨x1, x2, ex⟩ := Arg.shape rx
      obtain ⟨y1, y2, ey⟩ := argO_shape ry
      subst ex ey
      obtain ⟨⟨ok, osq, ol, oo⟩, ho⟩ : ∃ o, ns[j] = o := ⟨_, rfl⟩
      rw [ho] at c0 c1 c2 c3 rx ry
      obtain ⟨q1, q2⟩ : gk - 1 < gk ∧ gk - 1 + (j + 1) = N := by omega
      have hnl : n' = min n j := by
        obtain ⟨cs, hrow, _⟩ := HO.out
        have hl : (fewN n (ns.take j)).length = min n j := by unfold fewN; rw [List.length_map, List.length_take, List.length_take, Nat.min_eq_left (show j ≤ ns.length by omega)]
        rcases hrow.2 with ⟨e, e2⟩ | ⟨g, cap', cur, e, _⟩
        · cases e; omega
        · cases e; exact hl
      have htl : (fewN n (ns.take j)).length = n' := by unfold fewN; rw [List.length_map, List.length_take, List.length_take, Nat.min_eq_left (show j ≤ ns.length by omega)]; exact hnl.symm
      have HTL : Hid _ := htl
      have HNB : Hid (n' ≤ 1000) := by show _ ≤ _; omega
      have hkI := ok.toNat_lt
      obtain ⟨kk, hkk⟩ : ∃ kk, ok.toNat = kk := ⟨_, rfl⟩
      have HKK : Hid (ok.toNat = kk) := hkk
      simp only at c0 c1 c2 c3 rx ry
      rw [hkk] at c0
      obtain ⟨nl, hnlq⟩ : ∃ nl, ol.length = nl := ⟨_, rfl⟩
      obtain ⟨oln, holn⟩ : ∃ oln, oo.length = oln := ⟨_, rfl⟩
      rw [hnlq] at rx c2
      rw [holn] at ry c3
      have HRX : Hid (Arg wr (.slice x1 nl x2) ol) := rx
      have HRY : Hid (ArgO wr (.slice y1 oln y2) oo) := ry
      clear htl hkk hkI rx ry h3 hnlq holn hnl
      by_cases hjn : j < n
      · have hjI : (j : Int) < (n : Int) := by omega
        obtain ⟨ck, HCK⟩ : ∃ ck, Hid (ol.take 40 = ck) := ⟨_, rfl⟩
        obtain ⟨co, HCO⟩ : ∃ co, Hid (fewO 66 oo = co) := ⟨_, rfl⟩
        have HR : Hid (fewN n (ns.take (j + 1)) = fewN n (ns.take j) ++ [(ok, osq, ck, co)]) := by show _ = _; rw [fewN_take hlt2 hjn, ho]; unfold cutN; rw [← HCK.out, ← HCO.out]
        have hb0 := below_box4 wr (.cells #[.int .u8 (kk : Int), .int .u64 (osq : Int), .slice x1 nl x2, .slice y1 oln y2] 36)
        have bx := (box4_new wr (.int .u8 (kk : Int)) (.int .u64 (osq : Int)) (.slice x1 nl x2) (.slice y1 oln y2) 36).drew
        have rx0 := arg_drew (HRX.out.below hb0 (Nat.le_refl _))
        have ry0 := LsO.drewA (LsO.belowA HRY.out hb0 (Nat.le_refl _))
        have HO0 : Hid (OwnNt w.heap.size (wr.alloc (.cells #[.int .u8 (kk : Int), .int .u64 (osq : Int), .slice x1 nl x2, .slice y1 oln y2] 36)).drew (.slice a' n' c') (fewN n (ns.take j))) := (HO.out.below hb0 (Nat.le_refl _)).drew
        have HB0 : Hid (Below w.heap.size w (wr.alloc (.cells #[.int .u8 (kk : Int), .int .u64 (osq : Int), .slice x1 nl x2, .slice y1 oln y2] 36)).drew) := (HB.out.alloc HB.out.size _).drew
        have HNE : Hid (some wr.heap.size ≠ (Value.slice a' n' c').ownBlock) := by
          obtain ⟨cs, hrow, _⟩ := HO.out
          intro e
          have := (hrow.lt _ e.symm).2
          omega
        clear ho hb0
        go_wp2_with fail
        go_region_held3 (fun w' => w'.cell? ⟨wr.heap.size, 0, none⟩ = some (.int .u8 (kk : Int)) ∧ w'.cell? ⟨wr.heap.size, 1, none⟩ = some (.int .u64 (osq : Int)) ∧ w'.cell? ⟨wr.heap.size, 2, none⟩ = some (.slice x1 nl x2) ∧ w'.cell? ⟨wr.heap.size, 3, none⟩ = some (.slice y1 oln y2))
          (first | exact ⟨b4.c0, b4.c1, b4.c2, b4.c3⟩ | exact ⟨be.c0, be.c1, be.c2, be.c3⟩ | exact ⟨by2.c0, by2.c1, by2.c2, by2.c3⟩ | exact ⟨bx2.c0, bx2.c1, bx2.c2, bx2.c3⟩ | exact ⟨bx.c0, bx.c1, bx.c2, bx.c3⟩)
          (first
            | (go_at_call 17; refine (cut_any _ _ ol 40 rx0 (by omega)).mono ?_; rintro e wx ⟨x, rfl, ox, hbx⟩; rw [HCK.out] at ox; obtain ⟨gx, kx, hx⟩ := ox.shape; subst hx; have bx2 := bx.below hbx (Nat.le_refl _))
            | (go_at_call 21; refine (fewop_any _ _ oo 66 (LsO.belowA ry0 hbx (Nat.le_refl _)) (by omega)).mono ?_; rintro e wy ⟨y, rfl, oy, hby⟩; rw [HCO.out] at oy; obtain ⟨ya, yc, hy⟩ := ownO_shape oy; subst hy; have by2 := bx2.below hby (Nat.le_refl _); have be := by2.alloc (.cells #[.int .u8 (kk : Int), .int .u64 (osq : Int), .slice (some ⟨gx, 0, none⟩) ck.length kx, .slice ya co.length yc] 36))
            | (have hbe := below_box4 wy (.cells #[.int .u8 (kk : Int), .int .u64 (osq : Int), .slice (some ⟨gx, 0, none⟩) ck.length kx, .slice ya co.length yc] 36)
               have hOe := ((HO0.out.below hbx (Nat.le_refl _)).below hby (Nat.le_refl _)).below hbe (Nat.le_refl _)
               have hBx := HB0.out.trans (hbx.mono HB0.out.size)
               have hBy := hBx.trans (hby.mono hBx.size)
               have hBe := hBy.trans (hbe.mono hBy.size)
               have oxe := ((ox.below hby (Nat.le_refl _)).below hbe (Nat.le_refl _)).mono (C := w.heap.size) HB0.out.size
               have oye := (oy.below hbe (Nat.le_refl _)).mono (C := w.heap.size) hBx.size
               obtain ⟨cs, hrow, hel⟩ := hOe
               have hsz : w.heap.size ≤ wy.heap.size := hBy.size
               have hnb9 := HNB.out
               have htl9 := HTL.out
               refine step_append_lies _ rfl (.tmp 18) (.tmp 30) 22 rfl w.heap.size 36 i0 (.agg #[.int .u8 0, .int .u64 0, .slice none 0 0, .slice none 0 0]) 4 64 Tryd.underlying22 hi hz0 hz1 hz2 rfl (by decide) (.slice a' n' c') (fewN n (ns.take j)).length cs rfl hrow ⟨wy.heap.size, 0, none⟩ 1 1 [.int .u8 (kk : Int), .int .u64 (osq : Int), .slice (some ⟨gx, 0, none⟩) ck.length kx, .slice ya co.length yc] rfl rfl (laid4 _ _ _ _ _ _) (one4 _ _ _ _ _ _ _ _) (by decide) (by simp only [maxLen]; omega) (by omega) hBe.size _ rfl ?_
               intro g4 c4 w4 hown hgrow hat hlt4
               have b4 := be.grown hgrow HNE.out
               have hown' := hown
               rw [← HKK.out] at hown'
               have hpush := own_pushN (ok, osq, ck, co) hrow hel (.inr oxe) oye hown' hgrow
               rw [HTL.out] at hpush
               have HP : Hid (OwnNt w.heap.size w4 (.slice (some ⟨g4, 0, none⟩) (n' + 1) c4) (fewN n (ns.take j) ++ [(ok, osq, ck, co)])) := hpush
               have HB4 : Hid (Below w.heap.size w w4) := hBe.grown hgrow hBe.size (fun k' e => (hrow.lt k' e).1))
            | fail)
        all_goals
          clear bx rx0 ry0
          go_wp2_with fail
          go_roundg (gk - 1)
          case measure => exact q1
          case rel => exact ⟨j + 1, _, c4, _, q2, by go_num, rfl, by show OwnNt _ _ _ _; rw [HR.out]; exact HP.out, HB4⟩
      · have hjI : ¬ (j : Int) < (n : Int) := by omega
        have HST : Hid (fewN n (ns.take (j + 1)) = fewN n (ns.take j)) := fewN_stay hjn
        have hb0 := below_box4 wr (.cells #[.int .u8 (kk : Int), .int .u64 (osq : Int), .slice x1 nl x2, .slice y1 oln y2] 36)
        have HO9 : Hid _ := HO.out.below hb0 (Nat.le_refl _)
        have HB9 : Hid _ := HB.out.alloc HB.out.size (.cells #[.int .u8 (kk : Int), .int .u64 (osq : Int), .slice x1 nl x2, .slice y1 oln y2] 36)
        clear ho hb0
        go_wp2_with fail
        go_roundg (gk - 1)
        case measure => exact q1
        case rel => exact ⟨j + 1, n', c', a', q2, by go_num, rfl, by show OwnNt _ _ _ _; rw [HST.out]; exact HO9.out, HB9.out⟩
    · have hjN : j = N := by omega
      subst hjN
      have HE : Hid (fewN n (ns.take j) = fewN n ns) := by show _ = _; rw [← HN.out, List.take_length]
      go_wp2
      go_ret
      exact ⟨_, rfl, by rw [← HE.out]; exact HO.out, HB.out⟩

end Go.Proofs.YtmgofohaoppajaaDoor

/- What is read of an entry's bytes. -/
namespace Go.Proofs.YtmgofohaoppajaaDoor
set_option maxRecDepth 20000
open Go.RowKit
set_option linter.unusedVariables false

theorem cutOp_twice (o : OpB) : cutOp (cutOp o) = cutOp o := by simp [cutOp, List.take_take]

theorem fewO_twice (os : List OpB) : fewO 66 (fewO 66 os) = fewO 66 os := by
  unfold fewO
  rw [← List.map_take, List.take_take, Nat.min_self, List.map_map]
  congr 1
  funext o
  exact cutOp_twice o

theorem cutN_twice (n : NtB) : cutN (cutN n) = cutN n := by
  unfold cutN
  simp only [List.take_take, Nat.min_self, fewO_twice]

theorem few_two (n : NtB) : fewN 1 [cutN n] = [cutN n] := by
  show [cutN (cutN n)] = _
  rw [cutN_twice]

theorem right_four {k s : Int} {nl ol : Nat} (h : rightB k s nl ol = true) : k ≤ 4 ∧ nl ≤ 32 := by
  unfold rightB namedB at h
  split at h
  · simp at h; omega
  · split at h
    · simp at h; omega
    · split at h
      · simp at h; omega
      · split at h
        · simp at h; omega
        · cases h

theorem noteB_read (k s : Nat) (l : List UInt8) (os : List OpB) (hk : k < 256) (hs : s < 18446744073709551616) (hl : l.length ≤ 32) (hc : chkL os = 0) :
    frontS (noteB k s l os) = (k, (Mth.numB k).length, 0) ∧ frontS ((noteB k s l os).drop (Mth.numB k).length) = (s, (Mth.numB s).length, 0) ∧ textS (((noteB k s l os).drop (Mth.numB k).length).drop (Mth.numB s).length) 32 = (l, batB os, 0) ∧ batS (batB os) = (os, 0) := by
  unfold noteB
  have e1 : (Mth.numB k ++ (Mth.numB s ++ (textB l ++ batB os))).drop (Mth.numB k).length = Mth.numB s ++ (textB l ++ batB os) := List.drop_left
  rw [e1]
  have e2 : (Mth.numB s ++ (textB l ++ batB os)).drop (Mth.numB s).length = textB l ++ batB os := List.drop_left
  rw [e2]
  exact ⟨front_numB k (by omega) _, front_numB s hs _, text_mk l _ 32 (by omega) (by omega), bat_back os hc⟩

theorem noteB_len (k s : Nat) (l : List UInt8) (os : List OpB) (hl : l.length ≤ 1000) (hol : os.length ≤ 64) (hsz : sizeO os ≤ 50000) : (noteB k s l os).length ≤ 1000000 := by
  unfold noteB
  simp only [List.length_append, Mth.numB_length]
  have h1 := (Mth.numL_bd k).2
  have h2 := (Mth.numL_bd s).2
  have h3 : (textB l).length ≤ 2000 := by unfold textB; rw [List.length_append, Mth.numB_length]; have := (Mth.numL_bd l.length).2; omega
  have h4 : (batB os).length ≤ 900000 := by unfold batB; have h1 := parts_len os.length os; omega
  omega

/-- a slice literal of one entry -/
theorem rdN_lit (w : World) (n : NtB) (k s : Int) (x y : Value) (hk : (n.1.toNat : Int) = k) (hs : (n.2.1 : Int) = s) (hx : Rd w x n.2.2.1) (hy : RdO w y n.2.2.2) (t : TypeId) :
    RdN (w.alloc (.cells #[.int .u8 k, .int .u64 s, x, y] t)) (.slice (some ⟨w.heap.size, 0, none⟩) 1 1) [n] := by
  subst hk hs
  have hb := below_box4 w (.cells #[.int .u8 (n.1.toNat : Int), .int .u64 (n.2.1 : Int), x, y] t)
  have b := box4_new w (.int .u8 (n.1.toNat : Int)) (.int .u64 (n.2.1 : Int)) x y t
  refine ⟨_, 1, rfl, by simp, by simp [maxLen], fun j h => ?_⟩
  have hj : j = 0 := by simp at h; omega
  subst hj
  exact ⟨w.heap.size, 0, rfl, x, y, b.c0, b.c1, b.c2, b.c3, hx.below hb (Nat.le_refl _), LsO.below hy hb (Nat.le_refl _)⟩

/-- what bartizanref07.Bytes answers -/
theorem refbytes_bad (w : World) (n : NtB) (na : Option Addr) (nl nc : Nat) (oa : Option Addr) (ol oc : Nat) (hn : Rd w (.slice na nl nc) n.2.2.1) (ho : RdO w (.slice oa ol oc) n.2.2.2) (hr : ¬ (rightB (n.1.toNat : Int) (n.2.1 : Int) n.2.2.1.length n.2.2.2.length = true ∧ chkL n.2.2.2 = 0)) :
    Calls Tryd.prog 10 #[noteV (n.1.toNat : Int) (n.2.1 : Int) na nl nc oa ol oc] w fun e w' => e = .returned (.tuple #[.slice none 0 0, .int .i64 4]) ∧ Below w.heap.size w w' := by
  obtain ⟨_, _, e1⟩ := hn.len
  cases e1
  obtain ⟨_, _, e2⟩ := rdo_shape ho
  cases e2
  refine refbytes_wrong w _ _ _ _ _ _ _ _ n.2.2.2 _ (by omega) ho rfl ?_
  rw [form_right _ _ _ _ (by omega)]
  cases hrb : rightB (n.1.toNat : Int) (n.2.1 : Int) n.2.2.1.length n.2.2.2.length with
  | false => simp
  | true =>
    have : ¬ chkL n.2.2.2 = 0 := fun h => hr ⟨hrb, h⟩
    simp [this]

theorem ebytes_no (w : World) (n : NtB) (na : Option Addr) (nl nc : Nat) (oa : Option Addr) (ol oc : Nat) (hn : Rd w (.slice na nl nc) n.2.2.1) (ho : RdO w (.slice oa ol oc) n.2.2.2) (hr : ¬ (rightB (n.1.toNat : Int) (n.2.1 : Int) n.2.2.1.length n.2.2.2.length = true ∧ chkL n.2.2.2 = 0)) :
    Calls Tryd.prog 20 #[noteV (n.1.toNat : Int) (n.2.1 : Int) na nl nc oa ol oc] w fun e w' => e = .returned (.tuple #[.slice none 0 0, .int .i64 4]) ∧ Below w.heap.size w w' := by
  obtain ⟨_, _, e1⟩ := hn.len
  cases e1
  obtain ⟨_, _, e2⟩ := rdo_shape ho
  cases e2
  by_cases hrb : rightB (n.1.toNat : Int) (n.2.1 : Int) n.2.2.1.length n.2.2.2.length = true
  · exact ebytes_bad w _ _ _ _ _ _ _ _ n.2.2.2 _ (by omega) hrb ho rfl (fun h => hr ⟨hrb, h⟩)
  · exact ebytes_wrong w _ _ _ _ _ _ _ _ (by omega) (by simpa using hrb)

end Go.Proofs.YtmgofohaoppajaaDoor

/- bartizanref07.Read. -/
namespace Go.Proofs.YtmgofohaoppajaaDoor
open Go.RowKit
set_option linter.unusedVariables false

theorem bat_inv {l : List UInt8} {os : List OpB} (h : batS l = (os, 0)) : chkL os = 0 ∧ batB os = l := by
  rw [bat_same] at h
  unfold refS at h
  split at h
  · split at h
    · split at h
      · rename_i hc
        simp only [Prod.mk.injEq] at h
        obtain ⟨rfl, _⟩ := h
        exact hc
      · simp at h
    · simp at h
  · simp at h

theorem noteS_eq {l b1 b2 nm l3 : List UInt8} {n s e1 q2 s2 e2 e3 e4 : Nat} {os : List OpB} (hf : frontS l = (n, s, e1)) (hb1 : behindS l = b1) (hf2 : frontS b1 = (q2, s2, e2)) (hb2 : behindS b1 = b2) (hT : textS b2 32 = (nm, l3, e3)) (hO : batS l3 = (os, e4)) :
    noteS l = if e1 = 0 ∧ e2 = 0 ∧ e3 = 0 ∧ e4 = 0 ∧ n ≤ 4 then (if rightB (n : Int) (q2 : Int) nm.length os.length = true then some (UInt8.ofNat n, q2, nm, os) else none) else none := by
  unfold noteS
  rw [hf]
  simp only
  by_cases h1 : e1 = 0
  · have hd1 : l.drop s = b1 := by rw [← hb1]; unfold behindS; rw [hf]; simp only; rw [if_pos h1]
    rw [hd1, hf2]
    simp only
    by_cases h2 : e2 = 0
    · have hd2 : b1.drop s2 = b2 := by rw [← hb2]; unfold behindS; rw [hf2]; simp only; rw [if_pos h2]
      rw [hd2, hT]
      simp only
      rw [hO]
      simp only
      by_cases h3 : e3 = 0
      · by_cases h4 : e4 = 0
        · by_cases h5 : n ≤ 4
          · rw [if_pos (c := e1 = 0 ∧ e2 = 0 ∧ e3 = 0 ∧ e4 = 0 ∧ n ≤ 4) ⟨h1, h2, h3, h4, h5⟩, if_pos (c := e1 = 0 ∧ n ≤ 4) ⟨h1, h5⟩, if_pos h2, if_pos h3, if_pos h4]
          · rw [if_neg (fun h => h5 h.2), if_neg (fun h => h5 h.2.2.2.2)]
        · rw [if_neg (c := e1 = 0 ∧ e2 = 0 ∧ e3 = 0 ∧ e4 = 0 ∧ n ≤ 4) (fun h => h4 h.2.2.2.1), if_neg h4]
          split <;> first | rfl | (split <;> first | rfl | (split <;> rfl))
      · rw [if_neg (c := e1 = 0 ∧ e2 = 0 ∧ e3 = 0 ∧ e4 = 0 ∧ n ≤ 4) (fun h => h3 h.2.2.1), if_neg h3]
        split <;> first | rfl | (split <;> rfl)
    · rw [if_neg (c := e1 = 0 ∧ e2 = 0 ∧ e3 = 0 ∧ e4 = 0 ∧ n ≤ 4) (fun h => h2 h.2.1), if_neg h2]
      split <;> rfl
  · rw [if_neg (fun h => h1 h.1), if_neg (fun h => h1 h.1)]

/-- what is read makes just these bytes -/
theorem noteS_back {l b1 b2 nm l3 : List UInt8} {n s q2 s2 : Nat} {os : List OpB} (hf : frontS l = (n, s, 0)) (hb1 : behindS l = b1) (hf2 : frontS b1 = (q2, s2, 0)) (hb2 : behindS b1 = b2) (hT : textS b2 32 = (nm, l3, 0)) (hO : batS l3 = (os, 0)) : noteB n q2 nm os = l := by
  have hd1 : l.drop s = b1 := by rw [← hb1]; unfold behindS; rw [hf]; simp
  have hd2 : b1.drop s2 = b2 := by rw [← hb2]; unfold behindS; rw [hf2]; simp
  have h1 := front_inv hf
  have h2 := front_inv hf2
  have h3 := (text_inv hT).1
  have h4 := (bat_inv hO).2
  rw [hd1] at h1
  rw [hd2] at h2
  unfold noteB
  rw [h4, ← h3, ← h2, ← h1]

theorem noteS_bad {l b1 b2 nm l3 : List UInt8} {n s e1 q2 s2 e2 e3 e4 : Nat} {os : List OpB} (hf : frontS l = (n, s, e1)) (hb1 : behindS l = b1) (hf2 : frontS b1 = (q2, s2, e2)) (hb2 : behindS b1 = b2) (hT : textS b2 32 = (nm, l3, e3)) (hO : batS l3 = (os, e4)) (h : ¬ (e1 = 0 ∧ e2 = 0 ∧ e3 = 0 ∧ e4 = 0 ∧ n ≤ 4)) : noteS l = none := by
  rw [noteS_eq hf hb1 hf2 hb2 hT hO, if_neg h]

/-- what entry.Read and bartizanref07.Read answer -/
def NRPost (w : World) (q : Option NtB) (o : Ending) (w' : World) : Prop :=
  Below w.heap.size w w' ∧ match q with
    | none => o = .returned (.tuple #[noteZ, .int .i64 4])
    | some n => ∃ x y, o = .returned (.tuple #[.agg #[.int .u8 (n.1.toNat : Int), .int .u64 (n.2.1 : Int), x, y], .int .i64 0]) ∧ RdF (w.heap.size + 1) w' x n.2.2.1 ∧ RdOF (w.heap.size + 1) w' y n.2.2.2

theorem behind_less (l : List UInt8) : (behindS l).length ≤ l.length := by
  unfold behindS
  split
  · rw [List.length_drop]; omega
  · simp

theorem eread_any (w : World) (v : Value) (l : List UInt8) (hv : Rd w v l) (hlen : l.length ≤ 1000000) : Calls Tryd.prog 29 #[v] w (NRPost w (noteS l)) := by
  obtain ⟨⟨n, s, e1⟩, hf⟩ : ∃ y, frontS l = y := ⟨_, rfl⟩
  by_cases h1 : e1 = 0
  · subst h1
    have hb1 : behindS l = l.drop s := by unfold behindS; rw [hf]; simp
    obtain ⟨⟨q2, s2, e2⟩, hf2⟩ : ∃ y, frontS (l.drop s) = y := ⟨_, rfl⟩
    obtain ⟨⟨nm, l3, e3⟩, hT⟩ : ∃ y, textS ((l.drop s).drop s2) 32 = y := ⟨_, rfl⟩
    obtain ⟨⟨os, e4⟩, hO⟩ : ∃ y, batS l3 = y := ⟨_, rfl⟩
    by_cases hall : ¬ 4 < n ∧ e2 = 0 ∧ e3 = 0 ∧ e4 = 0 ∧ rightB (n : Int) (q2 : Int) nm.length os.length = true
    · obtain ⟨hn, rfl, rfl, rfl, hr⟩ := hall
      have hb2 : behindS (l.drop s) = (l.drop s).drop s2 := by unfold behindS; rw [hf2]; simp
      have hq : noteS l = some (UInt8.ofNat n, q2, nm, os) := by rw [noteS_eq hf hb1 hf2 hb2 hT hO, if_pos ⟨rfl, rfl, rfl, rfl, by omega⟩, if_pos hr]
      rw [hq]
      refine (eread_ok w v l n s hv hlen hf q2 s2 hf2 nm l3 hT os hO hn hr).mono ?_
      rintro o w' ⟨x, y, rfl, rx, ry, hb⟩
      refine ⟨hb, x, y, ?_, rx, ry⟩
      have : ((UInt8.ofNat n).toNat : Int) = (n : Int) := by simp; omega
      rw [this]
    · have hq : noteS l = none := by
        by_cases h2 : e2 = 0
        · have hb2 : behindS (l.drop s) = (l.drop s).drop s2 := by unfold behindS; rw [hf2]; simp only; rw [if_pos h2]
          rw [noteS_eq hf hb1 hf2 hb2 hT hO]
          split
          · rename_i h
            rw [if_neg]
            intro hr
            exact hall ⟨by omega, h.2.1, h.2.2.1, h.2.2.2.1, hr⟩
          · rfl
        · obtain ⟨⟨nm', l3', e3'⟩, hT'⟩ : ∃ y, textS (behindS (l.drop s)) 32 = y := ⟨_, rfl⟩
          obtain ⟨⟨os', e4'⟩, hO'⟩ : ∃ y, batS l3' = y := ⟨_, rfl⟩
          exact noteS_bad hf hb1 hf2 rfl hT' hO' (fun h => h2 h.2.1)
      rw [hq]
      refine (eread_none w v l n s hv hlen hf q2 s2 e2 hf2 nm l3 e3 hT os e4 hO ?_).mono (fun o w' h => ⟨h.2, h.1⟩)
      by_cases a1 : 4 < n
      · exact .inl a1
      · by_cases a2 : e2 = 0
        · by_cases a3 : e3 = 0
          · by_cases a4 : e4 = 0
            · refine .inr (.inr (.inr (.inr ?_)))
              cases hr : rightB (n : Int) (q2 : Int) nm.length os.length with
              | false => rfl
              | true => exact absurd ⟨a1, a2, a3, a4, hr⟩ hall
            · exact .inr (.inr (.inr (.inl a4)))
          · exact .inr (.inr (.inl a3))
        · exact .inr (.inl a2)
  · have h2 := frontS_err hf h1
    obtain ⟨hn0, hs0, he⟩ := h2
    subst hn0 hs0
    have hq : noteS l = none := by unfold noteS; rw [hf]; simp only; rw [if_neg (fun h => h1 h.1)]
    rw [hq]
    exact (eread_kind w v l e1 hv hf he).mono (fun o w' h => ⟨h.2, h.1⟩)

set_option maxHeartbeats 4000000 in
set_option maxRecDepth 20000 in
theorem rnread_any (w : World) (v : Value) (l : List UInt8) (hv : Rd w v l) (hlen : l.length ≤ 1000000) : Calls Tryd.prog 32 #[v] w (NRPost w (noteS l)) := by
  obtain ⟨⟨n, s, e1⟩, hf⟩ : ∃ y, frontS l = y := ⟨_, rfl⟩
  obtain ⟨b1, hb1⟩ : ∃ b, behindS l = b := ⟨_, rfl⟩
  obtain ⟨⟨q2, s2, e2⟩, hf2⟩ : ∃ y, frontS b1 = y := ⟨_, rfl⟩
  obtain ⟨b2, hb2⟩ : ∃ b, behindS b1 = b := ⟨_, rfl⟩
  obtain ⟨⟨nm, l3, e3⟩, hT⟩ : ∃ y, textS b2 32 = y := ⟨_, rfl⟩
  obtain ⟨⟨os, e4⟩, hO⟩ : ∃ y, batS l3 = y := ⟨_, rfl⟩
  have hq := noteS_eq hf hb1 hf2 hb2 hT hO
  have HBK : Hid (e1 = 0 → e2 = 0 → e3 = 0 → e4 = 0 → noteB n q2 nm os = l ∧ chkL os = 0 ∧ nm.length ≤ 32 ∧ q2 < 18446744073709551616) := by
    intro a1 a2 a3 a4
    subst a1 a2 a3 a4
    exact ⟨noteS_back hf hb1 hf2 hb2 hT hO, (bat_inv hO).1, by have := (text_inv hT).2; omega, (frontS_ok hf2).2.2.2⟩
  have HV1 : Hid (∀ x, takeV l x = .tuple #[.int .u64 (n : Int), x, .int .i64 (e1 : Int)]) := by intro x; unfold takeV; rw [hf]
  have HV2 : Hid (∀ x, takeV b1 x = .tuple #[.int .u64 (q2 : Int), x, .int .i64 (e2 : Int)]) := by intro x; unfold takeV; rw [hf2]
  have HB1 : Hid (behindS l = b1) := hb1
  have HB2 : Hid (behindS b1 = b2) := hb2
  have HT : Hid (textS b2 32 = (nm, l3, e3)) := hT
  have HO : Hid (batS l3 = (os, e4)) := hO
  have hb1l : b1.length ≤ 1000000 := by rw [← hb1]; exact Nat.le_trans (behind_less l) hlen
  have hb2l : b2.length ≤ 1000000 := by rw [← hb2]; exact Nat.le_trans (behind_less b1) hb1l
  have hl3l : l3.length ≤ 1000000 := Nat.le_trans (textS_rest hT) hb2l
  have HL : Hid (l.length ≤ 1000000) := hlen
  obtain ⟨Q, hQ⟩ : ∃ Q, noteS l = Q := ⟨_, rfl⟩
  rw [hQ] at hq ⊢
  have HQ : Hid (Q = if e1 = 0 ∧ e2 = 0 ∧ e3 = 0 ∧ e4 = 0 ∧ n ≤ 4 then (if rightB (n : Int) (q2 : Int) nm.length os.length = true then some (UInt8.ofNat n, q2, nm, os) else none) else none) := hq
  have HRV : Hid (Rd w v l) := hv
  have BX0 := box4f_new w (.int .u8 0) (.int .u64 0) (.slice none 0 0) (.slice none 0 0) 36
  have hB0 := below_box4 w (.cells #[.int .u8 0, .int .u64 0, .slice none 0 0, .slice none 0 0] 36)
  have htk := reftake_any (w.alloc (.cells #[.int .u8 0, .int .u64 0, .slice none 0 0, .slice none 0 0] 36)) v l (hv.below hB0 (Nat.le_refl _)) (by omega)
  have HZ : Hid ((w.alloc (.cells #[.int .u8 0, .int .u64 0, .slice none 0 0, .slice none 0 0] 36)).heap.size = w.heap.size + 1) := by show _ = _; simp
  clear hv hf hb1 hf2 hb2 hT hO hlen hq hQ
  go_enter Tryd.func32, Tryd.ntmps32
  go_wp2_with fail
  refine htk.mono ?_
  rintro o w1 ⟨x1, rfl, hp1, hb1⟩
  rw [HV1.out]
  have r1 := hp1.rd
  rw [HB1.out] at r1
  have HW1 : Hid (Below w.heap.size w w1) := hB0.trans (hb1.mono hB0.size)
  have HZ1 : Hid (w.heap.size + 1 ≤ w1.heap.size) := by have h1 := HZ.out; have h2 := hb1.size; rw [h1] at h2; exact h2
  have BX1 := BX0.below hb1 (Nat.le_refl _)
  obtain ⟨xa1, xc1, rfl⟩ := r1.len
  have htk2 := reftake_any w1 _ b1 r1 (by omega)
  clear htk hB0 BX0 hb1 hp1 r1 HZ
  go_wp2_with fail
  refine htk2.mono ?_
  rintro o w2 ⟨x2, rfl, hp2, hb2⟩
  rw [HV2.out]
  have r2 := hp2.rd
  rw [HB2.out] at r2
  have HW2 : Hid (Below w.heap.size w w2) := HW1.out.trans (hb2.mono HW1.out.size)
  have HZ2 : Hid (w.heap.size + 1 ≤ w2.heap.size) := Nat.le_trans HZ1.out hb2.size
  have BX2 := BX1.below hb2 (Nat.le_refl _)
  obtain ⟨xa2, xc2, rfl⟩ := r2.len
  have htx := reftext_any w2 _ b2 32 (by omega) r2 (by omega)
  rw [HT.out] at htx
  clear htk2 BX1 hb2 hp2 r2
  go_wp2_with fail
  refine htx.mono ?_
  rintro o w3 ⟨x3, y3, rfl, rx3, ry3, fx3, fy3, hb3⟩
  have HW3 : Hid (Below w.heap.size w w3) := HW2.out.trans (hb3.mono HW2.out.size)
  have HZ3 : Hid (w.heap.size + 1 ≤ w3.heap.size) := Nat.le_trans HZ2.out hb3.size
  have BX3 := BX2.below hb3 (Nat.le_refl _)
  obtain ⟨xa3, xc3, rfl⟩ := rx3.len
  obtain ⟨ya3, yc3, rfl⟩ := ry3.len
  have RX3 : Hid (RdF (w.heap.size + 1) w3 (.slice xa3 nm.length xc3) nm) := ⟨rx3, fx3.mono HZ2.out⟩
  have hbr := rread_own w3 _ l3 (os, e4) ry3 hl3l (by rw [← bat_same]; exact HO.out)
  clear htx BX2 hb3 fx3 fy3 rx3 ry3
  go_wp2_with fail
  refine hbr.mono ?_
  rintro o w4 ⟨x4, rfl, ro4, hb4⟩
  have HW4 : Hid (Below w.heap.size w w4) := HW3.out.trans (hb4.mono HW3.out.size)
  have BX4 := BX3.below hb4 (Nat.le_refl _)
  obtain ⟨oa4, oc4, rfl⟩ := rdo_shape ro4.rd
  have RX4 : Hid (RdF (w.heap.size + 1) w4 (.slice xa3 nm.length xc3) nm) := RX3.out.below hb4 (Nat.le_refl _)
  have RO4 : Hid (RdOF (w.heap.size + 1) w4 (.slice oa4 os.length oc4) os) := ro4.mono HZ3.out
  clear hbr BX3 hb4 ro4
  by_cases hall : e1 = 0 ∧ e2 = 0 ∧ e3 = 0 ∧ e4 = 0 ∧ n ≤ 4
  · have HQ2 := HQ.out
    rw [if_pos hall] at HQ2
    obtain ⟨rfl, rfl, rfl, rfl, hn⟩ := hall
    obtain ⟨hbk, hc, hnl, hqs⟩ := HBK.out rfl rfl rfl rfl
    have HBK2 : Hid (noteB n q2 nm os = l ∧ chkL os = 0) := ⟨hbk, hc⟩
    have hnI : ¬ (4 : Int) < (n : Int) := by omega
    have hwn : IntKind.u8.wrap (n : Int) = (n : Int) := by rw [IntKind.wrap_u8]; omega
    have hbn := below_box4 w4 (.cells #[.int .u8 (n : Int), .int .u64 (q2 : Int), .slice xa3 nm.length xc3, .slice oa4 os.length oc4] 36)
    have BX5 := BX4.below hbn (Nat.le_refl _)
    have BN5 := box4_new w4 (.int .u8 (n : Int)) (.int .u64 (q2 : Int)) (.slice xa3 nm.length xc3) (.slice oa4 os.length oc4) 36
    have HW5 : Hid (Below w.heap.size w (w4.alloc (.cells #[.int .u8 (n : Int), .int .u64 (q2 : Int), .slice xa3 nm.length xc3, .slice oa4 os.length oc4] 36))) := HW4.out.trans (hbn.mono HW4.out.size)
    have RX5 : Hid (RdF (w.heap.size + 1) (w4.alloc (.cells #[.int .u8 (n : Int), .int .u64 (q2 : Int), .slice xa3 nm.length xc3, .slice oa4 os.length oc4] 36)) (.slice xa3 nm.length xc3) nm) := RX4.out.below hbn (Nat.le_refl _)
    have RO5 : Hid (RdOF (w.heap.size + 1) (w4.alloc (.cells #[.int .u8 (n : Int), .int .u64 (q2 : Int), .slice xa3 nm.length xc3, .slice oa4 os.length oc4] 36)) (.slice oa4 os.length oc4) os) := RO4.out.below hbn (Nat.le_refl _)
    have hnn : ((UInt8.ofNat n).toNat : Int) = (n : Int) := by simp; omega
    have HNN : Hid (((UInt8.ofNat n).toNat : Int) = (n : Int)) := hnn
    by_cases hr : rightB (n : Int) (q2 : Int) nm.length os.length = true
    · have HQ3 : Hid (Q = some (UInt8.ofNat n, q2, nm, os)) := by show _ = _; rw [HQ2, if_pos hr]
      have hsz : sizeO os ≤ 1000000 := by
        have h9 := chkL_zero.1 hc
        have h8 := sizeO_bound2 os (fun o ho => by have := chk_le (h9.2 o ho); omega)
        omega
      have hby := refbytes_ok _ n q2 xa3 nm.length xc3 oa4 os.length oc4 nm os (by omega) hqs (by rw [form_right _ _ _ _ (by omega)]; exact hr) RX5.out.1 (by omega) RO5.out.rd hc (chkL_zero.1 hc).1 hsz
      rw [hbk] at hby
      clear hbn BX4 hbk hc hnl hqs hr HQ2 hsz hnn
      obtain ⟨d0, d1, d2, d3⟩ := BN5
      go_wp2_with fail
      refine hby.mono ?_
      rintro o w6 ⟨x6, rfl, o6, hb6⟩
      obtain ⟨g6, k6, rfl⟩ := o6.shape
      have HW6 : Hid (Below w.heap.size w w6) := HW5.out.trans (hb6.mono HW5.out.size)
      have RX6 : Hid (RdF (w.heap.size + 1) w6 (.slice xa3 nm.length xc3) nm) := RX5.out.below hb6 (Nat.le_refl _)
      have RO6 : Hid (RdOF (w.heap.size + 1) w6 (.slice oa4 os.length oc4) os) := RO5.out.below hb6 (Nat.le_refl _)
      have BX6 := BX5.below hb6 (Nat.le_refl _)
      have BN6 := (box4_new w4 (.int .u8 (n : Int)) (.int .u64 (q2 : Int)) (.slice xa3 nm.length xc3) (.slice oa4 os.length oc4) 36).below hb6 (Nat.le_refl _)
      have hs := same_b w6 _ _ l l true (Rd.below (show Rd w v l from HRV.out) HW6.out (Nat.le_refl _)) o6.rd (beq_self_eq_true l)
      clear hby BX5 hb6 o6 d0 d1 d2 d3
      go_wp2_with fail
      refine hs.mono ?_
      rintro o w7 ⟨rfl, rfl⟩
      clear hs
      obtain ⟨⟨c0, c1, c2, c3⟩, f0, f1, f2, f3⟩ := BX6
      obtain ⟨d0, d1, d2, d3⟩ := BN6
      go_wp2
      refine bodyPost_ret (v := .tuple #[.agg #[.int .u8 (n : Int), .int .u64 (q2 : Int), .slice xa3 nm.length xc3, .slice oa4 os.length oc4], .int .i64 0]) (by simp [results, Tryd.results32, go_sem, c0, c1, c2, c3]) rfl ?_
      rw [HQ3.out]
      exact ⟨below_store4 HW6.out (Nat.le_refl _) _ _ _ _, _, _, by rw [HNN.out], RX6.out.store4 (Nat.lt_succ_self _) _ _ _ _, RO6.out.store4 (Nat.lt_succ_self _) _ _ _ _⟩
    · have HQ3 : Hid (Q = none) := by show _ = _; rw [HQ2, if_neg hr]
      have hby := refbytes_bad _ (UInt8.ofNat n, q2, nm, os) xa3 nm.length xc3 oa4 os.length oc4 RX5.out.1 RO5.out.rd (by
        rintro ⟨h, _⟩
        rw [show (((UInt8.ofNat n, q2, nm, os) : NtB).1.toNat : Int) = (n : Int) from hnn] at h
        exact hr h)
      rw [show (((UInt8.ofNat n, q2, nm, os) : NtB).1.toNat : Int) = (n : Int) from hnn] at hby
      clear hbn BX4 hbk hc hnl hqs hr HQ2 hnn
      obtain ⟨d0, d1, d2, d3⟩ := BN5
      go_wp2_with fail
      refine hby.mono ?_
      rintro o w6 ⟨rfl, hb6⟩
      have HW6 : Hid (Below w.heap.size w w6) := HW5.out.trans (hb6.mono HW5.out.size)
      have BX6 := BX5.below hb6 (Nat.le_refl _)
      clear hby BX5 hb6 d0 d1 d2 d3
      obtain ⟨⟨c0, c1, c2, c3⟩, f0, f1, f2, f3⟩ := BX6
      go_wp2
      refine bodyPost_ret (v := .tuple #[noteZ, .int .i64 4]) (by simp [results, Tryd.results32, go_sem, c0, c1, c2, c3]) rfl ?_
      rw [HQ3.out]
      exact ⟨below_store4 HW6.out (Nat.le_refl _) _ _ _ _, rfl⟩
  · have HQ3 : Hid (Q = none) := by show _ = _; rw [HQ.out, if_neg hall]
    obtain ⟨⟨c0, c1, c2, c3⟩, f0, f1, f2, f3⟩ := BX4
    have HALL : Hid (¬ (e1 = 0 ∧ e2 = 0 ∧ e3 = 0 ∧ e4 = 0 ∧ n ≤ 4)) := hall
    clear hall
    by_cases h1 : e1 = 0
    · subst h1
      by_cases h2 : e2 = 0
      · subst h2
        by_cases h3 : e3 = 0
        · subst h3
          by_cases h4 : e4 = 0
          · subst h4
            have hnI : (4 : Int) < (n : Int) := by
              have h9 := HALL.out
              have : ¬ n ≤ 4 := fun h => h9 ⟨rfl, rfl, rfl, rfl, h⟩
              omega
            go_wp2
            refine bodyPost_ret (v := .tuple #[noteZ, .int .i64 4]) (by simp [results, Tryd.results32, go_sem, c0, c1, c2, c3]) rfl ?_
            rw [HQ3.out]
            exact ⟨below_store4 HW4.out (Nat.le_refl _) _ _ _ _, rfl⟩
          · have heI : ¬ (e4 : Int) = 0 := by omega
            have hebq : ((e4 : Int) == 0) = false := by simpa using heI
            go_wp2
            refine bodyPost_ret (v := .tuple #[noteZ, .int .i64 4]) (by simp [results, Tryd.results32, go_sem, c0, c1, c2, c3]) rfl ?_
            rw [HQ3.out]
            exact ⟨below_store4 HW4.out (Nat.le_refl _) _ _ _ _, rfl⟩
        · have heI : ¬ (e3 : Int) = 0 := by omega
          have hebq : ((e3 : Int) == 0) = false := by simpa using heI
          go_wp2
          refine bodyPost_ret (v := .tuple #[noteZ, .int .i64 4]) (by simp [results, Tryd.results32, go_sem, c0, c1, c2, c3]) rfl ?_
          rw [HQ3.out]
          exact ⟨below_store4 HW4.out (Nat.le_refl _) _ _ _ _, rfl⟩
      · have heI : ¬ (e2 : Int) = 0 := by omega
        have hebq : ((e2 : Int) == 0) = false := by simpa using heI
        go_wp2
        refine bodyPost_ret (v := .tuple #[noteZ, .int .i64 4]) (by simp [results, Tryd.results32, go_sem, c0, c1, c2, c3]) rfl ?_
        rw [HQ3.out]
        exact ⟨below_store4 HW4.out (Nat.le_refl _) _ _ _ _, rfl⟩
    · have heI : ¬ (e1 : Int) = 0 := by omega
      have hebq : ((e1 : Int) == 0) = false := by simpa using heI
      go_wp2
      refine bodyPost_ret (v := .tuple #[noteZ, .int .i64 4]) (by simp [results, Tryd.results32, go_sem, c0, c1, c2, c3]) rfl ?_
      rw [HQ3.out]
      exact ⟨below_store4 HW4.out (Nat.le_refl _) _ _ _ _, rfl⟩

end Go.Proofs.YtmgofohaoppajaaDoor
