/- bartizanref04's Apply. -/
import Derived.Test.YtlkfdiiapcipoaaPairs
import Derived.Deep.LoopGhost
namespace Go.Proofs.Ytlkfdiiapcipoaa
open Go.RowKit

theorem cell_grown {w w' : World} {p : Addr} {u : Value} {row : Option Nat} (h : w.cell? p = some u) (hg : w.grownBy w' row) (hne : some p.block ≠ row) : w'.cell? p = some u := hg.cell h hne

theorem cell_below {B : Nat} {w w' : World} {p : Addr} {u : Value} (h : w.cell? p = some u) (hb : Below B w w') (hB : w.heap.size ≤ B) : w'.cell? p = some u := by
  rw [hb.cell (Nat.lt_of_lt_of_le (World.block_lt_of_cell? w _ h) hB)]
  exact h

theorem applyS_cons (o : OpB) (d : Bool) (x : PrB) (r : List PrB) : applyS o d (x :: r) = (if !d && ltB o.2.1 x.1 then [(o.2.1, o.2.2)] else []) ++ ((if covB o x.1 then [] else [x]) ++ applyS o (d || ltB o.2.1 x.1) r) := rfl

set_option maxHeartbeats 8000000 in
set_option maxRecDepth 20000 in
theorem apply_any (w : World) (vm x y : Value) (ps res : List PrB) (ok : UInt8) (ol om : List UInt8) (hm : RdP w vm ps) (hx : Rd w x ol) (hy : Rd w y om) (hn : ps.length ≤ 1000) (hres : applyO ps (ok, ol, om) = res) :
    Calls Try.prog 47 #[vm, .agg #[.int .u8 (ok.toNat : Int), x, y]] w fun e w' => ∃ z, e = .returned z ∧ RdP w' z res ∧ Below w.heap.size w w' := by
  obtain ⟨i0, hi, hz0, hz1, hz2⟩ := info_parts infoPr
  obtain ⟨x1, x2, ex⟩ := hx.len
  obtain ⟨y1, y2, ey⟩ := hy.len
  subst ex ey
  have hB0 := below_box w #[.int .u8 (ok.toNat : Int), .slice x1 ol.length x2, .slice y1 om.length y2] 27
  have b0 := box_new w (.int .u8 (ok.toNat : Int)) (.slice x1 ol.length x2) (.slice y1 om.length y2) 27
  have hm0 := hm.below hB0 (Nat.le_refl _)
  have hx0 := hx.below hB0 (Nat.le_refl _)
  have hy0 := hy.below hB0 (Nat.le_refl _)
  obtain ⟨w0, hw0⟩ : ∃ w0, w.alloc (.cells #[.int .u8 (ok.toNat : Int), .slice x1 ol.length x2, .slice y1 om.length y2] 27) = w0 := ⟨_, rfl⟩
  have hs0 : w0.heap.size = w.heap.size + 1 := by rw [← hw0]; simp
  rw [hw0] at hB0 b0 hm0 hx0 hy0
  have HM : Hid _ := hm0
  have HX : Hid _ := hx0
  have HY : Hid _ := hy0
  obtain ⟨ao, cap, rfl, h1, h2, _⟩ := hm
  unfold maxLen at h2
  have HRES : Hid (applyS (ok, ol, om) (decide (¬ ok.toNat = 2)) ps = res) := hres
  have hrl : res.length ≤ 1001 := by rw [← hres]; have := applyO_len ps (ok, ol, om); omega
  clear hm0 hx0 hy0 hx hy hres
  obtain ⟨d0, hd0⟩ : ∃ d, decide (¬ ok.toNat = 2) = d := ⟨_, rfl⟩
  rw [hd0] at HRES
  have hdk : ((ok.toNat : Int) != 2) = d0 := by
    rw [← hd0]
    by_cases h : ok.toNat = 2
    · rw [h]; rfl
    · have : ¬ (ok.toNat : Int) = 2 := by omega
      simp [h, this]
  clear hd0
  have b0c0 := b0.c0
  go_enter Try.func47, Try.ntmps47
  go_wp2_with fail
  clear b0c0
  go_loopg [5, 6, 14] ps.length (fun gk pv dv iv wr => ∃ (j : Nat) (d : Bool) (out : List PrB) (a' : Option Addr) (c' : Nat), gk + j = ps.length ∧ iv = .int .i64 (j : Int) ∧ dv = .bool d ∧ pv = .slice a' out.length c' ∧ OwnP w0 wr pv out ∧ out ++ applyS (ok, ol, om) d (ps.drop j) = res ∧ Box wr w.heap.size (.int .u8 (ok.toNat : Int)) (.slice x1 ol.length x2) (.slice y1 om.length y2) ∧ Below w0.heap.size w0 wr)
  case atStart => exact ⟨0, d0, [], none, 0, rfl, rfl, rfl, rfl, OwnP.nil _ _, HRES.out, b0, Below.refl _ _⟩
  case round =>
    clear b0 hdk
    obtain ⟨j, d, out, a', c', hj, rfl, rfl, rfl, hO, hS, hbx, hB⟩ := hrel
    have hol : out.length ≤ 1001 := by have := congrArg List.length hS; rw [List.length_append] at this; omega
    have HS : Hid _ := hS
    clear hS
    by_cases hlt : j < ps.length
    · obtain ⟨_, _, e, _, _, h3⟩ := (show RdP w0 (.slice ao ps.length cap) ps from HM.out)
      cases e
      obtain ⟨b, off, rfl, xk, xv, k0, k1, rk, rv⟩ := h3 j hlt
      have hbw := World.block_lt_of_cell? w0 _ k0
      have c0 := (hB.cell (p := ⟨b, off + j * 2, none⟩) hbw).trans k0
      have c1 := (hB.cell (p := ⟨b, off + j * 2 + 1, none⟩) hbw).trans k1
      obtain ⟨k1', k2', ek⟩ := rk.len
      obtain ⟨v1', v2', ev⟩ := rv.len
      subst ek ev
      obtain ⟨⟨pk, pv⟩, hp⟩ : ∃ p, ps[j] = p := ⟨_, rfl⟩
      rw [hp] at c0 c1 rk rv
      obtain ⟨q, hq⟩ : ∃ q, ltB ol pk = q := ⟨_, rfl⟩
      obtain ⟨cv, hcv⟩ : ∃ c, cov (ok.toNat : Int) ol om pk = c := ⟨_, rfl⟩
      have HQ : Hid _ := hq
      have HCV : Hid _ := hcv
      have HS2 : Hid (out ++ ((if !d && q then [(ol, om)] else []) ++ ((if cv then [] else [(pk, pv)]) ++ applyS (ok, ol, om) (d || q) (ps.drop (j + 1)))) = res) := by
        show _ = _
        rw [← HS.out, List.drop_eq_getElem_cons hlt, hp, applyS_cons, ← hq, ← hcv]
        rfl
      have HRK : Hid _ := rk
      have HRV : Hid _ := rv
      clear h3 k0 k1 hbw hp hq hcv HS rk rv
      have hsw : w0.heap.size ≤ wr.heap.size := hB.size
      have hwr2 : w.heap.size < wr.heap.size := by omega
      have hba := below_box wr #[.slice k1' pk.length k2', .slice v1' pv.length v2'] 75
      have t0 : (wr.alloc (.cells #[.slice k1' pk.length k2', .slice v1' pv.length v2'] 75)).cell? ⟨wr.heap.size, 0, none⟩ = some (.slice k1' pk.length k2') := by simp
      have t1 : (wr.alloc (.cells #[.slice k1' pk.length k2', .slice v1' pv.length v2'] 75)).cell? ⟨wr.heap.size, 1, none⟩ = some (.slice v1' pv.length v2') := by simp
      have bx1 := hbx.below hba (Nat.le_refl _)
      have hO1 := hO.below hba (Nat.le_refl _)
      have hB1 := hB.trans (hba.mono hB.size)
      have hne8 : some wr.heap.size ≠ (Value.slice a' out.length c').ownBlock := by
        obtain ⟨cs, hrow, _⟩ := hO
        intro e
        have := (hrow.lt _ e.symm).2
        omega
      have hlow : ∀ k, (Value.slice a' out.length c').ownBlock = some k → w0.heap.size ≤ k ∧ k < wr.heap.size := by
        obtain ⟨cs, hrow, _⟩ := hO
        exact fun k e => hrow.lt k e
      have hkd : ∀ W, Below w0.heap.size w0 W → Rd W (.slice k1' pk.length k2') pk := fun W hW => Rd.below (show Rd w0 (.slice k1' pk.length k2') pk from HRK.out) hW (Nat.le_refl _)
      have hxd : ∀ W, Below w0.heap.size w0 W → Rd W (.slice x1 ol.length x2) ol := fun W hW => Rd.below (show Rd w0 (.slice x1 ol.length x2) ol from HX.out) hW (Nat.le_refl _)
      have hyd : ∀ W, Below w0.heap.size w0 W → Rd W (.slice y1 om.length y2) om := fun W hW => Rd.below (show Rd w0 (.slice y1 om.length y2) om from HY.out) hW (Nat.le_refl _)
      have HKD : Hid _ := hkd
      have HXD : Hid _ := hxd
      have HYD : Hid _ := hyd
      clear hO hB hba hbx hkd hxd hyd
      generalize hwa : wr.alloc (.cells #[.slice k1' pk.length k2', .slice v1' pv.length v2'] 75) = wa at *
      have hsa : wa.heap.size = wr.heap.size + 1 := by rw [← hwa]; simp
      obtain ⟨bc0, bc1, bc2, _, _, _⟩ := bx1
      have bx1 : Box wa w.heap.size (.int .u8 (ok.toNat : Int)) (.slice x1 ol.length x2) (.slice y1 om.length y2) := ⟨bc0, bc1, bc2, by assumption, by assumption, by assumption⟩
      cases d
      · cases q
        · cases cv
          · go_wp2_with fail
            refine (refless_any _ _ _ ol pk false (HXD.out _ hB1) (HKD.out _ hB1) HQ.out).mono ?_
            rintro e wl ⟨rfl, hw⟩
            subst hw
            go_wp2_with fail
            refine (covers_any _ _ _ _ ol om pk ok.toNat false (HXD.out _ hB1) (HYD.out _ hB1) (HKD.out _ hB1) HCV.out).mono ?_
            rintro e w5 ⟨rfl, hb5⟩
            have hB5 := hB1.trans (hb5.mono hB1.size)
            have t05 := cell_below t0 hb5 (Nat.le_refl _)
            have t15 := cell_below t1 hb5 (Nat.le_refl _)
            have bx5 := bx1.below hb5 (Nat.le_refl _)
            have hO5 := hO1.below hb5 (Nat.le_refl _)
            have hlit2 := laid2 w5 (.slice k1' pk.length k2') (.slice v1' pv.length v2') 75
            have hbl2 := below_box w5 #[.slice k1' pk.length k2', .slice v1' pv.length v2'] 75
            have hOl2 := hO5.below hbl2 (Nat.le_refl _)
            have hBl2 := hB5.trans (hbl2.mono hB5.size)
            have bxl2 := bx5.below hbl2 (Nat.le_refl _)
            obtain ⟨cs2, hrow2, hel2⟩ := hOl2
            have hBls2 := hBl2.size
            have hlow2 : ∀ k, (Value.slice a' out.length c').ownBlock = some k → w0.heap.size ≤ k := fun k e => (hrow2.lt k e).1
            clear hO5
            go_wp2_with (first | (at_builtin; refine wpList_append_lies _ rfl (.tmp 40) (.tmp 42) 52 rfl w0.heap.size 75 i0 (.agg #[.slice none 0 0, .slice none 0 0]) 2 48 Try.underlying52 hi hz0 hz1 hz2 rfl (by decide) (.slice a' out.length c') out.length cs2 rfl hrow2 ⟨w5.heap.size, 0, none⟩ 1 1 [.slice k1' pk.length k2', .slice v1' pv.length v2'] rfl rfl hlit2 (one2 _ _ _ _ _ _) (by decide) (by simp only [maxLen]; omega) (by omega) hBls2 _ rfl ?_; intro g6 c6 w6 hown2 hgrow2 hat2 hlt6) | fail)
            have hpush2 := own_pushP (pk, pv) hrow2.1 hel2 (show Rd w0 _ pk from HRK.out) (show Rd w0 _ pv from HRV.out) hown2
            have hB6 := hBl2.grown hgrow2 hBls2 (fun k e => (hrow2.lt k e).1)
            have bx6 := bxl2.grown hgrow2 (fun e => by have := hlow2 _ e.symm; omega)
            go_roundg (gk - 1)
            case measure => omega
            case rel => exact ⟨j + 1, false, out ++ [(pk, pv)], (some ⟨g6, 0, none⟩), c6, by omega, by go_num, rfl, by simp, hpush2, by rw [← HS2.out]; simp, bx6, hB6⟩
          · go_wp2_with fail
            refine (refless_any _ _ _ ol pk false (HXD.out _ hB1) (HKD.out _ hB1) HQ.out).mono ?_
            rintro e wl ⟨rfl, hw⟩
            subst hw
            go_wp2_with fail
            refine (covers_any _ _ _ _ ol om pk ok.toNat true (HXD.out _ hB1) (HYD.out _ hB1) (HKD.out _ hB1) HCV.out).mono ?_
            rintro e w5 ⟨rfl, hb5⟩
            have hB5 := hB1.trans (hb5.mono hB1.size)
            have t05 := cell_below t0 hb5 (Nat.le_refl _)
            have t15 := cell_below t1 hb5 (Nat.le_refl _)
            have bx5 := bx1.below hb5 (Nat.le_refl _)
            have hO5 := hO1.below hb5 (Nat.le_refl _)
            go_wp2
            go_roundg (gk - 1)
            case measure => omega
            case rel => exact ⟨j + 1, false, out, a', c', by omega, by go_num, rfl, rfl, hO5, by rw [← HS2.out]; simp, bx5, hB5⟩
        · cases cv
          · go_wp2_with fail
            refine (refless_any _ _ _ ol pk true (HXD.out _ hB1) (HKD.out _ hB1) HQ.out).mono ?_
            rintro e wl ⟨rfl, hw⟩
            subst hw
            have hlit := laid2 wl (.slice x1 ol.length x2) (.slice y1 om.length y2) 75
            rw [hsa] at hlit
            have hbl := below_box wl #[.slice x1 ol.length x2, .slice y1 om.length y2] 75
            have hOl := hO1.below hbl (Nat.le_refl _)
            have hBl := hB1.trans (hbl.mono hB1.size)
            have t0l := cell_below t0 hbl (Nat.le_refl _)
            have t1l := cell_below t1 hbl (Nat.le_refl _)
            have bxl := bx1.below hbl (Nat.le_refl _)
            obtain ⟨cs, hrow, hel⟩ := hOl
            have hBls := hBl.size
            clear hO1
            go_wp2_with (first | (at_builtin; refine wpList_append_lies _ rfl (.tmp 27) (.tmp 33) 52 rfl w0.heap.size 75 i0 (.agg #[.slice none 0 0, .slice none 0 0]) 2 48 Try.underlying52 hi hz0 hz1 hz2 rfl (by decide) (.slice a' out.length c') out.length cs rfl hrow ⟨wr.heap.size + 1, 0, none⟩ 1 1 [.slice x1 ol.length x2, .slice y1 om.length y2] rfl rfl hlit (one2 _ _ _ _ _ _) (by decide) (by simp only [maxLen]; omega) (by omega) hBls _ rfl ?_; intro g4 c4 w4 hown hgrow hat hlt4; have t04 := cell_grown t0l hgrow hne8; have t14 := cell_grown t1l hgrow hne8; have bx4 := bxl.grown hgrow (fun e => by have := (hlow _ e.symm).1; omega); have bx4c0 := bx4.c0; have bx4c1 := bx4.c1; have bx4c2 := bx4.c2) | fail)
            have hpush := own_pushP (ol, om) hrow.1 hel (show Rd w0 _ ol from HX.out) (show Rd w0 _ om from HY.out) hown
            have hB4 := hBl.grown hgrow hBls (fun k e => (hrow.lt k e).1)
            have hg4 : g4 ≠ w.heap.size ∧ g4 ≠ wr.heap.size := by
              rcases hat with h | h
              · have := hlow _ h; omega
              · have : (wl.alloc (.cells #[.slice x1 ol.length x2, .slice y1 om.length y2] 75)).heap.size = wl.heap.size + 1 := by simp
                omega
            clear hlit hbl t0l t1l bxl hgrow hown hel hBl hBls hat hrow
            refine (covers_any _ _ _ _ ol om pk ok.toNat false (HXD.out _ hB4) (HYD.out _ hB4) (HKD.out _ hB4) HCV.out).mono ?_
            rintro e w5 ⟨rfl, hb5⟩
            have hB5 := hB4.trans (hb5.mono hB4.size)
            have t05 := cell_below t04 hb5 (Nat.le_refl _)
            have t15 := cell_below t14 hb5 (Nat.le_refl _)
            have bx5 := bx4.below hb5 (Nat.le_refl _)
            have hO5 := hpush.below hb5 (Nat.le_refl _)
            have hlit2 := laid2 w5 (.slice k1' pk.length k2') (.slice v1' pv.length v2') 75
            have hbl2 := below_box w5 #[.slice k1' pk.length k2', .slice v1' pv.length v2'] 75
            have hOl2 := hO5.below hbl2 (Nat.le_refl _)
            have hBl2 := hB5.trans (hbl2.mono hB5.size)
            have bxl2 := bx5.below hbl2 (Nat.le_refl _)
            obtain ⟨cs2, hrow2, hel2⟩ := hOl2
            have hrow2l := hrow2
            rw [show (out ++ [(ol, om)]).length = out.length + 1 by simp] at hrow2
            have hBls2 := hBl2.size
            have hlow2 : ∀ k, (Value.slice (some ⟨g4, 0, none⟩) (out.length + 1) c4).ownBlock = some k → w0.heap.size ≤ k := fun k e => (hrow2.lt k e).1
            clear hO5
            go_wp2_with (first | (at_builtin; refine wpList_append_lies _ rfl (.tmp 40) (.tmp 42) 52 rfl w0.heap.size 75 i0 (.agg #[.slice none 0 0, .slice none 0 0]) 2 48 Try.underlying52 hi hz0 hz1 hz2 rfl (by decide) (.slice (some ⟨g4, 0, none⟩) (out.length + 1) c4) (out.length + 1) cs2 rfl hrow2 ⟨w5.heap.size, 0, none⟩ 1 1 [.slice k1' pk.length k2', .slice v1' pv.length v2'] rfl rfl hlit2 (one2 _ _ _ _ _ _) (by decide) (by simp only [maxLen]; omega) (by omega) hBls2 _ rfl ?_; intro g6 c6 w6 hown2 hgrow2 hat2 hlt6) | fail)
            have hpush2 := own_pushP (ps := out ++ [(ol, om)]) (pk, pv) hrow2l.1 hel2 (show Rd w0 _ pk from HRK.out) (show Rd w0 _ pv from HRV.out) (by rw [show (out ++ [(ol, om)]).length = out.length + 1 by simp]; exact hown2)
            have hB6 := hBl2.grown hgrow2 hBls2 (fun k e => (hrow2.lt k e).1)
            have bx6 := bxl2.grown hgrow2 (fun e => by have := hlow2 _ e.symm; omega)
            go_roundg (gk - 1)
            case measure => omega
            case rel => exact ⟨j + 1, true, (out ++ [(ol, om)]) ++ [(pk, pv)], (some ⟨g6, 0, none⟩), c6, by omega, by go_num, rfl, by simp, hpush2, by rw [← HS2.out]; simp, bx6, hB6⟩
          · go_wp2_with fail
            refine (refless_any _ _ _ ol pk true (HXD.out _ hB1) (HKD.out _ hB1) HQ.out).mono ?_
            rintro e wl ⟨rfl, hw⟩
            subst hw
            have hlit := laid2 wl (.slice x1 ol.length x2) (.slice y1 om.length y2) 75
            rw [hsa] at hlit
            have hbl := below_box wl #[.slice x1 ol.length x2, .slice y1 om.length y2] 75
            have hOl := hO1.below hbl (Nat.le_refl _)
            have hBl := hB1.trans (hbl.mono hB1.size)
            have t0l := cell_below t0 hbl (Nat.le_refl _)
            have t1l := cell_below t1 hbl (Nat.le_refl _)
            have bxl := bx1.below hbl (Nat.le_refl _)
            obtain ⟨cs, hrow, hel⟩ := hOl
            have hBls := hBl.size
            clear hO1
            go_wp2_with (first | (at_builtin; refine wpList_append_lies _ rfl (.tmp 27) (.tmp 33) 52 rfl w0.heap.size 75 i0 (.agg #[.slice none 0 0, .slice none 0 0]) 2 48 Try.underlying52 hi hz0 hz1 hz2 rfl (by decide) (.slice a' out.length c') out.length cs rfl hrow ⟨wr.heap.size + 1, 0, none⟩ 1 1 [.slice x1 ol.length x2, .slice y1 om.length y2] rfl rfl hlit (one2 _ _ _ _ _ _) (by decide) (by simp only [maxLen]; omega) (by omega) hBls _ rfl ?_; intro g4 c4 w4 hown hgrow hat hlt4; have t04 := cell_grown t0l hgrow hne8; have t14 := cell_grown t1l hgrow hne8; have bx4 := bxl.grown hgrow (fun e => by have := (hlow _ e.symm).1; omega); have bx4c0 := bx4.c0; have bx4c1 := bx4.c1; have bx4c2 := bx4.c2) | fail)
            have hpush := own_pushP (ol, om) hrow.1 hel (show Rd w0 _ ol from HX.out) (show Rd w0 _ om from HY.out) hown
            have hB4 := hBl.grown hgrow hBls (fun k e => (hrow.lt k e).1)
            have hg4 : g4 ≠ w.heap.size ∧ g4 ≠ wr.heap.size := by
              rcases hat with h | h
              · have := hlow _ h; omega
              · have : (wl.alloc (.cells #[.slice x1 ol.length x2, .slice y1 om.length y2] 75)).heap.size = wl.heap.size + 1 := by simp
                omega
            clear hlit hbl t0l t1l bxl hgrow hown hel hBl hBls hat hrow
            refine (covers_any _ _ _ _ ol om pk ok.toNat true (HXD.out _ hB4) (HYD.out _ hB4) (HKD.out _ hB4) HCV.out).mono ?_
            rintro e w5 ⟨rfl, hb5⟩
            have hB5 := hB4.trans (hb5.mono hB4.size)
            have t05 := cell_below t04 hb5 (Nat.le_refl _)
            have t15 := cell_below t14 hb5 (Nat.le_refl _)
            have bx5 := bx4.below hb5 (Nat.le_refl _)
            have hO5 := hpush.below hb5 (Nat.le_refl _)
            go_wp2
            go_roundg (gk - 1)
            case measure => omega
            case rel => exact ⟨j + 1, true, (out ++ [(ol, om)]), (some ⟨g4, 0, none⟩), c4, by omega, by go_num, rfl, by simp, hO5, by rw [← HS2.out]; simp, bx5, hB5⟩
      · cases cv
        · go_wp2_with fail
          refine (covers_any _ _ _ _ ol om pk ok.toNat false (HXD.out _ hB1) (HYD.out _ hB1) (HKD.out _ hB1) HCV.out).mono ?_
          rintro e w5 ⟨rfl, hb5⟩
          have hB5 := hB1.trans (hb5.mono hB1.size)
          have t05 := cell_below t0 hb5 (Nat.le_refl _)
          have t15 := cell_below t1 hb5 (Nat.le_refl _)
          have bx5 := bx1.below hb5 (Nat.le_refl _)
          have hO5 := hO1.below hb5 (Nat.le_refl _)
          have hlit2 := laid2 w5 (.slice k1' pk.length k2') (.slice v1' pv.length v2') 75
          have hbl2 := below_box w5 #[.slice k1' pk.length k2', .slice v1' pv.length v2'] 75
          have hOl2 := hO5.below hbl2 (Nat.le_refl _)
          have hBl2 := hB5.trans (hbl2.mono hB5.size)
          have bxl2 := bx5.below hbl2 (Nat.le_refl _)
          obtain ⟨cs2, hrow2, hel2⟩ := hOl2
          have hBls2 := hBl2.size
          have hlow2 : ∀ k, (Value.slice a' out.length c').ownBlock = some k → w0.heap.size ≤ k := fun k e => (hrow2.lt k e).1
          clear hO5
          go_wp2_with (first | (at_builtin; refine wpList_append_lies _ rfl (.tmp 40) (.tmp 42) 52 rfl w0.heap.size 75 i0 (.agg #[.slice none 0 0, .slice none 0 0]) 2 48 Try.underlying52 hi hz0 hz1 hz2 rfl (by decide) (.slice a' out.length c') out.length cs2 rfl hrow2 ⟨w5.heap.size, 0, none⟩ 1 1 [.slice k1' pk.length k2', .slice v1' pv.length v2'] rfl rfl hlit2 (one2 _ _ _ _ _ _) (by decide) (by simp only [maxLen]; omega) (by omega) hBls2 _ rfl ?_; intro g6 c6 w6 hown2 hgrow2 hat2 hlt6) | fail)
          have hpush2 := own_pushP (pk, pv) hrow2.1 hel2 (show Rd w0 _ pk from HRK.out) (show Rd w0 _ pv from HRV.out) hown2
          have hB6 := hBl2.grown hgrow2 hBls2 (fun k e => (hrow2.lt k e).1)
          have bx6 := bxl2.grown hgrow2 (fun e => by have := hlow2 _ e.symm; omega)
          go_roundg (gk - 1)
          case measure => omega
          case rel => exact ⟨j + 1, true, out ++ [(pk, pv)], (some ⟨g6, 0, none⟩), c6, by omega, by go_num, rfl, by simp, hpush2, by rw [← HS2.out]; simp, bx6, hB6⟩
        · go_wp2_with fail
          refine (covers_any _ _ _ _ ol om pk ok.toNat true (HXD.out _ hB1) (HYD.out _ hB1) (HKD.out _ hB1) HCV.out).mono ?_
          rintro e w5 ⟨rfl, hb5⟩
          have hB5 := hB1.trans (hb5.mono hB1.size)
          have t05 := cell_below t0 hb5 (Nat.le_refl _)
          have t15 := cell_below t1 hb5 (Nat.le_refl _)
          have bx5 := bx1.below hb5 (Nat.le_refl _)
          have hO5 := hO1.below hb5 (Nat.le_refl _)
          go_wp2
          go_roundg (gk - 1)
          case measure => omega
          case rel => exact ⟨j + 1, true, out, a', c', by omega, by go_num, rfl, rfl, hO5, by rw [← HS2.out]; simp, bx5, hB5⟩
    · obtain rfl : j = ps.length := by omega
      rw [List.drop_length] at HS
      cases d
      · have HF : Hid (out ++ [(ol, om)] = res) := HS.out
        have hlit := laid2 wr (.slice x1 ol.length x2) (.slice y1 om.length y2) 75
        have hbl := below_box wr #[.slice x1 ol.length x2, .slice y1 om.length y2] 75
        have hOl := hO.below hbl (Nat.le_refl _)
        have hBl := hB.trans (hbl.mono hB.size)
        obtain ⟨cs, hrow, hel⟩ := hOl
        have hBls := hBl.size
        have bc0 := hbx.c0; have bc1 := hbx.c1; have bc2 := hbx.c2
        clear hO HS
        go_wp2_with (first | (at_builtin; refine wpList_append_lies _ rfl (.tmp 47) (.tmp 53) 52 rfl w0.heap.size 75 i0 (.agg #[.slice none 0 0, .slice none 0 0]) 2 48 Try.underlying52 hi hz0 hz1 hz2 rfl (by decide) (.slice a' out.length c') out.length cs rfl hrow ⟨wr.heap.size, 0, none⟩ 1 1 [.slice x1 ol.length x2, .slice y1 om.length y2] rfl rfl hlit (one2 _ _ _ _ _ _) (by decide) (by simp only [maxLen]; omega) (by omega) hBls _ rfl ?_; intro g4 c4 w4 hown hgrow hat hlt4) | fail)
        have hpush := own_pushP (ol, om) hrow.1 hel (show Rd w0 _ ol from HX.out) (show Rd w0 _ om from HY.out) hown
        have hB4 := hBl.grown hgrow hBls (fun k e => (hrow.lt k e).1)
        go_ret
        exact ⟨_, rfl, by rw [← HF.out]; exact hpush.rd hB4, hB0.trans (hB4.mono hB0.size)⟩
      · have HF : Hid (out = res) := by have := HS.out; simp [applyS] at this; exact this
        clear HS
        go_wp2
        go_ret
        exact ⟨_, rfl, by rw [← HF.out]; exact hO.rd hB, hB0.trans (hB.mono hB0.size)⟩

end Go.Proofs.Ytlkfdiiapcipoaa
