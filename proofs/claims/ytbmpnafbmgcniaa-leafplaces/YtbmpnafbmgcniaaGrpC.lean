/- Several texts in one. -/
import Derived.Test.YtbmpnafbmgcniaaGrpA
import Derived.Test.YtbmpnafbmgcniaaGrpB
import Derived.Test.YtbmpnafbmgcniaaGrpD

/- LeafBack answers true. -/
namespace Go.Proofs.Ytbmpnafbmgcniaa
set_option maxRecDepth 20000
open Go.RowKit
set_option linter.unusedVariables false

theorem leafB_most {es : List EnB} (h : chkLf es = 0) : (leafB es).length ≤ 40000 := by
  obtain ⟨h1, h2, h3⟩ := chkLf_ok.1 h
  unfold leafB
  rw [List.length_append, List.length_append, wordsB_len, startsTo_len, show (wordB ((es.length + 3) / 4)).length = 2 from rfl]
  have := bodyTo_most h2 es.length h1
  omega

theorem enB_short {es : List EnB} (h : chkLf es = 0) : ∀ e ∈ es, e.1.length ≤ 1000000 ∧ e.2.2.2.length ≤ 1000000 := fun e he => by
  obtain ⟨_, a, _, _, b, _⟩ := chkEn_ok ((chkLf_ok.1 h).2.1 e he)
  omega

/-- what is built is read as itself -/
theorem own_cel {B : Nat} {w : World} {g n c : Nat} {l : List UInt8} (h : Own B w (.slice (some ⟨g, 0, none⟩) n c) l) : Cel w g 0 l ∧ l.length ≤ c ∧ c ≤ 9223372036854775807 ∧ g < w.heap.size := by
  refine ⟨Own.spots h, ?_, ?_, h.lt.2⟩
  · obtain ⟨g', k', c', e, _, _, h1, h2, _⟩ := h
    simp only [Value.slice.injEq] at e
    obtain ⟨_, _, rfl⟩ := e
    exact h1
  · obtain ⟨g', k', c', e, _, _, h1, h2, _⟩ := h
    simp only [Value.slice.injEq] at e
    obtain ⟨_, _, rfl⟩ := e
    unfold maxLen at h2
    omega

set_option maxHeartbeats 4000000 in
theorem lback (w : World) (v : Value) (es : List EnB) (hv : ArgE w v es) :
    Calls Try.prog 5 #[v] w fun e w' => e = .returned (.bool true) ∧ Below w.heap.size w w' := by
  have HV : Hid (ArgE w v es) := hv
  obtain ⟨va, vc, rfl⟩ := hv.shape
  clear hv
  go_enter Try.func5, Try.ntmps5
  go_wp2_with fail
  refine (lawake_any w).mono ?_
  rintro e w1 ⟨rfl, hb1⟩
  have HB1 : Hid (Below w.heap.size w w1) := hb1
  have hfw := fewE_any w1 _ es 64 (argE_below HV.out hb1 (Nat.le_refl _)) (by decide)
  clear hb1
  go_wp2_with fail
  refine hfw.mono ?_
  rintro e w2 ⟨x2, rfl, o2, hb2⟩
  have HB2 : Hid (Below w.heap.size w w2) := bsplit HB1.out hb2
  obtain ⟨FE, hFE⟩ : ∃ F, fewE 64 es = F := ⟨_, rfl⟩
  have hFl : FE.length ≤ 64 := by rw [← hFE]; exact fewE_len _ _
  rw [hFE] at o2
  have hso := sort_any w2 x2 FE o2.rd (by omega)
  obtain ⟨xa2, xc2, rfl⟩ := o2.shape
  have hok := sortE_ok hFl
  clear hfw hb2 o2 hFE
  go_wp2_with fail
  refine hso.mono ?_
  rintro e w3 ⟨x3, rfl, o3, hb3⟩
  have HB3 : Hid (Below w.heap.size w w3) := bsplit HB2.out hb3
  obtain ⟨SE, hSE⟩ : ∃ S, sortE FE = S := ⟨_, rfl⟩
  rw [hSE] at o3 hok
  have HR3 : Hid (RdE w3 x3 SE) := o3.rd hb3
  have HOK : Hid (chkLf SE = 0) := hok
  have htw := twins_any w3 x3 SE (rdE_arg (o3.rd hb3)) (by have := (chkLf_ok.1 hok).1; omega) (enB_short hok)
  obtain ⟨xa3, xc3, rfl⟩ := (o3.rd hb3).shape
  obtain ⟨N, hN⟩ : ∃ N, SE.length = N := ⟨_, rfl⟩
  rw [hN] at HR3 htw ⊢
  clear hso hb3 o3 hSE hok
  go_wp2_with fail
  refine htw.mono ?_
  rintro e w4 ⟨x4, rfl, o4, hb4⟩
  have HB4 : Hid (Below w.heap.size w w4) := bsplit HB3.out hb4
  have HR4 : Hid (RdE w4 (.slice xa3 N xc3) SE) := rdE_below HR3.out hb4 (Nat.le_refl _)
  have hbu := lbuild_ok w4 x4 SE o4.rd HOK.out
  obtain ⟨xa4, xc4, rfl⟩ := o4.shape
  rw [hN] at hbu ⊢
  clear htw hb4 o4 hN
  go_wp2_with fail
  refine hbu.mono ?_
  rintro e w5 ⟨p, rfl, op, hb5⟩
  have HB5 : Hid (Below w.heap.size w w5) := bsplit HB4.out hb5
  have HR5 : Hid (RdE w5 (.slice xa3 N xc3) SE) := rdE_below HR4.out hb5 (Nat.le_refl _)
  obtain ⟨gp, cp, rfl⟩ := op.shape
  obtain ⟨k1, k2, k3, k4⟩ := own_cel op
  have hrd := lread_any w5 gp 0 cp (leafB SE) k1 k2 k3 (by have := leafB_most HOK.out; omega) k4
  unfold RdLPost at hrd
  rw [readL_leaf HOK.out] at hrd
  obtain ⟨QL, hQL⟩ : ∃ n, (leafB SE).length = n := ⟨_, rfl⟩
  rw [hQL] at hrd ⊢
  clear hbu hb5 op hQL k1 k2 k3 k4
  go_wp2_with fail
  refine hrd.mono ?_
  rintro e w6 ⟨hb6, x6, rfl, r6, _⟩
  have HB6 : Hid (Below w.heap.size w w6) := bsplit HB5.out hb6
  have hsm := sameens_any w6 x6 _ SE SE true r6 (rdE_below HR5.out hb6 (Nat.le_refl _)) ⟨fun _ => rfl, fun _ => rfl⟩
  obtain ⟨xa6, xc6, rfl⟩ := r6.shape
  clear hrd hb6 r6
  go_wp2_with fail
  refine hsm.mono ?_
  rintro e w7 ⟨rfl, hb7⟩
  have HB7 : Hid (Below w.heap.size w w7) := bsplit HB6.out hb7
  clear hsm hb7
  go_wp2
  go_ret
  exact ⟨rfl, HB7.out⟩

theorem leafBack_walk (a0 : Option Addr) (len0 cap0 : Nat) (z0 : List EnB) (w : World) (w0 : ArgE w (.slice a0 len0 cap0) z0 ∧ ∀ e ∈ z0, e.2.1 < 18446744073709551616) :
    Calls Try.prog 5 #[.slice a0 len0 cap0] w fun e w' => e = .returned (.bool true) ∧ Below w.heap.size w w' :=
  lback w _ z0 w0.1

end Go.Proofs.Ytbmpnafbmgcniaa

/- LeafPlaces answers true. -/
namespace Go.Proofs.Ytbmpnafbmgcniaa
set_option maxRecDepth 20000
open Go.RowKit
set_option linter.unusedVariables false

theorem cntE_self {es : List EnB} (h : riseB es = true) {i : Nat} (hi : i < es.length) : cntE es es[i] = i := by
  refine cnt_split (by omega) (fun x hx hxi => decide_eq_true (rise_lt h x i hi hxi)) (fun x hx hxi => decide_eq_false ?_)
  by_cases e : x = i
  · subst e
    have : cmpE es[x] es[x] = 0 := Mth.cmpK_zero.2 ⟨rfl, rfl, rfl⟩
    omega
  · have h1 := rise_lt h i x hx (by omega)
    rw [cmpE_neg]
    omega

theorem from_self {es : List EnB} (h : chkLf es = 0) {i : Nat} (hi : i < es.length) : fromL (leafB es) es[i] = some (some es[i]) := by
  unfold fromL
  rw [readL_leaf h]
  simp only
  rw [cntE_self (chkLf_ok.1 h).2.2 hi, List.getElem?_eq_getElem hi]

theorem bef_self0 {es : List EnB} (h : chkLf es = 0) (hi : 0 < es.length) : befL (leafB es) es[0] = some none := by
  unfold befL
  rw [readL_leaf h]
  simp only
  rw [cntE_self (chkLf_ok.1 h).2.2 hi, if_pos rfl]

theorem bef_self {es : List EnB} (h : chkLf es = 0) {i : Nat} (hi : i + 1 < es.length) : befL (leafB es) es[i + 1] = some (some (es[i]'(by omega))) := by
  unfold befL
  rw [readL_leaf h]
  simp only
  rw [cntE_self (chkLf_ok.1 h).2.2 hi, if_neg (by omega), Nat.add_sub_cancel, List.getElem?_eq_getElem (by omega)]

/-- four cells in a row -/
structure Row4 (w : World) (b o : Nat) (v0 v1 v2 v3 : Value) : Prop where
  c0 : w.cell? ⟨b, o, none⟩ = some v0
  c1 : w.cell? ⟨b, o + 1, none⟩ = some v1
  c2 : w.cell? ⟨b, o + 2, none⟩ = some v2
  c3 : w.cell? ⟨b, o + 3, none⟩ = some v3

theorem Row4.below {w w' : World} {b o : Nat} {v0 v1 v2 v3 : Value} (h : Row4 w b o v0 v1 v2 v3) (hb : Below w.heap.size w w') : Row4 w' b o v0 v1 v2 v3 := by
  have hl := World.block_lt_of_cell? w _ h.c0
  exact ⟨(hb.cell (p := ⟨b, o, none⟩) hl).trans h.c0, (hb.cell (p := ⟨b, o + 1, none⟩) hl).trans h.c1, (hb.cell (p := ⟨b, o + 2, none⟩) hl).trans h.c2, (hb.cell (p := ⟨b, o + 3, none⟩) hl).trans h.c3⟩

set_option maxHeartbeats 8000000 in
theorem lplaces (w : World) (v : Value) (es : List EnB) (hv : ArgE w v es) :
    Calls Try.prog 7 #[v] w fun e w' => e = .returned (.bool true) ∧ Below w.heap.size w w' := by
  have HV : Hid (ArgE w v es) := hv
  obtain ⟨va, vc, rfl⟩ := hv.shape
  clear hv
  go_enter Try.func7, Try.ntmps7
  go_wp2_with fail
  refine (lawake_any w).mono ?_
  rintro e w1 ⟨rfl, hb1⟩
  have HB1 : Hid (Below w.heap.size w w1) := hb1
  have hfw := fewE_any w1 _ es 64 (argE_below HV.out hb1 (Nat.le_refl _)) (by decide)
  clear hb1
  go_wp2_with fail
  refine hfw.mono ?_
  rintro e w2 ⟨x2, rfl, o2, hb2⟩
  have HB2 : Hid (Below w.heap.size w w2) := bsplit HB1.out hb2
  obtain ⟨FE, hFE⟩ : ∃ F, fewE 64 es = F := ⟨_, rfl⟩
  have hFl : FE.length ≤ 64 := by rw [← hFE]; exact fewE_len _ _
  rw [hFE] at o2
  have hso := sort_any w2 x2 FE o2.rd (by omega)
  obtain ⟨xa2, xc2, rfl⟩ := o2.shape
  have hok := sortE_ok hFl
  clear hfw hb2 o2 hFE
  go_wp2_with fail
  refine hso.mono ?_
  rintro e w3 ⟨x3, rfl, o3, hb3⟩
  have HB3 : Hid (Below w.heap.size w w3) := bsplit HB2.out hb3
  obtain ⟨SE, hSE⟩ : ∃ S, sortE FE = S := ⟨_, rfl⟩
  rw [hSE] at o3 hok
  have hbr := rlbuild_ok w3 x3 SE (o3.rd hb3) hok
  have HR3 : Hid (RdE w3 x3 SE) := o3.rd hb3
  obtain ⟨xa3, xc3, hx3, hxc1, hxc2, hx9⟩ := o3.rd hb3
  clear hx9
  unfold maxLen at hxc2
  subst hx3
  have HOK : Hid (chkLf SE = 0) := hok
  have hmost := leafB_most hok
  obtain ⟨P, hP⟩ : ∃ P, leafB SE = P := ⟨_, rfl⟩
  have HP : Hid (leafB SE = P) := hP
  rw [hP] at hbr hmost
  obtain ⟨N, hN⟩ : ∃ N, SE.length = N := ⟨_, rfl⟩
  have HN : Hid (SE.length = N) := hN
  have hN64 : N ≤ 64 := by rw [← hN]; exact (chkLf_ok.1 hok).1
  rw [hN] at hbr HR3 hxc1 ⊢
  clear hso hb3 o3 hSE hok hP hN
  go_wp2_with fail
  refine hbr.mono ?_
  rintro e w4 ⟨p, rfl, op, hb4⟩
  have HB4 : Hid (Below w.heap.size w w4) := bsplit HB3.out hb4
  have HR4 : Hid (RdE w4 (.slice xa3 N xc3) SE) := rdE_below HR3.out hb4 (Nat.le_refl _)
  obtain ⟨gp, cp, rfl⟩ := op.shape
  obtain ⟨k1, k2, k3, k4⟩ := own_cel op
  obtain ⟨L, hL⟩ : ∃ L, P.length = L := ⟨_, rfl⟩
  have HL : Hid (P.length = L) := hL
  have HCE : Hid (Cel w4 gp 0 P ∧ P.length ≤ cp ∧ cp ≤ 9223372036854775807 ∧ gp < w4.heap.size ∧ P.length ≤ 90000) := ⟨k1, k2, k3, k4, by omega⟩
  rw [hL]
  clear hbr hb4 op k1 k2 k3 k4 hL
  go_wp2_with fail
  go_loopg [25] N (fun gk iv wr => ∃ j : Nat, gk + j = N ∧ iv = .int .i64 (j : Int) ∧ Hid (Below w4.heap.size w4 wr))
  case atStart => exact ⟨0, by omega, rfl, Below.refl _ _⟩
  case round =>
    obtain ⟨j, hj, rfl, HB⟩ := hrel
    by_cases hlt : j < N
    · have hlt2 : j < SE.length := by rw [HN.out]; exact hlt
      obtain ⟨_, _, e, _, _, h3⟩ := rdE_below HR4.out HB.out (Nat.le_refl _)
      rw [HN.out] at e
      cases e
      obtain ⟨b, off, rfl, xv, yv, d0, d1, d2, d3, rx, ry⟩ := h3 j hlt2
      obtain ⟨x1, x2, ex⟩ := rx.len
      obtain ⟨y1, y2, ey⟩ := ry.len
      subst ex ey
      obtain ⟨q1, q2⟩ := gk_nxt hj hlt
      have hfs := from_self HOK.out hlt2
      obtain ⟨E, hE⟩ : ∃ e, SE[j] = e := ⟨_, rfl⟩
      obtain ⟨sq, hsq⟩ : ∃ z : Int, (SE[j].2.1 : Int) = z := ⟨_, rfl⟩
      obtain ⟨kk, hkk⟩ : ∃ z : Int, (SE[j].2.2.1.toNat : Int) = z := ⟨_, rfl⟩
      obtain ⟨nl, hnl⟩ : ∃ z, SE[j].1.length = z := ⟨_, rfl⟩
      obtain ⟨ml, hml⟩ : ∃ z, SE[j].2.2.2.length = z := ⟨_, rfl⟩
      rw [hnl] at d0 rx
      rw [hsq] at d1
      rw [hkk] at d2
      rw [hml] at d3 ry
      have hb0 := below_box4 wr (.cells #[.slice x1 nl x2, .int .u64 sq, .int .u8 kk, .slice y1 ml y2] 45)
      have BE0 := box4_new wr (.slice x1 nl x2) (.int .u64 sq) (.int .u8 kk) (.slice y1 ml y2) 45
      have HB0 : Hid (Below w4.heap.size w4 (wr.alloc (.cells #[.slice x1 nl x2, .int .u64 sq, .int .u8 kk, .slice y1 ml y2] 45))) := bsplit HB.out hb0
      have hfr := lfrom_any (wr.alloc (.cells #[.slice x1 nl x2, .int .u64 sq, .int .u8 kk, .slice y1 ml y2] 45)) gp 0 cp P (.slice x1 nl x2) SE[j] (HCE.out.1.below HB0.out) HCE.out.2.1 HCE.out.2.2.1 HCE.out.2.2.2.2 (Nat.lt_of_lt_of_le HCE.out.2.2.2.1 HB0.out.size) (rx.below hb0 (Nat.le_refl _))
      rw [HP.out] at hfs
      unfold FndPost at hfr
      rw [hfs, hsq, hkk, HL.out] at hfr
      simp only at hfr
      have HRE : Hid (Rd wr (.slice x1 nl x2) SE[j].1 ∧ Rd wr (.slice y1 ml y2) SE[j].2.2.2) := ⟨rx, ry⟩
      have HSK : Hid ((SE[j].2.1 : Int) = sq ∧ (SE[j].2.2.1.toNat : Int) = kk) := ⟨hsq, hkk⟩
      have BE0' := BE0
      obtain ⟨z0, z1, z2, z3⟩ := BE0'
      clear h3 rx ry hE hsq hkk hnl hml hb0 hfs
      go_wp2_with fail
      refine hfr.mono ?_
      rintro o w5 ⟨hb5, x5, y5, rfl, rx5, ry5⟩
      rw [HSK.out.1, HSK.out.2]
      clear z0 z1 z2 z3
      obtain ⟨xa5, xc5, rfl⟩ := rx5.len
      obtain ⟨ya5, yc5, rfl⟩ := ry5.len
      obtain ⟨l5, hl5⟩ : ∃ n, SE[j].1.length = n := ⟨_, rfl⟩
      obtain ⟨m5, hm5⟩ : ∃ n, SE[j].2.2.2.length = n := ⟨_, rfl⟩
      rw [hl5] at rx5 ⊢
      rw [hm5] at ry5 ⊢
      have BE5 := BE0.below hb5 (Nat.le_refl _)
      have HB5 : Hid (Below w4.heap.size w4 w5) := bsplit HB0.out hb5
      have HBr5 : Hid (Below wr.heap.size wr w5) := (below_box4 wr _).trans (hb5.mono (by simp))
      have hba := below_box4 w5 (.cells #[.slice xa5 l5 xc5, .int .u64 sq, .int .u8 kk, .slice ya5 m5 yc5] 45)
      have BA := box4_new w5 (.slice xa5 l5 xc5) (.int .u64 sq) (.int .u8 kk) (.slice ya5 m5 yc5) 45
      have BE6 := BE5.below hba (Nat.le_refl _)
      have HB6 : Hid (Below w4.heap.size w4 (w5.alloc (.cells #[.slice xa5 l5 xc5, .int .u64 sq, .int .u8 kk, .slice ya5 m5 yc5] 45))) := bsplit HB5.out hba
      have HBr6 : Hid (Below wr.heap.size wr (w5.alloc (.cells #[.slice xa5 l5 xc5, .int .u64 sq, .int .u8 kk, .slice ya5 m5 yc5] 45))) := bsplit HBr5.out hba
      have HRA : Hid (Rd (w5.alloc (.cells #[.slice xa5 l5 xc5, .int .u64 sq, .int .u8 kk, .slice ya5 m5 yc5] 45)) (.slice xa5 l5 xc5) SE[j].1 ∧ Rd (w5.alloc (.cells #[.slice xa5 l5 xc5, .int .u64 sq, .int .u8 kk, .slice ya5 m5 yc5] 45)) (.slice ya5 m5 yc5) SE[j].2.2.2) := ⟨rx5.below hba (Nat.le_refl _), ry5.below hba (Nat.le_refl _)⟩
      have hbf := lbefore_any (w5.alloc (.cells #[.slice xa5 l5 xc5, .int .u64 sq, .int .u8 kk, .slice ya5 m5 yc5] 45)) gp 0 cp P (.slice x1 nl x2) SE[j] (HCE.out.1.below HB6.out) HCE.out.2.1 HCE.out.2.2.1 HCE.out.2.2.2.2 (Nat.lt_of_lt_of_le HCE.out.2.2.2.1 HB6.out.size) (HRE.out.1.below HBr6.out (Nat.le_refl _))
      unfold FndPost at hbf
      rw [HSK.out.1, HSK.out.2, HL.out] at hbf
      have BE6' := BE6
      obtain ⟨z0, z1, z2, z3⟩ := BE6'
      obtain ⟨u0, u1, u2, u3⟩ := BA
      have BA := box4_new w5 (.slice xa5 l5 xc5) (.int .u64 sq) (.int .u8 kk) (.slice ya5 m5 yc5) 45
      clear hfr hb5 rx5 ry5 hl5 hm5 BE5 BE0 hba
      by_cases hj0 : j = 0
      · subst hj0
        have hbs : befL P SE[0] = some none := by
          have h9 := bef_self0 HOK.out (by omega)
          rw [HP.out] at h9
          exact h9
        rw [hbs] at hbf
        simp only at hbf
        clear hbs
        go_wp2_with fail
        refine hbf.mono ?_
        rintro o w7 ⟨hb7, rfl⟩
        have hbz := below_box4 w7 (.cells #[.slice none 0 0, .int .u64 0, .int .u8 0, .slice none 0 0] 45)
        have HB8 : Hid (Below w4.heap.size w4 (w7.alloc (.cells #[.slice none 0 0, .int .u64 0, .int .u8 0, .slice none 0 0] 45)).drew) := (bsplit (bsplit HB6.out hb7) hbz).drew
        have HBr8 : Hid (Below wr.heap.size wr (w7.alloc (.cells #[.slice none 0 0, .int .u64 0, .int .u8 0, .slice none 0 0] 45)).drew) := (bsplit (bsplit HBr6.out hb7) hbz).drew
        have BE8 := ((BE6.below hb7 (Nat.le_refl _)).below hbz (Nat.le_refl _)).drew
        have BA8 := ((BA.below hb7 (Nat.le_refl _)).below hbz (Nat.le_refl _)).drew
        have hsm := sameen_any (w7.alloc (.cells #[.slice none 0 0, .int .u64 0, .int .u8 0, .slice none 0 0] 45)).drew (.slice xa5 l5 xc5) (.slice ya5 m5 yc5) (.slice x1 nl x2) (.slice y1 ml y2) SE[0].1 SE[0].2.2.2 SE[0].1 SE[0].2.2.2 sq kk sq kk true (((HRA.out.1.below hb7 (Nat.le_refl _)).below hbz (Nat.le_refl _)).drew) (((HRA.out.2.below hb7 (Nat.le_refl _)).below hbz (Nat.le_refl _)).drew) (HRE.out.1.below HBr8.out (Nat.le_refl _)) (HRE.out.2.below HBr8.out (Nat.le_refl _)) (by simp)
        clear hbf hb7 hbz z0 z1 z2 z3 u0 u1 u2 u3 BE6 BA
        have BE8' := BE8
        obtain ⟨z0, z1, z2, z3⟩ := BE8'
        have BA8' := BA8
        obtain ⟨u0, u1, u2, u3⟩ := BA8'
        go_wp2_with fail
        refine wp_region_held_drew (S := (fun w' => (w'.cell? ⟨wr.heap.size, 0, none⟩ = some (.slice x1 nl x2) ∧ w'.cell? ⟨wr.heap.size, 1, none⟩ = some (.int .u64 sq) ∧ w'.cell? ⟨wr.heap.size, 2, none⟩ = some (.int .u8 kk) ∧ w'.cell? ⟨wr.heap.size, 3, none⟩ = some (.slice y1 ml y2)) ∧ (w'.cell? ⟨w5.heap.size, 0, none⟩ = some (.slice xa5 l5 xc5) ∧ w'.cell? ⟨w5.heap.size, 1, none⟩ = some (.int .u64 sq) ∧ w'.cell? ⟨w5.heap.size, 2, none⟩ = some (.int .u8 kk) ∧ w'.cell? ⟨w5.heap.size, 3, none⟩ = some (.slice ya5 m5 yc5)))) (by kernel_rfl) ?_ (fun hHeld => ?_)
        · exact ⟨⟨BE8.c0, BE8.c1, BE8.c2, BE8.c3⟩, ⟨BA8.c0, BA8.c1, BA8.c2, BA8.c3⟩⟩
        refine wpAnyH_take (i := 0) (v := (.bool true)) rfl (by kernel_rfl) (by kernel_rfl) (by kernel_rfl) (fun _ _ _ h => h) (Or.inl ⟨by rfl, fun w hSw => by (try dsimp only at hSw); go_simp⟩) hHeld ?_
        simp only [Act.put, List.setIfInBounds_toArray, List.set_cons_zero, List.set_cons_succ, List.getElem_toArray, List.getElem_cons_zero]
        refine wpAnyH_take (i := 1) (v := (.bool false)) rfl (by kernel_rfl) (by kernel_rfl) (by kernel_rfl) (fun _ _ _ h => h) (Or.inl ⟨by rfl, fun w hSw => by (try dsimp only at hSw); go_simp⟩) hHeld ?_
        simp only [Act.put, List.setIfInBounds_toArray, List.set_cons_zero, List.set_cons_succ, List.getElem_toArray, List.getElem_cons_zero, List.getElem_cons_succ]
        refine wpAnyH_take (i := 2) (v := (.bool false)) rfl (by kernel_rfl) (by kernel_rfl) (by kernel_rfl) (fun _ _ _ h => h) (Or.inl ⟨by rfl, fun w hSw => by (try dsimp only at hSw); go_simp⟩) hHeld ?_
        simp only [Act.put, List.setIfInBounds_toArray, List.set_cons_zero, List.set_cons_succ, List.getElem_toArray, List.getElem_cons_zero, List.getElem_cons_succ]
        refine wpAnyH_take (i := 3) (v := (.int .i64 0)) rfl (by kernel_rfl) (by kernel_rfl) (by kernel_rfl) (fun _ _ _ h => h) (Or.inl ⟨by rfl, fun w hSw => by (try dsimp only at hSw); go_simp⟩) hHeld ?_
        simp only [Act.put, List.setIfInBounds_toArray, List.set_cons_zero, List.set_cons_succ, List.getElem_toArray, List.getElem_cons_zero, List.getElem_cons_succ]
        refine wpAnyH_take (i := 4) (v := (.bool false)) rfl (by kernel_rfl) (by kernel_rfl) (by kernel_rfl) (fun _ _ _ h => h) (Or.inl ⟨by rfl, fun w hSw => by (try dsimp only at hSw); go_simp⟩) hHeld ?_
        simp only [Act.put, List.setIfInBounds_toArray, List.set_cons_zero, List.set_cons_succ, List.getElem_toArray, List.getElem_cons_zero, List.getElem_cons_succ]
        refine wpAnyH_take (i := 5) (v := (.bool false)) rfl (by kernel_rfl) (by kernel_rfl) (by kernel_rfl) (fun _ _ _ h => h) (Or.inl ⟨by rfl, fun w hSw => by (try dsimp only at hSw); go_simp⟩) hHeld ?_
        simp only [Act.put, List.setIfInBounds_toArray, List.set_cons_zero, List.set_cons_succ, List.getElem_toArray, List.getElem_cons_zero, List.getElem_cons_succ]
        refine wpAnyH_take (i := 6) (v := (.bool false)) rfl (by kernel_rfl) (by kernel_rfl) (by kernel_rfl) (fun _ _ _ h => h) (Or.inl ⟨by rfl, fun w hSw => by (try dsimp only at hSw); go_simp⟩) hHeld ?_
        simp only [Act.put, List.setIfInBounds_toArray, List.set_cons_zero, List.set_cons_succ, List.getElem_toArray, List.getElem_cons_zero, List.getElem_cons_succ]
        refine wpAnyH_take (i := 7) (v := (.int .i64 0)) rfl (by kernel_rfl) (by kernel_rfl) (by kernel_rfl) (fun _ _ _ h => h) (Or.inl ⟨by rfl, fun w hSw => by (try dsimp only at hSw); go_simp⟩) hHeld ?_
        simp only [Act.put, List.setIfInBounds_toArray, List.set_cons_zero, List.set_cons_succ, List.getElem_toArray, List.getElem_cons_zero, List.getElem_cons_succ]
        refine wpAnyH_take (i := 8) (v := (.bool false)) rfl (by kernel_rfl) (by kernel_rfl) (by kernel_rfl) (fun _ _ _ h => h) (Or.inl ⟨by rfl, fun w hSw => by (try dsimp only at hSw); go_simp⟩) hHeld ?_
        simp only [Act.put, List.setIfInBounds_toArray, List.set_cons_zero, List.set_cons_succ, List.getElem_toArray, List.getElem_cons_zero, List.getElem_cons_succ]
        refine wpAnyH_take (i := 9) (v := (.bool false)) rfl (by kernel_rfl) (by kernel_rfl) (by kernel_rfl) (fun _ _ _ h => h) (Or.inl ⟨by rfl, fun w hSw => by (try dsimp only at hSw); go_simp⟩) hHeld ?_
        simp only [Act.put, List.setIfInBounds_toArray, List.set_cons_zero, List.set_cons_succ, List.getElem_toArray, List.getElem_cons_zero, List.getElem_cons_succ]
        refine wpAnyH_take (i := 10) (v := (.bool false)) rfl (by kernel_rfl) (by kernel_rfl) (by kernel_rfl) (fun _ _ _ h => h) (Or.inl ⟨by rfl, fun w hSw => by (try dsimp only at hSw); go_simp⟩) hHeld ?_
        simp only [Act.put, List.setIfInBounds_toArray, List.set_cons_zero, List.set_cons_succ, List.getElem_toArray, List.getElem_cons_zero, List.getElem_cons_succ]
        refine wpAnyH_take (i := 11) (v := (.agg #[.slice xa5 l5 xc5, .int .u64 sq, .int .u8 kk, .slice ya5 m5 yc5])) rfl (by kernel_rfl) (by kernel_rfl) (by kernel_rfl) (fun _ _ _ h => h) (Or.inl ⟨by rfl, fun w hSw => by (try dsimp only at hSw); go_simp⟩) hHeld ?_
        simp only [Act.put, List.setIfInBounds_toArray, List.set_cons_zero, List.set_cons_succ, List.getElem_toArray, List.getElem_cons_zero, List.getElem_cons_succ]
        refine wpAnyH_take (i := 12) (v := (.agg #[.slice x1 nl x2, .int .u64 sq, .int .u8 kk, .slice y1 ml y2])) rfl (by kernel_rfl) (by kernel_rfl) (by kernel_rfl) (fun _ _ _ h => h) (Or.inl ⟨by rfl, fun w hSw => by (try dsimp only at hSw); go_simp⟩) hHeld ?_
        simp only [Act.put, List.setIfInBounds_toArray, List.set_cons_zero, List.set_cons_succ, List.getElem_toArray, List.getElem_cons_zero, List.getElem_cons_succ]
        refine wpAnyH_ready (rs := [13]) (by kernel_rfl) (by simp) ?_
        refine AllReadyH.cons rfl (fun K hK => ?_) AllReadyH.nil
        simp only [List.getElem_toArray, List.getElem_cons_zero, List.getElem_cons_succ]
        go_simp
        go_at_call 25
        refine hsm.mono ?_
        rintro e w9 ⟨rfl, hb9⟩
        have HB9 : Hid (Below w4.heap.size w4 w9) := bsplit HB8.out hb9
        have BE9 := BE8.below hb9 (Nat.le_refl _)
        have BA9 := BA8.below hb9 (Nat.le_refl _)
        clear z0 z1 z2 z3 u0 u1 u2 u3 hHeld
        go_wp2_with fail
        refine hK.out _ _ ⟨⟨BE9.c0, BE9.c1, BE9.c2, BE9.c3⟩, ⟨BA9.c0, BA9.c1, BA9.c2, BA9.c3⟩⟩ (fun hHeld => ?_)
        clear hK K
        refine wpAnyH_take (i := 14) (v := (.bool false)) rfl (by kernel_rfl) (by kernel_rfl) (by kernel_rfl) (fun _ _ _ h => h) (Or.inl ⟨by rfl, fun w hSw => by (try dsimp only at hSw); go_simp⟩) hHeld ?_
        simp only [Act.put, List.setIfInBounds_toArray, List.set_cons_zero, List.set_cons_succ, List.getElem_toArray, List.getElem_cons_zero, List.getElem_cons_succ]
        refine wpAnyH_take (i := 15) (v := (.bool false)) rfl (by kernel_rfl) (by kernel_rfl) (by kernel_rfl) (fun _ _ _ h => h) (Or.inl ⟨by rfl, fun w hSw => by (try dsimp only at hSw); go_simp⟩) hHeld ?_
        simp only [Act.put, List.setIfInBounds_toArray, List.set_cons_zero, List.set_cons_succ, List.getElem_toArray, List.getElem_cons_zero, List.getElem_cons_succ]
        refine wpAnyH_take (i := 16) (v := (.bool false)) rfl (by kernel_rfl) (by kernel_rfl) (by kernel_rfl) (fun _ _ _ h => h) (Or.inl ⟨by rfl, fun w hSw => by (try dsimp only at hSw); go_simp⟩) hHeld ?_
        simp only [Act.put, List.setIfInBounds_toArray, List.set_cons_zero, List.set_cons_succ, List.getElem_toArray, List.getElem_cons_zero, List.getElem_cons_succ]
        refine wpAnyH_take (i := 17) (v := (.bool false)) rfl (by kernel_rfl) (by kernel_rfl) (by kernel_rfl) (fun _ _ _ h => h) (Or.inl ⟨by rfl, fun w hSw => by (try dsimp only at hSw); go_simp⟩) hHeld ?_
        simp only [Act.put, List.setIfInBounds_toArray, List.set_cons_zero, List.set_cons_succ, List.getElem_toArray, List.getElem_cons_zero, List.getElem_cons_succ]
        refine wpAnyH_take (i := 18) (v := (.int .i64 0)) rfl (by kernel_rfl) (by kernel_rfl) (by kernel_rfl) (fun _ _ _ h => h) (Or.inl ⟨by rfl, fun w hSw => by (try dsimp only at hSw); go_simp⟩) hHeld ?_
        simp only [Act.put, List.setIfInBounds_toArray, List.set_cons_zero, List.set_cons_succ, List.getElem_toArray, List.getElem_cons_zero, List.getElem_cons_succ]
        refine wpAnyH_take (i := 19) (v := (.bool false)) rfl (by kernel_rfl) (by kernel_rfl) (by kernel_rfl) (fun _ _ _ h => h) (Or.inl ⟨by rfl, fun w hSw => by (try dsimp only at hSw); go_simp⟩) hHeld ?_
        simp only [Act.put, List.setIfInBounds_toArray, List.set_cons_zero, List.set_cons_succ, List.getElem_toArray, List.getElem_cons_zero, List.getElem_cons_succ]
        refine wpAnyH_take (i := 20) (v := (.bool false)) rfl (by kernel_rfl) (by kernel_rfl) (by kernel_rfl) (fun _ _ _ h => h) (Or.inl ⟨by rfl, fun w hSw => by (try dsimp only at hSw); go_simp⟩) hHeld ?_
        simp only [Act.put, List.setIfInBounds_toArray, List.set_cons_zero, List.set_cons_succ, List.getElem_toArray, List.getElem_cons_zero, List.getElem_cons_succ]
        refine wpAnyH_take (i := 21) (v := (.bool false)) rfl (by kernel_rfl) (by kernel_rfl) (by kernel_rfl) (fun _ _ _ h => h) (Or.inl ⟨by rfl, fun w hSw => by (try dsimp only at hSw); go_simp⟩) hHeld ?_
        simp only [Act.put, List.setIfInBounds_toArray, List.set_cons_zero, List.set_cons_succ, List.getElem_toArray, List.getElem_cons_zero, List.getElem_cons_succ]
        refine wpAnyH_take (i := 22) (v := (.bool false)) rfl (by kernel_rfl) (by kernel_rfl) (by kernel_rfl) (fun _ _ _ h => h) (Or.inl ⟨by rfl, fun w hSw => by (try dsimp only at hSw); go_simp⟩) hHeld ?_
        simp only [Act.put, List.setIfInBounds_toArray, List.set_cons_zero, List.set_cons_succ, List.getElem_toArray, List.getElem_cons_zero, List.getElem_cons_succ]
        refine wpAnyH_take (i := 23) (v := (.bool false)) rfl (by kernel_rfl) (by kernel_rfl) (by kernel_rfl) (fun _ _ _ h => h) (Or.inl ⟨by rfl, fun w hSw => by (try dsimp only at hSw); go_simp⟩) hHeld ?_
        simp only [Act.put, List.setIfInBounds_toArray, List.set_cons_zero, List.set_cons_succ, List.getElem_toArray, List.getElem_cons_zero, List.getElem_cons_succ]
        refine wpAnyH_take (i := 24) (v := (.bool false)) rfl (by kernel_rfl) (by kernel_rfl) (by kernel_rfl) (fun _ _ _ h => h) (Or.inl ⟨by rfl, fun w hSw => by (try dsimp only at hSw); go_simp⟩) hHeld ?_
        simp only [Act.put, List.setIfInBounds_toArray, List.set_cons_zero, List.set_cons_succ, List.getElem_toArray, List.getElem_cons_zero, List.getElem_cons_succ]
        refine wpAnyH_take (i := 25) (v := undef) rfl (by kernel_rfl) (by kernel_rfl) (by kernel_rfl) (fun _ _ _ h => h) (Or.inr ⟨by rfl, rfl⟩) hHeld ?_
        simp only [Act.put, List.setIfInBounds_toArray, List.set_cons_zero, List.set_cons_succ, List.getElem_toArray, List.getElem_cons_zero, List.getElem_cons_succ]
        refine wpAnyH_take (i := 26) (v := undef) rfl (by kernel_rfl) (by kernel_rfl) (by kernel_rfl) (fun _ _ _ h => h) (Or.inr ⟨by rfl, rfl⟩) hHeld ?_
        simp only [Act.put, List.setIfInBounds_toArray, List.set_cons_zero, List.set_cons_succ, List.getElem_toArray, List.getElem_cons_zero, List.getElem_cons_succ]
        refine wpAnyH_take (i := 27) (v := undef) rfl (by kernel_rfl) (by kernel_rfl) (by kernel_rfl) (fun _ _ _ h => h) (Or.inr ⟨by rfl, rfl⟩) hHeld ?_
        simp only [Act.put, List.setIfInBounds_toArray, List.set_cons_zero, List.set_cons_succ, List.getElem_toArray, List.getElem_cons_zero, List.getElem_cons_succ]
        refine wpAnyH_take (i := 28) (v := undef) rfl (by kernel_rfl) (by kernel_rfl) (by kernel_rfl) (fun _ _ _ h => h) (Or.inr ⟨by rfl, rfl⟩) hHeld ?_
        simp only [Act.put, List.setIfInBounds_toArray, List.set_cons_zero, List.set_cons_succ, List.getElem_toArray, List.getElem_cons_zero, List.getElem_cons_succ]
        refine wpAnyH_take (i := 29) (v := undef) rfl (by kernel_rfl) (by kernel_rfl) (by kernel_rfl) (fun _ _ _ h => h) (Or.inr ⟨by rfl, rfl⟩) hHeld ?_
        simp only [Act.put, List.setIfInBounds_toArray, List.set_cons_zero, List.set_cons_succ, List.getElem_toArray, List.getElem_cons_zero, List.getElem_cons_succ]
        refine wpAnyH_take (i := 30) (v := undef) rfl (by kernel_rfl) (by kernel_rfl) (by kernel_rfl) (fun _ _ _ h => h) (Or.inr ⟨by rfl, rfl⟩) hHeld ?_
        simp only [Act.put, List.setIfInBounds_toArray, List.set_cons_zero, List.set_cons_succ, List.getElem_toArray, List.getElem_cons_zero, List.getElem_cons_succ]
        refine wpAnyH_take (i := 31) (v := undef) rfl (by kernel_rfl) (by kernel_rfl) (by kernel_rfl) (fun _ _ _ h => h) (Or.inr ⟨by rfl, rfl⟩) hHeld ?_
        simp only [Act.put, List.setIfInBounds_toArray, List.set_cons_zero, List.set_cons_succ, List.getElem_toArray, List.getElem_cons_zero, List.getElem_cons_succ]
        refine wpAnyH_take (i := 32) (v := undef) rfl (by kernel_rfl) (by kernel_rfl) (by kernel_rfl) (fun _ _ _ h => h) (Or.inr ⟨by rfl, rfl⟩) hHeld ?_
        simp only [Act.put, List.setIfInBounds_toArray, List.set_cons_zero, List.set_cons_succ, List.getElem_toArray, List.getElem_cons_zero, List.getElem_cons_succ]
        refine wpAnyH_take (i := 33) (v := (.bool false)) rfl (by kernel_rfl) (by kernel_rfl) (by kernel_rfl) (fun _ _ _ h => h) (Or.inl ⟨by rfl, fun w hSw => by (try dsimp only at hSw); go_simp⟩) hHeld ?_
        simp only [Act.put, List.setIfInBounds_toArray, List.set_cons_zero, List.set_cons_succ, List.getElem_toArray, List.getElem_cons_zero, List.getElem_cons_succ]
        refine wpAnyH_take (i := 34) (v := (.bool false)) rfl (by kernel_rfl) (by kernel_rfl) (by kernel_rfl) (fun _ _ _ h => h) (Or.inl ⟨by rfl, fun w hSw => by (try dsimp only at hSw); go_simp⟩) hHeld ?_
        simp only [Act.put, List.setIfInBounds_toArray, List.set_cons_zero, List.set_cons_succ, List.getElem_toArray, List.getElem_cons_zero, List.getElem_cons_succ]
        refine wpAnyH_done (by kernel_rfl) ?_ _
        go_wp2_with fail
        go_roundg (gk - 1)
        case measure => exact q1
        case rel => exact ⟨0 + 1, q2, by go_num, HB9⟩
      · have HJN : Hid (0 < j) := Nat.pos_of_ne_zero hj0
        obtain ⟨jp, hjp⟩ : ∃ jp, j - 1 = jp := ⟨_, rfl⟩
        have hjpl : jp < SE.length := by omega
        have hbs : befL P SE[j] = some (some SE[jp]) := by
          have h9 := bef_self HOK.out (i := jp) (by omega)
          rw [HP.out] at h9
          simp only [show j = jp + 1 by omega]
          exact h9
        rw [hbs] at hbf
        simp only at hbf
        clear hbs
        go_wp2_with fail
        refine hbf.mono ?_
        rintro o w7 ⟨hb7, x7, y7, rfl, rx7, ry7⟩
        obtain ⟨xa7, xc7, rfl⟩ := rx7.len
        obtain ⟨ya7, yc7, rfl⟩ := ry7.len
        obtain ⟨_, _, e, _, _, h3⟩ := rdE_below HR4.out HB.out (Nat.le_refl _)
        rw [HN.out] at e
        cases e
        obtain ⟨b', off', e', xv, yv, e0, e1, e2, e3, rx, ry⟩ := h3 jp hjpl
        cases e'
        obtain ⟨x6, c6, ex⟩ := rx.len
        obtain ⟨y6, d6, ey⟩ := ry.len
        subst ex ey
        obtain ⟨l7, hl7⟩ : ∃ n, SE[jp].1.length = n := ⟨_, rfl⟩
        obtain ⟨m7, hm7⟩ : ∃ n, SE[jp].2.2.2.length = n := ⟨_, rfl⟩
        obtain ⟨s7, hs7⟩ : ∃ z : Int, (SE[jp].2.1 : Int) = z := ⟨_, rfl⟩
        obtain ⟨t7, ht7⟩ : ∃ z : Int, (SE[jp].2.2.1.toNat : Int) = z := ⟨_, rfl⟩
        obtain ⟨n6, hn6⟩ : ∃ n, n = l7 := ⟨_, rfl⟩
        obtain ⟨o6, ho6⟩ : ∃ n, n = m7 := ⟨_, rfl⟩
        rw [hl7] at rx7 rx e0 ⊢
        rw [hm7] at ry7 ry e3 ⊢
        rw [hs7] at e1 ⊢
        rw [ht7] at e2 ⊢
        rw [← hn6] at rx e0
        rw [← ho6] at ry e3
        have hbz := below_box4 w7 (.cells #[.slice xa7 l7 xc7, .int .u64 s7, .int .u8 t7, .slice ya7 m7 yc7] 45)
        have HB8 : Hid (Below w4.heap.size w4 (w7.alloc (.cells #[.slice xa7 l7 xc7, .int .u64 s7, .int .u8 t7, .slice ya7 m7 yc7] 45)).drew) := (bsplit (bsplit HB6.out hb7) hbz).drew
        have HBr8 : Hid (Below wr.heap.size wr (w7.alloc (.cells #[.slice xa7 l7 xc7, .int .u64 s7, .int .u8 t7, .slice ya7 m7 yc7] 45)).drew) := (bsplit (bsplit HBr6.out hb7) hbz).drew
        have BE8 := ((BE6.below hb7 (Nat.le_refl _)).below hbz (Nat.le_refl _)).drew
        have BA8 := ((BA.below hb7 (Nat.le_refl _)).below hbz (Nat.le_refl _)).drew
        have BB8 := (box4_new w7 (.slice xa7 l7 xc7) (.int .u64 s7) (.int .u8 t7) (.slice ya7 m7 yc7) 45).drew
        have PR0 : Row4 wr b (off + jp * 4) (.slice x6 n6 c6) (.int .u64 s7) (.int .u8 t7) (.slice y6 o6 d6) := ⟨e0, e1, e2, e3⟩
        have PR8 := PR0.below HBr8.out
        have hsm := sameen_any (w7.alloc (.cells #[.slice xa7 l7 xc7, .int .u64 s7, .int .u8 t7, .slice ya7 m7 yc7] 45)).drew (.slice xa5 l5 xc5) (.slice ya5 m5 yc5) (.slice x1 nl x2) (.slice y1 ml y2) SE[j].1 SE[j].2.2.2 SE[j].1 SE[j].2.2.2 sq kk sq kk true (((HRA.out.1.below hb7 (Nat.le_refl _)).below hbz (Nat.le_refl _)).drew) (((HRA.out.2.below hb7 (Nat.le_refl _)).below hbz (Nat.le_refl _)).drew) (HRE.out.1.below HBr8.out (Nat.le_refl _)) (HRE.out.2.below HBr8.out (Nat.le_refl _)) (by simp)
        have HRB : Hid ((Rd (w7.alloc (.cells #[.slice xa7 l7 xc7, .int .u64 s7, .int .u8 t7, .slice ya7 m7 yc7] 45)).drew (.slice xa7 l7 xc7) SE[jp].1 ∧ Rd (w7.alloc (.cells #[.slice xa7 l7 xc7, .int .u64 s7, .int .u8 t7, .slice ya7 m7 yc7] 45)).drew (.slice ya7 m7 yc7) SE[jp].2.2.2) ∧ (Rd (w7.alloc (.cells #[.slice xa7 l7 xc7, .int .u64 s7, .int .u8 t7, .slice ya7 m7 yc7] 45)).drew (.slice x6 n6 c6) SE[jp].1 ∧ Rd (w7.alloc (.cells #[.slice xa7 l7 xc7, .int .u64 s7, .int .u8 t7, .slice ya7 m7 yc7] 45)).drew (.slice y6 o6 d6) SE[jp].2.2.2)) := ⟨⟨(rx7.below hbz (Nat.le_refl _)).drew, (ry7.below hbz (Nat.le_refl _)).drew⟩, ⟨rx.below HBr8.out (Nat.le_refl _), ry.below HBr8.out (Nat.le_refl _)⟩⟩
        have hjI : (0 : Int) < (j : Int) := by omega
        have hjb : decide ((0 : Int) < (j : Int)) = true := decide_eq_true hjI
        have hjm : (j : Int) - 1 = (jp : Int) := by omega
        have hjp0 : (0 : Int) ≤ (jp : Int) := by omega
        have hjpN : (jp : Int) < (N : Int) := by omega
        have HJP : Hid (jp ≤ 1000000) := by show jp ≤ _; omega
        clear hbf hb7 hbz z0 z1 z2 z3 u0 u1 u2 u3 BE6 BA hj0 h3 rx7 ry7 rx ry hl7 hm7 hs7 ht7 hn6 ho6 e0 e1 e2 e3 hjp PR0 d0 d1 d2 d3
        have BE8' := BE8
        obtain ⟨z0, z1, z2, z3⟩ := BE8'
        have BA8' := BA8
        obtain ⟨u0, u1, u2, u3⟩ := BA8'
        have BB8' := BB8
        obtain ⟨v0, v1, v2, v3⟩ := BB8'
        have PR8' := PR8
        obtain ⟨e0, e1, e2, e3⟩ := PR8'
        go_wp2_with fail
        obtain ⟨hq1, hq2⟩ := i64_len' jp HJP.out
        have hjn0 : 0 < j := HJN.out
        go_region_held3 (fun w' => ((w'.cell? ⟨wr.heap.size, 0, none⟩ = some (.slice x1 nl x2) ∧ w'.cell? ⟨wr.heap.size, 1, none⟩ = some (.int .u64 sq) ∧ w'.cell? ⟨wr.heap.size, 2, none⟩ = some (.int .u8 kk) ∧ w'.cell? ⟨wr.heap.size, 3, none⟩ = some (.slice y1 ml y2)) ∧ (w'.cell? ⟨w5.heap.size, 0, none⟩ = some (.slice xa5 l5 xc5) ∧ w'.cell? ⟨w5.heap.size, 1, none⟩ = some (.int .u64 sq) ∧ w'.cell? ⟨w5.heap.size, 2, none⟩ = some (.int .u8 kk) ∧ w'.cell? ⟨w5.heap.size, 3, none⟩ = some (.slice ya5 m5 yc5))) ∧ ((w'.cell? ⟨w7.heap.size, 0, none⟩ = some (.slice xa7 l7 xc7) ∧ w'.cell? ⟨w7.heap.size, 1, none⟩ = some (.int .u64 s7) ∧ w'.cell? ⟨w7.heap.size, 2, none⟩ = some (.int .u8 t7) ∧ w'.cell? ⟨w7.heap.size, 3, none⟩ = some (.slice ya7 m7 yc7)) ∧ (w'.cell? ⟨b, off + jp * 4, none⟩ = some (.slice x6 n6 c6) ∧ w'.cell? ⟨b, off + jp * 4 + 1, none⟩ = some (.int .u64 s7) ∧ w'.cell? ⟨b, off + jp * 4 + 2, none⟩ = some (.int .u8 t7) ∧ w'.cell? ⟨b, off + jp * 4 + 3, none⟩ = some (.slice y6 o6 d6))))
          (first | with_reducible exact ⟨⟨⟨BE10.c0, BE10.c1, BE10.c2, BE10.c3⟩, ⟨BA10.c0, BA10.c1, BA10.c2, BA10.c3⟩⟩, ⟨⟨BB10.c0, BB10.c1, BB10.c2, BB10.c3⟩, ⟨PR10.c0, PR10.c1, PR10.c2, PR10.c3⟩⟩⟩ | with_reducible exact ⟨⟨⟨BE9.c0, BE9.c1, BE9.c2, BE9.c3⟩, ⟨BA9.c0, BA9.c1, BA9.c2, BA9.c3⟩⟩, ⟨⟨BB9.c0, BB9.c1, BB9.c2, BB9.c3⟩, ⟨PR9.c0, PR9.c1, PR9.c2, PR9.c3⟩⟩⟩ | exact ⟨⟨⟨BE8.c0, BE8.c1, BE8.c2, BE8.c3⟩, ⟨BA8.c0, BA8.c1, BA8.c2, BA8.c3⟩⟩, ⟨⟨BB8.c0, BB8.c1, BB8.c2, BB8.c3⟩, ⟨PR8.c0, PR8.c1, PR8.c2, PR8.c3⟩⟩⟩)
          (first
            | (go_at_call_of 25 (Value.agg #[.slice xa5 l5 xc5, .int .u64 sq, .int .u8 kk, .slice ya5 m5 yc5]); refine hsm.mono ?_; rintro e w9 ⟨rfl, hb9⟩
               have HB9 : Hid (Below w4.heap.size w4 w9) := bsplit HB8.out hb9
               have BE9 := BE8.below hb9 (Nat.le_refl _)
               have BA9 := BA8.below hb9 (Nat.le_refl _)
               have BB9 := BB8.below hb9 (Nat.le_refl _)
               have PR9 := PR8.below hb9
               have hsm2 := sameen_any w9 (.slice xa7 l7 xc7) (.slice ya7 m7 yc7) (.slice x6 n6 c6) (.slice y6 o6 d6) SE[jp].1 SE[jp].2.2.2 SE[jp].1 SE[jp].2.2.2 s7 t7 s7 t7 true (HRB.out.1.1.below hb9 (Nat.le_refl _)) (HRB.out.1.2.below hb9 (Nat.le_refl _)) (HRB.out.2.1.below hb9 (Nat.le_refl _)) (HRB.out.2.2.below hb9 (Nat.le_refl _)) (by simp))
            | (go_at_call_of 25 (Value.agg #[.slice xa7 l7 xc7, .int .u64 s7, .int .u8 t7, .slice ya7 m7 yc7]); refine hsm2.mono ?_; rintro e w10 ⟨rfl, hb10⟩
               have HB10 : Hid (Below w4.heap.size w4 w10) := bsplit HB9.out hb10
               have BE10 := BE9.below hb10 (Nat.le_refl _)
               have BA10 := BA9.below hb10 (Nat.le_refl _)
               have BB10 := BB9.below hb10 (Nat.le_refl _)
               have PR10 := PR9.below hb10)
            | fail)
        clear z0 z1 z2 z3 u0 u1 u2 u3 v0 v1 v2 v3 e0 e1 e2 e3 hq1 hq2
        go_wp2_with fail
        go_roundg (gk - 1)
        case measure => exact q1
        case rel => exact ⟨j + 1, q2, by go_num, HB10⟩
    · have hjI : ¬ (j : Int) < (N : Int) := by omega
      have HBE : Hid (Below w.heap.size w wr) := bsplit HB4.out HB.out
      go_wp2
      go_ret
      exact ⟨rfl, HBE.out⟩

theorem leafPlaces_walk (a0 : Option Addr) (len0 cap0 : Nat) (z0 : List EnB) (w : World) (w0 : ArgE w (.slice a0 len0 cap0) z0 ∧ ∀ e ∈ z0, e.2.1 < 18446744073709551616) :
    Calls Try.prog 7 #[.slice a0 len0 cap0] w fun e w' => e = .returned (.bool true) ∧ Below w.heap.size w w' :=
  lplaces w _ z0 w0.1

end Go.Proofs.Ytbmpnafbmgcniaa
