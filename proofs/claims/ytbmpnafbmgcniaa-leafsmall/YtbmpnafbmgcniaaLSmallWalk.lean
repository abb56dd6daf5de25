/- LeafSmall answers true. -/
import Derived.Test.YtbmpnafbmgcniaaLfAwake
import Derived.Test.YtbmpnafbmgcniaaSrtWalk
namespace Go.Proofs.Ytbmpnafbmgcniaa
set_option maxRecDepth 20000
open Go.RowKit
set_option linter.unusedVariables false

theorem wideE_at {es : List EnB} {j : Nat} (h : j < es.length) : wideE es (j + 1) = wideE es j + (es[j].1.length + 8 + es[j].2.2.2.length + 6) := by
  rw [wideE, List.getElem?_eq_getElem h]

theorem packB_four {n : Nat} {f v : List UInt8} (hn : n ≤ f.length) (hf : f.length ≤ 72) (hv : v.length ≤ 512) : (packB n f v).length ≤ f.length + v.length + 4 := by
  unfold packB
  simp only [List.length_append, List.length_drop, Mth.numB_length]
  have h1 : Mth.numL n = 1 := by unfold Mth.numL; rw [if_pos (by omega)]
  have h2 : Mth.numL (f.length - n) = 1 := by unfold Mth.numL; rw [if_pos (by omega)]
  have h3 : Mth.numL v.length ≤ 2 := by unfold Mth.numL; split; omega; rw [if_pos (by omega)]; exact Nat.le_refl _
  omega

theorem bodyTo_tight {es : List EnB} (h : ∀ e ∈ es, chkEn e = 0) : ∀ j, j ≤ es.length → (bodyTo es j).length + 2 * j ≤ wideE es j
  | 0, _ => Nat.le_refl _
  | j + 1, hj => by
    have ih := bodyTo_tight h j (by omega)
    have hjl : j < es.length := by omega
    obtain ⟨_, h64, _, _, h512, _⟩ := chkEn_ok (h _ (List.getElem_mem hjl))
    have hsh := shN_le es j
    rw [frm_at hjl] at hsh
    have := packB_four (v := es[j].2.2.2) hsh (by rw [formB_len]; omega) h512
    rw [bodyTo, List.length_append, wideE_at hjl, entB_at hjl]
    rw [formB_len] at this
    omega

theorem leafB_few {es : List EnB} (h : chkLf es = 0) : (leafB es).length ≤ 4 + wideE es es.length := by
  obtain ⟨h1, h2, h3⟩ := chkLf_ok.1 h
  unfold leafB
  rw [List.length_append, List.length_append, wordsB_len, startsTo_len, show (wordB ((es.length + 3) / 4)).length = 2 from rfl]
  have h4 := bodyTo_tight h2 es.length (Nat.le_refl _)
  omega

set_option maxHeartbeats 4000000 in
theorem lsmall (w : World) (v : Value) (es : List EnB) (hv : ArgE w v es) :
    Calls Try.prog 8 #[v] w fun e w' => e = .returned (.bool true) ∧ Below w.heap.size w w' := by
  have HV : Hid (ArgE w v es) := hv
  obtain ⟨va, vc, rfl⟩ := hv.shape
  clear hv
  go_enter Try.func8, Try.ntmps8
  go_wp2_with fail
  refine (lawake_any w).mono ?_
  rintro e w1 ⟨rfl, hb1⟩
  have HB1 : Hid (Below w.heap.size w w1) := hb1
  have hfw := fewE_any w1 _ es 64 (argE_below HV.out hb1 (Nat.le_refl _)) (by decide)
  clear hb1
  go_wp2_with fail
  refine hfw.mono ?_
  rintro e w2 ⟨x2, rfl, o2, hb2⟩
  have HB2 : Hid (Below w.heap.size w w2) := bsplit HB1.out hb2
  obtain ⟨FE, hFE⟩ : ∃ F, fewE 64 es = F := ⟨_, rfl⟩
  have hFl : FE.length ≤ 64 := by rw [← hFE]; exact fewE_len _ _
  rw [hFE] at o2
  have hso := sort_any w2 x2 FE o2.rd (by omega)
  obtain ⟨xa2, xc2, rfl⟩ := o2.shape
  have hok := sortE_ok hFl
  clear hfw hb2 o2 hFE
  go_wp2_with fail
  refine hso.mono ?_
  rintro e w3 ⟨x3, rfl, o3, hb3⟩
  have HB3 : Hid (Below w.heap.size w w3) := bsplit HB2.out hb3
  obtain ⟨SE, hSE⟩ : ∃ S, sortE FE = S := ⟨_, rfl⟩
  rw [hSE] at o3 hok
  have HR3 : Hid (RdE w3 x3 SE) := o3.rd hb3
  have hbu := lbuild_ok w3 x3 SE (o3.rd hb3) hok
  have HOK : Hid (chkLf SE = 0) := hok
  obtain ⟨xa3, xc3, hx3, hc1, hc2, _⟩ := o3.rd hb3
  subst hx3
  obtain ⟨N, hN⟩ : ∃ N, SE.length = N := ⟨_, rfl⟩
  have HN : Hid (SE.length = N) := hN
  have hN64 : N ≤ 64 := by rw [← hN]; exact (chkLf_ok.1 hok).1
  rw [hN] at hbu HR3 hc1 ⊢
  unfold maxLen at hc2
  clear hso hb3 o3 hSE hok hN
  go_wp2_with fail
  refine hbu.mono ?_
  rintro e w4 ⟨p, rfl, op, hb4⟩
  have HB4 : Hid (Below w.heap.size w w4) := bsplit HB3.out hb4
  obtain ⟨gp, cp, rfl⟩ := op.shape
  have HR4 : Hid (RdE w4 (.slice xa3 N xc3) SE) := rdE_below HR3.out hb4 (Nat.le_refl _)
  have hlen := leafB_few HOK.out
  rw [HN.out] at hlen
  obtain ⟨L, hL⟩ : ∃ L, (leafB SE).length = L := ⟨_, rfl⟩
  rw [hL] at hlen ⊢
  have HLEN : Hid (L ≤ 4 + wideE SE N) := hlen
  clear hbu hb4 op hlen hL
  go_wp2_with fail
  go_loopg [5, 20] N (fun gk nv iv wr => ∃ (j n : Nat), gk + j = N ∧ iv = .int .i64 (j : Int) ∧ nv = .int .i64 (n : Int) ∧ n ≤ 40000 ∧ Hid (n = 4 + wideE SE j) ∧ Hid (Below w4.heap.size w4 wr))
  case atStart => exact ⟨0, 4, by omega, rfl, rfl, by omega, rfl, Below.refl _ _⟩
  case round =>
    obtain ⟨j, n, hj, rfl, rfl, hn, HNN, HB⟩ := hrel
    by_cases hlt : j < N
    · have hlt2 : j < SE.length := by rw [HN.out]; exact hlt
      obtain ⟨_, _, e, _, _, h3⟩ := rdE_below HR4.out HB.out (Nat.le_refl _)
      rw [HN.out] at e
      cases e
      obtain ⟨b, off, rfl, xv, yv, c0, c1, c2, c3, rx, ry⟩ := h3 j hlt2
      obtain ⟨x1, x2, ex⟩ := rx.len
      obtain ⟨y1, y2, ey⟩ := ry.len
      subst ex ey
      obtain ⟨q1, q2⟩ := gk_nxt hj hlt
      obtain ⟨_, l64, _, _, l512, _⟩ := chkEn_ok ((chkLf_ok.1 HOK.out).2.1 _ (List.getElem_mem hlt2))
      have hwn := wideE_at hlt2
      have hwm := wideE_most (chkLf_ok.1 HOK.out).2.1 (j + 1)
      obtain ⟨nl, hnl⟩ : ∃ z, SE[j].1.length = z := ⟨_, rfl⟩
      obtain ⟨ml, hml⟩ : ∃ z, SE[j].2.2.2.length = z := ⟨_, rfl⟩
      obtain ⟨sq, hsq⟩ : ∃ z : Int, (SE[j].2.1 : Int) = z := ⟨_, rfl⟩
      obtain ⟨kk, hkk⟩ : ∃ z : Int, (SE[j].2.2.1.toNat : Int) = z := ⟨_, rfl⟩
      rw [hnl] at c0 l64 hwn
      rw [hml] at c3 l512 hwn
      rw [hsq] at c1
      rw [hkk] at c2
      have HW : Hid (wideE SE (j + 1) = wideE SE j + (nl + 8 + ml + 6) ∧ wideE SE (j + 1) ≤ (j + 1) * 590) := ⟨hwn, hwm⟩
      obtain ⟨z0, z1, z2, z3⟩ := box4_new wr (.slice x1 nl x2) (.int .u64 sq) (.int .u8 kk) (.slice y1 ml y2) 45
      have HB2 : Hid (Below w4.heap.size w4 (wr.alloc (.cells #[.slice x1 nl x2, .int .u64 sq, .int .u8 kk, .slice y1 ml y2] 45))) := bsplit HB.out (below_box4 wr _)
      have hn2 : (n : Int) + ((nl : Int) + 8 + (ml : Int) + 6) = ((n + (nl + 8 + ml + 6) : Nat) : Int) := by omega
      have hnlI : (nl : Int) ≤ 64 := by omega
      have hmlI : (ml : Int) ≤ 512 := by omega
      have hnI : (n : Int) ≤ 40000 := by omega
      clear h3 rx ry hnl hml hsq hkk hwn hwm hn2
      go_wp2_with fail
      go_roundg (gk - 1)
      case measure => exact q1
      case rel => exact ⟨j + 1, n + (nl + 8 + ml + 6), q2, by go_num, by go_num, by have := HW.out; have := HNN.out; omega, by show _ = _; have := HW.out; have := HNN.out; omega, HB2⟩
    · have hjN : j = N := by omega
      subst hjN
      have hLI : (L : Int) ≤ (n : Int) := by have := HLEN.out; have := HNN.out; omega
      have HBE : Hid (Below w.heap.size w wr) := bsplit HB4.out HB.out
      go_wp2
      go_ret
      exact ⟨rfl, HBE.out⟩

theorem leafSmall_walk (a0 : Option Addr) (len0 cap0 : Nat) (z0 : List EnB) (w : World) (w0 : ArgE w (.slice a0 len0 cap0) z0 ∧ ∀ e ∈ z0, e.2.1 < 18446744073709551616) :
    Calls Try.prog 8 #[.slice a0 len0 cap0] w fun e w' => e = .returned (.bool true) ∧ Below w.heap.size w w' :=
  lsmall w _ z0 w0.1

end Go.Proofs.Ytbmpnafbmgcniaa
