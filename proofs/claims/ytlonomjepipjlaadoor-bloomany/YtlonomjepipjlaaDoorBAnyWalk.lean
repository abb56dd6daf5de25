/- BloomAny answers true: any bytes are a filter, or let all through; they come back untouched. -/
import Derived.Test.YtlonomjepipjlaaDoorBlAwake
import Derived.Test.YtlonomjepipjlaaDoorBlRef
import Derived.Test.YtlonomjepipjlaaDoorClone
import Derived.Test.YtlonomjepipjlaaDoorLists
namespace Go.Proofs.YtlonomjepipjlaaDoor
open Go.RowKit
set_option linter.unusedVariables false

set_option maxHeartbeats 4000000 in
set_option maxRecDepth 100000 in
theorem bany (w : World) (vx vk : Value) (x cx y cy : List UInt8) (CX : Hid (x.take 200 = cx)) (CY : Hid (y.take 60 = cy)) (hcx : cx.length ≤ 200) (hcy : cy.length ≤ 60) (hx : Arg w vx x) (hy : Arg w vk y) (ht : Tab w) :
    Calls Tryd.prog 5 #[vx, vk] w fun e w' => e = .returned (.bool true) ∧ Below w.heap.size w w' := by
  obtain ⟨i0, hi, hz0, hz1, hz2⟩ := info_parts info5
  have haw := blawake_any w ht
  obtain ⟨xa, xc, rfl⟩ := Arg.shape hx
  obtain ⟨ya, yc, rfl⟩ := Arg.shape hy
  have HX : Hid (Arg w (.slice xa x.length xc) x) := hx
  have HY : Hid (Arg w (.slice ya y.length yc) y) := hy
  have HT : Hid (Tab w) := ht
  clear hx hy ht
  go_enter Tryd.func5, Tryd.ntmps5
  go_wp2_with fail
  refine haw.mono ?_
  rintro e w1 ⟨rfl, hb1⟩
  have hc1 := cut_any w1 _ x 200 (HX.out.below hb1 (Nat.le_refl _)) (by omega)
  rw [CX.out] at hc1
  have HB1 : Hid (Below w.heap.size w w1) := hb1
  clear haw hb1
  go_wp2_with fail
  refine hc1.mono ?_
  rintro e w2 ⟨vp, rfl, op, hb2⟩
  obtain ⟨gp, kp, rfl⟩ := op.shape
  have HB2 : Hid (Below w.heap.size w w2) := HB1.out.trans (hb2.mono HB1.out.size)
  have HP2 : Hid (Own w1.heap.size w2 (.slice (some ⟨gp, 0, none⟩) cx.length kp) cx) := op
  have hc2 := cut_any w2 _ y 60 (HY.out.below HB2.out (Nat.le_refl _)) (by omega)
  rw [CY.out] at hc2
  clear hc1 hb2 op
  go_wp2_with fail
  refine hc2.mono ?_
  rintro e w3 ⟨vq, rfl, oq, hb3⟩
  obtain ⟨gy, ky, rfl⟩ := oq.shape
  have HB3 : Hid (Below w.heap.size w w3) := HB2.out.trans (hb3.mono HB2.out.size)
  have HP3 : Hid (Rd w3 (.slice (some ⟨gp, 0, none⟩) cx.length kp) cx) := HP2.out.rd.below hb3 (Nat.le_refl _)
  have HY3 : Hid (Rd w3 (.slice (some ⟨gy, 0, none⟩) cy.length ky) cy) := oq.rd
  have hcp := copy_any w3 _ cx HP3.out.arg (by omega)
  have hgp := Nat.lt_of_lt_of_le HP2.out.lt.2 hb3.size
  have hgy := oq.lt.2
  clear hc2 hb3 oq HP2
  go_wp2_with fail
  refine hcp.mono ?_
  rintro e w4 ⟨vg, rfl, og, hb4⟩
  obtain ⟨gq, kq, rfl⟩ := og.shape
  have hlit := lit_row w4 w4.heap.size (Nat.le_refl _) 165
  have hb165 : ((165 : UInt8).toNat : Int) = 165 := by decide
  rw [hb165] at hlit
  have hqa := og.row.alloc (.cells #[.int .u8 165] 5)
  have hB4 := HB3.out.trans (hb4.mono HB3.out.size)
  have hB4a := hB4.alloc hB4.size (.cells #[.int .u8 165] 5)
  have hbn := below_new w4 (.cells #[.int .u8 165] 5)
  have rp4 := (HP3.out.below hb4 (Nat.le_refl _)).below hbn (Nat.le_refl _)
  have ry4 := (HY3.out.below hb4 (Nat.le_refl _)).below hbn (Nat.le_refl _)
  have hs3 : w3.heap.size ≤ w4.heap.size := hb4.size
  have HS3 : Hid (w.heap.size ≤ w3.heap.size) := HB3.out.size
  clear hcp hb4 og hbn hB4 hb165
  go_wp2_with (first | (at_builtin; refine wpList_append_own _ rfl (.tmp 13) (.tmp 14) 26 rfl w3.heap.size 5 i0 (.int .u8 0) 1 1 Tryd.underlying26 hi hz0 hz1 hz2 rfl (by decide) (.slice (some ⟨gq, 0, none⟩) cx.length kq) cx.length (bv cx) rfl hqa ⟨w4.heap.size, 0, none⟩ 1 1 (bv [165]) rfl rfl (hlit.cells rfl) (bv_one _) (by simp only [maxLen]; omega) (by omega) (by simp; omega) ?_; intro v' w5 ho' hgr' hn'; obtain ⟨gv, kv, hvv, hk1, hk2, ov⟩ := app_shape ho' rfl rfl (fun e => by have := (hn'.1 e).1; cases this); subst hvv) | fail)
  have hB5 : Below w.heap.size w w5 := hB4a.grown hgr' hB4a.size (fun k' e => by have := (hqa.lt k' e).1; have := HS3.out; omega)
  have rp5 := rp4.grown hgr' (fun e => by have := (hqa.lt gp e.symm).1; omega)
  have ry5 := ry4.grown hgr' (fun e => by have := (hqa.lt gy e.symm).1; omega)
  have rf5 := ov.rd
  have hcq : ∀ j u, (bv (cx ++ [165]))[j]? = some u → w5.cell? ⟨gv, 0 + j, none⟩ = some u := fun j u hu => by
    have := (rd_cells (by simpa using rf5)).2 j u hu
    rwa [Addr.add_lit] at this
  have rq5 : Rd w5 (.slice (some ⟨gv, 0, none⟩) cx.length kv) cx := by
    have := rd_sub hcq 0 cx.length kv (by omega) (by simp only [maxLen]; omega) (by simp)
    simpa using this
  have hc5 : w5.cell? ⟨gv, cx.length, none⟩ = some (.int .u8 165) := by
    have := hcq cx.length (.int .u8 165) (by simp [bv])
    simpa using this
  have hgv := ov.lt.2
  have hh1 := has_any w5 (some ⟨gv, 0, none⟩) kv (some ⟨gy, 0, none⟩) cy.length ky cx cy (by omega) rq5 ry5 (HT.out.below hB5 (Nat.le_refl _))
  obtain ⟨H, hH⟩ : ∃ H, hasB cx cy = H := ⟨_, rfl⟩
  have HH : Hid (hasB cx cy = H) := hH
  rw [hH] at hh1
  have HB5 : Hid (Below w.heap.size w w5) := hB5
  have HP5 : Hid (Rd w5 (.slice (some ⟨gp, 0, none⟩) cx.length kp) cx) := rp5
  have HQ5 : Hid (Rd w5 (.slice (some ⟨gv, 0, none⟩) cx.length kv) cx) := rq5
  have HY5 : Hid (Rd w5 (.slice (some ⟨gy, 0, none⟩) cy.length ky) cy) := ry5
  have HC5 : Hid (w5.cell? ⟨gv, cx.length, none⟩ = some (.int .u8 165) ∧ gv < w5.heap.size) := ⟨hc5, hgv⟩
  clear ho' hgr' hn' hqa rp4 ry4 hB4a ov rf5 hcq hlit hH hB5 rp5 rq5 ry5 hc5 hgv
  go_wp2_with fail
  refine hh1.mono ?_
  rintro e w6 ⟨rfl, hb6⟩
  have HB6 : Hid (Below w.heap.size w w6) := HB5.out.trans (hb6.mono HB5.out.size)
  have HB56 : Hid (Below w5.heap.size w5 w6) := hb6
  have hh2 := rhas_any w6 (some ⟨gp, 0, none⟩) kp (some ⟨gy, 0, none⟩) ky cx cy (by omega) (by omega) (HP5.out.below hb6 (Nat.le_refl _)) (HY5.out.below hb6 (Nat.le_refl _))
  rw [HH.out] at hh2
  clear hh1 hb6
  go_wp2_with fail
  refine hh2.mono ?_
  rintro e w7 ⟨rfl, hb7⟩
  have hB57 := HB56.out.trans (hb7.mono HB56.out.size)
  have HB7 : Hid (Below w.heap.size w w7) := HB6.out.trans (hb7.mono HB6.out.size)
  have hc7 : w7.cell? ⟨gv, cx.length, none⟩ = some (.int .u8 165) := by rw [hB57.cell (p := ⟨gv, cx.length, none⟩) HC5.out.2]; exact HC5.out.1
  have hsm := same_b w7 _ _ cx cx true (HQ5.out.below hB57 (Nat.le_refl _)) (HP5.out.below hB57 (Nat.le_refl _)) (beq_self_eq_true cx)
  clear hh2 hb7 hB57
  cases H
  all_goals
    go_wp2_with fail
    refine hsm.mono ?_
    rintro e w8 ⟨rfl, hw8⟩
    subst w8
    clear hsm
    go_wp2
    go_ret
    exact ⟨ret_bo (by simp), HB7.out⟩

theorem bloomAny_walk (a0 : Option Addr) (len0 cap0 : Nat) (z0 : List Int) (a1 : Option Addr) (len1 cap1 : Nat) (z1 : List Int) (w : World) (w0 : IsRow .u8 w a0 len0 cap0 z0) (w1 : IsRow .u8 w a1 len1 cap1 z1) (ht : Tab w) :
    Calls Tryd.prog 5 #[.slice a0 len0 cap0, .slice a1 len1 cap1] w fun e w' => e = .returned (.bool true) ∧ Below w.heap.size w w' :=
  bany w _ _ _ _ _ _ rfl rfl (List.length_take_le _ _) (List.length_take_le _ _) (arg_of w0) (arg_of w1) ht

end Go.Proofs.YtlonomjepipjlaaDoor
