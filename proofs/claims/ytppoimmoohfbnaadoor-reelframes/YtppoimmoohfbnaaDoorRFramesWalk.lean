/- ReelFrames answers true. -/
import Derived.Test.YtppoimmoohfbnaaDoorRefFrame3
namespace Go.Proofs.YtppoimmoohfbnaaDoor
open Go.RowKit
set_option linter.unusedVariables false

set_option maxHeartbeats 4000000 in
set_option maxRecDepth 20000 in
theorem rframes (w : World) (z : Int) (vx : Value) (x cx : List UInt8) (CX : Hid (x.take 600 = cx)) (hcx : cx.length ≤ 600) (hx : Arg w vx x) (hT : Tab w) (h0 : 0 < w.heap.size) :
    Calls Tryd.prog 3 #[.int .i64 z, vx] w fun e w' => e = .returned (.bool true) ∧ Below w.heap.size w w' := by
  obtain ⟨i0, hi, hz0, hz1, hz2⟩ := info_parts info5
  have HT : Hid (Tab w) := hT
  have H0 : Hid (0 < w.heap.size) := h0
  clear hT h0
  go_enter Tryd.func3, Tryd.ntmps3
  go_wp2_with fail
  refine (rawake_any w HT.out H0.out).mono ?_
  rintro e w1 ⟨rfl, hb1⟩
  have hx1 := hx.below hb1 (Nat.le_refl _)
  clear hx
  go_wp2_with fail
  refine (cut_any _ _ x 600 hx1 (by omega)).mono ?_
  rintro e w2 ⟨vp, rfl, op, hb2⟩
  rw [CX.out] at op
  have hB2 := hb1.trans (hb2.mono hb1.size)
  obtain ⟨gp, kp, hvp⟩ := op.shape
  subst hvp
  have hgp := op.lt.2
  clear hb1 hb2 hx1
  go_wp2_with fail
  refine (copy_any _ _ cx op.rd.arg (by omega)).mono ?_
  rintro e w3 ⟨vq, rfl, oq, hb3⟩
  have hB3 := hB2.trans (hb3.mono hB2.size)
  have op3 := op.below hb3 (Nat.le_refl _)
  obtain ⟨gq, kq, hvq⟩ := oq.shape
  subst hvq
  have hgq := oq.lt
  clear hb3 op
  have hlit := lit_row w3 w3.heap.size (Nat.le_refl _) 165
  have hb165 : ((165 : UInt8).toNat : Int) = 165 := by decide
  rw [hb165] at hlit
  have hqa := oq.row.alloc (.cells #[.int .u8 165] 5)
  have rp3 := op3.rd.below ((Below.refl w3.heap.size w3).alloc (Nat.le_refl _) (.cells #[.int .u8 165] 5)) (Nat.le_refl _)
  have hB3a := hB3.alloc hB3.size (.cells #[.int .u8 165] 5)
  have hs2 := hB2.size
  have hs3 : w2.heap.size ≤ w3.heap.size := by omega
  clear op3 oq hB2 hB3 hb165
  go_wp2_with (first | (at_builtin; refine wpList_append_own _ rfl (.tmp 15) (.tmp 16) 22 rfl w2.heap.size 5 i0 (.int .u8 0) 1 1 Tryd.underlying22 hi hz0 hz1 hz2 rfl (by decide) (.slice (some ⟨gq, 0, none⟩) cx.length kq) cx.length (bv cx) rfl hqa ⟨w3.heap.size, 0, none⟩ 1 1 (bv [165]) rfl rfl (hlit.cells rfl) (bv_one _) (by simp only [maxLen]; omega) (by omega) (by simp; omega) ?_; intro v' w4 ho' hgr' hn'; obtain ⟨gv, kv, hvv, hk1, hk2, ov⟩ := app_shape ho' rfl rfl (fun e => by have := (hn'.1 e).1; cases this); subst hvv) | fail)
  have hB4 : Below w.heap.size w w4 := hB3a.grown hgr' hB3a.size (fun k' e => by have := (hqa.lt k' e).1; omega)
  have rp4 := rp3.grown hgr' (fun e => by have := (hqa.lt gp e.symm).1; omega)
  have rf4 := ov.rd
  have hcq : ∀ j u, (bv (cx ++ [165]))[j]? = some u → w4.cell? ⟨gv, 0 + j, none⟩ = some u := fun j u hu => by
    have := (rd_cells (by simpa using rf4)).2 j u hu
    rwa [Addr.add_lit] at this
  have rq4 : Rd w4 (.slice (some ⟨gv, 0, none⟩) cx.length kv) cx := by
    have := rd_sub hcq 0 cx.length kv (by omega) (by simp only [maxLen]; omega) (by simp)
    simpa using this
  have hc4 : w4.cell? ⟨gv, cx.length, none⟩ = some (.int .u8 165) := by
    have := hcq cx.length (.int .u8 165) (by simp [bv])
    simpa using this
  have hgv := ov.lt.2
  have hgp4 : gp < w4.heap.size := by have := hgr'.size; simp at this; omega
  clear ho' hgr' hn' hqa rp3 hB3a ov rf4 hcq hlit
  have hr1 : Calls Tryd.prog 13 #[.int .i64 z, .slice (some ⟨gv, 0, none⟩) cx.length kv] w4 fun e w' => ∃ r F E, e = .returned (.tuple #[r, .int .i64 (E : Int)]) ∧ Rd w' r F ∧ Below w4.heap.size w4 w' ∧ ((z < 0 ∧ F = [] ∧ E = 1) ∨ (0 ≤ z ∧ F = frameB z.toNat cx ∧ E = (0 : Int))) := by
    by_cases hz : z < 0
    · refine (frame_refused w4 z _ cx rq4 hz).mono ?_
      rintro e w' ⟨rfl, rfl⟩
      exact ⟨_, [], 1, rfl, .inl ⟨rfl, rfl⟩, Below.refl _ _, .inl ⟨hz, rfl, rfl⟩⟩
    · have := frame_any w4 z.toNat _ cx rq4 (fun b' e => by cases e; exact hgv) (by omega) (HT.out.below hB4 (Nat.le_refl _)) (Nat.lt_of_lt_of_le H0.out hB4.size)
      rw [show ((z.toNat : Nat) : Int) = z by omega] at this
      refine this.mono ?_
      rintro e w' ⟨g, c, rfl, o, hb⟩
      exact ⟨_, _, 0, rfl, o.rd, hb, .inr ⟨by omega, rfl, rfl⟩⟩
  go_wp2_with fail
  refine hr1.mono ?_
  rintro e w5 ⟨r5, F, E, rfl, rr5, hb5, hcase⟩
  obtain ⟨r5a, r5c, hr5⟩ := rr5.len
  subst hr5
  have rp5 := rp4.below hb5 (Nat.le_refl _)
  have rq5 := rq4.below hb5 (Nat.le_refl _)
  have hc5 : w5.cell? ⟨gv, cx.length, none⟩ = some (.int .u8 165) := by rw [hb5.cell (p := ⟨gv, cx.length, none⟩) hgv]; exact hc4
  have hgv5 := Nat.lt_of_lt_of_le hgv hb5.size
  have hgp5 := Nat.lt_of_lt_of_le hgp4 hb5.size
  have hB5 := hB4.trans (hb5.mono hB4.size)
  clear hr1 hb5 rp4 rq4 hc4 hB4 hgv hgp4
  have hr2 : Calls Tryd.prog 14 #[.int .i64 z, .slice (some ⟨gp, 0, none⟩) cx.length kp] w5 fun e w' => ∃ r, e = .returned (.tuple #[r, .int .i64 (E : Int)]) ∧ Rd w' r F ∧ Below w5.heap.size w5 w' := by
    rcases hcase with ⟨hz, rfl, rfl⟩ | ⟨hz, rfl, rfl⟩
    · refine (rframe_refused w5 z _ cx rp5 hz).mono ?_
      rintro e w' ⟨rfl, rfl⟩
      exact ⟨_, rfl, .inl ⟨rfl, rfl⟩, Below.refl _ _⟩
    · have := rframe_any w5 z.toNat _ cx rp5 (fun b' e => by cases e; exact hgp5) (by omega)
      rw [show ((z.toNat : Nat) : Int) = z by omega] at this
      refine this.mono ?_
      rintro e w' ⟨g, c, rfl, o, hb⟩
      exact ⟨_, rfl, o.rd, hb⟩
  clear hcase
  go_wp2_with fail
  refine hr2.mono ?_
  rintro e w6 ⟨r6, rfl, rr6, hb6⟩
  obtain ⟨r6a, r6c, hr6⟩ := rr6.len
  subst hr6
  have rr56 := rr5.below hb6 (Nat.le_refl _)
  have rp6 := rp5.below hb6 (Nat.le_refl _)
  have rq6 := rq5.below hb6 (Nat.le_refl _)
  have hc6 : w6.cell? ⟨gv, cx.length, none⟩ = some (.int .u8 165) := by rw [hb6.cell (p := ⟨gv, cx.length, none⟩) hgv5]; exact hc5
  have hB6 := hB5.trans (hb6.mono hB5.size)
  clear hr2 hb6 rr5 rp5 rq5 hc5 hB5 hgv5 hgp5
  go_wp2_with fail
  refine (same_b _ _ _ _ _ true rr56 rr6 (by simp)).mono ?_
  rintro e w7 ⟨rfl, hw⟩
  subst hw
  clear rr56 rr6
  go_wp2_with fail
  refine (same_b _ _ _ _ _ true rq6 rp6 (by simp)).mono ?_
  rintro e w7 ⟨rfl, hw⟩
  subst hw
  clear rq6 rp6
  go_wp2
  go_ret
  exact ⟨retB (by simp), hB6⟩

theorem reelFrames_walk (z : Int) (a0 : Option Addr) (len0 cap0 : Nat) (z0 : List Int) (w : World) (wz : (Lit.int .i64 z).wf = true) (w0 : IsRow .u8 w a0 len0 cap0 z0) (ht : Tab w) :
    Calls Tryd.prog 3 #[.int .i64 z, .slice a0 len0 cap0] w fun e w' => e = .returned (.bool true) ∧ Below w.heap.size w w' :=
  rframes w z _ _ _ rfl (List.length_take_le _ _) (arg_of w0) ht (World.block_lt_of_cell? w _ (ht 0 (by decide)))

end Go.Proofs.YtppoimmoohfbnaaDoor
