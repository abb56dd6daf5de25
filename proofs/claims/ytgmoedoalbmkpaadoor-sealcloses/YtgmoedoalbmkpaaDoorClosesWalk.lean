/- SealCloses answers true: every text has its seal, and is read out of it. -/
import Derived.Test.YtgmoedoalbmkpaaDoorAwake
import Derived.Test.YtgmoedoalbmkpaaDoorOpen
import Derived.Test.YtgmoedoalbmkpaaDoorRefClose
namespace Go.Proofs.YtgmoedoalbmkpaaDoor
open Go.RowKit

theorem open_own (w : World) (v : Value) (t : List UInt8) (hv : Rd w v (sealB t)) (hl : t.length ≤ 1000000) (ht : Tab w) :
    Calls Tryd.prog 19 #[v] w fun e w' => ∃ x, e = .returned (.tuple #[x, .int .i64 0]) ∧ Own w.heap.size w' x t ∧ Below w.heap.size w w' := by
  refine (open_long w v t _ _ _ _ hv hl ht false ?_).mono ?_
  · have := Crc.low_four (Crc.mask (Crc.sum t)) (Crc.mask_lt _)
    show (((Crc.low (Crc.four (Crc.mask (Crc.sum t))) : Nat) : Int) != _) = false
    rw [this]; simp
  · rintro e w' ⟨x, y, rfl, ⟨ox, rfl⟩, hb⟩
    exact ⟨x, rfl, ox, hb⟩

set_option maxHeartbeats 4000000 in
set_option maxRecDepth 20000 in
theorem closes_walk (w : World) (vx : Value) (x cx : List UInt8) (CX : Hid (x.take 600 = cx)) (hcx : cx.length ≤ 600) (hx : Arg w vx x) (ht : Tab w) :
    Calls Tryd.prog 5 #[vx] w fun e w' => e = .returned (.bool true) ∧ Below w.heap.size w w' := by
  obtain ⟨i0, hi, hz0, hz1, hz2⟩ := info_parts info5
  have ht0 : Hid (Tab w) := ht
  go_enter Tryd.func5, Tryd.ntmps5
  go_wp2_with fail
  refine (awake_any _ ht).mono ?_
  rintro e w1 ⟨rfl, hb1⟩
  have hx1 := hx.below hb1 (Nat.le_refl _)
  clear hx ht
  go_wp2_with fail
  refine (cut_any _ _ x 600 hx1 (by omega)).mono ?_
  rintro e w2 ⟨vp, rfl, op, hb2⟩
  rw [CX.out] at op
  have hB2 := hb1.trans (hb2.mono hb1.size)
  obtain ⟨gp, kp, hvp⟩ := op.shape
  subst hvp
  have hgp := op.lt.2
  clear hb1 hb2 hx1
  go_wp2_with fail
  refine (copy_any _ _ cx op.rd.arg (by omega)).mono ?_
  rintro e w3 ⟨vq, rfl, oq, hb3⟩
  have hB3 := hB2.trans (hb3.mono hB2.size)
  have op3 := op.below hb3 (Nat.le_refl _)
  obtain ⟨gq, kq, hvq⟩ := oq.shape
  subst hvq
  have hgq := oq.lt
  clear hb3 op
  have hlit := lit_row w3 w3.heap.size (Nat.le_refl _) 165
  have hb165 : ((165 : UInt8).toNat : Int) = 165 := by decide
  rw [hb165] at hlit
  have hqa := oq.row.alloc (.cells #[.int .u8 165] 5)
  have hba := (Below.refl w3.heap.size w3).alloc (Nat.le_refl _) (.cells #[.int .u8 165] 5)
  have rp3 := op3.rd.below hba (Nat.le_refl _)
  have hB3a := hB3.alloc hB3.size (.cells #[.int .u8 165] 5)
  have hs2 := hB2.size
  have hs3 : w2.heap.size ≤ w3.heap.size := by omega
  clear op3 oq hB2 hB3 hb165 hba
  go_wp2_with (first | (at_builtin; refine wpList_append_own _ rfl (.tmp 12) (.tmp 13) 24 rfl w2.heap.size 5 i0 (.int .u8 0) 1 1 Tryd.underlying24 hi hz0 hz1 hz2 rfl (by decide) (.slice (some ⟨gq, 0, none⟩) cx.length kq) cx.length (bv cx) rfl hqa ⟨w3.heap.size, 0, none⟩ 1 1 (bv [165]) rfl rfl (hlit.cells rfl) (bv_one _) (by simp only [maxLen]; omega) (by omega) (by simp; omega) ?_; intro v' w4 ho' hgr' hn'; obtain ⟨gv, kv, hvv, hk1, hk2, ov⟩ := app_shape ho' rfl rfl (fun e => by have := (hn'.1 e).1; cases this); subst hvv) | fail)
  have hB4 : Below w.heap.size w w4 := hB3a.grown hgr' hB3a.size (fun k' e => by have := (hqa.lt k' e).1; omega)
  have rp4 := rp3.grown hgr' (fun e => by have := (hqa.lt gp e.symm).1; omega)
  have rf4 := ov.rd
  have hcq : ∀ j u, (bv (cx ++ [165]))[j]? = some u → w4.cell? ⟨gv, 0 + j, none⟩ = some u := fun j u hu => by
    have := (rd_cells (by simpa using rf4)).2 j u hu
    rwa [Addr.add_lit] at this
  have rq4 : Rd w4 (.slice (some ⟨gv, 0, none⟩) cx.length kv) cx := by
    have := rd_sub hcq 0 cx.length kv (by omega) (by simp only [maxLen]; omega) (by simp)
    simpa using this
  have hc4 : w4.cell? ⟨gv, cx.length, none⟩ = some (.int .u8 165) := by
    have := hcq cx.length (.int .u8 165) (by simp [bv])
    simpa using this
  have hgv := ov.lt.2
  have ht4 : Tab w4 := Tab.below (w := w) ht0.out hB4 (Nat.le_refl _)
  clear ho' hgr' hn' hqa rp3 hB3a ov rf4 hcq hlit
  refine (close_any _ _ cx rq4 (by omega) ht4).mono ?_
  rintro e w5 ⟨x1, rfl, o1, hb5⟩
  have rp5 := rp4.below hb5 (Nat.le_refl _)
  have rq5 := rq4.below hb5 (Nat.le_refl _)
  have ht5 := ht4.below hb5 (Nat.le_refl _)
  have hc5 : w5.cell? ⟨gv, cx.length, none⟩ = some (.int .u8 165) := by rw [hb5.cell (p := ⟨gv, cx.length, none⟩) hgv]; exact hc4
  have hB5 := hB4.trans (hb5.mono hB4.size)
  have hgv5 := Nat.lt_of_lt_of_le hgv hb5.size
  clear hb5 rp4 rq4 hc4 hB4 hgv ht4
  go_wp2_with fail
  refine (open_own _ _ cx o1.rd (by omega) ht5).mono ?_
  rintro e w6 ⟨x2, rfl, o2, hb6⟩
  have o16 := o1.below hb6 (Nat.le_refl _)
  have rp6 := rp5.below hb6 (Nat.le_refl _)
  have rq6 := rq5.below hb6 (Nat.le_refl _)
  have hc6 : w6.cell? ⟨gv, cx.length, none⟩ = some (.int .u8 165) := by rw [hb6.cell (p := ⟨gv, cx.length, none⟩) hgv5]; exact hc5
  have hB6 := hB5.trans (hb6.mono hB5.size)
  have hgv6 := Nat.lt_of_lt_of_le hgv5 hb6.size
  clear hb6 rp5 rq5 hc5 hB5 hgv5 ht5 o1
  go_wp2_with fail
  refine (refclose_any _ _ cx rp6 (by omega)).mono ?_
  rintro e w7 ⟨x3, rfl, o3, hb7⟩
  have o17 := o16.below hb7 (Nat.le_refl _)
  have o27 := o2.below hb7 (Nat.le_refl _)
  have rp7 := rp6.below hb7 (Nat.le_refl _)
  have rq7 := rq6.below hb7 (Nat.le_refl _)
  have hc7 : w7.cell? ⟨gv, cx.length, none⟩ = some (.int .u8 165) := by rw [hb7.cell (p := ⟨gv, cx.length, none⟩) hgv6]; exact hc6
  have hB7 := hB6.trans (hb7.mono hB6.size)
  clear hb7 rp6 rq6 hc6 hB6 hgv6 o16 o2
  go_wp2_with fail
  refine (same_b _ _ _ _ _ true o17.rd o3.rd (by simp)).mono ?_
  rintro e w9 ⟨rfl, hw⟩
  subst hw
  go_wp2_with fail
  refine (same_b _ _ _ _ _ true o27.rd rp7 (by simp)).mono ?_
  rintro e w9 ⟨rfl, hw⟩
  subst hw
  go_wp2_with fail
  refine (same_b _ _ _ _ _ true rq7 rp7 (by simp)).mono ?_
  rintro e w9 ⟨rfl, hw⟩
  subst hw
  go_wp2
  go_ret
  exact ⟨rfl, hB7⟩

theorem sealCloses_walk (a0 : Option Addr) (len0 cap0 : Nat) (z0 : List Int) (w : World) (w0 : IsRow .u8 w a0 len0 cap0 z0) (ht : Tab w) :
    Calls Tryd.prog 5 #[.slice a0 len0 cap0] w fun e w' => e = .returned (.bool true) ∧ Below w.heap.size w w' :=
  closes_walk w _ _ _ rfl (List.length_take_le _ _) (arg_of w0) ht

end Go.Proofs.YtgmoedoalbmkpaaDoor
