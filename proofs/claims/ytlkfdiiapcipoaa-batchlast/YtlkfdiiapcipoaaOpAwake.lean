/- The document's examples of batches. -/
import Derived.Test.YtlkfdiiapcipoaaOpBytes
import Derived.Test.YtlkfdiiapcipoaaOpOver
import Derived.Lib.SmallJoins
namespace Go.Proofs.Ytlkfdiiapcipoaa
open Go.RowKit

theorem rdo_one (w : World) (x y : Value) (l m : List UInt8) (k : UInt8) (i : Int) (hi : (k.toNat : Int) = i) (hx : Rd w x l) (hy : Rd w y m) :
    RdO (w.alloc (.cells #[.int .u8 i, x, y] 27)) (.slice (some ⟨w.heap.size, 0, none⟩) 1 1) [(k, l, m)] := by
  have hb := below_box w #[.int .u8 i, x, y] 27
  have b := box_new w (.int .u8 i) x y 27
  refine ⟨_, 1, rfl, by simp, by simp [maxLen], fun j h => ?_⟩
  have hj : j = 0 := by simp at h; omega
  subst hj
  exact ⟨w.heap.size, 0, rfl, x, y, by rw [← hi] at b; rw [← hi]; exact b.c0, b.c1, b.c2, hx.below hb (Nat.le_refl _), hy.below hb (Nat.le_refl _)⟩

theorem rdo_two (w : World) (x y x' y' : Value) (l m l' m' : List UInt8) (k k' : UInt8) (i i' : Int) (hi : (k.toNat : Int) = i) (hi' : (k'.toNat : Int) = i') (hx : Rd w x l) (hy : Rd w y m) (hx' : Rd w x' l') (hy' : Rd w y' m') :
    RdO (w.alloc (.cells #[.int .u8 i, x, y, .int .u8 i', x', y'] 27)) (.slice (some ⟨w.heap.size, 0, none⟩) 2 2) [(k, l, m), (k', l', m')] := by
  have hb := below_box w #[.int .u8 i, x, y, .int .u8 i', x', y'] 27
  refine ⟨_, 2, rfl, by simp, by simp [maxLen], fun j h => ?_⟩
  have hj : j = 0 ∨ j = 1 := by simp at h; omega
  rcases hj with rfl | rfl
  · exact ⟨w.heap.size, 0, rfl, x, y, by simp [hi], by simp, by simp, hx.below hb (Nat.le_refl _), hy.below hb (Nat.le_refl _)⟩
  · exact ⟨w.heap.size, 0, rfl, x', y', by simp [hi'], by simp, by simp, hx'.below hb (Nat.le_refl _), hy'.below hb (Nat.le_refl _)⟩

theorem rd_one (w : World) (b : UInt8) (i : Int) (hi : (b.toNat : Int) = i) : Rd (w.alloc (.cells #[.int .u8 i] 5 (1, 2))) (.slice (some ⟨w.heap.size, 0, none⟩) 1 1) [b] := by
  refine .inr ⟨w.heap.size, 0, 1, rfl, by simp, by simp [maxLen], fun j u hu => ?_⟩
  rw [World.cell?_alloc_mark]
  subst hi
  have hj : j = 0 := by have := (List.getElem?_eq_some_iff.1 hu).1; simp [bv] at this; omega
  subst hj
  simpa [bv] using hu

theorem conv_one (w : World) (i : Int) (g : Nat) (hg : g = w.heap.size) : (convert 25 25 (.slice (some ⟨g, 0, none⟩) 1 1)).run Try.prog (w.alloc (.cells #[.int .u8 i] 5)) = .ok (.slice (some ⟨g, 0, none⟩) 1 1) (w.alloc (.cells #[.int .u8 i] 5 (1, 2))) :=
  Joins.run_convert_bytes_const_at w 25 5 _ 1 1 g hg Try.underlying25 Try.underlying5

theorem below_mark (w : World) (o : Obj) : Below w.heap.size w (w.alloc o) := (Below.refl _ _).alloc (Nat.le_refl _) _

theorem oex1 : batB [(2, [97], [120])] = [1, 2, 1, 97, 1, 120] := by decide +kernel
theorem oex2 : resO (overO [(2, [98], []), (3, [97], [99])] [98]) = ((3, [97], [99]), true) := by decide +kernel
theorem oex3 : chkL [(2, [97], [120])] = 0 := by decide +kernel

set_option maxHeartbeats 2000000 in
set_option maxRecDepth 20000 in
theorem bawake_any (w : World) : Calls Try.prog 10 #[] w fun e w' => e = .returned (.bool true) ∧ Below w.heap.size w w' := by
  have h1 := below_mark w (.cells #[.int .u8 97] 5 (1, 2))
  have r1 := rd_one w 97 97 rfl
  have k1 := conv_one w 97 w.heap.size rfl
  have h2 := h1.alloc h1.size (.cells #[.int .u8 120] 5 (1, 2))
  have r2 := rd_one (w.alloc (.cells #[.int .u8 97] 5 (1, 2))) 120 120 rfl
  have k2 := conv_one (w.alloc (.cells #[.int .u8 97] 5 (1, 2))) 120 (w.heap.size + 1) (by simp)
  have r1b := r1.below (below_mark _ (.cells #[.int .u8 120] 5 (1, 2))) (Nat.le_refl _)
  have ro := rdo_one _ _ _ _ _ 2 2 rfl r1b r2
  have h3 := h2.alloc h2.size (.cells #[.int .u8 2, .slice (some ⟨w.heap.size, 0, none⟩) 1 1, .slice (some ⟨w.heap.size + 1, 0, none⟩) 1 1] 27)
  have e1 : (w.alloc (.cells #[.int .u8 97] 5 (1, 2))).heap.size = w.heap.size + 1 := by simp
  have e2 : ((w.alloc (.cells #[.int .u8 97] 5 (1, 2))).alloc (.cells #[.int .u8 120] 5 (1, 2))).heap.size = w.heap.size + 2 := by simp
  rw [e1, e2] at ro
  clear h1 h2 r1 r2 r1b e1 e2
  go_enter Try.func10, Try.ntmps10
  go_wp2_with fail
  refine (bytes_ok _ _ [(2, [97], [120])] ro oex3 (by decide) (by decide)).mono ?_
  rintro e wp ⟨p, rfl, op, hb⟩
  rw [oex1] at op
  obtain ⟨gp, kp, hp⟩ := op.shape
  subst hp
  have hB := h3.trans (hb.mono h3.size)
  clear h3 hb ro k1 k2
  have g1 := below_mark wp (.cells #[.int .u8 98] 5 (1, 2))
  have t1 := rd_one wp 98 98 rfl
  have k1 := conv_one wp 98 wp.heap.size rfl
  have g2 := below_mark (wp.alloc (.cells #[.int .u8 98] 5 (1, 2))) (.cells #[.int .u8 97] 5 (1, 2))
  have t2 := rd_one (wp.alloc (.cells #[.int .u8 98] 5 (1, 2))) 97 97 rfl
  have k2 := conv_one (wp.alloc (.cells #[.int .u8 98] 5 (1, 2))) 97 (wp.heap.size + 1) (by simp)
  have g3 := below_mark ((wp.alloc (.cells #[.int .u8 98] 5 (1, 2))).alloc (.cells #[.int .u8 97] 5 (1, 2))) (.cells #[.int .u8 99] 5 (1, 2))
  have t3 := rd_one ((wp.alloc (.cells #[.int .u8 98] 5 (1, 2))).alloc (.cells #[.int .u8 97] 5 (1, 2))) 99 99 rfl
  have k3 := conv_one ((wp.alloc (.cells #[.int .u8 98] 5 (1, 2))).alloc (.cells #[.int .u8 97] 5 (1, 2))) 99 (wp.heap.size + 2) (by simp)
  have t1' := (t1.below g2 (Nat.le_refl _)).below g3 (Nat.le_refl _)
  have t2' := t2.below g3 (Nat.le_refl _)
  have e1 : (wp.alloc (.cells #[.int .u8 98] 5 (1, 2))).heap.size = wp.heap.size + 1 := by simp
  have e2 : ((wp.alloc (.cells #[.int .u8 98] 5 (1, 2))).alloc (.cells #[.int .u8 97] 5 (1, 2))).heap.size = wp.heap.size + 2 := by simp
  have e3 : (((wp.alloc (.cells #[.int .u8 98] 5 (1, 2))).alloc (.cells #[.int .u8 97] 5 (1, 2))).alloc (.cells #[.int .u8 99] 5 (1, 2))).heap.size = wp.heap.size + 3 := by simp
  rw [e1] at t2'
  rw [e2] at t3
  have ro := rdo_two _ _ _ _ _ _ _ _ _ 2 3 2 3 rfl rfl t1' (.inl ⟨rfl, rfl⟩ : Rd _ (.slice none 0 0) []) t2' t3
  rw [e3] at ro
  have op1 := ((op.below g1 (Nat.le_refl _)).below g2 (Nat.le_refl _)).below g3 (Nat.le_refl _)
  have hB1 := ((hB.trans (g1.mono hB.size)).trans (g2.mono (Nat.le_trans hB.size g1.size))).trans (g3.mono (Nat.le_trans (Nat.le_trans hB.size g1.size) g2.size))
  clear g1 t1 g2 t2 g3 t3 t1' t2' op hB e1 e2 e3
  generalize hW3 : (((wp.alloc (.cells #[.int .u8 98] 5 (1, 2))).alloc (.cells #[.int .u8 97] 5 (1, 2))).alloc (.cells #[.int .u8 99] 5 (1, 2))) = W3 at *
  have hs3 : W3.heap.size = wp.heap.size + 3 := by rw [← hW3]; simp
  have g4 := below_mark W3 (.cells #[.int .u8 2, .slice (some ⟨wp.heap.size, 0, none⟩) 1 1, .slice none 0 0, .int .u8 3, .slice (some ⟨wp.heap.size + 1, 0, none⟩) 1 1, .slice (some ⟨wp.heap.size + 2, 0, none⟩) 1 1] 27)
  generalize hW4 : W3.alloc (.cells #[.int .u8 2, .slice (some ⟨wp.heap.size, 0, none⟩) 1 1, .slice none 0 0, .int .u8 3, .slice (some ⟨wp.heap.size + 1, 0, none⟩) 1 1, .slice (some ⟨wp.heap.size + 2, 0, none⟩) 1 1] 27) = W4 at *
  have hs4 : W4.heap.size = wp.heap.size + 4 := by rw [← hW4]; simp [hs3]
  have g5 := below_mark W4 (.cells #[.int .u8 98] 5 (1, 2))
  have t5 := rd_one W4 98 98 rfl
  rw [hs4] at t5
  have k4 := conv_one W4 98 (wp.heap.size + 4) hs4.symm
  have ro5 := ro.below g5 (Nat.le_refl _)
  have op5 := (op1.below g4 (Nat.le_refl _)).below g5 (Nat.le_refl _)
  have hB5 := (hB1.trans (g4.mono hB1.size)).trans (g5.mono (Nat.le_trans hB1.size g4.size))
  clear g4 g5 ro op1 hB1
  go_wp2_with fail
  clear hW3 hW4 k1 k2 k3 k4 hs3
  refine (over_any _ _ _ [(2, [98], []), (3, [97], [99])] [98] _ ro5 t5 (by simp) oex2).mono ?_
  rintro e wo ⟨x, y, rfl, ox, oy, hb⟩
  have hk3 : ((((3 : UInt8), ([97] : List UInt8), ([99] : List UInt8)), true).1.1.toNat : Int) = 3 := rfl
  obtain ⟨xa, xc, hx⟩ := ox.rd.len
  obtain ⟨ya, yc, hy⟩ := oy.rd.len
  subst hx hy
  have op6 := op5.below hb (Nat.le_refl _)
  have hB6 := hB5.trans (hb.mono hB5.size)
  have bo := box_new wo (.int .u8 3) (.slice xa 1 xc) (.slice ya 1 yc) 27
  have g6 := below_mark wo (.cells #[.int .u8 3, .slice xa 1 xc, .slice ya 1 yc] 27)
  have op7 := op6.below g6 (Nat.le_refl _)
  have hB7 := hB6.trans (g6.mono hB6.size)
  have g7 := below_mark (wo.alloc (.cells #[.int .u8 3, .slice xa 1 xc, .slice ya 1 yc] 27)) (.cells #[.int .u8 1, .int .u8 2, .int .u8 1, .int .u8 97, .int .u8 1, .int .u8 120] 5)
  have op8 := op7.below g7 (Nat.le_refl _)
  have hB8 := hB7.trans (g7.mono hB7.size)
  have bo8 := bo.below g7 (Nat.le_refl _)
  have rl := rd_lit (wo.alloc (.cells #[.int .u8 3, .slice xa 1 xc, .slice ya 1 yc] 27)) [1, 2, 1, 97, 1, 120] (by simp [maxLen]) #[.int .u8 1, .int .u8 2, .int .u8 1, .int .u8 97, .int .u8 1, .int .u8 120] rfl
  rw [show (wo.alloc (.cells #[.int .u8 3, .slice xa 1 xc, .slice ya 1 yc] 27)).heap.size = wo.heap.size + 1 by simp] at rl
  have bo8c := bo8.c0
  clear op5 hB5 hb ro5 t5 ox oy op6 hB6 g6 op7 hB7 g7 hs4 bo
  go_wp2_with fail
  refine (same_b _ _ _ [1, 2, 1, 97, 1, 120] [1, 2, 1, 97, 1, 120] true op8.rd rl (by simp)).mono ?_
  rintro e w9 ⟨rfl, hw⟩
  subst hw
  go_wp2
  go_ret
  exact ⟨ret_bool (by simp), hB8⟩

end Go.Proofs.Ytlkfdiiapcipoaa
