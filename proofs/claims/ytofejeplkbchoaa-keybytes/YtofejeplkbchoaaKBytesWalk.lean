/- KeyBytes answers true: every version has its bytes, or is refused; it is read again, whatever stands behind; it comes back untouched. -/
import Derived.Test.YtofejeplkbchoaaRefKeyBytes
import Derived.Test.YtofejeplkbchoaaKeyReads
import Derived.Test.YtofejeplkbchoaaKeyAwake
import Derived.Test.YtofejeplkbchoaaKeyArg
namespace Go.Proofs.Ytofejeplkbchoaa
open Go.RowKit

theorem seqOf_tail (s : Nat) (hs : s ≤ 72057594037927935) : seqOf (UInt8.ofNat (s % 256)) (UInt8.ofNat (s / 256 % 256)) (UInt8.ofNat (s / 65536 % 256)) (UInt8.ofNat (s / 16777216 % 256)) (UInt8.ofNat (s / 4294967296 % 256)) (UInt8.ofNat (s / 1099511627776 % 256)) (UInt8.ofNat (s / 281474976710656 % 256)) = s := by
  unfold seqOf
  simp only [UInt8.toNat_ofNat', Nat.mod_mod]
  omega

theorem textS_text (l t : List UInt8) (hl : l.length ≤ 64) : textS (textB l ++ t) 64 = (l, t, 0) := by
  unfold textS textB
  rw [List.append_assoc, front_numB l.length (by omega) (l ++ t)]
  simp only [if_true]
  rw [if_neg (by omega), if_neg (by simp only [List.length_append]; omega)]
  simp

theorem keyS_keyB (l t : List UInt8) (s k : Nat) (hs : s ≤ 72057594037927935) (hk : k < 256) (hl : l.length ≤ 64) (hc : chk l.length (s : Int) (k : Int) = 0) : keyS (keyB l s k ++ t) = (l, s, k, t, 0) := by
  have hkk : (UInt8.ofNat k).toNat = k := by simp; omega
  have hT : textS (keyB l s k ++ t) 64 = (l, UInt8.ofNat k :: UInt8.ofNat (s % 256) :: UInt8.ofNat (s / 256 % 256) :: UInt8.ofNat (s / 65536 % 256) :: UInt8.ofNat (s / 16777216 % 256) :: UInt8.ofNat (s / 4294967296 % 256) :: UInt8.ofNat (s / 1099511627776 % 256) :: UInt8.ofNat (s / 281474976710656 % 256) :: t, 0) := by
    unfold keyB
    rw [List.append_assoc, textS_text l _ hl]
    rfl
  rw [keyS_ok hT (by rw [seqOf_tail s hs, hkk]; exact hc), seqOf_tail s hs, hkk]

set_option maxHeartbeats 4000000 in
set_option maxRecDepth 20000 in
theorem kbytes_walk (w : World) (va vu : Value) (la lu ca cu : List UInt8) (CA : Hid (la.take 80 = ca)) (CU : Hid (lu.take 50 = cu)) (hca : ca.length ≤ 80) (hcu : cu.length ≤ 50) (s k : Nat) (hs : s < 18446744073709551616) (hk : k < 256) (ha : Arg w va la) (hu : Arg w vu lu) :
    Calls Try.prog 3 #[.agg #[va, .int .u64 (s : Int), .int .u8 (k : Int)], vu] w fun e w' => e = .returned (.bool true) ∧ Below w.heap.size w w' := by
  obtain ⟨i0, hi, hz0, hz1, hz2⟩ := info_parts info5
  obtain ⟨ao, cap, rfl⟩ : ∃ ao cap, va = .slice ao la.length cap := by
    rcases ha with ⟨rfl, rfl⟩ | ⟨a, cap, rfl, _⟩
    · exact ⟨_, _, rfl⟩
    · exact ⟨_, _, rfl⟩
  have hB0 := below_box w #[.slice ao la.length cap, .int .u64 (s : Int), .int .u8 (k : Int)] 25
  have b0 := box_new w (.slice ao la.length cap) (.int .u64 (s : Int)) (.int .u8 (k : Int)) 25
  have ha0 := ha.below hB0 (Nat.le_refl _)
  have HU : Hid _ := hu
  have CC : Hid (ca.take 80 = ca) := List.take_of_length_le hca
  obtain ⟨c, hc⟩ : ∃ c, chk ca.length (s : Int) (k : Int) = c := ⟨_, rfl⟩
  have HC : Hid _ := hc
  clear ha hu hc
  go_enter Try.func3, Try.ntmps3
  go_wp2_with fail
  refine (kawake_any _).mono ?_
  rintro e w1 ⟨rfl, hb⟩
  have ha1 := ha0.below hb (Nat.le_refl _)
  have b1 := b0.below hb (Nat.le_refl _)
  have hB := hB0.trans (hb.mono hB0.size)
  clear ha0 b0 hb hB0
  have b1c0 := b1.c0; have b1c1 := b1.c1; have b1c2 := b1.c2
  go_wp2_with fail
  refine (small_any _ _ la s k ha1).mono ?_
  rintro e w2 ⟨x, rfl, ox, hb⟩
  rw [CA.out] at ox
  obtain ⟨gx, kx, hx⟩ := ox.shape
  subst hx
  have hgx := ox.lt.1
  have hgx3 : gx < (((w2.setCell ⟨w.heap.size, 0, none⟩ (.slice (some ⟨gx, 0, none⟩) ca.length kx)).setCell ⟨w.heap.size, 1, none⟩ (.int .u64 (s : Int))).setCell ⟨w.heap.size, 2, none⟩ (.int .u8 (k : Int))).heap.size := by simpa using ox.lt.2
  have hlt := b1.lt
  have b2 := b1.below hb (Nat.le_refl _)
  replace hB := hB.trans (hb.mono hB.size)
  have rx3 := ox.rd.store3 (b := w.heap.size) (by omega) (.slice (some ⟨gx, 0, none⟩) ca.length kx) (.int .u64 (s : Int)) (.int .u8 (k : Int))
  have b3 := b2.store (.slice (some ⟨gx, 0, none⟩) ca.length kx) (.int .u64 (s : Int)) (.int .u8 (k : Int))
  have hB3 := below_store3 hB (b := w.heap.size) (Nat.le_refl _) (.slice (some ⟨gx, 0, none⟩) ca.length kx) (.int .u64 (s : Int)) (.int .u8 (k : Int))
  obtain ⟨d0, d1, d2, f0, f1, f2⟩ := b2
  clear b1c0 b1c1 b1c2 b1 hb ha1 hB ox hlt
  go_wp2_with fail
  clear d0 d1 d2 f0 f1 f2
  generalize (((w2.setCell ⟨w.heap.size, 0, none⟩ (.slice (some ⟨gx, 0, none⟩) ca.length kx)).setCell ⟨w.heap.size, 1, none⟩ (.int .u64 (s : Int))).setCell ⟨w.heap.size, 2, none⟩ (.int .u8 (k : Int))) = w3 at *
  refine (small_any _ _ ca s k rx3.arg).mono ?_
  rintro e w4 ⟨y, rfl, oy, hb⟩
  rw [CC.out] at oy
  obtain ⟨gy, ky, hy⟩ := oy.shape
  subst hy
  have hba := below_box w4 #[.slice (some ⟨gy, 0, none⟩) ca.length ky, .int .u64 (s : Int), .int .u8 (k : Int)] 25
  have m5 := box_new w4 (.slice (some ⟨gy, 0, none⟩) ca.length ky) (.int .u64 (s : Int)) (.int .u8 (k : Int)) 25
  have rx5 := (rx3.below hb (Nat.le_refl _)).below hba (Nat.le_refl _)
  have ry5 := oy.rd.below hba (Nat.le_refl _)
  have b5 := (b3.below hb (Nat.le_refl _)).below hba (Nat.le_refl _)
  have hB5 := (hB3.trans (hb.mono hB3.size)).trans (hba.mono (Nat.le_trans hB3.size hb.size))
  have hgx5 : gx < (w4.alloc (.cells #[.slice (some ⟨gy, 0, none⟩) ca.length ky, .int .u64 (s : Int), .int .u8 (k : Int)] 25)).heap.size := Nat.lt_of_lt_of_le hgx3 (Nat.le_trans hb.size hba.size)
  clear rx3 b3 hB3 hb hba oy
  have m5c0 := m5.c0; have m5c1 := m5.c1; have m5c2 := m5.c2
  go_wp2_with fail
  clear m5c0 m5c1 m5c2
  generalize hw5 : w4.alloc (.cells #[.slice (some ⟨gy, 0, none⟩) ca.length ky, .int .u64 (s : Int), .int .u8 (k : Int)] 25) = w5 at *
  clear hw5
  by_cases hc0 : c = 0
  · subst hc0
    have hfit : s ≤ 72057594037927935 ∧ ca.length ≤ 64 := by have := HC.out; unfold chk at this; grind
    obtain ⟨hs2, hl2⟩ := hfit
    refine (keybytes_ok _ _ ca s k ry5 hs2 hk HC.out hl2).mono ?_
    rintro e w6 ⟨p, rfl, op, hb⟩
    obtain ⟨kb, hkb⟩ : ∃ kb, keyB ca s k = kb := ⟨_, rfl⟩
    have hkl : kb.length ≤ 1000 := by rw [← hkb]; unfold keyB textB; simp only [List.length_append, Mth.numB_length]; have := (Mth.numL_bd ca.length).2; have : (tailB s k).length = 8 := rfl; omega
    have HKB : Hid _ := hkb
    rw [hkb] at op
    obtain ⟨gp, kp, hp⟩ := op.shape
    subst hp
    have rx6 := rx5.below hb (Nat.le_refl _)
    have ry6 := ry5.below hb (Nat.le_refl _)
    have b6 := b5.below hb (Nat.le_refl _)
    have m6 := m5.below hb (Nat.le_refl _)
    have hB6 := hB5.trans (hb.mono hB5.size)
    have b6c0 := b6.c0; have b6c1 := b6.c1; have b6c2 := b6.c2
    have hgp := op.lt
    have hbs := b5.lt
    clear rx5 ry5 b5 m5 hB5 hb hkb
    go_wp2_with fail
    clear b6c0 b6c1 b6c2
    refine (refkeybytes_ok _ _ ca s k rx6 hs2 hk HC.out hl2).mono ?_
    rintro e w7 ⟨q, rfl, oq, hb⟩
    rw [HKB.out] at oq
    obtain ⟨gq, kq, hq⟩ := oq.shape
    subst hq
    have op7 := op.below hb (Nat.le_refl _)
    have rx7 := rx6.below hb (Nat.le_refl _)
    have ry7 := ry6.below hb (Nat.le_refl _)
    have b7 := b6.below hb (Nat.le_refl _)
    have m7 := m6.below hb (Nat.le_refl _)
    have hB7 := hB6.trans (hb.mono hB6.size)
    clear rx6 ry6 b6 m6 hB6 hb op
    go_wp2_with fail
    refine (same_b _ _ _ _ _ true op7.rd oq.rd (by simp)).mono ?_
    rintro e w8 ⟨rfl, hw⟩
    subst hw
    clear oq
    have m7c0 := m7.c0; have m7c1 := m7.c1; have m7c2 := m7.c2
    go_wp2_with fail
    clear m7c0 m7c1 m7c2
    refine (check_any _ _ _ _ s k (by omega) (by omega)).mono ?_
    rintro e w9 ⟨rfl, hb⟩
    rw [HC.out]
    have op9 := op7.below hb (Nat.le_refl _)
    have rx9 := rx7.below hb (Nat.le_refl _)
    have ry9 := ry7.below hb (Nat.le_refl _)
    have b9 := b7.below hb (Nat.le_refl _)
    have m9 := m7.below hb (Nat.le_refl _)
    have hB9 := hB7.trans (hb.mono hB7.size)
    clear rx7 ry7 b7 m7 hB7 hb op7
    have m9c0 := m9.c0; have m9c1 := m9.c1; have m9c2 := m9.c2
    have b9c0 := b9.c0; have b9c1 := b9.c1; have b9c2 := b9.c2
    go_wp2_with fail
    clear m9c0 m9c1 m9c2 b9c0 b9c1 b9c2
    refine (keysame_any _ _ _ ca ca s k s k true ry9 rx9 (by simp)).mono ?_
    rintro e w10 ⟨rfl, hb⟩
    have op10 := op9.below hb (Nat.le_refl _)
    have rx10 := rx9.below hb (Nat.le_refl _)
    have b10 := b9.below hb (Nat.le_refl _)
    have hB10 := hB9.trans (hb.mono hB9.size)
    have hu10 : Arg w10 vu lu := Arg.below (show Arg w vu lu from HU.out) hB10 (Nat.le_refl _)
    clear rx9 ry9 b9 m9 hB9 hb op9
    go_wp2_with fail
    refine (cut_any _ _ lu 50 hu10 (by omega)).mono ?_
    rintro e w11 ⟨z, rfl, oz, hb⟩
    rw [CU.out] at oz
    obtain ⟨gz, kz, hz⟩ := oz.shape
    subst hz
    have hgz := oz.lt.1
    have op11 := op10.below hb (Nat.le_refl _)
    have rx11 := rx10.below hb (Nat.le_refl _)
    have b11 := b10.below hb (Nat.le_refl _)
    have hB11 := hB10.trans (hb.mono hB10.size)
    have hp10 := op10.lt
    have hxp : ¬ gx = gp := by omega
    clear rx10 b10 hB10 hu10 hb op10 HU
    have hrow := op11.row
    have hcs := (rd_cells oz.rd).2
    go_wp2_with (first | (at_builtin; refine wpList_append_own _ rfl (.tmp 55) (.tmp 56) 22 rfl w5.heap.size 5 i0 (.int .u8 0) 1 1 Try.underlying22 hi hz0 hz1 hz2 rfl (by decide) (.slice (some ⟨gp, 0, none⟩) kb.length kp) kb.length (bv kb) rfl hrow ⟨gz, 0, none⟩ cu.length kz (bv cu) rfl (by rw [bv_length, Nat.mul_one]) hcs (bv_one _) (by simp only [maxLen]; omega) (by omega) (by have := op11.lt; omega) ?_; intro v' w12 ho' hgr' hn'; obtain ⟨gv, kv, hvv, hk1, hk2, ov⟩ := app_shape ho' rfl rfl (fun e => by have := (hn'.1 e).1; cases this); subst hvv) | fail)
    have hB12 : Below w.heap.size w w12 := hB11.grown hgr' hB11.size (fun k' e => by have := (hrow.lt k' e).1; omega)
    have rx12 := rx11.grown hgr' (fun e => by simp [Value.ownBlock] at e; exact hxp e)
    have rz12 := oz.rd.grown hgr' (fun e => by simp [Value.ownBlock] at e; omega)
    have b12 := b11.grown hgr' (fun e => by simp [Value.ownBlock] at e; omega)
    have hbv := ov.rd
    clear ho' hgr' hn' hrow hcs rx11 b11 hB11 op11 oz
    refine (read_any _ _ (kb ++ cu) hbv (by simp only [List.length_append]; omega)).mono ?_
    intro e w13 hpost
    obtain ⟨x1, y1, rfl, r1, s1, hb⟩ : ∃ x y, e = .returned (.tuple #[.agg #[x, .int .u64 (s : Int), .int .u8 (k : Int)], y, .int .i64 0]) ∧ Rd w13 x ca ∧ Rd w13 y cu ∧ Below w12.heap.size w12 w13 := by
      have e1 : keyS (kb ++ cu) = (ca, s, k, cu, 0) := by rw [← HKB.out]; exact keyS_keyB ca cu s k hs2 hk hl2 HC.out
      obtain ⟨x, y, h1, h2, h3, _, _, h4⟩ := hpost
      rw [e1] at h1 h2 h3
      exact ⟨x, y, h1, h2, h3, h4⟩
    clear hpost hbv ov
    obtain ⟨xa, xc, hx1⟩ := r1.len
    subst hx1
    have hba := below_box w13 #[.slice xa ca.length xc, .int .u64 (s : Int), .int .u8 (k : Int)] 25
    have n14 := box_new w13 (.slice xa ca.length xc) (.int .u64 (s : Int)) (.int .u8 (k : Int)) 25
    have r14 := r1.below hba (Nat.le_refl _)
    have s14 := s1.below hba (Nat.le_refl _)
    have rx14 := (rx12.below hb (Nat.le_refl _)).below hba (Nat.le_refl _)
    have rz14 := (rz12.below hb (Nat.le_refl _)).below hba (Nat.le_refl _)
    have b14 := (b12.below hb (Nat.le_refl _)).below hba (Nat.le_refl _)
    have hB14 := (hB12.trans (hb.mono hB12.size)).trans (hba.mono (Nat.le_trans hB12.size hb.size))
    have b14c0 := b14.c0; have b14c1 := b14.c1; have b14c2 := b14.c2
    clear r1 s1 rx12 rz12 b12 hB12 hba hb
    go_wp2_with fail
    refine (keysame_any _ _ _ ca ca s k s k true r14 rx14 (by simp)).mono ?_
    rintro e w15 ⟨rfl, hb⟩
    have s15 := s14.below hb (Nat.le_refl _)
    have rz15 := rz14.below hb (Nat.le_refl _)
    have hB15 := hB14.trans (hb.mono hB14.size)
    clear r14 s14 rx14 rz14 b14 n14 hB14 hb b14c0 b14c1 b14c2
    go_wp2_with fail
    refine (same_b _ _ _ _ _ true s15 rz15 (by simp)).mono ?_
    rintro e w16 ⟨rfl, hw⟩
    subst hw
    go_wp2
    go_ret
    exact ⟨ret_bool (by simp), hB15⟩
  · have hcb : (c != 0) = true := by simp [hc0]
    have hcb2 : (c == 0) = false := by simp [hc0]
    refine (keybytes_err _ _ _ _ s k c (by omega) (by omega) HC.out hc0).mono ?_
    rintro e w6 ⟨rfl, hb⟩
    have rx6 := rx5.below hb (Nat.le_refl _)
    have ry6 := ry5.below hb (Nat.le_refl _)
    have b6 := b5.below hb (Nat.le_refl _)
    have m6 := m5.below hb (Nat.le_refl _)
    have hB6 := hB5.trans (hb.mono hB5.size)
    have b6c0 := b6.c0; have b6c1 := b6.c1; have b6c2 := b6.c2
    clear rx5 ry5 b5 m5 hB5 hb
    go_wp2_with fail
    clear b6c0 b6c1 b6c2
    refine (refkeybytes_err _ _ _ _ s k c (by omega) (by omega) HC.out hc0).mono ?_
    rintro e w7 ⟨rfl, hb⟩
    have rx7 := rx6.below hb (Nat.le_refl _)
    have ry7 := ry6.below hb (Nat.le_refl _)
    have b7 := b6.below hb (Nat.le_refl _)
    have m7 := m6.below hb (Nat.le_refl _)
    have hB7 := hB6.trans (hb.mono hB6.size)
    clear rx6 ry6 b6 m6 hB6 hb
    go_wp2_with fail
    refine (same_b _ _ _ [] [] true (.inl ⟨rfl, rfl⟩) (.inl ⟨rfl, rfl⟩) (by simp)).mono ?_
    rintro e w8 ⟨rfl, hw⟩
    subst hw
    have m7c0 := m7.c0; have m7c1 := m7.c1; have m7c2 := m7.c2
    go_wp2_with fail
    clear m7c0 m7c1 m7c2
    refine (check_any _ _ _ _ s k (by omega) (by omega)).mono ?_
    rintro e w9 ⟨rfl, hb⟩
    rw [HC.out]
    have rx9 := rx7.below hb (Nat.le_refl _)
    have ry9 := ry7.below hb (Nat.le_refl _)
    have b9 := b7.below hb (Nat.le_refl _)
    have m9 := m7.below hb (Nat.le_refl _)
    have hB9 := hB7.trans (hb.mono hB7.size)
    clear rx7 ry7 b7 m7 hB7 hb
    have m9c0 := m9.c0; have m9c1 := m9.c1; have m9c2 := m9.c2
    have b9c0 := b9.c0; have b9c1 := b9.c1; have b9c2 := b9.c2
    go_wp2_with fail
    clear m9c0 m9c1 m9c2 b9c0 b9c1 b9c2
    refine (keysame_any _ _ _ ca ca s k s k true ry9 rx9 (by simp)).mono ?_
    rintro e w10 ⟨rfl, hb⟩
    have hB10 := hB9.trans (hb.mono hB9.size)
    clear rx9 ry9 b9 m9 hB9 hb
    go_wp2
    go_ret
    exact ⟨rfl, hB10⟩

theorem keyBytes_walk (a0 : Option Addr) (len0 cap0 : Nat) (z0 : List Int) (s0 k0 : Int) (a1 : Option Addr) (len1 cap1 : Nat) (z1 : List Int) (w : World) (w0 : IsRow .u8 w a0 len0 cap0 z0) (ws0 : (Lit.int .u64 s0).wf = true) (wk0 : (Lit.int .u8 k0).wf = true) (w1 : IsRow .u8 w a1 len1 cap1 z1) :
    Calls Try.prog 3 #[.agg #[.slice a0 len0 cap0, .int .u64 s0, .int .u8 k0], .slice a1 len1 cap1] w fun e w' => e = .returned (.bool true) ∧ Below w.heap.size w w' := by
  have hs := bounds_u64 ws0
  have hk := bounds_u8 wk0
  obtain ⟨s, rfl⟩ : ∃ s : Nat, s0 = (s : Int) := ⟨s0.toNat, by omega⟩
  obtain ⟨k, rfl⟩ : ∃ k : Nat, k0 = (k : Int) := ⟨k0.toNat, by omega⟩
  exact kbytes_walk w _ _ _ _ _ _ rfl rfl (List.length_take_le _ _) (List.length_take_le _ _) s k (by omega) (by omega) (arg_of w0) (arg_of w1)

end Go.Proofs.Ytofejeplkbchoaa
