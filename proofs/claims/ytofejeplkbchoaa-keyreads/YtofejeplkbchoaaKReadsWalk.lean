/- KeyReads answers true: all bytes begin with a version, or don't; they come back untouched. -/
import Derived.Test.YtofejeplkbchoaaKeyReads
import Derived.Test.YtofejeplkbchoaaKeyAwake
import Derived.Test.YtofejeplkbchoaaKeyArg
namespace Go.Proofs.Ytofejeplkbchoaa
open Go.RowKit

set_option maxHeartbeats 4000000 in
set_option maxRecDepth 20000 in
theorem kreads_walk (w : World) (vx : Value) (x cx : List UInt8) (CX : Hid (x.take 200 = cx)) (hcx : cx.length ≤ 200) (hx : Arg w vx x) :
    Calls Try.prog 4 #[vx] w fun e w' => e = .returned (.bool true) ∧ Below w.heap.size w w' := by
  obtain ⟨i0, hi, hz0, hz1, hz2⟩ := info_parts info5
  go_enter Try.func4, Try.ntmps4
  go_wp2_with fail
  refine (kawake_any _).mono ?_
  rintro e w1 ⟨rfl, hb1⟩
  have hx1 := hx.below hb1 (Nat.le_refl _)
  clear hx
  go_wp2_with fail
  refine (cut_any _ _ x 200 hx1 (by omega)).mono ?_
  rintro e w2 ⟨vp, rfl, op, hb2⟩
  rw [CX.out] at op
  have hB2 := hb1.trans (hb2.mono hb1.size)
  obtain ⟨gp, kp, hvp⟩ := op.shape
  subst hvp
  have hgp := op.lt.2
  clear hb1 hb2 hx1
  go_wp2_with fail
  refine (copy_any _ _ cx op.rd.arg (by omega)).mono ?_
  rintro e w3 ⟨vq, rfl, oq, hb3⟩
  have hB3 := hB2.trans (hb3.mono hB2.size)
  have op3 := op.below hb3 (Nat.le_refl _)
  obtain ⟨gq, kq, hvq⟩ := oq.shape
  subst hvq
  have hgq := oq.lt
  clear hb3 op
  have hlit := lit_row w3 w3.heap.size (Nat.le_refl _) 165
  have hb165 : ((165 : UInt8).toNat : Int) = 165 := by decide
  rw [hb165] at hlit
  have hqa := oq.row.alloc (.cells #[.int .u8 165] 5)
  have rp3 := op3.rd.below ((Below.refl w3.heap.size w3).alloc (Nat.le_refl _) (.cells #[.int .u8 165] 5)) (Nat.le_refl _)
  have hB3a := hB3.alloc hB3.size (.cells #[.int .u8 165] 5)
  have hs2 := hB2.size
  have hs3 : w2.heap.size ≤ w3.heap.size := by omega
  clear op3 oq hB2 hB3 hb165
  go_wp2_with (first | (at_builtin; refine wpList_append_own _ rfl (.tmp 15) (.tmp 16) 22 rfl w2.heap.size 5 i0 (.int .u8 0) 1 1 Try.underlying22 hi hz0 hz1 hz2 rfl (by decide) (.slice (some ⟨gq, 0, none⟩) cx.length kq) cx.length (bv cx) rfl hqa ⟨w3.heap.size, 0, none⟩ 1 1 (bv [165]) rfl rfl (hlit.cells rfl) (bv_one _) (by simp only [maxLen]; omega) (by omega) (by simp; omega) ?_; intro v' w4 ho' hgr' hn'; obtain ⟨gv, kv, hvv, hk1, hk2, ov⟩ := app_shape ho' rfl rfl (fun e => by have := (hn'.1 e).1; cases this); subst hvv) | fail)
  have hB4 : Below w.heap.size w w4 := hB3a.grown hgr' hB3a.size (fun k' e => by have := (hqa.lt k' e).1; omega)
  have rp4 := rp3.grown hgr' (fun e => by have := (hqa.lt gp e.symm).1; omega)
  have rf4 := ov.rd
  have hcq : ∀ j u, (bv (cx ++ [165]))[j]? = some u → w4.cell? ⟨gv, 0 + j, none⟩ = some u := fun j u hu => by
    have := (rd_cells (by simpa using rf4)).2 j u hu
    rwa [Addr.add_lit] at this
  have rq4 : Rd w4 (.slice (some ⟨gv, 0, none⟩) cx.length kv) cx := by
    have := rd_sub hcq 0 cx.length kv (by omega) (by simp only [maxLen]; omega) (by simp)
    simpa using this
  have hc4 : w4.cell? ⟨gv, cx.length, none⟩ = some (.int .u8 165) := by
    have := hcq cx.length (.int .u8 165) (by simp [bv])
    simpa using this
  have hgv := ov.lt.2
  clear ho' hgr' hn' hqa rp3 hB3a ov rf4 hcq hlit
  obtain ⟨U, hU⟩ : ∃ U, (keyS cx).1 = U := ⟨_, rfl⟩
  obtain ⟨S, hS⟩ : ∃ S, (keyS cx).2.1 = S := ⟨_, rfl⟩
  obtain ⟨K, hK⟩ : ∃ K, (keyS cx).2.2.1 = K := ⟨_, rfl⟩
  obtain ⟨T, hT⟩ : ∃ T, (keyS cx).2.2.2.1 = T := ⟨_, rfl⟩
  obtain ⟨E, hE⟩ : ∃ E, (keyS cx).2.2.2.2 = E := ⟨_, rfl⟩
  have HP : Hid (∀ w w' o, KeyPost cx w w' o → ∃ x y, o = .returned (.tuple #[.agg #[x, .int .u64 (S : Int), .int .u8 (K : Int)], y, .int .i64 (E : Int)]) ∧ Rd w' x U ∧ Rd w' y T ∧ Below w.heap.size w w') := by
    rintro w w' o ⟨x, y, h1, h2, h3, _, _, h4⟩
    rw [hS, hK, hE] at h1
    rw [hU] at h2
    rw [hT] at h3
    exact ⟨x, y, h1, h2, h3, h4⟩
  clear hU hS hK hT hE
  go_wp2_with fail
  refine (read_any _ _ cx rq4 (by omega)).mono ?_
  intro e w5 hpost
  obtain ⟨x1, y1, rfl, r1, s1, hb5⟩ := HP.out _ _ _ hpost
  obtain ⟨xa, xc, hx1⟩ := r1.len
  subst hx1
  have hba := below_box w5 #[.slice xa U.length xc, .int .u64 (S : Int), .int .u8 (K : Int)] 25
  have b1 := box_new w5 (.slice xa U.length xc) (.int .u64 (S : Int)) (.int .u8 (K : Int)) 25
  have r16 := r1.below hba (Nat.le_refl _)
  have s16 := s1.below hba (Nat.le_refl _)
  have rp6 := (rp4.below hb5 (Nat.le_refl _)).below hba (Nat.le_refl _)
  have rq6 := (rq4.below hb5 (Nat.le_refl _)).below hba (Nat.le_refl _)
  have hc5 : w5.cell? ⟨gv, cx.length, none⟩ = some (.int .u8 165) := by rw [hb5.cell (p := ⟨gv, cx.length, none⟩) hgv]; exact hc4
  have hgv5 := Nat.lt_of_lt_of_le hgv hb5.size
  have hc6 : (w5.alloc (.cells #[.slice xa U.length xc, .int .u64 (S : Int), .int .u8 (K : Int)] 25)).cell? ⟨gv, cx.length, none⟩ = some (.int .u8 165) := by rw [hba.cell (p := ⟨gv, cx.length, none⟩) hgv5]; exact hc5
  have hB6 := (hB4.trans (hb5.mono hB4.size)).trans (hba.mono (Nat.le_trans hB4.size hb5.size))
  have hgv6 := Nat.lt_of_lt_of_le hgv5 hba.size
  clear hpost r1 s1 hb5 rp4 rq4 hc4 hc5 hB4 hgv hgv5 hba
  go_wp2_with fail
  refine (refread_any _ _ cx rp6 (by omega)).mono ?_
  intro e w7 hpost
  obtain ⟨x2, y2, rfl, r2, s2, hb7⟩ := HP.out _ _ _ hpost
  obtain ⟨za, zc, hx2⟩ := r2.len
  subst hx2
  have b17 := b1.below hb7 (Nat.le_refl _)
  have hba := below_box w7 #[.slice za U.length zc, .int .u64 (S : Int), .int .u8 (K : Int)] 25
  have b18 := b17.below hba (Nat.le_refl _)
  have b28 := box_new w7 (.slice za U.length zc) (.int .u64 (S : Int)) (.int .u8 (K : Int)) 25
  have r18 := (r16.below hb7 (Nat.le_refl _)).below hba (Nat.le_refl _)
  have s18 := (s16.below hb7 (Nat.le_refl _)).below hba (Nat.le_refl _)
  have r28 := r2.below hba (Nat.le_refl _)
  have s28 := s2.below hba (Nat.le_refl _)
  have rp8 := (rp6.below hb7 (Nat.le_refl _)).below hba (Nat.le_refl _)
  have rq8 := (rq6.below hb7 (Nat.le_refl _)).below hba (Nat.le_refl _)
  have hc7 : w7.cell? ⟨gv, cx.length, none⟩ = some (.int .u8 165) := by rw [hb7.cell (p := ⟨gv, cx.length, none⟩) hgv6]; exact hc6
  have hgv7 := Nat.lt_of_lt_of_le hgv6 hb7.size
  have hc8 : (w7.alloc (.cells #[.slice za U.length zc, .int .u64 (S : Int), .int .u8 (K : Int)] 25)).cell? ⟨gv, cx.length, none⟩ = some (.int .u8 165) := by rw [hba.cell (p := ⟨gv, cx.length, none⟩) hgv7]; exact hc7
  have hB8 := (hB6.trans (hb7.mono hB6.size)).trans (hba.mono (Nat.le_trans hB6.size hb7.size))
  have hgv8 := Nat.lt_of_lt_of_le hgv7 hba.size
  have c10 := b18.c0; have c11 := b18.c1; have c12 := b18.c2
  clear hpost r2 s2 r16 s16 hb7 rp6 rq6 hc6 hc7 hB6 hgv6 hgv7 hba b1 b17
  go_wp2_with fail
  refine (keysame_any _ _ _ U U S K S K true r18 r28 (by simp)).mono ?_
  rintro e w9 ⟨rfl, hb9⟩
  have s19 := s18.below hb9 (Nat.le_refl _)
  have s29 := s28.below hb9 (Nat.le_refl _)
  have rp9 := rp8.below hb9 (Nat.le_refl _)
  have rq9 := rq8.below hb9 (Nat.le_refl _)
  have hc9 : w9.cell? ⟨gv, cx.length, none⟩ = some (.int .u8 165) := by rw [hb9.cell (p := ⟨gv, cx.length, none⟩) hgv8]; exact hc8
  have hB9 := hB8.trans (hb9.mono hB8.size)
  clear b18 b28 r18 r28 s18 s28 rp8 rq8 hc8 hB8 hb9 c10 c11 c12
  go_wp2_with fail
  refine (same_b _ _ _ _ _ true s19 s29 (by simp)).mono ?_
  rintro e w10 ⟨rfl, hw⟩
  subst hw
  go_wp2_with fail
  refine (same_b _ _ _ _ _ true rq9 rp9 (by simp)).mono ?_
  rintro e w10 ⟨rfl, hw⟩
  subst hw
  go_wp2
  go_ret
  exact ⟨ret_bool (by simp), hB9⟩

theorem keyReads_walk (a0 : Option Addr) (len0 cap0 : Nat) (z0 : List Int) (w : World) (w0 : IsRow .u8 w a0 len0 cap0 z0) :
    Calls Try.prog 4 #[.slice a0 len0 cap0] w fun e w' => e = .returned (.bool true) ∧ Below w.heap.size w w' :=
  kreads_walk w _ _ _ rfl (List.length_take_le _ _) (arg_of w0)

end Go.Proofs.Ytofejeplkbchoaa
