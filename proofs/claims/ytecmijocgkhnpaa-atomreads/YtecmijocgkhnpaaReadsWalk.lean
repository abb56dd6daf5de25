/- AtomReads answers true: all bytes begin with a number, or don't; with a text, or don't; they come back untouched. -/
import Derived.Test.YtecmijocgkhnpaaRefText
namespace Go.Proofs.Ytecmijocgkhnpaa
open Go.RowKit

/-- what both TakeTexts answer -/
def textS (l : List UInt8) (most : Int) : List UInt8 × List UInt8 × Nat :=
  if (frontS l).2.2 = 0 then
    if most < 0 ∨ most < ((frontS l).1 : Int) then ([], [], 3)
    else if l.length - (frontS l).2.1 < (frontS l).1 then ([], [], 2)
    else ((l.drop (frontS l).2.1).take (frontS l).1, l.drop ((frontS l).2.1 + (frontS l).1), 0)
  else ([], [], (frontS l).2.2)

theorem text_any (w : World) (v : Value) (l : List UInt8) (most : Int) (hm2 : most ≤ 9223372036854775807) (hv : Rd w v l) (hlen : l.length ≤ 1099511627776) :
    Calls Try.prog 18 #[v, .int .i64 most] w fun e w' => ∃ x y, e = .returned (.tuple #[x, y, .int .i64 ((textS l most).2.2 : Int)]) ∧ Rd w' x (textS l most).1 ∧ Rd w' y (textS l most).2.1 ∧ Below w.heap.size w w' := by
  obtain ⟨⟨n, s, e⟩, hf⟩ : ∃ y, frontS l = y := ⟨_, rfl⟩
  by_cases he : e = 0
  · subst he
    by_cases h1 : most < 0 ∨ most < (n : Int)
    · have hT : textS l most = ([], [], 3) := by unfold textS; rw [hf]; simp only [if_true]; rw [if_pos h1]
      refine (tt_long w v l most n s hm2 hv hf h1).mono ?_
      rintro r w' ⟨rfl, hb⟩
      rw [hT]
      exact ⟨_, _, rfl, .inl ⟨rfl, rfl⟩, .inl ⟨rfl, rfl⟩, hb⟩
    · by_cases h2 : l.length - s < n
      · have hT : textS l most = ([], [], 2) := by unfold textS; rw [hf]; simp only [if_true]; rw [if_neg h1, if_pos h2]
        refine (tt_short w v l most n s hm2 hv hf (by omega) h2).mono ?_
        rintro r w' ⟨rfl, hb⟩
        rw [hT]
        exact ⟨_, _, rfl, .inl ⟨rfl, rfl⟩, .inl ⟨rfl, rfl⟩, hb⟩
      · have hT : textS l most = ((l.drop s).take n, l.drop (s + n), 0) := by unfold textS; rw [hf]; simp only [if_true]; rw [if_neg h1, if_neg h2]
        refine (tt_ok w v l _ _ most n s hm2 hv hf (by omega) (by omega) hlen rfl rfl).mono ?_
        rintro r w' ⟨x, y, rfl, hx, hy, hb⟩
        rw [hT]
        exact ⟨x, y, rfl, hx.rd, hy.rd, hb⟩
  · obtain ⟨rfl, rfl, h24⟩ := frontS_err hf he
    have hT : textS l most = ([], [], e) := by unfold textS; rw [hf]; simp only; rw [if_neg he]
    refine (tt_front w v l most e hv hf h24).mono ?_
    rintro r w' ⟨rfl, hb⟩
    rw [hT]
    exact ⟨_, _, rfl, .inl ⟨rfl, rfl⟩, .inl ⟨rfl, rfl⟩, hb⟩

theorem reftext_any (w : World) (v : Value) (l : List UInt8) (most : Int) (hm2 : most ≤ 9223372036854775807) (hv : Rd w v l) (hlen : l.length ≤ 1099511627776) :
    Calls Try.prog 19 #[v, .int .i64 most] w fun e w' => ∃ x y, e = .returned (.tuple #[x, y, .int .i64 ((textS l most).2.2 : Int)]) ∧ Rd w' x (textS l most).1 ∧ Rd w' y (textS l most).2.1 ∧ Below w.heap.size w w' := by
  obtain ⟨⟨n, s, e⟩, hf⟩ : ∃ y, frontS l = y := ⟨_, rfl⟩
  by_cases he : e = 0
  · subst he
    by_cases h1 : most < 0 ∨ most < (n : Int)
    · have hT : textS l most = ([], [], 3) := by unfold textS; rw [hf]; simp only [if_true]; rw [if_pos h1]
      refine (rtt_long w v l most n s hm2 hv hlen hf h1).mono ?_
      rintro r w' ⟨rfl, hb⟩
      rw [hT]
      exact ⟨_, _, rfl, .inl ⟨rfl, rfl⟩, .inl ⟨rfl, rfl⟩, hb⟩
    · by_cases h2 : l.length - s < n
      · have hT : textS l most = ([], [], 2) := by unfold textS; rw [hf]; simp only [if_true]; rw [if_neg h1, if_pos h2]
        refine (rtt_short w v l most n s hm2 hv hlen hf (by omega) h2).mono ?_
        rintro r w' ⟨rfl, hb⟩
        rw [hT]
        exact ⟨_, _, rfl, .inl ⟨rfl, rfl⟩, .inl ⟨rfl, rfl⟩, hb⟩
      · have hT : textS l most = ((l.drop s).take n, l.drop (s + n), 0) := by unfold textS; rw [hf]; simp only [if_true]; rw [if_neg h1, if_neg h2]
        refine (rtt_ok w v l _ _ most n s hm2 hv hf (by omega) (by omega) hlen rfl rfl).mono ?_
        rintro r w' ⟨x, y, rfl, hx, hy, hb⟩
        rw [hT]
        exact ⟨x, y, rfl, hx, hy, hb⟩
  · obtain ⟨rfl, rfl, h24⟩ := frontS_err hf he
    have hT : textS l most = ([], [], e) := by unfold textS; rw [hf]; simp only; rw [if_neg he]
    refine (rtt_front w v l most e hv hlen hf h24).mono ?_
    rintro r w' ⟨rfl, hb⟩
    rw [hT]
    exact ⟨_, _, rfl, .inl ⟨rfl, rfl⟩, .inl ⟨rfl, rfl⟩, hb⟩

/-- what stands behind the number, as bytes -/
def behindS (l : List UInt8) : List UInt8 := if (frontS l).2.2 = 0 then l.drop (frontS l).2.1 else []
theorem TakePost.rd {l : List UInt8} {B : Nat} {w : World} {x : Value} (h : TakePost l B w x) : Rd w x (behindS l) := by
  unfold TakePost at h
  unfold behindS
  split at h
  · rename_i e; rw [if_pos e]; exact h.rd
  · rename_i e; rw [if_neg e]; exact .inl ⟨h, rfl⟩

theorem app_shape {w : World} {B n m : Nat} {v' : Value} {l u : List UInt8} (ho : w.ownsRow B 5 1 v' (n + m) (bv l ++ bv u)) (hl : l.length = n) (hu : u.length = m) (hn : v' ≠ .slice none 0 0) :
    ∃ g k, v' = .slice (some ⟨g, 0, none⟩) (n + m) k ∧ n + m ≤ k ∧ k ≤ 9223372036854775807 ∧ Own B w v' (l ++ u) := by
  subst hl hu
  have h : Own B w v' (l ++ u) := Own.of_row (by rw [List.length_append, bv_append]; exact ho) hn
  have h' := h
  obtain ⟨g, k, c, e, _, _, h1, h2, _⟩ := h
  rw [List.length_append] at e h1
  exact ⟨g, k, e, h1, by unfold maxLen at h2; omega, h'⟩

set_option maxHeartbeats 4000000 in
set_option maxRecDepth 20000 in
theorem reads_walk (w : World) (vx : Value) (x cx : List UInt8) (most : Int) (hm2 : most ≤ 9223372036854775807) (CX : Hid (x.take 300 = cx)) (hcx : cx.length ≤ 300) (hx : Arg w vx x) :
    Calls Try.prog 4 #[vx, .int .i64 most] w fun e w' => e = .returned (.bool true) ∧ Below w.heap.size w w' := by
  obtain ⟨i0, hi, hz0, hz1, hz2⟩ := info_parts info5
  go_enter Try.func4, Try.ntmps4
  go_wp2_with fail
  refine (awake_any _).mono ?_
  rintro e w1 ⟨rfl, hb1⟩
  have hx1 := hx.below hb1 (Nat.le_refl _)
  clear hx
  go_wp2_with fail
  refine (cut_any _ _ x 300 hx1 (by omega)).mono ?_
  rintro e w2 ⟨vp, rfl, op, hb2⟩
  rw [CX.out] at op
  have hB2 := hb1.trans (hb2.mono hb1.size)
  obtain ⟨gp, kp, hvp⟩ := op.shape
  subst hvp
  have hgp := op.lt.2
  clear hb1 hb2 hx1
  go_wp2_with fail
  refine (copy_any _ _ cx op.rd.arg (by omega)).mono ?_
  rintro e w3 ⟨vq, rfl, oq, hb3⟩
  have hB3 := hB2.trans (hb3.mono hB2.size)
  have op3 := op.below hb3 (Nat.le_refl _)
  obtain ⟨gq, kq, hvq⟩ := oq.shape
  subst hvq
  have hgq := oq.lt
  clear hb3 op
  have hlit := lit_row w3 w3.heap.size (Nat.le_refl _) 165
  have hb165 : ((165 : UInt8).toNat : Int) = 165 := by decide
  rw [hb165] at hlit
  have hqa := oq.row.alloc (.cells #[.int .u8 165] 5)
  have rp3 := op3.rd.below ((Below.refl w3.heap.size w3).alloc (Nat.le_refl _) (.cells #[.int .u8 165] 5)) (Nat.le_refl _)
  have hB3a := hB3.alloc hB3.size (.cells #[.int .u8 165] 5)
  have hs2 := hB2.size
  have hs3 : w2.heap.size ≤ w3.heap.size := by omega
  clear op3 oq hB2 hB3 hb165
  go_wp2_with (first | (at_builtin; refine wpList_append_own _ rfl (.tmp 23) (.tmp 24) 23 rfl w2.heap.size 5 i0 (.int .u8 0) 1 1 Try.underlying23 hi hz0 hz1 hz2 rfl (by decide) (.slice (some ⟨gq, 0, none⟩) cx.length kq) cx.length (bv cx) rfl hqa ⟨w3.heap.size, 0, none⟩ 1 1 (bv [165]) rfl rfl (hlit.cells rfl) (bv_one _) (by simp only [maxLen]; omega) (by omega) (by simp; omega) ?_; intro v' w4 ho' hgr' hn'; obtain ⟨gv, kv, hvv, hk1, hk2, ov⟩ := app_shape ho' rfl rfl (fun e => by have := (hn'.1 e).1; cases this); subst hvv) | fail)
  have hB4 : Below w.heap.size w w4 := hB3a.grown hgr' hB3a.size (fun k' e => by have := (hqa.lt k' e).1; omega)
  have rp4 := rp3.grown hgr' (fun e => by have := (hqa.lt gp e.symm).1; omega)
  have rf4 := ov.rd
  have hcq : ∀ j u, (bv (cx ++ [165]))[j]? = some u → w4.cell? ⟨gv, 0 + j, none⟩ = some u := fun j u hu => by
    have := (rd_cells (by simpa using rf4)).2 j u hu
    rwa [Addr.add_lit] at this
  have rq4 : Rd w4 (.slice (some ⟨gv, 0, none⟩) cx.length kv) cx := by
    have := rd_sub hcq 0 cx.length kv (by omega) (by simp only [maxLen]; omega) (by simp)
    simpa using this
  have hc4 : w4.cell? ⟨gv, cx.length, none⟩ = some (.int .u8 165) := by
    have := hcq cx.length (.int .u8 165) (by simp [bv])
    simpa using this
  have hgv := ov.lt.2
  clear ho' hgr' hn' hqa rp3 hB3a ov rf4 hcq hlit
  obtain ⟨A, hA⟩ : ∃ A, (frontS cx).1 = A := ⟨_, rfl⟩
  obtain ⟨E, hE⟩ : ∃ E, (frontS cx).2.2 = E := ⟨_, rfl⟩
  have HV : Hid (∀ x, takeV cx x = .tuple #[.int .u64 (A : Int), x, .int .i64 (E : Int)]) := by intro x; unfold takeV; rw [hA, hE]
  obtain ⟨t1, ht1⟩ : ∃ t1, (textS cx most).1 = t1 := ⟨_, rfl⟩
  obtain ⟨t2, ht2⟩ : ∃ t2, (textS cx most).2.1 = t2 := ⟨_, rfl⟩
  obtain ⟨te, hte⟩ : ∃ te, (textS cx most).2.2 = te := ⟨_, rfl⟩
  have HT1 : Hid _ := ht1
  have HT2 : Hid _ := ht2
  have HTE : Hid _ := hte
  clear hA hE ht1 ht2 hte
  refine (take_any _ _ cx rq4 (by omega)).mono ?_
  rintro e w5 ⟨x1, rfl, p1, hb5⟩
  rw [HV.out]
  have r1 := p1.rd
  have rp5 := rp4.below hb5 (Nat.le_refl _)
  have rq5 := rq4.below hb5 (Nat.le_refl _)
  have hc5 : w5.cell? ⟨gv, cx.length, none⟩ = some (.int .u8 165) := by rw [hb5.cell (p := ⟨gv, cx.length, none⟩) hgv]; exact hc4
  have hB5 := hB4.trans (hb5.mono hB4.size)
  have hgv5 := Nat.lt_of_lt_of_le hgv hb5.size
  clear p1 hb5 rp4 rq4 hc4 hB4 hgv
  go_wp2_with fail
  refine (reftake_any _ _ cx rp5 (by omega)).mono ?_
  rintro e w6 ⟨x2, rfl, p2, hb6⟩
  rw [HV.out]
  have r2 := p2.rd
  have r1' := r1.below hb6 (Nat.le_refl _)
  have rp6 := rp5.below hb6 (Nat.le_refl _)
  have rq6 := rq5.below hb6 (Nat.le_refl _)
  have hc6 : w6.cell? ⟨gv, cx.length, none⟩ = some (.int .u8 165) := by rw [hb6.cell (p := ⟨gv, cx.length, none⟩) hgv5]; exact hc5
  have hB6 := hB5.trans (hb6.mono hB5.size)
  have hgv6 := Nat.lt_of_lt_of_le hgv5 hb6.size
  clear p2 r1 hb6 rp5 rq5 hc5 hB5 hgv5
  go_wp2_with fail
  refine (text_any _ _ cx most hm2 rq6 (by omega)).mono ?_
  rintro e w7 ⟨x3, y3, rfl, r3, s3, hb7⟩
  rw [HTE.out]
  rw [HT1.out] at r3
  rw [HT2.out] at s3
  have r17 := r1'.below hb7 (Nat.le_refl _)
  have r27 := r2.below hb7 (Nat.le_refl _)
  have rp7 := rp6.below hb7 (Nat.le_refl _)
  have rq7 := rq6.below hb7 (Nat.le_refl _)
  have hc7 : w7.cell? ⟨gv, cx.length, none⟩ = some (.int .u8 165) := by rw [hb7.cell (p := ⟨gv, cx.length, none⟩) hgv6]; exact hc6
  have hB7 := hB6.trans (hb7.mono hB6.size)
  have hgv7 := Nat.lt_of_lt_of_le hgv6 hb7.size
  clear hb7 r1' r2 rp6 rq6 hc6 hB6 hgv6
  go_wp2_with fail
  refine (reftext_any _ _ cx most hm2 rp7 (by omega)).mono ?_
  rintro e w8 ⟨x4, y4, rfl, r4, s4, hb8⟩
  rw [HTE.out]
  rw [HT1.out] at r4
  rw [HT2.out] at s4
  have r18 := r17.below hb8 (Nat.le_refl _)
  have r28 := r27.below hb8 (Nat.le_refl _)
  have r38 := r3.below hb8 (Nat.le_refl _)
  have s38 := s3.below hb8 (Nat.le_refl _)
  have rp8 := rp7.below hb8 (Nat.le_refl _)
  have rq8 := rq7.below hb8 (Nat.le_refl _)
  have hc8 : w8.cell? ⟨gv, cx.length, none⟩ = some (.int .u8 165) := by rw [hb8.cell (p := ⟨gv, cx.length, none⟩) hgv7]; exact hc7
  have hB8 := hB7.trans (hb8.mono hB7.size)
  clear hb8 r17 r27 r3 s3 rp7 rq7 hc7 hB7 hgv7
  go_wp2_with fail
  refine (same_b _ _ _ _ _ true r18 r28 (by simp)).mono ?_
  rintro e w9 ⟨rfl, hw⟩
  subst hw
  go_wp2_with fail
  refine (same_b _ _ _ _ _ true r38 r4 (by simp)).mono ?_
  rintro e w9 ⟨rfl, hw⟩
  subst hw
  go_wp2_with fail
  refine (same_b _ _ _ _ _ true s38 s4 (by simp)).mono ?_
  rintro e w9 ⟨rfl, hw⟩
  subst hw
  go_wp2_with fail
  refine (same_b _ _ _ _ _ true rq8 rp8 (by simp)).mono ?_
  rintro e w9 ⟨rfl, hw⟩
  subst hw
  go_wp2
  go_ret
  exact ⟨rfl, hB8⟩

theorem atomReads_walk (a0 : Option Addr) (len0 cap0 : Nat) (z0 : List Int) (a1 : Int) (w : World) (w0 : IsRow .u8 w a0 len0 cap0 z0) (w1 : (Lit.int .i64 a1).wf = true) :
    Calls Try.prog 4 #[.slice a0 len0 cap0, .int .i64 a1] w fun e w' => e = .returned (.bool true) ∧ Below w.heap.size w w' :=
  reads_walk w _ _ _ a1 (bounds_i64 w1).2 rfl (List.length_take_le _ _) (arg_of w0)

end Go.Proofs.Ytecmijocgkhnpaa
