/- AtomNums answers true: every number has just its bytes, and is read again, whatever stands behind. -/
import Derived.Test.YtecmijocgkhnpaaRefNum
import Derived.Test.YtecmijocgkhnpaaRisesWalk
namespace Go.Proofs.Ytecmijocgkhnpaa
open Go.RowKit

set_option maxRecDepth 20000 in
/-- a number's bytes: its first tells how many; and they are read as it -/
theorem numB_read (n : Nat) (h : n < 18446744073709551616) : ∃ f t, Mth.numB n = f :: t ∧ (f :: t).length = sizeN f.toNat ∧ decN (f :: t) = n := by
  have hw := Mth.wsize_le n
  by_cases a1 : n ≤ 240
  · have e : (UInt8.ofNat n).toNat = n := by simp; omega
    refine ⟨UInt8.ofNat n, [], by rw [Mth.numB, if_pos a1], ?_, ?_⟩
    · rw [e, sizeN, if_pos a1]; rfl
    · simp only [decN, List.headD_cons, e]
      rw [if_pos a1]
  by_cases a2 : n ≤ 2287
  · have e : (UInt8.ofNat (241 + (n - 240) / 256)).toNat = 241 + (n - 240) / 256 := by simp; omega
    refine ⟨_, _, by rw [Mth.numB, if_neg a1, if_pos a2], ?_, ?_⟩
    · rw [e, sizeN, if_neg (by omega), if_pos (by omega)]; rfl
    · simp only [decN, List.headD_cons, List.tail_cons, e]
      rw [if_neg (by omega), if_pos (by omega)]
      simp [Mth.hf]
      omega
  by_cases a3 : n ≤ 67823
  · have e : (249 : UInt8).toNat = 249 := by decide
    refine ⟨_, _, by rw [Mth.numB, if_neg a1, if_neg a2, if_pos a3], ?_, ?_⟩
    · rw [e]; rfl
    · simp only [decN, List.headD_cons, List.tail_cons, e]
      rw [if_neg (by omega), if_neg (by omega), if_pos trivial]
      simp [Mth.hf]
      omega
  · have e : (UInt8.ofNat (247 + Mth.wsize n)).toNat = 247 + Mth.wsize n := by simp; omega
    refine ⟨_, _, by rw [Mth.numB, if_neg a1, if_neg a2, if_neg a3], ?_, ?_⟩
    · rw [e, sizeN, if_neg (by omega), if_neg (by omega), if_neg (by omega), List.length_cons, Mth.beB_length]; omega
    · simp only [decN, List.headD_cons, List.tail_cons, e]
      rw [if_neg (by omega), if_neg (by omega), if_neg (by omega), Mth.hf_beB]
      exact Nat.mod_eq_of_lt (Mth.wsize_fits n h)

/-- and so it is what stands in front of its bytes -/
theorem front_numB (n : Nat) (h : n < 18446744073709551616) (t : List UInt8) : frontS (Mth.numB n ++ t) = (n, (Mth.numB n).length, 0) := by
  obtain ⟨f, u, e, hl, hd⟩ := numB_read n h
  have et : (f :: (u ++ t)).take (sizeN f.toNat) = f :: u := by
    rw [← hl, ← List.cons_append]
    exact List.take_left
  rw [e, List.cons_append, frontS, if_neg (by rw [← hl]; simp), et, hd, e, hl]
  simp

theorem Rd.grown {w w' : World} {b off n cap : Nat} {l : List UInt8} {row : Option Nat} (h : Rd w (.slice (some ⟨b, off, none⟩) n cap) l) (hg : w.grownBy w' row) (hne : some b ≠ row) : Rd w' (.slice (some ⟨b, off, none⟩) n cap) l := by
  rcases h with ⟨h, _⟩ | ⟨b', off', cap', e, h1, h2, h3⟩
  · cases h
  · refine .inr ⟨b', off', cap', e, h1, h2, fun j u hu => hg.cell (h3 j u hu) ?_⟩
    simp only [Value.slice.injEq, Option.some.injEq, Addr.mk.injEq, and_true] at e
    obtain ⟨⟨rfl, rfl⟩, _, rfl⟩ := e
    exact hne

theorem Own.lt {B : Nat} {w : World} {g n k : Nat} {l : List UInt8} (h : Own B w (.slice (some ⟨g, 0, none⟩) n k) l) : B ≤ g ∧ g < w.heap.size := by
  exact h.row.lt g rfl

set_option maxHeartbeats 1000000 in
theorem nums_walk (n : Nat) (w : World) (vx : Value) (x cx : List UInt8) (CX : Hid (x.take 100 = cx)) (hcx : cx.length ≤ 100) (hx : Arg w vx x) (hn : n < 18446744073709551616) :
    Calls Try.prog 3 #[.int .u64 (n : Int), vx] w fun e w' => e = .returned (.bool true) ∧ Below w.heap.size w w' := by
  obtain ⟨i0, hi, hz0, hz1, hz2⟩ := info_parts info5
  have hnl := Mth.numL_bd n
  rw [← Mth.numB_length] at hnl
  have HF : Hid (frontS (Mth.numB n ++ cx) = (n, (Mth.numB n).length, 0)) := front_numB n hn cx
  have HD : Hid ((Mth.numB n ++ cx).drop (Mth.numB n).length = cx) := by show _ = _; simp
  obtain ⟨nb, hnb⟩ : ∃ nb, Mth.numB n = nb := ⟨_, rfl⟩
  have HNB : Hid (Mth.numB n = nb) := hnb
  rw [hnb] at HF HD hnl
  clear hnb
  go_enter Try.func3, Try.ntmps3
  go_wp2_with fail
  refine (awake_any _).mono ?_
  rintro e w1 ⟨rfl, hb1⟩
  have hx1 := hx.below hb1 (Nat.le_refl _)
  go_wp2_with fail
  refine (num_any n _ hn).mono ?_
  rintro e w2 ⟨va, rfl, oa, hb2⟩
  rw [HNB.out] at oa
  have hx2 := hx1.below hb2 (Nat.le_refl _)
  go_wp2_with fail
  refine (refnum_any n _ hn).mono ?_
  rintro e w3 ⟨vb, rfl, ob, hb3⟩
  rw [HNB.out] at ob
  have hx3 := hx2.below hb3 (Nat.le_refl _)
  have ra := oa.rd.below hb3 (Nat.le_refl _)
  have rb := ob.rd
  have hB3 := (hb1.trans (hb2.mono hb1.size)).trans (hb3.mono (Nat.le_trans hb1.size hb2.size))
  clear hb1 hb2 hb3 oa ob hx hx1 hx2
  go_wp2_with fail
  refine (same_b _ _ _ _ _ true ra rb (by simp)).mono ?_
  rintro e w4 ⟨rfl, hw⟩
  subst hw
  clear ra rb
  go_wp2_with fail
  refine (cut_any _ _ x 100 hx3 (by omega)).mono ?_
  rintro e w5 ⟨vc, rfl, oc, hb5⟩
  rw [CX.out] at oc
  have hB5 := hB3.trans (hb5.mono hB3.size)
  obtain ⟨gc, kc, hvc⟩ := oc.shape
  subst hvc
  have hgc := oc.lt.2
  clear hb5 hx3 hB3
  go_wp2_with fail
  refine (refnum_any n _ hn).mono ?_
  rintro e w6 ⟨vd, rfl, od, hb6⟩
  rw [HNB.out] at od
  have hB6 := hB5.trans (hb6.mono hB5.size)
  have hB5' := hB5.size
  have rc6 := oc.rd.below hb6 (Nat.le_refl _)
  have oc6 := oc.below hb6 (Nat.le_refl _)
  have hsz6 := hb6.size
  obtain ⟨gd, kd, hvd⟩ := od.shape
  subst hvd
  have hdl := od.row
  clear hb6 hB5 oc
  go_wp2_with (first | (at_builtin; refine wpList_append_own _ rfl (.tmp 22) (.tmp 23) 23 rfl w5.heap.size 5 i0 (.int .u8 0) 1 1 Try.underlying23 hi hz0 hz1 hz2 rfl (by decide) (.slice (some ⟨gd, 0, none⟩) nb.length kd) nb.length (bv nb) rfl hdl ⟨gc, 0, none⟩ cx.length kc (bv cx) rfl (by rw [bv_length, Nat.mul_one]) (oc6.row.cells rfl) (bv_one _) (by simp only [maxLen]; omega) (by omega) hsz6 ?_; intro v' w7 ho' hgr' hn') | fail)
  have hv7 : Own w5.heap.size w7 v' (nb ++ cx) := Own.of_row (by rw [List.length_append, bv_append]; exact ho') (fun e => by have := (hn'.1 e).1; cases this)
  have hB7 : Below w.heap.size w w7 := hB6.grown hgr' hB6.size (fun k' e => by have := (hdl.lt k' e).1; have := hB6.size; have h5 := hB5'; omega)
  have rc7 := rc6.grown hgr' (fun e => by have := (hdl.lt gc e.symm).1; omega)
  clear ho' hgr' hn' hdl od oc6 rc6 hB6
  refine (take_ok _ _ (nb ++ cx) n nb.length hv7.rd HF.out (by rw [List.length_append]; omega)).mono ?_
  rintro e w8 ⟨y, rfl, oy, hb8⟩
  rw [HD.out] at oy
  have hB8 := hB7.trans (hb8.mono hB7.size)
  have ry := oy.rd
  have rc8 := rc7.below hb8 (Nat.le_refl _)
  clear hb8 hB7 rc7 oy hv7
  go_wp2_with fail
  refine (same_b _ _ _ _ _ true ry rc8 (by simp)).mono ?_
  rintro e w9 ⟨rfl, hw⟩
  subst hw
  go_wp2
  go_ret
  exact ⟨rfl, hB8⟩

theorem atomNums_walk (a0 : Int) (a1 : Option Addr) (len1 cap1 : Nat) (z1 : List Int) (w : World) (w0 : (Lit.int .u64 a0).wf = true) (w1 : IsRow .u8 w a1 len1 cap1 z1) :
    Calls Try.prog 3 #[.int .u64 a0, .slice a1 len1 cap1] w fun e w' => e = .returned (.bool true) ∧ Below w.heap.size w w' := by
  obtain ⟨n, rfl, hn⟩ := u64_nat w0
  exact nums_walk n w _ _ _ rfl (List.length_take_le _ _) (arg_of w1) hn

end Go.Proofs.Ytecmijocgkhnpaa
