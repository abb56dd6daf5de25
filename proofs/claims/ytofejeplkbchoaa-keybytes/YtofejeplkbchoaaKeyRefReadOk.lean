/- bartizanref03.Read, where all is right. -/
import Derived.Test.YtofejeplkbchoaaKeyRefRead
namespace Go.Proofs.Ytofejeplkbchoaa
open Go.RowKit

theorem textS_rest (l : List UInt8) (m : Int) : (textS l m).2.1.length ≤ l.length := by
  unfold textS
  split
  · split
    · simp
    · split
      · simp
      · simp
  · simp

set_option maxHeartbeats 4000000 in
theorem rkr_ok (w : World) (v : Value) (l u t : List UInt8) (a0 a1 a2 a3 a4 a5 a6 a7 : UInt8) (S K x1 x2 x3 x4 x5 x6 x7 Q2 Q3 Q4 Q5 Q6 : Int) (hv : Rd w v l) (hlen : l.length ≤ 1000000) (hT : textS l 64 = (u, a0 :: a1 :: a2 :: a3 :: a4 :: a5 :: a6 :: a7 :: t, 0))
    (e0 : (a0.toNat : Int) = K) (e1 : (a1.toNat : Int) = x1) (e2 : (a2.toNat : Int) = x2) (e3 : (a3.toNat : Int) = x3) (e4 : (a4.toNat : Int) = x4) (e5 : (a5.toNat : Int) = x5) (e6 : (a6.toNat : Int) = x6) (e7 : (a7.toNat : Int) = x7)
    (q2 : x7 * 256 + x6 = Q2) (q3 : Q2 * 256 + x5 = Q3) (q4 : Q3 * 256 + x4 = Q4) (q5 : Q4 * 256 + x3 = Q5) (q6 : Q5 * 256 + x2 = Q6) (q7 : Q6 * 256 + x1 = S)
    (hS0 : 0 ≤ S) (hK0 : 0 ≤ K) (hc : chk u.length S K = 0) :
    Calls Try.prog 15 #[v] w fun o w' => ∃ x y, o = .returned (.tuple #[.agg #[x, .int .u64 S, .int .u8 K], y, .int .i64 0]) ∧ Rd w' x u ∧ Rd w' y t ∧ From (w.heap.size + 1) x ∧ From (w.heap.size + 1) y ∧ Below w.heap.size w w' := by
  have b0 := box_new w (.slice none 0 0) (.int .u64 0) (.int .u8 0) 25
  have hB0 := below_box w #[.slice none 0 0, .int .u64 0, .int .u8 0] 25
  have hv0 := hv.below hB0 (Nat.le_refl _)
  have HT : Hid _ := hT
  have HC : Hid _ := hc
  have g0 := a0.toNat_lt; have g1 := a1.toNat_lt; have g2 := a2.toNat_lt; have g3 := a3.toNat_lt; have g4 := a4.toNat_lt; have g5 := a5.toNat_lt; have g6 := a6.toNat_lt; have g7 := a7.toNat_lt
  have p0 : K < 256 := by omega
  have p1 : 0 ≤ x1 := by omega
  have p2 : 0 ≤ x2 := by omega
  have p3 : 0 ≤ x3 := by omega
  have p4 : 0 ≤ x4 := by omega
  have p5 : 0 ≤ x5 := by omega
  have p6 : 0 ≤ x6 := by omega
  have p7 : 0 ≤ x7 := by omega
  have s1 : x1 < 256 := by omega
  have s2 : x2 < 256 := by omega
  have s3 : x3 < 256 := by omega
  have s4 : x4 < 256 := by omega
  have s5 : x5 < 256 := by omega
  have s6 : x6 < 256 := by omega
  have s7 : x7 < 256 := by omega
  have m2 : 0 ≤ Q2 ∧ Q2 < 65536 := by omega
  have m3 : 0 ≤ Q3 ∧ Q3 < 16777216 := by omega
  have m4 : 0 ≤ Q4 ∧ Q4 < 4294967296 := by omega
  have m5 : 0 ≤ Q5 ∧ Q5 < 1099511627776 := by omega
  have m6 : 0 ≤ Q6 ∧ Q6 < 281474976710656 := by omega
  have m7 : S < 72057594037927936 := by omega
  obtain ⟨m2, m2'⟩ := m2; obtain ⟨m3, m3'⟩ := m3; obtain ⟨m4, m4'⟩ := m4; obtain ⟨m5, m5'⟩ := m5; obtain ⟨m6, m6'⟩ := m6
  have E : Hid (bv (a0 :: a1 :: a2 :: a3 :: a4 :: a5 :: a6 :: a7 :: t) = [.int .u8 K, .int .u8 x1, .int .u8 x2, .int .u8 x3, .int .u8 x4, .int .u8 x5, .int .u8 x6, .int .u8 x7] ++ bv t) := by
    show _ = _
    simp only [bv, List.map_cons, e0, e1, e2, e3, e4, e5, e6, e7]
    rfl
  clear hv hT hc e0 e1 e2 e3 e4 e5 e6 e7 g0 g1 g2 g3 g4 g5 g6 g7
  obtain ⟨r, hr⟩ : ∃ r, a0 :: a1 :: a2 :: a3 :: a4 :: a5 :: a6 :: a7 :: t = r := ⟨_, rfl⟩
  have hrl : 8 ≤ r.length := by rw [← hr]; simp
  have hrt : Hid (r.drop 8 = t) := by show _ = _; rw [← hr]; rfl
  rw [hr] at HT E
  clear hr
  go_enter Try.func15, Try.ntmps15
  go_wp2_with fail
  refine (reftext_any _ _ l 64 (by omega) hv0 (by omega)).mono ?_
  rintro o w1 ⟨x, y, rfl, rx, ry, fx, fy, hb⟩
  rw [HT.out] at rx ry ⊢
  rw [show (w.alloc (.cells #[.slice none 0 0, .int .u64 0, .int .u8 0] 25)).heap.size = w.heap.size + 1 by simp] at fx fy
  have hB1 := hB0.trans (hb.mono hB0.size)
  have b1 := b0.below hb (Nat.le_refl _)
  obtain ⟨xa, xc, hx⟩ := rx.len
  subst hx
  obtain ⟨g, off, cap, hy, h1, h2, h3⟩ : ∃ g off cap, y = .slice (some ⟨g, off, none⟩) r.length cap ∧ r.length ≤ cap ∧ cap ≤ maxLen ∧ ∀ j u, (bv r)[j]? = some u → w1.cell? ⟨g, off + j, none⟩ = some u := by
    rcases ry with ⟨_, h⟩ | ⟨g, off, cap, h, h1, h2, h3⟩
    · exact absurd (show r = [] from h) (by intro h; rw [h] at hrl; simp at hrl)
    · exact ⟨g, off, cap, h, h1, h2, h3⟩
  subst hy
  have k0 := h3 0 (.int .u8 K) (by rw [E.out]; rfl)
  have k1 := h3 1 (.int .u8 x1) (by rw [E.out]; rfl)
  have k2 := h3 2 (.int .u8 x2) (by rw [E.out]; rfl)
  have k3 := h3 3 (.int .u8 x3) (by rw [E.out]; rfl)
  have k4 := h3 4 (.int .u8 x4) (by rw [E.out]; rfl)
  have k5 := h3 5 (.int .u8 x5) (by rw [E.out]; rfl)
  have k6 := h3 6 (.int .u8 x6) (by rw [E.out]; rfl)
  have k7 := h3 7 (.int .u8 x7) (by rw [E.out]; rfl)
  have hgl : g < w1.heap.size := World.block_lt_of_cell? w1 _ k0
  have hgn : ¬ g = w1.heap.size := by omega
  have hgB : w.heap.size + 1 ≤ g := fy _ _ _ rfl
  rw [Nat.add_zero] at k0
  have hlt := b1.lt
  have hne : ¬ w1.heap.size = w.heap.size := by omega
  have h2' := h2
  unfold maxLen at h2'
  have hr2 : (8 : Int) ≤ (r.length : Int) := by omega
  have i1 : (1 : Int) < (r.length : Int) := by omega
  have i2 : (2 : Int) < (r.length : Int) := by omega
  have i3 : (3 : Int) < (r.length : Int) := by omega
  have i4 : (4 : Int) < (r.length : Int) := by omega
  have i5 : (5 : Int) < (r.length : Int) := by omega
  have i6 : (6 : Int) < (r.length : Int) := by omega
  have i7 : (7 : Int) < (r.length : Int) := by omega
  have i0 : (0 : Int) < (r.length : Int) := by omega
  obtain ⟨off', o1, o2, hD, _⟩ := rd_drop h3 h1 h2 8 hrl
  rw [hrt.out] at hD
  have htl : Hid (t.length ≤ 1000000) := by
    have h := congrArg (fun p => p.2.1.length) HT.out
    have h' := textS_rest l 64
    show _ ≤ _
    have h3 := congrArg List.length hrt.out
    simp at h h3
    omega
  clear b0 hv0 hb hB0 h3 hrl
  go_wp2_with fail
  refine wp_loop_rounds 8 ?_
  rw [rounds_succ]
  go_wp2_with fail
  go_region
  go_wp2_with fail
  rw [rounds_succ]
  go_wp2_with fail
  go_region
  go_wp2_with fail
  rw [rounds_succ]
  go_wp2_with fail
  go_region
  go_wp2_with fail
  rw [rounds_succ]
  go_wp2_with fail
  go_region
  go_wp2_with fail
  rw [rounds_succ]
  go_wp2_with fail
  go_region
  go_wp2_with fail
  rw [rounds_succ]
  go_wp2_with fail
  go_region
  go_wp2_with fail
  rw [rounds_succ]
  go_wp2_with fail
  go_region
  go_wp2_with fail
  rw [rounds_succ]
  go_wp2_with fail
  have hba : Below w1.heap.size w1 (w1.alloc (.cells #[.slice xa u.length xc, .int .u64 S, .int .u8 K] 25)).drew.drew.drew.drew.drew.drew.drew := (below_box w1 _ _).drew.drew.drew.drew.drew.drew.drew
  have b2 := (b1.alloc (.cells #[.slice xa u.length xc, .int .u64 S, .int .u8 K] 25)).drew.drew.drew.drew.drew.drew.drew
  have n2 := (box_new w1 (.slice xa u.length xc) (.int .u64 S) (.int .u8 K) 25).drew.drew.drew.drew.drew.drew.drew
  have rx2 := rx.below hba (Nat.le_refl _)
  have hB2 := hB1.trans (hba.mono hB1.size)
  have hD1 := hD.below hba (Nat.le_refl _)
  refine (refcheck_any _ xa u.length xc S K hS0 hK0).mono ?_
  rintro o w3 ⟨rfl, hb⟩
  rw [HC.out]
  replace b2 := b2.below hb (Nat.le_refl _)
  replace n2 := n2.below hb (Nat.le_refl _)
  replace rx2 := rx2.below hb (Nat.le_refl _)
  have hD2 := hD1.below hb (Nat.le_refl _)
  replace hB2 := hB2.trans (hb.mono hB2.size)
  have d0 := n2.c0; have d1 := n2.c1; have d2 := n2.c2
  have hsz3 : w.heap.size + 1 ≤ w3.heap.size := Nat.lt_of_lt_of_le b2.lt (Nat.le_refl _)
  clear hba hD hD1 b1 hB1 hb rx ry k0 k1 k2 k3 k4 k5 k6 k7 q2 q3 q4 q5 q6 q7
  clear p1 p2 p3 p4 p5 p6 p7 s1 s2 s3 s4 s5 s6 s7 m2 m2' m3 m3' m4 m4' m5 m5' m6 m6' i1 i2 i3 i4 i5 i6 i7 i0
  by_cases hcp : cap = 8
  · have e := o2 hcp
    subst e
    have hcp' : ((cap : Int) == 8) = true := by simp; omega
    have e0 : cap - 8 = 0 := by omega
    rw [e0] at hD2
    clear o1 o2 e0
    go_wp2_with fail
    go_region_with (first | (go_at_call 14; refine (copy_any _ _ t (by exact hD2.drew.arg) (by have := htl.out; omega)).mono ?_; rintro o w4 ⟨z, rfl, oz, hbz⟩; have b4 := b2.drew.below hbz (Nat.le_refl _); have n4 := n2.drew.below hbz (Nat.le_refl _); have rx4 := rx2.drew.below hbz (Nat.le_refl _); have hB4 := (hB2.drew).trans (hbz.mono hB2.size); have ⟨c0, c1, c2, f0, f1, f2⟩ := b4; have d0' := n4.c0; have d1' := n4.c1; have d2' := n4.c2; have fz := (oz.mono (C := w.heap.size + 1) hsz3).from; have rz := oz.rd; obtain ⟨gz, kz, ez⟩ := oz.shape; subst ez))
    all_goals
      clear b2 n2 rx2 hB2 hD2 b4 n4 oz hbz
      go_wp2
      refine bodyPost_ret (v := .tuple #[.agg #[.slice xa u.length xc, .int .u64 S, .int .u8 K], .slice (some ⟨gz, 0, none⟩) t.length kz, .int .i64 0]) (by simp [results, Try.results15, go_sem, c0, c1, c2]) rfl ⟨_, _, rfl, ?_, ?_, fx, fz, ?_⟩
      · exact rx4.stored3 fx _ _ _
      · exact rz.stored3 fz _ _ _
      · exact below_store3 hB4 (Nat.le_refl _) _ _ _
  · have e := o1 hcp
    subst e
    clear o1 o2
    go_wp2_with fail
    go_region_with (first | (go_at_call 14; refine (copy_any _ _ t (by exact hD2.drew.arg) (by have := htl.out; omega)).mono ?_; rintro o w4 ⟨z, rfl, oz, hbz⟩; have b4 := b2.drew.below hbz (Nat.le_refl _); have n4 := n2.drew.below hbz (Nat.le_refl _); have rx4 := rx2.drew.below hbz (Nat.le_refl _); have hB4 := (hB2.drew).trans (hbz.mono hB2.size); have ⟨c0, c1, c2, f0, f1, f2⟩ := b4; have d0' := n4.c0; have d1' := n4.c1; have d2' := n4.c2; have fz := (oz.mono (C := w.heap.size + 1) hsz3).from; have rz := oz.rd; obtain ⟨gz, kz, ez⟩ := oz.shape; subst ez))
    all_goals
      clear b2 n2 rx2 hB2 hD2 b4 n4 oz hbz
      go_wp2
      refine bodyPost_ret (v := .tuple #[.agg #[.slice xa u.length xc, .int .u64 S, .int .u8 K], .slice (some ⟨gz, 0, none⟩) t.length kz, .int .i64 0]) (by simp [results, Try.results15, go_sem, c0, c1, c2]) rfl ⟨_, _, rfl, ?_, ?_, fx, fz, ?_⟩
      · exact rx4.stored3 fx _ _ _
      · exact rz.stored3 fz _ _ _
      · exact below_store3 hB4 (Nat.le_refl _) _ _ _

end Go.Proofs.Ytofejeplkbchoaa
