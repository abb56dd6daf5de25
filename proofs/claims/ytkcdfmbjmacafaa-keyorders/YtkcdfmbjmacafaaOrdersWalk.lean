/- KeyOrders answers true: of any two versions it is told which stands ahead; and of three it goes on. -/
import Derived.Test.YtkcdfmbjmacafaaKeyAwake
import Derived.Test.YtkcdfmbjmacafaaKeyArg
import Derived.Deep.DeepCutAuto
namespace Go.Proofs.Ytkcdfmbjmacafaa
open Go.RowKit

theorem Arg.shape' {w : World} {v : Value} {l : List UInt8} (h : Arg w v l) : ∃ ao cap, v = .slice ao l.length cap := by
  rcases h with ⟨rfl, rfl⟩ | ⟨a, cap, rfl, _⟩
  · exact ⟨none, 0, rfl⟩
  · exact ⟨_, _, rfl⟩

theorem Arg.drew {w : World} {v : Value} {l : List UInt8} (h : Arg w v l) : Arg w.drew v l := h

theorem Box.other3 {w : World} {b : Nat} {v0 v1 v2 : Value} (h : Box w b v0 v1 v2) {c : Nat} (hb : b ≠ c) (u0 u1 u2 : Value) : Box (((w.setCell ⟨c, 0, none⟩ u0).setCell ⟨c, 1, none⟩ u1).setCell ⟨c, 2, none⟩ u2) b v0 v1 v2 :=
  ((h.other ⟨c, 0, none⟩ hb u0).other ⟨c, 1, none⟩ hb u1).other ⟨c, 2, none⟩ hb u2

set_option maxHeartbeats 8000000 in
set_option maxRecDepth 20000 in
theorem orders_walk (w : World) (va vb vc : Value) (la lb lc : List UInt8) (s k t j u i : Int) (ha : Arg w va la) (hb : Arg w vb lb) (hc : Arg w vc lc) :
    Calls Try.prog 3 #[.agg #[va, .int .u64 s, .int .u8 k], .agg #[vb, .int .u64 t, .int .u8 j], .agg #[vc, .int .u64 u, .int .u8 i]] w fun e w' => e = .returned (.bool true) ∧ Below w.heap.size w w' := by
  obtain ⟨a1, a2, ea⟩ := ha.shape'
  obtain ⟨b1, b2, eb⟩ := hb.shape'
  obtain ⟨d1, d2, ed⟩ := hc.shape'
  subst ea eb ed
  obtain ⟨ca, hca⟩ : ∃ c, la.take 80 = c := ⟨_, rfl⟩
  obtain ⟨cb, hcb⟩ : ∃ c, lb.take 80 = c := ⟨_, rfl⟩
  obtain ⟨cc, hcc⟩ : ∃ c, lc.take 80 = c := ⟨_, rfl⟩
  have HA : Hid _ := hca
  have HB : Hid _ := hcb
  have HD : Hid _ := hcc
  clear hca hcb hcc
  have B0 : Below w.heap.size w (((w.alloc (.cells #[.slice a1 la.length a2, .int .u64 s, .int .u8 k] 25)).alloc (.cells #[.slice b1 lb.length b2, .int .u64 t, .int .u8 j] 25)).alloc (.cells #[.slice d1 lc.length d2, .int .u64 u, .int .u8 i] 25)) :=
    (((Below.refl _ _).alloc (Nat.le_refl _) _).alloc (by simp) _).alloc (by simp; omega) _
  have x0 := ((box_new w (.slice a1 la.length a2) (.int .u64 s) (.int .u8 k) 25).alloc (.cells #[.slice b1 lb.length b2, .int .u64 t, .int .u8 j] 25)).alloc (.cells #[.slice d1 lc.length d2, .int .u64 u, .int .u8 i] 25)
  have y0 := (box_new (w.alloc (.cells #[.slice a1 la.length a2, .int .u64 s, .int .u8 k] 25)) (.slice b1 lb.length b2) (.int .u64 t) (.int .u8 j) 25).alloc (.cells #[.slice d1 lc.length d2, .int .u64 u, .int .u8 i] 25)
  have z0 := box_new ((w.alloc (.cells #[.slice a1 la.length a2, .int .u64 s, .int .u8 k] 25)).alloc (.cells #[.slice b1 lb.length b2, .int .u64 t, .int .u8 j] 25)) (.slice d1 lc.length d2) (.int .u64 u) (.int .u8 i) 25
  rw [show (w.alloc (.cells #[.slice a1 la.length a2, .int .u64 s, .int .u8 k] 25)).heap.size = w.heap.size + 1 by simp] at y0
  rw [show ((w.alloc (.cells #[.slice a1 la.length a2, .int .u64 s, .int .u8 k] 25)).alloc (.cells #[.slice b1 lb.length b2, .int .u64 t, .int .u8 j] 25)).heap.size = w.heap.size + 2 by simp] at z0
  have ha0 := ha.below B0 (Nat.le_refl _)
  have hb0 := hb.below B0 (Nat.le_refl _)
  have hc0 := hc.below B0 (Nat.le_refl _)
  clear ha hb hc
  go_enter Try.func3, Try.ntmps3
  go_wp2_with fail
  refine (kawake_any _).mono ?_
  rintro e w1 ⟨rfl, hb1⟩
  have B1 := B0.trans (hb1.mono B0.size)
  have x1 := x0.below hb1 (Nat.le_refl _)
  have y1 := y0.below hb1 (Nat.le_refl _)
  have z1 := z0.below hb1 (Nat.le_refl _)
  have ha1 := ha0.below hb1 (Nat.le_refl _)
  have hb1' := hb0.below hb1 (Nat.le_refl _)
  have hc1 := hc0.below hb1 (Nat.le_refl _)
  clear B0 x0 y0 z0 ha0 hb0 hc0 hb1
  have p0 := x1.c0; have p1 := x1.c1; have p2 := x1.c2; have p3 := y1.c0; have p4 := y1.c1; have p5 := y1.c2; have p6 := z1.c0; have p7 := z1.c1; have p8 := z1.c2
  go_upto_region 3 with fail
  go_cut [] (fun wx => ∃ ga ka gb kb gc kc, Box wx w.heap.size (.slice (some ⟨ga, 0, none⟩) ca.length ka) (.int .u64 s) (.int .u8 k) ∧ Box wx (w.heap.size + 1) (.slice (some ⟨gb, 0, none⟩) cb.length kb) (.int .u64 t) (.int .u8 j) ∧ Box wx (w.heap.size + 2) (.slice (some ⟨gc, 0, none⟩) cc.length kc) (.int .u64 u) (.int .u8 i)
      ∧ Rd wx (.slice (some ⟨ga, 0, none⟩) ca.length ka) ca ∧ Rd wx (.slice (some ⟨gb, 0, none⟩) cb.length kb) cb ∧ Rd wx (.slice (some ⟨gc, 0, none⟩) cc.length kc) cc ∧ Below w.heap.size w wx)
  case first =>
    go_region_with (first
      | (go_at_call_of 11 (Value.agg #[.slice a1 la.length a2, .int .u64 s, .int .u8 k]); refine (small_any _ _ la s k (by exact ha1.drew)).mono ?_; rintro e w2 ⟨xa, rfl, oa, hba⟩; rw [HA.out] at oa; obtain ⟨ga, ka, ea⟩ := oa.shape; subst ea; have x2 := x1.drew.below hba (Nat.le_refl _); have y2 := y1.drew.below hba (Nat.le_refl _); have z2 := z1.drew.below hba (Nat.le_refl _); have q3 := y2.c0; have q4 := y2.c1; have q5 := y2.c2; have q6 := z2.c0; have q7 := z2.c1; have q8 := z2.c2)
      | (go_at_call_of 11 (Value.agg #[.slice b1 lb.length b2, .int .u64 t, .int .u8 j]); refine (small_any _ _ lb t j (by exact hb1'.drew.below hba (Nat.le_refl _))).mono ?_; rintro e w3 ⟨xb, rfl, ob, hbb⟩; rw [HB.out] at ob; obtain ⟨gb, kb, eb⟩ := ob.shape; subst eb; have x3 := x2.below hbb (Nat.le_refl _); have y3 := y2.below hbb (Nat.le_refl _); have z3 := z2.below hbb (Nat.le_refl _); have r6 := z3.c0; have r7 := z3.c1; have r8 := z3.c2)
      | (go_at_call_of 11 (Value.agg #[.slice d1 lc.length d2, .int .u64 u, .int .u8 i]); refine (small_any _ _ lc u i (by exact (hc1.drew.below hba (Nat.le_refl _)).below hbb (Nat.le_refl _))).mono ?_; rintro e w4 ⟨xc, rfl, oc, hbc⟩; rw [HD.out] at oc; obtain ⟨gc, kc, ec⟩ := oc.shape; subst ec; have x4 := x3.below hbc (Nat.le_refl _); have y4 := y3.below hbc (Nat.le_refl _); have z4 := z3.below hbc (Nat.le_refl _); have ⟨s0, s1, s2, g0, g1, g2⟩ := x4; have ⟨s3, s4, s5, g3, g4, g5⟩ := y4; have ⟨s6, s7, s8, g6, g7, g8⟩ := z4))
    all_goals
      have hga := oa.lt.1; have hgb := ob.lt.1; have hgc := oc.lt.1
      have hN : w.heap.size + 3 ≤ w1.drew.heap.size := Nat.lt_of_lt_of_le (Nat.lt_succ_self _) (by have := z1.lt; exact this)
      have hs2 := hba.size; have hs3 := hbb.size
      have B2 : Below w.heap.size w w2 := (B1.drew).trans (hba.mono B1.size)
      have B3 := B2.trans (hbb.mono B2.size)
      have B4 := B3.trans (hbc.mono B3.size)
      have ra := (oa.rd.below hbb (Nat.le_refl _)).below hbc (Nat.le_refl _)
      have rb := ob.rd.below hbc (Nat.le_refl _)
      have rc := oc.rd
      go_wp2_with fail
      go_meet
      exact ⟨ga, ka, gb, kb, gc, kc,
        ((x4.store (.slice (some ⟨ga, 0, none⟩) ca.length ka) (.int .u64 s) (.int .u8 k)).other3 (c := w.heap.size + 1) (by omega) (.slice (some ⟨gb, 0, none⟩) cb.length kb) (.int .u64 t) (.int .u8 j)).other3 (c := w.heap.size + 2) (by omega) (.slice (some ⟨gc, 0, none⟩) cc.length kc) (.int .u64 u) (.int .u8 i),
        ((y4.other3 (c := w.heap.size) (by omega) (.slice (some ⟨ga, 0, none⟩) ca.length ka) (.int .u64 s) (.int .u8 k)).store (.slice (some ⟨gb, 0, none⟩) cb.length kb) (.int .u64 t) (.int .u8 j)).other3 (c := w.heap.size + 2) (by omega) (.slice (some ⟨gc, 0, none⟩) cc.length kc) (.int .u64 u) (.int .u8 i),
        ((z4.other3 (c := w.heap.size) (by omega) (.slice (some ⟨ga, 0, none⟩) ca.length ka) (.int .u64 s) (.int .u8 k)).other3 (c := w.heap.size + 1) (by omega) (.slice (some ⟨gb, 0, none⟩) cb.length kb) (.int .u64 t) (.int .u8 j)).store (.slice (some ⟨gc, 0, none⟩) cc.length kc) (.int .u64 u) (.int .u8 i),
        ((ra.store3 (b := w.heap.size) (by omega) _ _ _).store3 (b := w.heap.size + 1) (by omega) _ _ _).store3 (b := w.heap.size + 2) (by omega) _ _ _,
        ((rb.store3 (b := w.heap.size) (by omega) _ _ _).store3 (b := w.heap.size + 1) (by omega) _ _ _).store3 (b := w.heap.size + 2) (by omega) _ _ _,
        ((rc.store3 (b := w.heap.size) (by omega) _ _ _).store3 (b := w.heap.size + 1) (by omega) _ _ _).store3 (b := w.heap.size + 2) (by omega) _ _ _,
        below_store3 (below_store3 (below_store3 B4 (b := w.heap.size) (Nat.le_refl _) _ _ _) (b := w.heap.size + 1) (by omega) _ _ _) (b := w.heap.size + 2) (by omega) _ _ _⟩
  case rest =>
    clear ha1 hb1' hc1 x1 y1 z1 p0 p1 p2 p3 p4 p5 p6 p7 p8 B1 HA HB HD
    obtain ⟨ga, ka, gb, kb, gc, kc, x, y, z, ra, rb, rc, hB⟩ := hcut
    obtain ⟨c, hc⟩ : ∃ c, Mth.cmpK ca s k cb t j = c := ⟨_, rfl⟩
    obtain ⟨d, hd⟩ : ∃ c, Mth.cmpK cb t j cc u i = c := ⟨_, rfl⟩
    obtain ⟨f, hf⟩ : ∃ c, Mth.cmpK ca s k cc u i = c := ⟨_, rfl⟩
    have hv := Mth.cmpK_vals ca s k cb t j
    have hn := Mth.cmpK_neg ca s k cb t j
    have hz := Mth.cmpK_zero (a := ca) (s := s) (k := k) (b := cb) (t := t) (j := j)
    have ht := @Mth.cmpK_trans ca s k cb t j cc u i
    rw [hc] at hv hn hz ht
    rw [hd, hf] at ht
    have HC : Hid _ := hc
    have HD : Hid _ := hd
    have HF : Hid _ := hf
    have HN : Hid _ := hn
    have HZ : Hid _ := hz
    have HT : Hid _ := ht
    clear hc hd hf hn hz ht
    have xc0 := x.c0; have xc1 := x.c1; have xc2 := x.c2
    have yc0 := y.c0; have yc1 := y.c1; have yc2 := y.c2
    have zc0 := z.c0; have zc1 := z.c1; have zc2 := z.c2
    go_wp2_with fail
    refine (compare_any _ _ _ ca cb s k t j c ra rb HC.out).mono ?_
    rintro e wn ⟨rfl, hb⟩
    clear xc0 xc1 xc2 yc0 yc1 yc2 zc0 zc1 zc2
    replace x := x.below hb (Nat.le_refl _)
    replace y := y.below hb (Nat.le_refl _)
    replace z := z.below hb (Nat.le_refl _)
    replace ra := ra.below hb (Nat.le_refl _)
    replace rb := rb.below hb (Nat.le_refl _)
    replace rc := rc.below hb (Nat.le_refl _)
    replace hB := hB.trans (hb.mono hB.size)
    clear hb
    have xc0 := x.c0; have xc1 := x.c1; have xc2 := x.c2
    have yc0 := y.c0; have yc1 := y.c1; have yc2 := y.c2
    have zc0 := z.c0; have zc1 := z.c1; have zc2 := z.c2
    go_wp2_with fail
    refine (keyless_any _ _ _ ca cb s k t j (decide (c < 0)) ra rb (by rw [HC.out])).mono ?_
    rintro e wn ⟨rfl, hb⟩
    clear xc0 xc1 xc2 yc0 yc1 yc2 zc0 zc1 zc2
    replace x := x.below hb (Nat.le_refl _)
    replace y := y.below hb (Nat.le_refl _)
    replace z := z.below hb (Nat.le_refl _)
    replace ra := ra.below hb (Nat.le_refl _)
    replace rb := rb.below hb (Nat.le_refl _)
    replace rc := rc.below hb (Nat.le_refl _)
    replace hB := hB.trans (hb.mono hB.size)
    clear hb
    have xc0 := x.c0; have xc1 := x.c1; have xc2 := x.c2
    have yc0 := y.c0; have yc1 := y.c1; have yc2 := y.c2
    have zc0 := z.c0; have zc1 := z.c1; have zc2 := z.c2
    go_wp2_with fail
    refine (keyless_any _ _ _ cb ca t j s k (decide (0 < c)) rb ra (by rw [HN.out]; apply decide_eq_decide.2; omega)).mono ?_
    rintro e wn ⟨rfl, hb⟩
    clear xc0 xc1 xc2 yc0 yc1 yc2 zc0 zc1 zc2
    replace x := x.below hb (Nat.le_refl _)
    replace y := y.below hb (Nat.le_refl _)
    replace z := z.below hb (Nat.le_refl _)
    replace ra := ra.below hb (Nat.le_refl _)
    replace rb := rb.below hb (Nat.le_refl _)
    replace rc := rc.below hb (Nat.le_refl _)
    replace hB := hB.trans (hb.mono hB.size)
    clear hb
    have xc0 := x.c0; have xc1 := x.c1; have xc2 := x.c2
    have yc0 := y.c0; have yc1 := y.c1; have yc2 := y.c2
    have zc0 := z.c0; have zc1 := z.c1; have zc2 := z.c2
    go_wp2_with fail
    refine (keysame_any _ _ _ ca cb s k t j (c == 0) ra rb (by rw [Bool.eq_iff_iff]; simp only [decide_eq_true_eq, beq_iff_eq]; exact HZ.out.symm)).mono ?_
    rintro e wn ⟨rfl, hb⟩
    clear xc0 xc1 xc2 yc0 yc1 yc2 zc0 zc1 zc2
    replace x := x.below hb (Nat.le_refl _)
    replace y := y.below hb (Nat.le_refl _)
    replace z := z.below hb (Nat.le_refl _)
    replace ra := ra.below hb (Nat.le_refl _)
    replace rb := rb.below hb (Nat.le_refl _)
    replace rc := rc.below hb (Nat.le_refl _)
    replace hB := hB.trans (hb.mono hB.size)
    clear hb
    have xc0 := x.c0; have xc1 := x.c1; have xc2 := x.c2
    have yc0 := y.c0; have yc1 := y.c1; have yc2 := y.c2
    have zc0 := z.c0; have zc1 := z.c1; have zc2 := z.c2
    go_wp2_with fail
    refine (compare_any _ _ _ cb ca t j s k (-c) rb ra HN.out).mono ?_
    rintro e wn ⟨rfl, hb⟩
    clear xc0 xc1 xc2 yc0 yc1 yc2 zc0 zc1 zc2
    replace x := x.below hb (Nat.le_refl _)
    replace y := y.below hb (Nat.le_refl _)
    replace z := z.below hb (Nat.le_refl _)
    replace ra := ra.below hb (Nat.le_refl _)
    replace rb := rb.below hb (Nat.le_refl _)
    replace rc := rc.below hb (Nat.le_refl _)
    replace hB := hB.trans (hb.mono hB.size)
    clear hb
    have xc0 := x.c0; have xc1 := x.c1; have xc2 := x.c2
    have yc0 := y.c0; have yc1 := y.c1; have yc2 := y.c2
    have zc0 := z.c0; have zc1 := z.c1; have zc2 := z.c2
    rcases hv with hcv | hcv | hcv
    all_goals
      subst hcv
      first
      | (go_wp2_with fail
         refine (compare_any _ _ _ cb cc t j u i d rb rc HD.out).mono ?_
         rintro e wn ⟨rfl, hb⟩
         clear xc0 xc1 xc2 yc0 yc1 yc2 zc0 zc1 zc2
         replace x := x.below hb (Nat.le_refl _)
         replace y := y.below hb (Nat.le_refl _)
         replace z := z.below hb (Nat.le_refl _)
         replace ra := ra.below hb (Nat.le_refl _)
         replace rb := rb.below hb (Nat.le_refl _)
         replace rc := rc.below hb (Nat.le_refl _)
         replace hB := hB.trans (hb.mono hB.size)
         clear hb
         have xc0 := x.c0; have xc1 := x.c1; have xc2 := x.c2
         have yc0 := y.c0; have yc1 := y.c1; have yc2 := y.c2
         have zc0 := z.c0; have zc1 := z.c1; have zc2 := z.c2
         have ht := HT.out
         by_cases hd : d ≤ 0
         · have hf : f ≤ 0 := ht (by omega) hd
           clear ht
           go_wp2_with fail
           refine (compare_any _ _ _ ca cc s k u i f ra rc HF.out).mono ?_
           rintro e wn2 ⟨rfl, hb⟩
           have hfin := hB.trans (hb.mono hB.size)
           clear hb hB x y z ra rb rc
           go_wp2
           go_ret
           exact ⟨ret_bool (by simp), hfin⟩
         · clear ht
           have hd' : 0 < d := by omega
           clear hd
           go_wp2
           go_ret
           exact ⟨ret_bool (by simp), hB⟩)
      | (go_wp2
         go_ret
         exact ⟨ret_bool (by simp), hB⟩)

end Go.Proofs.Ytkcdfmbjmacafaa
