/- LocksCover answers true. -/
import Derived.Test.YtnnedoohppobpaaLkFew
import Derived.Test.YtnnedoohppobpaaRLkRight
import Derived.Deep.DeepCutAuto
namespace Go.Proofs.Ytnnedoohppobpaa
set_option maxRecDepth 100000
open Go.RowKit Go.Maps
set_option linter.unusedVariables false
set_option linter.unusedSimpArgs false

theorem b4st9 {w : World} {b : Nat} {v0 v1 v2 v3 : Value} (h : Box4f w b v0 v1 v2 v3) (b' : Nat) (hne : b ≠ b') (u0 u1 u2 u3 : Value) : Box4f ((((w.setCell ⟨b', 0, none⟩ u0).setCell ⟨b', 1, none⟩ u1).setCell ⟨b', 2, none⟩ u2).setCell ⟨b', 3, none⟩ u3) b v0 v1 v2 v3 :=
  ⟨h.bx.stored b' hne u0 u1 u2 u3, by simp [go_sem, h.f0], by simp [go_sem, h.f1], by simp [go_sem, h.f2], by simp [go_sem, h.f3]⟩

theorem b4se9 {w : World} {b : Nat} {v0 v1 v2 v3 : Value} (h : Box4f w b v0 v1 v2 v3) (u0 u1 u2 u3 : Value) : Box4f ((((w.setCell ⟨b, 0, none⟩ u0).setCell ⟨b, 1, none⟩ u1).setCell ⟨b, 2, none⟩ u2).setCell ⟨b, 3, none⟩ u3) b u0 u1 u2 u3 :=
  ⟨⟨by simp [go_sem, h.bx.c0, h.bx.c1, h.bx.c2, h.bx.c3], by simp [go_sem, h.bx.c0, h.bx.c1, h.bx.c2, h.bx.c3], by simp [go_sem, h.bx.c0, h.bx.c1, h.bx.c2, h.bx.c3], by simp [go_sem, h.bx.c0, h.bx.c1, h.bx.c2, h.bx.c3]⟩, by simp [go_sem, h.f0], by simp [go_sem, h.f1], by simp [go_sem, h.f2], by simp [go_sem, h.f3]⟩

theorem blk_nil9 (l : Lk) : (blkB [] [] l).length = 0 := by unfold blkB; simp

theorem cov_first (l l' : Lk) (u : Nat) : askB 100 100 [] [] l l' u = if rightB l = true then (0, [l'], []) else (9, [], []) := by
  unfold askB
  by_cases h : rightB l = true
  · rw [if_pos h, if_neg (by simp [h]), if_neg (by simp), if_neg (by simp [hasB, ofB]), if_neg (by simp [fullB, ofB]), if_pos (blk_nil9 l)]
    rfl
  · rw [if_neg h, if_pos (by simpa using h)]

theorem cov_next (a l l' : Lk) (u : Nat) (hn : a.n = l.n) : askB 100 100 [a] [] l l' u = if rightB l = true then (if (decide (l.m.toNat ≤ a.m.toNat) && covB a l) = true then (0, [a], []) else (0, [a, l'], [])) else (9, [a], []) := by
  have hof : ofB [a] l.n = [a] := by unfold ofB; rw [List.filter_cons_of_pos (by rw [hn]; simp)]; rfl
  have hcl : clB l a = false := by unfold clB togB; rw [if_pos hn.symm]; simp
  have hbl : (blkB [a] [] l).length = 0 := by
    unfold blkB
    rw [List.filter_cons_of_neg (by rw [hcl]; simp)]
    simp
  unfold askB
  by_cases h : rightB l = true
  · rw [if_pos h, if_neg (by simp [h]), if_neg (by simp)]
    by_cases h2 : (decide (l.m.toNat ≤ a.m.toNat) && covB a l) = true
    · rw [if_pos h2, if_pos (by unfold hasB; rw [hof]; simpa using h2)]
    · rw [if_neg h2, if_neg (by unfold hasB; rw [hof]; simpa using h2), if_neg (by simp [fullB, hof]), if_pos hbl]
      rfl
  · rw [if_neg h, if_pos (by simpa using h)]

theorem b4s19 {w : World} {b b' i : Nat} {v0 v1 v2 v3 u : Value} (h : Box4f w b v0 v1 v2 v3) (hne : b ≠ b') : Box4f (w.setCell ⟨b', i, none⟩ u) b v0 v1 v2 v3 :=
  ⟨⟨by simp [go_sem, hne, h.bx.c0], by simp [go_sem, hne, h.bx.c1], by simp [go_sem, hne, h.bx.c2], by simp [go_sem, hne, h.bx.c3]⟩, by simp [go_sem, h.f0], by simp [go_sem, h.f1], by simp [go_sem, h.f2], by simp [go_sem, h.f3]⟩

theorem b4s09 {w : World} {b : Nat} {v0 v1 v2 v3 u : Value} (h : Box4f w b v0 v1 v2 v3) : Box4f (w.setCell ⟨b, 0, none⟩ u) b u v1 v2 v3 :=
  ⟨⟨by simp [go_sem, h.bx.c0], by simp [go_sem, h.bx.c1], by simp [go_sem, h.bx.c2], by simp [go_sem, h.bx.c3]⟩, by simp [go_sem, h.f0], by simp [go_sem, h.f1], by simp [go_sem, h.f2], by simp [go_sem, h.f3]⟩

theorem rd_set9 {w : World} {v : Value} {l : List UInt8} {g i : Nat} {u : Value} (h : Rd w v l) (hne : some g ≠ v.ownBlock) : Rd (w.setCell ⟨g, i, none⟩ u) v l := by
  rcases h with h | ⟨b, off, cap, rfl, h1, h2, h3⟩
  · exact .inl h
  · refine .inr ⟨b, off, cap, rfl, h1, h2, fun j x hx => ?_⟩
    have hb : b ≠ g := fun e => hne (by rw [e]; rfl)
    rw [World.cell?_of_block (w := w) (a := ⟨b, off + j, none⟩) (Below.heap_setCell _ _ _ _ (by simpa using hb))]
    exact h3 j x hx

/-- both locks in memory -/
structure Cov2 (w wr : World) (A : Nat) (n m1 m2 : Int) (x1 y1 x2 y2 : Value) (f1 t1 f2 t2 : List UInt8) : Prop where
  ba : Box4f wr A (.int .u64 n) x1 y1 (.int .u8 m1)
  bb : Box4f wr (A + 1) (.int .u64 n) x2 y2 (.int .u8 m2)
  hb : Below A w wr
  r1 : Rd wr x1 f1
  r2 : Rd wr y1 t1
  r3 : Rd wr x2 f2
  r4 : Rd wr y2 t2

theorem Cov2.below {w wr ws : World} {A : Nat} {n m1 m2 : Int} {x1 y1 x2 y2 : Value} {f1 t1 f2 t2 : List UInt8} (h : Cov2 w wr A n m1 m2 x1 y1 x2 y2 f1 t1 f2 t2) (k : Below wr.heap.size wr ws) (hA : A ≤ wr.heap.size) : Cov2 w ws A n m1 m2 x1 y1 x2 y2 f1 t1 f2 t2 :=
  ⟨h.ba.below k (Nat.le_refl _), h.bb.below k (Nat.le_refl _), h.hb.trans (k.mono hA), h.r1.below k (Nat.le_refl _), h.r2.below k (Nat.le_refl _), h.r3.below k (Nat.le_refl _), h.r4.below k (Nat.le_refl _)⟩

theorem Cov2.le {w wr : World} {A : Nat} {n m1 m2 : Int} {x1 y1 x2 y2 : Value} {f1 t1 f2 t2 : List UInt8} (h : Cov2 w wr A n m1 m2 x1 y1 x2 y2 f1 t1 f2 t2) : A ≤ wr.heap.size := Nat.le_of_lt h.ba.bx.lt

set_option maxHeartbeats 2000000 in
theorem lcover (na nb : Nat) (ma mb : UInt8) (fa ta fb tb : List UInt8) (xa ya xb yb : Value) (w : World) (ha : na < 18446744073709551616) (hb : nb < 18446744073709551616) (h1 : Arg w xa fa) (h2 : Arg w ya ta) (h3 : Arg w xb fb) (h4 : Arg w yb tb) :
    Calls Try.prog 7 #[lkV (na : Int) xa ya (ma.toNat : Int), lkV (nb : Int) xb yb (mb.toNat : Int)] w fun e w' => e = .returned (.bool true) ∧ Below w.heap.size w w' := by
  obtain ⟨a1, a2, e1⟩ := h1.shape
  obtain ⟨a3, a4, e2⟩ := h2.shape
  obtain ⟨a5, a6, e3⟩ := h3.shape
  obtain ⟨a7, a8, e4⟩ := h4.shape
  have hb0 := below_two w (.cells #[.int .u64 (na : Int), xa, ya, .int .u8 (ma.toNat : Int)] 32) (.cells #[.int .u64 (nb : Int), xb, yb, .int .u8 (mb.toNat : Int)] 32)
  have hba := below_box4 (w.alloc (.cells #[.int .u64 (na : Int), xa, ya, .int .u8 (ma.toNat : Int)] 32)) (.cells #[.int .u64 (nb : Int), xb, yb, .int .u8 (mb.toNat : Int)] 32)
  have bxa := (box4f_new w (.int .u64 (na : Int)) xa ya (.int .u8 (ma.toNat : Int)) 32).below hba (Nat.le_refl _)
  have bxb := box4f_new (w.alloc (.cells #[.int .u64 (na : Int), xa, ya, .int .u8 (ma.toNat : Int)] 32)) (.int .u64 (nb : Int)) xb yb (.int .u8 (mb.toNat : Int)) 32
  rw [show (w.alloc (.cells #[.int .u64 (na : Int), xa, ya, .int .u8 (ma.toNat : Int)] 32)).heap.size = w.heap.size + 1 by simp] at bxb
  have HI : Hid (Box4f ((w.alloc (.cells #[.int .u64 (na : Int), xa, ya, .int .u8 (ma.toNat : Int)] 32)).alloc (.cells #[.int .u64 (nb : Int), xb, yb, .int .u8 (mb.toNat : Int)] 32)) w.heap.size (.int .u64 (na : Int)) xa ya (.int .u8 (ma.toNat : Int)) ∧ Box4f ((w.alloc (.cells #[.int .u64 (na : Int), xa, ya, .int .u8 (ma.toNat : Int)] 32)).alloc (.cells #[.int .u64 (nb : Int), xb, yb, .int .u8 (mb.toNat : Int)] 32)) (w.heap.size + 1) (.int .u64 (nb : Int)) xb yb (.int .u8 (mb.toNat : Int)) ∧ Below w.heap.size w ((w.alloc (.cells #[.int .u64 (na : Int), xa, ya, .int .u8 (ma.toNat : Int)] 32)).alloc (.cells #[.int .u64 (nb : Int), xb, yb, .int .u8 (mb.toNat : Int)] 32))) := ⟨bxa, bxb, hb0⟩
  have HR : Hid (Arg w xa fa ∧ Arg w ya ta ∧ Arg w xb fb ∧ Arg w yb tb) := ⟨h1, h2, h3, h4⟩
  have hw := lkawake_any ((w.alloc (.cells #[.int .u64 (na : Int), xa, ya, .int .u8 (ma.toNat : Int)] 32)).alloc (.cells #[.int .u64 (nb : Int), xb, yb, .int .u8 (mb.toNat : Int)] 32))
  clear h1 h2 h3 h4 hb0 hba bxa bxb
  subst e1 e2 e3 e4
  unfold lkV
  go_enter Try.func7, Try.ntmps7
  go_wp2_with fail
  refine hw.mono ?_
  rintro e w1 ⟨rfl, hb1⟩
  have HW : Hid (Box4f w1 w.heap.size (.int .u64 (na : Int)) (.slice a1 fa.length a2) (.slice a3 ta.length a4) (.int .u8 (ma.toNat : Int)) ∧ Box4f w1 (w.heap.size + 1) (.int .u64 (nb : Int)) (.slice a5 fb.length a6) (.slice a7 tb.length a8) (.int .u8 (mb.toNat : Int)) ∧ Below w.heap.size w w1) := ⟨HI.out.1.below hb1 (Nat.le_refl _), HI.out.2.1.below hb1 (Nat.le_refl _), bsplit HI.out.2.2 hb1⟩
  clear hw hb1 HI
  go_upto_region 3 with fail
  go_cut [] (fun wx => Hid (∃ x1' y1' x2' y2', Box4f wx w.heap.size (.int .u64 (na : Int)) x1' y1' (.int .u8 (ma.toNat : Int)) ∧ Box4f wx (w.heap.size + 1) (.int .u64 (nb : Int)) x2' y2' (.int .u8 (mb.toNat : Int)) ∧ Below w.heap.size w wx ∧ Rd wx x1' (fa.take 80) ∧ Rd wx y1' (ta.take 80) ∧ Rd wx x2' (fb.take 80) ∧ Rd wx y2' (tb.take 80) ∧ (∀ g, x1'.ownBlock = some g → w.heap.size + 1 < g) ∧ (∀ g, y1'.ownBlock = some g → w.heap.size + 1 < g) ∧ (∀ g, x2'.ownBlock = some g → w.heap.size + 1 < g) ∧ (∀ g, y2'.ownBlock = some g → w.heap.size + 1 < g)))
  case first =>
    have hdr : Below w1.heap.size w1 w1.drew := (Below.refl _ _).drew
    have hf1 := few_any w1.drew _ _ fa ta (na : Int) (ma.toNat : Int) (HR.out.1.below (HW.out.2.2.drew) (Nat.le_refl _)) (HR.out.2.1.below (HW.out.2.2.drew) (Nat.le_refl _))
    unfold lkV at hf1
    obtain ⟨⟨⟨c0, c1, c2, c3⟩, _, _, _, _⟩, ⟨⟨d0, d1, d2, d3⟩, _, _, _, _⟩, _⟩ := HW.out
    go_region_with (first
      | (go_at_call 11; refine Calls.mono hf1 ?_; rintro e wx ⟨u1, u2, rfl, ou1, ou2, hbx⟩
         obtain ⟨v1, k1, eu1⟩ := ou1.rd.len
         obtain ⟨v2, k2, eu2⟩ := ou2.rd.len
         obtain ⟨m1, hm1⟩ : ∃ m, (fa.take 80).length = m := ⟨_, rfl⟩
         obtain ⟨m2, hm2⟩ : ∃ m, (ta.take 80).length = m := ⟨_, rfl⟩
         rw [hm1] at eu1
         rw [hm2] at eu2
         subst eu1 eu2
         have K1 : Hid (Box4f wx w.heap.size (.int .u64 (na : Int)) (.slice a1 fa.length a2) (.slice a3 ta.length a4) (.int .u8 (ma.toNat : Int)) ∧ Box4f wx (w.heap.size + 1) (.int .u64 (nb : Int)) (.slice a5 fb.length a6) (.slice a7 tb.length a8) (.int .u8 (mb.toNat : Int)) ∧ Below w.heap.size w wx) := ⟨(HW.out.1.below hdr (Nat.le_refl _)).below hbx (Nat.le_refl _), (HW.out.2.1.below hdr (Nat.le_refl _)).below hbx (Nat.le_refl _), bsplit HW.out.2.2.drew hbx⟩
         obtain ⟨_, ⟨⟨g0, g1, g2, g3⟩, _, _, _, _⟩, _⟩ := K1.out
         have hf2 := few_any wx _ _ fb tb (nb : Int) (mb.toNat : Int) (HR.out.2.2.1.below K1.out.2.2 (Nat.le_refl _)) (HR.out.2.2.2.below K1.out.2.2 (Nat.le_refl _))
         unfold lkV at hf2
         clear hf1)
      | (go_at_call 11; refine Calls.mono hf2 ?_; rintro e wy ⟨u3, u4, rfl, ou3, ou4, hby⟩
         obtain ⟨v3, k3, eu3⟩ := ou3.rd.len
         obtain ⟨v4, k4, eu4⟩ := ou4.rd.len
         obtain ⟨m3, hm3⟩ : ∃ m, (fb.take 80).length = m := ⟨_, rfl⟩
         obtain ⟨m4, hm4⟩ : ∃ m, (tb.take 80).length = m := ⟨_, rfl⟩
         rw [hm3] at eu3
         rw [hm4] at eu4
         subst eu3 eu4
         obtain ⟨⟨⟨p0, p1, p2, p3⟩, p4, p5, p6, p7⟩, ⟨⟨q0, q1, q2, q3⟩, q4, q5, q6, q7⟩⟩ := (show Box4f wy w.heap.size (.int .u64 (na : Int)) (.slice a1 fa.length a2) (.slice a3 ta.length a4) (.int .u8 (ma.toNat : Int)) ∧ Box4f wy (w.heap.size + 1) (.int .u64 (nb : Int)) (.slice a5 fb.length a6) (.slice a7 tb.length a8) (.int .u8 (mb.toNat : Int)) from ⟨K1.out.1.below hby (Nat.le_refl _), K1.out.2.1.below hby (Nat.le_refl _)⟩)
         clear hf2)
      | fail)
    all_goals
      go_wp2_with fail
      go_meet
      have N1 : Box4f wy w.heap.size (.int .u64 (na : Int)) (.slice a1 fa.length a2) (.slice a3 ta.length a4) (.int .u8 (ma.toNat : Int)) := K1.out.1.below hby (Nat.le_refl _)
      have N2 : Box4f wy (w.heap.size + 1) (.int .u64 (nb : Int)) (.slice a5 fb.length a6) (.slice a7 tb.length a8) (.int .u8 (mb.toNat : Int)) := K1.out.2.1.below hby (Nat.le_refl _)
      have N3 : Below w.heap.size w wy := bsplit K1.out.2.2 hby
      have hs2 : w.heap.size + 1 < w1.heap.size := HW.out.2.1.bx.lt
      have hsx : w1.drew.heap.size ≤ wx.heap.size := hbx.size
      have hs1 : w1.drew.heap.size = w1.heap.size := by simp
      have o1 := fun g h => (ownN_lt9 ou1 g h).1
      have o2 := fun g h => (ownN_lt9 ou2 g h).1
      have o3 := fun g h => (ownN_lt9 ou3 g h).1
      have o4 := fun g h => (ownN_lt9 ou4 g h).1
      have r1 := ou1.rd.below hby (Nat.le_refl _)
      have r2 := ou2.rd.below hby (Nat.le_refl _)
      first
        | exact ⟨_, _, _, _, b4st9 (b4se9 N1 _ _ _ _) _ (by omega) _ _ _ _, b4se9 (b4st9 N2 _ (by omega) _ _ _ _) _ _ _ _, below_store4 (below_store4 N3 (Nat.le_refl _) _ _ _ _) (Nat.le_succ _) _ _ _ _, rd_store4 (rd_store4 r1 (fun g hg => by have := o1 g hg; omega) _ _ _ _) (fun g hg => by have := o1 g hg; omega) _ _ _ _, rd_store4 (rd_store4 r2 (fun g hg => by have := o2 g hg; omega) _ _ _ _) (fun g hg => by have := o2 g hg; omega) _ _ _ _, rd_store4 (rd_store4 ou3.rd (fun g hg => by have := o3 g hg; omega) _ _ _ _) (fun g hg => by have := o3 g hg; omega) _ _ _ _, rd_store4 (rd_store4 ou4.rd (fun g hg => by have := o4 g hg; omega) _ _ _ _) (fun g hg => by have := o4 g hg; omega) _ _ _ _, fun g hg => by have := o1 g hg; omega, fun g hg => by have := o2 g hg; omega, fun g hg => by have := o3 g hg; omega, fun g hg => by have := o4 g hg; omega⟩
        | exact ⟨_, _, _, _, b4se9 (b4st9 N1 _ (by omega) _ _ _ _) _ _ _ _, b4st9 (b4se9 N2 _ _ _ _) _ (by omega) _ _ _ _, below_store4 (below_store4 N3 (Nat.le_succ _) _ _ _ _) (Nat.le_refl _) _ _ _ _, rd_store4 (rd_store4 r1 (fun g hg => by have := o1 g hg; omega) _ _ _ _) (fun g hg => by have := o1 g hg; omega) _ _ _ _, rd_store4 (rd_store4 r2 (fun g hg => by have := o2 g hg; omega) _ _ _ _) (fun g hg => by have := o2 g hg; omega) _ _ _ _, rd_store4 (rd_store4 ou3.rd (fun g hg => by have := o3 g hg; omega) _ _ _ _) (fun g hg => by have := o3 g hg; omega) _ _ _ _, rd_store4 (rd_store4 ou4.rd (fun g hg => by have := o4 g hg; omega) _ _ _ _) (fun g hg => by have := o4 g hg; omega) _ _ _ _, fun g hg => by have := o1 g hg; omega, fun g hg => by have := o2 g hg; omega, fun g hg => by have := o3 g hg; omega, fun g hg => by have := o4 g hg; omega⟩
  case rest =>
    obtain ⟨v1, v2, v3, v4, ba, bb, hbw, rx1, ry1, rx2, ry2, e1, e2, e3, e4⟩ := hcut.out
    obtain ⟨f1, ef1⟩ : ∃ l, fa.take 80 = l := ⟨_, rfl⟩
    obtain ⟨t1, et1⟩ : ∃ l, ta.take 80 = l := ⟨_, rfl⟩
    obtain ⟨f2, ef2⟩ : ∃ l, fb.take 80 = l := ⟨_, rfl⟩
    obtain ⟨t2, et2⟩ : ∃ l, tb.take 80 = l := ⟨_, rfl⟩
    rw [ef1] at rx1
    rw [et1] at ry1
    rw [ef2] at rx2
    rw [et2] at ry2
    obtain ⟨p1, q1, ev1⟩ := rx1.len
    obtain ⟨p2, q2, ev2⟩ := ry1.len
    obtain ⟨p3, q3, ev3⟩ := rx2.len
    obtain ⟨p4, q4, ev4⟩ := ry2.len
    obtain ⟨k1, hk1⟩ : ∃ k, f1.length = k := ⟨_, rfl⟩
    obtain ⟨k2, hk2⟩ : ∃ k, t1.length = k := ⟨_, rfl⟩
    obtain ⟨k3, hk3⟩ : ∃ k, f2.length = k := ⟨_, rfl⟩
    obtain ⟨k4, hk4⟩ : ∃ k, t2.length = k := ⟨_, rfl⟩
    rw [hk1] at ev1
    rw [hk2] at ev2
    rw [hk3] at ev3
    rw [hk4] at ev4
    subst ev1 ev2 ev3 ev4
    have HK : Hid (f1.length = k1 ∧ t1.length = k2 ∧ f2.length = k3 ∧ t2.length = k4) := ⟨hk1, hk2, hk3, hk4⟩
    have HC : Hid (Cov2 w (wc.setCell ⟨w.heap.size + 1, 0, none⟩ (.int .u64 (na : Int))) w.heap.size (na : Int) (ma.toNat : Int) (mb.toNat : Int) (.slice p1 k1 q1) (.slice p2 k2 q2) (.slice p3 k3 q3) (.slice p4 k4 q4) f1 t1 f2 t2) :=
      ⟨b4s19 ba (by omega), b4s09 bb, hbw.setCell (p := ⟨w.heap.size + 1, 0, none⟩) (Nat.le_succ _) _, rd_set9 rx1 (fun e => by have := e1 _ e.symm; omega), rd_set9 ry1 (fun e => by have := e2 _ e.symm; omega), rd_set9 rx2 (fun e => by have := e3 _ e.symm; omega), rd_set9 ry2 (fun e => by have := e4 _ e.symm; omega)⟩
    have HN : Hid (na < 18446744073709551616) := ha
    have hnw := lknew_any (wc.setCell ⟨w.heap.size + 1, 0, none⟩ (.int .u64 (na : Int))) 100 100 (by decide) (by decide) (by decide) (by decide)
    obtain ⟨⟨⟨g0, g1, g2, g3⟩, j0, j1, j2, j3⟩, ⟨⟨u0, u1, u2, u3⟩, i0, i1, i2, i3⟩⟩ := (show Box4f wc w.heap.size _ _ _ _ ∧ Box4f wc (w.heap.size + 1) _ _ _ _ from ⟨ba, bb⟩)
    clear HR HW ef1 et1 ef2 et2 hcut ba bb hbw rx1 ry1 rx2 ry2 e1 e2 e3 e4 hk1 hk2 hk3 hk4
    go_wp2_with fail
    generalize wc.setCell ⟨w.heap.size + 1, 0, none⟩ (.int .u64 (na : Int)) = wd at HC hnw
    refine hnw.mono ?_
    rintro e w3 ⟨t, rfl, hp3, ht, hs3, hb3⟩
    have hq3 : LkQ wd.heap.size w3 t 100 100 [] [] := ⟨hb3.size, _, hp3, fun b hb => by rw [hb, ht]; exact Nat.le_refl _⟩
    have H3 : Hid (Below wd.heap.size wd w3) := hb3
    have C3 := HC.out.below hb3 HC.out.le
    clear hnw hp3 ht hs3 hb3 g0 g1 g2 g3 j0 j1 j2 j3 u0 u1 u2 u3 i0 i1 i2 i3
    obtain ⟨⟨g0, g1, g2, g3⟩, j0, j1, j2, j3⟩ := C3.ba
    have hask := askq_any wd.heap.size w3 t 100 100 [] [] na ma _ _ f1 t1 9 hq3 (by simp) C3.r1 C3.r2 HN.out (by decide)
    unfold lkV at hask
    clear hq3 C3
    go_wp2_with fail
    refine Calls.mono hask ?_
    rintro e w4 ⟨x', y', he, hb4, hq4⟩
    rw [cov_first] at he hq4
    have H4 : Hid (Below wd.heap.size wd w4) := H3.out.trans hb4
    have C4 := HC.out.below H4.out HC.out.le
    clear hask hb4 g0 g1 g2 g3 j0 j1 j2 j3
    obtain ⟨⟨g0, g1, g2, g3⟩, j0, j1, j2, j3⟩ := C4.ba
    by_cases hr1 : rightB ⟨na, f1, t1, ma, .slice p1 k1 q1, .slice p2 k2 q2⟩ = true
    · rw [if_pos hr1] at he hq4
      simp only at he hq4
      subst he
      obtain ⟨⟨u0, u1, u2, u3⟩, i0, i1, i2, i3⟩ := C4.bb
      have hask := askq_any wd.heap.size w4 t 100 100 [⟨na, f1, t1, ma, x', y'⟩] [] na mb _ _ f2 t2 9 hq4 (by simp) C4.r3 C4.r4 HN.out (by decide)
      unfold lkV at hask
      clear hq4 C4 g0 g1 g2 g3 j0 j1 j2 j3
      go_wp2_with fail
      refine Calls.mono hask ?_
      rintro e w5 ⟨x2, y2, he, hb5, hq5⟩
      rw [cov_next ⟨na, f1, t1, ma, x', y'⟩ ⟨na, f2, t2, mb, .slice p3 k3 q3, .slice p4 k4 q4⟩ ⟨na, f2, t2, mb, x2, y2⟩ 9 rfl] at he hq5
      have H5 : Hid (Below wd.heap.size wd w5) := H4.out.trans hb5
      have C5 := HC.out.below H5.out HC.out.le
      clear hask hb5 u0 u1 u2 u3 i0 i1 i2 i3
      by_cases hr2 : rightB ⟨na, f2, t2, mb, .slice p3 k3 q3, .slice p4 k4 q4⟩ = true
      · rw [if_pos hr2] at he hq5
        obtain ⟨Q, hQ⟩ : ∃ Q, (decide (mb.toNat ≤ ma.toNat) && covB ⟨na, f1, t1, ma, x', y'⟩ ⟨na, f2, t2, mb, .slice p3 k3 q3, .slice p4 k4 q4⟩) = Q := ⟨_, rfl⟩
        have HQ : Hid ((decide (mb.toNat ≤ ma.toNat) && (!ltB f2 f1 && !pastB t2 t1)) = Q) := hQ
        have he' : e = .returned (.int .i64 0) := by
          rw [he]
          split <;> rfl
        have hln : ∃ N : Int, Hid (N = if Q = true then 1 else 2) ∧ Calls Try.prog 25 #[.pointer (some ⟨t, 0, none⟩)] w5 fun e w' => e = .returned (.int .i64 N) ∧ w' = w5 := by
          simp only at hQ hq5
          rw [hQ] at hq5
          cases Q
          · obtain ⟨_, G, hp, _⟩ := hq5
            exact ⟨2, rfl, lklen_any G w5 t 100 100 _ _ hp⟩
          · obtain ⟨_, G, hp, _⟩ := hq5
            exact ⟨1, rfl, lklen_any G w5 t 100 100 _ _ hp⟩
        obtain ⟨N, HNN, hln⟩ := hln
        clear he hq5 hQ
        subst he'
        obtain ⟨⟨g0, g1, g2, g3⟩, j0, j1, j2, j3⟩ := C5.ba
        obtain ⟨⟨u0, u1, u2, u3⟩, i0, i1, i2, i3⟩ := C5.bb
        obtain ⟨l1, hl1⟩ : ∃ l, decide (Lib.compareBytes f2 f1 < 0) = l := ⟨_, rfl⟩
        obtain ⟨l2, hl2⟩ : ∃ l, decide (Lib.compareBytes t1 t2 < 0) = l := ⟨_, rfl⟩
        have hle1 := refless_any w5 _ _ f2 f1 l1 C5.r3 C5.r1 hl1
        have hle2 := refless_any w5 _ _ t1 t2 l2 C5.r2 C5.r4 hl2
        have HL : Hid (ltB f2 f1 = l1 ∧ ltB t1 t2 = l2) := ⟨hl1, hl2⟩
        have HF : Hid (Below w.heap.size w w5) := HC.out.hb.trans (H5.out.mono HC.out.le)
        clear C5 hl1 hl2
        by_cases hm : mb.toNat ≤ ma.toNat
        · have hm' : (ma.toNat : Int) ≥ (mb.toNat : Int) := by omega
          cases l1
          · by_cases ht1 : k2 = 0
            · have hN : N = 1 := by
                have h := HQ.out
                have hz : pastB t2 t1 = false := by unfold pastB; rw [if_pos (HK.out.2.1.trans ht1)]
                rw [HL.out.1, hz, decide_eq_true hm] at h
                rw [HNN.out, ← h]; rfl
              subst hN ht1
              go_wp2_with fail
              refine Calls.mono hle1 ?_
              rintro e w6 ⟨rfl, rfl⟩
              clear hle1
              go_wp2_with fail
              refine Calls.mono hln ?_
              rintro e w6 ⟨rfl, rfl⟩
              go_wp2
              go_ret
              exact ⟨rfl, HF.out⟩
            · have hk2 : ((k2 : Int) == 0) = false := by simp; omega
              by_cases ht2 : k4 = 0
              · have hN : N = 2 := by
                  have h := HQ.out
                  have hz : pastB t2 t1 = true := by unfold pastB; rw [if_neg (by rw [HK.out.2.1]; exact ht1), if_pos (HK.out.2.2.2.trans ht2)]
                  rw [HL.out.1, hz, decide_eq_true hm] at h
                  rw [HNN.out, ← h]; rfl
                subst hN ht2
                go_wp2_with fail
                refine Calls.mono hle1 ?_
                rintro e w6 ⟨rfl, rfl⟩
                clear hle1
                go_wp2_with fail
                refine Calls.mono hln ?_
                rintro e w6 ⟨rfl, rfl⟩
                go_wp2
                go_ret
                exact ⟨rfl, HF.out⟩
              · have hk4 : (0 : Int) < (k4 : Int) := by omega
                have hz : pastB t2 t1 = l2 := by unfold pastB; rw [if_neg (by rw [HK.out.2.1]; exact ht1), if_neg (by rw [HK.out.2.2.2]; exact ht2), HL.out.2]
                have hN : N = if l2 = true then 2 else 1 := by
                  have h := HQ.out
                  rw [HL.out.1, hz, decide_eq_true hm] at h
                  rw [HNN.out, ← h]; cases l2 <;> rfl
                clear hz
                cases l2
                · simp only [Bool.false_eq_true, if_false] at hN
                  subst hN
                  go_wp2_with fail
                  refine Calls.mono hle1 ?_
                  rintro e w6 ⟨rfl, rfl⟩
                  clear hle1
                  go_wp2_with fail
                  refine Calls.mono hle2 ?_
                  rintro e w6 ⟨rfl, rfl⟩
                  clear hle2
                  go_wp2_with fail
                  refine Calls.mono hln ?_
                  rintro e w6 ⟨rfl, rfl⟩
                  go_wp2
                  go_ret
                  exact ⟨rfl, HF.out⟩
                · simp only [if_true] at hN
                  subst hN
                  go_wp2_with fail
                  refine Calls.mono hle1 ?_
                  rintro e w6 ⟨rfl, rfl⟩
                  clear hle1
                  go_wp2_with fail
                  refine Calls.mono hle2 ?_
                  rintro e w6 ⟨rfl, rfl⟩
                  clear hle2
                  go_wp2_with fail
                  refine Calls.mono hln ?_
                  rintro e w6 ⟨rfl, rfl⟩
                  go_wp2
                  go_ret
                  exact ⟨rfl, HF.out⟩
          · have hN : N = 2 := by
              have h := HQ.out
              rw [HL.out.1, decide_eq_true hm] at h
              rw [HNN.out, ← h]; rfl
            subst hN
            go_wp2_with fail
            refine Calls.mono hle1 ?_
            rintro e w6 ⟨rfl, rfl⟩
            clear hle1
            go_wp2_with fail
            refine Calls.mono hln ?_
            rintro e w6 ⟨rfl, rfl⟩
            go_wp2
            go_ret
            exact ⟨rfl, HF.out⟩
        · have hm' : ¬ (ma.toNat : Int) ≥ (mb.toNat : Int) := by omega
          have hN : N = 2 := by
            have h := HQ.out
            rw [decide_eq_false hm] at h
            rw [HNN.out, ← h]; rfl
          subst hN
          go_wp2_with fail
          refine Calls.mono hln ?_
          rintro e w6 ⟨rfl, rfl⟩
          go_wp2
          go_ret
          exact ⟨rfl, HF.out⟩
      · rw [if_neg hr2] at he hq5
        simp only at he hq5
        subst he
        obtain ⟨⟨u0, u1, u2, u3⟩, i0, i1, i2, i3⟩ := C5.bb
        have hri : rightI na mb.toNat f2 t2 = false := by rw [rightB_is] at hr2; simpa using hr2
        have hrr := rright_any w5 _ _ f2 t2 na mb.toNat false C5.r3 C5.r4 hri
        unfold lkV at hrr
        clear hq5 C5 hri
        go_wp2_with fail
        refine Calls.mono hrr ?_
        rintro e w6 ⟨rfl, hb6⟩
        have HF : Hid (Below w.heap.size w w6) := (HC.out.hb.trans (H5.out.mono HC.out.le)).trans (hb6.mono (Nat.le_trans HC.out.le H5.out.size))
        clear hrr hb6
        go_wp2
        go_ret
        exact ⟨rfl, HF.out⟩
    · rw [if_neg hr1] at he hq4
      simp only at he hq4
      subst he
      have hri : rightI na ma.toNat f1 t1 = false := by rw [rightB_is] at hr1; simpa using hr1
      have hrr := rright_any w4 _ _ f1 t1 na ma.toNat false C4.r1 C4.r2 hri
      unfold lkV at hrr
      clear hq4 C4 hri
      go_wp2_with fail
      refine Calls.mono hrr ?_
      rintro e w6 ⟨rfl, hb6⟩
      have HF : Hid (Below w.heap.size w w6) := (HC.out.hb.trans (H4.out.mono HC.out.le)).trans (hb6.mono (Nat.le_trans HC.out.le H4.out.size))
      clear hrr hb6
      go_wp2
      go_ret
      exact ⟨rfl, HF.out⟩

theorem locksCover_walk (n0 : Nat) (f0 t0 : List UInt8) (m0 : UInt8) (x0 y0 : Value) (n1 : Nat) (f1 t1 : List UInt8) (m1 : UInt8) (x1 y1 : Value) (w : World) (wn0 : n0 < 18446744073709551616) (wf0 : Arg w x0 f0) (wt0 : Arg w y0 t0) (wn1 : n1 < 18446744073709551616) (wf1 : Arg w x1 f1) (wt1 : Arg w y1 t1) :
    Calls Try.prog 7 #[.agg #[.int .u64 (n0 : Int), x0, y0, .int .u8 (m0.toNat : Int)], .agg #[.int .u64 (n1 : Int), x1, y1, .int .u8 (m1.toNat : Int)]] w fun e w' => e = .returned (.bool true) ∧ Below w.heap.size w w' :=
  lcover n0 n1 m0 m1 f0 t0 f1 t1 x0 y0 x1 y1 w wn0 wn1 wf0 wt0 wf1 wt1

end Go.Proofs.Ytnnedoohppobpaa
