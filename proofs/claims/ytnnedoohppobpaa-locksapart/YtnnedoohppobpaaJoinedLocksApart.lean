/- Several texts in one. -/
import Derived.Test.YtnnedoohppobpaaLkSmall2
import Derived.Test.YtnnedoohppobpaaLkAwake
import Derived.Test.YtnnedoohppobpaaMath
import Derived.Lib.Bytealg
import Derived.Test.YtnnedoohppobpaaLkLatePure
import Derived.Test.YtnnedoohppobpaaLkSet
import Derived.Test.YtnnedoohppobpaaCut
import Derived.Lib.SmallJoins
import Derived.Deep.Strs
import Derived.Deep.DeepCutAuto
import Derived.Deep.CutBlock
import Derived.Maps.RangeWalk

/- bartizanref01.Less, bartizanref19.Right. -/
namespace Go.Proofs.Ytnnedoohppobpaa
set_option maxRecDepth 100000
open Go.RowKit
set_option linter.unusedVariables false
set_option linter.unusedSimpArgs false

theorem bytesLess_eq (l m : List UInt8) : Op.bytesLess l m = decide (Lib.compareBytes l m < 0) := by
  induction l generalizing m with
  | nil => cases m <;> simp [Op.bytesLess, Lib.compareBytes]
  | cons x l ih =>
    cases m with
    | nil => simp [Op.bytesLess, Lib.compareBytes]
    | cons y m =>
      simp only [Op.bytesLess, Lib.compareBytes, ih]
      by_cases h1 : x < y
      · simp [h1]
      · by_cases h2 : y < x
        · have h3 : ¬ x = y := by rintro rfl; exact h1 h2
          simp [h1, h2, h3]
        · have h3 : x = y := by apply UInt8.toNat_inj.1; simp only [UInt8.lt_iff_toNat_lt] at *; omega
          simp [h3, UInt8.lt_irrefl]

theorem refless_any (w : World) (a b : Value) (l m : List UInt8) (x : Bool) (ha : Rd w a l) (hb : Rd w b m) (hx : decide (Lib.compareBytes l m < 0) = x) :
    Calls Try.prog 27 #[a, b] w fun e w' => e = .returned (.bool x) ∧ w' = w := by
  have c1 := conv_rd ha
  have c2 := conv_rd hb
  have H : Hid _ := hx
  clear ha hb hx
  go_enter Try.func27, Try.ntmps27
  go_wp2
  go_ret
  have h := H.out
  subst h
  rw [← bytesLess_eq]
  exact ⟨rfl, rfl⟩

set_option maxHeartbeats 2000000 in
theorem rright_any (w : World) (x y : Value) (f t : List UInt8) (n m : Int) (r : Bool) (h1 : Rd w x f) (h2 : Rd w y t) (hr : rightI n m f t = r) :
    Calls Try.prog 26 #[lkV n x y m] w fun e w' => e = .returned (.bool r) ∧ Below w.heap.size w w' := by
  obtain ⟨a1, a2, ea⟩ := h1.len
  obtain ⟨a3, a4, eb⟩ := h2.len
  subst ea eb
  have HB : Hid (Below w.heap.size w (w.alloc (.cells #[.int .u64 n, .slice a1 f.length a2, .slice a3 t.length a4, .int .u8 m] 32))) := below_box4 w _
  obtain ⟨q, hq⟩ : ∃ q, belB f t = q := ⟨_, rfl⟩
  have HQ : Hid (belB f t = q) := hq
  have hb1 := refless_any _ _ _ f t _ (h1.below HB.out (Nat.le_refl _)) (h2.below HB.out (Nat.le_refl _)) rfl
  obtain ⟨c0, c1, c2, c3⟩ := box4_new w (.int .u64 n) (.slice a1 f.length a2) (.slice a3 t.length a4) (.int .u8 m) 32
  have HR : Hid (r = (decide (n ≠ 0) && decide (1 ≤ m ∧ m ≤ 3) && decide (f.length ≤ 65) && decide (t.length ≤ 65) && q)) := by show _ = _; rw [← hr, ← hq]; rfl
  obtain ⟨fl, hfl⟩ : ∃ z, f.length = z := ⟨_, rfl⟩
  obtain ⟨tl, htl⟩ : ∃ z, t.length = z := ⟨_, rfl⟩
  rw [hfl, htl] at HR hb1 HB c0 c1 c2 c3
  rw [hfl, htl]
  have HT : Hid (t.length = tl) := htl
  clear h1 h2 hr hq hfl htl
  unfold lkV
  by_cases k1 : n = 0
  · subst k1
    go_enter Try.func26, Try.ntmps26
    go_wp2
    go_ret
    exact ⟨by rw [HR.out]; rfl, HB.out⟩
  · have HR0 : Hid ((¬ 1 ≤ m ∨ ¬ m ≤ 3 ∨ ¬ fl ≤ 65 ∨ ¬ tl ≤ 65) → r = false) := fun h9 => by
      rw [HR.out]
      rcases h9 with h9 | h9 | h9 | h9 <;> simp [h9]
    by_cases k2 : 1 ≤ m
    · by_cases k3 : m ≤ 3
      · by_cases k4 : fl ≤ 65
        · have k4I : (fl : Int) ≤ 65 := by omega
          by_cases k5 : tl ≤ 65
          · have k5I : (tl : Int) ≤ 65 := by omega
            have k4J : ¬ (65 : Int) < (fl : Int) := by omega
            have k5J : ¬ (65 : Int) < (tl : Int) := by omega
            have k2J : ¬ m < 1 := by omega
            have k3J : ¬ 3 < m := by omega
            by_cases k6 : tl = 0
            · have hq9 : q = true := by rw [← HQ.out]; unfold belB; rw [if_pos (by rw [HT.out]; exact k6)]
              have HQ9 : Hid (q = true) := hq9
              subst k6
              clear hq9
              go_enter Try.func26, Try.ntmps26
              go_wp2
              go_ret
              exact ⟨by rw [HR.out, HQ9.out]; simp [k1, k2, k3, k4, k5], HB.out⟩
            · have hq9 : decide (Lib.compareBytes f t < 0) = q := by rw [← HQ.out]; unfold belB; rw [if_neg (by rw [HT.out]; exact k6)]; rfl
              rw [hq9] at hb1
              have k6I : ¬ (tl : Int) = 0 := by omega
              clear hq9
              go_enter Try.func26, Try.ntmps26
              go_wp2_with fail
              refine hb1.mono ?_
              rintro e w1 ⟨rfl, rfl⟩
              go_wp2
              go_ret
              exact ⟨by rw [HR.out]; simp [k1, k2, k3, k4, k5, k6], HB.out⟩
          · have k5I : (65 : Int) < (tl : Int) := by omega
            have k4J : ¬ (65 : Int) < (fl : Int) := by omega
            have k2J : ¬ m < 1 := by omega
            have k3J : ¬ 3 < m := by omega
            go_enter Try.func26, Try.ntmps26
            go_wp2
            go_ret
            exact ⟨by rw [HR0.out (.inr (.inr (.inr k5)))]; rfl, HB.out⟩
        · have k4I : (65 : Int) < (fl : Int) := by omega
          have k2J : ¬ m < 1 := by omega
          have k3J : ¬ 3 < m := by omega
          go_enter Try.func26, Try.ntmps26
          go_wp2
          go_ret
          exact ⟨by rw [HR0.out (.inr (.inr (.inl k4)))]; rfl, HB.out⟩
      · have HR1 : Hid (r = false) := HR0.out (.inr (.inl k3))
        have k2J : ¬ m < 1 := by omega
        have k3J : 3 < m := by omega
        go_enter Try.func26, Try.ntmps26
        go_wp2
        go_ret
        exact ⟨by rw [HR1.out]; rfl, HB.out⟩
    · have HR1 : Hid (r = false) := HR0.out (.inl k2)
      have k2J : m < 1 := by omega
      go_enter Try.func26, Try.ntmps26
      go_wp2
      go_ret
      exact ⟨by rw [HR1.out]; rfl, HB.out⟩

end Go.Proofs.Ytnnedoohppobpaa

/- bartizanref19.Overlap, Together. -/
namespace Go.Proofs.Ytnnedoohppobpaa
set_option maxRecDepth 100000
open Go.RowKit Go.Maps
set_option linter.unusedVariables false
set_option linter.unusedSimpArgs false

/-- two locks overlap, as the document has it -/
def rovB (fa ta fb tb : List UInt8) : Bool := belB (if ltB fa fb = true then fb else fa) ta && belB (if ltB fa fb = true then fb else fa) tb
def rtgB (na nb ma mb : Int) : Bool := decide (na = nb) || (decide (ma = 1) && decide (mb = 1)) || (decide (ma = 1) && decide (mb = 2)) || (decide (ma = 2) && decide (mb = 1))

set_option maxHeartbeats 2000000 in
theorem rov_any (w : World) (xa ya xb yb : Value) (fa ta fb tb : List UInt8) (na ma nb mb : Int) (r : Bool) (h1 : Rd w xa fa) (h2 : Rd w ya ta) (h3 : Rd w xb fb) (h4 : Rd w yb tb) (hr : rovB fa ta fb tb = r) :
    Calls Try.prog 17 #[lkV na xa ya ma, lkV nb xb yb mb] w fun e w' => e = .returned (.bool r) ∧ Below w.heap.size w w' := by
  obtain ⟨a1, a2, e1⟩ := h1.len
  obtain ⟨a3, a4, e2⟩ := h2.len
  obtain ⟨a5, a6, e3⟩ := h3.len
  obtain ⟨a7, a8, e4⟩ := h4.len
  have hb0 := below_two w (.cells #[.int .u64 na, xa, ya, .int .u8 ma] 32) (.cells #[.int .u64 nb, xb, yb, .int .u8 mb] 32)
  have hba := below_box4 (w.alloc (.cells #[.int .u64 na, xa, ya, .int .u8 ma] 32)) (.cells #[.int .u64 nb, xb, yb, .int .u8 mb] 32)
  have bxa := (box4_new w (.int .u64 na) xa ya (.int .u8 ma) 32).below hba (Nat.le_refl _)
  have bxb := box4_new (w.alloc (.cells #[.int .u64 na, xa, ya, .int .u8 ma] 32)) (.int .u64 nb) xb yb (.int .u8 mb) 32
  rw [show (w.alloc (.cells #[.int .u64 na, xa, ya, .int .u8 ma] 32)).heap.size = w.heap.size + 1 by simp] at bxb
  have HF : Hid (Below w.heap.size w ((w.alloc (.cells #[.int .u64 na, xa, ya, .int .u8 ma] 32)).alloc (.cells #[.int .u64 nb, xb, yb, .int .u8 mb] 32))) := hb0
  have r1 := h1.below hb0 (Nat.le_refl _)
  have r2 := h2.below hb0 (Nat.le_refl _)
  have r3 := h3.below hb0 (Nat.le_refl _)
  have r4 := h4.below hb0 (Nat.le_refl _)
  obtain ⟨l1, hl1⟩ : ∃ l, ltB fa fb = l := ⟨_, rfl⟩
  have hle := refless_any _ _ _ fa fb l1 r1 r3 hl1
  have HR : Hid (r = rovB fa ta fb tb ∧ ltB fa fb = l1) := ⟨hr.symm, hl1⟩
  obtain ⟨k2, hk2⟩ : ∃ k, ta.length = k := ⟨_, rfl⟩
  obtain ⟨k4, hk4⟩ : ∃ k, tb.length = k := ⟨_, rfl⟩
  obtain ⟨p1, hp1⟩ : ∃ k, fa.length = k := ⟨_, rfl⟩
  obtain ⟨p3, hp3⟩ : ∃ k, fb.length = k := ⟨_, rfl⟩
  have HK : Hid (ta.length = k2 ∧ tb.length = k4) := ⟨hk2, hk4⟩
  rw [hp1] at e1
  rw [hk2] at e2
  rw [hp3] at e3
  rw [hk4] at e4
  obtain ⟨z0, z1, z2, z3⟩ := bxa
  obtain ⟨y0, y1, y2, y3⟩ := bxb
  subst e1 e2 e3 e4
  clear h1 h2 h3 h4 hb0 hba hr hl1 hk2 hk4 hp1 hp3
  have HRR : Hid (Rd ((w.alloc (.cells #[.int .u64 na, .slice a1 p1 a2, .slice a3 k2 a4, .int .u8 ma] 32)).alloc (.cells #[.int .u64 nb, .slice a5 p3 a6, .slice a7 k4 a8, .int .u8 mb] 32)) (.slice a1 p1 a2) fa ∧ Rd ((w.alloc (.cells #[.int .u64 na, .slice a1 p1 a2, .slice a3 k2 a4, .int .u8 ma] 32)).alloc (.cells #[.int .u64 nb, .slice a5 p3 a6, .slice a7 k4 a8, .int .u8 mb] 32)) (.slice a3 k2 a4) ta ∧ Rd ((w.alloc (.cells #[.int .u64 na, .slice a1 p1 a2, .slice a3 k2 a4, .int .u8 ma] 32)).alloc (.cells #[.int .u64 nb, .slice a5 p3 a6, .slice a7 k4 a8, .int .u8 mb] 32)) (.slice a5 p3 a6) fb ∧ Rd ((w.alloc (.cells #[.int .u64 na, .slice a1 p1 a2, .slice a3 k2 a4, .int .u8 ma] 32)).alloc (.cells #[.int .u64 nb, .slice a5 p3 a6, .slice a7 k4 a8, .int .u8 mb] 32)) (.slice a7 k4 a8) tb) := ⟨r1, r2, r3, r4⟩
  clear r1 r2 r3 r4
  unfold lkV
  go_enter Try.func17, Try.ntmps17
  go_wp2_with fail
  refine Calls.mono hle ?_
  rintro e w6 ⟨rfl, rfl⟩
  clear hle
  cases l1
  · have hrv : r = (belB fa ta && belB fa tb) := by rw [HR.out.1]; unfold rovB; rw [HR.out.2]; rfl
    have HV : Hid (r = (belB fa ta && belB fa tb)) := hrv
    obtain ⟨m1, hm1⟩ : ∃ l, ltB fa ta = l := ⟨_, rfl⟩
    obtain ⟨m2, hm2⟩ : ∃ l, ltB fa tb = l := ⟨_, rfl⟩
    have hq1 := refless_any _ _ _ fa ta m1 HRR.out.1 HRR.out.2.1 hm1
    have hq2 := refless_any _ _ _ fa tb m2 HRR.out.1 HRR.out.2.2.2 hm2
    have HM : Hid (ltB fa ta = m1 ∧ ltB fa tb = m2) := ⟨hm1, hm2⟩
    clear hrv hm1 hm2
    by_cases h2 : k2 = 0
    · have hf1 : belB fa ta = true := by unfold belB; rw [if_pos (HK.out.1.trans h2)]
      have HF1 : Hid (belB fa ta = true) := hf1
      clear hf1
      subst h2
      by_cases h4 : k4 = 0
      · have hr2 : r = true := by rw [HV.out, HF1.out, show belB fa tb = true by unfold belB; rw [if_pos (HK.out.2.trans h4)]]; rfl
        subst h4 hr2
        go_wp2
        go_ret
        exact ⟨rfl, HF.out⟩
      · have h4' : ((k4 : Int) == 0) = false := by simp; omega
        have hr2 : r = m2 := by rw [HV.out, HF1.out, show belB fa tb = m2 by unfold belB; rw [if_neg (by rw [HK.out.2]; exact h4)]; exact HM.out.2]; rfl
        subst hr2
        go_wp2_with fail
        refine Calls.mono hq2 ?_
        rintro e w7 ⟨rfl, rfl⟩
        go_wp2
        go_ret
        exact ⟨rfl, HF.out⟩
    · have h2' : ((k2 : Int) == 0) = false := by simp; omega
      have hf1 : belB fa ta = m1 := by unfold belB; rw [if_neg (by rw [HK.out.1]; exact h2)]; exact HM.out.1
      have HF1 : Hid (belB fa ta = m1) := hf1
      clear hf1
      cases m1
      · have hr2 : r = false := by rw [HV.out, HF1.out]; rfl
        subst hr2
        go_wp2_with fail
        refine Calls.mono hq1 ?_
        rintro e w7 ⟨rfl, rfl⟩
        go_wp2
        go_ret
        exact ⟨rfl, HF.out⟩
      · by_cases h4 : k4 = 0
        · have hr2 : r = true := by rw [HV.out, HF1.out, show belB fa tb = true by unfold belB; rw [if_pos (HK.out.2.trans h4)]]; rfl
          subst h4 hr2
          go_wp2_with fail
          refine Calls.mono hq1 ?_
          rintro e w7 ⟨rfl, rfl⟩
          clear hq1
          go_wp2
          go_ret
          exact ⟨rfl, HF.out⟩
        · have h4' : ((k4 : Int) == 0) = false := by simp; omega
          have hr2 : r = m2 := by rw [HV.out, HF1.out, show belB fa tb = m2 by unfold belB; rw [if_neg (by rw [HK.out.2]; exact h4)]; exact HM.out.2]; rfl
          subst hr2
          go_wp2_with fail
          refine Calls.mono hq1 ?_
          rintro e w7 ⟨rfl, rfl⟩
          clear hq1
          go_wp2_with fail
          refine Calls.mono hq2 ?_
          rintro e w7 ⟨rfl, rfl⟩
          go_wp2
          go_ret
          exact ⟨rfl, HF.out⟩
  · have hrv : r = (belB fb ta && belB fb tb) := by rw [HR.out.1]; unfold rovB; rw [HR.out.2]; rfl
    have HV : Hid (r = (belB fb ta && belB fb tb)) := hrv
    obtain ⟨m1, hm1⟩ : ∃ l, ltB fb ta = l := ⟨_, rfl⟩
    obtain ⟨m2, hm2⟩ : ∃ l, ltB fb tb = l := ⟨_, rfl⟩
    have hq1 := refless_any _ _ _ fb ta m1 HRR.out.2.2.1 HRR.out.2.1 hm1
    have hq2 := refless_any _ _ _ fb tb m2 HRR.out.2.2.1 HRR.out.2.2.2 hm2
    have HM : Hid (ltB fb ta = m1 ∧ ltB fb tb = m2) := ⟨hm1, hm2⟩
    clear hrv hm1 hm2
    by_cases h2 : k2 = 0
    · have hf1 : belB fb ta = true := by unfold belB; rw [if_pos (HK.out.1.trans h2)]
      have HF1 : Hid (belB fb ta = true) := hf1
      clear hf1
      subst h2
      by_cases h4 : k4 = 0
      · have hr2 : r = true := by rw [HV.out, HF1.out, show belB fb tb = true by unfold belB; rw [if_pos (HK.out.2.trans h4)]]; rfl
        subst h4 hr2
        go_wp2
        go_ret
        exact ⟨rfl, HF.out⟩
      · have h4' : ((k4 : Int) == 0) = false := by simp; omega
        have hr2 : r = m2 := by rw [HV.out, HF1.out, show belB fb tb = m2 by unfold belB; rw [if_neg (by rw [HK.out.2]; exact h4)]; exact HM.out.2]; rfl
        subst hr2
        go_wp2_with fail
        refine Calls.mono hq2 ?_
        rintro e w7 ⟨rfl, rfl⟩
        go_wp2
        go_ret
        exact ⟨rfl, HF.out⟩
    · have h2' : ((k2 : Int) == 0) = false := by simp; omega
      have hf1 : belB fb ta = m1 := by unfold belB; rw [if_neg (by rw [HK.out.1]; exact h2)]; exact HM.out.1
      have HF1 : Hid (belB fb ta = m1) := hf1
      clear hf1
      cases m1
      · have hr2 : r = false := by rw [HV.out, HF1.out]; rfl
        subst hr2
        go_wp2_with fail
        refine Calls.mono hq1 ?_
        rintro e w7 ⟨rfl, rfl⟩
        go_wp2
        go_ret
        exact ⟨rfl, HF.out⟩
      · by_cases h4 : k4 = 0
        · have hr2 : r = true := by rw [HV.out, HF1.out, show belB fb tb = true by unfold belB; rw [if_pos (HK.out.2.trans h4)]]; rfl
          subst h4 hr2
          go_wp2_with fail
          refine Calls.mono hq1 ?_
          rintro e w7 ⟨rfl, rfl⟩
          clear hq1
          go_wp2
          go_ret
          exact ⟨rfl, HF.out⟩
        · have h4' : ((k4 : Int) == 0) = false := by simp; omega
          have hr2 : r = m2 := by rw [HV.out, HF1.out, show belB fb tb = m2 by unfold belB; rw [if_neg (by rw [HK.out.2]; exact h4)]; exact HM.out.2]; rfl
          subst hr2
          go_wp2_with fail
          refine Calls.mono hq1 ?_
          rintro e w7 ⟨rfl, rfl⟩
          clear hq1
          go_wp2_with fail
          refine Calls.mono hq2 ?_
          rintro e w7 ⟨rfl, rfl⟩
          go_wp2
          go_ret
          exact ⟨rfl, HF.out⟩

set_option maxHeartbeats 2000000 in
theorem rtg_any (w : World) (a1 a3 a5 a7 : Option Addr) (k1 k2 k3 k4 c1 c2 c3 c4 : Nat) (na ma nb mb : Int) (r : Bool) (hr : rtgB na nb ma mb = r) :
    Calls Try.prog 18 #[lkV na (.slice a1 k1 c1) (.slice a3 k2 c2) ma, lkV nb (.slice a5 k3 c3) (.slice a7 k4 c4) mb] w fun e w' => e = .returned (.bool r) ∧ Below w.heap.size w w' := by
  have hb0 := below_two w (.cells #[.int .u64 na, .slice a1 k1 c1, .slice a3 k2 c2, .int .u8 ma] 32) (.cells #[.int .u64 nb, .slice a5 k3 c3, .slice a7 k4 c4, .int .u8 mb] 32)
  have hba := below_box4 (w.alloc (.cells #[.int .u64 na, .slice a1 k1 c1, .slice a3 k2 c2, .int .u8 ma] 32)) (.cells #[.int .u64 nb, .slice a5 k3 c3, .slice a7 k4 c4, .int .u8 mb] 32)
  have bxa := (box4_new w (.int .u64 na) (.slice a1 k1 c1) (.slice a3 k2 c2) (.int .u8 ma) 32).below hba (Nat.le_refl _)
  have bxb := box4_new (w.alloc (.cells #[.int .u64 na, .slice a1 k1 c1, .slice a3 k2 c2, .int .u8 ma] 32)) (.int .u64 nb) (.slice a5 k3 c3) (.slice a7 k4 c4) (.int .u8 mb) 32
  rw [show (w.alloc (.cells #[.int .u64 na, .slice a1 k1 c1, .slice a3 k2 c2, .int .u8 ma] 32)).heap.size = w.heap.size + 1 by simp] at bxb
  have HF : Hid (Below w.heap.size w ((w.alloc (.cells #[.int .u64 na, .slice a1 k1 c1, .slice a3 k2 c2, .int .u8 ma] 32)).alloc (.cells #[.int .u64 nb, .slice a5 k3 c3, .slice a7 k4 c4, .int .u8 mb] 32))) := hb0
  obtain ⟨z0, z1, z2, z3⟩ := bxa
  obtain ⟨y0, y1, y2, y3⟩ := bxb
  have HR : Hid (r = rtgB na nb ma mb) := hr.symm
  clear hb0 hba hr
  unfold lkV
  by_cases hn : na = nb
  · subst hn
    go_enter Try.func18, Try.ntmps18
    go_wp2
    go_ret
    exact ⟨by rw [HR.out]; unfold rtgB; simp, HF.out⟩
  · have hn' : (na == nb) = false := by simpa using hn
    have HN : Hid (na ≠ nb) := hn
    clear hn
    by_cases ha1 : ma = 1
    · subst ha1
      by_cases hb1 : mb = 1
      · subst hb1
        have hr2 : r = true := by rw [HR.out]; unfold rtgB; simp [HN.out]
        subst hr2
        clear HR
        go_enter Try.func18, Try.ntmps18
        go_wp2
        go_ret
        exact ⟨rfl, HF.out⟩
      · have hb1' : (mb == 1) = false := by simpa using hb1
        by_cases hb2 : mb = 2
        · subst hb2
          have hr2 : r = true := by rw [HR.out]; unfold rtgB; simp [HN.out]
          subst hr2
          clear HR
          go_enter Try.func18, Try.ntmps18
          go_wp2
          go_ret
          exact ⟨rfl, HF.out⟩
        · have hb2' : (mb == 2) = false := by simpa using hb2
          have hr2 : r = false := by rw [HR.out]; unfold rtgB; simp [HN.out, hb1, hb2]
          subst hr2
          clear HR
          go_enter Try.func18, Try.ntmps18
          go_wp2
          go_ret
          exact ⟨rfl, HF.out⟩
    · have ha1' : (ma == 1) = false := by simpa using ha1
      by_cases ha2 : ma = 2
      · subst ha2
        by_cases hb1 : mb = 1
        · subst hb1
          have hr2 : r = true := by rw [HR.out]; unfold rtgB; simp [HN.out]
          subst hr2
          clear HR
          go_enter Try.func18, Try.ntmps18
          go_wp2
          go_ret
          exact ⟨rfl, HF.out⟩
        · have hb1' : (mb == 1) = false := by simpa using hb1
          by_cases hb2 : mb = 2
          · subst hb2
            have hr2 : r = false := by rw [HR.out]; unfold rtgB; simp [HN.out]
            subst hr2
            clear HR
            go_enter Try.func18, Try.ntmps18
            go_wp2
            go_ret
            exact ⟨rfl, HF.out⟩
          · have hb2' : (mb == 2) = false := by simpa using hb2
            have hr2 : r = false := by rw [HR.out]; unfold rtgB; simp [HN.out, hb1, hb2]
            subst hr2
            clear HR
            go_enter Try.func18, Try.ntmps18
            go_wp2
            go_ret
            exact ⟨rfl, HF.out⟩
      · have ha2' : (ma == 2) = false := by simpa using ha2
        by_cases hb1 : mb = 1
        · subst hb1
          have hr2 : r = false := by rw [HR.out]; unfold rtgB; simp [HN.out, ha1, ha2]
          subst hr2
          clear HR
          go_enter Try.func18, Try.ntmps18
          go_wp2
          go_ret
          exact ⟨rfl, HF.out⟩
        · have hb1' : (mb == 1) = false := by simpa using hb1
          by_cases hb2 : mb = 2
          · subst hb2
            have hr2 : r = false := by rw [HR.out]; unfold rtgB; simp [HN.out, ha1, ha2]
            subst hr2
            clear HR
            go_enter Try.func18, Try.ntmps18
            go_wp2
            go_ret
            exact ⟨rfl, HF.out⟩
          · have hb2' : (mb == 2) = false := by simpa using hb2
            have hr2 : r = false := by rw [HR.out]; unfold rtgB; simp [HN.out, ha1, ha2, hb1, hb2]
            subst hr2
            clear HR
            go_enter Try.func18, Try.ntmps18
            go_wp2
            go_ret
            exact ⟨rfl, HF.out⟩
end Go.Proofs.Ytnnedoohppobpaa

/- (*locks.Table).Granted. -/
namespace Go.Proofs.Ytnnedoohppobpaa
set_option maxRecDepth 100000
open Go.RowKit Go.Maps
set_option linter.unusedVariables false
set_option linter.unusedSimpArgs false

/-- what a lock says -/
def keyL (l : Lk) : Nat × List UInt8 × List UInt8 × UInt8 := (l.n, l.f, l.t, l.m)

/-- the locks that are handed out -/
structure GrI (B : Nat) (w : World) (v : Value) (own : List Lk) (j : Nat) (ls : List Lk) : Prop where
  len : ls.length = j
  key : ls.map keyL = (own.take j).map keyL
  row : OwnL B w v ls
  ok : ∀ l ∈ ls, LkOk w l
  fr : ∀ l ∈ ls, ∀ b, (l.x.ownBlock = some b ∨ l.y.ownBlock = some b) → B ≤ b

theorem GrI.below {B : Nat} {w w' : World} {v : Value} {own ls : List Lk} {j : Nat} (h : GrI B w v own j ls) (hb : Below w.heap.size w w') : GrI B w' v own j ls :=
  ⟨h.len, h.key, row_below h.row hb, fun l hl => (h.ok l hl).below hb, h.fr⟩

theorem GrI.mono {B C : Nat} {w : World} {v : Value} {own ls : List Lk} {j : Nat} (h : GrI B w v own j ls) (hB : C ≤ B) : GrI C w v own j ls :=
  ⟨h.len, h.key, row_mono9 h.row hB, h.ok, fun l hl b hb => Nat.le_trans hB (h.fr l hl b hb)⟩

set_option maxHeartbeats 2000000 in
theorem granted_any (G : Nat → Prop) (w : World) (t : Nat) (mo ea : Int) (gs : List Lk) (qs : List Rq) (n : Nat) (h : LkP G w t mo ea gs qs) (hn : gs.length ≤ 1000) :
    Calls Try.prog 16 #[.pointer (some ⟨t, 0, none⟩), .int .u64 (n : Int)] w fun e w' => ∃ v ls, e = .returned v ∧ GrI w.heap.size w' v (ofB gs n) (ofB gs n).length ls ∧ Below w.heap.size w w' := by
  obtain ⟨i0, hi, hz0, hz1, hz2⟩ := info_parts infoLk
  have he := eqT t
  obtain ⟨gv, qv, h⟩ := h
  have HA : Hid (LkAt G w t mo ea gs qs gv qv) := h
  have hof := of_any G w t mo ea gs qs gv qv n h (by omega)
  have HN1 : (ofB gs n).length ≤ 1000 := Nat.le_trans (List.length_filter_le _ _) hn
  have HIN : Hid (∀ g ∈ ofB gs n, g ∈ gs) := fun g hg => (List.mem_filter.1 hg).1
  obtain ⟨own, hown⟩ : ∃ l, ofB gs n = l := ⟨_, rfl⟩
  rw [hown] at HN1 hof HIN ⊢
  clear h hown
  go_enter Try.func16, Try.ntmps16
  go_wp2_with fail
  refine hof.mono ?_
  rintro e w1 ⟨v, rfl, hv, hb1⟩
  have HOK : Hid (∀ g ∈ own, LkOk w1 g) := fun g hg => (HA.out.og g (HIN.out g hg)).below hb1
  obtain ⟨va, vc, rfl, hvc, hvc2⟩ := row_slice9 hv
  obtain ⟨N, hN⟩ : ∃ N, own.length = N := ⟨_, rfl⟩
  have HV : Hid (RowL w1 (.slice va own.length vc) own) := hv.rd
  have HB1 : Hid (Below w.heap.size w w1) := hb1
  have HN : Hid (own.length = N) := hN
  rw [hN] at HV HN1 hvc ⊢
  clear hof hv hb1 hN HA HIN
  go_wp2_with fail
  go_loopg [5, 14] N (fun gk rv iv wr => ∃ (j c' : Nat) (a' : Option Addr), gk + j = N ∧ iv = .int .i64 (j : Int) ∧ rv = .slice a' j c' ∧ Hid (∃ ls, GrI w1.heap.size wr rv own j ls) ∧ Hid (Below w1.heap.size w1 wr))
  case atStart => exact ⟨0, 0, none, by omega, rfl, rfl, ⟨[], rfl, rfl, World.ownsRow_nil _ _ _ _, fun l hl => absurd hl (by simp), fun l hl => absurd hl (by simp)⟩, Below.refl _ _⟩
  case round =>
    obtain ⟨j, c', a', hj, rfl, rfl, HL, HB⟩ := hrel
    by_cases hlt : j < N
    · have hlt2 : j < own.length := by rw [HN.out]; exact hlt
      obtain ⟨b, c, e, _, c0, c1, c2, c3⟩ := (HV.out.below HB.out).at j hlt2
      rw [HN.out] at e
      cases e
      obtain ⟨q1, q2⟩ := gk_nxt hj hlt
      have hok := (HOK.out _ (List.getElem_mem hlt2)).below HB.out
      have htk : own.take (j + 1) = own.take j ++ [own[j]] := List.take_succ_eq_append_getElem hlt2
      obtain ⟨g, hg⟩ : ∃ g, own[j] = g := ⟨_, rfl⟩
      rw [hg] at c0 c1 c2 c3 hok htk
      obtain ⟨⟨x1, x2, x3, ex⟩, ⟨y1, y2, y3, ey⟩⟩ := hok.s
      obtain ⟨gn, hgn⟩ : ∃ z : Int, (g.n : Int) = z := ⟨_, rfl⟩
      obtain ⟨gm, hgm⟩ : ∃ z : Int, (g.m.toNat : Int) = z := ⟨_, rfl⟩
      rw [hgn] at c0
      rw [hgm] at c3
      rw [ex] at c1
      rw [ey] at c2
      have hb0 := below_box4 wr (.cells #[.int .u64 gn, .slice x1 x2 x3, .slice y1 y2 y3, .int .u8 gm] 32)
      have hap := apart_any (wr.alloc (.cells #[.int .u64 gn, .slice x1 x2 x3, .slice y1 y2 y3, .int .u8 gm] 32)) g.x g.y g.f g.t gn gm (hok.below hb0).1.rd (hok.below hb0).2.1.rd hok.2.2.2.1 hok.2.2.2.2
      rw [ex, ey] at hap
      unfold lkV at hap
      have BX := box4_new wr (.int .u64 gn) (.slice x1 x2 x3) (.slice y1 y2 y3) (.int .u8 gm) 32
      obtain ⟨z0, z1, z2, z3⟩ := BX
      have HB0 : Hid (Below wr.heap.size wr (wr.alloc (.cells #[.int .u64 gn, .slice x1 x2 x3, .slice y1 y2 y3, .int .u8 gm] 32))) := hb0
      have HTK : Hid (own.take (j + 1) = own.take j ++ [g]) := htk
      have HG : Hid ((g.n : Int) = gn ∧ (g.m.toNat : Int) = gm ∧ g.n < 18446744073709551616 ∧ g.f.length ≤ 65 ∧ g.t.length ≤ 65) := ⟨hgn, hgm, hok.2.2.1, hok.2.2.2.1, hok.2.2.2.2⟩
      clear htk hg ex ey hgn hgm hb0 hok
      go_wp2_with fail
      refine hap.mono ?_
      rintro e w2 ⟨x', y', rfl, ox, oy, hb2⟩
      obtain ⟨p1, p3, ep⟩ := ox.rd.len
      obtain ⟨r1, r3, er⟩ := oy.rd.len
      obtain ⟨fl, hfl⟩ : ∃ z, g.f.length = z := ⟨_, rfl⟩
      obtain ⟨tl, htl⟩ : ∃ z, g.t.length = z := ⟨_, rfl⟩
      rw [hfl] at ep
      rw [htl] at er
      subst ep er
      have hlk : LkOk w2 ⟨g.n, g.f, g.t, g.m, .slice p1 fl p3, .slice r1 tl r3⟩ := ⟨ox.mono (Nat.zero_le _), oy.mono (Nat.zero_le _), HG.out.2.2⟩
      have HLK : Hid (LkOk w2 ⟨g.n, g.f, g.t, g.m, .slice p1 fl p3, .slice r1 tl r3⟩) := hlk
      have henc : encL ⟨g.n, g.f, g.t, g.m, .slice p1 fl p3, .slice r1 tl r3⟩ = [.int .u64 gn, .slice p1 fl p3, .slice r1 tl r3, .int .u8 gm] := by unfold encL; rw [HG.out.1, HG.out.2.1]
      have hone := oneL _ hlk.s
      rw [henc] at hone
      have HENC : Hid (encL ⟨g.n, g.f, g.t, g.m, .slice p1 fl p3, .slice r1 tl r3⟩ = [.int .u64 gn, .slice p1 fl p3, .slice r1 tl r3, .int .u8 gm]) := henc
      have HFR : Hid (∀ b, ((Value.slice p1 fl p3).ownBlock = some b ∨ (Value.slice r1 tl r3).ownBlock = some b) → w1.heap.size ≤ b) := by
        intro b hb
        have h8 := HB.out.size
        have h7 := HB0.out.size
        rcases hb with hb | hb
        · have := (ownN_lt9 ox b hb).1; omega
        · have := (ownN_lt9 oy b hb).1; omega
      have HB2 : Hid (Below wr.heap.size wr w2) := bsplit HB0.out hb2
      have HBW : Hid (Below w1.heap.size w1 w2) := bsplit HB.out HB2.out
      obtain ⟨ls, hls⟩ := HL.out
      have HI2 : Hid (GrI w1.heap.size w2 (.slice a' j c') own j ls) := hls.below HB2.out
      have hb3 := below_box4 w2 (.cells #[.int .u64 gn, .slice p1 fl p3, .slice r1 tl r3, .int .u8 gm] 32)
      have HI3 := HI2.out.below hb3
      have HB3 : Hid (Below w2.heap.size w2 (w2.alloc (.cells #[.int .u64 gn, .slice p1 fl p3, .slice r1 tl r3, .int .u8 gm] 32))) := hb3
      have hrow : (w2.alloc (.cells #[.int .u64 gn, .slice p1 fl p3, .slice r1 tl r3, .int .u8 gm] 32)).ownsRow w1.heap.size 32 4 (.slice a' j c') j (ls.flatMap encL) := by
        have := HI3.row
        unfold OwnL at this
        rw [HI3.len] at this
        exact this
      have HLS : Hid ((ls.map keyL = (own.take j).map keyL) ∧ (∀ l ∈ ls, LkOk (w2.alloc (.cells #[.int .u64 gn, .slice p1 fl p3, .slice r1 tl r3, .int .u8 gm] 32)) l) ∧ ls.length = j ∧ (∀ l ∈ ls, ∀ b, (l.x.ownBlock = some b ∨ l.y.ownBlock = some b) → w1.heap.size ≤ b)) := ⟨HI3.key, HI3.ok, HI3.len, HI3.fr⟩
      have hlaid := laid4 w2 (.int .u64 gn) (.slice p1 fl p3) (.slice r1 tl r3) (.int .u8 gm) 32
      have hsz2 : w1.heap.size ≤ w2.heap.size := HBW.out.size
      have hsz3 : w1.heap.size ≤ (w2.alloc (.cells #[.int .u64 gn, .slice p1 fl p3, .slice r1 tl r3, .int .u8 gm] 32)).heap.size := Nat.le_trans hsz2 hb3.size
      clear hap hlk henc ox oy hb2 hls hb3 HI3 z0 z1 z2 z3 c0 c1 c2 c3 hfl htl HL
      go_wp2_with (first | (at_builtin; refine wpList_append_lies _ rfl (.tmp 18) (.tmp 21) 42 rfl w1.heap.size 32 i0 (.agg #[.int .u64 0, .slice none 0 0, .slice none 0 0, .int .u8 0]) 4 64 Try.underlying42 hi hz0 hz1 hz2 rfl (by decide) (.slice a' j c') j _ rfl hrow ⟨w2.heap.size, 0, none⟩ 1 1 [.int .u64 gn, .slice p1 fl p3, .slice r1 tl r3, .int .u8 gm] rfl rfl hlaid hone (by decide) (by simp only [maxLen]; omega) (by omega) hsz3 _ rfl ?_; intro g4 c4 w4 hown hgrow hat hlt4) | fail)
      have HN4 : Hid (GrI w1.heap.size w4 (.slice (some ⟨g4, 0, none⟩) (j + 1) c4) own (j + 1) (ls ++ [⟨g.n, g.f, g.t, g.m, .slice p1 fl p3, .slice r1 tl r3⟩])) := by
        refine ⟨by rw [List.length_append, HLS.out.2.2.1]; rfl, ?_, ?_, fun l hl => ?_, fun l hl b hb => ?_⟩
        · rw [HTK.out, List.map_append, List.map_append, HLS.out.1]
          rfl
        · unfold OwnL
          rw [flat_snoc, HENC.out, List.length_append, HLS.out.2.2.1]
          exact hown
        · rcases List.mem_append.1 hl with h9 | h9
          · exact (HLS.out.2.1 l h9).grown (by decide) hrow hgrow
          · rw [List.mem_singleton.1 h9]
            exact (HLK.out.below HB3.out).grown (by decide) hrow hgrow
        · rcases List.mem_append.1 hl with h9 | h9
          · exact HLS.out.2.2.2 l h9 b hb
          · rw [List.mem_singleton.1 h9] at hb
            exact HFR.out b hb
      have HB4 : Hid (Below w1.heap.size w1 w4) := by
        have h9 := bsplit HBW.out HB3.out
        exact h9.grown hgrow h9.size (fun k' e => (hrow.lt k' e).1)
      clear hrow hlaid hone hown hgrow hat hsz2 hsz3
      go_roundg (gk - 1)
      case measure => exact q1
      case rel => exact ⟨j + 1, c4, _, q2, by go_num, rfl, ⟨_, HN4.out⟩, HB4⟩
    · have hjN : j = N := by omega
      subst hjN
      obtain ⟨ls, hls⟩ := HL.out
      have HLS : Hid (GrI w.heap.size wr (.slice a' j c') own own.length ls) := by
        show GrI _ _ _ _ _ _
        rw [HN.out]
        exact hls.mono HB1.out.size
      have HBF : Hid (Below w.heap.size w wr) := bsplit HB1.out HB.out
      clear hls HL
      go_wp2
      go_ret
      exact ⟨_, ls, rfl, HLS.out, HBF.out⟩

/-- the same by its blocks -/
theorem grantq_any (B : Nat) (w : World) (t : Nat) (mo ea : Int) (gs : List Lk) (qs : List Rq) (n : Nat) (h : LkQ B w t mo ea gs qs) (hn : gs.length ≤ 1000) :
    Calls Try.prog 16 #[.pointer (some ⟨t, 0, none⟩), .int .u64 (n : Int)] w fun e w' => ∃ v ls, e = .returned v ∧ GrI w.heap.size w' v (ofB gs n) (ofB gs n).length ls ∧ Below w.heap.size w w' := by
  obtain ⟨_, G, h, _⟩ := h
  exact granted_any G w t mo ea gs qs n h hn

end Go.Proofs.Ytnnedoohppobpaa

/- The plain mathematics of P1.2: of two numbers the lesser one's bytes are less, whatever stands behind either. -/
namespace Go.Proofs.Ytnnedoohppobpaa.Mth

/-- one text stands ahead of the other: behind a common beginning a byte is less -/
def Ahead (l m : List UInt8) : Prop := ∃ c x y l' m', l = c ++ x :: l' ∧ m = c ++ y :: m' ∧ x < y

theorem Ahead.head {x y : UInt8} (l m : List UInt8) (h : x < y) : Ahead (x :: l) (y :: m) := ⟨[], x, y, l, m, rfl, rfl, h⟩
theorem Ahead.cons {l m : List UInt8} (z : UInt8) (h : Ahead l m) : Ahead (z :: l) (z :: m) := by
  obtain ⟨c, x, y, l', m', rfl, rfl, hxy⟩ := h
  exact ⟨z :: c, x, y, l', m', rfl, rfl, hxy⟩
theorem Ahead.append {l m : List UInt8} (h : Ahead l m) (t u : List UInt8) : Ahead (l ++ t) (m ++ u) := by
  obtain ⟨c, x, y, l', m', rfl, rfl, hxy⟩ := h
  exact ⟨c, x, y, l' ++ t, m' ++ u, by simp, by simp, hxy⟩
theorem Ahead.pre (c : List UInt8) {l m : List UInt8} (h : Ahead l m) : Ahead (c ++ l) (c ++ m) := by
  obtain ⟨d, x, y, l', m', rfl, rfl, hxy⟩ := h
  exact ⟨c ++ d, x, y, l', m', by simp, by simp, hxy⟩

theorem Ahead.cmp {l m : List UInt8} (h : Ahead l m) : Lib.compareBytes l m = -1 ∧ Lib.compareBytes m l = 1 := by
  obtain ⟨c, x, y, l', m', rfl, rfl, hxy⟩ := h
  have hyx : ¬ y < x := by simp only [UInt8.lt_iff_toNat_lt] at *; omega
  induction c with
  | nil => simp [Lib.compareBytes, hxy, hyx]
  | cons z c ih =>
    have hz : ¬ z < z := by simp only [UInt8.lt_iff_toNat_lt]; omega
    simp only [List.cons_append, Lib.compareBytes, if_neg hz]
    exact ih
theorem cmp_self (l : List UInt8) : Lib.compareBytes l l = 0 := by
  induction l with
  | nil => rfl
  | cons z l ih =>
    have hz : ¬ z < z := by simp only [UInt8.lt_iff_toNat_lt]; omega
    simp only [Lib.compareBytes, if_neg hz]
    exact ih

theorem of_lt {x y : Nat} (h : x < y) (hy : y < 256) : UInt8.ofNat x < UInt8.ofNat y := by
  rw [UInt8.lt_iff_toNat_lt]
  simp
  omega

theorem lt249 {y : Nat} (h : 249 < y) (hy : y < 256) : (249 : UInt8) < UInt8.ofNat y := by
  rw [UInt8.lt_iff_toNat_lt]
  have e : (249 : UInt8).toNat = 249 := by decide
  rw [e]
  simp
  omega

theorem beB_cons (k n : Nat) : beB (k + 1) n = UInt8.ofNat (n / 256 ^ k % 256) :: beB k n := by
  induction k generalizing n with
  | zero => simp [beB]
  | succ k ih =>
    rw [beB, ih (n / 256), beB, Nat.div_div_eq_div_mul, Nat.pow_succ, Nat.mul_comm 256]
    rfl

theorem beB_ahead (k a b : Nat) (h : a % 256 ^ k < b % 256 ^ k) : Ahead (beB k a) (beB k b) := by
  induction k with
  | zero => simp [Nat.mod_one] at h
  | succ k ih =>
    rw [beB_cons, beB_cons]
    have e1 : a % 256 ^ (k + 1) = a % 256 ^ k + 256 ^ k * (a / 256 ^ k % 256) := by rw [Nat.pow_succ, Nat.mod_mul]
    have e2 : b % 256 ^ (k + 1) = b % 256 ^ k + 256 ^ k * (b / 256 ^ k % 256) := by rw [Nat.pow_succ, Nat.mod_mul]
    rw [e1, e2] at h
    have hp : 0 < 256 ^ k := Nat.pow_pos (by omega)
    have ha := Nat.mod_lt a hp
    have hb := Nat.mod_lt b hp
    by_cases hq : a / 256 ^ k % 256 < b / 256 ^ k % 256
    · exact Ahead.head _ _ (of_lt hq (by omega))
    · by_cases hq2 : a / 256 ^ k % 256 = b / 256 ^ k % 256
      · rw [hq2] at h ⊢
        exact Ahead.cons _ (ih (by omega))
      · exfalso
        have h3 : b / 256 ^ k % 256 + 1 ≤ a / 256 ^ k % 256 := by omega
        have h4 := Nat.mul_le_mul_left (256 ^ k) h3
        rw [Nat.mul_add, Nat.mul_one] at h4
        omega

theorem wsize_mono (a b : Nat) (h : a ≤ b) : wsize a ≤ wsize b := by
  unfold wsize
  grind

set_option maxRecDepth 20000 in
/-- P1.2 -/
theorem numB_ahead (a b : Nat) (h : a < b) (hb : b < 18446744073709551616) : Ahead (numB a) (numB b) := by
  have wa := wsize_le a
  have wb := wsize_le b
  have wm := wsize_mono a b (by omega)
  by_cases a1 : a ≤ 240
  · have ea : numB a = [UInt8.ofNat a] := by rw [numB, if_pos a1]
    rw [ea]
    by_cases b1 : b ≤ 240
    · rw [numB, if_pos b1]; exact Ahead.head _ _ (of_lt h (by omega))
    by_cases b2 : b ≤ 2287
    · rw [numB, if_neg b1, if_pos b2]; exact Ahead.head _ _ (of_lt (by omega) (by omega))
    by_cases b3 : b ≤ 67823
    · rw [numB, if_neg b1, if_neg b2, if_pos b3]; exact Ahead.head _ _ (of_lt (y := 249) (by omega) (by omega))
    · rw [numB, if_neg b1, if_neg b2, if_neg b3]; exact Ahead.head _ _ (of_lt (by omega) (by omega))
  by_cases a2 : a ≤ 2287
  · have ea : numB a = [UInt8.ofNat (241 + (a - 240) / 256), UInt8.ofNat ((a - 240) % 256)] := by rw [numB, if_neg a1, if_pos a2]
    rw [ea]
    by_cases b2 : b ≤ 2287
    · rw [numB, if_neg (by omega), if_pos b2]
      by_cases hq : (a - 240) / 256 < (b - 240) / 256
      · exact Ahead.head _ _ (of_lt (by omega) (by omega))
      · have e : (a - 240) / 256 = (b - 240) / 256 := by omega
        rw [e]
        exact Ahead.cons _ (Ahead.head _ _ (of_lt (by omega) (by omega)))
    by_cases b3 : b ≤ 67823
    · rw [numB, if_neg (by omega), if_neg b2, if_pos b3]; exact Ahead.head _ _ (of_lt (y := 249) (by omega) (by omega))
    · rw [numB, if_neg (by omega), if_neg b2, if_neg b3]; exact Ahead.head _ _ (of_lt (by omega) (by omega))
  by_cases a3 : a ≤ 67823
  · have ea : numB a = [249, UInt8.ofNat ((a - 2288) / 256), UInt8.ofNat ((a - 2288) % 256)] := by rw [numB, if_neg a1, if_neg a2, if_pos a3]
    rw [ea]
    by_cases b3 : b ≤ 67823
    · rw [numB, if_neg (by omega), if_neg (by omega), if_pos b3]
      refine Ahead.cons _ ?_
      by_cases hq : (a - 2288) / 256 < (b - 2288) / 256
      · exact Ahead.head _ _ (of_lt (by omega) (by omega))
      · have e : (a - 2288) / 256 = (b - 2288) / 256 := by omega
        rw [e]
        exact Ahead.cons _ (Ahead.head _ _ (of_lt (by omega) (by omega)))
    · rw [numB, if_neg (by omega), if_neg (by omega), if_neg b3]; exact Ahead.head _ _ (lt249 (by omega) (by omega))
  · rw [numB, if_neg a1, if_neg a2, if_neg a3, numB, if_neg (by omega), if_neg (by omega), if_neg (by omega)]
    by_cases hw : wsize a < wsize b
    · exact Ahead.head _ _ (of_lt (by omega) (by omega))
    · have e : wsize a = wsize b := by omega
      have fb := wsize_fits b hb
      rw [e]
      refine Ahead.cons _ (beB_ahead _ _ _ ?_)
      rw [Nat.mod_eq_of_lt (by omega), Nat.mod_eq_of_lt fb]
      exact h

theorem numB_inj (a b : Nat) (ha : a < 18446744073709551616) (hb : b < 18446744073709551616) (h : numB a = numB b) : a = b := by
  rcases Nat.lt_trichotomy a b with hl | he | hl
  · have := (numB_ahead a b hl hb).cmp; rw [h, cmp_self] at this; omega
  · exact he
  · have := (numB_ahead b a hl ha).cmp; rw [h, cmp_self] at this; omega

end Go.Proofs.Ytnnedoohppobpaa.Mth

/- Texts compared byte by byte: an order. -/
namespace Go.Proofs.Ytnnedoohppobpaa.Mth

theorem cmp_vals (l m : List UInt8) : Lib.compareBytes l m = -1 ∨ Lib.compareBytes l m = 0 ∨ Lib.compareBytes l m = 1 := by
  induction l generalizing m with
  | nil => cases m <;> simp [Lib.compareBytes]
  | cons x l ih =>
    cases m with
    | nil => simp [Lib.compareBytes]
    | cons y m =>
      simp only [Lib.compareBytes]
      split
      · simp
      · split
        · simp
        · exact ih m

theorem cmp_neg (l m : List UInt8) : Lib.compareBytes m l = - Lib.compareBytes l m := by
  induction l generalizing m with
  | nil => cases m <;> simp [Lib.compareBytes]
  | cons x l ih =>
    cases m with
    | nil => simp [Lib.compareBytes]
    | cons y m =>
      simp only [Lib.compareBytes]
      by_cases h1 : x < y
      · have h2 : ¬ y < x := by simp only [UInt8.lt_iff_toNat_lt] at *; omega
        simp [h1, h2]
      · by_cases h2 : y < x
        · simp [h1, h2]
        · simp [h1, h2, ih m]

theorem cmp_zero {l m : List UInt8} : Lib.compareBytes l m = 0 ↔ l = m := by
  induction l generalizing m with
  | nil => cases m <;> simp [Lib.compareBytes]
  | cons x l ih =>
    cases m with
    | nil => simp [Lib.compareBytes]
    | cons y m =>
      simp only [Lib.compareBytes]
      by_cases h1 : x < y
      · have h2 : ¬ x = y := by rintro rfl; simp only [UInt8.lt_iff_toNat_lt] at h1; omega
        simp [h1, h2]
      · by_cases h2 : y < x
        · have h3 : ¬ x = y := by rintro rfl; simp only [UInt8.lt_iff_toNat_lt] at h2; omega
          simp [h1, h2, h3]
        · have h3 : x = y := by apply UInt8.toNat_inj.1; simp only [UInt8.lt_iff_toNat_lt] at *; omega
          simp [h3, UInt8.lt_irrefl, ih]

theorem cmp_trans {l m n : List UInt8} (h1 : Lib.compareBytes l m < 0) (h2 : Lib.compareBytes m n < 0) : Lib.compareBytes l n < 0 := by
  induction l generalizing m n with
  | nil =>
    cases n with
    | nil => cases m <;> simp [Lib.compareBytes] at h1 h2
    | cons z n => simp [Lib.compareBytes]
  | cons x l ih =>
    cases m with
    | nil => simp [Lib.compareBytes] at h1
    | cons y m =>
      cases n with
      | nil => simp [Lib.compareBytes] at h2
      | cons z n =>
        simp only [Lib.compareBytes] at h1 h2 ⊢
        have e : ∀ a b : UInt8, a < b ↔ a.toNat < b.toNat := fun a b => UInt8.lt_iff_toNat_lt
        simp only [e] at h1 h2 ⊢
        by_cases a1 : x.toNat < y.toNat
        · by_cases a2 : z.toNat < y.toNat
          · rw [if_neg (by omega), if_pos a2] at h2; omega
          · rw [if_pos (by omega)]; omega
        · rw [if_neg a1] at h1
          by_cases a2 : y.toNat < x.toNat
          · rw [if_pos a2] at h1; omega
          · rw [if_neg a2] at h1
            by_cases a3 : y.toNat < z.toNat
            · rw [if_pos (by omega)]; omega
            · rw [if_neg a3] at h2
              by_cases a4 : z.toNat < y.toNat
              · rw [if_pos a4] at h2; omega
              · rw [if_neg a4] at h2
                rw [if_neg (by omega), if_neg (by omega)]
                exact ih h1 h2

/-- which of two versions stands ahead -/
def cmpK (a : List UInt8) (s k : Int) (b : List UInt8) (t j : Int) : Int :=
  if Lib.compareBytes a b ≠ 0 then Lib.compareBytes a b else if t < s then -1 else if s < t then 1 else if j < k then -1 else if k < j then 1 else 0

theorem cmpK_vals (a : List UInt8) (s k : Int) (b : List UInt8) (t j : Int) : cmpK a s k b t j = -1 ∨ cmpK a s k b t j = 0 ∨ cmpK a s k b t j = 1 := by
  have := cmp_vals a b
  unfold cmpK
  grind

theorem cmpK_neg (a : List UInt8) (s k : Int) (b : List UInt8) (t j : Int) : cmpK b t j a s k = - cmpK a s k b t j := by
  have := cmp_neg a b
  unfold cmpK
  grind

theorem cmpK_zero {a : List UInt8} {s k : Int} {b : List UInt8} {t j : Int} : cmpK a s k b t j = 0 ↔ a = b ∧ s = t ∧ k = j := by
  have := cmp_zero (l := a) (m := b)
  unfold cmpK
  grind

theorem cmpK_trans {a : List UInt8} {s k : Int} {b : List UInt8} {t j : Int} {c : List UInt8} {u i : Int} (h1 : cmpK a s k b t j ≤ 0) (h2 : cmpK b t j c u i ≤ 0) : cmpK a s k c u i ≤ 0 := by
  have e1 := cmp_zero (l := a) (m := b)
  have e2 := cmp_zero (l := b) (m := c)
  have e3 := cmp_zero (l := a) (m := c)
  have e4 := @cmp_trans a b c
  unfold cmpK at *
  grind

end Go.Proofs.Ytnnedoohppobpaa.Mth

/- Locks that are granted don't clash: in pure terms. -/
namespace Go.Proofs.Ytnnedoohppobpaa
set_option maxRecDepth 20000
open Go.RowKit Go.Maps
set_option linter.unusedVariables false
set_option linter.unusedSimpArgs false

theorem ltB_trans9 {a b c : List UInt8} (h1 : ltB a b = true) (h2 : ltB b c = true) : ltB a c = true := by
  unfold ltB at *
  rw [decide_eq_true_iff] at *
  exact Mth.cmp_trans h1 h2

theorem ltB_le9 {a b c : List UInt8} (h1 : ltB b a = false) (h2 : ltB b c = true) : ltB a c = true := by
  unfold ltB at *
  rw [decide_eq_true_iff] at *
  rw [decide_eq_false_iff_not] at h1
  rcases Mth.cmp_vals b a with h | h | h
  · omega
  · rw [Mth.cmp_zero] at h; subst h; exact h2
  · have h9 := Mth.cmp_neg b a
    exact Mth.cmp_trans (by omega : Lib.compareBytes a b < 0) h2

theorem rov_over {a b : Lk} (h : rovB a.f a.t b.f b.t = true) : overB a b = true := by
  unfold rovB at h
  unfold overB
  rw [Bool.and_eq_true] at *
  obtain ⟨h1, h2⟩ := h
  by_cases hl : ltB a.f b.f = true
  · rw [if_pos hl] at h1 h2
    refine ⟨?_, h1⟩
    unfold belB at h2 ⊢
    by_cases h0 : b.t.length = 0
    · rw [if_pos h0]
    · rw [if_neg h0] at h2 ⊢
      exact ltB_trans9 hl h2
  · rw [if_neg hl] at h1 h2
    refine ⟨h2, ?_⟩
    unfold belB at h1 ⊢
    by_cases h0 : a.t.length = 0
    · rw [if_pos h0]
    · rw [if_neg h0] at h1 ⊢
      exact ltB_le9 (by simpa using hl) h1

theorem right_mode {l : Lk} (h : rightB l = true) : 1 ≤ l.m.toNat ∧ l.m.toNat ≤ 3 := by
  unfold rightB at h
  simp only [Bool.and_eq_true, decide_eq_true_eq] at h
  exact h.1.1.1.2

/-- what doesn't clash, and overlaps, goes together as the document has it -/
theorem clash_free {a b : Lk} (ha : rightB a = true) (hb : rightB b = true) (h : clB a b = false) (ho : rovB a.f a.t b.f b.t = true) : rtgB (a.n : Int) (b.n : Int) (a.m.toNat : Int) (b.m.toNat : Int) = true := by
  unfold clB at h
  rw [rov_over ho] at h
  simp only [Bool.true_and, Bool.not_eq_false'] at h
  have h1 := right_mode ha
  have h2 := right_mode hb
  unfold togB at h
  unfold rtgB
  simp only [Bool.or_eq_true, Bool.and_eq_true, decide_eq_true_eq]
  by_cases hn : a.n = b.n
  · exact .inl (.inl (.inl (by omega)))
  · rw [if_neg hn] at h
    by_cases h3 : a.m.toNat = 1
    · rw [if_pos h3, decide_eq_true_iff] at h
      by_cases h4 : b.m.toNat = 1
      · exact .inl (.inl (.inr (by omega)))
      · exact .inl (.inr (by omega))
    · rw [if_neg h3] at h
      by_cases h4 : b.m.toNat = 1
      · rw [if_pos h4, decide_eq_true_iff] at h
        exact .inr (by omega)
      · rw [if_neg h4] at h
        cases h

theorem clB_comm (a b : Lk) (ha : rightB a = true) (hb : rightB b = true) : clB a b = clB b a := by
  have h1 := right_mode ha
  have h2 := right_mode hb
  have ho : overB a b = overB b a := by unfold overB; exact Bool.and_comm _ _
  have ht : togB a b = togB b a := by
    unfold togB
    by_cases hn : a.n = b.n
    · rw [if_pos hn, if_pos hn.symm]
    · have hn' : ¬ b.n = a.n := fun e => hn e.symm
      by_cases h3 : a.m.toNat = 1 <;> by_cases h4 : b.m.toNat = 1 <;> simp [hn, hn', h3, h4]
  unfold clB
  rw [ho, ht]

/-- all is right, and none that is granted clashes with another -/
structure AptI (gs : List Lk) (qs : List Rq) : Prop where
  rg : ∀ g ∈ gs, rightB g = true
  rq : ∀ q ∈ qs, rightB q.l = true
  pw : ∀ g ∈ gs, ∀ h ∈ gs, clB g h = false

theorem blk_free {gs : List Lk} {ah : List Rq} {l : Lk} (h : (blkB gs ah l).length = 0) : ∀ g ∈ gs, clB l g = false := by
  unfold blkB at h
  rw [List.length_append, List.length_map] at h
  have h1 : (gs.filter (clB l)).length = 0 := by omega
  have h2 := List.eq_nil_of_length_eq_zero h1
  intro g hg
  rw [List.filter_eq_nil_iff] at h2
  simpa using h2 g hg

theorem self_free (l : Lk) : clB l l = false := by unfold clB togB; rw [if_pos rfl]; simp

theorem pw_snoc {gs : List Lk} {l : Lk} (hr : ∀ g ∈ gs, rightB g = true) (hl : rightB l = true) (hp : ∀ g ∈ gs, ∀ h ∈ gs, clB g h = false) (hf : ∀ g ∈ gs, clB l g = false) : ∀ g ∈ gs ++ [l], ∀ h ∈ gs ++ [l], clB g h = false := by
  intro g hg h hh
  rcases List.mem_append.1 hg with h1 | h1
  · rcases List.mem_append.1 hh with h2 | h2
    · exact hp g h1 h h2
    · rw [List.mem_singleton.1 h2, clB_comm g l (hr g h1) hl]
      exact hf g h1
  · rw [List.mem_singleton.1 h1]
    rcases List.mem_append.1 hh with h2 | h2
    · exact hf h h2
    · rw [List.mem_singleton.1 h2]
      exact self_free l

theorem AptI.adv : ∀ (qs : List Rq) (gs : List Lk) (ah ps : List Rq), (∀ g ∈ gs, rightB g = true) → (∀ g ∈ gs, ∀ h ∈ gs, clB g h = false) → (∀ q ∈ qs, rightB q.l = true) → (∀ q ∈ ah, rightB q.l = true) → AptI (advB qs gs ah ps).1 (advB qs gs ah ps).2.1 := by
  intro qs
  induction qs with
  | nil => intro gs ah ps h1 h2 _ h4; exact ⟨h1, h4, h2⟩
  | cons r qs ih =>
    intro gs ah ps h1 h2 h3 h4
    have hr := h3 r (by simp)
    have hq : ∀ q ∈ qs, rightB q.l = true := fun q hq => h3 q (by simp [hq])
    unfold advB
    by_cases h : (blkB gs ah r.l).length = 0
    · rw [if_pos h]
      refine ih _ _ _ (fun g hg => ?_) (pw_snoc h1 hr h2 (blk_free h)) hq h4
      rcases List.mem_append.1 hg with h9 | h9
      · exact h1 g h9
      · rw [List.mem_singleton.1 h9]; exact hr
    · rw [if_neg h]
      refine ih _ _ _ h1 h2 hq (fun q hq9 => ?_)
      rcases List.mem_append.1 hq9 with h9 | h9
      · exact h4 q h9
      · rw [List.mem_singleton.1 h9]; exact hr

theorem AptI.sub {gs gs' : List Lk} {qs qs' : List Rq} (h : AptI gs qs) (hg : ∀ g ∈ gs', g ∈ gs) (hq : ∀ q ∈ qs', q ∈ qs) : AptI (advB qs' gs' [] []).1 (advB qs' gs' [] []).2.1 :=
  AptI.adv qs' gs' [] [] (fun g h9 => h.rg g (hg g h9)) (fun g h9 k h8 => h.pw g (hg g h9) k (hg k h8)) (fun q h9 => h.rq q (hq q h9)) (fun q h9 => absurd h9 (by simp))

theorem AptI.ask {mo ea : Int} {gs : List Lk} {qs : List Rq} (h : AptI gs qs) (l l' : Lk) (u : Nat) (e1 : rightB l' = rightB l) (e2 : ∀ g, clB l' g = clB l g) :
    AptI (askB mo ea gs qs l l' u).2.1 (askB mo ea gs qs l l' u).2.2 ∧ (askB mo ea gs qs l l' u).2.1.length + (askB mo ea gs qs l l' u).2.2.length ≤ gs.length + qs.length + 1 := by
  unfold askB
  by_cases h1 : rightB l = false
  · rw [if_pos h1]; exact ⟨h, by simp⟩
  rw [if_neg h1]
  have hr : rightB l' = true := by rw [e1]; simpa using h1
  by_cases h2 : (qs.any fun q => decide (q.l.n = l.n)) = true
  · rw [if_pos h2]; exact ⟨h, by simp⟩
  rw [if_neg h2]
  by_cases h3 : hasB gs l = true
  · rw [if_pos h3]; exact ⟨h, by simp⟩
  rw [if_neg h3]
  by_cases h4 : fullB mo ea gs qs l.n = true
  · rw [if_pos h4]; exact ⟨h, by simp⟩
  rw [if_neg h4]
  by_cases h5 : (blkB gs qs l).length = 0
  · rw [if_pos h5]
    refine ⟨⟨fun g hg => ?_, h.rq, pw_snoc h.rg hr h.pw (fun g hg => by rw [e2]; exact blk_free h5 g hg)⟩, by simp; omega⟩
    rcases List.mem_append.1 hg with h9 | h9
    · exact h.rg g h9
    · rw [List.mem_singleton.1 h9]; exact hr
  · rw [if_neg h5]
    refine ⟨⟨h.rg, fun q hq => ?_, h.pw⟩, by simp; omega⟩
    rcases List.mem_append.1 hq with h9 | h9
    · exact h.rq q h9
    · rw [List.mem_singleton.1 h9]; exact hr

/-- of what is granted, whatever overlaps goes together -/
theorem AptI.pair {gs : List Lk} {qs : List Rq} (h : AptI gs qs) {a b : Lk} (ha : ∃ g ∈ gs, keyL a = keyL g) (hb : ∃ g ∈ gs, keyL b = keyL g) (ho : rovB a.f a.t b.f b.t = true) : rtgB (a.n : Int) (b.n : Int) (a.m.toNat : Int) (b.m.toNat : Int) = true := by
  obtain ⟨g, hg, e1⟩ := ha
  obtain ⟨k, hk, e2⟩ := hb
  unfold keyL at e1 e2
  simp only [Prod.mk.injEq] at e1 e2
  obtain ⟨a1, a2, a3, a4⟩ := e1
  obtain ⟨b1, b2, b3, b4⟩ := e2
  rw [a2, a3, b2, b3] at ho
  rw [a1, a4, b1, b4]
  exact clash_free (h.rg g hg) (h.rg k hk) (h.pw g hg k hk) ho

theorem adv_len (qs : List Rq) (gs : List Lk) : (advB qs gs [] []).1.length + (advB qs gs [] []).2.1.length = gs.length + qs.length := by
  have := (advB_mem qs gs [] []).2.2.2.1
  simpa using this

theorem relx_any (B : Nat) (X : Nat → Prop) (w : World) (t : Nat) (mo ea : Int) (gs : List Lk) (qs : List Rq) (n : Nat) (h : LkX B X w t mo ea gs qs) (hX : ∀ b, X b → b < w.heap.size) (hn : gs.length + qs.length ≤ 1000) :
    Calls Try.prog 12 #[.pointer (some ⟨t, 0, none⟩), .int .u64 (n : Int)] w fun e w' => ∃ v, e = .returned v ∧ RdU w' v ((advB (lvB qs n) (rlB gs n) [] []).2.2.map (·.l.n)) ∧ Keeps (fun b => B ≤ b ∧ ¬ X b) w w' ∧ LkX B X w' t mo ea (advB (lvB qs n) (rlB gs n) [] []).1 (advB (lvB qs n) (rlB gs n) [] []).2.1 := by
  obtain ⟨hB, G, h, hG⟩ := h
  refine (release_any G w t mo ea gs qs n h hn).mono ?_
  rintro e w' ⟨v, he, h1, hk, G', hp, hG'⟩
  exact ⟨v, he, h1.rd, hk.mono hG, Nat.le_trans hB hk.size, G', hp, fun b hb => (hG' b hb).elim (hG b) (fun h9 => ⟨Nat.le_trans hB h9, fun hx9 => by have := hX b hx9; omega⟩)⟩

theorem leavex_any (B : Nat) (X : Nat → Prop) (w : World) (t : Nat) (mo ea : Int) (gs : List Lk) (qs : List Rq) (n : Nat) (h : LkX B X w t mo ea gs qs) (hX : ∀ b, X b → b < w.heap.size) (hn : gs.length + qs.length ≤ 1000) :
    Calls Try.prog 13 #[.pointer (some ⟨t, 0, none⟩), .int .u64 (n : Int)] w fun e w' => ∃ v, e = .returned v ∧ RdU w' v ((advB (lvB qs n) gs [] []).2.2.map (·.l.n)) ∧ Keeps (fun b => B ≤ b ∧ ¬ X b) w w' ∧ LkX B X w' t mo ea (advB (lvB qs n) gs [] []).1 (advB (lvB qs n) gs [] []).2.1 := by
  obtain ⟨hB, G, h, hG⟩ := h
  refine (leave_any G w t mo ea gs qs n h hn).mono ?_
  rintro e w' ⟨v, he, h1, hk, G', hp, hG'⟩
  exact ⟨v, he, h1.rd, hk.mono hG, Nat.le_trans hB hk.size, G', hp, fun b hb => (hG' b hb).elim (hG b) (fun h9 => ⟨Nat.le_trans hB h9, fun hx9 => by have := hX b hx9; omega⟩)⟩

end Go.Proofs.Ytnnedoohppobpaa

/- Maps from numbers: to numbers, to truths. -/
namespace Go.Proofs.Ytnnedoohppobpaa
set_option maxRecDepth 20000
open Go.RowKit Go.Maps
set_option linter.unusedVariables false
set_option linter.unusedSimpArgs false

/-- a map from numbers to numbers: what it tells of each -/
def MapF (w : World) (b n : Nat) (f : Nat → Nat) : Prop :=
  ∃ D : DataW Unit, w.ownsMap Try.prog 29 (plainElem Try.prog 29) b n D ∧ ∀ k, k < 18446744073709551616 → D.atKey (litU k) (.lit (.int .u64 0)) = .lit (.int .u64 (f k : Int))

/-- a map from numbers to truths: of which it tells true -/
def MapG (w : World) (b n : Nat) (l : List Nat) : Prop :=
  ∃ D : DataW Unit, w.ownsMap Try.prog 29 (plainElem Try.prog 4) b n D ∧ ∀ k, k < 18446744073709551616 → D.atKey (litU k) (.lit (.bool false)) = .lit (.bool (decide (k ∈ l)))

theorem ownsMap_block {w w' : World} {kt : TypeId} {R : Value → Option (DataW Unit × List MemPlace)} {b n : Nat} {D : DataW Unit} (h : w.ownsMap Try.prog kt R b n D) (hb : w'.heap[b]? = w.heap[b]?) : w'.ownsMap Try.prog kt R b n D := by
  obtain ⟨es, clock, hb2, r⟩ := h
  exact ⟨es, clock, hb.trans hb2, r⟩

theorem MapF.lt {w : World} {b n : Nat} {f : Nat → Nat} (h : MapF w b n f) : b < w.heap.size := by
  obtain ⟨D, h, _⟩ := h
  exact World.ownsMap.lt h
theorem MapG.lt {w : World} {b n : Nat} {l : List Nat} (h : MapG w b n l) : b < w.heap.size := by
  obtain ⟨D, h, _⟩ := h
  exact World.ownsMap.lt h

theorem MapF.same {w w' : World} {b n : Nat} {f : Nat → Nat} (h : MapF w b n f) (hb : w'.heap[b]? = w.heap[b]?) : MapF w' b n f := by
  obtain ⟨D, h1, h2⟩ := h
  exact ⟨D, ownsMap_block h1 hb, h2⟩
theorem MapG.same {w w' : World} {b n : Nat} {l : List Nat} (h : MapG w b n l) (hb : w'.heap[b]? = w.heap[b]?) : MapG w' b n l := by
  obtain ⟨D, h1, h2⟩ := h
  exact ⟨D, ownsMap_block h1 hb, h2⟩
theorem MapF.below {w w' : World} {b n : Nat} {f : Nat → Nat} (h : MapF w b n f) (hb : Below w.heap.size w w') : MapF w' b n f := h.same (hb.block b h.lt)
theorem MapG.below {w w' : World} {b n : Nat} {l : List Nat} (h : MapG w b n l) (hb : Below w.heap.size w w') : MapG w' b n l := h.same (hb.block b h.lt)

theorem MapF.made (w : World) : MapF (w.alloc (.map #[] 0)) w.heap.size 0 (fun _ => 0) :=
  ⟨.map [], World.ownsMap_made _ _ _ _, fun k _ => by simp [DataW.atKey]⟩
theorem MapG.made (w : World) : MapG (w.alloc (.map #[] 0)) w.heap.size 0 [] :=
  ⟨.map [], World.ownsMap_made _ _ _ _, fun k _ => by simp [DataW.atKey]⟩

theorem zero_boolU (w : World) : (zeroValue 4).run Try.prog w = .ok (.bool false) w := by kernel_rfl
theorem zero_u64U (w : World) : (zeroValue 29).run Try.prog w = .ok (.int .u64 0) w := by kernel_rfl

theorem plainElem_boolU_inv {H : Type} {P : Program} {e : TypeId} (he : P.underlying e = some .bool) {v : Value} {z : DataW H × List MemPlace} (h : plainElem P e v = some z) : ∃ b, v = .bool b ∧ z = (.lit (.bool b), []) := by
  unfold plainElem at h
  rw [he] at h
  cases v <;> simp at h
  exact ⟨_, rfl, h.symm⟩

theorem MapG.look {w : World} {b n : Nat} {l : List Nat} (h : MapG w b n l) (k : Nat) (hk : k < 18446744073709551616) :
    (Instr.lookup 28 (.map (some b)) (.int .u64 (k : Int)) false).run Try.prog w = .ok (.bool (decide (k ∈ l))) w := by
  obtain ⟨D, hm, hat⟩ := h
  obtain ⟨v, ps, hrun, hv⟩ := hm.lookup (int_keyed Try.underlying29) Try.underlying28 (zero_boolU w) (plainElem_bool Try.underlying4 false) (key := .int .u64 (k : Int)) (kl := litU k) (keyU hk)
  rw [hat k hk] at hv
  obtain ⟨b, rfl, hz⟩ := plainElem_boolU_inv Try.underlying4 hv
  simp only [Prod.mk.injEq, DataW.lit.injEq, Lit.bool.injEq] at hz
  rw [hrun, hz.1]

theorem MapF.look {w : World} {b n : Nat} {f : Nat → Nat} (h : MapF w b n f) (k : Nat) (hk : k < 18446744073709551616) :
    (Instr.lookup 51 (.map (some b)) (.int .u64 (k : Int)) false).run Try.prog w = .ok (.int .u64 (f k : Int)) w := by
  obtain ⟨D, hm, hat⟩ := h
  obtain ⟨v, ps, hrun, hv⟩ := hm.lookup (int_keyed Try.underlying29) Try.underlying51 (zero_u64U w) (plainElem_int Try.underlying29 (by decide)) (key := .int .u64 (k : Int)) (kl := litU k) (keyU hk)
  rw [hat k hk] at hv
  obtain ⟨b, rfl, hz, _⟩ := plainElem_int_inv Try.underlying29 hv
  simp only [Prod.mk.injEq, DataW.lit.injEq, Lit.int.injEq, true_and] at hz
  rw [hrun, hz.1]

theorem litU_ne {a b : Nat} (h : a ≠ b) : litU a ≠ litU b := by
  unfold litU
  intro e
  simp only [Lit.int.injEq, true_and] at e
  omega

theorem MapF.put {w w' : World} {b n k v : Nat} {f : Nat → Nat} {D : DataW Unit} (hm : w.ownsMap Try.prog 29 (plainElem Try.prog 29) b n D) (hat : ∀ k, k < 18446744073709551616 → D.atKey (litU k) (.lit (.int .u64 0)) = .lit (.int .u64 (f k : Int)))
    (h : w'.ownsMap Try.prog 29 (plainElem Try.prog 29) b (n + 1) (D.put (litU k) (.lit (.int .u64 (v : Int))))) : MapF w' b (n + 1) (fun x => if x = k then v else f x) := by
  refine ⟨_, h, fun x hx => ?_⟩
  by_cases e : x = k
  · subst e
    rw [atKey_put_same hm.isMap (k := litU x) (by simp [WideAt.IsKeyLit, litU])]
    simp
  · rw [atKey_put_other (litU_ne e), hat x hx]
    simp [e]

theorem MapG.put {w w' : World} {b n k : Nat} {l : List Nat} {D : DataW Unit} (hm : w.ownsMap Try.prog 29 (plainElem Try.prog 4) b n D) (hat : ∀ k, k < 18446744073709551616 → D.atKey (litU k) (.lit (.bool false)) = .lit (.bool (decide (k ∈ l))))
    (h : w'.ownsMap Try.prog 29 (plainElem Try.prog 4) b (n + 1) (D.put (litU k) (.lit (.bool true)))) : MapG w' b (n + 1) (l ++ [k]) := by
  refine ⟨_, h, fun x hx => ?_⟩
  by_cases e : x = k
  · subst e
    rw [atKey_put_same hm.isMap (k := litU x) (by simp [WideAt.IsKeyLit, litU])]
    simp
  · rw [atKey_put_other (litU_ne e), hat x hx]
    simp [e]

end Go.Proofs.Ytnnedoohppobpaa

/- bartizanlaw19.few; a lock that came in. -/
namespace Go.Proofs.Ytnnedoohppobpaa
set_option maxRecDepth 100000
open Go.RowKit Go.Maps
open Go.ChangeShapes Go.WideShapes Go.ChangeAt
set_option linter.unusedVariables false
set_option linter.unusedSimpArgs false

theorem byte_of9 {k : Int} (h : (Lit.int .u8 k).wf = true) : k = ((UInt8.ofNat k.toNat).toNat : Int) := by
  have := bounds_u8 h
  rw [UInt8.toNat_ofNat', Nat.mod_eq_of_lt (by omega)]
  omega

/-- a lock that came in -/
theorem lockArg_of {H : Type} {enc : TypeId × Value → H} {w : World} {r : Reach} {base : Nat} {v : Value} {d : DataW H} {ps : List MemPlace}
    (hv : Value.okWide Try.prog w r base 32 v) (h : DataW.Trod enc Try.prog w 0 (fun _ => true) true 32 v d ps) :
    ∃ (n : Nat) (f t : List UInt8) (m : UInt8) (x y : Value), v = .agg #[.int .u64 (n : Int), x, y, .int .u8 (m.toNat : Int)] ∧ n < 18446744073709551616 ∧ Arg w x f ∧ Arg w y t := by
  obtain ⟨v0, v1, v2, v3, y0, y1, y2, y3, n, rfl, _, _, h0, h1, h2, h3⟩ := Joins.open_agg4 Try.underlying32 (by kernel_rfl) (by kernel_rfl) hv h
  obtain ⟨k, e0, _, wk⟩ := DataW.trod_int Try.underlying29 h0
  obtain ⟨a1, l1, q1, z1, rfl, r1⟩ := row_of_trod h1
  obtain ⟨a2, l2, q2, z2, rfl, r2⟩ := row_of_trod h2
  obtain ⟨s, e3, _, ws⟩ := DataW.trod_int Try.underlying5 h3
  simp at e0 e3
  subst e0 e3
  have hs := bounds_u64 wk
  refine ⟨k.toNat, _, _, UInt8.ofNat s.toNat, _, _, ?_, by omega, arg_of r1, arg_of r2⟩
  rw [← byte_of9 ws, show ((k.toNat : Nat) : Int) = k by omega]
set_option maxHeartbeats 2000000 in
theorem few_any (w : World) (x y : Value) (f t : List UInt8) (n m : Int) (h1 : Arg w x f) (h2 : Arg w y t) :
    Calls Try.prog 11 #[lkV n x y m] w fun e w' => ∃ x' y', e = .returned (lkV n x' y' m) ∧ OwnN w.heap.size w' x' (f.take 80) ∧ OwnN w.heap.size w' y' (t.take 80) ∧ Below w.heap.size w w' := by
  obtain ⟨a1, a2, ea⟩ := h1.shape
  obtain ⟨a3, a4, eb⟩ := h2.shape
  subst ea eb
  have hb0 := below_two w (.cells #[.int .u64 n, .slice a1 f.length a2, .slice a3 t.length a4, .int .u8 m] 32) (.cells #[.int .u64 0, .slice none 0 0, .slice none 0 0, .int .u8 0] 32)
  have HB0 : Hid (Below w.heap.size w ((w.alloc (.cells #[.int .u64 n, .slice a1 f.length a2, .slice a3 t.length a4, .int .u8 m] 32)).alloc (.cells #[.int .u64 0, .slice none 0 0, .slice none 0 0, .int .u8 0] 32))) := hb0
  have hba := below_box4 (w.alloc (.cells #[.int .u64 n, .slice a1 f.length a2, .slice a3 t.length a4, .int .u8 m] 32)) (.cells #[.int .u64 0, .slice none 0 0, .slice none 0 0, .int .u8 0] 32)
  have bx := ((box4_new w (.int .u64 n) (.slice a1 f.length a2) (.slice a3 t.length a4) (.int .u8 m) 32).below hba (Nat.le_refl _)).drew
  have r1 := h1.below hb0.drew (Nat.le_refl _)
  have r2 := h2.below hb0.drew (Nat.le_refl _)
  have BF : Hid (Box4f ((w.alloc (.cells #[.int .u64 n, .slice a1 f.length a2, .slice a3 t.length a4, .int .u8 m] 32)).alloc (.cells #[.int .u64 0, .slice none 0 0, .slice none 0 0, .int .u8 0] 32)) (w.heap.size + 1) (.int .u64 0) (.slice none 0 0) (.slice none 0 0) (.int .u8 0)) := by
    have := box4f_new (w.alloc (.cells #[.int .u64 n, .slice a1 f.length a2, .slice a3 t.length a4, .int .u8 m] 32)) (.int .u64 0) (.slice none 0 0) (.slice none 0 0) (.int .u8 0) 32
    rw [show (w.alloc (.cells #[.int .u64 n, .slice a1 f.length a2, .slice a3 t.length a4, .int .u8 m] 32)).heap.size = w.heap.size + 1 by simp] at this
    exact this
  obtain ⟨fl, hfl⟩ : ∃ z, f.length = z := ⟨_, rfl⟩
  obtain ⟨tl, htl⟩ : ∃ z, t.length = z := ⟨_, rfl⟩
  obtain ⟨fm, hfm⟩ : ∃ z, (f.take 80).length = z := ⟨_, rfl⟩
  obtain ⟨tm, htm⟩ : ∃ z, (t.take 80).length = z := ⟨_, rfl⟩
  have HFL : Hid ((f.take 80).length = fm ∧ (t.take 80).length = tm) := ⟨hfm, htm⟩
  rw [hfl] at HB0 bx r1 BF
  rw [htl] at HB0 bx r2 BF
  rw [hfl] at r2
  rw [htl] at r1
  rw [hfl, htl]
  clear h1 h2 hb0 hba hfl htl hfm htm
  unfold lkV
  go_enter Try.func11, Try.ntmps11
  go_wp2_with fail
  go_region_held3 (fun w' => w'.cell? ⟨w.heap.size, 0, none⟩ = some (.int .u64 n) ∧ w'.cell? ⟨w.heap.size, 1, none⟩ = some (.slice a1 fl a2) ∧ w'.cell? ⟨w.heap.size, 2, none⟩ = some (.slice a3 tl a4) ∧ w'.cell? ⟨w.heap.size, 3, none⟩ = some (.int .u8 m))
    (first | with_reducible exact ⟨bs.c0, bs.c1, bs.c2, bs.c3⟩ | with_reducible exact ⟨by2.c0, by2.c1, by2.c2, by2.c3⟩ | with_reducible exact ⟨bx2.c0, bx2.c1, bx2.c2, bx2.c3⟩ | with_reducible exact ⟨bx.c0, bx.c1, bx.c2, bx.c3⟩)
    (first
      | (go_at_call 23; refine (cut_any _ _ f 80 r1 (by decide)).mono ?_; rintro e wx ⟨x, rfl, ox, hbx⟩; obtain ⟨gx, kx, hx⟩ := ox.rd.len; rw [HFL.out.1] at hx; subst hx; have bx2 := bx.below hbx (Nat.le_refl _); clear r1)
      | (go_at_call 23; refine (cut_any _ _ t 80 (r2.below hbx (Nat.le_refl _)) (by decide)).mono ?_; rintro e wy ⟨y, rfl, oy, hby⟩; obtain ⟨gy, ky, hy⟩ := oy.rd.len; rw [HFL.out.2] at hy; subst hy; have by2 := bx2.below hby (Nat.le_refl _)
         have HBY : Hid (Below w.heap.size w wy) := bsplit (bsplit HB0.out.drew hbx) hby
         have hsz : ((w.alloc (.cells #[.int .u64 n, .slice a1 fl a2, .slice a3 tl a4, .int .u8 m] 32)).alloc (.cells #[.int .u64 0, .slice none 0 0, .slice none 0 0, .int .u8 0] 32)).drew.heap.size = w.heap.size + 2 := by simp
         have HOX : Hid (OwnN (w.heap.size + 2) wy (.slice gx fm kx) (f.take 80)) := (show OwnN _ _ _ _ from .inr (ox.below hby (Nat.le_refl _))).mono (by rw [hsz]; exact Nat.le_refl _)
         have HOY : Hid (OwnN (w.heap.size + 2) wy (.slice gy tm ky) (t.take 80)) := (show OwnN _ _ _ _ from .inr oy).mono (by have h8 := hbx.size; rw [hsz] at h8; exact h8)
         have bs := by2.stored (w.heap.size + 1) (by omega) (.int .u64 n) (.slice gx fm kx) (.slice gy tm ky) (.int .u8 m)
         obtain ⟨⟨c0, c1, c2, c3⟩, f0, f1, f2, f3⟩ := ((BF.out.below (Below.refl _ _).drew (Nat.le_refl _)).below hbx (Nat.le_refl _)).below hby (Nat.le_refl _))
      | fail)
  go_wp2
  refine bodyPost_ret (v := lkV n (.slice gx fm kx) (.slice gy tm ky) m) (by simp [results, Try.results11, go_sem, c0, c1, c2, c3, lkV]) rfl ⟨_, _, rfl, ?_, ?_, below_store4 HBY.out (Nat.le_succ _) _ _ _ _⟩
  · exact ownN_stored4 (HOX.out.mono (by omega)) (fun g hg => by have := (ownN_lt9 HOX.out g hg).1; omega) _ _ _ _
  · exact ownN_stored4 (HOY.out.mono (by omega)) (fun g hg => by have := (ownN_lt9 HOY.out g hg).1; omega) _ _ _ _

end Go.Proofs.Ytnnedoohppobpaa

/- What a law of locks is told of calls that came in. -/
namespace Go.Proofs.Ytnnedoohppobpaa
open Go.ChangeShapes Go.WideShapes Go.ChangeAt Go.RowKit
set_option linter.unusedVariables false
set_option maxRecDepth 20000

structure LOp where
  dop : UInt8
  n : Nat
  f : List UInt8
  t : List UInt8
  m : UInt8
  u : Nat

structure LOpAt (w : World) (b off : Nat) (o : LOp) (x y : Value) : Prop where
  c0 : w.cell? ⟨b, off, none⟩ = some (.int .u8 (o.dop.toNat : Int))
  c1 : w.cell? ⟨b, off + 1, none⟩ = some (.int .u64 (o.n : Int))
  c2 : w.cell? ⟨b, off + 2, none⟩ = some x
  c3 : w.cell? ⟨b, off + 3, none⟩ = some y
  c4 : w.cell? ⟨b, off + 4, none⟩ = some (.int .u8 (o.m.toNat : Int))
  c5 : w.cell? ⟨b, off + 5, none⟩ = some (.int .u64 (o.u : Int))
  ax : Arg w x o.f
  ay : Arg w y o.t
  hn : o.n < 18446744073709551616
  hu : o.u < 18446744073709551616

def ArgLO (w : World) (v : Value) (os : List LOp) : Prop :=
  ∃ a cap, v = .slice a os.length cap ∧ os.length ≤ cap ∧ cap ≤ 9223372036854775807 ∧ ∀ j (hj : j < os.length), ∃ b off, a = some ⟨b, off, none⟩ ∧ ∃ x y, LOpAt w b (off + j * 6) os[j] x y

theorem cell_belowLO {B : Nat} {w w' : World} {p : Addr} {v : Value} (hb : Below B w w') (hB : w.heap.size ≤ B) (h : w.cell? p = some v) : w'.cell? p = some v :=
  (hb.cell (Nat.lt_of_lt_of_le (World.block_lt_of_cell? w _ h) hB)).trans h

theorem LOpAt.below {B : Nat} {w w' : World} {b off : Nat} {o : LOp} {x y : Value} (h : LOpAt w b off o x y) (hb : Below B w w') (hB : w.heap.size ≤ B) : LOpAt w' b off o x y :=
  ⟨cell_belowLO hb hB h.c0, cell_belowLO hb hB h.c1, cell_belowLO hb hB h.c2, cell_belowLO hb hB h.c3, cell_belowLO hb hB h.c4, cell_belowLO hb hB h.c5, h.ax.below hb hB, h.ay.below hb hB, h.hn, h.hu⟩

theorem ArgLO.below {B : Nat} {w w' : World} {v : Value} {os : List LOp} (h : ArgLO w v os) (hb : Below B w w') (hB : w.heap.size ≤ B) : ArgLO w' v os := by
  obtain ⟨a, cap, e, h1, h2, h3⟩ := h
  refine ⟨a, cap, e, h1, h2, fun j hj => ?_⟩
  obtain ⟨b, off, e2, v1, v3, h4⟩ := h3 j hj
  exact ⟨b, off, e2, v1, v3, h4.below hb hB⟩

theorem lop_of {H : Type} {enc : TypeId × Value → H} {w : World} {n : Nat} {v0 v1 v2 v3 v4 v5 : Value} {y : DataW H × List MemPlace}
    (h : DataW.trod enc Try.prog w 0 (fun _ => true) true n 34 [v0, v1, v2, v3, v4, v5] = some y) :
    ∃ o : LOp, v0 = .int .u8 (o.dop.toNat : Int) ∧ v1 = .int .u64 (o.n : Int) ∧ Arg w v2 o.f ∧ Arg w v3 o.t ∧ v4 = .int .u8 (o.m.toNat : Int) ∧ v5 = .int .u64 (o.u : Int) ∧ o.n < 18446744073709551616 ∧ o.u < 18446744073709551616 := by
  obtain ⟨y0, y1, y2, n', _, _, h0, h1, h2⟩ := Deep.trod_struct3 Try.underlying34 h
  have c5 : Try.prog.cellsOf 5 = 1 := by kernel_rfl
  have c8 : Try.prog.cellsOf 29 = 1 := by kernel_rfl
  have cl : Try.prog.cellsOf 32 = 4 := by kernel_rfl
  have cb : Try.prog.cellsOf 30 = 1 := by kernel_rfl
  simp only [c5, c8, cl] at h0 h1 h2
  simp at h0 h1 h2
  obtain ⟨k, e0, _, wk⟩ := DataW.trod_int Try.underlying5 h0
  obtain ⟨s, e2, _, ws⟩ := DataW.trod_int Try.underlying29 h2
  obtain ⟨z0, z1, z2, z3, n2, _, _, g0, g1, g2, g3⟩ := Joins.trod_struct4 Try.underlying32 h1
  simp only [c5, c8, cb] at g0 g1 g2 g3
  simp at g0 g1 g2 g3
  obtain ⟨p, e1, _, wp⟩ := DataW.trod_int Try.underlying29 g0
  obtain ⟨a1, l1, q1, x1, rfl, r1⟩ := row_of_trod g1
  obtain ⟨a2, l2, q2, x2, rfl, r2⟩ := row_of_trod g2
  obtain ⟨q, e3, _, wq⟩ := DataW.trod_int Try.underlying5 g3
  simp at e0 e1 e2 e3
  subst e0 e1 e2 e3
  have hp := bounds_u64 wp
  have hs := bounds_u64 ws
  refine ⟨⟨UInt8.ofNat k.toNat, p.toNat, _, _, UInt8.ofNat q.toNat, s.toNat⟩, ?_, ?_, arg_of r1, arg_of r2, ?_, ?_, by show p.toNat < _; omega, by show s.toNat < _; omega⟩
  · exact congrArg (Value.int .u8) (byte_of9 wk)
  · rw [show ((p.toNat : Nat) : Int) = p by omega]
  · exact congrArg (Value.int .u8) (byte_of9 wq)
  · rw [show ((s.toNat : Nat) : Int) = s by omega]

theorem lopsArg_of {H : Type} {enc : TypeId × Value → H} {w : World} {a : Option Addr} {len cap : Nat} {d : DataW H} {ps : List MemPlace}
    (h : DataW.Trod enc Try.prog w 0 (fun _ => true) true 22 (.slice a len cap) d ps) : ∃ os, ArgLO w (.slice a len cap) os := by
  obtain ⟨fuel, hf⟩ := h
  rcases Deep.open_slice Try.underlying22 hf with ⟨hcs, _⟩ | ⟨x, len', cap', m, n, D, Pl, hcs, _, hl, hm, hmm, _, hall⟩
  · simp [Value.cells] at hcs
    obtain ⟨rfl, rfl, rfl⟩ := hcs
    exact ⟨[], none, 0, rfl, by simp, by omega, fun j hj => by simp at hj⟩
  · simp [Value.cells] at hcs
    obtain ⟨rfl, rfl, rfl⟩ := hcs
    simp only [if_true] at hmm
    subst hmm
    have c6 : Try.prog.cellsOf 34 = 6 := by kernel_rfl
    rw [c6] at hall
    have hsp : 0 < len → x.spot = none := by
      intro h0
      obtain ⟨cs', h1, _⟩ := hall 0 (by omega)
      obtain ⟨_, hlen, hcell⟩ := World.cells?_some h1
      match cs', hlen with
      | [v0, v1, v2, v3, v4, v5], _ =>
        have k0 : w.cell? ((x.add (0 * 6)).add 0) = some v0 := hcell 0 (by decide)
        simpa [Addr.add] using World.cell?_spot k0
    have hex : ∀ i, i < len → ∃ o : LOp, ∃ b off, x = ⟨b, off, none⟩ ∧ ∃ x y, LOpAt w b (off + i * 6) o x y := by
      intro i hi
      obtain ⟨cs', h1, h2⟩ := hall i (by omega)
      obtain ⟨_, hlen, hcell⟩ := World.cells?_some h1
      match cs', hlen with
      | [v0, v1, v2, v3, v4, v5], _ =>
        obtain ⟨o, rfl, rfl, r2, r3, rfl, rfl, s1, s2⟩ := lop_of h2
        have k0 := hcell 0 (by decide)
        have k1 := hcell 1 (by decide)
        have k2 := hcell 2 (by decide)
        have k3 := hcell 3 (by decide)
        have k4 := hcell 4 (by decide)
        have k5 := hcell 5 (by decide)
        have hspot := hsp (by omega)
        obtain ⟨b, off, spot⟩ := x
        simp only at hspot
        subst hspot
        simp only [Addr.add_lit] at k0 k1 k2 k3 k4 k5
        exact ⟨o, b, off, rfl, v2, v3, k0, k1, k2, k3, k4, k5, r2, r3, s1, s2⟩
    have hI : Inhabited LOp := ⟨⟨0, 0, [], [], 0, 0⟩⟩
    obtain ⟨L, hL⟩ := Deep.choose_lt hex
    refine ⟨(List.range len).map L, some x, m, by simp, by simp; omega, by unfold maxLen at hm; omega, fun j hj => ?_⟩
    have hj' : j < len := by simpa using hj
    obtain ⟨b, off, rfl, v1, v3, hD⟩ := hL j hj'
    exact ⟨b, off, rfl, v1, v3, by simpa using hD⟩

end Go.Proofs.Ytnnedoohppobpaa

/- Boxes of six cells. -/
namespace Go.Proofs.Ytnnedoohppobpaa
set_option maxRecDepth 20000
open Go.RowKit Go.Maps
set_option linter.unusedVariables false

/-- six cells -/
structure BoxS6 (w : World) (b : Nat) (v0 v1 v2 v3 v4 v5 : Value) : Prop where
  c0 : w.cell? ⟨b, 0, none⟩ = some v0
  c1 : w.cell? ⟨b, 1, none⟩ = some v1
  c2 : w.cell? ⟨b, 2, none⟩ = some v2
  c3 : w.cell? ⟨b, 3, none⟩ = some v3
  c4 : w.cell? ⟨b, 4, none⟩ = some v4
  c5 : w.cell? ⟨b, 5, none⟩ = some v5

theorem BoxS6.new (w : World) (v0 v1 v2 v3 v4 v5 : Value) (t : TypeId) : BoxS6 (w.alloc (.cells #[v0, v1, v2, v3, v4, v5] t)) w.heap.size v0 v1 v2 v3 v4 v5 := by
  have h := heap_alloc_new w (.cells #[v0, v1, v2, v3, v4, v5] t)
  have c := fun i => cell_of_row (w.alloc (.cells #[v0, v1, v2, v3, v4, v5] t)) w.heap.size i _ t (0, 0) h
  exact ⟨by rw [c]; rfl, by rw [c]; rfl, by rw [c]; rfl, by rw [c]; rfl, by rw [c]; rfl, by rw [c]; rfl⟩

theorem BoxS6.lt {w : World} {b : Nat} {v0 v1 v2 v3 v4 v5 : Value} (h : BoxS6 w b v0 v1 v2 v3 v4 v5) : b < w.heap.size := World.block_lt_of_cell? w _ h.c0

theorem BoxS6.same {w w' : World} {b : Nat} {v0 v1 v2 v3 v4 v5 : Value} (h : BoxS6 w b v0 v1 v2 v3 v4 v5) (e : w'.heap[b]? = w.heap[b]?) : BoxS6 w' b v0 v1 v2 v3 v4 v5 := by
  obtain ⟨c0, c1, c2, c3, c4, c5⟩ := h
  exact ⟨by rw [← c0]; unfold World.cell?; rw [e], by rw [← c1]; unfold World.cell?; rw [e], by rw [← c2]; unfold World.cell?; rw [e], by rw [← c3]; unfold World.cell?; rw [e], by rw [← c4]; unfold World.cell?; rw [e], by rw [← c5]; unfold World.cell?; rw [e]⟩

theorem BoxS6.below {w w' : World} {b : Nat} {v0 v1 v2 v3 v4 v5 : Value} (h : BoxS6 w b v0 v1 v2 v3 v4 v5) (hb : Below w.heap.size w w') : BoxS6 w' b v0 v1 v2 v3 v4 v5 := h.same (hb.block b h.lt)
theorem BoxS6.drew {w : World} {b : Nat} {v0 v1 v2 v3 v4 v5 : Value} (h : BoxS6 w b v0 v1 v2 v3 v4 v5) : BoxS6 w.drew b v0 v1 v2 v3 v4 v5 := ⟨h.c0, h.c1, h.c2, h.c3, h.c4, h.c5⟩

theorem keeps_grownS {w w' : World} {m : Nat} (hg : w.grownBy w' (some m)) : Keeps (fun b => b = m) w w' :=
  ⟨hg.os, hg.tape, hg.output, hg.size, fun k hk hn => hg.block k hk (fun e => hn (Option.some.inj e))⟩

theorem notS9 {a b : Bool} (h : a = !b) : b = !a := by rw [h, Bool.not_not]

end Go.Proofs.Ytnnedoohppobpaa

/- LocksApart answers true. -/
namespace Go.Proofs.Ytnnedoohppobpaa
set_option maxRecDepth 100000
open Go.RowKit Go.Maps
set_option linter.unusedVariables false
set_option linter.unusedSimpArgs false

/-- where the script has come to -/
structure ApI (B mb : Nat) (w1 wr : World) (t j : Nat) : Prop where
  ex : ∃ n gs qs l, LkX B (fun b => b = mb) wr t 60 60 gs qs ∧ MapG wr mb n l ∧ AptI gs qs ∧ gs.length + qs.length ≤ 40 ∧ n ≤ 40 ∧ gs.length + qs.length ≤ j ∧ n ≤ j
  hb : Below B w1 wr
  mb : B ≤ mb ∧ mb < wr.heap.size

theorem ApI.step {mb t j n : Nat} {w1 wr wy w5 : World} {gs' : List Lk} {qs' : List Rq} {l : List Nat} {X : Nat → Prop} (h : Below w1.heap.size w1 wr) (hmb : w1.heap.size ≤ mb ∧ mb < wr.heap.size) (hy : Below wr.heap.size wr wy) (hX : X mb) (hk : Keeps (fun b => w1.heap.size ≤ b ∧ ¬ X b) wy w5)
    (hx : LkX w1.heap.size X w5 t 60 60 gs' qs') (hm : MapG wr mb n l) (ha : AptI gs' qs') (h1 : gs'.length + qs'.length ≤ 40) (h2 : n ≤ 40) (h3 : gs'.length + qs'.length ≤ j) (h4 : n ≤ j) : ApI w1.heap.size mb w1 w5 t j :=
  ⟨⟨n, gs', qs', l, hx.off (fun b hb => .inl (by rw [hb]; exact hX)), (hm.below hy).same (hk.block mb (Nat.lt_of_lt_of_le hmb.2 hy.size) (fun h9 => h9.2 hX)), ha, h1, h2, h3, h4⟩,
    (h.trans (hy.mono h.size)).trans (hk.below (fun i h9 => h9.1) (Nat.le_trans h.size hy.size)), hmb.1, Nat.lt_of_lt_of_le hmb.2 (Nat.le_trans hy.size hk.size)⟩

theorem wpList_append_anyL {P : Program} {w : World} {ops : Array Oper} {rest : List Oper} {o : Oper} {a : Act} {Q : Exit → Act → World → Prop} (hgd : o.guard = none) (s x : Operand) (t : TypeId)
    (ho : o.op = .call { callee := .builtin .append, args := #[s, x], argTypes := #[t, t] })
    (base : Nat) (e : TypeId) (i : TypeInfo) (z : Value) (size bytes : Nat) (ht : P.underlying t = some (.slice e)) (hi : P.info? e = some i) (hz : i.zero = some z)
    (hsize : i.size = size) (hby : i.bytes = bytes) (hzs : z.cells.size = size) (hsz : 0 < size)
    (v : Value) (n : Nat) (xs : List Value) (hs : a.eval s = v) (hown : w.ownsRow base e size v n xs)
    (vx : Value) (hx : a.eval x = vx) (m : Nat) (news : List Value) (hsrc : (vx = .slice none 0 0 ∧ m = 0 ∧ news = []) ∨ ∃ ad c, vx = .slice (some ad) m c ∧ news.length = m * size ∧ ∀ j u, news[j]? = some u → w.cell? (ad.add j) = some u) (h1 : ∀ u ∈ news, u.oneCell' = true)
    (h63 : n + m ≤ maxLen) (hbytes : (n + m) * bytes ≤ 140737488355328) (hbase : base ≤ w.heap.size)
    (h : ∀ v' w', w'.ownsRow base e size v' (n + m) (xs ++ news) → w.grownBy w' v.ownBlock → wpList P ops Q rest (a.put o.dst v') w') : wpList P ops Q (o :: rest) a w := by
  rcases hsrc with ⟨rfl, rfl, rfl⟩ | ⟨ad, c, rfl, hl, hnews⟩
  · refine wpList_append_own_none hgd s x t ho base e i size ht hi v n xs hs hown hx ?_
    exact h v w (by simpa using hown) ⟨rfl, rfl, rfl, Nat.le_refl _, fun _ _ _ => rfl⟩
  · exact wpList_append_own w hgd s x t ho base e i z size bytes ht hi hz hsize hby hzs hsz v n xs hs hown ad m c news hx hl hnews h1 h63 hbytes hbase fun v' w' h2 h3 h4 => h v' w' h2 h3

/-- a row of locks as a source -/
theorem srcL {B : Nat} {w : World} {v : Value} {ls : List Lk} (h : OwnL B w v ls) : (v = .slice none 0 0 ∧ ls.length = 0 ∧ ls.flatMap encL = []) ∨ ∃ ad c, v = .slice (some ad) ls.length c ∧ (ls.flatMap encL).length = ls.length * 4 ∧ ∀ j u, (ls.flatMap encL)[j]? = some u → w.cell? (ad.add j) = some u := by
  have h' := h
  unfold OwnL at h'
  rcases h'.2 with ⟨e, hn⟩ | ⟨g, cap, cur, e, _⟩
  · exact .inl ⟨e, hn, by rw [List.eq_nil_of_length_eq_zero hn]; rfl⟩
  · exact .inr ⟨⟨g, 0, none⟩, cap, e, flat_len encL 4 encL_len ls, World.ownsRow.cells h' (by rw [e]; rfl)⟩

/-- all locks that are granted to those that were seen -/
structure AllI (B : Nat) (w : World) (v : Value) (gs : List Lk) (ls : List Lk) : Prop where
  row : OwnL B w v ls
  ok : ∀ l ∈ ls, LkOk w l ∧ (∃ g ∈ gs, keyL l = keyL g) ∧ ∀ b, (l.x.ownBlock = some b ∨ l.y.ownBlock = some b) → B ≤ b

theorem AllI.below {B : Nat} {w w' : World} {v : Value} {gs ls : List Lk} (h : AllI B w v gs ls) (hb : Below w.heap.size w w') : AllI B w' v gs ls :=
  ⟨row_below h.row hb, fun l hl => ⟨(h.ok l hl).1.below hb, (h.ok l hl).2⟩⟩

theorem AllI.aside {B : Nat} {w w' : World} {v : Value} {gs ls : List Lk} {r : Nat} (h : AllI B w v gs ls) (hg : w.grownBy w' (some r)) (hr : r < B) : AllI B w' v gs ls :=
  ⟨row_same9 h.row (fun q hq => hg.block q (h.row.lt q hq).2 (fun e => by have := (h.row.lt q hq).1; cases e; omega)), fun l hl => ⟨(h.ok l hl).1.same (fun b hb => hg.block b (by
    rcases hb with hb | hb
    · exact (ownN_lt9 (h.ok l hl).1.1 b hb).2
    · exact (ownN_lt9 (h.ok l hl).1.2.1 b hb).2) (fun e => by have := (h.ok l hl).2.2 b hb; cases e; omega)), (h.ok l hl).2⟩⟩

theorem keyU_inv : ∀ (key : Value) (kl : Lit), keyOf Try.prog 29 key = some kl → ∃ x, key = Value.int .u64 x := by
  intro key kl h
  obtain ⟨x, e, _⟩ := Maps.keyOf_int_inv Try.underlying29 h
  exact ⟨x, e⟩

theorem boolU_inv : ∀ (v : Value) (y : DataW Unit × List MemPlace), plainElem Try.prog 4 v = some y → ∃ c, v = Value.bool c := by
  intro v y h
  obtain ⟨b, e, _⟩ := plainElem_boolU_inv Try.underlying4 h
  exact ⟨b, e⟩

set_option maxHeartbeats 2000000 in
theorem lapart (v : Value) (os : List LOp) (w : World) (hv : ArgLO w v os) :
    Calls Try.prog 3 #[v] w fun e w' => e = .returned (.bool true) ∧ Below w.heap.size w w' := by
  have HV : Hid (ArgLO w v os) := hv
  obtain ⟨va, vc, rfl, hlc, hcm, _⟩ := hv
  obtain ⟨N, hN⟩ : ∃ N, os.length = N := ⟨_, rfl⟩
  have HN : Hid (os.length = N) := hN
  rw [hN] at HV hlc ⊢
  clear hN
  go_enter Try.func3, Try.ntmps3
  have hw := lkawake_any w
  go_wp2_with fail
  refine hw.mono ?_
  rintro e w1 ⟨rfl, hb1⟩
  have HB1 : Hid (Below w.heap.size w w1) := hb1
  clear hw hb1
  have hnw := lknew_any w1 60 60 (by decide) (by decide) (by decide) (by decide)
  go_wp2_with fail
  refine hnw.mono ?_
  rintro e w2 ⟨t, rfl, hp2, ht, hs2, hb2⟩
  have HT : Hid (LkX w1.heap.size (fun b => b = w2.heap.size) w2 t 60 60 [] [] ∧ Below w1.heap.size w1 w2) := ⟨⟨hb2.size, _, hp2, fun b hb => ⟨by rw [hb, ht]; exact Nat.le_refl _, fun h9 => by omega⟩⟩, hb2⟩
  clear hnw hp2 ht hs2 hb2
  have hmk : ∀ w : World, (Instr.makeMap 28 none).run Try.prog w = .ok (.map (some w.heap.size)) (w.alloc (.map #[] 0)) := fun w => run_makeMap _ w
  go_wp2_with fail
  have HI0 : Hid (ApI w1.heap.size w2.heap.size w1 (w2.alloc (.map #[] 0)) t 0) := by
    have hba := below_box4 w2 (.map #[] 0)
    exact ⟨⟨0, [], [], [], HT.out.1.below hba, MapG.made w2, ⟨fun g hg => absurd hg (by simp), fun g hg => absurd hg (by simp), fun g hg => absurd hg (by simp)⟩, by simp, by simp, by simp, by simp⟩, HT.out.2.trans (hba.mono HT.out.2.size), HT.out.2.size, by simp⟩
  obtain ⟨mb, hmb⟩ : ∃ mb, w2.heap.size = mb := ⟨_, rfl⟩
  rw [hmb] at HI0 ⊢
  generalize w2.alloc (.map #[] 0) = w3 at HI0 ⊢
  clear HT hmb
  go_loopg [22] N (fun gk iv wr => ∃ j : Nat, gk + j = N ∧ iv = .int .i64 (j : Int) ∧ Hid (ApI w1.heap.size mb w1 wr t j))
  case atStart => exact ⟨0, by omega, rfl, HI0.out⟩
  case round =>
    obtain ⟨j, hj, rfl, HI⟩ := hrel
    by_cases hlt : j < N
    · have hlt2 : j < os.length := by rw [HN.out]; exact hlt
      obtain ⟨q1, q2⟩ := gk_nxt hj hlt
      obtain ⟨a9, c9, e9, _, _, hat9⟩ := (HV.out.below HB1.out (Nat.le_refl _)).below HI.out.hb (Nat.le_refl _)
      obtain ⟨ab, ao, ea, x0, y0, hop⟩ := hat9 j hlt2
      rw [ea] at e9
      cases e9
      obtain ⟨o, ho⟩ : ∃ o, os[j] = o := ⟨_, rfl⟩
      rw [ho] at hop
      obtain ⟨c0, c1, c2, c3, c4, c5, ax, ay, hon, hou⟩ := hop
      obtain ⟨x1, x2, ex⟩ := ax.shape
      obtain ⟨y1, y2, ey⟩ := ay.shape
      have HO : Hid (Arg wr x0 o.f ∧ Arg wr y0 o.t ∧ o.n < 18446744073709551616 ∧ o.u < 18446744073709551616) := ⟨ax, ay, hon, hou⟩
      subst ex ey
      obtain ⟨d0, hd0⟩ : ∃ z : Int, (o.dop.toNat : Int) = z := ⟨_, rfl⟩
      rw [hd0] at c0
      clear hat9 ax ay hon hou ho hd0
      have BX := BoxS6.new wr (.int .u8 d0) (.int .u64 (o.n : Int)) (.slice x1 o.f.length x2) (.slice y1 o.t.length y2) (.int .u8 (o.m.toNat : Int)) (.int .u64 (o.u : Int)) 34
      have hba := below_box4 wr (.cells #[.int .u8 d0, .int .u64 (o.n : Int), .slice x1 o.f.length x2, .slice y1 o.t.length y2, .int .u8 (o.m.toNat : Int), .int .u64 (o.u : Int)] 34)
      have HBX : Hid (BoxS6 (wr.alloc (.cells #[.int .u8 d0, .int .u64 (o.n : Int), .slice x1 o.f.length x2, .slice y1 o.t.length y2, .int .u8 (o.m.toNat : Int), .int .u64 (o.u : Int)] 34)) wr.heap.size (.int .u8 d0) (.int .u64 (o.n : Int)) (.slice x1 o.f.length x2) (.slice y1 o.t.length y2) (.int .u8 (o.m.toNat : Int)) (.int .u64 (o.u : Int))) := BX
      have HBA : Hid (Below wr.heap.size wr (wr.alloc (.cells #[.int .u8 d0, .int .u64 (o.n : Int), .slice x1 o.f.length x2, .slice y1 o.t.length y2, .int .u8 (o.m.toNat : Int), .int .u64 (o.u : Int)] 34))) := hba
      obtain ⟨o1, o2, o3, o4, o5, o6⟩ := BX
      by_cases h40 : j < 40
      · have h40i : ¬ (40 : Int) ≤ (j : Int) := by omega
        have hfew := few_any (wr.alloc (.cells #[.int .u8 d0, .int .u64 (o.n : Int), .slice x1 o.f.length x2, .slice y1 o.t.length y2, .int .u8 (o.m.toNat : Int), .int .u64 (o.u : Int)] 34)) _ _ o.f o.t (o.n : Int) (o.m.toNat : Int) (HO.out.1.below hba (Nat.le_refl _)) (HO.out.2.1.below hba (Nat.le_refl _))
        unfold lkV at hfew
        clear hba
        go_wp2_with fail
        refine Calls.mono hfew ?_
        rintro e wx ⟨x', y', rfl, ox, oy, hbx⟩
        obtain ⟨g1, k1, eg1⟩ := ox.rd.len
        obtain ⟨g2, k2, eg2⟩ := oy.rd.len
        obtain ⟨m1, hm1⟩ : ∃ z, (o.f.take 80).length = z := ⟨_, rfl⟩
        obtain ⟨m2, hm2⟩ : ∃ z, (o.t.take 80).length = z := ⟨_, rfl⟩
        rw [hm1] at eg1
        rw [hm2] at eg2
        subst eg1 eg2
        have HBx : Hid (Below wr.heap.size wr wx) := bsplit HBA.out hbx
        have hbl := below_box4 wx (.cells #[.int .u64 (o.n : Int), .slice g1 m1 k1, .slice g2 m2 k2, .int .u8 (o.m.toNat : Int)] 32)
        have bl := box4_new wx (.int .u64 (o.n : Int)) (.slice g1 m1 k1) (.slice g2 m2 k2) (.int .u8 (o.m.toNat : Int)) 32
        have b6 := (HBX.out.below hbx).below hbl
        obtain ⟨z0, z1, z2, z3⟩ := bl
        obtain ⟨r1, r2, r3, r4, r5, r6⟩ := b6
        clear hfew
        obtain ⟨n, gs, qs, l, hx0, hm0, ha0, hl1, hl2, hl3, hl4⟩ := HI.out.ex
        have HS : Hid (LkX w1.heap.size (fun b => b = mb) wr t 60 60 gs qs ∧ MapG wr mb n l ∧ AptI gs qs ∧ gs.length + qs.length ≤ 40 ∧ n ≤ 40 ∧ gs.length + qs.length ≤ j ∧ n ≤ j) := ⟨hx0, hm0, ha0, hl1, hl2, hl3, hl4⟩
        have HBy : Hid (Below wr.heap.size wr (wx.alloc (.cells #[.int .u64 (o.n : Int), .slice g1 m1 k1, .slice g2 m2 k2, .int .u8 (o.m.toNat : Int)] 32))) := bsplit HBx.out hbl
        have HRD : Hid (Rd (wx.alloc (.cells #[.int .u64 (o.n : Int), .slice g1 m1 k1, .slice g2 m2 k2, .int .u8 (o.m.toNat : Int)] 32)) (.slice g1 m1 k1) (o.f.take 80) ∧ Rd (wx.alloc (.cells #[.int .u64 (o.n : Int), .slice g1 m1 k1, .slice g2 m2 k2, .int .u8 (o.m.toNat : Int)] 32)) (.slice g2 m2 k2) (o.t.take 80) ∧ wr.heap.size ≤ wx.heap.size) := ⟨ox.rd.below hbl (Nat.le_refl _), oy.rd.below hbl (Nat.le_refl _), HBx.out.size⟩
        clear hx0 hm0 ha0 hl1 hl2 hl3 hl4 ox oy hbx hbl hm1 hm2
        go_upto_block 2 with fail
        go_cut [] from 34 to 59 (fun wy => Hid (ApI w1.heap.size mb w1 wy t (j + 1)))
        case first =>
          by_cases h6 : d0 = 6
          · subst h6
            have hcl := relx_any w1.heap.size (fun b => b = mb) _ t 60 60 gs qs o.n (HS.out.1.below HBy.out) (fun b hb => by have h1 := HI.out.mb.2; have h2 := HBy.out.size; omega) (by have := HS.out.2.2.2; omega)
            go_wp2_with fail
            refine Calls.mono hcl ?_
            rintro e w5 ⟨v5, rfl, hv5, hk5, hx5⟩
            obtain ⟨a5, c5, ev5, _⟩ := row_slice9 hv5
            subst ev5
            clear hv5
            have HR5 : Hid (ApI w1.heap.size mb w1 w5 t (j + 1)) := ApI.step (X := fun b => b = mb) HI.out.hb HI.out.mb HBy.out rfl hk5 hx5 HS.out.2.1 (HS.out.2.2.1.sub (fun g hg => (List.mem_filter.1 hg).1) (fun g hg => (List.mem_filter.1 hg).1)) (by have h9 := (show (advB (lvB qs o.n) (rlB gs o.n) [] []).1.length + (advB (lvB qs o.n) (rlB gs o.n) [] []).2.1.length ≤ gs.length + qs.length by rw [adv_len]; exact Nat.add_le_add (List.length_filter_le _ _) (List.length_filter_le _ _)); have h8 := HS.out.2.2.2; omega) HS.out.2.2.2.2.1 (by have h9 := (show (advB (lvB qs o.n) (rlB gs o.n) [] []).1.length + (advB (lvB qs o.n) (rlB gs o.n) [] []).2.1.length ≤ gs.length + qs.length by rw [adv_len]; exact Nat.add_le_add (List.length_filter_le _ _) (List.length_filter_le _ _)); have h8 := HS.out.2.2.2; omega) (by have h8 := HS.out.2.2.2; omega)
            clear hcl hk5 hx5
            go_wp2_with fail
            go_meet
            exact HR5.out
          · have h6' : (d0 == 6) = false := by simpa using h6
            by_cases h7 : d0 = 7
            · subst h7
              have hcl := leavex_any w1.heap.size (fun b => b = mb) _ t 60 60 gs qs o.n (HS.out.1.below HBy.out) (fun b hb => by have h1 := HI.out.mb.2; have h2 := HBy.out.size; omega) (by have := HS.out.2.2.2; omega)
              go_wp2_with fail
              refine Calls.mono hcl ?_
              rintro e w5 ⟨v5, rfl, hv5, hk5, hx5⟩
              obtain ⟨a5, c5, ev5, _⟩ := row_slice9 hv5
              subst ev5
              clear hv5
              have HR5 : Hid (ApI w1.heap.size mb w1 w5 t (j + 1)) := ApI.step (X := fun b => b = mb) HI.out.hb HI.out.mb HBy.out rfl hk5 hx5 HS.out.2.1 (HS.out.2.2.1.sub (fun g hg => hg) (fun g hg => (List.mem_filter.1 hg).1)) (by have h9 := (show (advB (lvB qs o.n) gs [] []).1.length + (advB (lvB qs o.n) gs [] []).2.1.length ≤ gs.length + qs.length by rw [adv_len]; exact Nat.add_le_add_left (List.length_filter_le _ _) _); have h8 := HS.out.2.2.2; omega) HS.out.2.2.2.2.1 (by have h9 := (show (advB (lvB qs o.n) gs [] []).1.length + (advB (lvB qs o.n) gs [] []).2.1.length ≤ gs.length + qs.length by rw [adv_len]; exact Nat.add_le_add_left (List.length_filter_le _ _) _); have h8 := HS.out.2.2.2; omega) (by have h8 := HS.out.2.2.2; omega)
              clear hcl hk5 hx5
              go_wp2_with fail
              go_meet
              exact HR5.out
            · have h7' : (d0 == 7) = false := by simpa using h7
              by_cases h8 : d0 = 8
              · subst h8
                have hcl := tickx_any w1.heap.size (fun b => b = mb) _ t 60 60 gs qs o.u (HS.out.1.below HBy.out) (fun b hb => by have h1 := HI.out.mb.2; have h2 := HBy.out.size; omega) (by have := HS.out.2.2.2; omega)
                go_wp2_with fail
                refine Calls.mono hcl ?_
                rintro e w5 ⟨v5, v6, rfl, hv5, hv6, hk5, hx5⟩
                obtain ⟨a5, c5, ev5, _⟩ := row_slice9 hv5
                obtain ⟨a6, c6, ev6, _⟩ := row_slice9 hv6
                subst ev5 ev6
                clear hv5 hv6
                have HR5 : Hid (ApI w1.heap.size mb w1 w5 t (j + 1)) := ApI.step (X := fun b => b = mb) HI.out.hb HI.out.mb HBy.out rfl hk5 hx5 HS.out.2.1 (HS.out.2.2.1.sub (fun g hg => hg) (fun g hg => (List.mem_filter.1 hg).1)) (by have h9 := (show (advB (restB qs o.u) gs [] []).1.length + (advB (restB qs o.u) gs [] []).2.1.length ≤ gs.length + qs.length by rw [adv_len]; exact Nat.add_le_add_left (List.length_filter_le _ _) _); have h8 := HS.out.2.2.2; omega) HS.out.2.2.2.2.1 (by have h9 := (show (advB (restB qs o.u) gs [] []).1.length + (advB (restB qs o.u) gs [] []).2.1.length ≤ gs.length + qs.length by rw [adv_len]; exact Nat.add_le_add_left (List.length_filter_le _ _) _); have h8 := HS.out.2.2.2; omega) (by have h8 := HS.out.2.2.2; omega)
                clear hcl hk5 hx5
                go_wp2_with fail
                go_meet
                exact HR5.out
              · have h8' : (d0 == 8) = false := by simpa using h8
                clear h6 h7 h8
                have hXl : ∀ b, b = mb ∨ b = wx.heap.size → b < (wx.alloc (.cells #[.int .u64 (o.n : Int), .slice g1 m1 k1, .slice g2 m2 k2, .int .u8 (o.m.toNat : Int)] 32)).heap.size := by
                  intro b hb
                  have h1 := HI.out.mb.2
                  have h2 := HRD.out.2.2
                  have h3 : wx.heap.size < (wx.alloc (.cells #[.int .u64 (o.n : Int), .slice g1 m1 k1, .slice g2 m2 k2, .int .u8 (o.m.toNat : Int)] 32)).heap.size := by simp
                  omega
                have hcl := askx_any w1.heap.size (fun b => b = mb ∨ b = wx.heap.size) _ t 60 60 gs qs o.n o.m (.slice g1 m1 k1) (.slice g2 m2 k2) (o.f.take 80) (o.t.take 80) o.u ((HS.out.1.off (fun b hb => hb.elim .inl (fun h9 => .inr (by rw [h9]; exact HRD.out.2.2)))).below HBy.out) hXl (by have := HS.out.2.2.2; omega) HRD.out.1 HRD.out.2.1 HO.out.2.2.1 HO.out.2.2.2
                unfold lkV at hcl
                clear hXl
                go_wp2_with fail
                refine Calls.mono hcl ?_
                rintro e w5 ⟨x2', y2', rfl, hk5, hx5⟩
                have hAk := HS.out.2.2.1.ask (mo := 60) (ea := 60) ⟨o.n, o.f.take 80, o.t.take 80, o.m, .slice g1 m1 k1, .slice g2 m2 k2⟩ ⟨o.n, o.f.take 80, o.t.take 80, o.m, x2', y2'⟩ o.u rfl (fun g => rfl)
                obtain ⟨A, hA⟩ : ∃ A, askB 60 60 gs qs ⟨o.n, o.f.take 80, o.t.take 80, o.m, .slice g1 m1 k1, .slice g2 m2 k2⟩ ⟨o.n, o.f.take 80, o.t.take 80, o.m, x2', y2'⟩ o.u = A := ⟨_, rfl⟩
                rw [hA] at hAk hx5 ⊢
                obtain ⟨c, gs', qs'⟩ := A
                have HAk : Hid (AptI gs' qs' ∧ gs'.length + qs'.length ≤ gs.length + qs.length + 1) := hAk
                have HR5 : Hid (ApI w1.heap.size mb w1 w5 t (j + 1) ∧ MapG w5 mb n l ∧ LkX w1.heap.size (fun b => b = mb ∨ b = wx.heap.size) w5 t 60 60 gs' qs') := by
                  have h9 := HAk.out.2
                  have h8 := HS.out.2.2.2
                  exact ⟨ApI.step (X := fun b => b = mb ∨ b = wx.heap.size) HI.out.hb HI.out.mb HBy.out (.inl rfl) hk5 hx5 HS.out.2.1 HAk.out.1 (by omega) (by omega) (by omega) (by omega), (HS.out.2.1.below HBy.out).same (hk5.block mb (Nat.lt_of_lt_of_le HI.out.mb.2 HBy.out.size) (fun h9 => h9.2 (.inl rfl))), hx5⟩
                have z0' : w5.cell? ⟨wx.heap.size, 0, none⟩ = some (.int .u64 (o.n : Int)) := (World.cell?_of_block (a := ⟨wx.heap.size, 0, none⟩) (hk5.block wx.heap.size (World.block_lt_of_cell? _ _ z0) (fun h9 => h9.2 (.inr rfl)))).trans z0
                obtain ⟨D, hm, hat⟩ := HR5.out.2.1
                have HD : Hid (∀ k, k < 18446744073709551616 → D.atKey (litU k) (.lit (.bool false)) = .lit (.bool (decide (k ∈ l)))) := hat
                have HM : Hid (w5.ownsMap Try.prog 29 (plainElem Try.prog 4) mb n D) := hm
                clear hcl hAk hA hk5 hx5 hat
                go_wp2_with (first
                  | (at_mapUpdate
                     refine wpList_mapUpdate_own _ rfl _ _ _ 28 rfl 29 4 (int_keyed Try.underlying29) Try.underlying28 _ mb n D rfl hm (by have := HS.out.2.2.2; unfold maxLen; omega) _ _ _ rfl rfl (keyU HO.out.2.2.1) (.lit (.bool true)) [] (plainElem_bool Try.underlying4 true) ?_
                     intro w6 hown6 hgrow6
                     have HR6 : Hid (ApI w1.heap.size mb w1 w6 t (j + 1)) := by
                       have h9 := HAk.out.2
                       have h8 := HS.out.2.2.2
                       have hk6 := keeps_grownS hgrow6
                       exact ⟨⟨n + 1, gs', qs', l ++ [o.n], (HR5.out.2.2.off (fun b hb => .inl (.inl hb))).keeps hk6 (fun b hb => hb), MapG.put HM.out HD.out hown6, HAk.out.1, by omega, by omega, by omega, by omega⟩, HR5.out.1.hb.trans (hk6.below (fun i e => by rw [e]; exact HI.out.mb.1) HR5.out.1.hb.size), HI.out.mb.1, Nat.lt_of_lt_of_le HR5.out.1.mb.2 hk6.size⟩
                     clear hm hown6 hgrow6)
                  | fail)
                go_meet
                exact HR6.out
        case rest =>
          obtain ⟨i0, hi, hz0, hz1, hz2⟩ := info_parts infoLk
          have HC : Hid (ApI w1.heap.size mb w1 wc t (j + 1)) := hcut.out
          obtain ⟨n, gs, qs, l, hx0, hm0, ha0, hl1, hl2, _, _⟩ := hcut.out.ex
          have HS : Hid (LkX w1.heap.size (fun b => b = mb) wc t 60 60 gs qs ∧ AptI gs qs ∧ gs.length + qs.length ≤ 40 ∧ n ≤ 40) := ⟨hx0, ha0, hl1, hl2⟩
          obtain ⟨D, hmp, _⟩ := hm0
          have hsz : Maps.size D ≤ n := World.ownsMap.size_le hmp
          have HSZ : Hid (Maps.size D ≤ 40) := by show _ ≤ _; omega
          clear hcut hx0 ha0 hl1 hl2 hsz HI HBX HBA HBx
          go_wp2_with (at_range; refine wpList_range_own _ rfl _ 28 rfl 29 4 (int_keyed Try.underlying29) Try.underlying28 (plainElem Try.prog 4) mb n D rfl hmp ?_; intro w0 hrg0 hg0 hs0)
          go_frame
          have HG0 : Hid (Below wc.heap.size wc w0 ∧ w0.heap.size = wc.heap.size + 1) := ⟨(Below.refl _ _).grown hg0 (Nat.le_refl _) (fun k e => by cases e), hs0⟩
          clear hg0 hs0 hmp
          obtain ⟨G0, hG0⟩ : ∃ G, gk - 1 = G := ⟨_, rfl⟩
          rw [hG0] at q1 q2
          obtain ⟨G00, hG00⟩ : ∃ G, gk = G := ⟨_, rfl⟩
          rw [hG00] at q1
          go_loopg [9] (Maps.size D) (fun gk av wr => ∃ left, wr.ranges Try.prog 29 (plainElem Try.prog 4) mb wc.heap.size n D left gk ∧ ∃ (na ca : Nat) (aa : Option Addr), av = .slice aa na ca ∧ na + 40 * gk ≤ 1600 ∧ Hid (Below wc.heap.size wc wr ∧ wc.heap.size + 1 ≤ wr.heap.size ∧ ∃ ls, ls.length = na ∧ AllI (wc.heap.size + 1) wr av gs ls))
          case atStart =>
            exact ⟨_, hrg0, 0, 0, none, rfl, by have := HSZ.out; omega, HG0.out.1, by rw [HG0.out.2]; exact Nat.le_refl _, [], rfl, World.ownsRow_nil _ _ _ _, fun l hl => absurd hl (by simp)⟩
          case round =>
            obtain ⟨left, hrg, na, ca, aa, rfl, hna, HAL⟩ := hrel
            have hrlt := hrg.lt
            go_wp2_with (at_next; refine wpList_next_ranges _ rfl _ rfl 29 (int_keyed Try.underlying29) (plainElem Try.prog 4) (Value.int .u64) Value.bool keyU_inv boolU_inv mb wc.heap.size n D left gk rfl hrg ?_ ?_; intro hc0 hl0; rotate_left; intro x c kl y wn cnt1 hkey hlk hv hat hrg1 hlt9 hg1 hs1 hen; rotate_left)
            · obtain ⟨hbw, hsw, ls, hls, hal⟩ := HAL.out
              have HAL2 : Hid (Below wc.heap.size wc wr ∧ ls.length = na ∧ AllI (wc.heap.size + 1) wr (.slice aa na ca) gs ls) := ⟨hbw, hls, hal⟩
              have hna2 : na ≤ 1600 := by omega
              clear hbw hsw hls hal HAL hna hc0 hl0 hrg hrlt
              obtain ⟨wz, hwz⟩ : ∃ x, x = wr := ⟨_, rfl⟩
              subst hwz
              go_loopg [73] na (fun gk iv wr => ∃ p : Nat, gk + p = na ∧ iv = .int .i64 (p : Int) ∧ Hid (Below wz.heap.size wz wr))
              case atStart => exact ⟨0, by omega, rfl, Below.refl _ _⟩
              case round =>
                obtain ⟨p, hp, rfl, HP⟩ := hrel
                by_cases hltp : p < na
                · obtain ⟨r1, r2⟩ := gk_nxt hp hltp
                  obtain ⟨H0, hH0⟩ : ∃ G, gk - 1 = G := ⟨_, rfl⟩
                  rw [hH0] at r1 r2
                  obtain ⟨H00, hH00⟩ : ∃ G, gk = G := ⟨_, rfl⟩
                  rw [hH00] at r1
                  go_wp2_with fail
                  try rw [show decide ((p : Int) < (na : Int)) = true from decide_eq_true (by omega)]
                  go_loopg [77] p (fun gk iv wr => ∃ q : Nat, gk + q = p ∧ iv = .int .i64 (q : Int) ∧ Hid (Below wz.heap.size wz wr))
                  case atStart => exact ⟨0, by omega, rfl, HP.out⟩
                  case round =>
                    obtain ⟨q, hq, rfl, HQ⟩ := hrel
                    by_cases hltq : q < p
                    · obtain ⟨s1, s2⟩ := gk_nxt hq hltq
                      have hpl : p < ls.length := by rw [HAL2.out.2.1]; exact hltp
                      have hql : q < ls.length := by omega
                      have hal := HAL2.out.2.2.below HQ.out
                      obtain ⟨b1, c9, e9, _, u0, u1, u2', u3⟩ := (OwnL.rd hal.row).at p hpl
                      obtain ⟨b2, c8, e8, _, v0, v1, v2, v3⟩ := (OwnL.rd hal.row).at q hql
                      rw [HAL2.out.2.1] at e9 e8
                      cases e9
                      cases e8
                      have hoa := hal.ok _ (List.getElem_mem hpl)
                      have hob := hal.ok _ (List.getElem_mem hql)
                      obtain ⟨la, hla⟩ : ∃ x, ls[p] = x := ⟨_, rfl⟩
                      obtain ⟨lb, hlb⟩ : ∃ x, ls[q] = x := ⟨_, rfl⟩
                      rw [hla] at u0 u1 u2' u3 hoa
                      rw [hlb] at v0 v1 v2 v3 hob
                      obtain ⟨⟨x1, x2, x3, ex⟩, ⟨y1, y2, y3, ey⟩⟩ := hoa.1.s
                      obtain ⟨⟨z1, z2, z3, ez⟩, ⟨t1, t2, t3, et⟩⟩ := hob.1.s
                      obtain ⟨gn, hgn⟩ : ∃ z : Int, (la.n : Int) = z := ⟨_, rfl⟩
                      obtain ⟨gm, hgm⟩ : ∃ z : Int, (la.m.toNat : Int) = z := ⟨_, rfl⟩
                      obtain ⟨kn, hkn⟩ : ∃ z : Int, (lb.n : Int) = z := ⟨_, rfl⟩
                      obtain ⟨km, hkm⟩ : ∃ z : Int, (lb.m.toNat : Int) = z := ⟨_, rfl⟩
                      have HDD : Hid (Below wr.heap.size wr wr.drew) := (Below.refl _ _).drew
                      have HBD : Hid (Below wz.heap.size wz wr.drew) := bsplit HQ.out HDD.out
                      have HTG : Hid (rovB la.f la.t lb.f lb.t = true → rtgB gn kn gm km = true) := fun h => by rw [← hgn, ← hkn, ← hgm, ← hkm]; exact HS.out.2.1.pair hoa.2.1 hob.2.1 h
                      obtain ⟨r, hr⟩ : ∃ r, rovB la.f la.t lb.f lb.t = r := ⟨_, rfl⟩
                      have hov := rov_any wr.drew la.x la.y lb.x lb.y la.f la.t lb.f lb.t gn gm kn km r (hoa.1.below HDD.out).1.rd (hoa.1.below HDD.out).2.1.rd (hob.1.below HDD.out).1.rd (hob.1.below HDD.out).2.1.rd hr
                      rw [ex, ey, ez, et] at hov
                      rw [hr] at HTG
                      rw [hgn] at u0
                      rw [hgm] at u3
                      rw [hkn] at v0
                      rw [hkm] at v3
                      rw [ex] at u1
                      rw [ey] at u2'
                      rw [ez] at v1
                      rw [et] at v2
                      have HCL : Hid (∀ W, Below wr.heap.size wr W → W.cell? ⟨b1, p * 4, none⟩ = some (.int .u64 gn) ∧ W.cell? ⟨b1, p * 4 + 1, none⟩ = some (.slice x1 x2 x3) ∧ W.cell? ⟨b1, p * 4 + 2, none⟩ = some (.slice y1 y2 y3) ∧ W.cell? ⟨b1, p * 4 + 3, none⟩ = some (.int .u8 gm) ∧ W.cell? ⟨b1, q * 4, none⟩ = some (.int .u64 kn) ∧ W.cell? ⟨b1, q * 4 + 1, none⟩ = some (.slice z1 z2 z3) ∧ W.cell? ⟨b1, q * 4 + 2, none⟩ = some (.slice t1 t2 t3) ∧ W.cell? ⟨b1, q * 4 + 3, none⟩ = some (.int .u8 km)) := fun W hW =>
                        ⟨(hW.cell (World.block_lt_of_cell? _ _ u0)).trans u0, (hW.cell (World.block_lt_of_cell? _ _ u1)).trans u1, (hW.cell (World.block_lt_of_cell? _ _ u2')).trans u2', (hW.cell (World.block_lt_of_cell? _ _ u3)).trans u3, (hW.cell (World.block_lt_of_cell? _ _ v0)).trans v0, (hW.cell (World.block_lt_of_cell? _ _ v1)).trans v1, (hW.cell (World.block_lt_of_cell? _ _ v2)).trans v2, (hW.cell (World.block_lt_of_cell? _ _ v3)).trans v3⟩
                      have hS0 := HCL.out wr.drew HDD.out
                      have hpI : (p : Int) < (na : Int) := by omega
                      have hqI : (q : Int) < (na : Int) := by omega
                      have hqp : (q : Int) < (p : Int) := by omega
                      unfold lkV at hov
                      clear hal hoa hob ex ey ez et hla hlb hr hgn hgm hkn hkm u0 u1 u2' u3 v0 v1 v2 v3 hpl hql
                      cases r with
                      | true =>
                        have htr : rtgB gn kn gm km = true := HTG.out rfl
                        obtain ⟨o1, o2, o3, o4, o5, o6, o7, o8⟩ := hS0
                        go_upto_region 30 with fail
                        go_region_held3 (fun w' => w'.cell? ⟨b1, p * 4, none⟩ = some (.int .u64 gn) ∧ w'.cell? ⟨b1, p * 4 + 1, none⟩ = some (.slice x1 x2 x3) ∧ w'.cell? ⟨b1, p * 4 + 2, none⟩ = some (.slice y1 y2 y3) ∧ w'.cell? ⟨b1, p * 4 + 3, none⟩ = some (.int .u8 gm) ∧ w'.cell? ⟨b1, q * 4, none⟩ = some (.int .u64 kn) ∧ w'.cell? ⟨b1, q * 4 + 1, none⟩ = some (.slice z1 z2 z3) ∧ w'.cell? ⟨b1, q * 4 + 2, none⟩ = some (.slice t1 t2 t3) ∧ w'.cell? ⟨b1, q * 4 + 3, none⟩ = some (.int .u8 km))
                          (first | with_reducible exact hS2 | with_reducible exact ⟨o1, o2, o3, o4, o5, o6, o7, o8⟩)
                          (first
                            | (go_at_call 17; refine Calls.mono hov ?_; rintro e w8 ⟨rfl, hb8⟩
                               have HB8 : Hid (Below wz.heap.size wz w8 ∧ Below wr.heap.size wr w8) := ⟨bsplit HBD.out hb8, HDD.out.trans hb8⟩
                               have hS2 := HCL.out w8 HB8.out.2
                               have htg := rtg_any w8 x1 y1 z1 t1 x2 y2 z2 t2 x3 y3 z3 t3 gn gm kn km true htr
                               unfold lkV at htg
                               clear hov)
                            | (go_at_call 18; refine Calls.mono htg ?_; rintro e w9 ⟨rfl, hb9⟩
                               have HB9 : Hid (Below wz.heap.size wz w9) := bsplit HB8.out.1 hb9
                               have hS2 := HCL.out w9 (HB8.out.2.trans (hb9.mono HB8.out.2.size))
                               clear htg)
                            | fail)
                        go_wp2_with fail
                        go_roundg (gk - 1)
                        case measure => exact s1
                        case rel => exact ⟨q + 1, s2, by go_num, HB9.out⟩
                      | false =>
                        go_upto_region 30 with fail
                        refine wp_region_held_drew (S := (fun w' => w'.cell? ⟨b1, p * 4, none⟩ = some (.int .u64 gn) ∧ w'.cell? ⟨b1, p * 4 + 1, none⟩ = some (.slice x1 x2 x3) ∧ w'.cell? ⟨b1, p * 4 + 2, none⟩ = some (.slice y1 y2 y3) ∧ w'.cell? ⟨b1, p * 4 + 3, none⟩ = some (.int .u8 gm) ∧ w'.cell? ⟨b1, q * 4, none⟩ = some (.int .u64 kn) ∧ w'.cell? ⟨b1, q * 4 + 1, none⟩ = some (.slice z1 z2 z3) ∧ w'.cell? ⟨b1, q * 4 + 2, none⟩ = some (.slice t1 t2 t3) ∧ w'.cell? ⟨b1, q * 4 + 3, none⟩ = some (.int .u8 km))) (by kernel_rfl) ?_ (fun hHeld => ?_)
                        · exact hS0
                        refine wpAnyH_take (i := 0) (v := (.slice (some ⟨b1, 0, none⟩) na ca)) rfl (by kernel_rfl) (by kernel_rfl) (by kernel_rfl) (fun _ _ _ h => h) (Or.inl ⟨by rfl, fun w hSw => by (try dsimp only at hSw); go_simp⟩) hHeld ?_
                        simp only [Act.put, List.setIfInBounds_toArray, List.set_cons_zero, List.set_cons_succ, List.getElem_toArray, List.getElem_cons_zero, List.getElem_cons_succ]
                        refine wpAnyH_take (i := 1) (v := (.int .i64 (p : Int))) rfl (by kernel_rfl) (by kernel_rfl) (by kernel_rfl) (fun _ _ _ h => h) (Or.inl ⟨by rfl, fun w hSw => by (try dsimp only at hSw); go_simp⟩) hHeld ?_
                        simp only [Act.put, List.setIfInBounds_toArray, List.set_cons_zero, List.set_cons_succ, List.getElem_toArray, List.getElem_cons_zero, List.getElem_cons_succ]
                        refine wpAnyH_take (i := 2) (v := (.pointer (some ⟨b1, p * 4, none⟩))) rfl (by kernel_rfl) (by kernel_rfl) (by kernel_rfl) (fun _ _ _ h => h) (Or.inl ⟨by rfl, fun w hSw => by (try dsimp only at hSw); go_simp⟩) hHeld ?_
                        simp only [Act.put, List.setIfInBounds_toArray, List.set_cons_zero, List.set_cons_succ, List.getElem_toArray, List.getElem_cons_zero, List.getElem_cons_succ]
                        refine wpAnyH_take (i := 3) (v := (.agg #[.int .u64 gn, .slice x1 x2 x3, .slice y1 y2 y3, .int .u8 gm])) rfl (by kernel_rfl) (by kernel_rfl) (by kernel_rfl) (fun _ _ _ h => h) (Or.inl ⟨by rfl, fun w hSw => by (try dsimp only at hSw); go_simp⟩) hHeld ?_
                        simp only [Act.put, List.setIfInBounds_toArray, List.set_cons_zero, List.set_cons_succ, List.getElem_toArray, List.getElem_cons_zero, List.getElem_cons_succ]
                        refine wpAnyH_take (i := 4) (v := (.slice (some ⟨b1, 0, none⟩) na ca)) rfl (by kernel_rfl) (by kernel_rfl) (by kernel_rfl) (fun _ _ _ h => h) (Or.inl ⟨by rfl, fun w hSw => by (try dsimp only at hSw); go_simp⟩) hHeld ?_
                        simp only [Act.put, List.setIfInBounds_toArray, List.set_cons_zero, List.set_cons_succ, List.getElem_toArray, List.getElem_cons_zero, List.getElem_cons_succ]
                        refine wpAnyH_take (i := 5) (v := (.int .i64 (q : Int))) rfl (by kernel_rfl) (by kernel_rfl) (by kernel_rfl) (fun _ _ _ h => h) (Or.inl ⟨by rfl, fun w hSw => by (try dsimp only at hSw); go_simp⟩) hHeld ?_
                        simp only [Act.put, List.setIfInBounds_toArray, List.set_cons_zero, List.set_cons_succ, List.getElem_toArray, List.getElem_cons_zero, List.getElem_cons_succ]
                        refine wpAnyH_take (i := 6) (v := (.pointer (some ⟨b1, q * 4, none⟩))) rfl (by kernel_rfl) (by kernel_rfl) (by kernel_rfl) (fun _ _ _ h => h) (Or.inl ⟨by rfl, fun w hSw => by (try dsimp only at hSw); go_simp⟩) hHeld ?_
                        simp only [Act.put, List.setIfInBounds_toArray, List.set_cons_zero, List.set_cons_succ, List.getElem_toArray, List.getElem_cons_zero, List.getElem_cons_succ]
                        refine wpAnyH_take (i := 7) (v := (.agg #[.int .u64 kn, .slice z1 z2 z3, .slice t1 t2 t3, .int .u8 km])) rfl (by kernel_rfl) (by kernel_rfl) (by kernel_rfl) (fun _ _ _ h => h) (Or.inl ⟨by rfl, fun w hSw => by (try dsimp only at hSw); go_simp⟩) hHeld ?_
                        simp only [Act.put, List.setIfInBounds_toArray, List.set_cons_zero, List.set_cons_succ, List.getElem_toArray, List.getElem_cons_zero, List.getElem_cons_succ]
                        refine wpAnyH_ready (rs := [8]) (by kernel_rfl) (by simp) ?_
                        refine AllReadyH.cons rfl (fun K hK => ?_) AllReadyH.nil
                        simp only [List.getElem_toArray, List.getElem_cons_zero, List.getElem_cons_succ]
                        go_simp
                        go_at_call 17
                        refine Calls.mono hov ?_
                        rintro e w8 ⟨rfl, hb8⟩
                        have HB8 : Hid (Below wz.heap.size wz w8) := bsplit HBD.out hb8
                        have hS1 := HCL.out w8 (HDD.out.trans hb8)
                        clear hov hHeld hb8
                        go_wp2_with fail
                        refine hK.out _ _ hS1 (fun hHeld => ?_)
                        clear hK K
                        refine wpAnyH_take (i := 9) (v := (.bool false)) rfl (by kernel_rfl) (by kernel_rfl) (by kernel_rfl) (fun _ _ _ h => h) (Or.inl ⟨by rfl, fun w hSw => by (try dsimp only at hSw); go_simp⟩) hHeld ?_
                        simp only [Act.put, List.setIfInBounds_toArray, List.set_cons_zero, List.set_cons_succ, List.getElem_toArray, List.getElem_cons_zero, List.getElem_cons_succ]
                        refine wpAnyH_take (i := 10) (v := undef) rfl (by kernel_rfl) (by kernel_rfl) (by kernel_rfl) (fun _ _ _ h => h) (Or.inr ⟨by rfl, rfl⟩) hHeld ?_
                        simp only [Act.put, List.setIfInBounds_toArray, List.set_cons_zero, List.set_cons_succ, List.getElem_toArray, List.getElem_cons_zero, List.getElem_cons_succ]
                        refine wpAnyH_take (i := 11) (v := undef) rfl (by kernel_rfl) (by kernel_rfl) (by kernel_rfl) (fun _ _ _ h => h) (Or.inr ⟨by rfl, rfl⟩) hHeld ?_
                        simp only [Act.put, List.setIfInBounds_toArray, List.set_cons_zero, List.set_cons_succ, List.getElem_toArray, List.getElem_cons_zero, List.getElem_cons_succ]
                        refine wpAnyH_take (i := 12) (v := undef) rfl (by kernel_rfl) (by kernel_rfl) (by kernel_rfl) (fun _ _ _ h => h) (Or.inr ⟨by rfl, rfl⟩) hHeld ?_
                        simp only [Act.put, List.setIfInBounds_toArray, List.set_cons_zero, List.set_cons_succ, List.getElem_toArray, List.getElem_cons_zero, List.getElem_cons_succ]
                        refine wpAnyH_take (i := 13) (v := undef) rfl (by kernel_rfl) (by kernel_rfl) (by kernel_rfl) (fun _ _ _ h => h) (Or.inr ⟨by rfl, rfl⟩) hHeld ?_
                        simp only [Act.put, List.setIfInBounds_toArray, List.set_cons_zero, List.set_cons_succ, List.getElem_toArray, List.getElem_cons_zero, List.getElem_cons_succ]
                        refine wpAnyH_take (i := 14) (v := undef) rfl (by kernel_rfl) (by kernel_rfl) (by kernel_rfl) (fun _ _ _ h => h) (Or.inr ⟨by rfl, rfl⟩) hHeld ?_
                        simp only [Act.put, List.setIfInBounds_toArray, List.set_cons_zero, List.set_cons_succ, List.getElem_toArray, List.getElem_cons_zero, List.getElem_cons_succ]
                        refine wpAnyH_take (i := 15) (v := undef) rfl (by kernel_rfl) (by kernel_rfl) (by kernel_rfl) (fun _ _ _ h => h) (Or.inr ⟨by rfl, rfl⟩) hHeld ?_
                        simp only [Act.put, List.setIfInBounds_toArray, List.set_cons_zero, List.set_cons_succ, List.getElem_toArray, List.getElem_cons_zero, List.getElem_cons_succ]
                        refine wpAnyH_take (i := 16) (v := undef) rfl (by kernel_rfl) (by kernel_rfl) (by kernel_rfl) (fun _ _ _ h => h) (Or.inr ⟨by rfl, rfl⟩) hHeld ?_
                        simp only [Act.put, List.setIfInBounds_toArray, List.set_cons_zero, List.set_cons_succ, List.getElem_toArray, List.getElem_cons_zero, List.getElem_cons_succ]
                        refine wpAnyH_take (i := 17) (v := undef) rfl (by kernel_rfl) (by kernel_rfl) (by kernel_rfl) (fun _ _ _ h => h) (Or.inr ⟨by rfl, rfl⟩) hHeld ?_
                        simp only [Act.put, List.setIfInBounds_toArray, List.set_cons_zero, List.set_cons_succ, List.getElem_toArray, List.getElem_cons_zero, List.getElem_cons_succ]
                        refine wpAnyH_take (i := 18) (v := undef) rfl (by kernel_rfl) (by kernel_rfl) (by kernel_rfl) (fun _ _ _ h => h) (Or.inr ⟨by rfl, rfl⟩) hHeld ?_
                        simp only [Act.put, List.setIfInBounds_toArray, List.set_cons_zero, List.set_cons_succ, List.getElem_toArray, List.getElem_cons_zero, List.getElem_cons_succ]
                        refine wpAnyH_take (i := 19) (v := undef) rfl (by kernel_rfl) (by kernel_rfl) (by kernel_rfl) (fun _ _ _ h => h) (Or.inr ⟨by rfl, rfl⟩) hHeld ?_
                        simp only [Act.put, List.setIfInBounds_toArray, List.set_cons_zero, List.set_cons_succ, List.getElem_toArray, List.getElem_cons_zero, List.getElem_cons_succ]
                        refine wpAnyH_take (i := 20) (v := (.bool false)) rfl (by kernel_rfl) (by kernel_rfl) (by kernel_rfl) (fun _ _ _ h => h) (Or.inl ⟨by rfl, fun w hSw => by (try dsimp only at hSw); go_simp⟩) hHeld ?_
                        simp only [Act.put, List.setIfInBounds_toArray, List.set_cons_zero, List.set_cons_succ, List.getElem_toArray, List.getElem_cons_zero, List.getElem_cons_succ]
                        refine wpAnyH_done (by kernel_rfl) ?_ _
                        go_wp2_with fail
                        go_roundg (gk - 1)
                        case measure => exact s1
                        case rel => exact ⟨q + 1, s2, by go_num, HB8.out⟩
                    · have hqp : q = p := by omega
                      subst hqp
                      have hfin : ¬ ((q : Int) < (q : Int)) := by omega
                      go_wp2_with fail
                      go_roundg H0
                      case measure => exact r1
                      case rel => exact ⟨q + 1, r2, by go_num, HQ.out⟩
                · have hpn : p = na := by omega
                  subst hpn
                  have HN9 : Hid (ApI w1.heap.size mb w1 wr t (j + 1)) := by
                    have hbb : Below wc.heap.size wc wr := HAL2.out.1.trans (HP.out.mono HAL2.out.1.size)
                    obtain ⟨n, gs, qs, l, hx, hm, hr⟩ := HC.out.ex
                    exact ⟨⟨n, gs, qs, l, hx.below hbb, hm.below hbb, hr⟩, HC.out.hb.trans (hbb.mono HC.out.hb.size), HC.out.mb.1, Nat.lt_of_lt_of_le HC.out.mb.2 hbb.size⟩
                  have hfin : ¬ ((p : Int) < (p : Int)) := by omega
                  go_wp2_with fail
                  go_roundg G0
                  case measure => exact q1
                  case rel => exact ⟨j + 1, q2, by go_num, HN9.out⟩
            · obtain ⟨x', ex, _, hwx⟩ := Maps.keyOf_int_inv Try.underlying29 hkey
              cases ex
              have hx0 := bounds_u64 hwx
              obtain ⟨m, rfl⟩ := Int.eq_ofNat_of_zero_le hx0.1
              obtain ⟨hbw, hsw, ls, hls, hal⟩ := HAL.out
              have HBn : Hid (Below wc.heap.size wc wn) := hbw.grown hg1 hbw.size (fun k e => by cases e; exact Nat.le_refl _)
              have HSn : Hid (wc.heap.size + 1 ≤ wn.heap.size) := by show _ ≤ _; rw [hs1]; exact hsw
              have hal1 := hal.aside hg1 (Nat.lt_succ_self _)
              have HAn : Hid (AllI (wc.heap.size + 1) wn (.slice aa na ca) gs ls ∧ ls.length = na) := ⟨hal1, hls⟩
              have HRg : Hid (wn.ranges Try.prog 29 (plainElem Try.prog 4) mb wc.heap.size n D (fun z => left z && !z.sameKey kl) cnt1) := hrg1
              have hgr := grantq_any w1.heap.size wn t 60 60 gs qs m ((HS.out.1.below HBn.out).q) (by have := HS.out.2.2.1; omega)
              clear hkey hwx hx0 hbw hsw hls hal hal1 HAL hrg hrg1 hg1 hs1 hv hat hlk hrlt
              refine hgr.mono ?_
              rintro e w5 ⟨v, lsn, rfl, hgi, hb5⟩
              have HB5 : Hid (Below wc.heap.size wc w5 ∧ Below wn.heap.size wn w5) := ⟨HBn.out.trans (hb5.mono HBn.out.size), hb5⟩
              have hal5 := HAn.out.1.below hb5
              have HA5 : Hid (AllI (wc.heap.size + 1) w5 (.slice aa na ca) gs ls) := hal5
              have hrow : w5.ownsRow (wc.heap.size + 1) 32 4 (.slice aa na ca) na (ls.flatMap encL) := by
                have := hal5.row
                unfold OwnL at this
                rw [HAn.out.2] at this
                exact this
              have HG5 : Hid (GrI wn.heap.size w5 v (ofB gs m) (ofB gs m).length lsn) := hgi
              have hsrc := srcL hgi.row
              have hone : ∀ u ∈ lsn.flatMap encL, u.oneCell' = true := by
                intro u hu
                obtain ⟨l9, h1, h2⟩ := List.mem_flatMap.1 hu
                exact oneL l9 (hgi.ok l9 h1).s u h2
              have hnl : lsn.length ≤ 40 := by
                rw [hgi.len]
                exact Nat.le_trans (List.length_filter_le _ _) (by have := HS.out.2.2.1; omega)
              have hbase : wc.heap.size + 1 ≤ w5.heap.size := Nat.le_trans HSn.out hb5.size
              clear hgr hal5 hgi hb5
              go_wp2_with (first
                | (at_builtin
                   refine wpList_append_anyL rfl (.tmp 66) (.tmp 69) 42 rfl (wc.heap.size + 1) 32 i0 (.agg #[.int .u64 0, .slice none 0 0, .slice none 0 0, .int .u8 0]) 4 64 Try.underlying42 hi hz0 hz1 hz2 rfl (by decide) (.slice aa na ca) na (ls.flatMap encL) rfl hrow v rfl lsn.length (lsn.flatMap encL) hsrc hone (by unfold maxLen; omega) (by omega) hbase ?_
                   intro v' w6 hrow6 hg6
                   obtain ⟨a6, c6, ev6, _⟩ := row_slice9 hrow6
                   subst ev6
                   have HN6 : Hid (AllI (wc.heap.size + 1) w6 (.slice a6 (na + lsn.length) c6) gs (ls ++ lsn) ∧ Below wc.heap.size wc w6 ∧ wc.heap.size + 1 ≤ w6.heap.size) := by
                     refine ⟨⟨?_, fun l9 hl9 => ?_⟩, HB5.out.1.grown hg6 HB5.out.1.size (fun k e => Nat.le_trans (Nat.le_succ _) (hrow.lt k e).1), Nat.le_trans hbase hg6.size⟩
                     · unfold OwnL
                       rw [List.length_append, HAn.out.2, List.flatMap_append]
                       exact hrow6
                     · rcases List.mem_append.1 hl9 with h9 | h9
                       · exact ⟨(HA5.out.ok l9 h9).1.grown (by decide) hrow hg6, (HA5.out.ok l9 h9).2⟩
                       · refine ⟨(HG5.out.ok l9 h9).grown (by decide) hrow hg6, ?_, fun b hb => Nat.le_trans HSn.out (HG5.out.fr l9 h9 b hb)⟩
                         have h8 : keyL l9 ∈ lsn.map keyL := List.mem_map.2 ⟨l9, h9, rfl⟩
                         rw [HG5.out.key, List.take_length] at h8
                         obtain ⟨g, h7, h6⟩ := List.mem_map.1 h8
                         exact ⟨g, (List.mem_filter.1 h7).1, h6.symm⟩
                   have HR6 : Hid (w6.ranges Try.prog 29 (plainElem Try.prog 4) mb wc.heap.size n D (fun z => left z && !z.sameKey kl) cnt1) := by
                     have h5 : wn.grownBy w5 none := ⟨HB5.out.2.os, HB5.out.2.tape, HB5.out.2.output, HB5.out.2.size, fun k hk _ => HB5.out.2.block k hk⟩
                     refine (HRg.out.kept h5 (by simp) (by simp)).kept hg6 (fun e => ?_) (fun e => ?_)
                     · have := (hrow.lt mb e.symm).1
                       have h4 := HC.out.mb.2
                       omega
                     · have := (hrow.lt wc.heap.size e.symm).1
                       omega
                   clear hrow6 hg6)
                | fail)
              clear hrow hsrc hone
              go_roundg cnt1
              case measure => exact hlt9
              case rel => exact ⟨_, HR6.out, na + lsn.length, c6, a6, rfl, by omega, HN6.out.2.1, HN6.out.2.2, ls ++ lsn, by rw [List.length_append, HAn.out.2], HN6.out.1⟩
      · have h40i : (40 : Int) ≤ (j : Int) := by omega
        have HBF : Hid (Below w.heap.size w (wr.alloc (.cells #[.int .u8 d0, .int .u64 (o.n : Int), .slice x1 o.f.length x2, .slice y1 o.t.length y2, .int .u8 (o.m.toNat : Int), .int .u64 (o.u : Int)] 34))) := bsplit (bsplit HB1.out HI.out.hb) HBA.out
        clear hba
        go_wp2
        go_ret
        exact ⟨rfl, HBF.out⟩
    · have hjN : j = N := by omega
      subst hjN
      have HBF : Hid (Below w.heap.size w wr) := bsplit HB1.out HI.out.hb
      go_wp2
      go_ret
      exact ⟨rfl, HBF.out⟩

theorem locksApart_walk (a : Option Addr) (len cap : Nat) (os : List LOp) (w : World) (ho : ArgLO w (.slice a len cap) os) :
    Calls Try.prog 3 #[.slice a len cap] w fun e w' => e = .returned (.bool true) ∧ Below w.heap.size w w' := lapart _ os w ho

end Go.Proofs.Ytnnedoohppobpaa
