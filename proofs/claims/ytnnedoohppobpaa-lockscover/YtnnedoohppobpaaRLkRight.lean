/- bartizanref01.Less, bartizanref19.Right. -/
import Derived.Test.YtnnedoohppobpaaLkSmall2
namespace Go.Proofs.Ytnnedoohppobpaa
set_option maxRecDepth 100000
open Go.RowKit
set_option linter.unusedVariables false
set_option linter.unusedSimpArgs false

theorem bytesLess_eq (l m : List UInt8) : Op.bytesLess l m = decide (Lib.compareBytes l m < 0) := by
  induction l generalizing m with
  | nil => cases m <;> simp [Op.bytesLess, Lib.compareBytes]
  | cons x l ih =>
    cases m with
    | nil => simp [Op.bytesLess, Lib.compareBytes]
    | cons y m =>
      simp only [Op.bytesLess, Lib.compareBytes, ih]
      by_cases h1 : x < y
      · simp [h1]
      · by_cases h2 : y < x
        · have h3 : ¬ x = y := by rintro rfl; exact h1 h2
          simp [h1, h2, h3]
        · have h3 : x = y := by apply UInt8.toNat_inj.1; simp only [UInt8.lt_iff_toNat_lt] at *; omega
          simp [h3, UInt8.lt_irrefl]

theorem refless_any (w : World) (a b : Value) (l m : List UInt8) (x : Bool) (ha : Rd w a l) (hb : Rd w b m) (hx : decide (Lib.compareBytes l m < 0) = x) :
    Calls Try.prog 27 #[a, b] w fun e w' => e = .returned (.bool x) ∧ w' = w := by
  have c1 := conv_rd ha
  have c2 := conv_rd hb
  have H : Hid _ := hx
  clear ha hb hx
  go_enter Try.func27, Try.ntmps27
  go_wp2
  go_ret
  have h := H.out
  subst h
  rw [← bytesLess_eq]
  exact ⟨rfl, rfl⟩

set_option maxHeartbeats 2000000 in
theorem rright_any (w : World) (x y : Value) (f t : List UInt8) (n m : Int) (r : Bool) (h1 : Rd w x f) (h2 : Rd w y t) (hr : rightI n m f t = r) :
    Calls Try.prog 26 #[lkV n x y m] w fun e w' => e = .returned (.bool r) ∧ Below w.heap.size w w' := by
  obtain ⟨a1, a2, ea⟩ := h1.len
  obtain ⟨a3, a4, eb⟩ := h2.len
  subst ea eb
  have HB : Hid (Below w.heap.size w (w.alloc (.cells #[.int .u64 n, .slice a1 f.length a2, .slice a3 t.length a4, .int .u8 m] 32))) := below_box4 w _
  obtain ⟨q, hq⟩ : ∃ q, belB f t = q := ⟨_, rfl⟩
  have HQ : Hid (belB f t = q) := hq
  have hb1 := refless_any _ _ _ f t _ (h1.below HB.out (Nat.le_refl _)) (h2.below HB.out (Nat.le_refl _)) rfl
  obtain ⟨c0, c1, c2, c3⟩ := box4_new w (.int .u64 n) (.slice a1 f.length a2) (.slice a3 t.length a4) (.int .u8 m) 32
  have HR : Hid (r = (decide (n ≠ 0) && decide (1 ≤ m ∧ m ≤ 3) && decide (f.length ≤ 65) && decide (t.length ≤ 65) && q)) := by show _ = _; rw [← hr, ← hq]; rfl
  obtain ⟨fl, hfl⟩ : ∃ z, f.length = z := ⟨_, rfl⟩
  obtain ⟨tl, htl⟩ : ∃ z, t.length = z := ⟨_, rfl⟩
  rw [hfl, htl] at HR hb1 HB c0 c1 c2 c3
  rw [hfl, htl]
  have HT : Hid (t.length = tl) := htl
  clear h1 h2 hr hq hfl htl
  unfold lkV
  by_cases k1 : n = 0
  · subst k1
    go_enter Try.func26, Try.ntmps26
    go_wp2
    go_ret
    exact ⟨by rw [HR.out]; rfl, HB.out⟩
  · have HR0 : Hid ((¬ 1 ≤ m ∨ ¬ m ≤ 3 ∨ ¬ fl ≤ 65 ∨ ¬ tl ≤ 65) → r = false) := fun h9 => by
      rw [HR.out]
      rcases h9 with h9 | h9 | h9 | h9 <;> simp [h9]
    by_cases k2 : 1 ≤ m
    · by_cases k3 : m ≤ 3
      · by_cases k4 : fl ≤ 65
        · have k4I : (fl : Int) ≤ 65 := by omega
          by_cases k5 : tl ≤ 65
          · have k5I : (tl : Int) ≤ 65 := by omega
            have k4J : ¬ (65 : Int) < (fl : Int) := by omega
            have k5J : ¬ (65 : Int) < (tl : Int) := by omega
            have k2J : ¬ m < 1 := by omega
            have k3J : ¬ 3 < m := by omega
            by_cases k6 : tl = 0
            · have hq9 : q = true := by rw [← HQ.out]; unfold belB; rw [if_pos (by rw [HT.out]; exact k6)]
              have HQ9 : Hid (q = true) := hq9
              subst k6
              clear hq9
              go_enter Try.func26, Try.ntmps26
              go_wp2
              go_ret
              exact ⟨by rw [HR.out, HQ9.out]; simp [k1, k2, k3, k4, k5], HB.out⟩
            · have hq9 : decide (Lib.compareBytes f t < 0) = q := by rw [← HQ.out]; unfold belB; rw [if_neg (by rw [HT.out]; exact k6)]; rfl
              rw [hq9] at hb1
              have k6I : ¬ (tl : Int) = 0 := by omega
              clear hq9
              go_enter Try.func26, Try.ntmps26
              go_wp2_with fail
              refine hb1.mono ?_
              rintro e w1 ⟨rfl, rfl⟩
              go_wp2
              go_ret
              exact ⟨by rw [HR.out]; simp [k1, k2, k3, k4, k5, k6], HB.out⟩
          · have k5I : (65 : Int) < (tl : Int) := by omega
            have k4J : ¬ (65 : Int) < (fl : Int) := by omega
            have k2J : ¬ m < 1 := by omega
            have k3J : ¬ 3 < m := by omega
            go_enter Try.func26, Try.ntmps26
            go_wp2
            go_ret
            exact ⟨by rw [HR0.out (.inr (.inr (.inr k5)))]; rfl, HB.out⟩
        · have k4I : (65 : Int) < (fl : Int) := by omega
          have k2J : ¬ m < 1 := by omega
          have k3J : ¬ 3 < m := by omega
          go_enter Try.func26, Try.ntmps26
          go_wp2
          go_ret
          exact ⟨by rw [HR0.out (.inr (.inr (.inl k4)))]; rfl, HB.out⟩
      · have HR1 : Hid (r = false) := HR0.out (.inr (.inl k3))
        have k2J : ¬ m < 1 := by omega
        have k3J : 3 < m := by omega
        go_enter Try.func26, Try.ntmps26
        go_wp2
        go_ret
        exact ⟨by rw [HR1.out]; rfl, HB.out⟩
    · have HR1 : Hid (r = false) := HR0.out (.inl k2)
      have k2J : m < 1 := by omega
      go_enter Try.func26, Try.ntmps26
      go_wp2
      go_ret
      exact ⟨by rw [HR1.out]; rfl, HB.out⟩

end Go.Proofs.Ytnnedoohppobpaa
