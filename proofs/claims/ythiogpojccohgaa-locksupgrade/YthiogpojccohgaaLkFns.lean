/- The functions of one lock, or request, that are handed to others. -/
import Derived.Test.YthiogpojccohgaaLkWithoutQ
namespace Go.Proofs.Ythiogpojccohgaa
set_option maxRecDepth 20000
open Go.RowKit
set_option linter.unusedVariables false
set_option linter.unusedSimpArgs false

/-- is it this one's? -/
theorem rel1_any (w : World) (n m k : Int) (a1 a2 : Option Addr) (l1 c1 l2 c2 B : Nat) (hc : w.cell? ⟨B, 0, none⟩ = some (.int .u64 k)) :
    Calls Try.prog 19 #[lkV n (.slice a1 l1 c1) (.slice a2 l2 c2) m, .pointer (some ⟨B, 0, none⟩)] w fun e w' => e = .returned (.bool (n == k)) ∧ Below w.heap.size w w' := by
  have HB : Hid (Below w.heap.size w (w.alloc (.cells #[.int .u64 n, .slice a1 l1 c1, .slice a2 l2 c2, .int .u8 m] 32))) := below_box4 w _
  have hc2 := (HB.out.cell (p := ⟨B, 0, none⟩) (World.block_lt_of_cell? _ _ hc)).trans hc
  unfold lkV
  go_enter Try.func19, Try.ntmps19
  go_wp2
  go_ret
  exact ⟨rfl, HB.out⟩

theorem of1_any (w : World) (n m k : Int) (a1 a2 : Option Addr) (l1 c1 l2 c2 B : Nat) (hc : w.cell? ⟨B, 0, none⟩ = some (.int .u64 k)) :
    Calls Try.prog 53 #[lkV n (.slice a1 l1 c1) (.slice a2 l2 c2) m, .pointer (some ⟨B, 0, none⟩)] w fun e w' => e = .returned (.bool (!(n == k))) ∧ Below w.heap.size w w' := by
  have HB : Hid (Below w.heap.size w (w.alloc (.cells #[.int .u64 n, .slice a1 l1 c1, .slice a2 l2 c2, .int .u8 m] 32))) := below_box4 w _
  have hc2 := (HB.out.cell (p := ⟨B, 0, none⟩) (World.block_lt_of_cell? _ _ hc)).trans hc
  unfold lkV
  by_cases hk : n = k
  · subst hk
    go_enter Try.func53, Try.ntmps53
    go_wp2
    go_ret
    exact ⟨by simp, HB.out⟩
  · have hb : (n == k) = false := by simpa using hk
    go_enter Try.func53, Try.ntmps53
    go_wp2
    go_ret
    exact ⟨by simp [hb, hk], HB.out⟩

theorem lv1_any (w : World) (n m u k : Int) (a1 a2 : Option Addr) (l1 c1 l2 c2 B : Nat) (hc : w.cell? ⟨B, 0, none⟩ = some (.int .u64 k)) :
    Calls Try.prog 33 #[rqV n (.slice a1 l1 c1) (.slice a2 l2 c2) m u, .pointer (some ⟨B, 0, none⟩)] w fun e w' => e = .returned (.bool (n == k)) ∧ Below w.heap.size w w' := by
  have HB : Hid (Below w.heap.size w (w.alloc (.cells #[.int .u64 n, .slice a1 l1 c1, .slice a2 l2 c2, .int .u8 m, .int .u64 u] 63))) := below_box4 w _
  have hc2 := (HB.out.cell (p := ⟨B, 0, none⟩) (World.block_lt_of_cell? _ _ hc)).trans hc
  obtain ⟨z0, z1, z2, z3, z4⟩ := box5_new w (.int .u64 n) (.slice a1 l1 c1) (.slice a2 l2 c2) (.int .u8 m) (.int .u64 u) 63
  unfold rqV
  go_enter Try.func33, Try.ntmps33
  go_wp2
  go_ret
  exact ⟨rfl, HB.out⟩

theorem plc1_any (w : World) (n m u k : Int) (a1 a2 : Option Addr) (l1 c1 l2 c2 B : Nat) (hc : w.cell? ⟨B, 0, none⟩ = some (.int .u64 k)) :
    Calls Try.prog 37 #[rqV n (.slice a1 l1 c1) (.slice a2 l2 c2) m u, .pointer (some ⟨B, 0, none⟩)] w fun e w' => e = .returned (.bool (n == k)) ∧ Below w.heap.size w w' := by
  have HB : Hid (Below w.heap.size w (w.alloc (.cells #[.int .u64 n, .slice a1 l1 c1, .slice a2 l2 c2, .int .u8 m, .int .u64 u] 63))) := below_box4 w _
  have hc2 := (HB.out.cell (p := ⟨B, 0, none⟩) (World.block_lt_of_cell? _ _ hc)).trans hc
  obtain ⟨z0, z1, z2, z3, z4⟩ := box5_new w (.int .u64 n) (.slice a1 l1 c1) (.slice a2 l2 c2) (.int .u8 m) (.int .u64 u) 63
  unfold rqV
  go_enter Try.func37, Try.ntmps37
  go_wp2
  go_ret
  exact ⟨rfl, HB.out⟩

/-- has it as much? -/
theorem has1_any (w : World) (xa ya xb yb : Value) (fa ta fb tb : List UInt8) (na ma nb mb : Int) (B : Nat) (r : Bool) (h1 : Rd w xa fa) (h2 : Rd w ya ta) (h3 : Rd w xb fb) (h4 : Rd w yb tb) (hB : Box4 w B (.int .u64 nb) xb yb (.int .u8 mb)) (hr : (decide (mb ≤ ma) && (!ltB fb fa && !pastB tb ta)) = r) :
    Calls Try.prog 40 #[lkV na xa ya ma, .pointer (some ⟨B, 0, none⟩)] w fun e w' => e = .returned (.bool r) ∧ Below w.heap.size w w' := by
  obtain ⟨a1, a2, ea⟩ := h1.len
  obtain ⟨a3, a4, eb⟩ := h2.len
  obtain ⟨a5, a6, ec⟩ := h3.len
  obtain ⟨a7, a8, ed⟩ := h4.len
  subst ea eb ec ed
  have HB : Hid (Below w.heap.size w (w.alloc (.cells #[.int .u64 na, .slice a1 fa.length a2, .slice a3 ta.length a4, .int .u8 ma] 32))) := below_box4 w _
  obtain ⟨q, hq⟩ : ∃ q, (!ltB fb fa && !pastB tb ta) = q := ⟨_, rfl⟩
  have hcv := cov_any _ _ _ _ _ fa ta fb tb na ma nb mb q (h1.below HB.out (Nat.le_refl _)) (h2.below HB.out (Nat.le_refl _)) (h3.below HB.out (Nat.le_refl _)) (h4.below HB.out (Nat.le_refl _)) hq
  obtain ⟨z0, z1, z2, z3⟩ := box4_new w (.int .u64 na) (.slice a1 fa.length a2) (.slice a3 ta.length a4) (.int .u8 ma) 32
  obtain ⟨c0, c1, c2, c3⟩ := hB.below HB.out (Nat.le_refl _)
  have HR : Hid (r = (decide (mb ≤ ma) && q)) := by show _ = _; rw [← hr, hq]
  clear h1 h2 h3 h4 hB hr hq
  unfold lkV at hcv ⊢
  by_cases hm : mb ≤ ma
  · go_enter Try.func40, Try.ntmps40
    go_wp2_with fail
    refine hcv.mono ?_
    rintro e w1 ⟨rfl, hb1⟩
    have HB1 : Hid (Below w.heap.size w w1) := bsplit HB.out hb1
    go_wp2
    go_ret
    exact ⟨by rw [HR.out]; simp [hm], HB1.out⟩
  · have HR2 : Hid (r = false) := by show _ = _; rw [HR.out]; simp [hm]
    go_enter Try.func40, Try.ntmps40
    go_wp2
    go_ret
    exact ⟨by rw [HR2.out]; rfl, HB.out⟩

theorem upg1_any (w : World) (xa ya xb yb : Value) (fa ta fb tb : List UInt8) (na ma nb mb : Int) (B : Nat) (r : Bool) (h1 : Rd w xa fa) (h2 : Rd w ya ta) (h3 : Rd w xb fb) (h4 : Rd w yb tb) (hB : Box4 w B (.int .u64 nb) xb yb (.int .u8 mb)) (hr : (belB fa tb && belB fb ta) = r) :
    Calls Try.prog 57 #[lkV na xa ya ma, .pointer (some ⟨B, 0, none⟩)] w fun e w' => e = .returned (.bool r) ∧ Below w.heap.size w w' := by
  obtain ⟨a1, a2, ea⟩ := h1.len
  obtain ⟨a3, a4, eb⟩ := h2.len
  obtain ⟨a5, a6, ec⟩ := h3.len
  obtain ⟨a7, a8, ed⟩ := h4.len
  subst ea eb ec ed
  have HB : Hid (Below w.heap.size w (w.alloc (.cells #[.int .u64 na, .slice a1 fa.length a2, .slice a3 ta.length a4, .int .u8 ma] 32))) := below_box4 w _
  have hcv := over_any _ _ _ _ _ fa ta fb tb na ma nb mb r (h1.below HB.out (Nat.le_refl _)) (h2.below HB.out (Nat.le_refl _)) (h3.below HB.out (Nat.le_refl _)) (h4.below HB.out (Nat.le_refl _)) hr
  obtain ⟨z0, z1, z2, z3⟩ := box4_new w (.int .u64 na) (.slice a1 fa.length a2) (.slice a3 ta.length a4) (.int .u8 ma) 32
  obtain ⟨c0, c1, c2, c3⟩ := hB.below HB.out (Nat.le_refl _)
  clear h1 h2 h3 h4 hB hr
  unfold lkV at hcv ⊢
  go_enter Try.func57, Try.ntmps57
  go_wp2_with fail
  refine hcv.mono ?_
  rintro e w1 ⟨rfl, hb1⟩
  have HB1 : Hid (Below w.heap.size w w1) := bsplit HB.out hb1
  go_wp2
  go_ret
  exact ⟨rfl, HB1.out⟩

end Go.Proofs.Ythiogpojccohgaa
