/- memo: numbers and heights. -/
import Derived.Test.YthcoblmfmbmdkaaHeld
namespace Go.Proofs.Ythcoblmfmbmdkaa
set_option maxRecDepth 20000
open Go.RowKit
set_option linter.unusedVariables false
set_option linter.unusedSimpArgs false

/-- may an op be put at such a height? -/
def noHt (h : Int) : Bool := decide (h < 1 ∨ 8 < h)

theorem noheight_any (w : World) (h : Int) : Calls Try.prog 53 #[.int .i64 h] w fun e w' => e = .returned (.bool (noHt h)) ∧ w' = w := by
  by_cases h1 : h < 1
  · have e : noHt h = true := by unfold noHt; exact decide_eq_true (.inl h1)
    rw [e]
    clear e
    go_enter Try.func53, Try.ntmps53
    go_wp2
    go_ret
    exact ⟨rfl, rfl⟩
  · by_cases h2 : 8 < h
    · have e : noHt h = true := by unfold noHt; exact decide_eq_true (.inr h2)
      rw [e]
      clear e
      go_enter Try.func53, Try.ntmps53
      go_wp2
      go_ret
      exact ⟨rfl, rfl⟩
    · have e : noHt h = false := by unfold noHt; exact decide_eq_false (by omega)
      rw [e]
      clear e
      go_enter Try.func53, Try.ntmps53
      go_wp2
      go_ret
      exact ⟨rfl, rfl⟩

/-- are there so many numbers from s on? -/
def hasN (s c : Int) : Bool := decide (1 ≤ s ∧ s ≤ 72057594037927935 ∧ s + (max c 1 - 1) ≤ 72057594037927935)

set_option maxHeartbeats 1000000 in
theorem hasnum_any (w : World) (s c : Int) (hs0 : 0 ≤ s) (hc0 : 0 ≤ c) (hc1 : c ≤ 1000000) : Calls Try.prog 51 #[.int .u64 s, .int .i64 c] w fun e w' => e = .returned (.bool (hasN s c)) ∧ w' = w := by
  by_cases h1 : 1 ≤ s
  · by_cases h2 : s ≤ 72057594037927935
    · obtain ⟨m, hm⟩ : ∃ m, max c 1 - 1 = m := ⟨_, rfl⟩
      have hm2 : 0 ≤ m ∧ m ≤ 1000000 := by omega
      have q1 : IntKind.i64.wrap (max c 1 - 1) = m := by rw [hm, IntKind.wrap_i64]; omega
      have q2 : IntKind.u64.wrap m = m := by rw [IntKind.wrap_u64]; omega
      have q3 : IntKind.u64.wrap (s + m) = s + m := by rw [IntKind.wrap_u64]; omega
      by_cases h3 : s + m ≤ 72057594037927935
      · have e : hasN s c = true := by unfold hasN; exact decide_eq_true ⟨h1, h2, by omega⟩
        rw [e]
        clear e hm
        go_enter Try.func51, Try.ntmps51
        go_wp2
        go_ret
        exact ⟨rfl, rfl⟩
      · have e : hasN s c = false := by unfold hasN; exact decide_eq_false (by omega)
        rw [e]
        clear e hm
        go_enter Try.func51, Try.ntmps51
        go_wp2
        go_ret
        exact ⟨rfl, rfl⟩
    · have e : hasN s c = false := by unfold hasN; exact decide_eq_false (by omega)
      rw [e]
      clear e
      go_enter Try.func51, Try.ntmps51
      go_wp2
      go_ret
      exact ⟨rfl, rfl⟩
  · have e : hasN s c = false := by unfold hasN; exact decide_eq_false (by omega)
    rw [e]
    clear e
    go_enter Try.func51, Try.ntmps51
    go_wp2
    go_ret
    exact ⟨rfl, rfl⟩

end Go.Proofs.Ythcoblmfmbmdkaa
