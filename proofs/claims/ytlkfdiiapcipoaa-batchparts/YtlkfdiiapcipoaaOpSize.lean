/- batch.Size. -/
import Derived.Test.YtlkfdiiapcipoaaOps
import Derived.Test.YtlkfdiiapcipoaaKeyCmp
import Derived.Deep.LoopGhost
namespace Go.Proofs.Ytlkfdiiapcipoaa
open Go.RowKit

theorem bsize_any (w : World) (v : Value) (os : List OpB) (hv : RdO w v os) (hs : sizeO os ≤ 1099511627776) :
    Calls Try.prog 30 #[v] w fun e w' => e = .returned (.int .i64 (sizeO os : Int)) ∧ Below w.heap.size w w' := by
  have hv0 := hv
  obtain ⟨ao, cap, rfl, h1, h2, h3⟩ := hv
  unfold maxLen at h2
  have H3 : Hid _ := hv0
  clear hv0 h3
  go_enter Try.func30, Try.ntmps30
  go_wp2_with fail
  go_loopg [3, 8] os.length (fun gk sv iv wr => ∃ j : Nat, gk + j = os.length ∧ iv = .int .i64 (j : Int) ∧ sv = .int .i64 (sizeO (os.take j) : Int) ∧ Below w.heap.size w wr)
  case atStart => exact ⟨0, rfl, rfl, rfl, Below.refl _ _⟩
  case round =>
    obtain ⟨j, hj, rfl, rfl, hB⟩ := hrel
    have hrd : RdO wr _ os := LsO.below (show RdO w _ os from H3.out) hB (Nat.le_refl _)
    by_cases hlt : j < os.length
    · obtain ⟨_, _, e, _, _, h3⟩ := hrd
      cases e
      obtain ⟨b, off, rfl, x, y, c0, c1, c2, rx, ry⟩ := h3 j hlt
      obtain ⟨x1, x2, ex⟩ := rx.len
      obtain ⟨y1, y2, ey⟩ := ry.len
      subst ex ey
      obtain ⟨o, ho⟩ : ∃ o, os[j] = o := ⟨_, rfl⟩
      have HS : Hid (sizeO (os.take (j + 1)) = sizeO (os.take j) + (o.2.1.length + o.2.2.length)) := by rw [← ho]; exact sizeO_take hlt
      have hle : sizeO (os.take j) + (o.2.1.length + o.2.2.length) ≤ 1099511627776 := by rw [← HS.out]; exact Nat.le_trans (sizeO_le _ _) hs
      rw [ho] at c0 c1 c2
      clear h3 rx ry ho
      obtain ⟨z, hz⟩ : ∃ z, sizeO (os.take j) = z := ⟨_, rfl⟩
      rw [hz] at HS hle ⊢
      clear hz
      go_wp2
      go_roundg (gk - 1)
      case measure => omega
      case rel => exact ⟨j + 1, by omega, by go_num, by rw [HS.out]; go_num, hB.alloc hB.size _⟩
    · obtain rfl : j = os.length := by omega
      clear hrd
      go_wp2
      go_ret
      exact ⟨ret_int (by rw [List.take_length]), hB⟩

end Go.Proofs.Ytlkfdiiapcipoaa
