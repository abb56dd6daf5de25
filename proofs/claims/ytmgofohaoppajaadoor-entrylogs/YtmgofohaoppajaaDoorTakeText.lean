/- atom.TakeText. -/
import Derived.Test.YtmgofohaoppajaaDoorTake2
namespace Go.Proofs.YtmgofohaoppajaaDoor
open Go.RowKit

theorem tt_front (w : World) (v : Value) (l : List UInt8) (most : Int) (e : Nat) (hv : Rd w v l) (hf : frontS l = (0, 0, e)) (he : e = 2 ∨ e = 4) :
    Calls Tryd.prog 48 #[v, .int .i64 most] w fun r w' => r = .returned (.tuple #[.slice none 0 0, .slice none 0 0, .int .i64 (e : Int)]) ∧ Below w.heap.size w w' := by
  have hV : Hid (frontV (frontS l) = .tuple #[.int .u64 0, .int .i64 0, .int .i64 (e : Int)]) := by show _ = _; rw [hf]; rfl
  have he0 : ((e : Int) == 0) = false := by simp; omega
  clear hf
  go_enter Tryd.func48, Tryd.ntmps48
  go_wp2_with (go_at_call 62; refine (front_any _ _ l hv).mono ?_; rintro r w1 ⟨rfl, hb⟩; rw [hV.out])
  go_ret3
  exact ⟨rfl, hb⟩

theorem tt_long (w : World) (v : Value) (l : List UInt8) (most : Int) (n s : Nat) (hm2 : most ≤ 9223372036854775807) (hv : Rd w v l) (hf : frontS l = (n, s, 0)) (hm : most < 0 ∨ most < (n : Int)) :
    Calls Tryd.prog 48 #[v, .int .i64 most] w fun r w' => r = .returned (.tuple #[.slice none 0 0, .slice none 0 0, .int .i64 3]) ∧ Below w.heap.size w w' := by
  have hV : Hid (frontV (frontS l) = .tuple #[.int .u64 (n : Int), .int .i64 (s : Int), .int .i64 0]) := by show _ = _; rw [hf]; rfl
  clear hf
  by_cases h0 : most < 0
  · have h0' : decide (most < 0) = true := decide_eq_true h0
    go_enter Tryd.func48, Tryd.ntmps48
    go_wp2_with (go_at_call 62; refine (front_any _ _ l hv).mono ?_; rintro r w1 ⟨rfl, hb⟩; rw [hV.out])
    go_ret3
    exact ⟨rfl, hb⟩
  · have hm' : most < (n : Int) := by omega
    have h0' : decide (most < 0) = false := decide_eq_false h0
    have h00 : 0 ≤ most := by omega
    clear hm
    go_enter Tryd.func48, Tryd.ntmps48
    go_wp2_with (go_at_call 62; refine (front_any _ _ l hv).mono ?_; rintro r w1 ⟨rfl, hb⟩; rw [hV.out])
    go_ret3
    exact ⟨rfl, hb⟩

theorem tt_short (w : World) (v : Value) (l : List UInt8) (most : Int) (n s : Nat) (hm2 : most ≤ 9223372036854775807) (hv : Rd w v l) (hf : frontS l = (n, s, 0)) (hm : (n : Int) ≤ most) (hl : l.length - s < n) :
    Calls Tryd.prog 48 #[v, .int .i64 most] w fun r w' => r = .returned (.tuple #[.slice none 0 0, .slice none 0 0, .int .i64 2]) ∧ Below w.heap.size w w' := by
  obtain ⟨hs1, hs2, hs9, hn⟩ := frontS_ok hf
  have hV : Hid (frontV (frontS l) = .tuple #[.int .u64 (n : Int), .int .i64 (s : Int), .int .i64 0]) := by show _ = _; rw [hf]; rfl
  clear hf
  have hh := hv
  rcases hh with ⟨_, rfl⟩ | ⟨b, off, cap, rfl, h1, h2, h3⟩
  · simp at hs2; omega
  unfold maxLen at h2
  have h0' : decide (most < 0) = false := decide_eq_false (by omega)
  have h00 : 0 ≤ most := by omega
  by_cases hcap : s = cap
  · subst hcap
    go_enter Tryd.func48, Tryd.ntmps48
    go_wp2_with (go_at_call 62; refine (front_any _ _ l hv).mono ?_; rintro r w1 ⟨rfl, hb⟩; rw [hV.out])
    go_ret3
    exact ⟨rfl, hb⟩
  · go_enter Tryd.func48, Tryd.ntmps48
    go_wp2_with (go_at_call 62; refine (front_any _ _ l hv).mono ?_; rintro r w1 ⟨rfl, hb⟩; rw [hV.out])
    go_ret3
    exact ⟨rfl, hb⟩

end Go.Proofs.YtmgofohaoppajaaDoor
