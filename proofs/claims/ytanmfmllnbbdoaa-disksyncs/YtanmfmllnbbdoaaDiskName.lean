/- Is a text a name: disk.Name, and the document's own answer. -/
import Derived.Test.YtanmfmllnbbdoaaBoxes
import Derived.Deep.LoopGhost
namespace Go.Proofs.Ytanmfmllnbbdoaa
open Go.RowKit

/-- may a byte stand in a name -/
def inN (c : Int) : Bool := decide (97 ≤ c ∧ c ≤ 122 ∨ 48 ≤ c ∧ c ≤ 57 ∨ c = 45 ∨ c = 46)

/-- is a text a name -/
def isName (l : List UInt8) : Bool := decide (1 ≤ l.length ∧ l.length ≤ 32) && l.all fun b => inN (b.toNat : Int)

theorem ret_b {a b : Bool} (h : a = b) : Ending.returned (.bool a) = .returned (.bool b) := by rw [h]

theorem inname_any (w : World) (c : Int) : Calls Try.prog 39 #[.int .u8 c] w fun e w' => e = .returned (.bool (inN c)) ∧ w' = w := by
  go_enter Try.func39, Try.ntmps39
  go_wp2
  all_goals (go_ret)
  all_goals (refine ⟨ret_b ?_, rfl⟩; unfold inN; grind)

theorem all_drop {l : List UInt8} {j : Nat} (h : j < l.length) (f : UInt8 → Bool) : (l.drop j).all f = (f l[j] && (l.drop (j + 1)).all f) := by
  rw [List.drop_eq_getElem_cons h, List.all_cons]

set_option maxHeartbeats 2000000 in
theorem name_any (w : World) (s : ByteArray) (l : List UInt8) (b : Bool) (hs : s.data.toList = l) (hb : isName l = b) (hl : l.length ≤ 1000000) :
    Calls Try.prog 15 #[.string s] w fun e w' => e = .returned (.bool b) ∧ w' = w := by
  have hsz : s.size = l.length := by rw [← hs, Array.length_toList]; rfl
  have HB : Hid _ := hb
  have HS : Hid _ := hs
  clear hb hs
  by_cases h1 : 1 ≤ l.length ∧ l.length ≤ 32
  · obtain ⟨ha, hc⟩ := h1
    have HA : Hid ((l.all fun b => inN (b.toNat : Int)) = b) := by show _ = _; rw [← HB.out]; unfold isName; rw [decide_eq_true (show 1 ≤ l.length ∧ l.length ≤ 32 from ⟨ha, hc⟩)]; simp
    have hi1 : ¬ (s.size : Int) < 1 := by omega
    have hi2 : ¬ (32 : Int) < (s.size : Int) := by omega
    go_enter Try.func15, Try.ntmps15
    go_wp2_with fail
    go_loopg [14] l.length (fun gk iv wr => ∃ j : Nat, gk + j = l.length ∧ iv = .int .i64 (j : Int) ∧ ((l.drop j).all fun b => inN (b.toNat : Int)) = b ∧ wr = w)
    case atStart => exact ⟨0, rfl, rfl, HA.out, rfl⟩
    case round =>
      obtain ⟨j, hj, rfl, hA, rfl⟩ := hrel
      have HJ : Hid _ := hA
      clear hA
      by_cases hlt : j < l.length
      · have hji : j < s.size := by omega
        have hsj : s[j] = l[j] := by
          have := HS.out
          subst this
          rfl
        obtain ⟨q, hq⟩ : ∃ q, inN (s[j].toNat : Int) = q := ⟨_, rfl⟩
        have HQ : Hid _ := hq
        have HN : Hid (b = (q && ((l.drop (j + 1)).all fun b => inN (b.toNat : Int)))) := by show _ = _; rw [← HJ.out, all_drop hlt, ← hq, hsj]
        clear hq hsj
        go_wp2_with fail
        refine (inname_any _ _).mono ?_
        rintro e w1 ⟨rfl, hw⟩
        subst hw
        rw [HQ.out]
        cases q
        · go_wp2
          go_ret
          exact ⟨ret_b (by rw [HN.out]; rfl), rfl⟩
        · go_wp2
          go_roundg (gk - 1)
          case measure => omega
          case rel => exact ⟨j + 1, by omega, by go_num, by rw [HN.out]; simp, rfl⟩
      · obtain rfl : j = l.length := by omega
        have h0 : Hid (b = true) := by show _ = _; rw [← HJ.out, List.drop_length]; rfl
        go_wp2
        go_ret
        exact ⟨ret_b h0.out.symm, rfl⟩
  · have h0 : Hid (b = false) := by show _ = _; rw [← HB.out]; unfold isName; rw [decide_eq_false h1]; rfl
    by_cases h2 : l.length < 1
    · have hi1 : (s.size : Int) < 1 := by omega
      clear h1
      go_enter Try.func15, Try.ntmps15
      go_wp2
      go_ret
      exact ⟨ret_b h0.out.symm, rfl⟩
    · have hi1 : ¬ (s.size : Int) < 1 := by omega
      have hi2 : (32 : Int) < (s.size : Int) := by omega
      clear h1
      go_enter Try.func15, Try.ntmps15
      go_wp2
      go_ret
      exact ⟨ret_b h0.out.symm, rfl⟩

end Go.Proofs.Ytanmfmllnbbdoaa
