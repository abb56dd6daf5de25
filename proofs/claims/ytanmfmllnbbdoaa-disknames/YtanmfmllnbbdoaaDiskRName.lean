/- bartizanref05.Name. -/
import Derived.Test.YtanmfmllnbbdoaaDiskK
namespace Go.Proofs.Ytanmfmllnbbdoaa
open Go.RowKit

set_option maxHeartbeats 2000000 in
theorem rname_any (w : World) (s : ByteArray) (l : List UInt8) (b : Bool) (hs : s.data.toList = l) (hb : isName l = b) (hl : l.length ≤ 1000000) :
    Calls Try.prog 16 #[.string s] w fun e w' => e = .returned (.bool b) ∧ w' = w := by
  have hsz : s.size = l.length := by rw [← hs, Array.length_toList]; rfl
  have HB : Hid _ := hb
  have HS : Hid _ := hs
  obtain ⟨n, hn⟩ : ∃ n, l.length = n := ⟨_, rfl⟩
  rw [hn] at hsz hl
  have HN : Hid _ := hn
  clear hb hs hn
  go_enter Try.func16, Try.ntmps16
  go_wp2_with fail
  go_loopg [3] n (fun gk iv wr => ∃ j : Nat, gk + j = n ∧ iv = .int .i64 (j : Int) ∧ Hid (((l.take j).all fun b => inN (b.toNat : Int)) = true) ∧ wr = w)
  case atStart => exact ⟨0, by omega, rfl, rfl, rfl⟩
  case round =>
    obtain ⟨j, hj, rfl, HJ, rfl⟩ := hrel
    by_cases hlt : j < n
    · have hlt2 : j < l.length := by rw [HN.out]; exact hlt
      have hji : j < s.size := by omega
      have hsj : s[j] = l[j] := by
        have := HS.out
        subst this
        rfl
      obtain ⟨c, hc⟩ : ∃ c : Int, (s[j].toNat : Int) = c := ⟨_, rfl⟩
      have HT : Hid (l.take (j + 1) = l.take j ++ [l[j]]) := List.take_succ_eq_append_getElem hlt2
      have HC : Hid ((l[j].toNat : Int) = c) := by show _ = _; rw [← hsj]; exact hc
      have HF : Hid (inN c = false → b = false) := by
        intro h
        rw [← HB.out]
        unfold isName
        have : (l.all fun b => inN (b.toNat : Int)) = false := by
          rw [List.all_eq_false]
          exact ⟨l[j], List.getElem_mem hlt2, by rw [HC.out, h]; simp⟩
        rw [this]
        simp
      have HG : Hid (inN c = true → ((l.take (j + 1)).all fun b => inN (b.toNat : Int)) = true) := by
        intro h
        rw [HT.out, List.all_append, HJ.out]
        simp only [List.all_cons, List.all_nil, Bool.true_and, Bool.and_true]
        rw [HC.out, h]
      clear hsj
      go_wp2_with (rw [hc])
      all_goals first
        | (go_ret; exact ⟨ret_b (HF.out (by unfold inN; grind)).symm, rfl⟩)
        | (go_roundg (gk - 1); (case measure => omega); (case rel => exact ⟨j + 1, by omega, by go_num, HG.out (by unfold inN; grind), rfl⟩))
    · obtain rfl : j = n := by omega
      have HE : Hid (b = decide (1 ≤ j ∧ j ≤ 32)) := by
        show _ = _
        rw [← HB.out]
        unfold isName
        have := HJ.out
        rw [← HN.out, List.take_length] at this
        rw [this, HN.out]
        simp
      by_cases h1 : 1 ≤ j
      · by_cases h2 : j ≤ 32
        · have i1 : (1 : Int) ≤ (s.size : Int) := by omega
          have i2 : (s.size : Int) ≤ 32 := by omega
          go_wp2
          go_ret
          exact ⟨ret_b (by rw [HE.out, decide_eq_true (show 1 ≤ j ∧ j ≤ 32 from ⟨h1, h2⟩)]; first | done | (refine decide_eq_true ?_; omega) | (refine decide_eq_false ?_; omega)), rfl⟩
        · have i1 : (1 : Int) ≤ (s.size : Int) := by omega
          have i2 : ¬ (s.size : Int) ≤ 32 := by omega
          go_wp2
          go_ret
          exact ⟨ret_b (by rw [HE.out, decide_eq_false (show ¬ (1 ≤ j ∧ j ≤ 32) from fun h => h2 h.2)]; first | done | (refine decide_eq_true ?_; omega) | (refine decide_eq_false ?_; omega)), rfl⟩
      · have i1 : ¬ (1 : Int) ≤ (s.size : Int) := by omega
        go_wp2
        go_ret
        exact ⟨ret_b (by rw [HE.out, decide_eq_false (show ¬ (1 ≤ j ∧ j ≤ 32) from fun h => h1 h.1)]), rfl⟩

end Go.Proofs.Ytanmfmllnbbdoaa
