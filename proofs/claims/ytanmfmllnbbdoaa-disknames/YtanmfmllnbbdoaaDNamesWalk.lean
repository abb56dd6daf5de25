/- DiskNames answers true. -/
import Derived.Test.YtanmfmllnbbdoaaDiskRName
namespace Go.Proofs.Ytanmfmllnbbdoaa
open Go.RowKit

theorem take_str (s : ByteArray) (n : Nat) : (s.extract 0 n).data.toList = s.data.toList.take n := by
  simp [ByteArray.data_extract, List.extract]

set_option maxRecDepth 100000 in
set_option maxHeartbeats 4000000 in
theorem diskNames_walk (s : ByteArray) (w : World) (hs : s.size ≤ maxLen) :
    Calls Try.prog 9 #[.string s] w fun e w' => e = .returned (.bool true) ∧ Below w.heap.size w w' := by
  unfold maxLen at hs
  obtain ⟨n, hn⟩ : ∃ n, min s.size 50 = n := ⟨_, rfl⟩
  have hmin : min (s.size : Int) 50 = (n : Int) := by omega
  have hmin2 : (if 50 < s.size then (50 : Int) else (s.size : Int)) = (n : Int) := by split <;> omega
  have hns : n ≤ s.size := by omega
  have hn50 : n ≤ 50 := by omega
  clear hn
  go_enter Try.func9, Try.ntmps9
  go_wp2_with fail
  refine (dawake_any w).mono ?_
  rintro e w1 ⟨rfl, hb1⟩
  go_wp2_with fail
  obtain ⟨x, hx⟩ : ∃ x, s.extract 0 n = x := ⟨_, rfl⟩
  obtain ⟨l, hl⟩ : ∃ l, x.data.toList = l := ⟨_, rfl⟩
  have hll : l.length ≤ 1000000 := by
    rw [← hl, ← hx, take_str, List.length_take]
    omega
  rw [hx]
  refine (new_k w w1 hb1 100 (by omega) (by omega)).mono ?_
  rintro e w2 ⟨d, rfl, h2⟩
  cases hn : isName l with
  | false =>
    have hq : createD ⟨false, 0, 0, 100, []⟩ l = (1, ⟨false, 0, 0, 100, []⟩) := by unfold createD; rw [if_pos hn]
    have c1 := create_k h2 x l 1 _ hl hll (by decide) hq
    clear hx hmin hmin2 hns hn50 hq
    go_wp2_with fail
    refine c1.mono ?_
    rintro e w3 ⟨rfl, h3⟩
    clear c1
    go_wp2_with fail
    refine (name_any _ x l false hl hn hll).mono ?_
    rintro e w4 ⟨rfl, rfl⟩
    go_wp2_with fail
    refine (rname_any _ x l false hl hn hll).mono ?_
    rintro e w4 ⟨rfl, rfl⟩
    go_wp2_with fail
    refine (list_k h3).mono ?_
    rintro e w4 ⟨a, k, rfl, _, h4⟩
    go_wp2
    go_ret
    exact ⟨rfl, h4.bel⟩
  | true =>
    have hq : createD ⟨false, 0, 0, 100, []⟩ l = (0, ⟨false, 0, 1, 100, [⟨l, [], 0⟩]⟩) := by
      unfold createD
      rw [if_neg (by rw [hn]; decide)]
      rfl
    have c1 := create_k h2 x l 0 _ hl hll (by decide) hq
    clear hx hmin hmin2 hns hn50 hq
    go_wp2_with fail
    refine c1.mono ?_
    rintro e w3 ⟨rfl, h3⟩
    clear c1
    go_wp2_with fail
    refine (name_any _ x l true hl hn hll).mono ?_
    rintro e w4 ⟨rfl, rfl⟩
    go_wp2_with fail
    refine (rname_any _ x l true hl hn hll).mono ?_
    rintro e w4 ⟨rfl, rfl⟩
    go_wp2_with fail
    refine (list_k h3).mono ?_
    rintro e w4 ⟨a, k, rfl, _, h4⟩
    go_wp2
    go_ret
    exact ⟨rfl, h4.bel⟩

end Go.Proofs.Ytanmfmllnbbdoaa
