/- ikey.Bytes. -/
import Derived.Test.YtdopfijoplldkaaKeyTail
import Derived.Test.YtdopfijoplldkaaText
import Derived.Deep.RegionWith
namespace Go.Proofs.Ytdopfijoplldkaa
open Go.RowKit

/-- a version's bytes -/
def keyB (l : List UInt8) (s k : Nat) : List UInt8 := textB l ++ tailB s k

theorem keybytes_err (w : World) (ao : Option Addr) (n cap : Nat) (s k c : Int) (hs : 0 ≤ s) (hk : 0 ≤ k) (hc : chk n s k = c) (hc0 : ¬ c = 0) :
    Calls Try.prog 47 #[.agg #[.slice ao n cap, .int .u64 s, .int .u8 k]] w fun e w' => e = .returned (.tuple #[.slice none 0 0, .int .i64 c]) ∧ Below w.heap.size w w' := by
  have HC : Hid _ := hc
  have hcb : (c != 0) = true := by simp [hc0]
  have hcb2 : (c == 0) = false := by simp [hc0]
  clear hc
  go_enter Try.func47, Try.ntmps47
  go_wp2_with fail
  refine (check_any _ ao n cap s k hs hk).mono ?_
  rintro e w1 ⟨rfl, hb⟩
  rw [HC.out]
  go_wp2
  go_ret2
  exact ⟨rfl, (below_box w _ _).trans (hb.mono (by simp))⟩

set_option maxHeartbeats 2000000 in
theorem keybytes_ok (w : World) (v : Value) (l : List UInt8) (s k : Nat) (hv : Rd w v l) (hs : s ≤ 72057594037927935) (hk : k < 256) (hc : chk l.length s k = 0) (hl : l.length ≤ 64) :
    Calls Try.prog 47 #[.agg #[v, .int .u64 (s : Int), .int .u8 (k : Int)]] w fun e w' => ∃ x, e = .returned (.tuple #[x, .int .i64 0]) ∧ Own w.heap.size w' x (keyB l s k) ∧ Below w.heap.size w w' := by
  obtain ⟨ao, cap, rfl⟩ := hv.len
  have HC : Hid _ := hc
  have hB0 := below_box w #[.slice ao l.length cap, .int .u64 (s : Int), .int .u8 (k : Int)] 37
  have b0 := box_new w (.slice ao l.length cap) (.int .u64 (s : Int)) (.int .u8 (k : Int)) 37
  have hv0 := hv.below hB0 (Nat.le_refl _)
  have HF : Hid (([textB l, tailB s k]).flatten = keyB l s k) := by show _ = _; simp [keyB]
  have HFL : Hid (([textB l, tailB s k]).flatten.length ≤ 1099511627776) := by
    show _ ≤ _
    have h1 := Mth.numL_bd l.length
    simp only [List.flatten_cons, List.flatten_nil, List.append_nil, List.length_append, textB, Mth.numB_length, tailB, List.length_cons, List.length_nil]
    omega
  obtain ⟨tb, htb⟩ : ∃ tb, textB l = tb := ⟨_, rfl⟩
  obtain ⟨ta, hta⟩ : ∃ ta, tailB s k = ta := ⟨_, rfl⟩
  rw [htb, hta] at HF HFL
  have HTB : Hid _ := htb
  have HTA : Hid _ := hta
  obtain ⟨kb, hkb⟩ : ∃ kb, keyB l s k = kb := ⟨_, rfl⟩
  rw [hkb] at HF
  rw [hkb]
  clear hc hv htb hta hkb
  go_enter Try.func47, Try.ntmps47
  go_wp2_with fail
  refine (check_any _ ao l.length cap s k (by omega) (by omega)).mono ?_
  rintro e w1 ⟨rfl, hb⟩
  rw [HC.out]
  have hb1 := hB0.trans (hb.mono hB0.size)
  obtain ⟨c0, c1, c2, _, _, _⟩ := b0.below hb (Nat.le_refl _)
  have b1 := b0.below hb (Nat.le_refl _)
  have hv1 := hv0.below hb (Nat.le_refl _)
  clear b0 hv0 hB0 hb
  go_wp2_with fail
  go_region_with (first
    | (go_at_call 56; refine (text_own _ _ l (by exact hv1.drew) (by omega)).mono ?_; rintro e wt ⟨xt, rfl, ot, hbt⟩; rw [HTB.out] at ot; obtain ⟨c0', c1', c2', _, _, _⟩ := b1.drew.below hbt (Nat.le_refl _); obtain ⟨gt, kt, ht⟩ := ot.shape; subst ht)
    | (go_at_call 57; refine (tail_any _ _ s k hs hk).mono ?_; rintro e wa ⟨xa, rfl, oa, hba⟩; rw [HTA.out] at oa; obtain ⟨ga, ka, ha⟩ := oa.shape; subst ha)
    | (go_at_call 36; refine (join_any _ _ [tb, ta] (rdl_two _ _ _ _ _ (ot.rd.below hba (Nat.le_refl _)) oa.rd) HFL.out).mono ?_; rintro e wj ⟨xj, rfl, oj, hbj⟩; rw [HF.out] at oj))
  all_goals
    have h1 : Below w.heap.size w wt := (hb1.drew).trans (hbt.mono hb1.size)
    have h2 := h1.trans (hba.mono h1.size)
    have h3 := (h2.alloc h2.size _).trans (hbj.mono (Nat.le_trans h2.size (by simp)))
    have h4 := oj.mono (Nat.le_trans h2.size (by simp))
    clear c0 c1 c2 hb1 hbt hba hbj b1 hv1 oj ot oa
    go_wp2
    go_ret2
    exact ⟨_, rfl, h4, h3⟩

end Go.Proofs.Ytdopfijoplldkaa
