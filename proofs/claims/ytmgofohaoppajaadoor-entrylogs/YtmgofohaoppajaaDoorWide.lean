/- atom.Num. -/
import Derived.Test.YtmgofohaoppajaaDoorNum
import Derived.Test.YtmgofohaoppajaaDoorShelf
namespace Go.Proofs.YtmgofohaoppajaaDoor
set_option maxRecDepth 20000
open Go.RowKit

theorem beB_cons (k n : Nat) : Mth.beB (k + 1) n = UInt8.ofNat (n / 256 ^ k % 256) :: Mth.beB k n := by
  induction k generalizing n with
  | zero => simp [Mth.beB]
  | succ k ih =>
    rw [Mth.beB, ih (n / 256), Mth.beB, Nat.div_div_eq_div_mul, Nat.pow_succ, Nat.mul_comm 256]
    rfl

/-- what the row holds behind k rounds -/
def wrow (s k n : Nat) : List Value := Value.int .u8 (247 + s : Nat) :: (List.replicate (s - k) (Value.int .u8 0) ++ bv (Mth.beB k n))

theorem wrow_length (s k n : Nat) (h : k ≤ s) : (wrow s k n).length = 1 + s := by simp [wrow, bv_length, Mth.beB_length]; omega

theorem wrow_step (s k n : Nat) (h : k < s) : (wrow s k n).set (s - k) (.int .u8 ((n / 256 ^ k % 256 : Nat) : Int)) = wrow s (k + 1) n := by
  obtain ⟨d, rfl⟩ : ∃ d, s = k + 1 + d := ⟨s - k - 1, by omega⟩
  have e1 : k + 1 + d - k = d + 1 := by omega
  have e2 : k + 1 + d - (k + 1) = d := by omega
  unfold wrow
  rw [e1, e2, List.set_cons_succ, beB_cons, List.replicate_succ']
  congr 1
  rw [List.append_assoc, List.set_append_right _ _ (by simp)]
  simp [bv]

theorem wrow_end (n : Nat) (h : 67823 < n) : wrow (Mth.wsize n) (Mth.wsize n) n = bv (Mth.numB n) := by
  have := Mth.wsize_le n
  rw [Mth.numB, if_neg (by omega), if_neg (by omega), if_neg (by omega)]
  simp [wrow, bv]
  omega

set_option maxHeartbeats 1000000 in
theorem wide_any (n : Nat) (w : World) (h1 : 67823 < n) (h2 : n < 18446744073709551616) :
    Calls Tryd.prog 56 #[.int .u64 (n : Int)] w fun e w' => ∃ v, e = .returned v ∧ Own w.heap.size w' v (Mth.numB n) ∧ Below w.heap.size w w' := by
  obtain ⟨i0, hi, hz0, hz1, hz2⟩ := info_parts info5
  have hs := Mth.wsize_le n
  go_enter Tryd.func56, Tryd.ntmps56
  go_wp2_with fail
  refine (len64_any n _ h1 h2).mono ?_
  rintro e w' ⟨t, ht, htb, rfl, hw⟩
  subst hw
  have hT : Hid ((t + 7) / 8 = Mth.wsize n) := ht
  clear ht
  obtain ⟨s, hS⟩ : ∃ s, Hid (s = Mth.wsize n) := ⟨_, rfl⟩
  have e0 : ((t : Int) + 7) / 8 = (s : Int) := by have := hT.out; have := hS.out; omega
  have hs1 : 3 ≤ s := by have := hS.out; omega
  have hs2 : s ≤ 8 := by have := hS.out; omega
  go_wp2_with (at_make; refine wpList_make_full _ rfl (.tmp 11) (.tmp 11) 26 rfl w'.heap.size 5 i0 (.int .u8 0) 1 Tryd.underlying26 hi hz0 hz1 .i64 .i64 _ _ (1 + s) rfl rfl (by omega) (by omega) (by rw [hz2]; omega) (by simp only [maxLen]; omega) (Nat.le_refl _) ?_; intro w1 hown hgr; have hfz := hown.frozenAt 0; obtain ⟨u0, hc0⟩ := cell_owned hown 0 (by omega))
  have hst := (hown.stored 0 (.int .u8 (247 + (s : Int)))).1
  have hbs : Below w'.heap.size w' (w1.setCell ⟨w'.heap.size, 0, none⟩ (.int .u8 (247 + (s : Int)))) := ((Below.refl _ _).grown hgr (Nat.le_refl _) (fun k h => by cases h)).setCell (Nat.le_refl _) _
  have hrow : (madeCells (Value.int .u8 0).cells ((1 + s) * 1)).toList.set 0 (.int .u8 (247 + (s : Int))) = wrow s 0 n := by
    rw [made_list, Nat.add_comm 1 s, List.replicate_succ]
    simp [wrow, Mth.beB, bv]
  rw [hrow] at hst
  clear hrow hown hgr hfz hc0
  go_loopw [0, 5] (fun nv iv wr => ∃ k : Nat, k ≤ s ∧ nv = .int .u64 ((n / 256 ^ k : Nat) : Int) ∧ iv = .int .i64 ((s - k : Nat) : Int) ∧ wr.ownsRow w'.heap.size 5 1 (.slice (some ⟨w'.heap.size, 0, none⟩) (1 + s) (1 + s)) (1 + s) (wrow s k n) ∧ Below w'.heap.size w' wr)
    (fun _ iv _ => (intOf iv).toNat)
  case atStart => exact ⟨0, Nat.zero_le _, by simp, by simp, hst, hbs⟩
  case round =>
    clear hst hbs
    obtain ⟨k, hk, rfl, rfl, hown, hbel⟩ := hrel
    obtain ⟨d, hd⟩ : ∃ d, s - k = d := ⟨_, rfl⟩
    obtain ⟨q, hq⟩ : ∃ q, n / 256 ^ k = q := ⟨_, rfl⟩
    have hq2 : q < 18446744073709551616 := by rw [← hq]; exact Nat.lt_of_le_of_lt (Nat.div_le_self _ _) h2
    rw [hd, hq]
    have hdk : d + k = s := by omega
    have Hd : Hid (s - k = d) := hd
    have Hq : Hid (n / 256 ^ k = q) := hq
    have Hk : Hid (d + k = s) := hdk
    clear hd hq hdk
    have hds : d ≤ s := by have := Hk.out; omega
    have hfz := hown.frozenAt d
    obtain ⟨u0, hc0⟩ := cell_owned hown d (by omega)
    by_cases hz : d = 0
    · subst hz
      go_wp2
      go_ret
      have hks : k = s := by have := Hk.out; omega
      subst hks
      refine ⟨_, rfl, ?_, hbel⟩
      have e1 : wrow k k n = bv (Mth.numB n) := by have := hS.out; subst this; exact wrow_end n h1
      have e2 : 1 + k = (Mth.numB n).length := by rw [← bv_length, ← e1, wrow_length _ _ _ (Nat.le_refl _)]
      rw [e1, e2] at hown
      rw [e2]
      exact Own.of_row hown (by simp)
    · go_wp2
      have hw := (hown.stored d (.int .u8 ((q % 256 : Nat) : Int))).1
      have es := wrow_step s k n (by have := Hk.out; omega)
      rw [Hq.out, Hd.out] at es
      rw [es] at hw
      go_roundw
      case rel => exact ⟨k + 1, by have := Hk.out; omega, by rw [Nat.pow_succ, ← Nat.div_div_eq_div_mul, Hq.out]; go_num, by have := Hk.out; go_num, hw, hbel.setCell (Nat.le_refl _) _⟩
      case measure => simp [intOf]; omega

theorem num_any (n : Nat) (w : World) (h2 : n < 18446744073709551616) :
    Calls Tryd.prog 36 #[.int .u64 (n : Int)] w fun e w' => ∃ v, e = .returned v ∧ Own w.heap.size w' v (Mth.numB n) ∧ Below w.heap.size w w' := by
  by_cases ha : n ≤ 240
  · exact num_a n w ha
  by_cases hb : n ≤ 2287
  · exact num_b n w (by omega) hb
  by_cases hc : n ≤ 67823
  · exact num_c n w (by omega) hc
  go_enter Tryd.func36, Tryd.ntmps36
  go_wp2_with (go_at_call 56; refine (wide_any n _ (by omega) h2).mono ?_; rintro e w' ⟨v, rfl, ho, hb'⟩)
  go_ret
  exact ⟨v, rfl, ho, hb'⟩

end Go.Proofs.YtmgofohaoppajaaDoor
