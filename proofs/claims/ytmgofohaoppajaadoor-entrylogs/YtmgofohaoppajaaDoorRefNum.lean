/- bartizanref01's Num. -/
import Derived.Test.YtmgofohaoppajaaDoorWide
namespace Go.Proofs.YtmgofohaoppajaaDoor
open Go.RowKit

theorem wsize_low (n : Nat) (h : 67823 < n) : 256 ^ (Mth.wsize n - 1) ≤ n := by
  unfold Mth.wsize
  repeat' split
  all_goals (simp; omega)

theorem wsize_pos (n k : Nat) (h : 67823 < n) (hk : k < Mth.wsize n) : 0 < n / 256 ^ k := by
  have h1 := wsize_low n h
  have h2 : 256 ^ k ≤ 256 ^ (Mth.wsize n - 1) := Nat.pow_le_pow_right (by omega) (by omega)
  exact Nat.div_pos (Nat.le_trans h2 h1) (Nat.pow_pos (by omega))

theorem wsize_zero (n : Nat) (h : n < 18446744073709551616) : n / 256 ^ Mth.wsize n = 0 := Nat.div_eq_of_lt (Mth.wsize_fits n h)

set_option maxRecDepth 100000 in
theorem refnum_a (n : Nat) (w : World) (h : n ≤ 240) :
    Calls Tryd.prog 25 #[.int .u64 (n : Int)] w fun e w' => ∃ v, e = .returned v ∧ Own w.heap.size w' v (Mth.numB n) ∧ Below w.heap.size w w' := by
  go_enter Tryd.func25, Tryd.ntmps25
  go_wp2
  go_ret
  refine ⟨_, rfl, ?_, (Below.refl _ _).alloc (Nat.le_refl _) _⟩
  rw [Mth.numB, if_pos h]
  refine own_lit w _ (Nat.le_refl _) [_] (by simp [maxLen]) _ ?_
  rw [u8_of _ (by omega) (by omega)]
  rfl

set_option maxRecDepth 100000 in
theorem refnum_b (n : Nat) (w : World) (h0 : 240 < n) (h : n ≤ 2287) :
    Calls Tryd.prog 25 #[.int .u64 (n : Int)] w fun e w' => ∃ v, e = .returned v ∧ Own w.heap.size w' v (Mth.numB n) ∧ Below w.heap.size w w' := by
  go_enter Tryd.func25, Tryd.ntmps25
  go_wp2
  go_ret
  refine ⟨_, rfl, ?_, (Below.refl _ _).alloc (Nat.le_refl _) _⟩
  rw [Mth.numB, if_neg (by omega), if_pos h]
  refine own_lit w _ (Nat.le_refl _) [_, _] (by simp [maxLen]) _ ?_
  rw [u8_of _ (by omega) (by omega), u8_of (_ % _) (by omega) (by omega)]
  have e1 : (241 + ((n : Int) - 240) / 256).toNat = 241 + (n - 240) / 256 := by omega
  have e2 : (((n : Int) - 240) % 256).toNat = (n - 240) % 256 := by omega
  rw [e1, e2]
  rfl

set_option maxRecDepth 100000 in
theorem refnum_c (n : Nat) (x : Int) (hx : Hid (x = (n : Int))) (w : World) (h0 : 2288 ≤ x) (h : x < 67824) :
    Calls Tryd.prog 25 #[.int .u64 x] w fun e w' => ∃ v, e = .returned v ∧ Own w.heap.size w' v (Mth.numB n) ∧ Below w.heap.size w w' := by
  go_enter Tryd.func25, Tryd.ntmps25
  go_wp2
  go_ret
  refine ⟨_, rfl, ?_, (Below.refl _ _).alloc (Nat.le_refl _) _⟩
  have hxn := hx.out
  rw [Mth.numB, if_neg (by omega), if_neg (by omega), if_pos (by omega)]
  refine own_lit w _ (Nat.le_refl _) [_, _, _] (by simp [maxLen]) _ ?_
  rw [u8_of ((_ - _) / _) (by omega) (by omega), u8_of (_ % _) (by omega) (by omega)]
  have e1 : ((x - 2288) / 256).toNat = (n - 2288) / 256 := by omega
  have e2 : ((x - 2288) % 256).toNat = (n - 2288) % 256 := by omega
  rw [e1, e2]
  rfl

set_option maxHeartbeats 1000000 in
set_option maxRecDepth 100000 in
theorem refnum_d (n : Nat) (x : Int) (HX : Hid (x = (n : Int))) (w : World) (hx1 : 67824 ≤ x) (hx2 : x < 18446744073709551616) :
    Calls Tryd.prog 25 #[.int .u64 x] w fun e w' => ∃ v, e = .returned v ∧ Own w.heap.size w' v (Mth.numB n) ∧ Below w.heap.size w w' := by
  obtain ⟨i0, hi, hz0, hz1, hz2⟩ := info_parts info5
  have hs := Mth.wsize_le n
  have H1 : Hid (67823 < n) := by show _ < _; have := HX.out; omega
  have H2 : Hid (n < 18446744073709551616) := by show _ < _; have := HX.out; omega
  go_enter Tryd.func25, Tryd.ntmps25
  go_wp2
  go_loopw [0, 3] (fun nv ov wr => ∃ k : Nat, k ≤ Mth.wsize n ∧ nv = .int .u64 ((n / 256 ^ k : Nat) : Int) ∧ wr.ownsRow w.heap.size 5 1 ov k (bv (Mth.beB k n)) ∧ Below w.heap.size w wr)
    (fun nv _ _ => (intOf nv).toNat)
  case atStart => exact ⟨0, Nat.zero_le _, by rw [Nat.pow_zero, Nat.div_one, HX.out], World.ownsRow_nil _ _ _ _, Below.refl _ _⟩
  case round =>
    obtain ⟨k, hk, rfl, hown, hbel⟩ := hrel
    obtain ⟨q, hq⟩ : ∃ q, n / 256 ^ k = q := ⟨_, rfl⟩
    have hq2 : q < 18446744073709551616 := by rw [← hq]; exact Nat.lt_of_le_of_lt (Nat.div_le_self _ _) H2.out
    have HN : Hid (n / 256 ^ (k + 1) = q / 256) := by show _ = _; rw [Nat.pow_succ, ← Nat.div_div_eq_div_mul, hq]
    have HB : Hid (Mth.beB (k + 1) n = UInt8.ofNat (q % 256) :: Mth.beB k n) := by show _ = _; rw [beB_cons, hq]
    by_cases hlt : k < Mth.wsize n
    · have hp : 0 < q := by rw [← hq]; exact wsize_pos n k H1.out hlt
      rw [hq]
      clear hq
      have hub : Value.int .u8 ((q : Int) % 256) = .int .u8 ((UInt8.ofNat (q % 256)).toNat : Int) := by congr 1; simp
      obtain ⟨bq, hbq⟩ : ∃ bq, UInt8.ofNat (q % 256) = bq := ⟨_, rfl⟩
      rw [hbq] at hub HB
      clear hbq
      have hlr := lit_row wr w.heap.size hbel.size bq
      have hbl : Below w.heap.size w (wr.alloc (.cells #[.int .u8 (bq.toNat : Int)] 5)) := hbel.alloc hbel.size _
      rcases row_shape hown with ⟨hv, hl0, rfl⟩ | ⟨g, cap, hv⟩
      · subst hv
        go_wp2_with (at_builtin; refine wpList_append_own_none rfl (.tmp 42) (.tmp 43) 26 rfl w.heap.size 5 i0 1 Tryd.underlying26 hi _ _ _ rfl hlr rfl ?_)
        go_roundw
        case rel => exact ⟨1, by omega, by rw [HN.out]; go_num, by rw [HB.out]; exact hlr, hbl⟩
        case measure => simp [intOf]; omega
      · subst hv
        have hcs := row_alloc_cells hown (.cells #[.int .u8 (bq.toNat : Int)] 5)
        go_wp2_with (at_builtin; refine wpList_append_own _ rfl (.tmp 42) (.tmp 43) 26 rfl w.heap.size 5 i0 (.int .u8 0) 1 1 Tryd.underlying26 hi hz0 hz1 hz2 rfl (by decide) (.slice (some ⟨wr.heap.size, 0, none⟩) 1 1) 1 (bv [bq]) rfl hlr ⟨g, 0, none⟩ k cap (bv (Mth.beB k n)) rfl (by rw [bv_length, Mth.beB_length, Nat.mul_one]) hcs (bv_one _) (by simp only [maxLen]; omega) (by omega) (by simp; have := hbel.size; omega) ?_; intro v' w2 ho' hgr' hn')
        go_roundw
        case rel => exact ⟨k + 1, by omega, by rw [HN.out]; go_num, by rw [HB.out, Nat.add_comm k 1]; exact ho', hbl.grown hgr' (by simp; have := hbel.size; omega) (fun k' e => (hlr.lt k' e).1)⟩
        case measure => simp [intOf]; omega
    · have hke : k = Mth.wsize n := by omega
      have hq0 : q = 0 := by rw [← hq, hke]; exact wsize_zero n H2.out
      rw [hq, hq0]
      clear hq
      have hk3 : 3 ≤ k := by omega
      have hub : Value.int .u8 (247 + (k : Int)) = .int .u8 ((UInt8.ofNat (247 + k)).toNat : Int) := by congr 1; simp; omega
      have HE : Hid (UInt8.ofNat (247 + k) :: Mth.beB k n = Mth.numB n) := by
        show _ = _
        have := H1.out
        rw [Mth.numB, if_neg (by omega), if_neg (by omega), if_neg (by omega), hke]
      obtain ⟨bq, hbq⟩ : ∃ bq, UInt8.ofNat (247 + k) = bq := ⟨_, rfl⟩
      rw [hbq] at hub HE
      clear hbq
      have hlr := lit_row wr w.heap.size hbel.size bq
      have hbl : Below w.heap.size w (wr.alloc (.cells #[.int .u8 (bq.toNat : Int)] 5)) := hbel.alloc hbel.size _
      rcases row_shape hown with ⟨hv, hl0, e0⟩ | ⟨g, cap, hv⟩
      · omega
      subst hv
      have hcs := row_alloc_cells hown (.cells #[.int .u8 (bq.toNat : Int)] 5)
      have hk8 : k ≤ 8 := by omega
      clear hke hq0
      go_wp2_with (at_builtin; refine wpList_append_own _ rfl (.tmp 51) (.tmp 52) 26 rfl w.heap.size 5 i0 (.int .u8 0) 1 1 Tryd.underlying26 hi hz0 hz1 hz2 rfl (by decide) (.slice (some ⟨wr.heap.size, 0, none⟩) 1 1) 1 (bv [bq]) rfl hlr ⟨g, 0, none⟩ k cap (bv (Mth.beB k n)) rfl (by rw [bv_length, Mth.beB_length, Nat.mul_one]) hcs (bv_one _) (by simp only [maxLen]; omega) (by omega) (by simp; have := hbel.size; omega) ?_; intro v' w2 ho' hgr' hn')
      go_ret
      refine ⟨v', rfl, Own.of_row ?_ (fun e => by have := (hn'.1 e).1; cases this), hbl.grown hgr' (by simp; have := hbel.size; omega) (fun k' e => (hlr.lt k' e).1)⟩
      rw [← HE.out]
      simp only [List.length_cons, Mth.beB_length]
      rw [Nat.add_comm k 1]
      exact ho'

theorem refnum_any (n : Nat) (w : World) (h2 : n < 18446744073709551616) :
    Calls Tryd.prog 25 #[.int .u64 (n : Int)] w fun e w' => ∃ v, e = .returned v ∧ Own w.heap.size w' v (Mth.numB n) ∧ Below w.heap.size w w' := by
  by_cases ha : n ≤ 240
  · exact refnum_a n w ha
  by_cases hb : n ≤ 2287
  · exact refnum_b n w (by omega) hb
  by_cases hc : n ≤ 67823
  · exact refnum_c n _ rfl w (by omega) (by omega)
  · exact refnum_d n _ rfl w (by omega) (by omega)

end Go.Proofs.YtmgofohaoppajaaDoor
