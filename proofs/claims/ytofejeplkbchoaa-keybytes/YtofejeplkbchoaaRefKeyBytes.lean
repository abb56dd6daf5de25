/- bartizanref03's Bytes. -/
import Derived.Test.YtofejeplkbchoaaKeyBytes
import Derived.Test.YtofejeplkbchoaaRText
import Derived.Test.YtofejeplkbchoaaRefText
import Derived.Deep.RegionHeld3
import Derived.Deep.AppendLies
import Derived.Deep.DeepCutAuto
import Derived.Deep.LoopGhost
namespace Go.Proofs.Ytofejeplkbchoaa
open Go.RowKit

theorem refkeybytes_err (w : World) (ao : Option Addr) (n cap : Nat) (s k c : Int) (hs : 0 ≤ s) (hk : 0 ≤ k) (hc : chk n s k = c) (hc0 : ¬ c = 0) :
    Calls Try.prog 8 #[.agg #[.slice ao n cap, .int .u64 s, .int .u8 k]] w fun e w' => e = .returned (.tuple #[.slice none 0 0, .int .i64 c]) ∧ Below w.heap.size w w' := by
  have HC : Hid _ := hc
  have hcb : (c != 0) = true := by simp [hc0]
  have hcb2 : (c == 0) = false := by simp [hc0]
  clear hc
  go_enter Try.func8, Try.ntmps8
  go_wp2_with fail
  refine (refcheck_any _ ao n cap s k hs hk).mono ?_
  rintro e w1 ⟨rfl, hb⟩
  rw [HC.out]
  go_wp2
  go_ret2
  exact ⟨rfl, (below_box w _ _).trans (hb.mono (by simp))⟩

theorem tail_step (s k j : Nat) (hj : j < 7) : (tailB s k).take (j + 2) = (tailB s k).take (j + 1) ++ [UInt8.ofNat (s / 256 ^ j % 256)] := by
  match j, hj with
  | 0, _ => simp [tailB]
  | 1, _ => simp [tailB]
  | 2, _ => simp [tailB]
  | 3, _ => simp [tailB]
  | 4, _ => simp [tailB]
  | 5, _ => simp [tailB]
  | 6, _ => simp [tailB]

set_option maxHeartbeats 2000000 in
theorem refkeybytes_ok (w : World) (v : Value) (l : List UInt8) (s k : Nat) (hv : Rd w v l) (hs : s ≤ 72057594037927935) (hk : k < 256) (hc : chk l.length s k = 0) (hl : l.length ≤ 64) :
    Calls Try.prog 8 #[.agg #[v, .int .u64 (s : Int), .int .u8 (k : Int)]] w fun e w' => ∃ x, e = .returned (.tuple #[x, .int .i64 0]) ∧ Own w.heap.size w' x (keyB l s k) ∧ Below w.heap.size w w' := by
  obtain ⟨i0, hi, hz0, hz1, hz2⟩ := info_parts info5
  obtain ⟨ao, cap, rfl⟩ := hv.len
  have HC : Hid _ := hc
  have hB0 := below_box w #[.slice ao l.length cap, .int .u64 (s : Int), .int .u8 (k : Int)] 25
  have b0 := box_new w (.slice ao l.length cap) (.int .u64 (s : Int)) (.int .u8 (k : Int)) 25
  have hv0 := hv.below hB0 (Nat.le_refl _)
  obtain ⟨tb, htb⟩ : ∃ tb, textB l = tb := ⟨_, rfl⟩
  have htl : tb.length ≤ 73 := by rw [← htb]; unfold textB; rw [List.length_append, Mth.numB_length]; have := (Mth.numL_bd l.length).2; omega
  have HTB : Hid _ := htb
  have HKB : Hid (keyB l s k = tb ++ tailB s k) := by show _ = _; rw [← htb]; rfl
  have hub : Value.int .u8 (k : Int) = .int .u8 ((UInt8.ofNat k).toNat : Int) := by congr 1; simp; omega
  obtain ⟨bk, hbk⟩ : ∃ bk, UInt8.ofNat k = bk := ⟨_, rfl⟩
  rw [hbk] at hub
  have HBK : Hid _ := hbk
  have hkk : (k : Int) = (bk.toNat : Int) := by injection hub
  rw [hkk] at b0 hB0 hv0 HC ⊢
  clear hc hv htb hub hbk hkk
  go_enter Try.func8, Try.ntmps8
  go_wp2_with fail
  refine (refcheck_any _ ao l.length cap s bk.toNat (by omega) (by omega)).mono ?_
  rintro e w1 ⟨rfl, hb⟩
  rw [HC.out]
  have hb1 := hB0.trans (hb.mono hB0.size)
  have b1 := b0.below hb (Nat.le_refl _)
  have hv1 := hv0.below hb (Nat.le_refl _)
  have hlt := b1.lt
  clear b0 hv0 hB0 hb
  go_wp2_with fail
  go_cut [5] (fun pv wx => ∃ g c, pv = .slice (some ⟨g, 0, none⟩) (tb.length + 1) c ∧ Own (w.heap.size + 1) wx pv (tb ++ [bk]) ∧ Box wx w.heap.size (.slice ao l.length cap) (.int .u64 (s : Int)) (.int .u8 (bk.toNat : Int)) ∧ Below w.heap.size w wx)
  case first =>
    go_region_held3 (fun w' => w'.cell? ⟨w.heap.size, 0, none⟩ = some (.slice ao l.length cap) ∧ w'.cell? ⟨w.heap.size, 2, none⟩ = some (.int .u8 (bk.toNat : Int)))
      (first | exact ⟨bx.c0, bx.c2⟩ | exact ⟨bt.c0, bt.c2⟩ | exact ⟨(bt.alloc _).c0, (bt.alloc _).c2⟩ | exact ⟨b1.c0, b1.c2⟩ | exact ⟨b1.drew.c0, b1.drew.c2⟩ | exact ⟨(b1.drew.alloc _).c0, (b1.drew.alloc _).c2⟩)
      (first
        | (go_at_call 22; refine (rtext_any _ _ l (by first | exact hv1.drew | exact hv1.drew.below (below_box _ _ _) (Nat.le_refl _)) (by omega)).mono ?_; rintro e wt ⟨xt, rfl, ot, hbt⟩; rw [HTB.out] at ot; have bt : Box wt w.heap.size (.slice ao l.length cap) (.int .u64 (s : Int)) (.int .u8 (bk.toNat : Int)) := (by first | exact b1.drew.below hbt (Nat.le_refl _) | exact (b1.drew.alloc _).below hbt (Nat.le_refl _)); have hB2 : Below w.heap.size w wt := (by first | exact (hb1.drew).trans (hbt.mono hb1.size) | exact ((hb1.drew).alloc hb1.size _).trans (hbt.mono (Nat.le_trans hb1.size (by simp)))); have ot2 : Own (w.heap.size + 1) wt xt tb := ot.mono (by simp; omega); obtain ⟨gt, kt, ht⟩ := ot2.shape; subst ht; have hgt := ot2.lt.1; have hslt := hbt.size)
        | (refine step_append_own rfl (.tmp 14) (.tmp 17) 22 rfl (w.heap.size + 1) 5 i0 (.int .u8 0) 1 1 Try.underlying22 hi hz0 hz1 hz2 rfl (by decide) (.slice (some ⟨gt, 0, none⟩) tb.length kt) tb.length (bv tb) rfl (by exact ot2.row.alloc _) ⟨wt.heap.size, 0, none⟩ 1 1 (bv [bk]) rfl rfl ((lit_row wt wt.heap.size (Nat.le_refl _) bk).cells rfl) (bv_one _) (by simp only [maxLen]; omega) (by omega) (by simp; have := bt.lt; omega) ?_; intro v' w3 ho' hgr' hn'; have bx := (bt.alloc (.cells #[.int .u8 (bk.toNat : Int)] 5)).grown hgr' (fun e => by simp [Value.ownBlock] at e; omega); have hB3 := (hB2.alloc hB2.size (.cells #[.int .u8 (bk.toNat : Int)] 5)).grown hgr' (Nat.le_trans hB2.size (by simp)) (fun k' e => by have := (ot2.row.lt k' e).1; omega))
        | (refine step_append_own rfl (.tmp 14) (.tmp 17) 22 rfl (w.heap.size + 1) 5 i0 (.int .u8 0) 1 1 Try.underlying22 hi hz0 hz1 hz2 rfl (by decide) (.slice (some ⟨gt, 0, none⟩) tb.length kt) tb.length (bv tb) rfl (by exact ot2.row) ⟨w1.heap.size, 0, none⟩ 1 1 (bv [bk]) rfl rfl ((row_below (lit_row w1.drew w1.heap.size (Nat.le_refl _) bk) hbt).cells rfl) (bv_one _) (by simp only [maxLen]; omega) (by omega) (by have := bt.lt; omega) ?_; intro v' w3 ho' hgr' hn'; have bx := bt.grown hgr' (fun e => by simp [Value.ownBlock] at e; omega); have hB3 := hB2.grown hgr' hB2.size (fun k' e => by have := (ot2.row.lt k' e).1; omega))
        | fail)
    all_goals
      obtain ⟨gv, kv, hvv, hk1, hk2, ov⟩ := app_shape ho' rfl rfl (fun e => by have := (hn'.1 e).1; cases this)
      subst hvv
      go_wp2_with fail
      go_meet
      exact ⟨gv, kv, rfl, ov, bx, hB3⟩
  case rest =>
    obtain ⟨g, c, rfl, ov, bx, hB⟩ := hcut
    clear b1 hv1 hb1 hlt
    have bxc1 := bx.c1
    go_wp2_with fail
    clear bxc1
    go_loopg [5, 6, 21] 7 (fun gk pv nv iv wr => ∃ j g c : Nat, gk + j = 7 ∧ iv = .int .i64 (j : Int) ∧ nv = .int .u64 ((s / 256 ^ j : Nat) : Int) ∧ pv = .slice (some ⟨g, 0, none⟩) (tb.length + 1 + j) c ∧ Own (w.heap.size + 1) wr pv (tb ++ (tailB s k).take (j + 1)) ∧ Below w.heap.size w wr)
    case atStart =>
      have e1 : (tailB s k).take (0 + 1) = [bk] := by rw [← HBK.out]; rfl
      exact ⟨0, g, c, rfl, rfl, by simp, rfl, by rw [e1]; exact ov, hB⟩
    case round =>
      obtain ⟨j, g, c, hj, rfl, rfl, rfl, ov, hB⟩ := hrel
      by_cases h7 : j < 7
      · obtain ⟨q, hq⟩ : ∃ q, s / 256 ^ j = q := ⟨_, rfl⟩
        have hq2 : q < 18446744073709551616 := by rw [← hq]; exact Nat.lt_of_le_of_lt (Nat.div_le_self _ _) (by omega)
        have HN : Hid (s / 256 ^ (j + 1) = q / 256) := by show _ = _; rw [Nat.pow_succ, ← Nat.div_div_eq_div_mul, hq]
        have HS : Hid ((tailB s k).take (j + 1 + 1) = (tailB s k).take (j + 1) ++ [UInt8.ofNat (q % 256)]) := by show _ = _; rw [tail_step s k j h7, hq]
        rw [hq]
        clear hq
        have hub : Value.int .u8 ((q : Int) % 256) = .int .u8 ((UInt8.ofNat (q % 256)).toNat : Int) := by congr 1; simp
        obtain ⟨bq, hbq⟩ : ∃ bq, UInt8.ofNat (q % 256) = bq := ⟨_, rfl⟩
        rw [hbq] at hub HS
        clear hbq
        obtain ⟨pl, hpl⟩ : ∃ pl, tb ++ (tailB s k).take (j + 1) = pl := ⟨_, rfl⟩
        have hpn : pl.length = tb.length + 1 + j := by rw [← hpl, List.length_append, List.length_take]; have : (tailB s k).length = 8 := rfl; omega
        have HP : Hid (tb ++ (tailB s k).take (j + 1 + 1) = pl ++ [bq]) := by show _ = _; rw [HS.out, ← List.append_assoc, hpl]
        rw [hpl] at ov
        clear hpl HS
        have hrow := ov.row
        rw [hpn] at hrow
        have hrowa := hrow.alloc (.cells #[.int .u8 (bq.toNat : Int)] 5)
        have hlit := (lit_row wr wr.heap.size (Nat.le_refl _) bq).cells rfl
        have hlt := ov.lt
        go_wp2_with (at_builtin; refine wpList_append_own _ rfl (.tmp 23) (.tmp 27) 22 rfl (w.heap.size + 1) 5 i0 (.int .u8 0) 1 1 Try.underlying22 hi hz0 hz1 hz2 rfl (by decide) (.slice (some ⟨g, 0, none⟩) (tb.length + 1 + j) c) (tb.length + 1 + j) (bv pl) rfl hrowa ⟨wr.heap.size, 0, none⟩ 1 1 (bv [bq]) rfl rfl hlit (bv_one _) (by simp only [maxLen]; omega) (by omega) (by simp; omega) ?_; intro v' w2 ho' hgr' hn'; obtain ⟨g2, c2, hvv, hk1, hk2, ov2⟩ := app_shape ho' hpn rfl (fun e => by have := (hn'.1 e).1; cases this); subst hvv)
        go_roundg (gk - 1)
        case measure => omega
        case rel => exact ⟨j + 1, g2, c2, by omega, by go_num, by rw [HN.out]; go_num, rfl, by rw [HP.out]; exact ov2, (hB.alloc hB.size _).grown hgr' (Nat.le_trans hB.size (by simp)) (fun k' e => by have := (hrow.lt k' e).1; omega)⟩
      · obtain rfl : j = 7 := by omega
        have e8 : Hid ((tailB s k).take (7 + 1) = tailB s k) := rfl
        rw [e8.out] at ov
        go_wp2
        go_ret2
        exact ⟨_, rfl, by rw [HKB.out]; exact ov.mono (Nat.le_succ _), hB⟩

end Go.Proofs.Ytofejeplkbchoaa
