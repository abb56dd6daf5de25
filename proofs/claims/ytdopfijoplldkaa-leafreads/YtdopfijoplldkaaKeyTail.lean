/- ikey.tail: Seq and Kind as eight bytes, the lowest first. -/
import Derived.Test.YtdopfijoplldkaaKeySmall
import Derived.Test.YtdopfijoplldkaaWide
import Derived.Laws.BitsAllLaws
namespace Go.Proofs.Ytdopfijoplldkaa
open Go.RowKit

/-- Seq and Kind as eight bytes, the lowest first -/
def tailB (s k : Nat) : List UInt8 :=
  [UInt8.ofNat k, UInt8.ofNat (s % 256), UInt8.ofNat (s / 256 % 256), UInt8.ofNat (s / 65536 % 256), UInt8.ofNat (s / 16777216 % 256), UInt8.ofNat (s / 4294967296 % 256), UInt8.ofNat (s / 1099511627776 % 256), UInt8.ofNat (s / 281474976710656 % 256)]

theorem tail_or (s k : Nat) (hs : s ≤ 72057594037927935) (hk : k < 256) : bits BinOp.or IntKind.u64 ((s : Int) * 256) (k : Int) = ((s * 256 + k : Nat) : Int) := by
  have e : ((s : Int) * 256) = ((s * 256 : Nat) : Int) := by simp
  rw [e, u64_or_nat _ _ (by omega) (by omega), nat_join8 _ _ (by omega) (by omega)]

theorem stored8 {w : World} {B g : Nat} {xs : List Value} {u0 u1 u2 u3 u4 u5 u6 u7 : Value} (h : w.ownsRow B 5 1 (.slice (some ⟨g, 0, none⟩) 8 8) 8 xs) (hx : xs.length = 8) :
    ((((((((w.setCell ⟨g, 0, none⟩ u0).setCell ⟨g, 1, none⟩ u1).setCell ⟨g, 2, none⟩ u2).setCell ⟨g, 3, none⟩ u3).setCell ⟨g, 4, none⟩ u4).setCell ⟨g, 5, none⟩ u5).setCell ⟨g, 6, none⟩ u6).setCell ⟨g, 7, none⟩ u7).ownsRow B 5 1 (.slice (some ⟨g, 0, none⟩) 8 8) 8 [u0, u1, u2, u3, u4, u5, u6, u7] := by
  have h0 := (h.stored 0 u0).1
  have h1 := (h0.stored 1 u1).1
  have h2 := (h1.stored 2 u2).1
  have h3 := (h2.stored 3 u3).1
  have h4 := (h3.stored 4 u4).1
  have h5 := (h4.stored 5 u5).1
  have h6 := (h5.stored 6 u6).1
  have h7 := (h6.stored 7 u7).1
  match xs, hx with
  | [_, _, _, _, _, _, _, _], _ => exact h7

set_option maxHeartbeats 2000000 in
set_option maxRecDepth 20000 in
theorem tail_walk (w : World) (v : Value) (s k N : Int) (hs : 0 ≤ s) (hs2 : s ≤ 72057594037927935) (hk : 0 ≤ k) (hk2 : k < 256) (hN : bits BinOp.or IntKind.u64 (s * 256) k = N) (hn0 : 0 ≤ N) (hn1 : N ≤ 18446744073709551615) :
    Calls Try.prog 57 #[.agg #[v, .int .u64 s, .int .u8 k]] w fun e w' => ∃ x, e = .returned x ∧ Own w.heap.size w' x [UInt8.ofNat (N % 256).toNat, UInt8.ofNat (N / 256 % 256).toNat, UInt8.ofNat (N / 65536 % 256).toNat, UInt8.ofNat (N / 16777216 % 256).toNat, UInt8.ofNat (N / 4294967296 % 256).toNat, UInt8.ofNat (N / 1099511627776 % 256).toNat, UInt8.ofNat (N / 281474976710656 % 256).toNat, UInt8.ofNat (N / 72057594037927936).toNat] ∧ Below w.heap.size w w' := by
  obtain ⟨i0, hi, hz0, hz1, hz2⟩ := info_parts info5
  go_enter Try.func57, Try.ntmps57
  go_wp2_with (at_make; refine wpList_make_full _ rfl (.const (.int .i64 8)) (.const (.int .i64 8)) 26 rfl (w.heap.size + 1) 5 i0 (.int .u8 0) 1 Try.underlying26 hi hz0 hz1 .i64 .i64 _ _ 8 rfl rfl (by omega) (by omega) (by rw [hz2]; omega) (by simp only [maxLen]; omega) (by simp) ?_; intro w1 hown hgr)
  have hb1 : Below w.heap.size w w1 := (below_box w _ _).grown hgr (by simp) (fun k h => by cases h)
  rw [show (w.alloc (.cells #[v, .int .u64 s, .int .u8 k] 37)).heap.size = w.heap.size + 1 by simp] at hown
  have f0 := hown.frozenAt 0
  have f1 := hown.frozenAt 1
  have f2 := hown.frozenAt 2
  have f3 := hown.frozenAt 3
  have f4 := hown.frozenAt 4
  have f5 := hown.frozenAt 5
  have f6 := hown.frozenAt 6
  have f7 := hown.frozenAt 7
  obtain ⟨q0, c0⟩ := cell_owned hown 0 (by omega)
  obtain ⟨q1, c1⟩ := cell_owned hown 1 (by omega)
  obtain ⟨q2, c2⟩ := cell_owned hown 2 (by omega)
  obtain ⟨q3, c3⟩ := cell_owned hown 3 (by omega)
  obtain ⟨q4, c4⟩ := cell_owned hown 4 (by omega)
  obtain ⟨q5, c5⟩ := cell_owned hown 5 (by omega)
  obtain ⟨q6, c6⟩ := cell_owned hown 6 (by omega)
  obtain ⟨q7, c7⟩ := cell_owned hown 7 (by omega)
  have HO : Hid _ := hown
  clear hown hgr hN
  refine wp_loop_rounds 9 ?_
  rw [rounds_succ]
  go_wp2
  rw [rounds_succ]
  go_wp2
  rw [rounds_succ]
  go_wp2
  rw [rounds_succ]
  go_wp2
  rw [rounds_succ]
  go_wp2
  rw [rounds_succ]
  go_wp2
  rw [rounds_succ]
  go_wp2
  rw [rounds_succ]
  go_wp2
  rw [rounds_succ]
  go_wp2
  go_ret
  refine ⟨_, rfl, ?_, ?_⟩
  · have hst := stored8 (u0 := .int .u8 (N % 256)) (u1 := .int .u8 (N / 256 % 256)) (u2 := .int .u8 (N / 65536 % 256)) (u3 := .int .u8 (N / 16777216 % 256)) (u4 := .int .u8 (N / 4294967296 % 256)) (u5 := .int .u8 (N / 1099511627776 % 256)) (u6 := .int .u8 (N / 281474976710656 % 256)) (u7 := .int .u8 (N / 72057594037927936)) HO.out (by rw [made_list 8]; rfl)
    refine Own.mono (B := w.heap.size + 1) (Own.of_row ?_ (by simp)) (Nat.le_succ _)
    have e : bv [UInt8.ofNat (N % 256).toNat, UInt8.ofNat (N / 256 % 256).toNat, UInt8.ofNat (N / 65536 % 256).toNat, UInt8.ofNat (N / 16777216 % 256).toNat, UInt8.ofNat (N / 4294967296 % 256).toNat, UInt8.ofNat (N / 1099511627776 % 256).toNat, UInt8.ofNat (N / 281474976710656 % 256).toNat, UInt8.ofNat (N / 72057594037927936).toNat]
        = [.int .u8 (N % 256), .int .u8 (N / 256 % 256), .int .u8 (N / 65536 % 256), .int .u8 (N / 16777216 % 256), .int .u8 (N / 4294967296 % 256), .int .u8 (N / 1099511627776 % 256), .int .u8 (N / 281474976710656 % 256), .int .u8 (N / 72057594037927936)] := by
      simp only [bv, List.map_cons, List.map_nil]
      rw [← u8_of _ (by omega) (by omega), ← u8_of _ (by omega) (by omega), ← u8_of _ (by omega) (by omega), ← u8_of _ (by omega) (by omega), ← u8_of _ (by omega) (by omega), ← u8_of _ (by omega) (by omega), ← u8_of _ (by omega) (by omega), ← u8_of _ (by omega) (by omega)]
    rw [e]
    exact hst
  · exact (((((((hb1.setCell (Nat.le_succ _) _).setCell (Nat.le_succ _) _).setCell (Nat.le_succ _) _).setCell (Nat.le_succ _) _).setCell (Nat.le_succ _) _).setCell (Nat.le_succ _) _).setCell (Nat.le_succ _) _).setCell (Nat.le_succ _) _

theorem tail_any (w : World) (v : Value) (s k : Nat) (hs : s ≤ 72057594037927935) (hk : k < 256) :
    Calls Try.prog 57 #[.agg #[v, .int .u64 (s : Int), .int .u8 (k : Int)]] w fun e w' => ∃ x, e = .returned x ∧ Own w.heap.size w' x (tailB s k) ∧ Below w.heap.size w w' := by
  refine (tail_walk w v s k _ (by omega) (by omega) (by omega) (by omega) (tail_or s k hs hk) (by omega) (by omega)).mono ?_
  rintro e w' ⟨x, he, ho, hb⟩
  refine ⟨x, he, ?_, hb⟩
  have e : [UInt8.ofNat (((s * 256 + k : Nat) : Int) % 256).toNat, UInt8.ofNat (((s * 256 + k : Nat) : Int) / 256 % 256).toNat, UInt8.ofNat (((s * 256 + k : Nat) : Int) / 65536 % 256).toNat, UInt8.ofNat (((s * 256 + k : Nat) : Int) / 16777216 % 256).toNat, UInt8.ofNat (((s * 256 + k : Nat) : Int) / 4294967296 % 256).toNat, UInt8.ofNat (((s * 256 + k : Nat) : Int) / 1099511627776 % 256).toNat, UInt8.ofNat (((s * 256 + k : Nat) : Int) / 281474976710656 % 256).toNat, UInt8.ofNat (((s * 256 + k : Nat) : Int) / 72057594037927936).toNat] = tailB s k := by
    unfold tailB
    congr 1
    · congr 1; omega
    congr 1
    · congr 1; omega
    congr 1
    · congr 1; omega
    congr 1
    · congr 1; omega
    congr 1
    · congr 1; omega
    congr 1
    · congr 1; omega
    congr 1
    · congr 1; omega
    congr 1
    · congr 1; omega
  rw [← e]
  exact ho

end Go.Proofs.Ytdopfijoplldkaa
