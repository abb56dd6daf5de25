/- ikey.Read. -/
import Derived.Test.YtdopfijoplldkaaKeyLow
import Derived.Test.YtdopfijoplldkaaTextAny
import Derived.Test.YtdopfijoplldkaaKeyCheck
namespace Go.Proofs.Ytdopfijoplldkaa
open Go.RowKit

theorem kr_err (w : World) (v : Value) (l u r : List UInt8) (e : Nat) (hv : Rd w v l) (hlen : l.length ≤ 1000000) (hT : textS l 64 = (u, r, e)) (he : ¬ e = 0) :
    Calls Try.prog 67 #[v] w fun o w' => o = .returned (.tuple #[.agg #[.slice none 0 0, .int .u64 0, .int .u8 0], .slice none 0 0, .int .i64 (e : Int)]) ∧ Below w.heap.size w w' := by
  have b0 := box_new w (.slice none 0 0) (.int .u64 0) (.int .u8 0) 37
  have hB0 := below_box w #[.slice none 0 0, .int .u64 0, .int .u8 0] 37
  have hv0 := hv.below hB0 (Nat.le_refl _)
  have HT : Hid _ := hT
  have heb : ((e : Int) != 0) = true := by simp; omega
  have heb2 : ((e : Int) == 0) = false := by simp; omega
  clear hv hT he
  go_enter Try.func67, Try.ntmps67
  go_wp2_with fail
  refine (text_any _ _ l 64 (by omega) hv0 (by omega)).mono ?_
  rintro o w1 ⟨x, y, rfl, rx, ry, fx, fy, hb⟩
  rw [HT.out]
  have hB1 := hB0.trans (hb.mono hB0.size)
  obtain ⟨c0, c1, c2, f0, f1, f2⟩ := b0.below hb (Nat.le_refl _)
  clear b0 hv0 rx ry fx fy hb hB0
  go_wp2
  refine bodyPost_ret (v := .tuple #[.agg #[.slice none 0 0, .int .u64 0, .int .u8 0], .slice none 0 0, .int .i64 (e : Int)]) (by simp [results, Try.results67, go_sem, c0, c1, c2]) rfl ⟨rfl, below_store3 hB1 (Nat.le_refl _) _ _ _⟩

theorem kr_short (w : World) (v : Value) (l u r : List UInt8) (hv : Rd w v l) (hlen : l.length ≤ 1000000) (hT : textS l 64 = (u, r, 0)) (hr : r.length < 8) :
    Calls Try.prog 67 #[v] w fun o w' => o = .returned (.tuple #[.agg #[.slice none 0 0, .int .u64 0, .int .u8 0], .slice none 0 0, .int .i64 2]) ∧ Below w.heap.size w w' := by
  have b0 := box_new w (.slice none 0 0) (.int .u64 0) (.int .u8 0) 37
  have hB0 := below_box w #[.slice none 0 0, .int .u64 0, .int .u8 0] 37
  have hv0 := hv.below hB0 (Nat.le_refl _)
  have HT : Hid _ := hT
  clear hv hT
  go_enter Try.func67, Try.ntmps67
  go_wp2_with fail
  refine (text_any _ _ l 64 (by omega) hv0 (by omega)).mono ?_
  rintro o w1 ⟨x, y, rfl, rx, ry, fx, fy, hb⟩
  rw [HT.out] at ry ⊢
  have hB1 := hB0.trans (hb.mono hB0.size)
  obtain ⟨c0, c1, c2, f0, f1, f2⟩ := b0.below hb (Nat.le_refl _)
  obtain ⟨ya, yc, hy⟩ := ry.len
  subst hy
  clear b0 hv0 rx ry fx fy hb hB0
  have hr2 : (r.length : Int) < 8 := by omega
  go_wp2
  refine bodyPost_ret (v := .tuple #[.agg #[.slice none 0 0, .int .u64 0, .int .u8 0], .slice none 0 0, .int .i64 2]) (by simp [results, Try.results67, go_sem, c0, c1, c2]) rfl ⟨rfl, below_store3 hB1 (Nat.le_refl _) _ _ _⟩

theorem kr_form (w : World) (v : Value) (l u t : List UInt8) (a0 a1 a2 a3 a4 a5 a6 a7 : UInt8) (S N K c : Int) (hv : Rd w v l) (hlen : l.length ≤ 1000000) (hT : textS l 64 = (u, a0 :: a1 :: a2 :: a3 :: a4 :: a5 :: a6 :: a7 :: t, 0))
    (hN : ((seqOf a1 a2 a3 a4 a5 a6 a7 * 256 + a0.toNat : Nat) : Int) = N) (hS : N / 256 = S) (hK : N % 256 = K) (hS0 : 0 ≤ S) (hK0 : 0 ≤ K) (hc : chk u.length S K = c) (hc0 : ¬ c = 0) :
    Calls Try.prog 67 #[v] w fun o w' => o = .returned (.tuple #[.agg #[.slice none 0 0, .int .u64 0, .int .u8 0], .slice none 0 0, .int .i64 4]) ∧ Below w.heap.size w w' := by
  have b0 := box_new w (.slice none 0 0) (.int .u64 0) (.int .u8 0) 37
  have hB0 := below_box w #[.slice none 0 0, .int .u64 0, .int .u8 0] 37
  have hv0 := hv.below hB0 (Nat.le_refl _)
  have HT : Hid _ := hT
  have HN : Hid _ := hN
  have HC : Hid _ := hc
  have hcb : (c != 0) = true := by simp [hc0]
  clear hv hT hN hc
  obtain ⟨r, hr⟩ : ∃ r, a0 :: a1 :: a2 :: a3 :: a4 :: a5 :: a6 :: a7 :: t = r := ⟨_, rfl⟩
  have hrl : 8 ≤ r.length := by rw [← hr]; simp
  have HR : Hid _ := hr
  rw [hr] at HT
  clear hr
  go_enter Try.func67, Try.ntmps67
  go_wp2_with fail
  refine (text_any _ _ l 64 (by omega) hv0 (by omega)).mono ?_
  rintro o w1 ⟨x, y, rfl, rx, ry, fx, fy, hb⟩
  rw [HT.out] at rx ry ⊢
  have hB1 := hB0.trans (hb.mono hB0.size)
  have b1 := b0.below hb (Nat.le_refl _)
  obtain ⟨ya, yc, hy⟩ := ry.len
  subst hy
  obtain ⟨xa, xc, hx⟩ := rx.len
  subst hx
  clear b0 hv0 fx fy hb hB0
  have hr2 : (8 : Int) ≤ (r.length : Int) := by omega
  go_wp2_with fail
  refine (klow_any _ _ a0 a1 a2 a3 a4 a5 a6 a7 t (by rw [HR.out]; exact ry)).mono ?_
  rintro o w2 ⟨rfl, hw⟩
  subst hw
  rw [HN.out]
  go_wp2_with fail
  refine (check_any _ xa u.length xc S K hS0 hK0).mono ?_
  rintro o w3 ⟨rfl, hb⟩
  rw [HC.out]
  have b2 := (b1.alloc (.cells #[.slice xa u.length xc, .int .u64 S, .int .u8 K] 37)).below hb (Nat.le_refl _)
  have hB2 := (hB1.alloc hB1.size (.cells #[.slice xa u.length xc, .int .u64 S, .int .u8 K] 37)).trans (hb.mono (Nat.le_trans hB1.size (by simp)))
  obtain ⟨c0, c1, c2, f0, f1, f2⟩ := b2
  clear b1 hB1 hb rx ry
  go_wp2
  refine bodyPost_ret (v := .tuple #[.agg #[.slice none 0 0, .int .u64 0, .int .u8 0], .slice none 0 0, .int .i64 4]) (by simp [results, Try.results67, go_sem, c0, c1, c2]) rfl ⟨rfl, below_store3 hB2 (Nat.le_refl _) _ _ _⟩

end Go.Proofs.Ytdopfijoplldkaa
