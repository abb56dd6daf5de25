/- ikey.Read, where all is right. -/
import Derived.Test.YtdopfijoplldkaaKeyRead
namespace Go.Proofs.Ytdopfijoplldkaa
open Go.RowKit

theorem Rd.stored3 {w : World} {v : Value} {l : List UInt8} {b : Nat} (h : Rd w v l) (hf : From (b + 1) v) (u0 u1 u2 : Value) : Rd (((w.setCell ⟨b, 0, none⟩ u0).setCell ⟨b, 1, none⟩ u1).setCell ⟨b, 2, none⟩ u2) v l := by
  rcases h with h | ⟨g, off, cap, rfl, h1, h2, h3⟩
  · exact .inl h
  · have hg : b + 1 ≤ g := hf _ _ _ rfl
    have : Rd w (.slice (some ⟨g, off, none⟩) l.length cap) l := .inr ⟨g, off, cap, rfl, h1, h2, h3⟩
    exact this.store3 (by omega) u0 u1 u2

set_option maxHeartbeats 2000000 in
theorem kr_ok (w : World) (v : Value) (l u t : List UInt8) (a0 a1 a2 a3 a4 a5 a6 a7 : UInt8) (S N K : Int) (hv : Rd w v l) (hlen : l.length ≤ 1000000) (hT : textS l 64 = (u, a0 :: a1 :: a2 :: a3 :: a4 :: a5 :: a6 :: a7 :: t, 0))
    (hN : ((seqOf a1 a2 a3 a4 a5 a6 a7 * 256 + a0.toNat : Nat) : Int) = N) (hS : N / 256 = S) (hK : N % 256 = K) (hS0 : 0 ≤ S) (hK0 : 0 ≤ K) (hc : chk u.length S K = 0) :
    Calls Try.prog 67 #[v] w fun o w' => ∃ x y, o = .returned (.tuple #[.agg #[x, .int .u64 S, .int .u8 K], y, .int .i64 0]) ∧ Rd w' x u ∧ Rd w' y t ∧ From (w.heap.size + 1) x ∧ From (w.heap.size + 1) y ∧ Below w.heap.size w w' := by
  have b0 := box_new w (.slice none 0 0) (.int .u64 0) (.int .u8 0) 37
  have hB0 := below_box w #[.slice none 0 0, .int .u64 0, .int .u8 0] 37
  have hv0 := hv.below hB0 (Nat.le_refl _)
  have HT : Hid _ := hT
  have HN : Hid _ := hN
  have HC : Hid _ := hc
  clear hv hT hN hc
  obtain ⟨r, hr⟩ : ∃ r, a0 :: a1 :: a2 :: a3 :: a4 :: a5 :: a6 :: a7 :: t = r := ⟨_, rfl⟩
  have hrl : 8 ≤ r.length := by rw [← hr]; simp
  have hrt : Hid (r.drop 8 = t) := by show _ = _; rw [← hr]; rfl
  have HR : Hid _ := hr
  rw [hr] at HT
  clear hr
  go_enter Try.func67, Try.ntmps67
  go_wp2_with fail
  refine (text_any _ _ l 64 (by omega) hv0 (by omega)).mono ?_
  rintro o w1 ⟨x, y, rfl, rx, ry, fx, fy, hb⟩
  rw [HT.out] at rx ry ⊢
  rw [show (w.alloc (.cells #[.slice none 0 0, .int .u64 0, .int .u8 0] 37)).heap.size = w.heap.size + 1 by simp] at fx fy
  have hB1 := hB0.trans (hb.mono hB0.size)
  have b1 := b0.below hb (Nat.le_refl _)
  obtain ⟨xa, xc, hx⟩ := rx.len
  subst hx
  obtain ⟨g, off, cap, hy, h1, h2, h3⟩ : ∃ g off cap, y = .slice (some ⟨g, off, none⟩) r.length cap ∧ r.length ≤ cap ∧ cap ≤ maxLen ∧ ∀ j u, (bv r)[j]? = some u → w1.cell? ⟨g, off + j, none⟩ = some u := by
    rcases ry with ⟨_, h⟩ | ⟨g, off, cap, h, h1, h2, h3⟩
    · exact absurd (show r = [] from h) (by intro h; rw [h] at hrl; simp at hrl)
    · exact ⟨g, off, cap, h, h1, h2, h3⟩
  subst hy
  have hgB : w.heap.size + 1 ≤ g := fy _ _ _ rfl
  obtain ⟨off', o1, o2, hD, _⟩ := rd_drop h3 h1 h2 8 hrl
  rw [hrt.out] at hD
  have h2' := h2
  unfold maxLen at h2'
  clear b0 hv0 hb hB0 h3
  have hr2 : (8 : Int) ≤ (r.length : Int) := by omega
  go_wp2_with fail
  refine (klow_any _ _ a0 a1 a2 a3 a4 a5 a6 a7 t (by rw [HR.out]; exact ry)).mono ?_
  rintro o w2 ⟨rfl, hw⟩
  subst hw
  rw [HN.out]
  go_wp2_with fail
  refine (check_any _ xa u.length xc S K hS0 hK0).mono ?_
  rintro o w3 ⟨rfl, hb⟩
  rw [HC.out]
  have hba := below_box w2 #[.slice xa u.length xc, .int .u64 S, .int .u8 K] 37
  have b2 := (b1.below hba (Nat.le_refl _)).below hb (Nat.le_refl _)
  have n2 := (box_new w2 (.slice xa u.length xc) (.int .u64 S) (.int .u8 K) 37).below hb (Nat.le_refl _)
  have rx2 := (rx.below hba (Nat.le_refl _)).below hb (Nat.le_refl _)
  have hD2 := (hD.below hba (Nat.le_refl _)).below hb (Nat.le_refl _)
  have hB2 := (hB1.trans (hba.mono hB1.size)).trans (hb.mono (Nat.le_trans hB1.size hba.size))
  have hlt := b1.lt
  have hne : ¬ w2.heap.size = w.heap.size := by omega
  obtain ⟨c0, c1, c2, f0, f1, f2⟩ := b2
  obtain ⟨d0, d1, d2, _, _, _⟩ := n2
  clear b1 hB1 hb hba rx ry hD h1 h2
  go_wp2_with fail
  have hfy : From (w.heap.size + 1) (.slice (some ⟨g, off', none⟩) (r.length - 8) (cap - 8)) := from_at hgB
  have hX := rx2.stored3 (b := w.heap.size) fx (.slice xa u.length xc) (.int .u64 S) (.int .u8 K)
  have hY := hD2.stored3 (b := w.heap.size) hfy (.slice xa u.length xc) (.int .u64 S) (.int .u8 K)
  have hZ := below_store3 hB2 (b := w.heap.size) (Nat.le_refl _) (.slice xa u.length xc) (.int .u64 S) (.int .u8 K)
  have HX : Hid _ := hX
  have HY : Hid _ := hY
  have HZ : Hid _ := hZ
  clear rx2 hD2 hB2 hX hY hZ
  by_cases hcp : cap = 8
  · have e := o2 hcp
    subst e
    have hcp' : ((cap : Int) == 8) = true := by simp; omega
    have e0 : cap - 8 = 0 := by omega
    rw [e0] at HY hfy
    clear o1 o2 e0
    go_region
    go_wp2
    refine bodyPost_ret (v := .tuple #[.agg #[.slice xa u.length xc, .int .u64 S, .int .u8 K], .slice (some ⟨g, off', none⟩) (r.length - 8) (0), .int .i64 0]) (by simp [results, Try.results67, go_sem, c0, c1, c2]) rfl ⟨_, _, rfl, ?_, ?_, fx, hfy, ?_⟩
    · exact HX.out
    · exact HY.out
    · exact HZ.out.drew
  · have e := o1 hcp
    subst e
    clear o1 o2
    go_region
    go_wp2
    refine bodyPost_ret (v := .tuple #[.agg #[.slice xa u.length xc, .int .u64 S, .int .u8 K], .slice (some ⟨g, off + 8, none⟩) (r.length - 8) (cap - 8), .int .i64 0]) (by simp [results, Try.results67, go_sem, c0, c1, c2]) rfl ⟨_, _, rfl, ?_, ?_, fx, hfy, ?_⟩
    · exact HX.out
    · exact HY.out
    · exact HZ.out.drew

end Go.Proofs.Ytdopfijoplldkaa
