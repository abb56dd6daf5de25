/- small: a version whose key is cut; key: a version of a text. -/
import Derived.Test.YtofejeplkbchoaaConvStr
import Derived.Test.YtofejeplkbchoaaKeyCheck
namespace Go.Proofs.Ytofejeplkbchoaa
open Go.RowKit

theorem small_any (w : World) (v : Value) (l : List UInt8) (s k : Int) (hv : Arg w v l) :
    Calls Try.prog 6 #[.agg #[v, .int .u64 s, .int .u8 k]] w fun e w' => ∃ x, e = .returned (.agg #[x, .int .u64 s, .int .u8 k]) ∧ Own w.heap.size w' x (l.take 80) ∧ Below w.heap.size w w' := by
  have hsh : ∃ ao cap, v = .slice ao l.length cap := by
    rcases hv with ⟨rfl, rfl⟩ | ⟨a, cap, rfl, _⟩
    · exact ⟨_, _, rfl⟩
    · exact ⟨_, _, rfl⟩
  obtain ⟨ao, cap, rfl⟩ := hsh
  obtain ⟨c, hc⟩ : ∃ c, l.take 80 = c := ⟨_, rfl⟩
  have HC : Hid _ := hc
  rw [hc]
  clear hc
  have b1 := (box_new w (.slice ao l.length cap) (.int .u64 s) (.int .u8 k) 25).alloc (.cells #[.slice none 0 0, .int .u64 0, .int .u8 0] 25)
  have b2 := box_new (w.alloc (.cells #[.slice ao l.length cap, .int .u64 s, .int .u8 k] 25)) (.slice none 0 0) (.int .u64 0) (.int .u8 0) 25
  have hB : Below w.heap.size w ((w.alloc (.cells #[.slice ao l.length cap, .int .u64 s, .int .u8 k] 25)).alloc (.cells #[.slice none 0 0, .int .u64 0, .int .u8 0] 25)) := ((Below.refl _ _).alloc (Nat.le_refl _) _).alloc (by simp) _
  have hv' := hv.below hB (Nat.le_refl _)
  clear hv
  go_enter Try.func6, Try.ntmps6
  go_wp2_with fail
  refine (cut_any _ _ l 80 hv' (by omega)).mono ?_
  rintro e w1 ⟨x, rfl, ox, hb⟩
  rw [HC.out] at ox
  obtain ⟨c0, c1, c2, f0, f1, f2⟩ := b1.below hb (Nat.le_refl _)
  obtain ⟨d0, d1, d2, g0, g1, g2⟩ := b2.below hb (Nat.le_refl _)
  have hsz : (w.alloc (.cells #[.slice ao l.length cap, .int .u64 s, .int .u8 k] 25)).heap.size = w.heap.size + 1 := by simp
  rw [hsz] at d0 d1 d2 g0 g1 g2
  obtain ⟨gx, kx, hx⟩ := ox.shape
  subst hx
  clear b1 b2 hv'
  go_wp2
  have hg := ox.lt.1
  have hg2 : w.heap.size + 2 ≤ gx := by simpa using hg
  refine bodyPost_ret (v := .agg #[.slice (some ⟨gx, 0, none⟩) c.length kx, .int .u64 s, .int .u8 k]) (by simp [results, Try.results6, go_sem, d0, d1, d2]) rfl ⟨_, rfl, ?_, ?_⟩
  · exact ((((ox.other ⟨w.heap.size, 0, none⟩ (by show gx ≠ w.heap.size; omega) _).other ⟨w.heap.size + 1, 0, none⟩ (by show gx ≠ w.heap.size + 1; omega) _).other ⟨w.heap.size + 1, 1, none⟩ (by show gx ≠ w.heap.size + 1; omega) _).other ⟨w.heap.size + 1, 2, none⟩ (by show gx ≠ w.heap.size + 1; omega) _).mono (by simp; omega)
  · exact ((((hB.trans (hb.mono hB.size)).setCell (p := ⟨w.heap.size, 0, none⟩) (Nat.le_refl _) _).setCell (p := ⟨w.heap.size + 1, 0, none⟩) (Nat.le_succ _) _).setCell (p := ⟨w.heap.size + 1, 1, none⟩) (Nat.le_succ _) _).setCell (p := ⟨w.heap.size + 1, 2, none⟩) (Nat.le_succ _) _

theorem key_any (w : World) (s k : Int) (t : ByteArray) (l : List UInt8) (hl : t.data.toList = l) (hm : l.length ≤ 100) :
    Calls Try.prog 16 #[.string t, .int .u64 s, .int .u8 k] w fun e w' => ∃ x, e = .returned (.agg #[x, .int .u64 s, .int .u8 k]) ∧ Rd w' x l ∧ Below w.heap.size w w' := by
  have hb0 := below_box w #[.slice none 0 0, .int .u64 0, .int .u8 0] 25
  have b1 := box_new w (.slice none 0 0) (.int .u64 0) (.int .u8 0) 25
  obtain ⟨cap, w1, hrun, hrd, hb, hs⟩ := conv_str (w.alloc (.cells #[.slice none 0 0, .int .u64 0, .int .u8 0] 25)) t l hl hm
  obtain ⟨d0, d1, d2, g0, g1, g2⟩ := b1.below hb (Nat.le_refl _)
  have hsz : (w.alloc (.cells #[.slice none 0 0, .int .u64 0, .int .u8 0] 25)).heap.size = w.heap.size + 1 := by simp
  rw [hsz] at hrun hrd
  have HS : Hid _ := hs
  clear hl b1 hs hsz
  go_enter Try.func16, Try.ntmps16
  go_wp2
  refine bodyPost_ret (v := .agg #[.slice (some ⟨w.heap.size + 1, 0, none⟩) l.length cap, .int .u64 s, .int .u8 k]) (by simp [results, Try.results16, go_sem, d0, d1, d2]) rfl ⟨_, rfl, ?_, ?_⟩
  · exact ((hrd.other ⟨w.heap.size, 0, none⟩ (by show w.heap.size + 1 ≠ w.heap.size; omega) _).other ⟨w.heap.size, 1, none⟩ (by show w.heap.size + 1 ≠ w.heap.size; omega) _).other ⟨w.heap.size, 2, none⟩ (by show w.heap.size + 1 ≠ w.heap.size; omega) _
  · exact (((hb0.trans (hb.mono hb0.size)).setCell (p := ⟨w.heap.size, 0, none⟩) (Nat.le_refl _) _).setCell (p := ⟨w.heap.size, 1, none⟩) (Nat.le_refl _) _).setCell (p := ⟨w.heap.size, 2, none⟩) (Nat.le_refl _) _

end Go.Proofs.Ytofejeplkbchoaa
