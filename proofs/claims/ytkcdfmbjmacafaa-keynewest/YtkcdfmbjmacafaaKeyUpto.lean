/- ikey.Upto. -/
import Derived.Test.YtkcdfmbjmacafaaClone
import Derived.Test.YtkcdfmbjmacafaaKeyCheck
namespace Go.Proofs.Ytkcdfmbjmacafaa
open Go.RowKit

theorem upto_any (w : World) (v : Value) (l : List UInt8) (s m : Int) (hv : Arg w v l) (hn : l.length ≤ 1099511627776) (hm : min s 72057594037927935 = m) :
    Calls Try.prog 24 #[v, .int .u64 s] w fun e w' => ∃ ao cap, e = .returned (.agg #[.slice ao l.length cap, .int .u64 m, .int .u8 2]) ∧ Rd w' (.slice ao l.length cap) l ∧ Below w.heap.size w w' := by
  have hm2 : (if 72057594037927935 < s then (72057594037927935 : Int) else s) = m := by split <;> omega
  have hm3 : (if s < 72057594037927935 then s else (72057594037927935 : Int)) = m := by split <;> omega
  have b0 := box_new w (.slice none 0 0) (.int .u64 0) (.int .u8 0) 25
  have hB0 := below_box w #[.slice none 0 0, .int .u64 0, .int .u8 0] 25
  have hv0 := hv.below hB0 (Nat.le_refl _)
  clear hv
  go_enter Try.func24, Try.ntmps24
  go_wp2_with fail
  refine (clone_any _ _ l hv0 hn).mono ?_
  rintro e w1 ⟨x, rfl, ox, hb⟩
  have hsz : (w.alloc (.cells #[.slice none 0 0, .int .u64 0, .int .u8 0] 25)).heap.size = w.heap.size + 1 := by simp
  rw [hsz] at ox
  have hB1 := hB0.trans (hb.mono hB0.size)
  have b1 := b0.below hb (Nat.le_refl _)
  obtain ⟨c0, c1, c2, f0, f1, f2⟩ := b1
  have hrd : ∃ ao cap, x = .slice ao l.length cap ∧ ∀ u0 u1 u2, Rd (((w1.setCell ⟨w.heap.size, 0, none⟩ u0).setCell ⟨w.heap.size, 1, none⟩ u1).setCell ⟨w.heap.size, 2, none⟩ u2) (.slice ao l.length cap) l := by
    rcases ox with ⟨rfl, rfl⟩ | ox
    · exact ⟨none, 0, rfl, fun _ _ _ => .inl ⟨rfl, rfl⟩⟩
    · obtain ⟨g, k, rfl⟩ := ox.shape
      have := ox.lt.1
      exact ⟨_, _, rfl, fun u0 u1 u2 => ox.rd.store3 (by omega) u0 u1 u2⟩
  obtain ⟨ao, cap, rfl, hrd⟩ := hrd
  have HR : Hid _ := hrd
  clear ox b0 hb hv0 hB0 hsz hrd
  go_wp2
  all_goals
    refine bodyPost_ret (v := .agg #[.slice ao l.length cap, .int .u64 m, .int .u8 2]) (by simp [results, Try.results24, go_sem, c0, c1, c2]) rfl ⟨ao, cap, rfl, ?_, ?_⟩
    · exact HR.out _ _ _
    · exact below_store3 hB1 (Nat.le_refl _) _ _ _

end Go.Proofs.Ytkcdfmbjmacafaa
