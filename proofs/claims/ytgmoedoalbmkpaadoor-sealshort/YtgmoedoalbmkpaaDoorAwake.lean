/- awake answers true: the document's examples of layer 2. -/
import Derived.Test.YtgmoedoalbmkpaaDoorClose
import Derived.Lib.SlBytesConst
namespace Go.Proofs.YtgmoedoalbmkpaaDoor
open Go.RowKit

theorem ex1 : Crc.sum [49, 50, 51, 52, 53, 54, 55, 56, 57] = 3808858755 := by decide +kernel
theorem ex2 : sealB [] = [216, 234, 130, 162] := by decide +kernel

theorem rd_mark (w : World) (l : List UInt8) (h : l.length ≤ maxLen) (fr : Nat × Nat) (cs : Array Value) (hc : cs = (bv l).toArray) : Rd (w.alloc (.cells cs 5 fr)) (.slice (some ⟨w.heap.size, 0, none⟩) l.length l.length) l := by
  subst hc
  refine .inr ⟨w.heap.size, 0, l.length, rfl, Nat.le_refl _, h, fun j u hu => ?_⟩
  rw [Nat.zero_add, World.cell?_alloc_mark]
  simpa using hu

theorem rdl_at (w : World) (v : Value) (l : List UInt8) (h : Rd w v l) (n : Nat) (hn : w.heap.size = n) : RdL (w.alloc (.cells #[v] 24)) (.slice (some ⟨n, 0, none⟩) 1 1) [l] := by
  subst hn
  exact rdl_one w v l h

set_option maxHeartbeats 1000000 in
theorem awake_any (w : World) (ht : Tab w) : Calls Tryd.prog 10 #[] w fun e w' => e = .returned (.bool true) ∧ Below w.heap.size w w' := by
  have kc := fun (w : World) (C : Array Value) (n c : Nat) => Lib.run_convert_bytes_const (P := Tryd.prog) w 24 5 C n c Tryd.underlying24 Tryd.underlying5
  go_enter Tryd.func10, Tryd.ntmps10
  go_wp2_with fail
  have hR := rd_mark w [49, 50, 51, 52, 53, 54, 55, 56, 57] (by simp [maxLen]) (9, 10) _ rfl
  have hB1 : Below w.heap.size w (w.alloc (.cells (bv [49, 50, 51, 52, 53, 54, 55, 56, 57]).toArray 5 (9, 10))) := (Below.refl _ _).alloc (Nat.le_refl _) _
  have hB2 := hB1.alloc hB1.size (.cells #[.slice (some ⟨w.heap.size, 0, none⟩) 9 9] 24)
  have hT2 := ht.below hB2 (Nat.le_refl _)
  refine (sum_any _ _ [[49, 50, 51, 52, 53, 54, 55, 56, 57]] (rdl_at _ _ _ hR _ (by simp)) hT2).mono ?_
  rintro e w1 ⟨rfl, hw⟩
  subst hw
  have e1 : Crc.sum [[49, 50, 51, 52, 53, 54, 55, 56, 57]].flatten = 3808858755 := ex1
  rw [e1]
  clear hR hB1 e1
  generalize hW : (w.alloc (.cells (bv [49, 50, 51, 52, 53, 54, 55, 56, 57]).toArray 5 (9, 10))).alloc (.cells #[.slice (some ⟨w.heap.size, 0, none⟩) 9 9] 24) = W at hB2 hT2
  clear hW
  have e2 : ((3808858755 : Nat) : Int) = 3808858755 := by omega
  rw [e2]
  clear e2
  go_wp2_with fail
  refine (close_any _ _ [] (.inl ⟨rfl, rfl⟩) (by simp) hT2).mono ?_
  rintro e w2 ⟨x, rfl, ox, hb2⟩
  rw [ex2] at ox
  have hB3 := hB2.trans (hb2.mono hB2.size)
  clear hb2 hB2 hT2
  go_wp2_with fail
  refine (same_b _ _ _ [216, 234, 130, 162] [216, 234, 130, 162] true (ox.rd.below ((Below.refl _ _).alloc (Nat.le_refl _) _) (Nat.le_refl _)) (rd_lit _ [216, 234, 130, 162] (by simp [maxLen]) _ rfl) (by simp)).mono ?_
  rintro e w3 ⟨rfl, hw⟩
  subst hw
  have hB4 := hB3.alloc hB3.size (.cells #[.int .u8 216, .int .u8 234, .int .u8 130, .int .u8 162] 5)
  go_wp2
  go_ret
  exact ⟨rfl, hB4⟩

end Go.Proofs.YtgmoedoalbmkpaaDoor
