/- The document's example of entries. -/
import Derived.Test.YtafnnkiobdgmdaaEntPure
import Derived.Lib.SmallJoins
namespace Go.Proofs.Ytafnnkiobdgmdaa
open Go.RowKit
set_option linter.unusedVariables false

theorem rd_mark1 (w : World) (b : UInt8) (i : Int) (hi : (b.toNat : Int) = i) : Rd (w.alloc (.cells #[.int .u8 i] 5 (1, 2))) (.slice (some ⟨w.heap.size, 0, none⟩) 1 1) [b] := by
  refine .inr ⟨w.heap.size, 0, 1, rfl, by simp, by simp [maxLen], fun j u hu => ?_⟩
  rw [World.cell?_alloc_mark]
  subst hi
  have hj : j = 0 := by have := (List.getElem?_eq_some_iff.1 hu).1; simp [bv] at this; omega
  subst hj
  simpa [bv] using hu

theorem conv_mark1 (w : World) (i : Int) (g : Nat) (hg : g = w.heap.size) : (convert 23 23 (.slice (some ⟨g, 0, none⟩) 1 1)).run Try.prog (w.alloc (.cells #[.int .u8 i] 5)) = .ok (.slice (some ⟨g, 0, none⟩) 1 1) (w.alloc (.cells #[.int .u8 i] 5 (1, 2))) :=
  Joins.run_convert_bytes_const_at w 23 5 _ 1 1 g hg Try.underlying23 Try.underlying5

theorem eex1 : noteB 3 5 [97] [] = [3, 5, 1, 97, 0] := by decide +kernel
theorem eex2 : rightB ((3 : Nat) : Int) ((5 : Nat) : Int) 1 0 = true := by decide +kernel
theorem eex3 : chkL [] = 0 := by decide +kernel

theorem five_row (w : World) (B : Nat) (hB : B ≤ w.heap.size) (a b c d e : UInt8) : (w.alloc (.cells #[.int .u8 (a.toNat : Int), .int .u8 (b.toNat : Int), .int .u8 (c.toNat : Int), .int .u8 (d.toNat : Int), .int .u8 (e.toNat : Int)] 5)).ownsRow B 5 1 (.slice (some ⟨w.heap.size, 0, none⟩) 5 5) 5 (bv [a, b, c, d, e]) :=
  World.ownsRow_lit w #[.int .u8 (a.toNat : Int), .int .u8 (b.toNat : Int), .int .u8 (c.toNat : Int), .int .u8 (d.toNat : Int), .int .u8 (e.toNat : Int)] 5 hB (by simp [maxLen]) rfl

set_option maxHeartbeats 2000000 in
set_option maxRecDepth 20000 in
theorem eawake_any (w : World) : Calls Try.prog 6 #[] w fun e w' => e = .returned (.bool true) ∧ Below w.heap.size w w' := by
  have h1 : Below w.heap.size w (w.alloc (.cells #[.int .u8 97] 5 (1, 2))) := below_box4 w _
  have r1 := rd_mark1 w 97 97 rfl
  have k1 := conv_mark1 w 97 w.heap.size rfl
  have heb := ebytes_ok (w.alloc (.cells #[.int .u8 97] 5 (1, 2))) 3 5 (some ⟨w.heap.size, 0, none⟩) 1 1 none 0 0 [97] [] (by omega) (by omega) eex2 r1 (by decide) (LsO.nil _) eex3 (by decide) (by decide)
  rw [eex1] at heb
  have e3 : ((3 : Nat) : Int) = 3 := rfl
  have e5 : ((5 : Nat) : Int) = 5 := rfl
  rw [e3, e5] at heb
  clear r1 e3 e5
  go_enter Try.func6, Try.ntmps6
  go_wp2_with fail
  refine heb.mono ?_
  rintro e wp ⟨p, rfl, op, hb⟩
  obtain ⟨gp, kp, hp⟩ := op.shape
  subst hp
  have hB := h1.trans (hb.mono h1.size)
  have hlit := (Own.of_row (l := [3, 5, 1, 97, 0]) (five_row wp wp.heap.size (Nat.le_refl _) 3 5 1 97 0) (by simp)).rd
  have op2 := op.rd.below (below_box4 wp (.cells #[.int .u8 ((3 : UInt8).toNat : Int), .int .u8 ((5 : UInt8).toNat : Int), .int .u8 ((1 : UInt8).toNat : Int), .int .u8 ((97 : UInt8).toNat : Int), .int .u8 ((0 : UInt8).toNat : Int)] 5)) (Nat.le_refl _)
  have hsm := same_b _ _ _ _ _ true op2 hlit (by decide)
  have hB2 := hB.alloc hB.size (.cells #[.int .u8 ((3 : UInt8).toNat : Int), .int .u8 ((5 : UInt8).toNat : Int), .int .u8 ((1 : UInt8).toNat : Int), .int .u8 ((97 : UInt8).toNat : Int), .int .u8 ((0 : UInt8).toNat : Int)] 5)
  rw [show ((3 : UInt8).toNat : Int) = 3 from rfl, show ((5 : UInt8).toNat : Int) = 5 from rfl, show ((1 : UInt8).toNat : Int) = 1 from rfl, show ((97 : UInt8).toNat : Int) = 97 from rfl, show ((0 : UInt8).toNat : Int) = 0 from rfl] at hsm hB2
  clear h1 hb heb k1 op hlit op2 hB
  go_wp2_with fail
  refine hsm.mono ?_
  rintro e w5 ⟨rfl, rfl⟩
  go_wp2
  go_ret
  exact ⟨rfl, hB2⟩

end Go.Proofs.Ytafnnkiobdgmdaa
