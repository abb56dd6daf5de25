/- (*skip.List).row, Len. -/
import Derived.Test.YthcoblmfmbmdkaaSkRow
namespace Go.Proofs.Ythcoblmfmbmdkaa
open Go.RowKit Go.Shelf
set_option linter.unusedVariables false

attribute [local go_sem] Oper.semAt_some

theorem skrow_any (w : World) (pv : Option Addr) (h : Int) :
    Calls Try.prog 60 #[.pointer pv, .int .i64 h] w fun e w' => e = .returned (.func (.func 72) #[] #[.pointer (some ⟨w.heap.size, 0, none⟩), .pointer (some ⟨w.heap.size + 1, 0, none⟩)]) ∧ w' = (w.alloc (.cells #[.pointer pv] 79)).alloc (.cells #[.int .i64 h] 3) := by
  go_enter Try.func60, Try.ntmps60
  go_wp2
  go_ret
  exact ⟨by simp, rfl⟩

theorem rd_one_cell (W : World) (v : Value) (t : TypeId) : (W.alloc (.cells #[v] t)).cell? ⟨W.heap.size, 0, none⟩ = some v := by
  unfold World.cell?
  rw [heap_alloc_new]
  rfl
theorem cell_new_l (W : World) (v : Value) (t : TypeId) : (W.alloc (.cells #[v] t)).cell? ⟨W.heap.size, 0, none⟩ = some v ∧ (W.alloc (.cells #[v] t)).frozen? ⟨W.heap.size, 0, none⟩ = false := ⟨(rd_one_cell W v t), frozen_of_row (W.alloc (.cells #[v] t)) W.heap.size 0 _ t (heap_alloc_new W (.cells #[v] t))⟩
theorem cell_alloc_l {W : World} {a : Addr} {v : Value} (o : Obj) (h : W.cell? a = some v) : (W.alloc o).cell? a = some v := cell_kept h (World.grownBy_alloc W o none) (fun r e => by cases e)
theorem frozen_alloc_l {W : World} {a : Addr} {v : Value} (o : Obj) (h : W.cell? a = some v) (hf : W.frozen? a = false) : (W.alloc o).frozen? a = false := (frozen_kept h (World.grownBy_alloc W o none) (fun r e => by cases e)).trans hf

theorem row_low {ts : List Tow} (hh : ∀ t ∈ ts, 1 ≤ t.h ∧ t.h ≤ 8) : rowT ts 0 = ts := by
  unfold rowT
  rw [List.filter_eq_self]
  intro t ht
  have := (hh t ht).1
  simp
  omega

theorem kpR_set {n0 Bh b : Nat} {W : World} (h1 : n0 ≤ b) (h2 : Bh ≠ b) (i : Nat) (u : Value) : KpR n0 Bh W (W.setCell ⟨b, i, none⟩ u) :=
  ⟨(Below.refl n0 W).setCell (p := ⟨b, i, none⟩) h1 u, fun v hv => by rw [cell_other W ⟨b, i, none⟩ ⟨Bh, 0, none⟩ u h2]; exact hv⟩

end Go.Proofs.Ythcoblmfmbmdkaa
