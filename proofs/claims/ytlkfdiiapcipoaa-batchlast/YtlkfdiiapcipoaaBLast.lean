/- What BatchLast wants. -/
import Derived.Test.YtlkfdiiapcipoaaBChecksWalk
import Derived.Test.YtlkfdiiapcipoaaOpSame
import Derived.Test.YtlkfdiiapcipoaaOpCopy
namespace Go.Proofs.Ytlkfdiiapcipoaa
open Go.RowKit

theorem overO_snoc (os : List OpB) (o : OpB) (key : List UInt8) : overO (os ++ [o]) key = if covB o key = true then some o else overO os key := by
  unfold overO
  rw [List.reverse_append, List.reverse_singleton, List.singleton_append, List.find?_cons]
  cases covB o key <;> rfl

theorem rd_ownN {B : Nat} {w : World} {v : Value} {l : List UInt8} (h : OwnN B w v l) : Rd w v l := h.rd

theorem lso_cells {w : World} {g k : Nat} {o : OpB} (h : RdO w (.slice (some ⟨g, 0, none⟩) 1 k) [o]) : ∃ x y, w.cell? ⟨g, 0, none⟩ = some (.int .u8 (o.1.toNat : Int)) ∧ w.cell? ⟨g, 1, none⟩ = some x ∧ w.cell? ⟨g, 2, none⟩ = some y ∧ Rd w x o.2.1 ∧ Rd w y o.2.2 := by
  obtain ⟨a, c, e, _, _, h3⟩ := h
  cases e
  obtain ⟨b, off, e, x, y, c0, c1, c2, r1, r2⟩ := h3 0 (by simp)
  cases e
  exact ⟨x, y, by simpa using c0, by simpa using c1, by simpa using c2, r1, r2⟩

theorem own_one {B : Nat} {w : World} {v : Value} {o : OpB} (h : OwnO B w v [o]) : ∃ g k, v = .slice (some ⟨g, 0, none⟩) 1 k ∧ B ≤ g ∧ g < w.heap.size := by
  obtain ⟨cs, hr, _⟩ := h
  obtain ⟨g, cap, e, h1, h2⟩ := hr.form (by simp)
  exact ⟨g, cap, e, h1, h2⟩

theorem OwnO.store3 {B : Nat} {w : World} {v : Value} {os : List OpB} (h : OwnO B w v os) {b : Nat} (hb : b < B) (u0 u1 u2 : Value) : OwnO B (((w.setCell ⟨b, 0, none⟩ u0).setCell ⟨b, 1, none⟩ u1).setCell ⟨b, 2, none⟩ u2) v os := by
  obtain ⟨cs, hr, hj⟩ := h
  refine ⟨cs, ownsRow_setCell_below (ownsRow_setCell_below (ownsRow_setCell_below hr (a := ⟨b, 0, none⟩) hb u0) (a := ⟨b, 1, none⟩) hb u1) (a := ⟨b, 2, none⟩) hb u2, fun j h => ?_⟩
  obtain ⟨x, y, c0, c1, c2, ox, oy⟩ := hj j h
  exact ⟨x, y, c0, c1, c2, ox.store3 hb u0 u1 u2, oy.store3 hb u0 u1 u2⟩

theorem argo_one (w : World) (x y : Value) (o : OpB) (hx : Arg w x o.2.1) (hy : Arg w y o.2.2) :
    ArgO (w.alloc (.cells #[.int .u8 (o.1.toNat : Int), x, y] 27)) (.slice (some ⟨w.heap.size, 0, none⟩) 1 1) [o] := by
  have hb := below_box w #[.int .u8 (o.1.toNat : Int), x, y] 27
  have b := box_new w (.int .u8 (o.1.toNat : Int)) x y 27
  refine ⟨_, 1, rfl, by simp, by simp [maxLen], fun j h => ?_⟩
  have hj : j = 0 := by simp at h; omega
  subst hj
  exact ⟨w.heap.size, 0, rfl, x, y, b.c0, b.c1, b.c2, hx.below hb (Nat.le_refl _), hy.below hb (Nat.le_refl _)⟩

theorem own_first {B : Nat} {w : World} {v : Value} {o : OpB} (h : OwnO B w v [o]) : ∃ g k x y, v = .slice (some ⟨g, 0, none⟩) 1 k ∧ B ≤ g ∧ g < w.heap.size ∧ w.cell? ⟨g, 0, none⟩ = some (.int .u8 (o.1.toNat : Int)) ∧ w.cell? ⟨g, 1, none⟩ = some x ∧ w.cell? ⟨g, 2, none⟩ = some y ∧ OwnN B w x o.2.1 ∧ OwnN B w y o.2.2 := by
  obtain ⟨cs, hr, hj⟩ := h
  obtain ⟨g, cap, rfl, h1, h2⟩ := hr.form (by simp)
  obtain ⟨x, y, c0, c1, c2, ox, oy⟩ := hj 0 (by simp)
  have hc := hr.cells (g := g) rfl
  refine ⟨g, cap, x, y, rfl, h1, h2, ?_, ?_, ?_, ox, oy⟩
  · have := hc _ _ c0; rwa [Addr.add_lit] at this
  · have := hc _ _ c1; rwa [Addr.add_lit] at this
  · have := hc _ _ c2; rwa [Addr.add_lit] at this

end Go.Proofs.Ytlkfdiiapcipoaa
