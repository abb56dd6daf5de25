/- A struct of three cells that lies in a block of its own. -/
import Derived.Test.YtgkgdbdapkgkgaaCut
import Derived.Deep.OwnRows
namespace Go.Proofs.Ytgkgdbdapkgkgaa
open Go.RowKit

/-- three cells in block b, that may be written -/
structure Box (w : World) (b : Nat) (v0 v1 v2 : Value) : Prop where
  c0 : w.cell? ⟨b, 0, none⟩ = some v0
  c1 : w.cell? ⟨b, 1, none⟩ = some v1
  c2 : w.cell? ⟨b, 2, none⟩ = some v2
  f0 : w.frozen? ⟨b, 0, none⟩ = false
  f1 : w.frozen? ⟨b, 1, none⟩ = false
  f2 : w.frozen? ⟨b, 2, none⟩ = false

theorem Box.lt {w : World} {b : Nat} {v0 v1 v2 : Value} (h : Box w b v0 v1 v2) : b < w.heap.size := World.block_lt_of_cell? w _ h.c0

theorem Box.of_row {w : World} {b : Nat} {t : TypeId} {f : Nat → Value} (h : w.rowIs b t 3 f) : Box w b (f 0) (f 1) (f 2) :=
  ⟨h.cell (by omega), h.cell (by omega), h.cell (by omega), h.frozen 0, h.frozen 1, h.frozen 2⟩

theorem box_new (w : World) (v0 v1 v2 : Value) (t : TypeId) : Box (w.alloc (.cells #[v0, v1, v2] t)) w.heap.size v0 v1 v2 :=
  Box.of_row (f := fun i => match i with | 0 => v0 | 1 => v1 | _ => v2) (World.rowIs_alloc w #[v0, v1, v2] t _ (fun i hi => by
    have : i = 0 ∨ i = 1 ∨ i = 2 := by simp at hi; omega
    rcases this with rfl | rfl | rfl <;> rfl))

theorem Box.below {B : Nat} {w w' : World} {b : Nat} {v0 v1 v2 : Value} (h : Box w b v0 v1 v2) (hb : Below B w w') (hB : w.heap.size ≤ B) : Box w' b v0 v1 v2 := by
  have hl : b < B := Nat.lt_of_lt_of_le h.lt hB
  exact ⟨by rw [hb.cell (p := ⟨b, 0, none⟩) hl]; exact h.c0, by rw [hb.cell (p := ⟨b, 1, none⟩) hl]; exact h.c1, by rw [hb.cell (p := ⟨b, 2, none⟩) hl]; exact h.c2,
    by rw [hb.frozen (p := ⟨b, 0, none⟩) hl]; exact h.f0, by rw [hb.frozen (p := ⟨b, 1, none⟩) hl]; exact h.f1, by rw [hb.frozen (p := ⟨b, 2, none⟩) hl]; exact h.f2⟩

theorem Box.drew {w : World} {b : Nat} {v0 v1 v2 : Value} (h : Box w b v0 v1 v2) : Box w.drew b v0 v1 v2 := ⟨h.c0, h.c1, h.c2, h.f0, h.f1, h.f2⟩

theorem Box.alloc {w : World} {b : Nat} {v0 v1 v2 : Value} (h : Box w b v0 v1 v2) (o : Obj) : Box (w.alloc o) b v0 v1 v2 := h.below ((Below.refl _ _).alloc (Nat.le_refl _) o) (Nat.le_refl _)

/-- three cells stored anew -/
theorem Box.store {w : World} {b : Nat} {v0 v1 v2 : Value} (h : Box w b v0 v1 v2) (u0 u1 u2 : Value) : Box (((w.setCell ⟨b, 0, none⟩ u0).setCell ⟨b, 1, none⟩ u1).setCell ⟨b, 2, none⟩ u2) b u0 u1 u2 := by
  obtain ⟨c0, c1, c2, f0, f1, f2⟩ := h
  constructor <;> simp [go_sem, c0, c1, c2, f0, f1, f2]

theorem Box.other {w : World} {b : Nat} {v0 v1 v2 : Value} (h : Box w b v0 v1 v2) (p : Addr) (hp : b ≠ p.block) (u : Value) : Box (w.setCell p u) b v0 v1 v2 := by
  have e : (w.setCell p u).heap[b]? = w.heap[b]? := Below.heap_setCell w p u b hp
  obtain ⟨c0, c1, c2, f0, f1, f2⟩ := h
  constructor
  · rw [← c0]; unfold World.cell?; rw [e]
  · rw [← c1]; unfold World.cell?; rw [e]
  · rw [← c2]; unfold World.cell?; rw [e]
  · rw [← f0]; exact World.frozen?_of_block (w := w) e
  · rw [← f1]; exact World.frozen?_of_block (w := w) e
  · rw [← f2]; exact World.frozen?_of_block (w := w) e

theorem Box.grown {w w' : World} {b : Nat} {v0 v1 v2 : Value} {row : Option Nat} (h : Box w b v0 v1 v2) (hg : w.grownBy w' row) (hne : some b ≠ row) : Box w' b v0 v1 v2 := by
  have e : w'.heap[b]? = w.heap[b]? := hg.block b h.lt hne
  obtain ⟨c0, c1, c2, f0, f1, f2⟩ := h
  constructor
  · rw [← c0]; unfold World.cell?; rw [e]
  · rw [← c1]; unfold World.cell?; rw [e]
  · rw [← c2]; unfold World.cell?; rw [e]
  · rw [← f0]; exact World.frozen?_of_block (w := w) e
  · rw [← f1]; exact World.frozen?_of_block (w := w) e
  · rw [← f2]; exact World.frozen?_of_block (w := w) e

theorem below_store3 {B : Nat} {a w : World} (h : Below B a w) {b : Nat} (hb : B ≤ b) (u0 u1 u2 : Value) : Below B a (((w.setCell ⟨b, 0, none⟩ u0).setCell ⟨b, 1, none⟩ u1).setCell ⟨b, 2, none⟩ u2) :=
  ((h.setCell (p := ⟨b, 0, none⟩) hb u0).setCell (p := ⟨b, 1, none⟩) hb u1).setCell (p := ⟨b, 2, none⟩) hb u2

/-- a store elsewhere leaves what is read -/
theorem Rd.other {w : World} {b off n cap : Nat} {l : List UInt8} (h : Rd w (.slice (some ⟨b, off, none⟩) n cap) l) (p : Addr) (hp : b ≠ p.block) (u : Value) : Rd (w.setCell p u) (.slice (some ⟨b, off, none⟩) n cap) l := by
  rcases h with ⟨h, _⟩ | ⟨b', off', cap', e, h1, h2, h3⟩
  · cases h
  · cases e
    refine .inr ⟨b, off, cap, rfl, h1, h2, fun j u' hu => ?_⟩
    have := h3 j u' hu
    rw [← this]
    unfold World.cell?
    rw [Below.heap_setCell w p u b hp]

theorem Rd.store3 {w : World} {g off n cap : Nat} {l : List UInt8} (h : Rd w (.slice (some ⟨g, off, none⟩) n cap) l) {b : Nat} (hb : g ≠ b) (u0 u1 u2 : Value) : Rd (((w.setCell ⟨b, 0, none⟩ u0).setCell ⟨b, 1, none⟩ u1).setCell ⟨b, 2, none⟩ u2) (.slice (some ⟨g, off, none⟩) n cap) l :=
  ((h.other ⟨b, 0, none⟩ hb u0).other ⟨b, 1, none⟩ hb u1).other ⟨b, 2, none⟩ hb u2

end Go.Proofs.Ytgkgdbdapkgkgaa
