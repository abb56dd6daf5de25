/- Small things, of rounds behind the sixth. -/
import Derived.Test.YtekmlbbfipldoaaHeld
namespace Go.Proofs.Ytekmlbbfipldoaa
open Go.RowKit

theorem Rd.spots {w : World} {v : Value} {l : List UInt8} (h : Rd w v l) : ∃ ao cap, v = .slice ao l.length cap ∧ l.length ≤ cap ∧ cap ≤ 9223372036854775807 ∧ ∀ j (h : j < l.length), ∃ b off, ao = some ⟨b, off, none⟩ ∧ w.cell? ⟨b, off + j, none⟩ = some (.int .u8 ((l[j]).toNat : Int)) := by
  rcases h with ⟨rfl, rfl⟩ | ⟨b, off, cap, rfl, h1, h2, h3⟩
  · exact ⟨none, 0, rfl, Nat.le_refl _, by omega, fun j h => absurd h (Nat.not_lt_zero _)⟩
  · exact ⟨_, cap, rfl, h1, by unfold maxLen at h2; omega, fun j h => ⟨b, off, rfl, h3 j _ (bv_get l j h)⟩⟩

theorem Own.spots {B : Nat} {w : World} {g n k : Nat} {l : List UInt8} (h : Own B w (.slice (some ⟨g, 0, none⟩) n k) l) : ∀ j u, (bv l)[j]? = some u → w.cell? ⟨g, 0 + j, none⟩ = some u := fun j u hu => by
  have := (rd_cells h.rd).2 j u hu
  rwa [Addr.add_lit] at this

/-- texts in a row, as a literal lays them -/
theorem rdl_many (w : World) (vs : List Value) (ls : List (List UInt8)) (n : Nat) (hl : vs.length = n) (hl2 : ls.length = n) (hm : n ≤ maxLen) (hn : 0 < n) (h : ∀ j (h1 : j < vs.length) (h2 : j < ls.length), Rd w vs[j] ls[j]) :
    RdL (w.alloc (.cells vs.toArray 33)) (.slice (some ⟨w.heap.size, 0, none⟩) n n) ls := by
  subst hl2
  refine .inr ⟨w.heap.size, 0, _, rfl, Nat.le_refl _, hm, fun j hj => ?_⟩
  refine ⟨vs[j]'(by omega), ?_, (h j (by omega) hj).below (below_box4 w _) (Nat.le_refl _)⟩
  have h0 := heap_alloc_new w (.cells vs.toArray 33)
  rw [cell_of_row _ _ _ _ _ _ h0]
  simp

theorem byteI {a b : UInt8} : ((a.toNat : Int) = (b.toNat : Int)) ↔ a = b := ⟨fun h => UInt8.toNat_inj.1 (by omega), fun h => by rw [h]⟩

end Go.Proofs.Ytekmlbbfipldoaa
