/- Bytes of one's own are turned. -/
import Derived.Test.YtekmlbbfipldoaaParts
namespace Go.Proofs.Ytekmlbbfipldoaa
open Go.RowKit

/-- block g begins with n bytes, whichever -/
def U8 (w : World) (g n : Nat) : Prop := ∃ (cur : Array Value) (l : List UInt8), w.heap[g]? = some (.cells cur 5 (0, 0)) ∧ l.length = n ∧ cur.toList.take n = bv l ∧ n ≤ cur.size

theorem bv_set (l : List UInt8) (i : Nat) (b : UInt8) : (bv l).set i (.int .u8 (b.toNat : Int)) = bv (l.set i b) := by simp [bv, List.map_set]

theorem u8_set {w : World} {g n : Nat} (h : U8 w g n) (g' i : Nat) (b : UInt8) : U8 (w.setCell ⟨g', i, none⟩ (.int .u8 (b.toNat : Int))) g n := by
  obtain ⟨cur, l, hg, hl, ht, hn⟩ := h
  by_cases e : g = g'
  · subst e
    refine ⟨_, l.set i b, heap_setCell_same w g i cur 5 _ hg, by simpa using hl, ?_, by simpa using hn⟩
    rw [Array.toList_setIfInBounds, List.take_set, ht, bv_set]
  · exact ⟨cur, l, by rw [Below.heap_setCell _ _ _ _ (by simpa using e)]; exact hg, hl, ht, hn⟩

theorem u8_cell {w : World} {g n : Nat} (h : U8 w g n) (i : Nat) (hi : i < n) : ∃ b : UInt8, w.cell? ⟨g, i, none⟩ = some (.int .u8 (b.toNat : Int)) ∧ w.frozen? ⟨g, i, none⟩ = false := by
  obtain ⟨cur, l, hg, hl, ht, hn⟩ := h
  refine ⟨l[i]'(by omega), ?_, frozen_of_row w g i cur 5 hg⟩
  rw [cell_of_row w g i cur 5 (0, 0) hg]
  have h1 : (cur.toList.take n)[i]? = some (.int .u8 ((l[i]'(by omega)).toNat : Int)) := by rw [ht]; exact bv_get l i (by omega)
  rw [List.getElem?_take, if_pos hi] at h1
  simpa using h1

theorem u8_of_own {B : Nat} {w : World} {g n c : Nat} {l : List UInt8} (h : Own B w (.slice (some ⟨g, 0, none⟩) n c) l) : U8 w g n ∧ n ≤ c ∧ c ≤ maxLen ∧ B ≤ g := by
  obtain ⟨g', cap, cur, e, hB, hh, h1, h2, h3, h4⟩ := h
  simp only [Value.slice.injEq, Option.some.injEq, Addr.mk.injEq, and_true] at e
  obtain ⟨rfl, rfl, rfl⟩ := e
  exact ⟨⟨cur, l, hh, rfl, h4, by omega⟩, h1, h2, hB⟩

theorem u8_below {w w' : World} {g n : Nat} (h : U8 w g n) (hb : Below w.heap.size w w') : U8 w' g n := by
  obtain ⟨cur, l, hg, r⟩ := h
  exact ⟨cur, l, by rw [hb.block g (Array.getElem?_eq_some_iff.1 hg).1]; exact hg, r⟩

theorem rd_set {w : World} {v : Value} {l : List UInt8} {g i : Nat} {u : Value} (h : Rd w v l) (hne : some g ≠ v.ownBlock) : Rd (w.setCell ⟨g, i, none⟩ u) v l := by
  rcases h with h | ⟨b, off, cap, rfl, h1, h2, h3⟩
  · exact .inl h
  · refine .inr ⟨b, off, cap, rfl, h1, h2, fun j x hx => ?_⟩
    have hb : b ≠ g := fun e => hne (by rw [e]; rfl)
    rw [World.cell?_of_block (w := w) (a := ⟨b, off + j, none⟩) (Below.heap_setCell _ _ _ _ (by simpa using hb))]
    exact h3 j x hx

theorem row_set {w : World} {B n g i m : Nat} {v u : Value} {xs : List Value} (h : w.ownsRow B 33 1 v n xs) (hu : U8 w g m) : (w.setCell ⟨g, i, none⟩ u).ownsRow B 33 1 v n xs := by
  rcases h with ⟨h1, h2⟩
  refine ⟨h1, ?_⟩
  rcases h2 with h2 | ⟨q, cap, cur, rfl, hB, hq, r⟩
  · exact .inl h2
  · refine .inr ⟨q, cap, cur, rfl, hB, ?_, r⟩
    have hne : q ≠ g := by
      rintro rfl
      obtain ⟨cur', l, hg, _⟩ := hu
      rw [hq] at hg
      simp at hg
    rw [Below.heap_setCell _ _ _ _ (by simpa using hne)]
    exact hq

/-- what holds while the parts are turned -/
def Inv (B m : Nat) (w : World) (vs : List Value) (pv wv : Value) : Prop :=
  ∀ j, j < m → ∃ g c n, vs[j]? = some (.slice (some ⟨g, 0, none⟩) n c) ∧ n ≤ 100 ∧ n ≤ c ∧ c ≤ maxLen ∧ U8 w g n ∧ some g ≠ pv.ownBlock ∧ some g ≠ wv.ownBlock ∧ B ≤ g

theorem inv_set {B m : Nat} {w : World} {vs : List Value} {pv wv : Value} (h : Inv B m w vs pv wv) (g i : Nat) (b : UInt8) : Inv B m (w.setCell ⟨g, i, none⟩ (.int .u8 (b.toNat : Int))) vs pv wv := by
  intro j hj
  obtain ⟨g', c, n, e, h1, h2, h3, h4, h5, h6, h7⟩ := h j hj
  exact ⟨g', c, n, e, h1, h2, h3, u8_set h4 g i b, h5, h6, h7⟩

theorem xor_one (b : UInt8) : Value.int .u8 (bits BinOp.xor IntKind.u8 (b.toNat : Int) 1) = .int .u8 ((b ^^^ 1).toNat : Int) := by
  have h := u8_xor_nat b.toNat 1 b.toNat_lt (by omega)
  have e : ((1 : Nat) : Int) = 1 := rfl
  rw [e] at h
  rw [h]
  congr 1

end Go.Proofs.Ytekmlbbfipldoaa
