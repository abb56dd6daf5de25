/- Parts that are gathered: each in a row of its own, apart from what is wanted. -/
import Derived.Test.YtekmlbbfipldoaaLists
import Derived.Test.YtekmlbbfipldoaaAppendNew
namespace Go.Proofs.Ytekmlbbfipldoaa
open Go.RowKit

theorem info24 : (Try.prog.info? 33).map (fun i => (i.zero, i.size, i.bytes)) = some (some (.slice none 0 0), 1, 24) := by kernel_rfl

/-- a row of slices and a row of bytes lie in two blocks -/
theorem rows_apart {w : World} {B B' n n' : Nat} {v v' : Value} {xs ys : List Value} (h : w.ownsRow B 33 1 v n xs) (h' : w.ownsRow B' 5 1 v' n' ys) : v.ownBlock = none ∨ v.ownBlock ≠ v'.ownBlock := by
  rcases h.2 with ⟨rfl, _⟩ | ⟨g, cap, cur, rfl, _, hg, _⟩
  · exact .inl rfl
  · right
    intro e
    rcases h'.2 with ⟨rfl, _⟩ | ⟨g', cap', cur', rfl, _, hg', _⟩
    · cases e
    · simp only [Value.ownBlock, Option.some.injEq] at e
      subst e
      rw [hg] at hg'
      simp at hg'

theorem rows_apart' {w : World} {B B' n n' : Nat} {v v' : Value} {xs ys : List Value} (h : w.ownsRow B 33 1 v n xs) (h' : w.ownsRow B' 5 1 v' n' ys) : v'.ownBlock = none ∨ v'.ownBlock ≠ v.ownBlock := by
  rcases rows_apart h h' with e | e
  · cases hb : v'.ownBlock with
    | none => exact .inl rfl
    | some k => right; rw [e]; intro h; cases h
  · exact .inr (fun h => e h.symm)

/-- each of the first k parts has a row of its own, apart from wv -/
def PartsOK (B : Nat) (w : World) (vs : List Value) (C : List (List UInt8)) (k : Nat) (wv : Value) : Prop :=
  ∀ j, j < k → ∃ g c l, C[j]? = some l ∧ vs[j]? = some (.slice (some ⟨g, 0, none⟩) l.length c) ∧ Own B w (.slice (some ⟨g, 0, none⟩) l.length c) l ∧ some g ≠ wv.ownBlock

theorem parts_zero (B : Nat) (w : World) (vs : List Value) (C : List (List UInt8)) (wv : Value) : PartsOK B w vs C 0 wv := fun _ h => absurd h (Nat.not_lt_zero _)

/-- behind a round: w0 the round's world, w2 behind the cut, w3 behind the parts' append, w4 behind the second cut, w5 behind the append to what is wanted -/
theorem parts_step {B k : Nat} {w0 w2 w3 w4 w5 : World} {vs : List Value} {C : List (List UInt8)} {pv wv wv' : Value} {c : List UInt8} {gc kc : Nat} {ps : List Value} {W : List UInt8} {n0 : Nat}
    (hp : PartsOK B w0 vs C k wv) (hvs : vs.length = k) (hC : C[k]? = some c) (hpv : w0.ownsRow B 33 1 pv n0 ps) (hwv : w0.ownsRow B 5 1 wv W.length (bv W))
    (oc : Own w0.heap.size w2 (.slice (some ⟨gc, 0, none⟩) c.length kc) c) (hb2 : Below w0.heap.size w0 w2) (hBs : B ≤ w0.heap.size)
    (hgr3 : (w2.alloc (.cells #[.slice (some ⟨gc, 0, none⟩) c.length kc] 33)).grownBy w3 pv.ownBlock)
    (hb4 : Below w3.heap.size w3 w4) (hgr5 : w4.grownBy w5 wv.ownBlock) (hst : Stays w4.heap.size wv wv') :
    PartsOK B w5 (vs ++ [.slice (some ⟨gc, 0, none⟩) c.length kc]) C (k + 1) wv' := by
  have hs2 := hb2.size
  have hs3 : w2.heap.size + 1 ≤ w3.heap.size := by have := hgr3.size; simpa using this
  have hs4 := hb4.size
  have hwlt : ∀ q, wv.ownBlock = some q → q < w0.heap.size := fun q hq => (hwv.lt q hq).2
  have hnew : ∀ g, g < w4.heap.size → some g ≠ wv.ownBlock → some g ≠ wv'.ownBlock := by
    intro g hg hne
    rcases hst with e | ⟨q, e, hq⟩
    · rw [e]; exact hne
    · rw [e]; intro h; simp only [Option.some.injEq] at h; omega
  -- a row of bytes of world w2 lives on
  have live : ∀ (g n q : Nat) (l : List UInt8), Own B w2 (.slice (some ⟨g, 0, none⟩) n q) l → some g ≠ wv.ownBlock → Own B w5 (.slice (some ⟨g, 0, none⟩) n q) l ∧ g < w4.heap.size := by
    intro g n q l ho hne
    have ha : Own B (w2.alloc (.cells #[.slice (some ⟨gc, 0, none⟩) c.length kc] 33)) (.slice (some ⟨g, 0, none⟩) n q) l := ho.below ((Below.refl _ _).alloc (Nat.le_refl _) _) (Nat.le_refl _)
    have hpv2 : (w2.alloc (.cells #[.slice (some ⟨gc, 0, none⟩) c.length kc] 33)).ownsRow B 33 1 pv n0 ps := by
      have hgg : w0.grownBy w2 none := ⟨hb2.os, hb2.tape, hb2.output, hb2.size, fun i hi _ => hb2.block i hi⟩
      exact (hpv.kept hgg (by cases pv.ownBlock <;> simp)).alloc _
    have hne3 : some g ≠ pv.ownBlock := by
      rcases rows_apart hpv2 ha.row with e | e
      · rw [e]; simp
      · exact fun h => e h.symm
    have h3 := own_kept ha hgr3 hne3
    have h4 := h3.below hb4 (Nat.le_refl _)
    exact ⟨own_kept h4 hgr5 hne, h4.row.lt g rfl |>.2⟩
  intro j hj
  by_cases hjk : j < k
  · obtain ⟨g, q, l, e1, e2, ho, hne⟩ := hp j hjk
    have hl := live g _ q l (ho.below hb2 (Nat.le_refl _)) hne
    refine ⟨g, q, l, e1, ?_, hl.1, hnew g hl.2 hne⟩
    rw [List.getElem?_append_left (by omega)]; exact e2
  · have hje : j = k := by omega
    subst hje
    have hgc := oc.row.lt gc rfl
    have hne : some gc ≠ wv.ownBlock := by
      intro h
      have := hwlt gc h.symm
      omega
    have hl := live gc _ kc c (oc.mono hBs) hne
    refine ⟨gc, kc, c, hC, ?_, hl.1, hnew gc hl.2 hne⟩
    rw [List.getElem?_append_right (by omega), hvs]; simp

/-- the parts' own row, and what is wanted, behind a round -/
theorem parts_rows {B n0 m0 : Nat} {w3 w4 w5 : World} {pv' wv : Value} {ps : List Value} {W : List UInt8} (hp : w3.ownsRow B 33 1 pv' n0 ps) (hw : w3.ownsRow B 5 1 wv m0 (bv W))
    (hb4 : Below w3.heap.size w3 w4) (hgr5 : w4.grownBy w5 wv.ownBlock) : w5.ownsRow B 33 1 pv' n0 ps := by
  have hgg : w3.grownBy w4 none := ⟨hb4.os, hb4.tape, hb4.output, hb4.size, fun i hi _ => hb4.block i hi⟩
  have h4 := hp.kept hgg (by cases pv'.ownBlock <;> simp)
  have hw4 := hw.kept hgg (by cases wv.ownBlock <;> simp)
  exact h4.kept hgr5 (rows_apart h4 hw4)

end Go.Proofs.Ytekmlbbfipldoaa
