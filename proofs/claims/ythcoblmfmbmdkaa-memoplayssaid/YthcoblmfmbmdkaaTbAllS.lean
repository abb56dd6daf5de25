/- Spans of one's own, their bytes too. -/
import Derived.Test.YthcoblmfmbmdkaaTbPure
import Derived.RangeFuncBox
import Derived.Deep.AppendLies
namespace Go.Proofs.Ythcoblmfmbmdkaa
set_option maxRecDepth 20000
open Go.RowKit
set_option linter.unusedVariables false
set_option linter.unusedSimpArgs false

theorem laidT3 (w : World) (v0 v1 v2 : Value) (t : TypeId) : ∀ j u, [v0, v1, v2][j]? = some u → (w.alloc (.cells #[v0, v1, v2] t)).cell? ((⟨w.heap.size, 0, none⟩ : Addr).add j) = some u := by
  intro j u hu
  rw [Addr.add_lit, Nat.zero_add]
  have hg : (w.alloc (.cells #[v0, v1, v2] t)).heap[w.heap.size]? = some (.cells #[v0, v1, v2] t) := heap_alloc_new w _
  rw [cell_of_row _ _ j _ _ _ hg]
  simpa using hu

/-- spans of one's own, their bytes too -/
def AllS (B : Nat) (w : World) (v : Value) (es : List SpB) : Prop :=
  ∃ cs, w.ownsRow B 46 3 v es.length cs ∧ ∀ j (h : j < es.length), ∃ x y, cs[j * 3]? = some x ∧ cs[j * 3 + 1]? = some y ∧ cs[j * 3 + 2]? = some (.int .u64 (es[j].2.2 : Int)) ∧ OwnN B w x es[j].1 ∧ OwnN B w y es[j].2.1

theorem AllS.nil (B : Nat) (w : World) : AllS B w (.slice none 0 0) [] := ⟨[], World.ownsRow_nil _ _ _ _, fun _ h => absurd h (Nat.not_lt_zero _)⟩

theorem AllS.kept {B B' n : Nat} {w w' : World} {v o : Value} {es : List SpB} {cs : List Value} (h : AllS B w v es) (hr : w.ownsRow B' 46 3 o n cs) (hg : w.grownBy w' o.ownBlock) (hne : v.ownBlock = none ∨ v.ownBlock ≠ o.ownBlock) : AllS B w' v es := by
  obtain ⟨ds, h1, h2⟩ := h
  refine ⟨ds, h1.kept hg hne, fun j hj => ?_⟩
  obtain ⟨x, y, c0, c1, c2, ox, oy⟩ := h2 j hj
  exact ⟨x, y, c0, c1, c2, ownN_kept ox (by decide) hr hg, ownN_kept oy (by decide) hr hg⟩

theorem AllS.below {B : Nat} {w w' : World} {v : Value} {es : List SpB} (h : AllS B w v es) (hb : Below w.heap.size w w') : AllS B w' v es := by
  obtain ⟨ds, h1, h2⟩ := h
  refine ⟨ds, row_below h1 hb, fun j hj => ?_⟩
  obtain ⟨x, y, c0, c1, c2, ox, oy⟩ := h2 j hj
  exact ⟨x, y, c0, c1, c2, ox.below hb (Nat.le_refl _), oy.below hb (Nat.le_refl _)⟩

theorem AllS.rd {B : Nat} {w : World} {v : Value} {es : List SpB} (h : AllS B w v es) : RdS w v es := by
  obtain ⟨cs, hr, hj⟩ := h
  have hr2 := hr
  rcases hr.2 with ⟨e, hn⟩ | ⟨g, cap, cur, e, hb, hg, h1, h2, h3, h4⟩
  · exact ⟨none, 0, by rw [e, hn], by omega, Nat.zero_le _, fun j hj => by omega⟩
  · subst e
    refine ⟨_, cap, rfl, h1, h2, fun j h => ⟨g, 0, rfl, ?_⟩⟩
    obtain ⟨x, y, c0, c1, c2, ox, oy⟩ := hj j h
    have hc := hr2.cells (g := g) rfl
    refine ⟨x, y, ?_, ?_, ?_, ox.rd, oy.rd⟩
    · have := hc _ _ c0; rwa [Addr.add_lit] at this
    · have := hc _ _ c1; rwa [Addr.add_lit] at this
    · have := hc _ _ c2; rwa [Addr.add_lit] at this

/-- one more -/
theorem AllS.push {B g c n : Nat} {w w' : World} {v x y : Value} {es : List SpB} {cs : List Value} (o : SpB) (hl : es.length = n) (hrow : w.ownsRow B 46 3 v n cs)
    (hel : ∀ j (h : j < es.length), ∃ x y, cs[j * 3]? = some x ∧ cs[j * 3 + 1]? = some y ∧ cs[j * 3 + 2]? = some (.int .u64 (es[j].2.2 : Int)) ∧ OwnN B w x es[j].1 ∧ OwnN B w y es[j].2.1)
    (hx : OwnN B w x o.1) (hy : OwnN B w y o.2.1) (hn : w'.ownsRow B 46 3 (.slice (some ⟨g, 0, none⟩) (n + 1) c) (n + 1) (cs ++ [x, y, .int .u64 (o.2.2 : Int)])) (hg : w.grownBy w' v.ownBlock) : AllS B w' (.slice (some ⟨g, 0, none⟩) (n + 1) c) (es ++ [o]) := by
  subst hl
  have hcl : cs.length = es.length * 3 := hrow.1
  refine ⟨_, by rw [List.length_append]; exact hn, fun j h => ?_⟩
  by_cases hj : j < es.length
  · obtain ⟨x', y', c0, c1, c2, ox, oy⟩ := hel j hj
    refine ⟨x', y', ?_, ?_, ?_, ?_, ?_⟩
    · rw [List.getElem?_append_left (by omega)]; exact c0
    · rw [List.getElem?_append_left (by omega)]; exact c1
    · rw [List.getElem?_append_left (by omega), List.getElem_append_left hj]; exact c2
    · rw [List.getElem_append_left hj]; exact ownN_kept ox (by decide) hrow hg
    · rw [List.getElem_append_left hj]; exact ownN_kept oy (by decide) hrow hg
  · have hje : j = es.length := by rw [List.length_append] at h; simp at h; omega
    subst hje
    have e : (es ++ [o])[es.length]'h = o := by simp
    rw [e]
    refine ⟨x, y, ?_, ?_, ?_, ownN_kept hx (by decide) hrow hg, ownN_kept hy (by decide) hrow hg⟩
    · rw [List.getElem?_append_right (by omega), show es.length * 3 - cs.length = 0 by omega]; rfl
    · rw [List.getElem?_append_right (by omega), show es.length * 3 + 1 - cs.length = 1 by omega]; rfl
    · rw [List.getElem?_append_right (by omega), show es.length * 3 + 2 - cs.length = 2 by omega]; rfl

theorem AllS.lt {B : Nat} {w : World} {v : Value} {es : List SpB} (h : AllS B w v es) : ∀ q, v.ownBlock = some q → B ≤ q ∧ q < w.heap.size := by
  obtain ⟨cs, hr, _⟩ := h
  exact fun q hq => hr.lt q hq

end Go.Proofs.Ythcoblmfmbmdkaa
