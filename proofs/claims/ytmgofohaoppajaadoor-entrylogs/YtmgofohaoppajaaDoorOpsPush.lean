/- An op more. -/
import Derived.Test.YtmgofohaoppajaaDoorOps
namespace Go.Proofs.YtmgofohaoppajaaDoor
open Go.RowKit

theorem own_ne_row {w : World} {B n : Nat} {v : Value} {cs : List Value} {B' g m c : Nat} {l : List UInt8} (h : w.ownsRow B 72 3 v n cs) (ho : Own B' w (.slice (some ⟨g, 0, none⟩) m c) l) : some g ≠ v.ownBlock := by
  obtain ⟨g', cap, cur, e, _, hg, _⟩ := ho
  cases e
  rcases h.2 with ⟨e, _⟩ | ⟨q, cap', cur', e, _, hq, _⟩
  · subst e; simp [Value.ownBlock]
  · subst e
    intro e2
    simp only [Value.ownBlock, Option.some.injEq] at e2
    subst e2
    rw [hq] at hg
    simp at hg

theorem OwnN.grownO {w w' : World} {B B' n : Nat} {v x : Value} {cs : List Value} {l : List UInt8} (h : OwnN B' w x l) (hr : w.ownsRow B 72 3 v n cs) (hg : w.grownBy w' v.ownBlock) : OwnN B' w' x l := by
  rcases h with h | h
  · exact .inl h
  · obtain ⟨g, c, rfl⟩ := h.shape
    exact .inr (own_kept h hg (own_ne_row hr h))

theorem own_push {B : Nat} {w w' : World} {v v' x y : Value} {os : List OpB} {cs : List Value} (o : OpB) (hrow : w.ownsRow B 72 3 v os.length cs)
    (hel : ∀ j (h : j < os.length), ∃ x y, cs[j * 3]? = some (.int .u8 (os[j].1.toNat : Int)) ∧ cs[j * 3 + 1]? = some x ∧ cs[j * 3 + 2]? = some y ∧ OwnN B w x os[j].2.1 ∧ OwnN B w y os[j].2.2)
    (hx : OwnN B w x o.2.1) (hy : OwnN B w y o.2.2) (hn : w'.ownsRow B 72 3 v' (os.length + 1) (cs ++ [.int .u8 (o.1.toNat : Int), x, y])) (hg : w.grownBy w' v.ownBlock) : OwnO B w' v' (os ++ [o]) := by
  have hcl : cs.length = os.length * 3 := hrow.1
  refine ⟨_, by rw [List.length_append]; exact hn, fun j h => ?_⟩
  by_cases hj : j < os.length
  · obtain ⟨x', y', c0, c1, c2, ox, oy⟩ := hel j hj
    refine ⟨x', y', ?_, ?_, ?_, ?_, ?_⟩
    · rw [List.getElem?_append_left (by omega), List.getElem_append_left hj]; exact c0
    · rw [List.getElem?_append_left (by omega)]; exact c1
    · rw [List.getElem?_append_left (by omega)]; exact c2
    · rw [List.getElem_append_left hj]; exact ox.grownO hrow hg
    · rw [List.getElem_append_left hj]; exact oy.grownO hrow hg
  · have hje : j = os.length := by rw [List.length_append] at h; simp at h; omega
    subst hje
    have e : (os ++ [o])[os.length]'h = o := by simp
    rw [e]
    refine ⟨x, y, ?_, ?_, ?_, hx.grownO hrow hg, hy.grownO hrow hg⟩
    · rw [List.getElem?_append_right (by omega), show os.length * 3 - cs.length = 0 by omega]; rfl
    · rw [List.getElem?_append_right (by omega), show os.length * 3 + 1 - cs.length = 1 by omega]; rfl
    · rw [List.getElem?_append_right (by omega), show os.length * 3 + 2 - cs.length = 2 by omega]; rfl

/-- an op's three cells, as they were laid -/
theorem laid3 (w : World) (v0 v1 v2 : Value) (t : TypeId) : ∀ j u, [v0, v1, v2][j]? = some u → (w.alloc (.cells #[v0, v1, v2] t)).cell? ((⟨w.heap.size, 0, none⟩ : Addr).add j) = some u := by
  intro j u hj
  match j, hj with
  | 0, hj => simp at hj; subst hj; simp [Addr.add]
  | 1, hj => simp at hj; subst hj; simp [Addr.add]
  | 2, hj => simp at hj; subst hj; simp [Addr.add]
  | (j + 3), hj => simp at hj

theorem one3 (k : Int) (a b : Option Addr) (n m c d : Nat) : ∀ u ∈ [Value.int .u8 k, .slice a n c, .slice b m d], u.oneCell' = true := by
  intro u hu
  simp at hu
  rcases hu with rfl | rfl | rfl <;> rfl

/-- an op, cut -/
def cutOp (o : OpB) : OpB := (o.1, o.2.1.take 80, o.2.2.take 600)

def fewO (n : Nat) (os : List OpB) : List OpB := (os.take n).map cutOp

end Go.Proofs.YtmgofohaoppajaaDoor
