/- bartizanref03.Few: entries, not too many, nor too long; Twins: entries of their own. -/
import Derived.Test.YthcoblmfmbmdkaaEnRow
namespace Go.Proofs.Ythcoblmfmbmdkaa
open Go.RowKit
set_option linter.unusedVariables false

/-- an entry, cut -/
def cutE (e : EnB) : EnB := (e.1.take 80, e.2.1, e.2.2.1, e.2.2.2.take 600)

def fewE (n : Nat) (es : List EnB) : List EnB := (es.take n).map cutE

theorem fewE_take {n : Nat} {es : List EnB} {j : Nat} (h : j < es.length) (hn : j < n) : fewE n (es.take (j + 1)) = fewE n (es.take j) ++ [cutE es[j]] := by
  unfold fewE
  rw [List.take_take, List.take_take, Nat.min_eq_right (by omega), Nat.min_eq_right (by omega), List.take_succ_eq_append_getElem h, List.map_append]
  rfl

theorem fewE_stay {n : Nat} {es : List EnB} {j : Nat} (hn : ¬ j < n) : fewE n (es.take (j + 1)) = fewE n (es.take j) := by
  unfold fewE
  rw [List.take_take, List.take_take, Nat.min_eq_left (by omega), Nat.min_eq_left (by omega)]

theorem fewE_len (n : Nat) (es : List EnB) : (fewE n es).length ≤ n := by
  unfold fewE; rw [List.length_map, List.length_take]; omega

theorem ownrow_len {B n m c : Nat} {w : World} {a : Option Addr} {e : TypeId} {s : Nat} {cs : List Value} (h : w.ownsRow B e s (.slice a m c) n cs) : m = n := by
  rcases h.2 with ⟨e1, e2⟩ | ⟨g, cap', cur, e1, _⟩
  · cases e1; exact e2.symm
  · cases e1; rfl

theorem own_ne_new {B n : Nat} {w : World} {v : Value} {e : TypeId} {s : Nat} {cs : List Value} (h : w.ownsRow B e s v n cs) : some w.heap.size ≠ v.ownBlock := by
  intro e'
  have := (h.lt _ e'.symm).2
  omega

end Go.Proofs.Ythcoblmfmbmdkaa
