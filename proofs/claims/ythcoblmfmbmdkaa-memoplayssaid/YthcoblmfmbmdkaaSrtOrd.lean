/- In a rising list: what stands ahead of a version. -/
import Derived.Test.YthcoblmfmbmdkaaSrtPure
namespace Go.Proofs.Ythcoblmfmbmdkaa
set_option maxRecDepth 20000
open Go.RowKit
set_option linter.unusedVariables false

theorem cmpE_le_trans {a b c : EnB} (h1 : cmpE a b ≤ 0) (h2 : cmpE b c ≤ 0) : cmpE a c ≤ 0 := by unfold cmpE at h1 h2 ⊢; exact Mth.cmpK_trans h1 h2

theorem cmpE_neg (a b : EnB) : cmpE b a = - cmpE a b := Mth.cmpK_neg _ _ _ _ _ _

/-- in a rising list what stands ahead of a version stands in front -/
theorem rise_lt {es : List EnB} (h : riseB es = true) : ∀ i j (hj : j < es.length) (hij : i < j), cmpE (es[i]'(by omega)) es[j] < 0 := by
  intro i j hj hij
  induction j with
  | zero => omega
  | succ j ih =>
    have h1 := (riseB_iff es).1 h j hj
    by_cases e : i = j
    · subst e; exact h1
    · exact cmpE_trans (ih (by omega) (by omega)) h1

theorem ahead_lt {es : List EnB} (h : riseB es = true) {K : EnB} {i j : Nat} (hj : j < es.length) (hij : i ≤ j) (hk : ltE es[j] K = true) : ltE (es[i]'(by omega)) K = true := by
  by_cases e : i = j
  · subst e; exact hk
  · exact decide_eq_true (cmpE_trans (rise_lt h i j hj (by omega)) (of_decide_eq_true hk))

theorem behind_ge {es : List EnB} (h : riseB es = true) {K : EnB} {i j : Nat} (hj : j < es.length) (hij : i ≤ j) (hk : ltE (es[i]'(by omega)) K = false) : ltE es[j] K = false := by
  cases hb : ltE es[j] K with
  | false => rfl
  | true => rw [ahead_lt h hj hij hb] at hk; cases hk

theorem cnt_split {es : List EnB} {K : EnB} {i : Nat} (hi : i ≤ es.length) (h1 : ∀ x (h : x < es.length), x < i → ltE es[x] K = true) (h2 : ∀ x (h : x < es.length), i ≤ x → ltE es[x] K = false) : cntE es K = i := by
  unfold cntE
  rw [← List.take_append_drop i es, List.countP_append]
  have e1 : (es.take i).countP (fun x => ltE x K) = (es.take i).length := by
    rw [List.countP_eq_length]
    intro x hx
    obtain ⟨j, hj, rfl⟩ := List.getElem_of_mem hx
    rw [List.length_take] at hj
    rw [List.getElem_take]
    exact h1 j (by omega) (by omega)
  have e2 : (es.drop i).countP (fun x => ltE x K) = 0 := by
    rw [List.countP_eq_zero]
    intro x hx
    obtain ⟨j, hj, rfl⟩ := List.getElem_of_mem hx
    rw [List.length_drop] at hj
    rw [List.getElem_drop, h2 (i + j) (by omega) (by omega)]
    simp
  rw [e1, e2, List.length_take]
  omega

end Go.Proofs.Ythcoblmfmbmdkaa
