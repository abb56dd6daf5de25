/- bartizanref12.Sort, as plain lists. -/
import Derived.Test.YthcoblmfmbmdkaaLfPure
namespace Go.Proofs.Ythcoblmfmbmdkaa
set_option maxRecDepth 20000
open Go.RowKit
set_option linter.unusedVariables false

def ltE (x e : EnB) : Bool := decide (cmpE x e < 0)
def sameE (x e : EnB) : Bool := decide (x.1 = e.1 ∧ (x.2.1 : Int) = (e.2.1 : Int) ∧ (x.2.2.1.toNat : Int) = (e.2.2.1.toNat : Int))
def cntE (out : List EnB) (e : EnB) : Nat := out.countP (fun x => ltE x e)
def anyE (out : List EnB) (e : EnB) : Bool := out.any (fun x => sameE x e)
def insE (out : List EnB) (e : EnB) : List EnB := if anyE out e = false ∧ chkEn e = 0 then out.take (cntE out e) ++ e :: out.drop (cntE out e) else out
def sortTo (es : List EnB) : Nat → List EnB
  | 0 => []
  | j + 1 => match es[j]? with | some e => insE (sortTo es j) e | none => sortTo es j
def sortE (es : List EnB) : List EnB := sortTo es es.length

theorem sortTo_at {es : List EnB} {j : Nat} (h : j < es.length) : sortTo es (j + 1) = insE (sortTo es j) es[j] := by
  rw [sortTo, List.getElem?_eq_getElem h]

theorem cntE_le (out : List EnB) (e : EnB) : cntE out e ≤ out.length := List.countP_le_length

theorem cntE_take {out : List EnB} {e : EnB} {i : Nat} (h : i < out.length) : cntE (out.take (i + 1)) e = cntE (out.take i) e + (if ltE out[i] e = true then 1 else 0) := by
  unfold cntE
  rw [List.take_succ_eq_append_getElem h, List.countP_append, List.countP_singleton]

theorem anyE_take {out : List EnB} {e : EnB} {i : Nat} (h : i < out.length) : anyE (out.take (i + 1)) e = (anyE (out.take i) e || sameE out[i] e) := by
  unfold anyE
  rw [List.take_succ_eq_append_getElem h, List.any_append, List.any_cons, List.any_nil, Bool.or_false]

theorem sameE_iff {x e : EnB} : sameE x e = true ↔ cmpE x e = 0 := by
  unfold sameE cmpE
  rw [decide_eq_true_eq, Mth.cmpK_zero]

theorem cmpE_trans {a b c : EnB} (h1 : cmpE a b < 0) (h2 : cmpE b c < 0) : cmpE a c < 0 := by
  have h3 : cmpE a c ≤ 0 := by unfold cmpE at h1 h2 ⊢; exact Mth.cmpK_trans (Int.le_of_lt h1) (Int.le_of_lt h2)
  by_cases h0 : cmpE a c = 0
  · exfalso
    obtain ⟨e1, e2, e3⟩ := Mth.cmpK_zero.1 h0
    have h4 : cmpE b c = cmpE b a := by unfold cmpE; rw [e1, e2, e3]
    have h5 := Mth.cmpK_neg a.1 (a.2.1 : Int) (a.2.2.1.toNat : Int) b.1 (b.2.1 : Int) (b.2.2.1.toNat : Int)
    unfold cmpE at h1 h2 h4
    omega
  · omega

theorem riseB_cons {a : EnB} {r : List EnB} : riseB (a :: r) = true ↔ (∀ h : 0 < r.length, cmpE a r[0] < 0) ∧ riseB r = true := by
  cases r with
  | nil => simp [riseB]
  | cons b r => simp [riseB]

theorem rise_all : ∀ {a : EnB} {r : List EnB}, riseB (a :: r) = true → ∀ y ∈ r, cmpE a y < 0
  | a, [], _, y, hy => by simp at hy
  | a, b :: r, h, y, hy => by
    rw [riseB, Bool.and_eq_true, decide_eq_true_eq] at h
    rcases List.mem_cons.1 hy with rfl | hy
    · exact h.1
    · exact cmpE_trans h.1 (rise_all h.2 y hy)

theorem ins_rises : ∀ (out : List EnB) (e : EnB), riseB out = true → anyE out e = false → riseB (out.take (cntE out e) ++ e :: out.drop (cntE out e)) = true
  | [], e, _, _ => by simp [cntE, riseB]
  | x :: r, e, h, hn => by
    have hn2 : sameE x e = false ∧ anyE r e = false := by unfold anyE at hn ⊢; simpa using hn
    obtain ⟨h1, h2⟩ := riseB_cons.1 h
    by_cases hx : ltE x e = true
    · have hc : cntE (x :: r) e = cntE r e + 1 := by unfold cntE; rw [List.countP_cons, if_pos hx]
      rw [hc, List.take_succ_cons, List.drop_succ_cons, List.cons_append, riseB_cons]
      refine ⟨fun h0 => ?_, ins_rises r e h2 hn2.2⟩
      by_cases hz : cntE r e = 0
      · simp only [hz, List.take_zero, List.nil_append, List.getElem_cons_zero]
        exact of_decide_eq_true hx
      · have hr : 0 < r.length := by have := cntE_le r e; omega
        rw [List.getElem_append_left (by rw [List.length_take]; omega), List.getElem_take]
        exact h1 hr
    · have hx' : ltE x e = false := by simpa using hx
      have hc : cntE (x :: r) e = 0 := by
        unfold cntE
        rw [List.countP_eq_zero]
        intro y hy
        rcases List.mem_cons.1 hy with rfl | hy
        · simpa using hx'
        · have h3 := rise_all h y hy
          intro h4
          exact hx (decide_eq_true (cmpE_trans h3 (of_decide_eq_true h4)))
      rw [hc, List.take_zero, List.drop_zero, List.nil_append, riseB_cons]
      refine ⟨fun _ => ?_, h⟩
      have h5 := Mth.cmpK_neg x.1 (x.2.1 : Int) (x.2.2.1.toNat : Int) e.1 (e.2.1 : Int) (e.2.2.1.toNat : Int)
      have h6 : ¬ cmpE x e < 0 := of_decide_eq_false hx'
      have h7 : ¬ cmpE x e = 0 := fun h => by rw [sameE_iff.2 h] at hn2; exact absurd hn2.1 (by simp)
      simp only [List.getElem_cons_zero]
      unfold cmpE at h6 h7 ⊢
      omega

theorem sortTo_ok (es : List EnB) : ∀ j, (sortTo es j).length ≤ j ∧ (∀ e ∈ sortTo es j, chkEn e = 0) ∧ riseB (sortTo es j) = true
  | 0 => by simp [sortTo, riseB]
  | j + 1 => by
    obtain ⟨h1, h2, h3⟩ := sortTo_ok es j
    by_cases hj : j < es.length
    · rw [sortTo_at hj]
      unfold insE
      split
      · rename_i hc
        refine ⟨?_, fun e he => ?_, ins_rises _ _ h3 hc.1⟩
        · have := cntE_le (sortTo es j) es[j]
          rw [List.length_append, List.length_cons, List.length_take, List.length_drop]
          omega
        · rcases List.mem_append.1 he with h | h
          · exact h2 e (List.mem_of_mem_take h)
          · rcases List.mem_cons.1 h with rfl | h
            · exact hc.2
            · exact h2 e (List.mem_of_mem_drop h)
      · exact ⟨by omega, h2, h3⟩
    · rw [sortTo, List.getElem?_eq_none (by omega)]
      exact ⟨by simp only; omega, h2, h3⟩

theorem sortE_ok {es : List EnB} (h : es.length ≤ 64) : chkLf (sortE es) = 0 := by
  obtain ⟨h1, h2, h3⟩ := sortTo_ok es es.length
  exact chkLf_ok.2 ⟨by unfold sortE; omega, h2, h3⟩

end Go.Proofs.Ythcoblmfmbmdkaa
