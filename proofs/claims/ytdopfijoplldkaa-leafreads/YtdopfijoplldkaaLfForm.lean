/- Forms: no form is a beginning of the one ahead, where versions rise. -/
import Derived.Test.YtdopfijoplldkaaLfPure
import Derived.Test.YtdopfijoplldkaaKeyBack
namespace Go.Proofs.Ytdopfijoplldkaa
set_option maxRecDepth 20000
open Go.RowKit
set_option linter.unusedVariables false

theorem keyB_form {e : EnB} (h : e.1.length ≤ 64) : keyB e.1 e.2.1 e.2.2.1.toNat = Mth.numB e.1.length ++ formB e := by
  unfold keyB textB formB; rw [List.append_assoc]

/-- a version's form tells the version -/
theorem formB_inj {a b : EnB} (ha : chkEn a = 0) (hb : chkEn b = 0) (h : formB a = formB b) : a.1 = b.1 ∧ a.2.1 = b.2.1 ∧ a.2.2.1 = b.2.2.1 := by
  obtain ⟨_, a2, a3, a4, _, a6⟩ := chkEn_ok ha
  obtain ⟨_, b2, b3, b4, _, b6⟩ := chkEn_ok hb
  have hl : a.1.length = b.1.length := by have := congrArg List.length h; rw [formB_len, formB_len] at this; omega
  have h1 := keyS_keyB a.1 [] a.2.1 a.2.2.1.toNat a3 (a.2.2.1.toNat_lt) a2 a6
  have h2 := keyS_keyB b.1 [] b.2.1 b.2.2.1.toNat b3 (b.2.2.1.toNat_lt) b2 b6
  rw [keyB_form a2, h, hl, ← keyB_form b2, h2] at h1
  simp only [Prod.mk.injEq] at h1
  exact ⟨h1.1.symm, h1.2.1.symm, UInt8.toNat_inj.1 h1.2.2.1.symm⟩

theorem cmp_more : ∀ (u z : List UInt8), 0 ≤ Lib.compareBytes (u ++ z) u
  | [], [] => by simp [Lib.compareBytes]
  | [], a :: z => by simp [Lib.compareBytes]
  | a :: u, z => by
    have := cmp_more u z
    simp only [List.cons_append, Lib.compareBytes]
    have h : ¬ a < a := UInt8.lt_irrefl a
    rw [if_neg h, if_neg h]
    exact this

theorem cmp_less {a b : EnB} (h : cmpE a b < 0) : Lib.compareBytes a.1 b.1 < 0 ∨ (a.1 = b.1 ∧ ¬ (a.2.1 = b.2.1 ∧ a.2.2.1 = b.2.2.1)) := by
  unfold cmpE Mth.cmpK at h
  have hv := Mth.cmp_vals a.1 b.1
  by_cases h0 : Lib.compareBytes a.1 b.1 = 0
  · right
    refine ⟨Mth.cmp_zero.1 h0, ?_⟩
    rintro ⟨e1, e2⟩
    rw [if_neg (by simpa using h0), e1, e2] at h
    simp at h
  · left
    rw [if_pos h0] at h
    exact h

theorem form_not {a b : EnB} (ha : chkEn a = 0) (hb : chkEn b = 0) (hr : cmpE a b < 0) : comN (formB a) (formB b) < (formB b).length := by
  have hle := (comN_le (formB a) (formB b)).2
  rcases Nat.lt_or_ge (comN (formB a) (formB b)) (formB b).length with h | h
  · exact h
  · exfalso
    have he : comN (formB a) (formB b) = (formB b).length := by omega
    have ht := comN_take (formB a) (formB b)
    rw [he, List.take_length] at ht
    have hl : (formB b).length ≤ (formB a).length := by have := (comN_le (formB a) (formB b)).1; omega
    rw [formB_len, formB_len] at hl
    rcases cmp_less hr with h1 | ⟨h1, h2⟩
    · have hp : a.1.take b.1.length = b.1 := by
        have h3 := congrArg (List.take b.1.length) ht
        rw [List.take_take, Nat.min_eq_left (by rw [formB_len]; omega)] at h3
        unfold formB at h3
        rw [List.take_append_of_le_length (by omega), List.take_append_of_le_length (Nat.le_refl _), List.take_length] at h3
        exact h3
      have h4 := cmp_more b.1 (a.1.drop b.1.length)
      have h5 : b.1 ++ a.1.drop b.1.length = a.1 := by
        conv => lhs; arg 1; rw [← hp]
        exact List.take_append_drop _ _
      rw [h5] at h4
      omega
    · rw [List.take_of_length_le (by rw [formB_len, formB_len, h1]; exact Nat.le_refl _)] at ht
      exact h2 (formB_inj ha hb ht).2

theorem shN_lt {es : List EnB} (h : ∀ e ∈ es, chkEn e = 0) (hr : riseB es = true) {j : Nat} (hj : j < es.length) : shN es j < (frm es j).length := by
  unfold shN
  split
  · rw [frm_at hj, formB_len]; omega
  · cases j with
    | zero => omega
    | succ j =>
      rw [ahd, frm_at hj, frm_at (by omega)]
      exact form_not (h _ (List.getElem_mem _)) (h _ (List.getElem_mem _)) ((riseB_iff es).1 hr j hj)

end Go.Proofs.Ytdopfijoplldkaa
