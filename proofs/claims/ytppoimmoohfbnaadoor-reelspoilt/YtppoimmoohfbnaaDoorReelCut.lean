/- A reel that is cut off, as plain bytes. -/
import Derived.Test.YtppoimmoohfbnaaDoorRefAll
namespace Go.Proofs.YtppoimmoohfbnaaDoor
open Go.RowKit
set_option linter.unusedVariables false

theorem allB_append (xs ys : List (List UInt8)) : ∀ P, allB (xs ++ ys) P = allB ys (allB xs P) := by
  induction xs with
  | nil => intro P; rfl
  | cons x xs ih => intro P; exact ih _

/-- where a record begins -/
def offT (T : List (List UInt8)) (j : Nat) : Nat := (allB (T.take j) []).length

theorem offT_zero (T : List (List UInt8)) : offT T 0 = 0 := by simp [offT, allB]

theorem offT_step (T : List (List UInt8)) (j : Nat) (h : j < T.length) : offT T (j + 1) = offT T j + (frameB (offT T j) T[j]).length := by
  unfold offT
  rw [List.take_succ_eq_append_getElem h, allB_snoc, List.length_append]

theorem offT_lt (T : List (List UInt8)) (j : Nat) (h : j < T.length) : offT T j < offT T (j + 1) := by
  have := frameB_long (offT T j) T[j]
  rw [offT_step T j h]
  omega

theorem offT_mono (T : List (List UInt8)) (i j : Nat) (h : i ≤ j) (hj : j ≤ T.length) : offT T i ≤ offT T j := by
  induction j with
  | zero => have : i = 0 := by omega
            rw [this]; exact Nat.le_refl _
  | succ j ih =>
    by_cases e : i = j + 1
    · rw [e]; exact Nat.le_refl _
    · have := ih (by omega) (by omega)
      have := offT_lt T j (by omega)
      omega

theorem allB_at (T : List (List UInt8)) (k : Nat) : ∃ X, allB T [] = allB (T.take k) [] ++ X := by
  obtain ⟨X, h⟩ := allB_pre (T.drop k) (allB (T.take k) [])
  refine ⟨X, ?_⟩
  rw [← h, ← allB_append, List.take_append_drop]

theorem allB_take (T : List (List UInt8)) (k : Nat) : (allB T []).take (offT T k) = allB (T.take k) [] := by
  obtain ⟨X, h⟩ := allB_at T k
  rw [h]
  unfold offT
  rw [List.take_left]

theorem allB_here (T : List (List UInt8)) (k : Nat) (hk : k < T.length) : ∃ Y, (allB T []).drop (offT T k) = frameB (offT T k) T[k] ++ Y := by
  obtain ⟨X, h⟩ := allB_pre (T.drop (k + 1)) (allB (T.take k) [] ++ frameB (offT T k) T[k])
  refine ⟨X, ?_⟩
  have e : allB T [] = allB (T.take k) [] ++ (frameB (offT T k) T[k] ++ X) := by
    rw [← List.append_assoc, ← h]
    have e2 : T = T.take k ++ (T[k] :: T.drop (k + 1)) := by rw [← List.drop_eq_getElem_cons hk, List.take_append_drop]
    have e3 : allB T [] = allB (T[k] :: T.drop (k + 1)) (allB (T.take k) []) := by
      rw [← allB_append, ← e2]
    rw [e3, allB]
    rfl
  rw [e]
  unfold offT
  rw [List.drop_left]

theorem readG_pre : ∀ (n : Nat) (p : List UInt8) (a : Nat) (l : List (List UInt8)), ∃ X, (readG n p a l).1 = l ++ X := by
  intro n
  induction n with
  | zero => intro p a l; exact ⟨[], by simp [readG]⟩
  | succ n ih =>
    intro p a l
    rw [readG]
    cases h : recAt p a with
    | none => exact ⟨[], by simp⟩
    | some r =>
      obtain ⟨t, e⟩ := r
      obtain ⟨X, hX⟩ := ih p e (l ++ [t])
      exact ⟨[t] ++ X, by simp only; rw [hX, List.append_assoc]⟩

/-- whatever stands behind whole records changes none of them -/
theorem read_behind (ls : List (List UInt8)) (Z : List UInt8) (h : ∀ r ∈ ls, r.length ≤ 65536) : readB (allB ls [] ++ Z) = readG ((allB ls [] ++ Z).length + 1) (allB ls [] ++ Z) (allB ls []).length ls := by
  have := readG_all Z ls [] ((allB ls [] ++ Z).length + 1) [] h (by simp)
  unfold readB
  rw [List.length_nil, List.nil_append] at this
  exact this

theorem read_more (ls : List (List UInt8)) (Z : List UInt8) (h : ∀ r ∈ ls, r.length ≤ 65536) : ∃ X, (readB (allB ls [] ++ Z)).1 = ls ++ X := by
  rw [read_behind ls Z h]
  exact readG_pre _ _ _ _

/-- CUT OFF ANYWHERE IT HAS WHAT LIES WHOLE AHEAD OF THE CUT -/
theorem read_cut (T : List (List UInt8)) (cut k : Nat) (h : ∀ r ∈ T, r.length ≤ 65536) (hc : cut ≤ (allB T []).length) (hk : k ≤ T.length) (hl : offT T k ≤ cut) (hg : ∀ j, k < j → j ≤ T.length → cut < offT T j) :
    readB ((allB T []).take cut) = (T.take k, offT T k) := by
  obtain ⟨P, hP⟩ : ∃ P, allB T [] = P := ⟨_, rfl⟩
  have htk := allB_take T k
  rw [hP] at htk hc ⊢
  have hspl : P.take cut = allB (T.take k) [] ++ (P.take cut).drop (offT T k) := by
    rw [← htk]
    have : (P.take cut).take (offT T k) = P.take (offT T k) := by rw [List.take_take, Nat.min_eq_left hl]
    rw [← this, List.take_append_drop]
  have hrd := read_behind (T.take k) ((P.take cut).drop (offT T k)) (fun r hr => h r (List.mem_of_mem_take hr))
  rw [← hspl] at hrd
  rw [hrd]
  have hcl : (P.take cut).length = cut := by rw [List.length_take]; omega
  rw [readG_step (by omega)]
  have hnone : recAt (P.take cut) (allB (T.take k) []).length = none := by
    cases hr : recAt (P.take cut) (allB (T.take k) []).length with
    | none => rfl
    | some r =>
      exfalso
      obtain ⟨t, nx⟩ := r
      obtain ⟨s1, s2, s3, s4⟩ := recAt_some hr
      have ek : (allB (T.take k) []).length = offT T k := rfl
      rw [ek] at s2 s3
      rw [hcl] at s4
      by_cases hkl : k = T.length
      · have := frameB_long (offT T k) t
        have e1 : offT T k = P.length := by unfold offT; rw [hkl, List.take_length, hP]
        omega
      · have hkl' : k < T.length := by omega
        obtain ⟨Y, hY⟩ := allB_here T k hkl'
        rw [hP] at hY
        have h1 := recAt_frame P Y T[k] (offT T k) (h _ (List.getElem_mem hkl')) hY
        have hd : P.drop (offT T k) = frameB (offT T k) t ++ ((P.take cut).drop nx ++ P.drop cut) := by
          rw [← List.append_assoc, ← s3]
          have e4 : P = P.take cut ++ P.drop cut := (List.take_append_drop cut P).symm
          rw [show P.drop (offT T k) = (P.take cut ++ P.drop cut).drop (offT T k) by rw [← e4], List.drop_append_of_le_length (by rw [hcl]; exact hl)]
        have h2 := recAt_frame P _ t (offT T k) s1 hd
        rw [h1] at h2
        cases h2
        have h3 := hg (k + 1) (by omega) (by omega)
        rw [offT_step T k hkl'] at h3
        omega
  rw [hnone]
  rfl

theorem readN_bd (p : List UInt8) : (readB p).2 ≤ readN p ∧ readN p ≤ p.length := by
  have := (readG_le (p.length + 1) p 0 [] (Nat.zero_le _)).2
  unfold readN
  unfold readB at *
  split
  · omega
  · omega

theorem OwnT.takeRd {B : Nat} {w : World} {a : Option Addr} {n c : Nat} {ls : List (List UInt8)} (h : OwnT B w (.slice a n c) ls) (k : Nat) (hk : k ≤ ls.length) : RdL w (.slice a k c) (ls.take k) := by
  refine (h.tex.take k hk).rd ?_
  intro h0
  have hk0 : k = 0 := by
    have := congrArg List.length h0
    rw [List.length_take] at this
    simp at this
    rcases this with e | e
    · exact e
    · rw [e] at hk; simpa using hk
  subst hk0
  obtain ⟨cs, hr, _⟩ := h
  rcases hr.2 with ⟨e, _⟩ | ⟨g, cap, cur, e, _⟩
  · cases e; exact .inl rfl
  · cases e; exact .inr ⟨g, 0, _, rfl⟩

end Go.Proofs.YtppoimmoohfbnaaDoor
