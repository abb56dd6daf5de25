/- What leaf.Read reads, as plain bytes. -/
import Derived.Test.YtdopfijoplldkaaLfForm
namespace Go.Proofs.Ytdopfijoplldkaa
set_option maxRecDepth 20000
open Go.RowKit
set_option linter.unusedVariables false

/-- the version that has a form -/
def verS (F : List UInt8) : Option (List UInt8 × Nat × Nat) :=
  if F.length < 8 then none
  else if (keyS (Mth.numB (F.length - 8) ++ F)).2.2.2.2 = 0 then some ((keyS (Mth.numB (F.length - 8) ++ F)).1, (keyS (Mth.numB (F.length - 8) ++ F)).2.1, (keyS (Mth.numB (F.length - 8) ++ F)).2.2.1) else none

/-- what the third number is followed by: so many bytes of a form, so many of a value -/
def tak3 (A p : List UInt8) (n1 n2 n3 : Nat) : Option (EnB × List UInt8 × List UInt8) :=
  if n2 ≤ p.length ∧ n3 ≤ p.length - n2 then
    match verS (A.take n1 ++ p.take n2) with
    | some q => some ((q.1, q.2.1, UInt8.ofNat q.2.2, (p.drop n2).take n3), A.take n1 ++ p.take n2, (p.drop n2).drop n3)
    | none => none
  else none

def tak2 (A p : List UInt8) (n1 n2 : Nat) : Option (EnB × List UInt8 × List UInt8) :=
  if (frontS p).2.2 = 0 then tak3 A (p.drop (frontS p).2.1) n1 n2 (frontS p).1 else none

def tak1 (A p : List UInt8) (n1 : Nat) : Option (EnB × List UInt8 × List UInt8) :=
  if (frontS p).2.2 = 0 then tak2 A (p.drop (frontS p).2.1) n1 (frontS p).1 else none

/-- the entry in front, its form, what stands behind; A: the form ahead -/
def takS (A p : List UInt8) : Option (EnB × List UInt8 × List UInt8) :=
  if (frontS p).2.2 = 0 ∧ (frontS p).1 ≤ A.length then tak1 A (p.drop (frontS p).2.1) (frontS p).1 else none

def entsS : Nat → List UInt8 → List UInt8 → Option (List EnB)
  | _, _, [] => some []
  | 0, _, _ :: _ => none
  | m + 1, A, b :: r => match takS A (b :: r) with
    | none => none
    | some q => match entsS m q.2.1 q.2.2 with
      | none => none
      | some es => some (q.1 :: es)

def cntS (p : List UInt8) : Nat := (p.getD (p.length - 2) 0).toNat + (p.getD (p.length - 1) 0).toNat * 256

/-- what stands ahead of the places -/
def bodyS (p : List UInt8) : Option (List UInt8) :=
  if p.length < 2 then none else if p.length - 2 < cntS p * 2 then none else some (p.take (p.length - 2 - cntS p * 2))

def readL (p : List UInt8) : Option (List EnB) :=
  match bodyS p with
  | none => none
  | some b => match entsS 64 [] b with
    | none => none
    | some es => if chkLf es = 0 ∧ leafB es = p then some es else none

theorem verS_form {e : EnB} (h : chkEn e = 0) : verS (formB e) = some (e.1, e.2.1, e.2.2.1.toNat) := by
  obtain ⟨_, a2, a3, a4, _, a6⟩ := chkEn_ok h
  have h1 := keyS_keyB e.1 [] e.2.1 e.2.2.1.toNat a3 (e.2.2.1.toNat_lt) a2 a6
  rw [keyB_form a2, List.append_nil] at h1
  unfold verS
  rw [if_neg (by rw [formB_len]; omega), show (formB e).length - 8 = e.1.length by rw [formB_len]; omega, h1]
  rfl

theorem takS_ent {A F v R : List UInt8} {n : Nat} {e : EnB} (hF : formB e = F) (he : chkEn e = 0) (hv : e.2.2.2 = v) (hn : n ≤ F.length) (hA : A.take n = F.take n) (hnA : n ≤ A.length) : takS A (packB n F v ++ R) = some (e, F, R) := by
  obtain ⟨_, a2, a3, a4, a5, a6⟩ := chkEn_ok he
  have hFl : F.length ≤ 72 := by rw [← hF, formB_len]; omega
  have e1 : packB n F v ++ R = Mth.numB n ++ (Mth.numB (F.length - n) ++ (Mth.numB v.length ++ (F.drop n ++ (v ++ R)))) := by unfold packB; simp
  rw [e1]
  have f1 := front_numB n (by omega) (Mth.numB (F.length - n) ++ (Mth.numB v.length ++ (F.drop n ++ (v ++ R))))
  have f2 := front_numB (F.length - n) (by omega) (Mth.numB v.length ++ (F.drop n ++ (v ++ R)))
  have f3 := front_numB v.length (by rw [hv] at a5; omega) (F.drop n ++ (v ++ R))
  unfold takS
  rw [f1]
  simp only
  rw [if_pos ⟨trivial, hnA⟩, List.drop_left]
  unfold tak1
  rw [f2]
  simp only
  rw [if_pos trivial, List.drop_left]
  unfold tak2
  rw [f3]
  simp only
  rw [if_pos trivial, List.drop_left]
  unfold tak3
  have hdl : (F.drop n).length = F.length - n := List.length_drop
  have t1 : (F.drop n ++ (v ++ R)).take (F.length - n) = F.drop n := by rw [← hdl]; exact List.take_left
  have t2 : (F.drop n ++ (v ++ R)).drop (F.length - n) = v ++ R := by rw [← hdl]; exact List.drop_left
  rw [if_pos ⟨by simp, by simp⟩, t1, t2, hA, List.take_append_drop, ← hF, verS_form he]
  simp only
  rw [List.take_left, List.drop_left, ← hv]
  simp

theorem ents_all {es : List EnB} (h : ∀ e ∈ es, chkEn e = 0) : ∀ (k j m : Nat) (R : List UInt8), j + k = es.length → k ≤ m → bodyTo es es.length = bodyTo es j ++ R → entsS m (ahd es j) R = some (es.drop j)
  | 0, j, m, R, hj, _, hR => by
    have hj' : j = es.length := by omega
    subst hj'
    have : R = [] := by
      have := congrArg List.length hR
      rw [List.length_append] at this
      exact List.eq_nil_of_length_eq_zero (by omega)
    subst this
    rw [entsS, List.drop_length]
  | k + 1, j, 0, R, _, hm, _ => by omega
  | k + 1, j, m + 1, R, hj, hm, hR => by
    have hjl : j < es.length := by omega
    obtain ⟨R', hR'⟩ : ∃ R', R = entB es j ++ R' := by
      have hx : ∀ i, i ≤ es.length → ∃ T, bodyTo es es.length = bodyTo es i ++ T := fun i hi => by
        have : ∀ d i, i + d = es.length → ∃ T, bodyTo es es.length = bodyTo es i ++ T := fun d => by
          induction d with
          | zero => intro i hi; exact ⟨[], by rw [List.append_nil, ← hi]; rfl⟩
          | succ d ih => intro i hi; obtain ⟨T, hT⟩ := ih (i + 1) (by omega); exact ⟨entB es i ++ T, by rw [hT, bodyTo, List.append_assoc]⟩
        exact this (es.length - i) i (by omega)
      obtain ⟨T, hT⟩ := hx (j + 1) (by omega)
      refine ⟨T, ?_⟩
      rw [bodyTo, List.append_assoc] at hT
      rw [hT] at hR
      exact (List.append_cancel_left hR).symm
    have he := h _ (List.getElem_mem hjl)
    have hsh := shN_le es j
    rw [frm_at hjl] at hsh
    have hcom : (ahd es j).take (shN es j) = (formB es[j]).take (shN es j) ∧ shN es j ≤ (ahd es j).length := by
      unfold shN
      rw [frm_at hjl]
      split
      · simp
      · exact ⟨comN_take _ _, (comN_le _ _).1⟩
    have htk := takS_ent (A := ahd es j) (R := R') rfl he rfl hsh hcom.1 hcom.2
    rw [← entB_at hjl, ← hR'] at htk
    have ih := ents_all h k (j + 1) m R' (by omega) (by omega) (by rw [hR, hR', bodyTo, List.append_assoc])
    rw [ahd, frm_at hjl] at ih
    have hne : R ≠ [] := by
      intro e
      rw [e] at hR'
      have := congrArg List.length hR'
      rw [List.length_append, entB_at hjl] at this
      unfold packB at this
      rw [List.length_append, Mth.numB_length] at this
      have := Mth.numL_bd (shN es j)
      simp at *
      omega
    cases R with
    | nil => exact absurd rfl hne
    | cons b r =>
      rw [entsS, htk]
      simp only
      rw [ih]
      simp only
      rw [List.drop_eq_getElem_cons hjl]

theorem cntS_leaf {X : List UInt8} {c : Nat} (hc : c < 65536) : cntS (X ++ wordB c) = c := by
  unfold cntS
  have h1 : (X ++ wordB c).length = X.length + 2 := by rw [List.length_append]; rfl
  rw [h1, List.getD_eq_getElem?_getD, List.getD_eq_getElem?_getD, List.getElem?_append_right (by omega), List.getElem?_append_right (by omega)]
  rw [show X.length + 2 - 2 - X.length = 0 by omega, show X.length + 2 - 1 - X.length = 1 by omega]
  unfold wordB
  simp
  omega

theorem bodyS_leaf {es : List EnB} (h : chkLf es = 0) : bodyS (leafB es) = some (bodyTo es es.length) := by
  obtain ⟨h1, h2, h3⟩ := chkLf_ok.1 h
  have hsl := startsTo_len es es.length
  obtain ⟨c, hc⟩ : ∃ c, (startsTo es es.length).length = c := ⟨_, rfl⟩
  have e1 : leafB es = (bodyTo es es.length ++ wordsB (startsTo es es.length)) ++ wordB c := by unfold leafB; rw [hc, List.append_assoc]
  have hcn : cntS (leafB es) = c := by rw [e1]; exact cntS_leaf (by omega)
  have hl : (leafB es).length = (bodyTo es es.length).length + c * 2 + 2 := by
    rw [e1, List.length_append, List.length_append, wordsB_len, hc, show (wordB c).length = 2 from rfl]; omega
  unfold bodyS
  rw [hcn, hl, if_neg (by omega), if_neg (by omega), show (bodyTo es es.length).length + c * 2 + 2 - 2 - c * 2 = (bodyTo es es.length).length by omega]
  unfold leafB
  rw [List.take_left]

/-- WHAT IS BUILT IS READ AGAIN -/
theorem readL_leaf {es : List EnB} (h : chkLf es = 0) : readL (leafB es) = some es := by
  obtain ⟨h1, h2, h3⟩ := chkLf_ok.1 h
  unfold readL
  rw [bodyS_leaf h]
  simp only
  have := ents_all h2 es.length 0 64 (bodyTo es es.length) (by omega) h1 (by simp [bodyTo])
  rw [ahd] at this
  rw [this]
  simp only [List.drop_zero]
  rw [if_pos ⟨h, trivial⟩]

theorem readL_is {p : List UInt8} {es : List EnB} (h : readL p = some es) : chkLf es = 0 ∧ leafB es = p := by
  unfold readL at h
  split at h
  · cases h
  · split at h
    · cases h
    · split at h
      · rename_i hc
        cases h
        exact hc
      · cases h

end Go.Proofs.Ytdopfijoplldkaa
