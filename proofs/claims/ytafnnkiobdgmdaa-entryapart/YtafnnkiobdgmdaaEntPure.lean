/- Two entries with the same bytes are one entry. -/
import Derived.Test.YtafnnkiobdgmdaaEntBytes
import Derived.Test.YtafnnkiobdgmdaaBatMath
namespace Go.Proofs.Ytafnnkiobdgmdaa
open Go.RowKit
set_option linter.unusedVariables false

theorem num_front {a b : Nat} {s t : List UInt8} (ha : a < 18446744073709551616) (hb : b < 18446744073709551616) (h : Mth.numB a ++ s = Mth.numB b ++ t) : a = b ∧ s = t := by
  have h1 := front_numB a ha s
  have h2 := front_numB b hb t
  rw [h, h2] at h1
  simp only [Prod.mk.injEq] at h1
  obtain ⟨rfl, _, _⟩ := h1
  exact ⟨rfl, List.append_cancel_left h⟩

theorem text_front {l m s t : List UInt8} (hl : l.length < 18446744073709551616) (hm : m.length < 18446744073709551616) (h : textB l ++ s = textB m ++ t) : l = m ∧ s = t := by
  unfold textB at h
  rw [List.append_assoc, List.append_assoc] at h
  obtain ⟨h1, h2⟩ := num_front hl hm h
  exact List.append_inj h2 h1

theorem noteB_inj {k s k' s' : Nat} {l l' : List UInt8} {os os' : List OpB} (hk : k < 256) (hk' : k' < 256) (hs : s < 18446744073709551616) (hs' : s' < 18446744073709551616) (hl : l.length ≤ 1000) (hl' : l'.length ≤ 1000) (hc : chkL os = 0) (hc' : chkL os' = 0) (h : noteB k s l os = noteB k' s' l' os') : k = k' ∧ s = s' ∧ l = l' ∧ os = os' := by
  unfold noteB at h
  obtain ⟨h1, h⟩ := num_front (by omega) (by omega) h
  obtain ⟨h2, h⟩ := num_front hs hs' h
  obtain ⟨h3, h⟩ := text_front (by omega) (by omega) h
  refine ⟨h1, h2, h3, ?_⟩
  have e1 := bat_back os hc
  rw [h, bat_back os' hc'] at e1
  exact (congrArg Prod.fst e1).symm

end Go.Proofs.Ytafnnkiobdgmdaa
