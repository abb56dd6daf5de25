/- Each once: what slices.Compact and CompactFunc leave, in pure terms. -/
import Derived.Test.YtifdomhmmhepcaaTbSorts
namespace Go.Proofs.Ytifdomhmmhepcaa
set_option linter.unusedVariables false

/-- of the first j those that are unlike the one right ahead -/
def ddTo {α : Type} (eq : α → α → Bool) (l : List α) : Nat → List α
  | 0 => []
  | j + 1 => if h : j < l.length then (if j = 0 ∨ eq l[j] l[j - 1] = false then ddTo eq l j ++ [l[j]] else ddTo eq l j) else ddTo eq l j

theorem ddTo_new {α : Type} {eq : α → α → Bool} {l : List α} {j : Nat} (h : j < l.length) (hn : j = 0 ∨ eq l[j] l[j - 1] = false) : ddTo eq l (j + 1) = ddTo eq l j ++ [l[j]] := by
  rw [ddTo, dif_pos h, if_pos hn]

theorem ddTo_old {α : Type} {eq : α → α → Bool} {l : List α} {j : Nat} (h : j < l.length) (h0 : 0 < j) (hn : eq l[j] l[j - 1] = true) : ddTo eq l (j + 1) = ddTo eq l j := by
  rw [ddTo, dif_pos h, if_neg (fun h => h.elim (fun h1 => by omega) (fun h1 => by rw [hn] at h1; cases h1))]

theorem ddTo_all {α : Type} {eq : α → α → Bool} {l : List α} : ∀ j, j ≤ l.length → (∀ i (hi : i < l.length), 0 < i → i < j → eq l[i] (l[i - 1]'(by omega)) = false) → ddTo eq l j = l.take j
  | 0, _, _ => by simp [ddTo]
  | j + 1, hj, h => by
    have hl : j < l.length := by omega
    rw [ddTo_new hl (by
      by_cases h0 : j = 0
      · exact .inl h0
      · exact .inr (h j hl (by omega) (by omega))), ddTo_all j (by omega) (fun i hi h1 h2 => h i hi h1 (by omega)), List.take_succ_eq_append_getElem hl]

theorem ddTo_mem {α : Type} {eq : α → α → Bool} {l : List α} : ∀ j, j ≤ l.length → ∀ x ∈ ddTo eq l j, x ∈ l.take j
  | 0, _, x, h => by simp [ddTo] at h
  | j + 1, hj, x, h => by
    have hl : j < l.length := by omega
    rw [List.take_succ_eq_append_getElem hl]
    rw [ddTo, dif_pos hl] at h
    split at h
    · rcases List.mem_append.1 h with h | h
      · exact List.mem_append_left _ (ddTo_mem j (by omega) x h)
      · exact List.mem_append_right _ h
    · exact List.mem_append_left _ (ddTo_mem j (by omega) x h)

/-- what stood in order stands in order, each once -/
theorem ddTo_rise {α β : Type} {eq : α → α → Bool} {lt : β → β → Prop} (O : Ord9 lt) (key : α → β) {l : List α} (he : ∀ a b, eq a b = true ↔ key a = key b) (hs : l.Pairwise (fun a b => ¬ lt (key b) (key a))) :
    ∀ j, j ≤ l.length → ((ddTo eq l j).map key).Pairwise lt ∧ ∀ x, x ∈ (ddTo eq l j).map key ↔ x ∈ (l.take j).map key
  | 0, _ => by simp [ddTo]
  | j + 1, hj => by
    have hl : j < l.length := by omega
    obtain ⟨h1, h2⟩ := ddTo_rise O key he hs j (by omega)
    by_cases hn : j = 0 ∨ eq l[j] l[j - 1] = false
    · rw [ddTo_new hl hn, List.take_succ_eq_append_getElem hl]
      simp only [List.map_append, List.map_cons, List.map_nil]
      refine ⟨List.pairwise_append.2 ⟨h1, by simp, fun a ha b hb => ?_⟩, fun x => ?_⟩
      · rw [List.mem_singleton] at hb
        subst hb
        obtain ⟨y, hy, rfl⟩ := List.mem_map.1 ((h2 a).1 ha)
        obtain ⟨i, hi, rfl⟩ := List.getElem_of_mem hy
        rw [List.length_take] at hi
        rw [List.getElem_take]
        have hij : i < j := by omega
        have hs' := List.pairwise_iff_getElem.1 hs
        rcases hn with h0 | hn
        · omega
        · have hne : key l[j] ≠ key l[j - 1] := fun e => by rw [(he _ _).2 e] at hn; cases hn
          have k1 : ¬ lt (key l[j]) (key l[j - 1]) := hs' (j - 1) j (by omega) hl (by omega)
          have k2 : lt (key l[j - 1]) (key l[j]) := by
            by_cases h : lt (key l[j - 1]) (key l[j])
            · exact h
            · exact absurd (O.tot _ _ k1 h) hne
          by_cases h9 : i = j - 1
          · subst h9; exact k2
          · have k3 : ¬ lt (key l[j - 1]) (key l[i]) := hs' i (j - 1) (by omega) (by omega) (by omega)
            by_cases h : lt (key l[i]) (key l[j - 1])
            · exact O.tr _ _ _ h k2
            · rw [← O.tot _ _ k3 h]; exact k2
      · rw [List.mem_append, List.mem_append, h2 x]
    · have hn' : eq l[j] l[j - 1] = true ∧ 0 < j := by
        refine ⟨?_, Nat.pos_of_ne_zero fun h => hn (.inl h)⟩
        cases h : eq l[j] l[j - 1] with
        | true => rfl
        | false => exact absurd (.inr h) hn
      rw [ddTo_old hl hn'.2 hn'.1, List.take_succ_eq_append_getElem hl]
      refine ⟨h1, fun x => ?_⟩
      rw [h2 x, List.map_append, List.mem_append]
      refine ⟨.inl, ?_⟩
      rintro (h | h)
      · exact h
      · rw [List.map_cons, List.map_nil, List.mem_singleton] at h
        subst h
        rw [(he _ _).1 hn'.1]
        refine List.mem_map.2 ⟨l[j - 1], ?_, rfl⟩
        exact List.mem_take_iff_getElem.2 ⟨j - 1, by omega, rfl⟩

/-- so far has it come -/
def CmpI {α : Type} (eq : α → α → Bool) (l D : List α) (i p : Nat) : Prop := D.length = l.length ∧ i < p ∧ D.take i = ddTo eq l p ∧ D.drop (p - 1) = l.drop (p - 1)

theorem CmpI.start {α : Type} {eq : α → α → Bool} {l : List α} {k : Nat} (hk : k < l.length) (h0 : 0 < k) (hd : ddTo eq l k = l.take k) (he : eq l[k] l[k - 1] = true) : CmpI eq l l k (k + 1) :=
  ⟨rfl, by omega, by rw [ddTo_old hk h0 he, hd], rfl⟩

theorem CmpI.get {α : Type} {eq : α → α → Bool} {l D : List α} {i p : Nat} (h : CmpI eq l D i p) {q : Nat} (hq : p - 1 ≤ q) (hl : q < l.length) : ∃ hD : q < D.length, D[q] = l[q] := by
  obtain ⟨h1, h2, h3, h4⟩ := h
  refine ⟨by omega, ?_⟩
  have h9 := congrArg (·[q - (p - 1)]?) h4
  simp only [List.getElem?_drop] at h9
  rw [show p - 1 + (q - (p - 1)) = q by omega, List.getElem?_eq_getElem (by omega), List.getElem?_eq_getElem hl] at h9
  exact Option.some.inj h9

theorem CmpI.skip {α : Type} {eq : α → α → Bool} {l D : List α} {i p : Nat} (h : CmpI eq l D i p) (hp : p < l.length) (he : eq l[p] l[p - 1] = true) : CmpI eq l D i (p + 1) := by
  obtain ⟨h1, h2, h3, h4⟩ := h
  refine ⟨h1, by omega, by rw [h3, ddTo_old hp (by omega) he], ?_⟩
  have e : p + 1 - 1 = (p - 1) + 1 := by omega
  rw [e, ← List.drop_drop, h4, List.drop_drop]

theorem CmpI.keep {α : Type} {eq : α → α → Bool} {l D : List α} {i p : Nat} (h : CmpI eq l D i p) (hp : p < l.length) (he : eq l[p] l[p - 1] = false) : CmpI eq l (D.set i l[p]) (i + 1) (p + 1) := by
  obtain ⟨h1, h2, h3, h4⟩ := h
  have hi : i < D.length := by omega
  refine ⟨by rw [List.length_set]; exact h1, by omega, ?_, ?_⟩
  · rw [List.take_succ_eq_append_getElem (by rw [List.length_set]; exact hi), List.getElem_set_self, List.take_set_of_le (Nat.le_refl _), h3, ddTo_new hp (.inr he)]
  · have e : p + 1 - 1 = (p - 1) + 1 := by omega
    rw [List.drop_set_of_lt (by omega), e, ← List.drop_drop, h4, List.drop_drop]

end Go.Proofs.Ytifdomhmmhepcaa
