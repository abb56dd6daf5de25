/- A tower more, in plain terms. -/
import Derived.Test.YthcoblmfmbmdkaaSkPure
namespace Go.Proofs.Ythcoblmfmbmdkaa
set_option maxRecDepth 20000
open Go.RowKit
set_option linter.unusedVariables false

theorem fst_append (xs ys : List Tow) (r : Nat) : fstT (xs ++ ys) r = match fstT xs r with | some b => some b | none => fstT ys r := by
  unfold fstT
  rw [List.find?_append]
  cases xs.find? (fun t => decide (r < t.h)) <;> rfl

theorem fst_cons (t : Tow) (ts : List Tow) (r : Nat) : fstT (t :: ts) r = if r < t.h then some t.b else fstT ts r := by
  unfold fstT
  rw [List.find?_cons]
  by_cases h : r < t.h <;> simp [h]

theorem fst_none {xs : List Tow} {r : Nat} (h : ∀ t ∈ xs, ¬ r < t.h) : fstT xs r = none := by
  unfold fstT
  rw [List.find?_eq_none.2 (fun t ht => by simpa using h t ht)]
  rfl

theorem fst_some {xs : List Tow} {r : Nat} {t : Tow} (ht : t ∈ xs) (h : r < t.h) : ∃ b, fstT xs r = some b := by
  unfold fstT
  cases hf : xs.find? (fun t => decide (r < t.h)) with
  | none => have := List.find?_eq_none.1 hf t ht; simp [h] at this
  | some u => exact ⟨u.b, rfl⟩

/-- the towers between two places -/
theorem mem_mid {ts : List Tow} {a c : Nat} {t : Tow} (h : t ∈ (ts.drop a).take (c - a)) : ∃ (i : Nat) (hi : i < ts.length), a ≤ i ∧ i < c ∧ ts[i] = t := by
  obtain ⟨j, hj, rfl⟩ := List.getElem_of_mem h
  rw [List.length_take, List.length_drop] at hj
  refine ⟨a + j, by omega, by omega, by omega, ?_⟩
  rw [List.getElem_take, List.getElem_drop]

theorem mid_mem {ts : List Tow} {a c i : Nat} (hi : i < ts.length) (ha : a ≤ i) (hc : i < c) : ts[i] ∈ (ts.drop a).take (c - a) := by
  rw [List.mem_iff_getElem]
  refine ⟨i - a, by rw [List.length_take, List.length_drop]; omega, ?_⟩
  rw [List.getElem_take, List.getElem_drop]
  congr 1
  omega

/-- a tower among the others -/
def insT (ts : List Tow) (c : Nat) (T : Tow) : List Tow := ts.take c ++ T :: ts.drop c

theorem insT_len {ts : List Tow} {c : Nat} {T : Tow} (hc : c ≤ ts.length) : (insT ts c T).length = ts.length + 1 := by
  unfold insT
  rw [List.length_append, List.length_cons, List.length_take, List.length_drop]
  omega

theorem insT_drop {ts : List Tow} {c a : Nat} {T : Tow} (hc : c ≤ ts.length) (ha : a ≤ c) : (insT ts c T).drop a = (ts.drop a).take (c - a) ++ T :: ts.drop c := by
  unfold insT
  rw [List.drop_append_of_le_length (by rw [List.length_take]; omega), List.drop_take]

theorem drop_mid {ts : List Tow} {c a : Nat} (ha : a ≤ c) : ts.drop a = (ts.drop a).take (c - a) ++ ts.drop c := by
  have h := List.take_append_drop (c - a) (ts.drop a)
  rw [List.drop_drop, show a + (c - a) = c by omega] at h
  exact h.symm

theorem insT_behind {ts : List Tow} {c a : Nat} {T : Tow} (hc : c ≤ ts.length) (ha : c ≤ a) : (insT ts c T).drop (a + 1) = ts.drop a := by
  have hl : (ts.take c ++ [T]).length = c + 1 := by rw [List.length_append, List.length_take]; simp; omega
  have e1 : (insT ts c T).drop (c + 1) = ts.drop c := by
    unfold insT
    rw [show (ts.take c ++ T :: ts.drop c) = (ts.take c ++ [T]) ++ ts.drop c by simp, ← hl]
    exact List.drop_left
  have e2 : (insT ts c T).drop (a + 1) = ((insT ts c T).drop (c + 1)).drop (a - c) := by
    rw [List.drop_drop]
    congr 1
    omega
  rw [e2, e1, List.drop_drop]
  congr 1
  omega

theorem insT_lo {ts : List Tow} {c i : Nat} {T : Tow} (hc : c ≤ ts.length) (hi : i < c) : (insT ts c T)[i]? = ts[i]? := by
  unfold insT
  rw [List.getElem?_append_left (by rw [List.length_take]; omega), List.getElem?_take, if_pos hi]

theorem insT_mid {ts : List Tow} {c : Nat} {T : Tow} (hc : c ≤ ts.length) : (insT ts c T)[c]? = some T := by
  unfold insT
  rw [List.getElem?_append_right (by rw [List.length_take]; omega), List.length_take, Nat.min_eq_left hc, Nat.sub_self]
  rfl

theorem insT_hi {ts : List Tow} {c i : Nat} {T : Tow} (hc : c ≤ ts.length) (hi : c < i) : (insT ts c T)[i]? = ts[i - 1]? := by
  unfold insT
  rw [List.getElem?_append_right (by rw [List.length_take]; omega), List.length_take, Nat.min_eq_left hc]
  obtain ⟨k, hk⟩ : ∃ k, i - c = k + 1 := ⟨i - c - 1, by omega⟩
  rw [hk, List.getElem?_cons_succ, List.getElem?_drop]
  congr 1
  omega

theorem nb_ins_lo {l : Nat} {ts : List Tow} {c a : Nat} {T : Tow} (hc : c ≤ ts.length) (ha : a ≤ c) : nb l (insT ts c T) a = nb l ts a ∧ nh (insT ts c T) a = nh ts a := by
  cases a with
  | zero => exact ⟨rfl, rfl⟩
  | succ i =>
    unfold nb nh
    rw [Nat.add_sub_cancel, insT_lo hc (by omega)]
    exact ⟨rfl, rfl⟩

theorem nb_ins_at {l : Nat} {ts : List Tow} {c : Nat} {T : Tow} (hc : c ≤ ts.length) : nb l (insT ts c T) (c + 1) = T.b ∧ nh (insT ts c T) (c + 1) = T.h := by
  unfold nb nh
  rw [if_neg (by omega), if_neg (by omega), Nat.add_sub_cancel, insT_mid hc]
  exact ⟨rfl, rfl⟩

theorem nb_ins_hi {l : Nat} {ts : List Tow} {c a : Nat} {T : Tow} (hc : c ≤ ts.length) (ha : c < a) (hal : a ≤ ts.length) : nb l (insT ts c T) (a + 1) = nb l ts a ∧ nh (insT ts c T) (a + 1) = nh ts a := by
  unfold nb nh
  rw [if_neg (by omega), if_neg (by omega), if_neg (by omega), if_neg (by omega), Nat.add_sub_cancel, insT_hi hc ha]
  exact ⟨rfl, rfl⟩

theorem pred_le {ts : List Tow} {K : EnB} {r a c : Nat} (h : PredT ts K r a) (h0 : PredT ts K 0 c) (hh : ∀ t ∈ ts, 1 ≤ t.h ∧ t.h ≤ 8) : a ≤ c := by
  by_cases hac : a ≤ c
  · exact hac
  · exfalso
    have hl : c < ts.length := by have := h.le; omega
    have h1 := h.lt c hl (by omega)
    have h2 := h0.no c hl (Nat.le_refl _) (by have := (hh _ (List.getElem_mem hl)).1; omega)
    rw [h1] at h2
    cases h2

/-- what a place points to, with a tower more -/
theorem fst_ins {ts : List Tow} {T : Tow} {K : EnB} {A : Nat → Nat} (hA : ∀ r, r < 8 → PredT ts K r (A r)) (hh : ∀ t ∈ ts, 1 ≤ t.h ∧ t.h ≤ 8) {a r : Nat} (hr : r < 8) (ha : a ≤ A 0) (hn : r < nh ts a) :
    fstT ((insT ts (A 0) T).drop a) r = if r < T.h ∧ a = A r then some T.b else fstT (ts.drop a) r := by
  have h0 := hA 0 (by omega)
  have hP := hA r hr
  have hle := pred_le hP h0 hh
  rw [insT_drop h0.le ha, fst_append, fst_cons]
  have e2 : fstT (ts.drop a) r = match fstT ((ts.drop a).take (A 0 - a)) r with | some b => some b | none => fstT (ts.drop (A 0)) r := by
    conv => lhs; rw [drop_mid ha]
    exact fst_append _ _ _
  by_cases hrT : r < T.h
  · by_cases hae : a = A r
    · rw [if_pos hrT, if_pos (⟨hrT, hae⟩ : r < T.h ∧ a = A r), fst_none (xs := (ts.drop a).take (A 0 - a)) (fun t ht hrt => by
        obtain ⟨i, hi, h1, h2, rfl⟩ := mem_mid ht
        have k1 := hP.no i hi (by omega) hrt
        have k2 := h0.lt i hi h2
        rw [k1] at k2
        cases k2)]
    · rw [if_pos hrT, if_neg (fun h : r < T.h ∧ a = A r => hae h.2)]
      have hlt : a < A r := by
        by_cases hlt : a < A r
        · exact hlt
        · exfalso
          obtain ⟨i, rfl⟩ : ∃ i, a = i + 1 := ⟨a - 1, by omega⟩
          have hi : i < ts.length := by have := h0.le; omega
          rw [nh_succ hi] at hn
          have k1 := hP.no i hi (by omega) hn
          have k2 := h0.lt i hi (by omega)
          rw [k1] at k2
          cases k2
      obtain ⟨j, hj⟩ : ∃ j, A r = j + 1 := ⟨A r - 1, by omega⟩
      have hjl : j < ts.length := by have := hP.le; omega
      have hjh := hP.hi
      rw [hj, nh_succ hjl] at hjh
      obtain ⟨b, hb⟩ := fst_some (mid_mem (a := a) (c := A 0) hjl (by omega) (by omega)) hjh
      rw [e2, hb]
  · rw [if_neg hrT, if_neg (fun h : r < T.h ∧ a = A r => hrT h.1), e2]

theorem fst_new {ts : List Tow} {K : EnB} {A : Nat → Nat} (hA : ∀ r, r < 8 → PredT ts K r (A r)) (hh : ∀ t ∈ ts, 1 ≤ t.h ∧ t.h ≤ 8) {r : Nat} (hr : r < 8) : fstT (ts.drop (A r)) r = fstT (ts.drop (A 0)) r := by
  have h0 := hA 0 (by omega)
  have hP := hA r hr
  have hle := pred_le hP h0 hh
  conv => lhs; rw [drop_mid hle]
  rw [fst_append, fst_none (xs := (ts.drop (A r)).take (A 0 - A r)) (fun t ht hrt => by
    obtain ⟨i, hi, h1, h2, rfl⟩ := mem_mid ht
    have k1 := hP.no i hi (by omega) hrt
    have k2 := h0.lt i hi h2
    rw [k1] at k2
    cases k2)]

/-- A TOWER MORE: the pointers to it laid in each of its rows, nothing else turned -/
theorem sk_insert {w w' : World} {l : Nat} {ts : List Tow} {T : Tow} {A : Nat → Nat} (h : SkAt w l ts) (hA : ∀ r, r < 8 → PredT ts T.e r (A r)) (hT : 1 ≤ T.h ∧ T.h ≤ 8) (hnew : ∀ a, a ≤ ts.length → T.b ≠ nb l ts a)
    (hK : Keeps (fun i => (∃ a, a ≤ ts.length ∧ i = nb l ts a) ∨ i = T.b) w w') (hc : ∀ a, a ≤ ts.length → ∀ r, r < 8 → w'.cell? ⟨nb l ts a, 4 + r, none⟩ = (if r < T.h ∧ a = A r then some (ptrT (some T.b)) else w.cell? ⟨nb l ts a, 4 + r, none⟩))
    (hz : ∀ a, a ≤ ts.length → ∀ r, r < 8 → w'.frozen? ⟨nb l ts a, 4 + r, none⟩ = false) (hbl : ∀ a, a ≤ ts.length → ∃ ca ty, w'.heap[nb l ts a]? = some (.cells ca ty (0, 0))) (hTbl : ∃ ca ty, w'.heap[T.b]? = some (.cells ca ty (0, 0))) (hE : ∀ t ∈ ts, ∀ i, i < 4 → w'.cell? ⟨t.b, i, none⟩ = w.cell? ⟨t.b, i, none⟩)
    (hTc : ∀ r, r < 8 → w'.cell? ⟨T.b, 4 + r, none⟩ = some (if r < T.h then ptrT (fstT (ts.drop (A r)) r) else .pointer none)) (hTz : ∀ r, r < 8 → w'.frozen? ⟨T.b, 4 + r, none⟩ = false) (hTe : EntAt w' T)
    (hTo : ∀ a, a ≤ ts.length → (∀ q, T.x.ownBlock = some q → q ≠ nb l ts a) ∧ (∀ q, T.y.ownBlock = some q → q ≠ nb l ts a)) (hTn : (∀ q, T.x.ownBlock = some q → q ≠ T.b) ∧ (∀ q, T.y.ownBlock = some q → q ≠ T.b))
    (htb : ∀ t ∈ ts, (∀ q, t.x.ownBlock = some q → q ≠ T.b) ∧ (∀ q, t.y.ownBlock = some q → q ≠ T.b)) (hTi : LtB w' T.x ∧ LtB w' T.y) (hne : anyE (esT ts) T.e = false) (hl : ts.length + 1 ≤ 4000) : SkAt w' l (insT ts (A 0) T) := by
  have h0 := hA 0 (by omega)
  have hcl := h0.le
  have hcnt := h0.cnt h.ht
  have places : ∀ a, a ≤ (insT ts (A 0) T).length → (a ≤ A 0 ∧ nb l (insT ts (A 0) T) a = nb l ts a ∧ nh (insT ts (A 0) T) a = nh ts a) ∨ (a = A 0 + 1) ∨ (∃ i, A 0 < i ∧ i ≤ ts.length ∧ a = i + 1 ∧ nb l (insT ts (A 0) T) a = nb l ts i ∧ nh (insT ts (A 0) T) a = nh ts i) := fun a ha => by
    rw [insT_len hcl] at ha
    by_cases h1 : a ≤ A 0
    · exact .inl ⟨h1, nb_ins_lo hcl h1⟩
    · by_cases h2 : a = A 0 + 1
      · exact .inr (.inl h2)
      · exact .inr (.inr ⟨a - 1, by omega, by omega, by omega, by
          have := nb_ins_hi (l := l) (T := T) hcl (by omega : A 0 < a - 1) (by omega)
          rwa [show a - 1 + 1 = a by omega] at this⟩)
  have mems : ∀ t, t ∈ insT ts (A 0) T → t = T ∨ t ∈ ts := fun t ht => by
    unfold insT at ht
    rcases List.mem_append.1 ht with h1 | h1
    · exact .inr (List.mem_of_mem_take h1)
    · rcases List.mem_cons.1 h1 with h2 | h2
      · exact .inl h2
      · exact .inr (List.mem_of_mem_drop h2)
  refine ⟨fun a ha => ?_, fun t ht => ?_, fun a b ha hb hab => ?_, fun t ht => ?_, fun t ht a ha => ?_, ?_, by rw [insT_len hcl]; exact hl, fun t ht => ?_⟩
  · rcases places a ha with ⟨h1, h2, h3⟩ | rfl | ⟨i, h1, h2, rfl, h3, h4⟩
    · rw [h2, h3]
      refine ⟨fun r hr => ?_, hz a (by omega), hbl a (by omega)⟩
      rw [hc a (by omega) r hr, (h.nod a (by omega)).cel r hr]
      by_cases hn : r < nh ts a
      · rw [if_pos hn, if_pos hn, fst_ins hA h.ht hr h1 hn]
        split <;> rfl
      · rw [if_neg hn, if_neg hn, if_neg (fun e => hn (by rw [e.2]; exact (hA r hr).hi))]
    · obtain ⟨k1, k2⟩ := nb_ins_at (l := l) (T := T) hcl
      rw [k1, k2, insT_behind hcl (Nat.le_refl _)]
      refine ⟨fun r hr => ?_, hTz, hTbl⟩
      rw [hTc r hr, fst_new hA h.ht hr]
    · rw [h3, h4, insT_behind hcl (Nat.le_of_lt h1)]
      refine ⟨fun r hr => ?_, hz i h2, hbl i h2⟩
      rw [hc i h2 r hr, (h.nod i h2).cel r hr, if_neg (fun e => by have := pred_le (hA r hr) h0 h.ht; omega)]
  · rcases mems t ht with rfl | h1
    · exact hTe
    · have he := h.ent t h1
      have hnot : ∀ q, (t.x.ownBlock = some q ∨ t.y.ownBlock = some q) → ¬ ((∃ a, a ≤ ts.length ∧ q = nb l ts a) ∨ q = T.b) := fun q hq => by
        rintro (⟨a, ha, rfl⟩ | rfl)
        · rcases hq with hq | hq
          · exact (h.out t h1 a ha).1 _ hq rfl
          · exact (h.out t h1 a ha).2 _ hq rfl
        · rcases hq with hq | hq
          · exact (htb t h1).1 _ hq rfl
          · exact (htb t h1).2 _ hq rfl
      have rdk : ∀ {v : Value} {lst : List UInt8}, Rd w v lst → (∀ q, v.ownBlock = some q → ¬ ((∃ a, a ≤ ts.length ∧ q = nb l ts a) ∨ q = T.b)) → Rd w' v lst := fun {v lst} hr hq => by
        rcases hr with hr | ⟨b, off, cap, rfl, k1, k2, k3⟩
        · exact .inl hr
        · exact .inr ⟨b, off, cap, rfl, k1, k2, fun j u hu => hK.cell (p := ⟨b, off + j, none⟩) (hq b rfl) (k3 j u hu)⟩
      refine ⟨⟨?_, ?_, ?_, ?_⟩, rdk he.rx (fun q hq => hnot q (.inl hq)), rdk he.ry (fun q hq => hnot q (.inr hq))⟩
      · rw [hE t h1 0 (by omega)]; exact he.bx.c0
      · rw [hE t h1 1 (by omega)]; exact he.bx.c1
      · rw [hE t h1 2 (by omega)]; exact he.bx.c2
      · rw [hE t h1 3 (by omega)]; exact he.bx.c3
  · obtain ⟨k1, _⟩ := nb_ins_at (l := l) (T := T) hcl
    rcases places a ha with ⟨h1, h2, _⟩ | rfl | ⟨i, h1, h2, rfl, h3, _⟩ <;> rcases places b hb with ⟨g1, g2, _⟩ | rfl | ⟨j, g1, g2, rfl, g3, _⟩
    · rw [h2, g2] at hab; exact h.inj a b (by omega) (by omega) hab
    · rw [h2, k1] at hab; exact absurd hab.symm (hnew a (by omega))
    · rw [h2, g3] at hab; have := h.inj a j (by omega) g2 hab; omega
    · rw [k1, g2] at hab; exact absurd hab (hnew b (by omega))
    · rfl
    · rw [k1, g3] at hab; exact absurd hab (hnew j g2)
    · rw [h3, g2] at hab; have := h.inj i b h2 (by omega) hab; omega
    · rw [h3, k1] at hab; exact absurd hab.symm (hnew i h2)
    · rw [h3, g3] at hab; have := h.inj i j h2 g2 hab; omega
  · rcases mems t ht with rfl | h1
    · exact hT
    · exact h.ht t h1
  · obtain ⟨k1, _⟩ := nb_ins_at (l := l) (T := T) hcl
    rcases places a ha with ⟨h1, h2, _⟩ | rfl | ⟨i, h1, h2, rfl, h3, _⟩
    · rw [h2]
      rcases mems t ht with rfl | h4
      · exact hTo a (by omega)
      · exact h.out t h4 a (by omega)
    · rw [k1]
      rcases mems t ht with rfl | h4
      · exact hTn
      · exact htb t h4
    · rw [h3]
      rcases mems t ht with rfl | h4
      · exact hTo i h2
      · exact h.out t h4 i h2
  · have h9 := ins_rises (esT ts) T.e h.ris hne
    rw [hcnt] at h9
    unfold insT
    rw [List.map_append, List.map_cons, List.map_take, List.map_drop]
    exact h9
  · rcases mems t ht with rfl | h1
    · exact hTi
    · exact ⟨(h.inn t h1).1.grow hK.size, (h.inn t h1).2.grow hK.size⟩

end Go.Proofs.Ythcoblmfmbmdkaa
