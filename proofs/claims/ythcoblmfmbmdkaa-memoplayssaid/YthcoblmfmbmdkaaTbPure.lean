/- Fragments of spans, in pure terms. -/
import Derived.Test.YthcoblmfmbmdkaaTbCover
namespace Go.Proofs.Ythcoblmfmbmdkaa
set_option linter.unusedVariables false

/-- an order that parts any two -/
structure Ord9 {α : Type} (lt : α → α → Prop) : Prop where
  irr : ∀ a, ¬ lt a a
  tr : ∀ a b c, lt a b → lt b c → lt a c
  tot : ∀ a b, ¬ lt a b → ¬ lt b a → a = b

/-- what rises and has the same members is the same -/
theorem uniq9 {α : Type} {lt : α → α → Prop} (O : Ord9 lt) : ∀ {l m : List α}, l.Pairwise lt → m.Pairwise lt → (∀ x, x ∈ l ↔ x ∈ m) → l = m
  | [], [], _, _, _ => rfl
  | [], b :: m, _, _, h => absurd ((h b).2 (List.mem_cons_self ..)) (List.not_mem_nil)
  | a :: l, [], _, _, h => absurd ((h a).1 (List.mem_cons_self ..)) (List.not_mem_nil)
  | a :: l, b :: m, hl, hm, h => by
    rw [List.pairwise_cons] at hl hm
    have hab : a = b := by
      rcases List.mem_cons.1 ((h a).1 (List.mem_cons_self ..)) with e | h1
      · exact e
      · rcases List.mem_cons.1 ((h b).2 (List.mem_cons_self ..)) with e | h2
        · exact e.symm
        · exact absurd (O.tr _ _ _ (hl.1 b h2) (hm.1 a h1)) (O.irr a)
    subst hab
    rw [uniq9 O hl.2 hm.2 (fun x => ⟨fun hx => ?_, fun hx => ?_⟩)]
    · rcases List.mem_cons.1 ((h x).1 (List.mem_cons_of_mem _ hx)) with e | h1
      · subst e; exact absurd (hl.1 x hx) (O.irr x)
      · exact h1
    · rcases List.mem_cons.1 ((h x).2 (List.mem_cons_of_mem _ hx)) with e | h1
      · subst e; exact absurd (hm.1 x hx) (O.irr x)
      · exact h1

/-- in order, each once -/
def insU {α : Type} (lt : α → α → Bool) (x : α) : List α → List α
  | [] => [x]
  | y :: r => if lt x y = true then x :: y :: r else if lt y x = true then y :: insU lt x r else y :: r
def srtU {α : Type} (lt : α → α → Bool) (l : List α) : List α := l.foldr (insU lt) []

theorem mem_insU {α : Type} {lt : α → α → Bool} (O : Ord9 fun a b => lt a b = true) (x z : α) : ∀ l : List α, z ∈ insU lt x l ↔ z = x ∨ z ∈ l
  | [] => by simp [insU]
  | y :: r => by
    unfold insU
    split
    · simp
    · split
      · rw [List.mem_cons, mem_insU O x z r, List.mem_cons]
        constructor
        · rintro (h | h | h) <;> simp [h]
        · rintro (h | h | h) <;> simp [h]
      · have e : x = y := O.tot x y (by assumption) (by assumption)
        subst e
        simp

theorem pw_insU {α : Type} {lt : α → α → Bool} (O : Ord9 fun a b => lt a b = true) (x : α) : ∀ l : List α, l.Pairwise (fun a b => lt a b = true) → (insU lt x l).Pairwise (fun a b => lt a b = true)
  | [], _ => by simp [insU]
  | y :: r, h => by
    unfold insU
    split
    · rename_i hxy
      refine List.pairwise_cons.2 ⟨fun z hz => ?_, h⟩
      rcases List.mem_cons.1 hz with e | hz
      · subst e; exact hxy
      · exact O.tr _ _ _ hxy ((List.pairwise_cons.1 h).1 z hz)
    · split
      · rename_i hyx
        refine List.pairwise_cons.2 ⟨fun z hz => ?_, pw_insU O x r (List.pairwise_cons.1 h).2⟩
        rcases (mem_insU O x z r).1 hz with e | hz
        · subst e; exact hyx
        · exact (List.pairwise_cons.1 h).1 z hz
      · exact h

theorem mem_srtU {α : Type} {lt : α → α → Bool} (O : Ord9 fun a b => lt a b = true) (z : α) : ∀ l : List α, z ∈ srtU lt l ↔ z ∈ l
  | [] => by simp [srtU]
  | x :: l => by
    have h := mem_srtU O z l
    unfold srtU at h ⊢
    rw [List.foldr_cons, mem_insU O, h, List.mem_cons]

theorem pw_srtU {α : Type} {lt : α → α → Bool} (O : Ord9 fun a b => lt a b = true) : ∀ l : List α, (srtU lt l).Pairwise (fun a b => lt a b = true)
  | [] => by simp [srtU]
  | x :: l => by
    have h := pw_srtU O l
    unfold srtU at h ⊢
    rw [List.foldr_cons]
    exact pw_insU O x _ h

theorem len_srtU {α : Type} {lt : α → α → Bool} : ∀ l : List α, (srtU lt l).length ≤ l.length
  | [] => by simp [srtU]
  | x :: l => by
    have hi : ∀ m : List α, (insU lt x m).length ≤ m.length + 1 := by
      intro m
      induction m with
      | nil => simp [insU]
      | cons y r ih => unfold insU; split; simp; split <;> simp; omega
    have h := len_srtU (lt := lt) l
    unfold srtU at h ⊢
    rw [List.foldr_cons]
    have := hi (l.foldr (insU lt) [])
    simp; omega

theorem srtU_is {α : Type} {lt : α → α → Bool} (O : Ord9 fun a b => lt a b = true) {l m : List α} (hm : m.Pairwise fun a b => lt a b = true) (h : ∀ x, x ∈ m ↔ x ∈ l) : m = srtU lt l :=
  uniq9 O hm (pw_srtU O l) (fun x => (h x).trans (mem_srtU O x l).symm)

/-- bytes, the lesser first -/
def ltBB (a b : List UInt8) : Bool := decide (Lib.compareBytes a b < 0)
/-- numbers, the greater first -/
def gtNN (a b : Nat) : Bool := decide (b < a)

theorem ltBB_iff {a b : List UInt8} : ltBB a b = true ↔ Lib.compareBytes a b < 0 := by simp [ltBB]

theorem ordB : Ord9 (fun a b : List UInt8 => ltBB a b = true) where
  irr a h := by rw [ltBB_iff, Mth.cmp_zero.2 rfl] at h; omega
  tr a b c h1 h2 := by rw [ltBB_iff] at *; exact Mth.cmp_trans h1 h2
  tot a b h1 h2 := by
    rw [ltBB_iff] at *
    have h := Mth.cmp_neg a b
    exact Mth.cmp_zero.1 (by omega)

theorem ordN : Ord9 (fun a b : Nat => gtNN a b = true) where
  irr a h := by simp [gtNN] at h
  tr a b c h1 h2 := by simp [gtNN] at *; omega
  tot a b h1 h2 := by simp [gtNN] at *; omega

theorem cb_le_lt {a b c : List UInt8} (h1 : ¬ Lib.compareBytes b a < 0) (h2 : Lib.compareBytes b c < 0) : Lib.compareBytes a c < 0 := by
  by_cases h : Lib.compareBytes a b < 0
  · exact Mth.cmp_trans h h2
  · have e : a = b := ordB.tot a b (by rwa [ltBB_iff]) (by rwa [ltBB_iff])
    subst e; exact h2

theorem cb_lt_le {a b c : List UInt8} (h1 : Lib.compareBytes a b < 0) (h2 : ¬ Lib.compareBytes c b < 0) : Lib.compareBytes a c < 0 := by
  by_cases h : Lib.compareBytes b c < 0
  · exact Mth.cmp_trans h1 h
  · have e : b = c := ordB.tot b c (by rwa [ltBB_iff]) (by rwa [ltBB_iff])
    subst e; exact h1

theorem cb_asym {a b : List UInt8} (h : Lib.compareBytes a b < 0) : ¬ Lib.compareBytes b a < 0 := by
  have := Mth.cmp_neg a b; omega

theorem cov_iff {l m k : List UInt8} : covB l m k = true ↔ ¬ Lib.compareBytes k l < 0 ∧ Lib.compareBytes k m < 0 := by
  unfold covB; simp

/-- where spans begin and end -/
def plB (ss : List SpB) : List (List UInt8) := ss.flatMap (fun s => [s.1, s.2.1])
def plcs (ss : List SpB) : List (List UInt8) := srtU ltBB (plB ss)
/-- the numbers over a place -/
def sqs (ss : List SpB) (p : List UInt8) : List Nat := srtU gtNN ((ss.filter (fun s => covB s.1 s.2.1 p)).map (·.2.2))
/-- the fragments, so many places -/
def fragTo (ss : List SpB) (P : List (List UInt8)) (k : Nat) : List SpB := (List.range k).flatMap (fun i => (sqs ss (P.getD i [])).map (fun n => (P.getD i [], P.getD (i + 1) [], n)))
def fragN (ss : List SpB) : List SpB := fragTo ss (plcs ss) ((plcs ss).length - 1)

theorem fragTo_next (ss : List SpB) (P : List (List UInt8)) (k : Nat) : fragTo ss P (k + 1) = fragTo ss P k ++ (sqs ss (P.getD k [])).map (fun n => (P.getD k [], P.getD (k + 1) [], n)) := by
  unfold fragTo
  rw [List.range_succ, List.flatMap_append]
  simp

theorem mem_plB {ss : List SpB} {p : List UInt8} : p ∈ plB ss ↔ ∃ s ∈ ss, p = s.1 ∨ p = s.2.1 := by
  unfold plB
  rw [List.mem_flatMap]
  simp

theorem mem_plcs {ss : List SpB} {p : List UInt8} : p ∈ plcs ss ↔ ∃ s ∈ ss, p = s.1 ∨ p = s.2.1 := (mem_srtU ordB p _).trans mem_plB

theorem plcs_lt (ss : List SpB) : ∀ i j (hj : j < (plcs ss).length) (h : i < j), Lib.compareBytes ((plcs ss)[i]'(by omega)) (plcs ss)[j] < 0 := fun i j hj h => ltBB_iff.1 (List.pairwise_iff_getElem.1 (pw_srtU ordB (plB ss)) i j (Nat.lt_trans h hj) hj h)

theorem mem_sqs {ss : List SpB} {p : List UInt8} {n : Nat} : n ∈ sqs ss p ↔ ∃ s ∈ ss, covB s.1 s.2.1 p = true ∧ s.2.2 = n := by
  unfold sqs
  rw [mem_srtU ordN, List.mem_map]
  constructor
  · rintro ⟨s, hs, e⟩
    exact ⟨s, (List.mem_filter.1 hs).1, (List.mem_filter.1 hs).2, e⟩
  · rintro ⟨s, hs, hc, e⟩
    exact ⟨s, List.mem_filter.2 ⟨hs, hc⟩, e⟩

theorem sqs_len (ss : List SpB) (p : List UInt8) : (sqs ss p).length ≤ ss.length := by
  unfold sqs
  refine Nat.le_trans (len_srtU _) ?_
  rw [List.length_map]
  exact List.length_filter_le _ _

theorem plcs_len (ss : List SpB) : (plcs ss).length ≤ 2 * ss.length := by
  unfold plcs
  refine Nat.le_trans (len_srtU _) ?_
  unfold plB
  induction ss with
  | nil => simp
  | cons a r ih => rw [List.flatMap_cons, List.length_append]; simp only [List.length_cons, List.length_nil]; omega

theorem fragTo_len (ss : List SpB) (P : List (List UInt8)) : ∀ k, (fragTo ss P k).length ≤ k * ss.length
  | 0 => by simp [fragTo]
  | k + 1 => by
    rw [fragTo_next, List.length_append, List.length_map, Nat.succ_mul]
    have := fragTo_len ss P k
    have := sqs_len ss (P.getD k [])
    omega

theorem fragN_len (ss : List SpB) : (fragN ss).length ≤ 2 * ss.length * ss.length :=
  Nat.le_trans (fragTo_len _ _ _) (Nat.mul_le_mul_right _ (by have := plcs_len ss; omega))

theorem mem_fragN {ss : List SpB} {e : SpB} : e ∈ fragN ss ↔ ∃ i, ∃ h : i + 1 < (plcs ss).length, e.1 = (plcs ss)[i] ∧ e.2.1 = (plcs ss)[i + 1] ∧ e.2.2 ∈ sqs ss (plcs ss)[i] := by
  unfold fragN fragTo
  rw [List.mem_flatMap]
  constructor
  · rintro ⟨i, hi, he⟩
    have hi' := List.mem_range.1 hi
    obtain ⟨n, hn, rfl⟩ := List.mem_map.1 he
    have h1 : i < (plcs ss).length := by omega
    have h2 : i + 1 < (plcs ss).length := by omega
    have e1 : (plcs ss).getD i [] = (plcs ss)[i] := by simp [List.getD, List.getElem?_eq_getElem h1]
    have e2 : (plcs ss).getD (i + 1) [] = (plcs ss)[i + 1] := by simp [List.getD, List.getElem?_eq_getElem h2]
    exact ⟨i, h2, e1, e2, by rw [e1] at hn; exact hn⟩
  · rintro ⟨i, h2, a1, a2, a3⟩
    have h1 : i < (plcs ss).length := by omega
    have e1 : (plcs ss).getD i [] = (plcs ss)[i] := by simp [List.getD, List.getElem?_eq_getElem h1]
    have e2 : (plcs ss).getD (i + 1) [] = (plcs ss)[i + 1] := by simp [List.getD, List.getElem?_eq_getElem h2]
    refine ⟨i, List.mem_range.2 (by omega), List.mem_map.2 ⟨e.2.2, by rw [e1]; exact a3, ?_⟩⟩
    rw [e1, e2, ← a1, ← a2]

/-- a place at or below a key, one above it: they meet -/
theorem meet9 {P : List (List UInt8)} {k : List UInt8} {a : Nat} : ∀ b (hb : b < P.length) (hab : a < b), ¬ Lib.compareBytes k (P[a]'(by omega)) < 0 → Lib.compareBytes k P[b] < 0 → ∃ i, ∃ h : i + 1 < P.length, a ≤ i ∧ i < b ∧ ¬ Lib.compareBytes k P[i] < 0 ∧ Lib.compareBytes k P[i + 1] < 0
  | 0, hb, hab, _, _ => absurd hab (Nat.not_lt_zero _)
  | b + 1, hb, hab, h1, h2 => by
    by_cases h : Lib.compareBytes k (P[b]'(by omega)) < 0
    · by_cases e : a = b
      · subst e; exact absurd h h1
      · obtain ⟨i, hi, p1, p2, p3, p4⟩ := meet9 b (by omega) (by omega) h1 h
        exact ⟨i, hi, p1, by omega, p3, p4⟩
    · exact ⟨b, hb, by omega, by omega, h, h2⟩

/-- spans whose To lies above their From -/
def Up9 (ss : List SpB) : Prop := ∀ s ∈ ss, Lib.compareBytes s.1 s.2.1 < 0

/-- the numbers over a key are those over the fragments over it -/
theorem frag_cov {ss : List SpB} (hU : Up9 ss) (k : List UInt8) (n : Nat) : (∃ s ∈ fragN ss, covB s.1 s.2.1 k = true ∧ s.2.2 = n) ↔ ∃ s ∈ ss, covB s.1 s.2.1 k = true ∧ s.2.2 = n := by
  constructor
  · rintro ⟨f, hf, hc, rfl⟩
    obtain ⟨i, hi, e1, e2, h3⟩ := mem_fragN.1 hf
    obtain ⟨s, hs, hsc, hse⟩ := mem_sqs.1 h3
    refine ⟨s, hs, ?_, hse⟩
    rw [cov_iff] at hc hsc ⊢
    rw [e1, e2] at hc
    refine ⟨fun h => hc.1 (cb_lt_le h hsc.1), ?_⟩
    obtain ⟨j, hj, ej⟩ := List.getElem_of_mem (mem_plcs.2 ⟨s, hs, .inr rfl⟩)
    have hij : i < j := by
      refine Nat.lt_of_not_le fun h => ?_
      rcases Nat.lt_or_eq_of_le h with h | h
      · exact cb_asym (plcs_lt ss j i (by omega) h) (by rw [ej]; exact hsc.2)
      · subst h
        have h9 := hsc.2
        rw [← ej] at h9
        rw [Mth.cmp_zero.2 rfl] at h9
        omega
    rw [← ej]
    by_cases h : i + 1 = j
    · subst h; exact hc.2
    · exact Mth.cmp_trans hc.2 (plcs_lt ss (i + 1) j hj (by omega))
  · rintro ⟨s, hs, hc, rfl⟩
    have hc' := cov_iff.1 hc
    obtain ⟨a, ha, ea⟩ := List.getElem_of_mem (mem_plcs.2 ⟨s, hs, .inl rfl⟩)
    obtain ⟨b, hb, eb⟩ := List.getElem_of_mem (mem_plcs.2 ⟨s, hs, .inr rfl⟩)
    have hab : a < b := by
      refine Nat.lt_of_not_le fun h => ?_
      have h9 := hU s hs
      rcases Nat.lt_or_eq_of_le h with h | h
      · exact cb_asym (plcs_lt ss b a ha h) (by rw [ea, eb]; exact h9)
      · subst h
        rw [← ea, ← eb, Mth.cmp_zero.2 rfl] at h9
        omega
    obtain ⟨i, hi, p1, p2, p3, p4⟩ := meet9 b hb hab (by rw [ea]; exact hc'.1) (by rw [eb]; exact hc'.2)
    refine ⟨((plcs ss)[i], (plcs ss)[i + 1], s.2.2), mem_fragN.2 ⟨i, hi, rfl, rfl, mem_sqs.2 ⟨s, hs, cov_iff.2 ⟨fun h => ?_, ?_⟩, rfl⟩⟩, cov_iff.2 ⟨p3, p4⟩, rfl⟩
    · rw [← ea] at h
      rcases Nat.lt_or_eq_of_le p1 with h9 | h9
      · exact cb_asym (plcs_lt ss a i (by omega) h9) h
      · subst h9
        rw [Mth.cmp_zero.2 rfl] at h
        omega
    · exact cb_le_lt p3 hc'.2

theorem frag_up (ss : List SpB) : Up9 (fragN ss) := fun e he => by
  obtain ⟨i, hi, e1, e2, _⟩ := mem_fragN.1 he
  rw [e1, e2]
  exact plcs_lt ss i (i + 1) hi (by omega)

/-- the places of the fragments are the places -/
theorem frag_plcs {ss : List SpB} (hU : Up9 ss) : plcs (fragN ss) = plcs ss := by
  refine uniq9 ordB (pw_srtU ordB _) (pw_srtU ordB _) (fun x => ?_)
  refine mem_plcs.trans (Iff.trans ?_ Iff.rfl)
  constructor
  · rintro ⟨f, hf, h⟩
    obtain ⟨i, hi, e1, e2, _⟩ := mem_fragN.1 hf
    rcases h with rfl | rfl
    · rw [e1]; exact List.getElem_mem _
    · rw [e2]; exact List.getElem_mem _
  · intro hx
    obtain ⟨s, hs, h⟩ := mem_plcs.1 hx
    obtain ⟨a, ha, ea⟩ := List.getElem_of_mem (mem_plcs.2 ⟨s, hs, .inl rfl⟩)
    obtain ⟨b, hb, eb⟩ := List.getElem_of_mem (mem_plcs.2 ⟨s, hs, .inr rfl⟩)
    have hab : a < b := by
      refine Nat.lt_of_not_le fun h => ?_
      have h9 := hU s hs
      rcases Nat.lt_or_eq_of_le h with h | h
      · exact cb_asym (plcs_lt ss b a ha h) (by rw [ea, eb]; exact h9)
      · subst h
        rw [← ea, ← eb, Mth.cmp_zero.2 rfl] at h9
        omega
    have hcov : ∀ i, a ≤ i → (h : i < b) → covB s.1 s.2.1 (plcs ss)[i] = true := fun i h1 h2 => by
      refine cov_iff.2 ⟨fun h => ?_, ?_⟩
      · rw [← ea] at h
        rcases Nat.lt_or_eq_of_le h1 with h9 | h9
        · exact cb_asym (plcs_lt ss a i (by omega) h9) h
        · subst h9
          rw [Mth.cmp_zero.2 rfl] at h
          omega
      · rw [← eb]; exact plcs_lt ss i b hb h2
    rcases h with rfl | rfl
    · exact ⟨((plcs ss)[a], (plcs ss)[a + 1], s.2.2), mem_fragN.2 ⟨a, by omega, rfl, rfl, mem_sqs.2 ⟨s, hs, hcov a (Nat.le_refl _) hab, rfl⟩⟩, .inl ea.symm⟩
    · refine ⟨((plcs ss)[b - 1], (plcs ss)[b - 1 + 1], s.2.2), mem_fragN.2 ⟨b - 1, by omega, rfl, rfl, mem_sqs.2 ⟨s, hs, hcov (b - 1) (by omega) (by omega), rfl⟩⟩, .inr ?_⟩
      have e : b - 1 + 1 = b := by omega
      simp only [e]
      exact eb.symm

/-- the same numbers everywhere, the same places: the same fragments -/
theorem frag_same {ss tt : List SpB} (hp : plcs ss = plcs tt) (hs : ∀ p n, (∃ s ∈ ss, covB s.1 s.2.1 p = true ∧ s.2.2 = n) ↔ ∃ s ∈ tt, covB s.1 s.2.1 p = true ∧ s.2.2 = n) : fragN ss = fragN tt := by
  have e : ∀ p, sqs ss p = sqs tt p := fun p => uniq9 ordN (pw_srtU ordN _) (pw_srtU ordN _) (fun n => mem_sqs.trans ((hs p n).trans mem_sqs.symm))
  unfold fragN fragTo
  rw [hp]
  simp only [e]

theorem frag_frag {ss : List SpB} (hU : Up9 ss) : fragN (fragN ss) = fragN ss := frag_same (frag_plcs hU) (frag_cov hU)

theorem frag_mem {ss tt : List SpB} (h : ∀ s, s ∈ ss ↔ s ∈ tt) : fragN ss = fragN tt := by
  refine frag_same (uniq9 ordB (pw_srtU ordB _) (pw_srtU ordB _) (fun x => mem_plcs.trans (Iff.trans ?_ mem_plcs.symm))) (fun p n => ?_)
  · exact ⟨fun ⟨s, hs, h1⟩ => ⟨s, (h s).1 hs, h1⟩, fun ⟨s, hs, h1⟩ => ⟨s, (h s).2 hs, h1⟩⟩
  · exact ⟨fun ⟨s, hs, h1⟩ => ⟨s, (h s).1 hs, h1⟩, fun ⟨s, hs, h1⟩ => ⟨s, (h s).2 hs, h1⟩⟩

/-- the greatest number -/
theorem covN_ge (k : List UInt8) (seq : Int) : ∀ (ss : List SpB) (m : Nat), m ≤ ss.foldl (covS k seq) m ∧ (∀ s ∈ ss, (s.2.2 : Int) ≤ seq → covB s.1 s.2.1 k = true → s.2.2 ≤ ss.foldl (covS k seq) m) ∧ (ss.foldl (covS k seq) m = m ∨ ∃ s ∈ ss, (s.2.2 : Int) ≤ seq ∧ covB s.1 s.2.1 k = true ∧ s.2.2 = ss.foldl (covS k seq) m)
  | [], m => ⟨Nat.le_refl _, fun s h => absurd h (List.not_mem_nil), .inl rfl⟩
  | a :: r, m => by
    obtain ⟨h1, h2, h3⟩ := covN_ge k seq r (covS k seq m a)
    have hm : m ≤ covS k seq m a := by unfold covS; split <;> omega
    rw [List.foldl_cons]
    refine ⟨Nat.le_trans hm h1, fun s hs a1 a2 => ?_, ?_⟩
    · rcases List.mem_cons.1 hs with e | hs
      · subst e
        refine Nat.le_trans ?_ h1
        unfold covS
        rw [if_pos ⟨a1, a2⟩]
        omega
      · exact h2 s hs a1 a2
    · rcases h3 with e | ⟨s, hs, e⟩
      · rw [e]
        by_cases hc : (a.2.2 : Int) ≤ seq ∧ covB a.1 a.2.1 k = true
        · have e2 : covS k seq m a = max m a.2.2 := by unfold covS; rw [if_pos hc]
          rw [e2]
          by_cases hle : m ≤ a.2.2
          · exact .inr ⟨a, List.mem_cons_self .., hc.1, hc.2, by omega⟩
          · exact .inl (by omega)
        · exact .inl (by unfold covS; rw [if_neg hc])
      · exact .inr ⟨s, List.mem_cons_of_mem _ hs, e⟩

/-- of more spans it is no less -/
theorem covN_le {ss tt : List SpB} {k : List UInt8} {seq : Int} (h : ∀ n, (∃ s ∈ ss, covB s.1 s.2.1 k = true ∧ s.2.2 = n) → ∃ s ∈ tt, covB s.1 s.2.1 k = true ∧ s.2.2 = n) : covN ss k seq ≤ covN tt k seq := by
  unfold covN
  rcases (covN_ge k seq ss 0).2.2 with e | ⟨s, hs, h1, h2, e⟩
  · rw [e]; exact Nat.zero_le _
  · rw [← e]
    obtain ⟨t, ht, c, en⟩ := h _ ⟨s, hs, h2, rfl⟩
    rw [← en]
    exact (covN_ge k seq tt 0).2.1 t ht (by rw [en]; exact h1) c

theorem covN_same {ss tt : List SpB} {k : List UInt8} {seq : Int} (h : ∀ n, (∃ s ∈ ss, covB s.1 s.2.1 k = true ∧ s.2.2 = n) ↔ ∃ s ∈ tt, covB s.1 s.2.1 k = true ∧ s.2.2 = n) : covN ss k seq = covN tt k seq :=
  Nat.le_antisymm (covN_le fun n => (h n).1) (covN_le fun n => (h n).2)

theorem covN_frag {ss : List SpB} (hU : Up9 ss) (k : List UInt8) (seq : Int) : covN (fragN ss) k seq = covN ss k seq := covN_same (frag_cov hU k)

/-- how neighbours stand -/
def Nb9 (a b : SpB) : Prop := (a.1 = b.1 → a.2.1 = b.2.1 ∧ b.2.2 < a.2.2) ∧ (a.1 ≠ b.1 → ¬ Lib.compareBytes b.1 a.2.1 < 0)

theorem frag_nb (ss : List SpB) : (fragN ss).Pairwise Nb9 := by
  unfold fragN fragTo
  rw [List.pairwise_flatMap]
  have hP := plcs_lt ss
  have eD : ∀ i (h : i < (plcs ss).length), (plcs ss).getD i [] = (plcs ss)[i] := fun i h => by simp [List.getD, List.getElem?_eq_getElem h]
  refine ⟨fun i hi => ?_, ?_⟩
  · rw [List.pairwise_map]
    refine (pw_srtU ordN _).imp (fun {a b} h => ⟨fun _ => ⟨rfl, by simpa [gtNN] using h⟩, fun h => absurd rfl h⟩)
  · refine (List.pairwise_lt_range (n := (plcs ss).length - 1)).imp_of_mem (fun {i j} hi hj hij x hx y hy => ?_)
    have hi' := List.mem_range.1 hi
    have hj' := List.mem_range.1 hj
    obtain ⟨n, hn, rfl⟩ := List.mem_map.1 hx
    obtain ⟨m, hm, rfl⟩ := List.mem_map.1 hy
    rw [eD i (by omega), eD j (by omega), eD (i + 1) (by omega), eD (j + 1) (by omega)]
    have hlt := hP i j (by omega) hij
    refine ⟨fun e => ?_, fun _ h => ?_⟩
    · simp only at e
      rw [e, Mth.cmp_zero.2 rfl] at hlt
      omega
    · simp only at h
      rcases Nat.lt_or_eq_of_le (show i + 1 ≤ j by omega) with h9 | h9
      · exact cb_asym (hP (i + 1) j (by omega) h9) h
      · subst h9
        rw [Mth.cmp_zero.2 rfl] at h
        omega

end Go.Proofs.Ythcoblmfmbmdkaa
