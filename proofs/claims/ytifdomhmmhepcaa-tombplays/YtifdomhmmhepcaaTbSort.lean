/- slices.SortFunc over rows of one's own. -/
import Derived.Test.YtifdomhmmhepcaaTbRowT
import Derived.Test.YtifdomhmmhepcaaTbLay
namespace Go.Proofs.Ytifdomhmmhepcaa
set_option maxRecDepth 20000
open Go.RowKit Go.Shelf Go.Sort
set_option linter.unusedVariables false
set_option linter.unusedSimpArgs false

theorem mb_heap {w : World} {g m : Nat} {cur : Array Value} {e : TypeId} {os : Array Obj} (f : Array Value → Array Value) (h : w.heap[g]? = some (.cells cur e (0, 0))) : (grow (mapBlock (Sort.ahead w m) g f) os).heap[g]? = some (.cells (f cur) e (0, 0)) := by
  have hl := (Array.getElem?_eq_some_iff.1 h).1
  unfold grow mapBlock Sort.ahead
  simp only
  rw [Array.getElem?_append_left (by simpa using hl), Array.getElem?_modify]
  simp [h, onCells]

theorem mb_grown {w : World} {g m : Nat} {os : Array Obj} (f : Array Value → Array Value) : w.grownBy (grow (mapBlock (Sort.ahead w m) g f) os) (some g) := by
  refine ⟨rfl, rfl, rfl, by unfold grow mapBlock Sort.ahead; simp, fun k hk hne => ?_⟩
  unfold grow mapBlock Sort.ahead
  simp only
  rw [Array.getElem?_append_left (by simpa using hk), Array.getElem?_modify]
  have : g ≠ k := fun e => hne (by rw [e])
  simp [this]

theorem put_take (F cur : Array Value) (h : F.size ≤ cur.size) : (putCells id 0 F cur).toList.take F.size = F.toList := by
  apply List.ext_getElem?
  intro j
  rw [List.getElem?_take]
  by_cases hj : j < F.size
  · rw [if_pos hj]
    simp only [putCells, Array.getElem?_toList, Array.getElem?_mapIdx]
    have h2 : j < cur.size := by omega
    rw [Array.getElem?_eq_getElem h2, Array.getElem?_eq_getElem hj]
    simp [hj]
  · rw [if_neg hj, List.getElem?_eq_none (by simp; omega)]

theorem put_take1 {α : Type} [Inhabited α] (enc : α → Value) (d : Array α) (cur : Array Value) (h : d.size ≤ cur.size) : (putCells enc 0 d cur).toList.take d.size = d.toList.map enc := by
  apply List.ext_getElem?
  intro j
  rw [List.getElem?_take, List.getElem?_map]
  by_cases hj : j < d.size
  · rw [if_pos hj]
    simp only [putCells, Array.getElem?_toList, Array.getElem?_mapIdx]
    have h2 : j < cur.size := by omega
    rw [Array.getElem?_eq_getElem h2, Array.getElem?_eq_getElem hj]
    simp [hj]
  · rw [if_neg hj, List.getElem?_eq_none (by simp; omega)]
    rfl

theorem flat_get {α : Type} [Inhabited α] (enc : α → List Value) (k : Nat) (hk0 : 0 < k) (hk : ∀ x, (enc x).length = k) : ∀ (l : List α) (t : Nat), t < l.length * k → (l.flatMap enc)[t]? = some (enc l[t / k]!)[t % k]!
  | [], t, h => absurd h (by simp)
  | a :: r, t, h => by
    rw [List.flatMap_cons]
    by_cases ht : t < k
    · rw [List.getElem?_append_left (by rw [hk]; exact ht), Nat.div_eq_of_lt ht, Nat.mod_eq_of_lt ht, List.getElem?_eq_getElem (by rw [hk]; exact ht)]
      simp [getElem!_pos (enc a) t (by rw [hk]; exact ht)]
    · rw [List.getElem?_append_right (by rw [hk]; omega), hk, flat_get enc k hk0 hk r (t - k) (by rw [List.length_cons, Nat.succ_mul] at h; omega)]
      have e1 : t / k = (t - k) / k + 1 := by
        rw [Nat.div_eq_sub_div hk0 (by omega)]
      have e2 : t % k = (t - k) % k := Nat.mod_eq_sub_mod (by omega)
      rw [e1, e2]
      simp

theorem flatK_list {α : Type} [Inhabited α] (enc : α → List Value) (k : Nat) (hk0 : 0 < k) (hk : ∀ x, (enc x).length = k) (d : Array α) : (flatK enc k d).toList = d.toList.flatMap enc := by
  have hlen : (d.toList.flatMap enc).length = d.size * k := by
    have : ∀ l : List α, (l.flatMap enc).length = l.length * k := by
      intro l
      induction l with
      | nil => simp
      | cons a r ih => rw [List.flatMap_cons, List.length_append, hk, ih, List.length_cons, Nat.succ_mul]; omega
    rw [this]; simp
  apply List.ext_getElem?
  intro t
  by_cases ht : t < d.size * k
  · rw [flat_get enc k hk0 hk d.toList t (by simpa using ht), Array.getElem?_toList, Array.getElem?_eq_getElem (by rw [size_flatK]; exact ht)]
    have h1 := get_flatK enc k d t ht
    rw [getElem!_pos (flatK enc k d) t (by rw [size_flatK]; exact ht)] at h1
    rw [h1]
    have hd : t / k < d.size := (Nat.div_lt_iff_lt_mul hk0).2 ht
    rw [getElem!_pos d _ hd, getElem!_pos d.toList _ (by simpa using hd)]
    simp
  · rw [List.getElem?_eq_none (by simp; omega), List.getElem?_eq_none (by omega)]

/-- a row of one's own behind a sort -/
theorem own_sortedK {α : Type} [Inhabited α] {enc : α → List Value} {k : Nat} (hk0 : 0 < k) (hk : ∀ x, (enc x).length = k) {w : World} {B g n cap m : Nat} {e : TypeId} {d d' : Array α} {os : Array Obj} (hd : d.size = n) (hd' : d'.size = n) (h : w.ownsRow B e k (.slice (some ⟨g, 0, none⟩) n cap) n (d.toList.flatMap enc)) :
    (sortWorldK enc k w g 0 m d' os).ownsRow B e k (.slice (some ⟨g, 0, none⟩) n cap) n (d'.toList.flatMap enc) ∧ w.grownBy (sortWorldK enc k w g 0 m d' os) (some g) ∧ HoldsK enc k w g 0 d ∧ g < w.heap.size := by
  have hsz : n * k ≤ (flatK enc k d').size ∧ (flatK enc k d').size ≤ n * k := by rw [size_flatK, hd']; exact ⟨Nat.le_refl _, Nat.le_refl _⟩
  rcases h.2 with ⟨h', _⟩ | ⟨g', cap', cur, h', hb, hg, hnc, hcm, hcs, htake⟩
  · simp at h'
  · have hH : HoldsK enc k w g 0 d := by
      intro j hj
      rw [size_flatK] at hj
      refine ⟨?_, h.frozenAt _⟩
      rw [Nat.zero_add, h.cellAt j (by rw [← hd]; exact hj), ← flatK_list enc k hk0 hk, Array.getElem?_toList, Array.getElem?_eq_getElem (by rw [size_flatK]; exact hj), getElem!_pos _ j (by rw [size_flatK]; exact hj)]
      rfl
    simp only [Value.slice.injEq, Option.some.injEq, Addr.mk.injEq, and_true, true_and] at h'
    obtain ⟨rfl, rfl⟩ := h'
    have hle : n * k ≤ cur.size := by rw [hcs]; exact Nat.mul_le_mul_right _ hnc
    refine ⟨⟨?_, .inr ⟨g, cap, _, rfl, hb, mb_heap _ hg, hnc, hcm, ?_, ?_⟩⟩, mb_grown _, hH, (Array.getElem?_eq_some_iff.1 hg).1⟩
    · rw [← flatK_list enc k hk0 hk, Array.length_toList, size_flatK, hd']
    · simpa [putCells] using hcs
    · have hpt := put_take (flatK enc k d') cur (by omega)
      rw [show (flatK enc k d').size = n * k by omega, flatK_list enc k hk0 hk] at hpt
      exact hpt

theorem own_sorted1 {α : Type} [Inhabited α] {enc : α → Value} {w : World} {B g n cap m : Nat} {e : TypeId} {d d' : Array α} {os : Array Obj} (hd : d.size = n) (hd' : d'.size = n) (h : w.ownsRow B e 1 (.slice (some ⟨g, 0, none⟩) n cap) n (d.toList.map enc)) :
    (sortWorld enc w g 0 m d' os).ownsRow B e 1 (.slice (some ⟨g, 0, none⟩) n cap) n (d'.toList.map enc) ∧ w.grownBy (sortWorld enc w g 0 m d' os) (some g) ∧ Holds enc w g 0 d ∧ g < w.heap.size := by
  rcases h.2 with ⟨h', _⟩ | ⟨g', cap', cur, h', hb, hg, hnc, hcm, hcs, htake⟩
  · simp at h'
  · have hH : Holds enc w g 0 d := by
      intro j hj
      refine ⟨?_, h.frozenAt _⟩
      rw [Nat.zero_add, h.cellAt j (by omega), List.getElem?_map, Array.getElem?_toList, Array.getElem?_eq_getElem hj, getElem!_pos _ j hj]
      rfl
    simp only [Value.slice.injEq, Option.some.injEq, Addr.mk.injEq, and_true, true_and] at h'
    obtain ⟨rfl, rfl⟩ := h'
    refine ⟨⟨?_, .inr ⟨g, cap, _, rfl, hb, mb_heap _ hg, hnc, hcm, ?_, ?_⟩⟩, mb_grown _, hH, (Array.getElem?_eq_some_iff.1 hg).1⟩
    · rw [List.length_map, Array.length_toList, hd']; omega
    · simpa [putCells] using hcs
    · have hpt := put_take1 enc d' cur (by omega)
      rw [hd'] at hpt
      rw [Nat.mul_one]
      exact hpt

theorem perm_of_in {α : Type} [Inhabited α] {d d' : Array α} (h : PermIn 0 d.size d d') : d'.size = d.size ∧ d'.toList.Perm d.toList := by
  refine ⟨h.1, ?_⟩
  have h2 := h.2.2
  have e1 : d.extract 0 d.size = d := by simp
  have e2 : d'.extract 0 d.size = d' := by rw [← h.1]; simp
  rwa [e1, e2] at h2

theorem pw_of_in {α : Type} [Inhabited α] {lt : α → α → Bool} {d d' : Array α} (hs : d'.size = d.size) (h : SortedIn lt 0 d.size d') : d'.toList.Pairwise (fun a b => lt b a = false) := by
  rw [List.pairwise_iff_getElem]
  intro i j hi hj hij
  have h9 := h i j (Nat.zero_le _) hij (by simpa [hs] using hj)
  rw [getElem!_pos d' j (by simpa using hj), getElem!_pos d' i (by simpa using hi)] at h9
  simpa using h9

end Go.Proofs.Ytifdomhmmhepcaa
