/- A slice of pairs; the map that ops make. -/
import Derived.Test.YtlkfdiiapcipoaaOpOver
import Derived.Test.YtlkfdiiapcipoaaOpsPush
namespace Go.Proofs.Ytlkfdiiapcipoaa
open Go.RowKit

abbrev PrB := List UInt8 × List UInt8

/-- v is a slice of pairs -/
def RdP (w : World) (v : Value) (ps : List PrB) : Prop :=
  ∃ ao cap, v = .slice ao ps.length cap ∧ ps.length ≤ cap ∧ cap ≤ maxLen ∧ ∀ j (h : j < ps.length), ∃ b off, ao = some ⟨b, off, none⟩ ∧ ∃ x y, w.cell? ⟨b, off + j * 2, none⟩ = some x ∧ w.cell? ⟨b, off + j * 2 + 1, none⟩ = some y ∧ Rd w x ps[j].1 ∧ Rd w y ps[j].2

theorem RdP.below {B : Nat} {w w' : World} {v : Value} {ps : List PrB} (h : RdP w v ps) (hb : Below B w w') (hB : w.heap.size ≤ B) : RdP w' v ps := by
  obtain ⟨ao, cap, rfl, h1, h2, h3⟩ := h
  refine ⟨ao, cap, rfl, h1, h2, fun j hj => ?_⟩
  obtain ⟨b, off, e, x, y, c0, c1, r1, r2⟩ := h3 j hj
  have hl : b < B := Nat.lt_of_lt_of_le (World.block_lt_of_cell? w _ c0) hB
  exact ⟨b, off, e, x, y, by rw [hb.cell (p := ⟨b, off + j * 2, none⟩) hl]; exact c0, by rw [hb.cell (p := ⟨b, off + j * 2 + 1, none⟩) hl]; exact c1, r1.below hb hB, r2.below hb hB⟩

theorem RdP.nil (w : World) : RdP w (.slice none 0 0) [] := ⟨none, 0, rfl, Nat.le_refl _, Nat.zero_le _, fun _ h => absurd h (Nat.not_lt_zero _)⟩

theorem RdP.drew {w : World} {v : Value} {ps : List PrB} (h : RdP w v ps) : RdP w.drew v ps := h

/-- pairs in a row of the call's own, that hold what was there in w0 -/
def OwnP (w0 w : World) (v : Value) (ps : List PrB) : Prop :=
  ∃ cs, w.ownsRow w0.heap.size 75 2 v ps.length cs ∧ ∀ j (h : j < ps.length), ∃ x y, cs[j * 2]? = some x ∧ cs[j * 2 + 1]? = some y ∧ Rd w0 x ps[j].1 ∧ Rd w0 y ps[j].2

theorem OwnP.nil (w0 w : World) : OwnP w0 w (.slice none 0 0) [] := ⟨[], World.ownsRow_nil _ _ _ _, fun _ h => absurd h (Nat.not_lt_zero _)⟩

theorem OwnP.below {C : Nat} {w0 w w' : World} {v : Value} {ps : List PrB} (h : OwnP w0 w v ps) (hb : Below C w w') (hC : w.heap.size ≤ C) : OwnP w0 w' v ps := by
  obtain ⟨cs, hr, hj⟩ := h
  have hb' : Below w.heap.size w w' := ⟨hb.os, hb.tape, hb.output, hb.size, fun i hi => hb.block i (Nat.lt_of_lt_of_le hi hC)⟩
  exact ⟨cs, row_below hr hb', hj⟩

theorem OwnP.rd {w0 w : World} {v : Value} {ps : List PrB} (h : OwnP w0 w v ps) (hb : Below w0.heap.size w0 w) : RdP w v ps := by
  obtain ⟨cs, hr, hj⟩ := h
  have hr2 := hr
  rcases hr.2 with ⟨e, hn⟩ | ⟨g, cap, cur, e, _, hg, h1, h2, h3, h4⟩
  · refine ⟨none, 0, by rw [e, hn], by omega, Nat.zero_le _, fun j hj => by omega⟩
  · subst e
    refine ⟨_, cap, rfl, h1, h2, fun j h => ⟨g, 0, rfl, ?_⟩⟩
    obtain ⟨x, y, c0, c1, rx, ry⟩ := hj j h
    have hc := hr2.cells (g := g) rfl
    refine ⟨x, y, ?_, ?_, rx.below hb (Nat.le_refl _), ry.below hb (Nat.le_refl _)⟩
    · have := hc _ _ c0; rwa [Addr.add_lit] at this
    · have := hc _ _ c1; rwa [Addr.add_lit] at this

theorem OwnP.shape {w0 w : World} {v : Value} {ps : List PrB} (h : OwnP w0 w v ps) : ∃ a c, v = .slice a ps.length c := by
  obtain ⟨cs, hr, _⟩ := h
  rcases hr.2 with ⟨e, hn⟩ | ⟨g, cap, cur, e, _⟩
  · exact ⟨none, 0, by rw [e, hn]⟩
  · exact ⟨_, cap, e⟩

theorem own_pushP {w0 w' : World} {v' x y : Value} {ps : List PrB} {cs : List Value} (p : PrB) (hcl : cs.length = ps.length * 2)
    (hel : ∀ j (h : j < ps.length), ∃ x y, cs[j * 2]? = some x ∧ cs[j * 2 + 1]? = some y ∧ Rd w0 x ps[j].1 ∧ Rd w0 y ps[j].2)
    (hx : Rd w0 x p.1) (hy : Rd w0 y p.2) (hn : w'.ownsRow w0.heap.size 75 2 v' (ps.length + 1) (cs ++ [x, y])) : OwnP w0 w' v' (ps ++ [p]) := by
  refine ⟨_, by rw [List.length_append]; exact hn, fun j h => ?_⟩
  by_cases hj : j < ps.length
  · obtain ⟨x', y', c0, c1, ox, oy⟩ := hel j hj
    refine ⟨x', y', ?_, ?_, ?_, ?_⟩
    · rw [List.getElem?_append_left (by omega)]; exact c0
    · rw [List.getElem?_append_left (by omega)]; exact c1
    · rw [List.getElem_append_left hj]; exact ox
    · rw [List.getElem_append_left hj]; exact oy
  · have hje : j = ps.length := by rw [List.length_append] at h; simp at h; omega
    subst hje
    have e : (ps ++ [p])[ps.length]'h = p := by simp
    rw [e]
    refine ⟨x, y, ?_, ?_, hx, hy⟩
    · rw [List.getElem?_append_right (by omega), show ps.length * 2 - cs.length = 0 by omega]; rfl
    · rw [List.getElem?_append_right (by omega), show ps.length * 2 + 1 - cs.length = 1 by omega]; rfl

theorem laid2 (w : World) (v0 v1 : Value) (t : TypeId) : ∀ j u, [v0, v1][j]? = some u → (w.alloc (.cells #[v0, v1] t)).cell? ((⟨w.heap.size, 0, none⟩ : Addr).add j) = some u := by
  intro j u hj
  match j, hj with
  | 0, hj => simp at hj; subst hj; simp [Addr.add]
  | 1, hj => simp at hj; subst hj; simp [Addr.add]
  | (j + 2), hj => simp at hj

theorem one2 (a b : Option Addr) (n m c d : Nat) : ∀ u ∈ [Value.slice a n c, .slice b m d], u.oneCell' = true := by
  intro u hu
  simp at hu
  rcases hu with rfl | rfl <;> rfl

theorem infoPr : (Try.prog.info? 75).map (fun i => (i.zero, i.size, i.bytes)) = some (some (.agg #[.slice none 0 0, .slice none 0 0]), 2, 48) := by kernel_rfl

/-- is key a below key b -/
def ltB (a b : List UInt8) : Bool := decide (Lib.compareBytes a b < 0)

/-- what a map is behind an op; done: it isn't to be put any more -/
def applyS (o : OpB) : Bool → List PrB → List PrB
  | done, [] => if done then [] else [(o.2.1, o.2.2)]
  | done, x :: r => (if !done && ltB o.2.1 x.1 then [(o.2.1, o.2.2)] else []) ++ ((if covB o x.1 then [] else [x]) ++ applyS o (done || ltB o.2.1 x.1) r)

def applyO (m : List PrB) (o : OpB) : List PrB := applyS o (decide (¬ o.1.toNat = 2)) m

def applyAllO (m : List PrB) (os : List OpB) : List PrB := os.foldl applyO m

theorem applyS_len (o : OpB) (d : Bool) (m : List PrB) : (applyS o d m).length ≤ m.length + 1 ∧ (d = true → (applyS o d m).length ≤ m.length) := by
  induction m generalizing d with
  | nil => cases d <;> simp [applyS]
  | cons x r ih =>
    have h1 := ih (d || ltB o.2.1 x.1)
    unfold applyS
    cases d <;> cases hl : ltB o.2.1 x.1 <;> cases hc : covB o x.1 <;> simp_all <;> omega

theorem applyO_len (m : List PrB) (o : OpB) : (applyO m o).length ≤ m.length + 1 := (applyS_len o _ m).1

theorem applyAll_len (m : List PrB) (os : List OpB) : (applyAllO m os).length ≤ m.length + os.length := by
  induction os generalizing m with
  | nil => simp [applyAllO]
  | cons o os ih =>
    have h1 := ih (applyO m o)
    have h2 := applyO_len m o
    unfold applyAllO at h1 ⊢
    rw [List.foldl_cons, List.length_cons]
    omega

/-- a key's value -/
def getP (m : List PrB) (key : List UInt8) : Option (List UInt8) := (m.find? fun x => x.1 == key).map (·.2)

theorem getP_cons (x : PrB) (r : List PrB) (key : List UInt8) : getP (x :: r) key = if x.1 == key then some x.2 else getP r key := by
  unfold getP
  rw [List.find?_cons]
  cases x.1 == key <;> rfl

theorem getP_append (a b : List PrB) (key : List UInt8) : getP (a ++ b) key = (getP a key).or (getP b key) := by
  induction a with
  | nil => simp [getP]
  | cons x r ih =>
    rw [List.cons_append, getP_cons, getP_cons, ih]
    cases x.1 == key <;> simp

theorem cov_put {o : OpB} (h : o.1.toNat = 2) (key : List UInt8) : covB o key = (o.2.1 == key) := by
  unfold covB cov
  rw [h]
  simp

/-- what a key's value is behind an op that isn't to be put any more -/
theorem get_done (o : OpB) (m : List PrB) (key : List UInt8) : getP (applyS o true m) key = if covB o key = true then none else getP m key := by
  induction m with
  | nil => simp [applyS, getP]
  | cons x r ih =>
    unfold applyS
    simp only [Bool.not_true, Bool.false_and, Bool.false_eq_true, if_false, List.nil_append, Bool.true_or]
    rw [getP_append, ih, getP_cons]
    by_cases hk : x.1 = key
    · subst hk
      cases hc : covB o x.1 <;> simp [getP]
    · have hk' : (x.1 == key) = false := by simpa using hk
      cases hc : covB o x.1 <;> simp [getP, hk']

theorem get_put (o : OpB) (h2 : o.1.toNat = 2) (m : List PrB) (key : List UInt8) : getP (applyS o false m) key = if covB o key = true then some o.2.2 else getP m key := by
  induction m with
  | nil =>
    unfold applyS
    simp only [Bool.false_eq_true, if_false]
    rw [getP_cons, cov_put h2]
  | cons x r ih =>
    unfold applyS
    simp only [Bool.not_false, Bool.true_and, Bool.false_or]
    cases hl : ltB o.2.1 x.1
    · simp only [Bool.false_eq_true, if_false, List.nil_append]
      rw [getP_append, ih, getP_cons]
      by_cases hk : x.1 = key
      · subst hk
        cases hc : covB o x.1 <;> simp [getP]
      · have hk' : (x.1 == key) = false := by simpa using hk
        cases hc : covB o x.1 <;> simp [getP, hk']
    · simp only [if_true]
      rw [getP_append, getP_append, get_done, getP_cons, getP_cons]
      by_cases hk : o.2.1 = key
      · have h1 : covB o key = true := by rw [cov_put h2]; simpa using hk
        have h3 : (o.2.1 == key) = true := by simpa using hk
        simp [h1, h3]
      · have h1 : covB o key = false := by rw [cov_put h2]; simpa using hk
        have h3 : (o.2.1 == key) = false := by simpa using hk
        by_cases hk2 : x.1 = key
        · subst hk2
          simp [h1, h3, getP]
        · have hk' : (x.1 == key) = false := by simpa using hk2
          cases hc : covB o x.1 <;> simp [h1, h3, getP, hk']

theorem get_apply (m : List PrB) (o : OpB) (key : List UInt8) : getP (applyO m o) key = if covB o key = true then (if o.1.toNat = 2 then some o.2.2 else none) else getP m key := by
  unfold applyO
  by_cases h : o.1.toNat = 2
  · rw [show decide (¬ o.1.toNat = 2) = false by simp [h], get_put o h, if_pos h]
  · rw [show decide (¬ o.1.toNat = 2) = true by simp [h], get_done, if_neg h]

theorem overO_append (os : List OpB) (o : OpB) (key : List UInt8) : overO (os ++ [o]) key = if covB o key = true then some o else overO os key := by
  unfold overO
  rw [List.reverse_append, List.reverse_singleton, List.singleton_append, List.find?_cons]
  cases covB o key <;> rfl

theorem get_all (os : List OpB) (key : List UInt8) : getP (applyAllO [] os) key = match overO os key with | some o => if o.1.toNat = 2 then some o.2.2 else none | none => none := by
  obtain ⟨rs, rfl⟩ : ∃ rs, os = rs.reverse := ⟨os.reverse, by simp⟩
  induction rs with
  | nil => simp [applyAllO, getP, overO]
  | cons o rs ih =>
    rw [List.reverse_cons]
    generalize rs.reverse = os at *
    have e : applyAllO [] (os ++ [o]) = applyO (applyAllO [] os) o := by unfold applyAllO; rw [List.foldl_append]; rfl
    rw [e, get_apply, ih, overO_append]
    cases covB o key <;> simp

end Go.Proofs.Ytlkfdiiapcipoaa
