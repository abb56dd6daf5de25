/- Locks of distinct keys, all exclusive: so many and no more. -/
import Derived.Test.YtnnedoohppobpabLkLine
namespace Go.Proofs.Ytnnedoohppobpab
set_option maxRecDepth 20000
open Go.RowKit
set_option linter.unusedVariables false
set_option linter.unusedSimpArgs false

theorem ltB_lt {a b : UInt8} (l m : List UInt8) (h : a < b) : ltB (a :: l) (b :: m) = true := by
  unfold ltB Lib.compareBytes
  rw [if_pos h]
  rfl

theorem ltB_gt {a b : UInt8} (l m : List UInt8) (h : b < a) : ltB (a :: l) (b :: m) = false := by
  have h1 : ¬ a < b := by rw [UInt8.lt_iff_toNat_lt] at h ⊢; omega
  unfold ltB Lib.compareBytes
  rw [if_neg h1, if_pos h]
  rfl

theorem ltB_eq (a : UInt8) (l m : List UInt8) : ltB (a :: l) (a :: m) = ltB l m := by
  unfold ltB
  rw [Lib.compareBytes, if_neg (UInt8.lt_irrefl a), if_neg (UInt8.lt_irrefl a)]

/-- the lock of a transaction's key -/
def KeyT (a b : Nat) (l : Lk) : Prop := l.n = a ∧ l.m = 3 ∧ ∃ ca cb : UInt8, l.f = [ca, cb] ∧ l.t = [ca, cb, 0] ∧ ca.toNat = a ∧ cb.toNat = b

theorem keyT_right {a b : Nat} {l : Lk} (h : KeyT a b l) (ha : 1 ≤ a) : rightB l = true := by
  obtain ⟨h1, h2, ca, cb, h3, h4, h5, h6⟩ := h
  unfold rightB belB
  rw [h1, h2, h3, h4, if_neg (by simp), ltB_eq, ltB_eq]
  simp only [List.length_cons, List.length_nil]
  rw [decide_eq_true (by omega : a ≠ 0)]
  rfl

theorem keyT_cov {a b b' : Nat} {g l : Lk} (hg : KeyT a b' g) (hl : KeyT a b l) (h : b' < b) : covB g l = false := by
  obtain ⟨h1, h2, ca, cb, h3, h4, h5, h6⟩ := hg
  obtain ⟨k1, k2, da, db, k3, k4, k5, k6⟩ := hl
  have e : da = ca := UInt8.toNat_inj.1 (k5.trans h5.symm)
  subst e
  unfold covB pastB
  rw [h3, h4, k3, k4, if_neg (by simp), if_neg (by simp), ltB_eq da [cb, 0] [db, 0], ltB_lt [0] [0] (by rw [UInt8.lt_iff_toNat_lt]; omega)]
  simp

theorem keyT_apart {a a' b b' : Nat} {g l : Lk} (hg : KeyT a' b' g) (hl : KeyT a b l) (h : a' ≤ a) : clB l g = false := by
  obtain ⟨h1, h2, ca, cb, h3, h4, h5, h6⟩ := hg
  obtain ⟨k1, k2, da, db, k3, k4, k5, k6⟩ := hl
  unfold clB togB
  by_cases e : a' = a
  · rw [if_pos (by rw [k1, h1, e])]
    simp
  · unfold overB belB
    rw [h4, k3, if_neg (by simp), ltB_gt [db] [cb, 0] (by rw [UInt8.lt_iff_toNat_lt]; omega)]
    rfl

/-- how far it has come -/
structure FullI (mo ea a b : Nat) (gs : List Lk) : Prop where
  le : gs.length ≤ mo
  el : ∀ g ∈ gs, ∃ a' b', KeyT a' b' g ∧ 1 ≤ a' ∧ (a' < a ∨ a' = a ∧ b' < b)
  own : gs.length < mo → (ofB gs a).length = min b ea
  tot : gs.length < mo → (a - 1) * ea + min b ea ≤ gs.length
  one : (1 < a ∨ 0 < b) → 1 ≤ (ofB gs 1).length

theorem FullI.start (mo ea : Nat) : FullI mo ea 1 0 [] :=
  ⟨Nat.zero_le _, fun g hg => absurd hg (by simp), fun _ => by simp [ofB], fun _ => by simp, fun h => by omega⟩

theorem ofB_snoc (gs : List Lk) (l : Lk) (n : Nat) : ofB (gs ++ [l]) n = if l.n = n then ofB gs n ++ [l] else ofB gs n := by
  unfold ofB
  rw [List.filter_append]
  by_cases h : l.n = n
  · rw [if_pos h, List.filter_cons_of_pos (by simpa using h)]; rfl
  · rw [if_neg h, List.filter_cons_of_neg (by simpa using h)]; simp

theorem FullI.has {mo ea a b : Nat} {gs : List Lk} (h : FullI mo ea a b gs) {l : Lk} (hl : KeyT a b l) : hasB gs l = false := by
  unfold hasB
  rw [List.any_eq_false]
  intro g hg
  obtain ⟨h1, h2⟩ := List.mem_filter.1 hg
  obtain ⟨a', b', hk, _, hor⟩ := h.el g h1
  have e : a' = a := by have := of_decide_eq_true h2; rw [hk.1, hl.1] at this; exact this
  subst e
  rw [keyT_cov hk hl (by omega)]
  simp

theorem FullI.blk {mo ea a b : Nat} {gs : List Lk} (h : FullI mo ea a b gs) {l : Lk} (hl : KeyT a b l) : (blkB gs [] l).length = 0 := by
  have e : gs.filter (clB l) = [] := by
    rw [List.filter_eq_nil_iff]
    intro g hg
    obtain ⟨a', b', hk, _, hor⟩ := h.el g hg
    rw [keyT_apart hk hl (by omega)]
    decide
  unfold blkB
  rw [e]
  simp

/-- what is asked next -/
theorem FullI.ask {mo ea a b : Nat} {gs : List Lk} (h : FullI mo ea a b gs) (ha : 1 ≤ a) (hea : 1 ≤ ea) (hmo : 1 ≤ mo) (hb : b ≤ ea) (l l' : Lk) (u : Nat) (hl : KeyT a b l) (hl' : KeyT a b l') :
    (b < ea ∧ gs.length < mo → askB (mo : Int) (ea : Int) gs [] l l' u = (0, gs ++ [l'], []) ∧ FullI mo ea a (b + 1) (gs ++ [l'])) ∧ (¬ (b < ea ∧ gs.length < mo) → askB (mo : Int) (ea : Int) gs [] l l' u = (7, gs, []) ∧ FullI mo ea a (b + 1) gs) := by
  have hask : askB (mo : Int) (ea : Int) gs [] l l' u = if fullB (mo : Int) (ea : Int) gs [] l.n = true then (7, gs, []) else (0, gs ++ [l'], []) := by
    unfold askB
    rw [if_neg (by rw [keyT_right hl ha]; decide), if_neg (by simp), if_neg (by rw [h.has hl]; decide), if_pos (h.blk hl)]
  constructor
  · rintro ⟨h1, h2⟩
    have ho := h.own h2
    have hf : fullB (mo : Int) (ea : Int) gs [] l.n = false := by
      unfold fullB
      rw [hl.1, ho, decide_eq_false (by omega), decide_eq_false (by simp; omega)]
      rfl
    refine ⟨by rw [hask, if_neg (by rw [hf]; decide)], ?_⟩
    have hln : (gs ++ [l']).length = gs.length + 1 := by simp
    refine ⟨by omega, fun g hg => ?_, fun h3 => ?_, fun h3 => ?_, fun h3 => ?_⟩
    · rcases List.mem_append.1 hg with h9 | h9
      · obtain ⟨a', b', k1, k2, k3⟩ := h.el g h9
        exact ⟨a', b', k1, k2, by omega⟩
      · rw [List.mem_singleton.1 h9]
        exact ⟨a, b, hl', ha, by omega⟩
    · rw [ofB_snoc, if_pos hl'.1, List.length_append, ho]
      simp only [List.length_cons, List.length_nil]
      omega
    · have := h.tot h2
      rw [hln]
      omega
    · rw [ofB_snoc]
      by_cases e : l'.n = 1
      · rw [if_pos e, List.length_append]
        simp
      · rw [if_neg e]
        rw [hl'.1] at e
        exact h.one (by omega)
  · intro h1
    have hf : fullB (mo : Int) (ea : Int) gs [] l.n = true := by
      unfold fullB
      by_cases h2 : gs.length < mo
      · rw [hl.1, h.own h2, decide_eq_true (by omega)]
        rfl
      · rw [decide_eq_true (by simp; omega : (mo : Int) ≤ ((gs.length + ([] : List Rq).length : Nat) : Int))]
        simp
    refine ⟨by rw [hask, if_pos hf], ?_⟩
    refine ⟨h.le, fun g hg => ?_, fun h3 => ?_, fun h3 => ?_, fun h3 => ?_⟩
    · obtain ⟨a', b', k1, k2, k3⟩ := h.el g hg
      exact ⟨a', b', k1, k2, by omega⟩
    · have := h.own h3
      omega
    · have := h.tot h3
      omega
    · by_cases e : 1 < a ∨ 0 < b
      · exact h.one e
      · exfalso
        have hg0 : gs = [] := by
          cases gs with
          | nil => rfl
          | cons g r =>
            obtain ⟨a', b', k1, k2, k3⟩ := h.el g (by simp)
            omega
        subst hg0
        have : ([] : List Lk).length = 0 := rfl
        omega

/-- the next transaction -/
theorem FullI.next {mo ea a : Nat} {gs : List Lk} (h : FullI mo ea a (ea + 1) gs) (ha : 1 ≤ a) : FullI mo ea (a + 1) 0 gs := by
  refine ⟨h.le, fun g hg => ?_, fun h3 => ?_, fun h3 => ?_, fun _ => h.one (by omega)⟩
  · obtain ⟨a', b', k1, k2, k3⟩ := h.el g hg
    exact ⟨a', b', k1, k2, by omega⟩
  · have : ofB gs (a + 1) = [] := by
      unfold ofB
      rw [List.filter_eq_nil_iff]
      intro g hg
      obtain ⟨a', b', k1, k2, k3⟩ := h.el g hg
      rw [k1.1]
      simp
      omega
    rw [this]
    simp
  · have h4 := h.tot h3
    obtain ⟨c, rfl⟩ : ∃ c, a = c + 1 := ⟨a - 1, by omega⟩
    simp only [Nat.add_sub_cancel] at h4 ⊢
    rw [Nat.succ_mul]
    omega

theorem part_len (gs : List Lk) (n : Nat) : (rlB gs n).length + (ofB gs n).length = gs.length := by
  unfold rlB ofB
  induction gs with
  | nil => rfl
  | cons g r ih =>
    by_cases h : g.n = n
    · rw [List.filter_cons_of_neg (by simpa using h), List.filter_cons_of_pos (by simpa using h), List.length_cons, List.length_cons]
      omega
    · rw [List.filter_cons_of_pos (by simpa using h), List.filter_cons_of_neg (by simpa using h), List.length_cons, List.length_cons]
      omega

/-- at the end it is full; what is released leaves room -/
theorem FullI.fin {mo ea : Nat} {gs : List Lk} (h : FullI mo ea 51 0 gs) (hea : 1 ≤ ea) (hmo : mo ≤ 40) :
    gs.length = mo ∧ advB (lvB [] 1) (rlB gs 1) [] [] = (rlB gs 1, [], []) ∧ (rlB gs 1).length + (ofB gs 1).length = mo ∧ (ofB gs 1).length ≤ mo ∧ ∀ (l l' : Lk) (u : Nat), l.n = 99 → l.f = [122] → l.t = [] → l.m = 1 → (askB (mo : Int) (ea : Int) (rlB gs 1) [] l l' u).1 = 0 := by
  have h1 : gs.length = mo := by
    have hle := h.le
    by_cases h2 : gs.length < mo
    · have := h.tot h2
      simp only [Nat.zero_le, Nat.min_eq_left, Nat.add_zero] at this
      omega
    · omega
  have hp := part_len gs 1
  have h1' := h.one (by omega)
  refine ⟨h1, rfl, by omega, by omega, fun l l' u k1 k2 k3 k4 => ?_⟩
  have hm : ∀ g ∈ rlB gs 1, g ∈ gs := fun g hg => (List.mem_filter.1 hg).1
  have hof : ofB (rlB gs 1) 99 = [] := by
    unfold ofB
    rw [List.filter_eq_nil_iff]
    intro g hg
    obtain ⟨a', b', q1, q2, q3⟩ := h.el g (hm g hg)
    rw [q1.1]
    simp
    omega
  have hr : rightB l = true := by
    unfold rightB belB
    rw [k1, k2, k3, k4]
    rfl
  have hh : hasB (rlB gs 1) l = false := by
    unfold hasB
    rw [k1, hof]
    rfl
  have hf : fullB (mo : Int) (ea : Int) (rlB gs 1) [] l.n = false := by
    unfold fullB
    rw [k1, hof, decide_eq_false (by simp; omega), decide_eq_false (by simp; omega)]
    rfl
  have hb : (blkB (rlB gs 1) [] l).length = 0 := by
    have e : (rlB gs 1).filter (clB l) = [] := by
      rw [List.filter_eq_nil_iff]
      intro g hg
      obtain ⟨a', b', ⟨_, _, ca, cb, h3, h4, h5, h6⟩, q2, q3⟩ := h.el g (hm g hg)
      unfold clB overB belB
      rw [h4, k2, if_neg (by simp), ltB_gt [] [cb, 0] (by rw [UInt8.lt_iff_toNat_lt, h5]; have : (122 : UInt8).toNat = 122 := rfl; omega)]
      simp
    unfold blkB
    rw [e]
    simp
  unfold askB
  rw [if_neg (by rw [hr]; decide), if_neg (by simp), if_neg (by rw [hh]; decide), if_neg (by rw [hf]; decide), if_pos hb]

end Go.Proofs.Ytnnedoohppobpab
