/- Locks of one key, all exclusive: who waits, in a line. -/
import Derived.Test.YtnnedoohppobpabLkAwake
namespace Go.Proofs.Ytnnedoohppobpab
set_option maxRecDepth 20000
open Go.RowKit
set_option linter.unusedVariables false
set_option linter.unusedSimpArgs false

/-- an exclusive lock of a key -/
def LkK (key : List UInt8) (n : Nat) (l : Lk) : Prop := l.n = n ∧ l.f = key ∧ l.t = key ++ [0] ∧ l.m = 3
/-- requests of a key, from a number on -/
def Line (key : List UInt8) : Nat → List Rq → Prop
  | _, [] => True
  | a, q :: qs => LkK key a q.l ∧ Line key (a + 1) qs

theorem line_snoc {key : List UInt8} {q : Rq} : ∀ (qs : List Rq) (a : Nat), Line key a qs → LkK key (a + qs.length) q.l → Line key a (qs ++ [q]) := by
  intro qs
  induction qs with
  | nil => exact fun a _ h => ⟨h, trivial⟩
  | cons x r ih =>
    intro a h h2
    refine ⟨h.1, ih (a + 1) h.2 ?_⟩
    rw [List.length_cons, show a + (r.length + 1) = a + 1 + r.length by omega] at h2
    exact h2

theorem line_mem {key : List UInt8} : ∀ (qs : List Rq) (a : Nat), Line key a qs → ∀ q ∈ qs, a ≤ q.l.n ∧ q.l.n < a + qs.length := by
  intro qs
  induction qs with
  | nil => exact fun a _ q hq => absurd hq (by simp)
  | cons x r ih =>
    intro a h q hq
    rw [List.length_cons]
    rcases List.mem_cons.1 hq with rfl | hq
    · rw [h.1.1]; omega
    · have := ih (a + 1) h.2 q hq; omega

theorem ltB_next (k : List UInt8) : ltB k (k ++ [0]) = true := by
  unfold ltB
  induction k with
  | nil => rfl
  | cons a r ih => rw [List.cons_append]; unfold Lib.compareBytes; rw [if_neg (UInt8.lt_irrefl a), if_neg (UInt8.lt_irrefl a)]; exact ih

theorem belB_next (k : List UInt8) : belB k (k ++ [0]) = true := by
  unfold belB
  rw [if_neg (by simp)]
  exact ltB_next k

theorem clB_key {key : List UInt8} {n m : Nat} {a b : Lk} (ha : LkK key n a) (hb : LkK key m b) (h : n ≠ m) : clB a b = true := by
  obtain ⟨h1, h2, h3, h4⟩ := ha
  obtain ⟨k1, k2, k3, k4⟩ := hb
  unfold clB overB togB
  rw [h1, h2, h3, h4, k1, k2, k3, k4, belB_next, if_neg h]
  rfl

theorem blk_key {key : List UInt8} {n m : Nat} {g l : Lk} (ah : List Rq) (hg : LkK key n g) (hl : LkK key m l) (h : m ≠ n) : ¬ (blkB [g] ah l).length = 0 := by
  unfold blkB
  rw [List.filter_cons_of_pos (clB_key hl hg h)]
  simp

theorem blk_nil (l : Lk) : (blkB [] [] l).length = 0 := by
  unfold blkB
  simp

theorem adv_line {key : List UInt8} {n : Nat} {g : Lk} (hg : LkK key n g) : ∀ (qs : List Rq) (a : Nat) (ah ps : List Rq), Line key a qs → n < a → advB qs [g] ah ps = ([g], ah ++ qs, ps) := by
  intro qs
  induction qs with
  | nil => intro a ah ps _ _; unfold advB; rw [List.append_nil]
  | cons x r ih =>
    intro a ah ps h hn
    unfold advB
    rw [if_neg (blk_key ah hg h.1 (by omega)), ih (a + 1) _ _ h.2 (by omega), List.append_assoc]
    rfl

theorem right_key {key : List UInt8} {n : Nat} {l : Lk} (h : LkK key n l) (hn : n ≠ 0) (hk : key.length ≤ 60) : rightB l = true := by
  obtain ⟨h1, h2, h3, h4⟩ := h
  unfold rightB
  rw [h1, h2, h3, h4, belB_next, List.length_append]
  simp [hn]
  omega

theorem ask_first {key : List UInt8} {n : Nat} {l : Lk} (l' : Lk) (u : Nat) (h : LkK key n l) (hn : n ≠ 0) (hk : key.length ≤ 60) : askB 100 100 [] [] l l' u = (0, [l'], []) := by
  unfold askB
  rw [right_key h hn hk, if_neg (by simp), if_neg (by simp), if_neg (by simp [hasB, ofB]), if_neg (by simp [fullB, ofB]), if_pos (blk_nil l)]
  rfl

theorem ask_next {key : List UInt8} {g l : Lk} {qs : List Rq} (l' : Lk) (u : Nat) (hg : LkK key 1 g) (hq : Line key 2 qs) (h : LkK key (2 + qs.length) l) (hk : key.length ≤ 60) (hn : qs.length ≤ 90) : askB 100 100 [g] qs l l' u = (3, [g], qs ++ [⟨l', u⟩]) := by
  have hof : ofB [g] l.n = [] := by
    unfold ofB
    rw [List.filter_cons_of_neg (by rw [hg.1, h.1]; simp; omega)]
    rfl
  unfold askB
  rw [right_key h (by omega) hk, if_neg (by simp), if_neg ?_, if_neg (by simp [hasB, hof]), if_neg (by simp [fullB, hof]; omega), if_neg (blk_key qs hg h (by omega))]
  intro hx
  obtain ⟨q, hq1, hq2⟩ := List.any_eq_true.1 hx
  have h1 := line_mem qs 2 hq q hq1
  rw [h.1] at hq2
  have h2 := of_decide_eq_true hq2
  omega

theorem rel_line {key : List UInt8} {n : Nat} {g : Lk} {q : Rq} {qs : List Rq} (hg : LkK key n g) (hq : Line key (n + 1) (q :: qs)) : advB (lvB (q :: qs) n) (rlB [g] n) [] [] = ([q.l], qs, [q]) := by
  have h1 : lvB (q :: qs) n = q :: qs := by
    unfold lvB
    rw [List.filter_eq_self]
    intro x hx
    have := line_mem _ _ hq x hx
    rw [decide_eq_false (by omega)]
    rfl
  have h2 : rlB [g] n = [] := by
    unfold rlB
    rw [List.filter_cons_of_neg (by rw [hg.1]; simp)]
    rfl
  rw [h1, h2]
  unfold advB
  rw [if_pos (blk_nil q.l)]
  exact (adv_line hq.1 qs (n + 1 + 1) [] [q] hq.2 (by omega))

theorem rel_last {key : List UInt8} {n : Nat} {g : Lk} (hg : LkK key n g) : advB (lvB [] n) (rlB [g] n) [] [] = ([], [], []) := by
  have h2 : rlB [g] n = [] := by
    unfold rlB
    rw [List.filter_cons_of_neg (by rw [hg.1]; simp)]
    rfl
  rw [h2]
  rfl

/-- after so many asks -/
def StO (key : List UInt8) (j : Nat) (gs : List Lk) (qs : List Rq) : Prop := (j = 0 ∧ gs = [] ∧ qs = []) ∨ ∃ g, gs = [g] ∧ LkK key 1 g ∧ Line key 2 qs ∧ qs.length + 1 = j

theorem sto_ask {key : List UInt8} {j : Nat} {gs : List Lk} {qs : List Rq} (h : StO key j gs qs) (l l' : Lk) (u : Nat) (hl : LkK key (j + 1) l) (hl' : LkK key (j + 1) l') (hk : key.length ≤ 60) (hj : j ≤ 90) :
    (askB 100 100 gs qs l l' u).1 = (if j = 0 then 0 else 3) ∧ StO key (j + 1) (askB 100 100 gs qs l l' u).2.1 (askB 100 100 gs qs l l' u).2.2 := by
  rcases h with ⟨rfl, rfl, rfl⟩ | ⟨g, rfl, hg, hq, hl2⟩
  · rw [ask_first l' u hl (by omega) hk]
    exact ⟨rfl, .inr ⟨l', rfl, hl', trivial, rfl⟩⟩
  · have e : j + 1 = 2 + qs.length := by omega
    rw [e] at hl hl'
    rw [ask_next l' u hg hq hl hk (by omega), if_neg (by omega)]
    exact ⟨rfl, .inr ⟨g, rfl, hg, line_snoc qs 2 hq hl', by simp; omega⟩⟩

theorem sto_len {key : List UInt8} {j : Nat} {gs : List Lk} {qs : List Rq} (h : StO key j gs qs) : gs.length + qs.length = j := by
  rcases h with ⟨rfl, rfl, rfl⟩ | ⟨g, rfl, hg, hq, hl⟩
  · rfl
  · simp; omega

end Go.Proofs.Ytnnedoohppobpab
