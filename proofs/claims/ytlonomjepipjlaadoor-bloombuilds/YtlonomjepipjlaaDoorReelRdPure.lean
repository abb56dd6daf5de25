/- What is read of a reel, as plain bytes. -/
import Derived.Test.YtlonomjepipjlaaDoorReelTail
namespace Go.Proofs.YtlonomjepipjlaaDoor
open Go.RowKit
set_option linter.unusedVariables false

/-- the pieces of a record from a place on, put together; the place behind them -/
def recG : Nat → List UInt8 → Nat → List UInt8 → Option (List UInt8 × Nat)
  | 0, _, _, _ => none
  | n + 1, p, nx, t => match pcAt p nx with
    | none => none
    | some (k, q) => if k.toNat = 1 ∨ k.toNat = 4 then some (t ++ q, nx + 7 + q.length) else recG n p (nx + 7 + q.length) (t ++ q)

/-- the record at a place, and the place behind it -/
def recAt (p : List UInt8) (a : Nat) : Option (List UInt8 × Nat) :=
  match recG (p.length + 1) p (a + gapN a) [] with
  | none => none
  | some (t, nx) => if t.length ≤ 65536 ∧ frameB a t = (p.drop a).take (nx - a) then some (t, nx) else none

/-- the records from a place on, behind others; the place behind them -/
def readG : Nat → List UInt8 → Nat → List (List UInt8) → List (List UInt8) × Nat
  | 0, _, a, l => (l, a)
  | n + 1, p, a, l => match recAt p a with
    | none => (l, a)
    | some (t, nx) => readG n p nx (l ++ [t])

theorem pcAt_over {p : List UInt8} {a : Nat} (h : p.length ≤ a) : pcAt p a = none := by
  apply pcAt_short
  rw [List.length_take, List.length_drop]
  omega

theorem pcAt_fits {p : List UInt8} {a : Nat} {k : UInt8} {t : List UInt8} (h : pcAt p a = some (k, t)) : a + 7 + t.length ≤ p.length := by
  unfold pcAt at h
  split at h
  · rename_i e
    split at h
    · rename_i hc
      cases h
      have := congrArg List.length e
      rw [List.length_take, List.length_drop] at this
      simp only [List.length_cons] at this
      have h1 := hc.1.1
      rw [List.length_take]
      omega
    · cases h
  · cases h

theorem recG_any : ∀ (n m : Nat) (p : List UInt8) (nx : Nat) (t : List UInt8), p.length < n + nx → p.length < m + nx → recG n p nx t = recG m p nx t := by
  intro n
  induction n with
  | zero =>
    intro m p nx t hn hm
    cases m with
    | zero => rfl
    | succ m => rw [recG, recG, pcAt_over (by omega)]
  | succ n ih =>
    intro m p nx t hn hm
    cases m with
    | zero => rw [recG, recG, pcAt_over (by omega)]
    | succ m =>
      rw [recG, recG]
      cases h : pcAt p nx with
      | none => rfl
      | some kq =>
        obtain ⟨k, q⟩ := kq
        have := pcAt_fits h
        simp only
        split
        · rfl
        · exact ih m p _ _ (by omega) (by omega)

theorem recG_step {n : Nat} {p : List UInt8} {nx : Nat} {t : List UInt8} (hn : p.length < n + nx) : recG n p nx t = match pcAt p nx with
    | none => none
    | some (k, q) => if k.toNat = 1 ∨ k.toNat = 4 then some (t ++ q, nx + 7 + q.length) else recG n p (nx + 7 + q.length) (t ++ q) := by
  rw [recG_any n (n + 1) p nx t hn (by omega), recG]

theorem recG_fits : ∀ (n : Nat) (p : List UInt8) (nx : Nat) (t : List UInt8) (r : List UInt8) (e : Nat), recG n p nx t = some (r, e) → nx + 7 ≤ e ∧ e ≤ p.length ∧ r.length + nx ≤ t.length + e := by
  intro n
  induction n with
  | zero => intro p nx t r e h; cases h
  | succ n ih =>
    intro p nx t r e h
    rw [recG] at h
    cases hp : pcAt p nx with
    | none => rw [hp] at h; cases h
    | some kq =>
      obtain ⟨k, q⟩ := kq
      rw [hp] at h
      have hf := pcAt_fits hp
      simp only at h
      split at h
      · cases h
        rw [List.length_append]
        omega
      · have := ih _ _ _ _ _ h
        rw [List.length_append] at this
        omega

/-- pieces that stand there are read -/
theorem recG_frR (p Y : List UInt8) : ∀ (l : List UInt8) (n nx : Nat) (t : List UInt8), p.length < n + nx → leftN nx = 64 → p.drop nx = frR l ++ Y → recG n p nx t = some (t ++ l, nx + (frR l).length) := by
  intro l
  induction l using frR_ind with
  | h1 l h =>
    intro n nx t hn h64 hd
    rw [frR_eq, if_pos h] at hd ⊢
    rw [recG_step hn, pcAt_there p Y l nx 4 hd (by decide) (by omega)]
    simp only
    rw [if_pos (by decide), pcB_length, Nat.add_assoc]
  | h2 l h ih =>
    intro n nx t hn h64 hd
    rw [frR_eq, if_neg h] at hd ⊢
    have hl : (l.take 57).length = 57 := by rw [List.length_take]; omega
    rw [List.append_assoc] at hd
    rw [recG_step hn, pcAt_there p _ (l.take 57) nx 3 hd (by decide) (by omega)]
    simp only
    rw [if_neg (by decide), ih n (nx + 7 + (l.take 57).length) (t ++ l.take 57) (by omega) (by unfold leftN at *; omega) ?_]
    · rw [List.append_assoc, List.take_append_drop, List.length_append, pcB_length]
      congr 2
      omega
    · rw [show nx + 7 + (l.take 57).length = nx + (pcB 3 (l.take 57)).length by rw [pcB_length]; omega, ← List.drop_drop, hd, List.drop_left]

theorem recG_frame (p Y l : List UInt8) (a n : Nat) (hn : p.length < n + (a + gapN a)) (hd : p.drop a = frameB a l ++ Y) : recG n p (a + gapN a) [] = some (l, a + (frameB a l).length) := by
  have hg := gap_left a
  have hb := left_bd (a + gapN a)
  have hd1 : p.drop (a + gapN a) = frF (leftN (a + gapN a) - 7) l ++ Y := by
    rw [← List.drop_drop, hd]
    unfold frameB
    rw [List.append_assoc, List.drop_append_of_le_length (by simp)]
    simp
  unfold frameB
  rw [List.length_append, List.length_replicate]
  unfold frF at hd1 ⊢
  by_cases hl : l.length ≤ leftN (a + gapN a) - 7
  · rw [if_pos hl] at hd1 ⊢
    rw [recG_step hn, pcAt_there p Y l _ 1 hd1 (by decide) (by omega)]
    simp only
    rw [if_pos (by decide), pcB_length, List.nil_append, Nat.add_assoc, Nat.add_assoc]
  · rw [if_neg hl] at hd1 ⊢
    have ht : (l.take (leftN (a + gapN a) - 7)).length = leftN (a + gapN a) - 7 := by rw [List.length_take]; omega
    rw [List.append_assoc] at hd1
    rw [recG_step hn, pcAt_there p _ _ _ 2 hd1 (by decide) (by omega)]
    simp only
    rw [if_neg (by decide), ht, recG_frR p Y _ n _ _ (by omega) (by unfold leftN at *; omega) ?_]
    · rw [List.nil_append, List.take_append_drop, List.length_append, pcB_length, ht]
      congr 2
      first | omega | skip
    · rw [show a + gapN a + 7 + (leftN (a + gapN a) - 7) = a + gapN a + (pcB 2 (l.take (leftN (a + gapN a) - 7))).length by rw [pcB_length, ht]; omega, ← List.drop_drop, hd1, List.drop_left]

/-- a record is what its frame would be, at its place -/
theorem recAt_frame (p Y l : List UInt8) (a : Nat) (hl : l.length ≤ 65536) (hd : p.drop a = frameB a l ++ Y) : recAt p a = some (l, a + (frameB a l).length) := by
  have hq : frameB a l = (p.drop a).take (a + (frameB a l).length - a) := by
    rw [hd, Nat.add_sub_cancel_left, List.take_left]
  unfold recAt
  rw [recG_frame p Y l a (p.length + 1) (by omega) hd]
  simp only
  rw [if_pos ⟨hl, hq⟩]

theorem recAt_some {p l : List UInt8} {a nx : Nat} (h : recAt p a = some (l, nx)) : l.length ≤ 65536 ∧ nx = a + (frameB a l).length ∧ p.drop a = frameB a l ++ p.drop nx ∧ nx ≤ p.length := by
  unfold recAt at h
  split at h
  · cases h
  · rename_i t e hg
    split at h
    · rename_i hc
      cases h
      have hf := recG_fits _ _ _ _ _ _ hg
      have hlen := congrArg List.length hc.2
      rw [List.length_take, List.length_drop] at hlen
      have hnx : nx = a + (frameB a l).length := by omega
      refine ⟨hc.1, hnx, ?_, hf.2.1⟩
      rw [hc.2]
      rw [show p.drop nx = (p.drop a).drop (nx - a) by rw [List.drop_drop]; congr 1; omega, List.take_append_drop]
    · cases h

theorem readG_any : ∀ (n m : Nat) (p : List UInt8) (a : Nat) (l : List (List UInt8)), p.length < n + a → p.length < m + a → readG n p a l = readG m p a l := by
  intro n
  induction n with
  | zero =>
    intro m p a l hn hm
    cases m with
    | zero => rfl
    | succ m =>
      rw [readG, readG]
      cases h : recAt p a with
      | none => rfl
      | some r =>
        obtain ⟨r, e⟩ := r
        have := recAt_some h
        have := frameB_long a r
        omega
  | succ n ih =>
    intro m p a l hn hm
    cases m with
    | zero =>
      rw [readG, readG]
      cases h : recAt p a with
      | none => rfl
      | some r =>
        obtain ⟨r, e⟩ := r
        have := recAt_some h
        have := frameB_long a r
        omega
    | succ m =>
      rw [readG, readG]
      cases h : recAt p a with
      | none => rfl
      | some r =>
        obtain ⟨r, e⟩ := r
        have := recAt_some h
        have := frameB_long a r
        exact ih m p _ _ (by omega) (by omega)

theorem readG_step {n : Nat} {p : List UInt8} {a : Nat} {l : List (List UInt8)} (hn : p.length < n + a) : readG n p a l = match recAt p a with
    | none => (l, a)
    | some (t, nx) => readG n p nx (l ++ [t]) := by
  rw [readG_any n (n + 1) p a l hn (by omega), readG]

/-- the records of a reel, and the place behind them -/
def readB (p : List UInt8) : List (List UInt8) × Nat := readG (p.length + 1) p 0 []

/-- what reel.Read answers as the place -/
def reelN (p : List UInt8) : Nat := if (p.drop (readB p).2).length = gapN (readB p).2 ∧ (p.drop (readB p).2).all (· == 0) = true then p.length else (readB p).2

theorem readG_le : ∀ (n : Nat) (p : List UInt8) (a : Nat) (l : List (List UInt8)), a ≤ p.length → a ≤ (readG n p a l).2 ∧ (readG n p a l).2 ≤ p.length := by
  intro n
  induction n with
  | zero => intro p a l h; rw [readG]; exact ⟨Nat.le_refl _, h⟩
  | succ n ih =>
    intro p a l h
    rw [readG]
    cases hr : recAt p a with
    | none => exact ⟨Nat.le_refl _, h⟩
    | some r =>
      obtain ⟨r, e⟩ := r
      have h1 := recAt_some hr
      have := ih p e (l ++ [r]) h1.2.2.2
      simp only
      omega

theorem allB_pre (ls : List (List UInt8)) : ∀ P, ∃ X, allB ls P = P ++ X := by
  induction ls with
  | nil => intro P; exact ⟨[], by simp [allB]⟩
  | cons r ls ih =>
    intro P
    obtain ⟨X, h⟩ := ih (P ++ frameB P.length r)
    exact ⟨frameB P.length r ++ X, by rw [allB, h, List.append_assoc]⟩

/-- records that stand there are read, whatever stands behind them -/
theorem readG_all (Z : List UInt8) : ∀ (ls : List (List UInt8)) (P : List UInt8) (n : Nat) (l : List (List UInt8)), (∀ r ∈ ls, r.length ≤ 65536) → (allB ls P ++ Z).length < n + P.length → readG n (allB ls P ++ Z) P.length l = readG n (allB ls P ++ Z) (allB ls P).length (l ++ ls) := by
  intro ls
  induction ls with
  | nil => intro P n l h hn; rw [allB, List.append_nil]
  | cons r ls ih =>
    intro P n l h hn
    rw [allB] at hn ⊢
    obtain ⟨X, hX⟩ := allB_pre ls (P ++ frameB P.length r)
    have hd : (allB ls (P ++ frameB P.length r) ++ Z).drop P.length = frameB P.length r ++ (X ++ Z) := by
      rw [hX, List.append_assoc, List.append_assoc, List.drop_left]
    rw [readG_step hn, recAt_frame _ _ r _ (h r (by simp)) hd]
    simp only
    have := ih (P ++ frameB P.length r) n (l ++ [r]) (fun x hx => h x (by simp [hx])) (by rw [@List.length_append _ P]; omega)
    rw [@List.length_append _ P] at this
    rw [this, List.append_assoc]
    rfl

theorem recAt_over {p : List UInt8} {a : Nat} (h : p.length ≤ a) : recAt p a = none := by
  cases hr : recAt p a with
  | none => rfl
  | some r =>
    obtain ⟨r, e⟩ := r
    have h1 := recAt_some hr
    have := frameB_long a r
    omega

/-- a reel of records is read as these, to the end -/
theorem readB_all (ls : List (List UInt8)) (h : ∀ r ∈ ls, r.length ≤ 65536) : readB (allB ls []) = (ls, (allB ls []).length) := by
  have := readG_all [] ls [] ((allB ls []).length + 1) [] h (by simp)
  rw [List.append_nil, List.length_nil] at this
  unfold readB
  rw [this, readG_step (by omega), recAt_over (Nat.le_refl _)]
  rfl

theorem reelN_end {p : List UInt8} (h : (readB p).2 = p.length) : reelN p = p.length := by
  unfold reelN
  split
  · rfl
  · exact h

end Go.Proofs.YtlonomjepipjlaaDoor
