/- What is framed, piece by piece. -/
import Derived.Test.YtlonomjepipjlaaDoorReelFew
namespace Go.Proofs.YtlonomjepipjlaaDoor
open Go.RowKit
set_option linter.unusedVariables false

/-- the bytes of pieces from a place on: noughts where a piece can't begin, and pieces -/
def tailB : Nat → List (UInt8 × List UInt8) → List UInt8
  | _, [] => []
  | a, (k, t) :: ps => List.replicate (gapN a) 0 ++ (pcB k t ++ tailB (a + gapN a + 7 + t.length) ps)

/-- each piece has a kind and lies in one block -/
def tailOk : Nat → List (UInt8 × List UInt8) → Prop
  | _, [] => True
  | a, (k, t) :: ps => (1 ≤ k.toNat ∧ k.toNat ≤ 4) ∧ 7 + t.length ≤ leftN (a + gapN a) ∧ tailOk (a + gapN a + 7 + t.length) ps

/-- from a place on there are noughts where a piece can't begin, and pieces -/
def Tail (a : Nat) (X : List UInt8) : Prop := ∃ ps, tailOk a ps ∧ X = tailB a ps

theorem Tail.nil (a : Nat) : Tail a [] := ⟨[], trivial, rfl⟩

theorem Tail.pc (a : Nat) (k : UInt8) (t Y : List UInt8) (hk : 1 ≤ k.toNat ∧ k.toNat ≤ 4) (ht : 7 + t.length ≤ leftN (a + gapN a)) (h : Tail (a + gapN a + 7 + t.length) Y) : Tail a (List.replicate (gapN a) 0 ++ (pcB k t ++ Y)) := by
  obtain ⟨ps, h1, h2⟩ := h
  exact ⟨(k, t) :: ps, ⟨hk, ht, h1⟩, by rw [tailB, h2]⟩

theorem Tail.cases {a : Nat} {X : List UInt8} (h : Tail a X) : X = [] ∨ ∃ (k : UInt8) (t Y : List UInt8), X = List.replicate (gapN a) 0 ++ (pcB k t ++ Y) ∧ (1 ≤ k.toNat ∧ k.toNat ≤ 4) ∧ 7 + t.length ≤ leftN (a + gapN a) ∧ Tail (a + gapN a + 7 + t.length) Y := by
  obtain ⟨ps, h1, h2⟩ := h
  cases ps with
  | nil => exact .inl h2
  | cons p ps =>
    obtain ⟨k, t⟩ := p
    exact .inr ⟨k, t, _, h2, h1.1, h1.2.1, ps, h1.2.2, rfl⟩

theorem gap_none {a : Nat} (h : 7 ≤ leftN a) : gapN a = 0 := by unfold gapN; rw [if_neg (by omega)]

theorem tail_piece {a : Nat} {k : UInt8} {t Y : List UInt8} (hk : 1 ≤ k.toNat ∧ k.toNat ≤ 4) (ht : 7 + t.length ≤ leftN a) (h : Tail (a + 7 + t.length) Y) : Tail a (pcB k t ++ Y) := by
  have hg := gap_none (a := a) (by omega)
  have := Tail.pc a k t Y hk (by rw [hg]; exact ht) (by rw [hg]; exact h)
  rw [hg] at this
  exact this

theorem tail_frR (l : List UInt8) : ∀ (a : Nat) (Y : List UInt8), leftN a = 64 → Tail (a + (frR l).length) Y → Tail a (frR l ++ Y) := by
  induction l using frR_ind with
  | h1 l h =>
    intro a Y ha hY
    rw [frR_eq, if_pos h] at hY ⊢
    rw [pcB_length] at hY
    exact tail_piece (by decide) (by omega) (by rw [Nat.add_assoc]; exact hY)
  | h2 l h ih =>
    intro a Y ha hY
    rw [frR_eq, if_neg h] at hY ⊢
    have hl : (l.take 57).length = 57 := by rw [List.length_take]; omega
    rw [List.append_assoc]
    refine tail_piece (by decide) (by omega) ?_
    rw [hl]
    refine ih (a + 7 + 57) Y (by unfold leftN at *; omega) ?_
    rw [List.length_append, pcB_length, hl] at hY
    rw [show a + 7 + 57 + (frR (l.drop 57)).length = a + (7 + 57 + (frR (l.drop 57)).length) by omega]
    exact hY

theorem tail_frame (a : Nat) (l Y : List UInt8) (h : Tail (a + (frameB a l).length) Y) : Tail a (frameB a l ++ Y) := by
  have hg := gap_left a
  have hb := left_bd (a + gapN a)
  unfold frameB at *
  unfold frF at *
  rw [List.length_append, List.length_replicate] at h
  by_cases hl : l.length ≤ leftN (a + gapN a) - 7
  · rw [if_pos hl] at *
    rw [pcB_length] at h
    rw [List.append_assoc]
    exact Tail.pc a 1 l Y (by decide) (by omega) (by rw [show a + gapN a + 7 + l.length = a + (gapN a + (7 + l.length)) by omega]; exact h)
  · rw [if_neg hl] at *
    have ht : (l.take (leftN (a + gapN a) - 7)).length = leftN (a + gapN a) - 7 := by rw [List.length_take]; omega
    rw [List.append_assoc, List.append_assoc]
    refine Tail.pc a 2 _ _ (by decide) (by omega) ?_
    rw [ht]
    refine tail_frR _ _ _ (by unfold leftN at *; omega) ?_
    rw [List.length_append, pcB_length, ht] at h
    rw [show a + gapN a + 7 + (leftN (a + gapN a) - 7) + (frR (l.drop (leftN (a + gapN a) - 7))).length = a + (gapN a + (7 + (leftN (a + gapN a) - 7) + (frR (l.drop (leftN (a + gapN a) - 7))).length)) by omega]
    exact h

/-- the reel of records -/
def allB : List (List UInt8) → List UInt8 → List UInt8
  | [], P => P
  | r :: ls, P => allB ls (P ++ frameB P.length r)

theorem allB_snoc (ls : List (List UInt8)) (r : List UInt8) : ∀ P, allB (ls ++ [r]) P = allB ls P ++ frameB (allB ls P).length r := by
  induction ls with
  | nil => intro P; rfl
  | cons x ls ih => intro P; exact ih _

theorem tail_all (ls : List (List UInt8)) : ∀ (P : List UInt8), ∃ X, allB ls P = P ++ X ∧ Tail P.length X := by
  induction ls with
  | nil => intro P; exact ⟨[], by simp [allB], Tail.nil _⟩
  | cons r ls ih =>
    intro P
    obtain ⟨X, h1, h2⟩ := ih (P ++ frameB P.length r)
    refine ⟨frameB P.length r ++ X, by rw [allB, h1, List.append_assoc], tail_frame _ _ _ ?_⟩
    rw [List.length_append] at h2
    exact h2

theorem four_low_sum (n : Nat) (h : n < 4294967296) : ∃ s0 s1 s2 s3, Crc.four n = [s0, s1, s2, s3] ∧ Crc.low [s0, s1, s2, s3] = n := ⟨_, _, _, _, rfl, Crc.low_four n h⟩

/-- a piece that stands there is read there -/
theorem pcAt_there (W Y t : List UInt8) (a : Nat) (k : UInt8) (hd : W.drop a = pcB k t ++ Y) (hk : 1 ≤ k.toNat ∧ k.toNat ≤ 4) (ht : 7 + t.length ≤ leftN a) : pcAt W a = some (k, t) := by
  obtain ⟨s0, s1, s2, s3, e4, elow⟩ := four_low_sum (Crc.mask (Crc.sum (k :: t))) (Crc.mask_lt _)
  have hl := left_bd a
  have hq : (W.drop a).take (leftN a) = s0 :: s1 :: s2 :: s3 :: UInt8.ofNat (t.length % 256) :: UInt8.ofNat (t.length / 256 % 256) :: k :: ((t ++ Y).take (leftN a - 7)) := by
    rw [hd]
    unfold pcB
    rw [e4]
    obtain ⟨m, hm⟩ : ∃ m, leftN a = m + 7 := ⟨leftN a - 7, by omega⟩
    rw [hm]
    simp
  rw [pcAt_eq hq]
  have hn : (UInt8.ofNat (t.length % 256)).toNat + (UInt8.ofNat (t.length / 256 % 256)).toNat * 256 = t.length := by
    simp
    omega
  rw [hn]
  have hr : ((t ++ Y).take (leftN a - 7)).take t.length = t := by
    rw [List.take_take, Nat.min_eq_left (by omega), List.take_append_of_le_length (Nat.le_refl _), List.take_length]
  rw [hr, if_pos ⟨⟨by rw [List.length_take, List.length_append]; omega, hk.1, hk.2⟩, elow⟩]

end Go.Proofs.YtlonomjepipjlaaDoor
