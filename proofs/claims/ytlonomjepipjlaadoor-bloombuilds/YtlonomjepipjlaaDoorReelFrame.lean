/- reel.Frame. -/
import Derived.Test.YtlonomjepipjlaaDoorReelPiece
namespace Go.Proofs.YtlonomjepipjlaaDoor
open Go.RowKit
set_option linter.unusedVariables false

/-- where a frame has come to: bg: a piece stands there already; F: what stands there; R: what is left of the record -/
structure FrI (a : Nat) (W : List UInt8) (bg : Bool) (F R : List UInt8) : Prop where
  eq : (if bg then F ++ frR R else F ++ frF (leftN (a + F.length) - 7) R) = W
  lf : 7 ≤ leftN (a + F.length)
  zr : bg = true → leftN (a + F.length) = 64
  bd : F.length + 2 * R.length + (if bg then 0 else 7) ≤ 131100

theorem FrI.first (a : Nat) (l : List UInt8) (ha : a < 64) (hl : l.length ≤ 65536) : FrI a (frameB a l) false (List.replicate (gapN a) 0) l := by
  refine ⟨?_, ?_, (fun h => by cases h), ?_⟩
  · simp [frameB]
  · rw [List.length_replicate]; exact gap_left a
  · rw [List.length_replicate]
    have := gap_bd a
    simp
    omega

/-- how many bytes the next piece has -/
def frN (a : Nat) (F R : List UInt8) : Nat := min R.length (leftN (a + F.length) - 7)

theorem FrI.last {a : Nat} {W : List UInt8} {bg : Bool} {F R : List UInt8} (h : FrI a W bg F R) (hn : frN a F R = R.length) : F ++ pcB (kindB bg true) R = W := by
  have h1 := h.eq
  have h2 := h.zr
  unfold frN at hn
  cases bg
  · simp only [Bool.false_eq_true, if_false] at h1
    unfold frF at h1
    rw [if_pos (by omega)] at h1
    exact h1
  · simp only [if_true] at h1
    rw [frR_eq, if_pos (by have := h2 rfl; omega)] at h1
    exact h1

theorem FrI.next {a : Nat} {W : List UInt8} {bg : Bool} {F R : List UInt8} (h : FrI a W bg F R) (hn : ¬ frN a F R = R.length) : FrI a W true (F ++ pcB (kindB bg false) (R.take (frN a F R))) (R.drop (frN a F R)) ∧ frN a F R < R.length := by
  have hl := left_bd (a + F.length)
  have h0 := h.lf
  have h1 := h.eq
  have h2 := h.zr
  have h3 := h.bd
  have hn' : frN a F R = leftN (a + F.length) - 7 ∧ leftN (a + F.length) - 7 < R.length := by unfold frN at *; omega
  obtain ⟨e, hlt⟩ := hn'
  have hlen : (F ++ pcB (kindB bg false) (R.take (frN a F R))).length = F.length + leftN (a + F.length) := by
    rw [List.length_append, pcB_length, List.length_take, e]
    omega
  refine ⟨⟨?_, ?_, fun _ => ?_, ?_⟩, by rw [e]; exact hlt⟩
  · simp only [if_true]
    rw [List.append_assoc]
    cases bg
    · simp only [Bool.false_eq_true, if_false] at h1
      unfold frF at h1
      rw [if_neg (by omega)] at h1
      rw [e]
      exact h1
    · simp only [if_true] at h1
      have h64 := h2 rfl
      rw [frR_eq, if_neg (by omega)] at h1
      rw [e, h64]
      exact h1
  · rw [hlen]
    unfold leftN
    omega
  · rw [hlen]
    unfold leftN
    omega
  · rw [hlen, List.length_drop, e]
    cases bg
    · simp at h3 ⊢
      omega
    · simp at h3 ⊢
      have := h2 rfl
      omega

theorem fr_facts {a : Nat} {W : List UInt8} {bg : Bool} {F R : List UInt8} (h : FrI a W bg F R) (ha : a < 64) : F.length ≤ 500000 ∧ a + F.length ≤ 4611686018427387904 ∧ frN a F R ≤ R.length ∧ frN a F R ≤ 1000 ∧ (R.take (frN a F R)).length = frN a F R ∧ min (R.length : Int) ((leftN (a + F.length) : Int) - 7) = (frN a F R : Int) ∧ (R.length : Int) ≤ 65600 ∧ (F.length : Int) ≤ 131100 ∧ (7 : Int) ≤ (leftN (a + F.length) : Int) ∧ (leftN (a + F.length) : Int) ≤ 64 := by
  have := h.bd
  have h1 := left_bd (a + F.length)
  have h2 := h.lf
  have hn : frN a F R = min R.length (leftN (a + F.length) - 7) := rfl
  refine ⟨by omega, by omega, by omega, by omega, by rw [List.length_take]; omega, by omega, by omega, by omega, by omega, by omega⟩

/-- a slice that lies below block B, or is nothing -/
theorem rd_shape {w : World} {v : Value} {l : List UInt8} {B : Nat} (h : Rd w v l) (hb : ∀ b, v.ownBlock = some b → b < B) : (v = .slice none 0 0 ∧ l = []) ∨ ∃ b off c, v = .slice (some ⟨b, off, none⟩) l.length c ∧ l.length ≤ c ∧ c ≤ 9223372036854775807 ∧ b < B ∧ ∀ j u, (bv l)[j]? = some u → w.cell? ⟨b, off + j, none⟩ = some u := by
  rcases h with h | ⟨b, off, c, rfl, h1, h2, h3⟩
  · exact .inl h
  · exact .inr ⟨b, off, c, rfl, h1, by unfold maxLen at h2; omega, hb b rfl, h3⟩

theorem frame_gap (a : Nat) : (1 : Nat) * gapN a ≤ 281474976710656 ∧ gapN a ≤ maxLen ∧ 1 * gapN a = gapN a := by have := gap_bd a; unfold maxLen; omega

theorem mod_64 (a : Nat) : (a : Int).tmod 64 = ((a % 64 : Nat) : Int) := by rw [Int.tmod_eq_emod_of_nonneg (by omega)]; omega

theorem zeros_of {w : World} {B g n : Nat} (h : w.ownsRow B 5 1 (.slice (some ⟨g, 0, none⟩) n n) n (madeCells (Value.int .u8 0).cells (n * 1)).toList) : Own B w (.slice (some ⟨g, 0, none⟩) (List.replicate n (0 : UInt8)).length n) (List.replicate n 0) := by
  refine Own.of_row ?_ (by simp)
  rw [made_list] at h
  rw [List.length_replicate]
  have e : bv (List.replicate n (0 : UInt8)) = List.replicate n (Value.int .u8 0) := by simp [bv]
  rw [e]
  exact h

end Go.Proofs.YtlonomjepipjlaaDoor
