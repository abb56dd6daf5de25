/- Ops of one's own are turned. -/
import Derived.Test.YtlkfdiiapcipoaaFlips
import Derived.Test.YtlkfdiiapcipoaaOpsPush
namespace Go.Proofs.Ytlkfdiiapcipoaa
open Go.RowKit

/-- a slice of bytes of the call's own, whichever they are -/
def SomeN (B : Nat) (w : World) (x : Value) : Prop := x = .slice none 0 0 ∨ ∃ g n c, x = .slice (some ⟨g, 0, none⟩) n c ∧ U8 w g n ∧ n ≤ c ∧ c ≤ maxLen ∧ B ≤ g

theorem OwnN.some {B : Nat} {w : World} {x : Value} {l : List UInt8} (h : OwnN B w x l) : SomeN B w x := by
  rcases h with h | h
  · exact .inl h.1
  · obtain ⟨g, c, rfl⟩ := h.shape
    have := u8_of_own h
    exact .inr ⟨g, _, c, rfl, this.1, this.2.1, this.2.2.1, this.2.2.2⟩

theorem SomeN.set {B : Nat} {w : World} {x : Value} (h : SomeN B w x) (g i : Nat) (b : UInt8) : SomeN B (w.setCell ⟨g, i, none⟩ (.int .u8 (b.toNat : Int))) x := by
  rcases h with h | ⟨g', n, c, e, h1, h2, h3, h4⟩
  · exact .inl h
  · exact .inr ⟨g', n, c, e, u8_set h1 g i b, h2, h3, h4⟩

/-- a row of ops of the call's own, and slices of its own in it -/
def RowC (B : Nat) (w : World) (v : Value) (n : Nat) (cs : List Value) : Prop :=
  w.ownsRow B 27 3 v n cs ∧ ∀ j, j < n → ∃ x y, cs[j * 3 + 1]? = some x ∧ cs[j * 3 + 2]? = some y ∧ SomeN B w x ∧ SomeN B w y

theorem RowC.set {B : Nat} {w : World} {v : Value} {n : Nat} {cs : List Value} (h : RowC B w v n cs) {g m : Nat} (hu : U8 w g m) (i : Nat) (b : UInt8) : RowC B (w.setCell ⟨g, i, none⟩ (.int .u8 (b.toNat : Int))) v n cs := by
  obtain ⟨⟨h1, h2⟩, h3⟩ := h
  refine ⟨⟨h1, ?_⟩, fun j hj => ?_⟩
  · rcases h2 with h2 | ⟨q, cap, cur, rfl, hB, hq, r⟩
    · exact .inl h2
    · refine .inr ⟨q, cap, cur, rfl, hB, ?_, r⟩
      have hne : q ≠ g := by
        rintro rfl
        obtain ⟨cur', l, hg, _⟩ := hu
        rw [hq] at hg
        simp at hg
      rw [Below.heap_setCell _ _ _ _ (by simpa using hne)]
      exact hq
  · obtain ⟨x, y, e1, e2, s1, s2⟩ := h3 j hj
    exact ⟨x, y, e1, e2, s1.set g i b, s2.set g i b⟩

theorem RowC.cells {B : Nat} {w : World} {g k n : Nat} {cs : List Value} (h : RowC B w (.slice (some ⟨g, 0, none⟩) n k) n cs) (j : Nat) (hj : j < n) : ∃ x y, cs[j * 3 + 1]? = some x ∧ cs[j * 3 + 2]? = some y ∧ w.cell? ⟨g, j * 3 + 1, none⟩ = some x ∧ w.cell? ⟨g, j * 3 + 2, none⟩ = some y ∧ SomeN B w x ∧ SomeN B w y := by
  obtain ⟨x, y, e1, e2, s1, s2⟩ := h.2 j hj
  have hc := h.1.cells (g := g) rfl
  refine ⟨x, y, e1, e2, ?_, ?_, s1, s2⟩
  · have := hc _ _ e1; rw [Addr.add_lit, Nat.zero_add] at this; exact this
  · have := hc _ _ e2; rw [Addr.add_lit, Nat.zero_add] at this; exact this

theorem rowC_of {B : Nat} {w : World} {v : Value} {os : List OpB} (h : OwnO B w v os) : ∃ cs, RowC B w v os.length cs := by
  obtain ⟨cs, hr, hj⟩ := h
  refine ⟨cs, hr, fun j h => ?_⟩
  obtain ⟨x, y, _, c1, c2, ox, oy⟩ := hj j h
  exact ⟨x, y, c1, c2, ox.some, oy.some⟩

end Go.Proofs.Ytlkfdiiapcipoaa
