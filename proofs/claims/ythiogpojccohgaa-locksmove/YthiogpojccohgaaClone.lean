/- bytes.Clone. -/
import Derived.Test.YthiogpojccohgaaBoxes
namespace Go.Proofs.Ythiogpojccohgaa
open Go.RowKit

/-- nothing, or a row of the call's own -/
def OwnN (B : Nat) (w : World) (v : Value) (l : List UInt8) : Prop := (v = .slice none 0 0 ∧ l = []) ∨ Own B w v l

theorem OwnN.rd {B : Nat} {w : World} {v : Value} {l : List UInt8} (h : OwnN B w v l) : Rd w v l := by
  rcases h with h | h
  · exact .inl h
  · exact h.rd

theorem OwnN.below {B C : Nat} {w w' : World} {v : Value} {l : List UInt8} (h : OwnN B w v l) (hb : Below C w w') (hC : w.heap.size ≤ C) : OwnN B w' v l := by
  rcases h with h | h
  · exact .inl h
  · exact .inr (h.below hb hC)

theorem OwnN.mono {B C : Nat} {w : World} {v : Value} {l : List UInt8} (h : OwnN B w v l) (hC : C ≤ B) : OwnN C w v l := by
  rcases h with h | h
  · exact .inl h
  · exact .inr (h.mono hC)

set_option maxRecDepth 20000 in
theorem clone_any (w : World) (v : Value) (l : List UInt8) (hv : Arg w v l) (hn : l.length ≤ 1099511627776) :
    Calls Try.prog 42 #[v] w fun e w' => ∃ x, e = .returned x ∧ OwnN w.heap.size w' x l ∧ Below w.heap.size w w' := by
  obtain ⟨i0, hi, hz0, hz1, hz2⟩ := info_parts info5
  have hown0 : (w.alloc (.cells #[] 5)).ownsRow w.heap.size 5 1 (.slice (some ⟨w.heap.size, 0, none⟩) 0 0) 0 [] := World.ownsRow_lit w #[] 0 (Nat.le_refl _) (Nat.zero_le _) rfl
  have hb0 : Below w.heap.size w (w.alloc (.cells #[] 5)) := (Below.refl _ _).alloc (Nat.le_refl _) _
  have hv' := hv.below hb0 (Nat.le_refl _)
  rcases hv' with ⟨rfl, rfl⟩ | ⟨a, cap, rfl, h1, h2, h3⟩
  · have he : ∀ w : World, (binOp .eql 30 (.slice none 0 0) (.slice none 0 0)).run Try.prog w = .ok (.bool true) w := fun _ => rfl
    go_enter Try.func42, Try.ntmps42
    go_wp2
    go_ret
    exact ⟨_, rfl, .inl ⟨rfl, rfl⟩, Below.refl _ _⟩
  · unfold maxLen at h2
    have he : ∀ w : World, (binOp .eql 30 (.slice (some a) l.length cap) (.slice none 0 0)).run Try.prog w = .ok (.bool false) w := fun _ => rfl
    clear hv
    go_enter Try.func42, Try.ntmps42
    go_wp2_with (at_builtin; refine wpList_append_own _ rfl (.tmp 5) (.tmp 6) 30 rfl w.heap.size 5 i0 (.int .u8 0) 1 1 Try.underlying30 hi hz0 hz1 hz2 rfl (by decide) (.slice (some ⟨w.heap.size, 0, none⟩) 0 0) 0 [] rfl hown0 a l.length cap (bv l) rfl (by rw [bv_length, Nat.mul_one]) h3 (bv_one _) (by simp only [maxLen]; omega) (by omega) (by simp) ?_; intro v' w2 ho' hgr' hn')
    go_ret
    exact ⟨_, rfl, .inr (Own.of_row (by simpa using ho') (fun e => by have := (hn'.1 e).1; cases this)), hb0.grown hgr' (by simp) (fun k' e => (hown0.lt k' e).1)⟩

end Go.Proofs.Ythiogpojccohgaa
