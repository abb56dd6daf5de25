/- What a law is told of a slice of slices of bytes that came in. -/
import Derived.Test.YthcoblmfmbmdkaaGrpA
import Derived.Deep.Slices
namespace Go.Proofs.Ythcoblmfmbmdkaa
open Go.ChangeShapes Go.WideShapes Go.ChangeAt Go.RowKit

/-- the value v, wherever it lies, is a slice of slices that read as the texts ls: it has none; or it lies in cells -/
def ArgL (w : World) (v : Value) (ls : List (List UInt8)) : Prop :=
  (ls = [] ∧ ∃ ao cap, v = .slice ao 0 cap ∧ (ao = none → cap = 0) ∧ cap ≤ maxLen) ∨
  ∃ b off cap, v = .slice (some ⟨b, off, none⟩) ls.length cap ∧ 0 < ls.length ∧ ls.length ≤ cap ∧ cap ≤ maxLen ∧ ∀ j (h : j < ls.length), ∃ u, w.cell? ⟨b, off + j, none⟩ = some u ∧ Arg w u (ls[j])

theorem ArgL.below {B : Nat} {w w' : World} {v : Value} {ls : List (List UInt8)} (h : ArgL w v ls) (hb : Below B w w') (hB : w.heap.size ≤ B) : ArgL w' v ls := by
  rcases h with h | ⟨b, off, cap, rfl, h0, h1, h2, h3⟩
  · exact .inl h
  · refine .inr ⟨b, off, cap, rfl, h0, h1, h2, fun j hj => ?_⟩
    obtain ⟨u, hc, hr⟩ := h3 j hj
    refine ⟨u, ?_, hr.below hb hB⟩
    rw [hb.cell (p := ⟨b, off + j, none⟩) (Nat.lt_of_lt_of_le (World.block_lt_of_cell? w _ hc) hB)]
    exact hc

theorem argL_of {H : Type} {enc : TypeId × Value → H} {w : World} {a : Option Addr} {len cap : Nat} {d : DataW H} {ps : List MemPlace}
    (h : DataW.Trod enc Try.prog w 0 (fun _ => true) true 23 (.slice a len cap) d ps) : ∃ ls, ArgL w (.slice a len cap) ls := by
  obtain ⟨fuel, hf⟩ := h
  rcases Deep.open_slice1 Try.underlying23 (by kernel_rfl) hf with ⟨hcs, _⟩ | ⟨x, len', cap', m, n, V, D, Pl, hcs, _, hl, hm, hmm, _, hall⟩
  · simp [Value.cells] at hcs
    obtain ⟨rfl, rfl, rfl⟩ := hcs
    exact ⟨[], .inl ⟨rfl, none, 0, rfl, fun _ => rfl, Nat.zero_le _⟩⟩
  · simp [Value.cells] at hcs
    obtain ⟨rfl, rfl, rfl⟩ := hcs
    simp only [if_true] at hmm
    subst hmm
    by_cases h0 : len = 0
    · subst h0
      exact ⟨[], .inl ⟨rfl, _, m, rfl, (fun e => by cases e), hm⟩⟩
    · obtain ⟨b, off, spot⟩ := x
      have hc0 := (hall 0 (by omega)).1
      have hspot : spot = none := by simpa [Addr.add] using World.cell?_spot hc0
      subst hspot
      have hex : ∀ i, i < len → ∃ l : List UInt8, Arg w (V i) l := by
        intro i hi
        have ht := (hall i (by omega)).2
        rcases open_ints Try.underlying40 Try.underlying5 (by kernel_rfl) ht with ⟨hcs, _⟩ | ⟨y, l, c, zs, hcs, _, hl', hm', hz, _, hcell, hwz⟩
        · simp at hcs
          exact ⟨[], .inl ⟨hcs, rfl⟩⟩
        · simp at hcs
          rw [hcs]
          exact ⟨_, arg_of (.inr ⟨y, rfl, hl', hm', by simpa using hz, hcell, hwz⟩)⟩
      obtain ⟨L, hL⟩ := Deep.choose_lt hex
      refine ⟨(List.range len).map L, .inr ⟨b, off, m, by simp, by simp; omega, by simp; omega, hm, fun j hj => ?_⟩⟩
      have hj' : j < len := by simpa using hj
      refine ⟨V j, ?_, ?_⟩
      · have := (hall j (by omega)).1
        rwa [Addr.add_lit] at this
      · simpa using hL j hj'

theorem Arg.shape {w : World} {v : Value} {l : List UInt8} (h : Arg w v l) : ∃ ao cap, v = .slice ao l.length cap := by
  rcases h with ⟨rfl, rfl⟩ | ⟨a, cap, rfl, _⟩
  · exact ⟨none, 0, rfl⟩
  · exact ⟨_, _, rfl⟩

/-- a slice of slices, by its places -/
theorem ArgL.places {w : World} {v : Value} {ls : List (List UInt8)} (h : ArgL w v ls) : ∃ ao cap, v = .slice ao ls.length cap ∧ ls.length ≤ cap ∧ cap ≤ maxLen ∧ ∀ j (h : j < ls.length), ∃ b off, ao = some ⟨b, off, none⟩ ∧ ∃ u, w.cell? ⟨b, off + j, none⟩ = some u ∧ Arg w u (ls[j]) := by
  rcases h with ⟨rfl, ao, cap, rfl, _, hc⟩ | ⟨b, off, cap, rfl, h0, h1, h2, h3⟩
  · exact ⟨ao, cap, rfl, Nat.zero_le _, hc, fun j h => absurd h (Nat.not_lt_zero _)⟩
  · exact ⟨_, cap, rfl, h1, h2, fun j h => ⟨b, off, rfl, h3 j h⟩⟩

end Go.Proofs.Ythcoblmfmbmdkaa
