/- What a slice of bytes reads as, what a call's own row is, and small facts of this program's types. -/
import Derived.Test.YtecmijocgkhnpaaMath
import Derived.Test.YtecmijocgkhnpaaRows
import Derived.WalkKit
import Derived.ProofKit
import Derived.OpenShut
import Derived.WalkSpells
import Derived.WalkLawsBesides
import Derived.Laws.BytesArg
import Derived.Laws.CopyOwn
import Derived.Laws.AppendOwnNone
namespace Go.Proofs.Ytecmijocgkhnpaa
open Go.RowKit

/-- bytes as cells -/
def bv (l : List UInt8) : List Value := l.map fun b => Value.int .u8 (b.toNat : Int)
theorem bv_length (l : List UInt8) : (bv l).length = l.length := by simp [bv]
theorem bv_append (l m : List UInt8) : bv (l ++ m) = bv l ++ bv m := by simp [bv]
theorem bv_one (l : List UInt8) : ∀ u ∈ bv l, u.oneCell' = true := by
  intro u hu
  obtain ⟨b, _, rfl⟩ := List.mem_map.1 hu
  rfl
theorem bv_get (l : List UInt8) (j : Nat) (h : j < l.length) : (bv l)[j]? = some (.int .u8 ((l[j]).toNat : Int)) := by simp [bv, h]

/-- the slice value v reads as the bytes l -/
def Rd (w : World) (v : Value) (l : List UInt8) : Prop :=
  (v = .slice none 0 0 ∧ l = []) ∨ ∃ b off cap, v = .slice (some ⟨b, off, none⟩) l.length cap ∧ l.length ≤ cap ∧ cap ≤ maxLen ∧ ∀ j u, (bv l)[j]? = some u → w.cell? ⟨b, off + j, none⟩ = some u

/-- v is a row of the call's own, from block B on, that holds the bytes l -/
def Own (B : Nat) (w : World) (v : Value) (l : List UInt8) : Prop :=
  ∃ g cap cur, v = .slice (some ⟨g, 0, none⟩) l.length cap ∧ B ≤ g ∧ w.heap[g]? = some (.cells cur 5 (0, 0)) ∧ l.length ≤ cap ∧ cap ≤ maxLen ∧ cur.size = cap ∧ cur.toList.take l.length = bv l

theorem Own.row {B : Nat} {w : World} {v : Value} {l : List UInt8} (h : Own B w v l) : w.ownsRow B 5 1 v l.length (bv l) := by
  obtain ⟨g, cap, cur, rfl, hb, hg, h1, h2, h3, h4⟩ := h
  exact ⟨by simp [bv_length], .inr ⟨g, cap, cur, rfl, hb, hg, h1, h2, by simpa using h3, by simpa using h4⟩⟩

theorem Own.of_row {B : Nat} {w : World} {v : Value} {l : List UInt8} (h : w.ownsRow B 5 1 v l.length (bv l)) (hn : v ≠ .slice none 0 0) : Own B w v l := by
  rcases h.2 with ⟨e, _⟩ | ⟨g, cap, cur, rfl, hb, hg, h1, h2, h3, h4⟩
  · exact absurd e hn
  · exact ⟨g, cap, cur, rfl, hb, hg, h1, h2, by simpa using h3, by simpa using h4⟩

theorem Own.rd {B : Nat} {w : World} {v : Value} {l : List UInt8} (h : Own B w v l) : Rd w v l := by
  have hr := h.row
  obtain ⟨g, cap, cur, rfl, hb, hg, h1, h2, h3, h4⟩ := h
  refine .inr ⟨g, 0, cap, rfl, h1, h2, fun j u hu => ?_⟩
  have := hr.cells (g := g) rfl j u hu
  simpa [Addr.add_lit] using this

/-- what lies below block B stays -/
theorem Rd.below {B : Nat} {w w' : World} {v : Value} {l : List UInt8} (h : Rd w v l) (hb : Below B w w') (hB : w.heap.size ≤ B) : Rd w' v l := by
  rcases h with h | ⟨b, off, cap, rfl, h1, h2, h3⟩
  · exact .inl h
  · refine .inr ⟨b, off, cap, rfl, h1, h2, fun j u hu => ?_⟩
    have := h3 j u hu
    rw [hb.cell (p := ⟨b, off + j, none⟩) (Nat.lt_of_lt_of_le (World.block_lt_of_cell? w _ this) hB)]
    exact this

theorem Rd.drew {w : World} {v : Value} {l : List UInt8} (h : Rd w v l) : Rd w.drew v l := h

theorem Own.below {B C : Nat} {w w' : World} {v : Value} {l : List UInt8} (h : Own B w v l) (hb : Below C w w') (hC : w.heap.size ≤ C) : Own B w' v l := by
  obtain ⟨g, cap, cur, rfl, hB, hg, r⟩ := h
  refine ⟨g, cap, cur, rfl, hB, ?_, r⟩
  rw [hb.block g (Nat.lt_of_lt_of_le (Array.getElem?_eq_some_iff.1 hg).1 hC)]
  exact hg

theorem Own.mono {B C : Nat} {w : World} {v : Value} {l : List UInt8} (h : Own B w v l) (hC : C ≤ B) : Own C w v l := by
  obtain ⟨g, cap, cur, rfl, hB, r⟩ := h
  exact ⟨g, cap, cur, rfl, Nat.le_trans hC hB, r⟩

theorem info5 : (Try.prog.info? 5).map (fun i => (i.zero, i.size, i.bytes)) = some (some (.int .u8 0), 1, 1) := by kernel_rfl

/-- string(p), the bytes p -/
theorem conv_rd {w : World} {v : Value} {l : List UInt8} (h : Rd w v l) : (convert 23 9 v).run Try.prog w = .ok (.string ⟨l.toArray⟩) w := by
  rcases h with ⟨rfl, rfl⟩ | ⟨b, off, cap, rfl, h1, h2, h3⟩
  · exact run_convert_bytes_nil w 23 5 Try.underlying23 Try.underlying5 0 0 9 Try.underlying9
  · have e := run_convert_bytes_arg (P := Try.prog) w 23 5 Try.underlying23 Try.underlying5 b off l.length cap (l.map fun b => (b.toNat : Int)) (by simp) (fun i hi => by
      rw [h3 i _ (bv_get l i hi)]
      simp [hi]) 9 Try.underlying9
    rw [e]
    have : strOfNums (l.map fun b => (b.toNat : Int)) = ⟨l.toArray⟩ := by
      simp [strOfNums, Function.comp_def]
    rw [this]

end Go.Proofs.Ytecmijocgkhnpaa
