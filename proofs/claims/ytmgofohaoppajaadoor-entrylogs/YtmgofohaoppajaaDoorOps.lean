/- A slice of ops. -/
import Derived.Test.YtmgofohaoppajaaDoorSmall
import Derived.Test.YtmgofohaoppajaaDoorClone
import Derived.Deep.AppendLies
namespace Go.Proofs.YtmgofohaoppajaaDoor
open Go.RowKit

/-- an op: its kind, its key, its value -/
abbrev OpB := UInt8 × List UInt8 × List UInt8

/-- an op lies in three cells of block b, from i on; its two slices read by R -/
def OpAt (R : World → Value → List UInt8 → Prop) (w : World) (b i : Nat) (o : OpB) : Prop :=
  ∃ x y, w.cell? ⟨b, i, none⟩ = some (.int .u8 (o.1.toNat : Int)) ∧ w.cell? ⟨b, i + 1, none⟩ = some x ∧ w.cell? ⟨b, i + 2, none⟩ = some y ∧ R w x o.2.1 ∧ R w y o.2.2

/-- v is a slice of ops -/
def LsO (R : World → Value → List UInt8 → Prop) (w : World) (v : Value) (os : List OpB) : Prop :=
  ∃ ao cap, v = .slice ao os.length cap ∧ os.length ≤ cap ∧ cap ≤ maxLen ∧ ∀ j (h : j < os.length), ∃ b off, ao = some ⟨b, off, none⟩ ∧ OpAt R w b (off + j * 3) os[j]

theorem OpAt.below {R : World → Value → List UInt8 → Prop} {B : Nat} {w w' : World} {b i : Nat} {o : OpB} (h : OpAt R w b i o) (hR : ∀ v l, R w v l → R w' v l) (hb : Below B w w') (hB : w.heap.size ≤ B) : OpAt R w' b i o := by
  obtain ⟨x, y, c0, c1, c2, r1, r2⟩ := h
  have hl : b < B := Nat.lt_of_lt_of_le (World.block_lt_of_cell? w _ c0) hB
  exact ⟨x, y, by rw [hb.cell (p := ⟨b, i, none⟩) hl]; exact c0, by rw [hb.cell (p := ⟨b, i + 1, none⟩) hl]; exact c1, by rw [hb.cell (p := ⟨b, i + 2, none⟩) hl]; exact c2, hR _ _ r1, hR _ _ r2⟩

theorem LsO.belowR {R : World → Value → List UInt8 → Prop} {B : Nat} {w w' : World} {v : Value} {os : List OpB} (h : LsO R w v os) (hR : ∀ v l, R w v l → R w' v l) (hb : Below B w w') (hB : w.heap.size ≤ B) : LsO R w' v os := by
  obtain ⟨ao, cap, rfl, h1, h2, h3⟩ := h
  refine ⟨ao, cap, rfl, h1, h2, fun j hj => ?_⟩
  obtain ⟨b, off, e, ho⟩ := h3 j hj
  exact ⟨b, off, e, ho.below hR hb hB⟩

abbrev RdO := LsO Rd
abbrev ArgO := LsO Arg

theorem LsO.below {B : Nat} {w w' : World} {v : Value} {os : List OpB} (h : RdO w v os) (hb : Below B w w') (hB : w.heap.size ≤ B) : RdO w' v os := h.belowR (fun _ _ hr => Rd.below hr hb hB) hb hB
theorem LsO.belowA {B : Nat} {w w' : World} {v : Value} {os : List OpB} (h : ArgO w v os) (hb : Below B w w') (hB : w.heap.size ≤ B) : ArgO w' v os := h.belowR (fun _ _ hr => Arg.below hr hb hB) hb hB
theorem LsO.drew {w : World} {v : Value} {os : List OpB} (h : RdO w v os) : RdO w.drew v os := h
theorem LsO.drewA {w : World} {v : Value} {os : List OpB} (h : ArgO w v os) : ArgO w.drew v os := h

theorem LsO.arg {w : World} {v : Value} {os : List OpB} (h : RdO w v os) : ArgO w v os := by
  obtain ⟨ao, cap, rfl, h1, h2, h3⟩ := h
  refine ⟨ao, cap, rfl, h1, h2, fun j hj => ?_⟩
  obtain ⟨b, off, e, x, y, c0, c1, c2, r1, r2⟩ := h3 j hj
  exact ⟨b, off, e, x, y, c0, c1, c2, Rd.arg r1, Rd.arg r2⟩

theorem LsO.nil {R : World → Value → List UInt8 → Prop} (w : World) : LsO R w (.slice none 0 0) [] := ⟨none, 0, rfl, Nat.le_refl _, Nat.zero_le _, fun _ h => absurd h (Nat.not_lt_zero _)⟩

/-- ops in a row of the call's own, and what they hold -/
def OwnO (B : Nat) (w : World) (v : Value) (os : List OpB) : Prop :=
  ∃ cs, w.ownsRow B 72 3 v os.length cs ∧ ∀ j (h : j < os.length), ∃ x y, cs[j * 3]? = some (.int .u8 (os[j].1.toNat : Int)) ∧ cs[j * 3 + 1]? = some x ∧ cs[j * 3 + 2]? = some y ∧ OwnN B w x os[j].2.1 ∧ OwnN B w y os[j].2.2

theorem OwnO.rd {B : Nat} {w : World} {v : Value} {os : List OpB} (h : OwnO B w v os) : RdO w v os := by
  obtain ⟨cs, hr, hj⟩ := h
  have hr2 := hr
  rcases hr.2 with ⟨e, hn⟩ | ⟨g, cap, cur, e, hb, hg, h1, h2, h3, h4⟩
  · refine ⟨none, 0, by rw [e, hn], by omega, Nat.zero_le _, fun j hj => by omega⟩
  · subst e
    refine ⟨_, cap, rfl, h1, h2, fun j h => ⟨g, 0, rfl, ?_⟩⟩
    obtain ⟨x, y, c0, c1, c2, ox, oy⟩ := hj j h
    have hc := hr2.cells (g := g) rfl
    refine ⟨x, y, ?_, ?_, ?_, ox.rd, oy.rd⟩
    · have := hc _ _ c0; rwa [Addr.add_lit] at this
    · have := hc _ _ c1; rwa [Addr.add_lit] at this
    · have := hc _ _ c2; rwa [Addr.add_lit] at this

theorem OwnO.nil (B : Nat) (w : World) : OwnO B w (.slice none 0 0) [] := ⟨[], World.ownsRow_nil _ _ _ _, fun _ h => absurd h (Nat.not_lt_zero _)⟩

theorem OwnO.below {B C : Nat} {w w' : World} {v : Value} {os : List OpB} (h : OwnO B w v os) (hb : Below C w w') (hC : w.heap.size ≤ C) : OwnO B w' v os := by
  obtain ⟨cs, hr, hj⟩ := h
  have hb' : Below w.heap.size w w' := ⟨hb.os, hb.tape, hb.output, hb.size, fun i hi => hb.block i (Nat.lt_of_lt_of_le hi hC)⟩
  refine ⟨cs, row_below hr hb', fun j h => ?_⟩
  obtain ⟨x, y, c0, c1, c2, ox, oy⟩ := hj j h
  exact ⟨x, y, c0, c1, c2, ox.below hb hC, oy.below hb hC⟩

theorem OwnO.mono {B C : Nat} {w : World} {v : Value} {os : List OpB} (h : OwnO B w v os) (hC : C ≤ B) : OwnO C w v os := by
  obtain ⟨cs, hr, hj⟩ := h
  refine ⟨cs, ⟨hr.1, hr.2.imp id (fun ⟨g, cap, cur, a, b, c⟩ => ⟨g, cap, cur, a, Nat.le_trans hC b, c⟩)⟩, fun j h => ?_⟩
  obtain ⟨x, y, c0, c1, c2, ox, oy⟩ := hj j h
  exact ⟨x, y, c0, c1, c2, ox.mono hC, oy.mono hC⟩

theorem OwnO.drew {B : Nat} {w : World} {v : Value} {os : List OpB} (h : OwnO B w v os) : OwnO B w.drew v os := h

theorem infoOp : (Tryd.prog.info? 72).map (fun i => (i.zero, i.size, i.bytes)) = some (some (.agg #[.int .u8 0, .slice none 0 0, .slice none 0 0]), 3, 56) := by kernel_rfl

/-- how many bytes ops have -/
def sizeO (os : List OpB) : Nat := (os.map fun o => o.2.1.length + o.2.2.length).sum

theorem sizeO_append (a b : List OpB) : sizeO (a ++ b) = sizeO a + sizeO b := by
  unfold sizeO
  rw [List.map_append, List.sum_append]

theorem sizeO_take {os : List OpB} {j : Nat} (h : j < os.length) : sizeO (os.take (j + 1)) = sizeO (os.take j) + (os[j].2.1.length + os[j].2.2.length) := by
  rw [List.take_succ_eq_append_getElem h, sizeO_append]
  simp [sizeO]

theorem sizeO_le (os : List OpB) (j : Nat) : sizeO (os.take j) ≤ sizeO os := by
  have := sizeO_append (os.take j) (os.drop j)
  rw [List.take_append_drop] at this
  omega

end Go.Proofs.YtmgofohaoppajaaDoor
