/- Rows of entries; what a law is told of an entry that came in. -/
import Derived.Test.YtmgofohaoppajaaDoorEntBytes
import Derived.Test.YtmgofohaoppajaaDoorOpArg
import Derived.Test.YtmgofohaoppajaaDoorOpFew
import Derived.Test.YtmgofohaoppajaaDoorOpSame
import Derived.Lib.SmallJoins
namespace Go.Proofs.YtmgofohaoppajaaDoor
set_option maxRecDepth 20000
open Go.ChangeShapes Go.WideShapes Go.ChangeAt Go.RowKit
set_option linter.unusedVariables false

/-- an entry: its kind, its number, its name, its ops -/
abbrev NtB := UInt8 × Nat × List UInt8 × List OpB

/-- the four cells of an entry -/
def NtAt (w : World) (b o : Nat) (n : NtB) : Prop :=
  ∃ x y, w.cell? ⟨b, o, none⟩ = some (.int .u8 (n.1.toNat : Int)) ∧ w.cell? ⟨b, o + 1, none⟩ = some (.int .u64 (n.2.1 : Int)) ∧ w.cell? ⟨b, o + 2, none⟩ = some x ∧ w.cell? ⟨b, o + 3, none⟩ = some y ∧ Rd w x n.2.2.1 ∧ RdO w y n.2.2.2

/-- a slice of entries -/
def RdN (w : World) (v : Value) (ns : List NtB) : Prop :=
  ∃ ao cap, v = .slice ao ns.length cap ∧ ns.length ≤ cap ∧ cap ≤ maxLen ∧ ∀ j (h : j < ns.length), ∃ b off, ao = some ⟨b, off, none⟩ ∧ NtAt w b (off + j * 4) ns[j]

theorem NtAt.below {B : Nat} {w w' : World} {b o : Nat} {n : NtB} (h : NtAt w b o n) (hb : Below B w w') (hB : w.heap.size ≤ B) : NtAt w' b o n := by
  obtain ⟨x, y, c0, c1, c2, c3, rx, ry⟩ := h
  have hl : b < B := Nat.lt_of_lt_of_le (World.block_lt_of_cell? w _ c0) hB
  exact ⟨x, y, (hb.cell (p := ⟨b, o, none⟩) hl).trans c0, (hb.cell (p := ⟨b, o + 1, none⟩) hl).trans c1, (hb.cell (p := ⟨b, o + 2, none⟩) hl).trans c2, (hb.cell (p := ⟨b, o + 3, none⟩) hl).trans c3, rx.below hb hB, LsO.below ry hb hB⟩

theorem RdN.below {B : Nat} {w w' : World} {v : Value} {ns : List NtB} (h : RdN w v ns) (hb : Below B w w') (hB : w.heap.size ≤ B) : RdN w' v ns := by
  obtain ⟨ao, cap, rfl, h1, h2, h3⟩ := h
  refine ⟨ao, cap, rfl, h1, h2, fun j hj => ?_⟩
  obtain ⟨b, off, e, h⟩ := h3 j hj
  exact ⟨b, off, e, h.below hb hB⟩

theorem RdN.drewN {w : World} {v : Value} {ns : List NtB} (h : RdN w v ns) (n : Nat) : RdN (w.drewN n) v ns := h

theorem rdo_shape {w : World} {v : Value} {os : List OpB} (h : RdO w v os) : ∃ a c, v = .slice a os.length c := by
  obtain ⟨ao, cap, e, _⟩ := h
  exact ⟨ao, cap, e⟩

/-- an entry that came in -/
theorem noteArg_of {H : Type} {enc : TypeId × Value → H} {w : World} {r : Reach} {base : Nat} {v : Value} {d : DataW H} {ps : List MemPlace}
    (hv : Value.okWide Tryd.prog w r base 36 v) (h : DataW.Trod enc Tryd.prog w 0 (fun _ => true) true 36 v d ps) :
    ∃ (k : UInt8) (s : Nat) (l : List UInt8) (os : List OpB) (x y : Value), v = .agg #[.int .u8 (k.toNat : Int), .int .u64 (s : Int), x, y] ∧ s < 18446744073709551616 ∧ Arg w x l ∧ ArgO w y os := by
  obtain ⟨v0, v1, v2, v3, y0, y1, y2, y3, n, rfl, _, _, h0, h1, h2, h3⟩ := Joins.open_agg4 Tryd.underlying36 (by kernel_rfl) (by kernel_rfl) hv h
  obtain ⟨k, e0, _, wk⟩ := DataW.trod_int Tryd.underlying5 h0
  obtain ⟨s, e1, _, ws⟩ := DataW.trod_int Tryd.underlying33 h1
  obtain ⟨a2, l2, q2, z2, rfl, r2⟩ := row_of_trod h2
  obtain ⟨a3, l3, q3, rfl⟩ : ∃ a l q, v3 = .slice a l q := by
    rcases Deep.open_slice Tryd.underlying34 h3 with ⟨hcs, _⟩ | ⟨x, len', cap', m, n', D, Pl, hcs, _⟩
    · simp at hcs; exact ⟨_, _, _, hcs⟩
    · simp at hcs; exact ⟨_, _, _, hcs⟩
  obtain ⟨os, ho⟩ := opsArg_of (H := H) (enc := enc) (w := w) (a := a3) (len := l3) (cap := q3) (d := y3.1) (ps := y3.2) ⟨n, by simpa [Value.cells] using h3⟩
  simp at e0 e1
  subst e0 e1
  have hs := bounds_u64 ws
  refine ⟨UInt8.ofNat k.toNat, s.toNat, _, os, _, _, ?_, by omega, arg_of r2, ho⟩
  rw [← u8_byte wk, show ((s.toNat : Nat) : Int) = s by omega]

end Go.Proofs.YtmgofohaoppajaaDoor
