/- What a law is told of ops that came in. -/
import Derived.Test.YtmgofohaoppajaaDoorKeyArg
import Derived.Test.YtmgofohaoppajaaDoorOps
import Derived.Test.YtmgofohaoppajaaDoorLists
namespace Go.Proofs.YtmgofohaoppajaaDoor
set_option maxRecDepth 20000
open Go.ChangeShapes Go.WideShapes Go.ChangeAt Go.RowKit

theorem u8_byte {k : Int} (h : (Lit.int .u8 k).wf = true) : k = ((UInt8.ofNat k.toNat).toNat : Int) := by
  have := bounds_u8 h
  simp
  omega

theorem op_of {H : Type} {enc : TypeId × Value → H} {w : World} {n : Nat} {v0 v1 v2 : Value} {y : DataW H × List MemPlace}
    (h : DataW.trod enc Tryd.prog w 0 (fun _ => true) true n 72 [v0, v1, v2] = some y) : ∃ o : OpB, v0 = .int .u8 (o.1.toNat : Int) ∧ Arg w v1 o.2.1 ∧ Arg w v2 o.2.2 := by
  obtain ⟨y0, y1, y2, n', _, _, h0, h1, h2⟩ := Deep.trod_struct3 Tryd.underlying72 h
  simp at h0 h1 h2
  have c5 : Tryd.prog.cellsOf 5 = 1 := by kernel_rfl
  have c25 : Tryd.prog.cellsOf 26 = 1 := by kernel_rfl
  rw [c5] at h0
  rw [c25] at h1 h2
  simp at h0 h1 h2
  obtain ⟨k, e0, _, wk⟩ := DataW.trod_int Tryd.underlying5 h0
  obtain ⟨a1, l1, q1, z1, rfl, r1⟩ := row_of_trod h1
  obtain ⟨a2, l2, q2, z2, rfl, r2⟩ := row_of_trod h2
  simp at e0
  subst e0
  exact ⟨(UInt8.ofNat k.toNat, _, _), congrArg _ (u8_byte wk), arg_of r1, arg_of r2⟩

theorem opArg_of {H : Type} {enc : TypeId × Value → H} {w : World} {r : Reach} {base : Nat} {v : Value} {d : DataW H} {ps : List MemPlace}
    (hv : Value.okWide Tryd.prog w r base 72 v) (h : DataW.Trod enc Tryd.prog w 0 (fun _ => true) true 72 v d ps) :
    ∃ o : OpB, ∃ x y, v = .agg #[.int .u8 (o.1.toNat : Int), x, y] ∧ Arg w x o.2.1 ∧ Arg w y o.2.2 := by
  obtain ⟨v0, v1, v2, y0, y1, y2, n, rfl, _, _, h0, h1, h2⟩ := Joins.open_agg3 Tryd.underlying72 (by kernel_rfl) (by kernel_rfl) hv h
  obtain ⟨k, e0, _, wk⟩ := DataW.trod_int Tryd.underlying5 h0
  obtain ⟨a1, l1, q1, z1, rfl, r1⟩ := row_of_trod h1
  obtain ⟨a2, l2, q2, z2, rfl, r2⟩ := row_of_trod h2
  simp at e0
  subst e0
  refine ⟨(UInt8.ofNat k.toNat, _, _), _, _, ?_, arg_of r1, arg_of r2⟩
  rw [← u8_byte wk]

theorem opsArg_of {H : Type} {enc : TypeId × Value → H} {w : World} {a : Option Addr} {len cap : Nat} {d : DataW H} {ps : List MemPlace}
    (h : DataW.Trod enc Tryd.prog w 0 (fun _ => true) true 34 (.slice a len cap) d ps) : ∃ os, ArgO w (.slice a len cap) os := by
  obtain ⟨fuel, hf⟩ := h
  rcases Deep.open_slice Tryd.underlying34 hf with ⟨hcs, _⟩ | ⟨x, len', cap', m, n, D, Pl, hcs, _, hl, hm, hmm, _, hall⟩
  · simp [Value.cells] at hcs
    obtain ⟨rfl, rfl, rfl⟩ := hcs
    exact ⟨[], LsO.nil w⟩
  · simp [Value.cells] at hcs
    obtain ⟨rfl, rfl, rfl⟩ := hcs
    simp only [if_true] at hmm
    subst hmm
    have c3 : Tryd.prog.cellsOf 72 = 3 := by kernel_rfl
    rw [c3] at hall
    have hsp : 0 < len → x.spot = none := by
      intro h0
      obtain ⟨cs', h1, _⟩ := hall 0 (by omega)
      obtain ⟨_, hlen, hcell⟩ := World.cells?_some h1
      match cs', hlen with
      | [v0, v1, v2], _ =>
        have k0 : w.cell? ((x.add (0 * 3)).add 0) = some v0 := hcell 0 (by decide)
        simpa [Addr.add] using World.cell?_spot k0
    have hex : ∀ i, i < len → ∃ o : OpB, ∃ b off, x = ⟨b, off, none⟩ ∧ OpAt Arg w b (off + i * 3) o := by
      intro i hi
      obtain ⟨cs', h1, h2⟩ := hall i (by omega)
      obtain ⟨_, hlen, hcell⟩ := World.cells?_some h1
      match cs', hlen with
      | [v0, v1, v2], _ =>
        obtain ⟨o, rfl, r1, r2⟩ := op_of h2
        have k0 : w.cell? ((x.add (i * 3)).add 0) = some (.int .u8 (o.1.toNat : Int)) := hcell 0 (by decide)
        have k1 : w.cell? ((x.add (i * 3)).add 1) = some v1 := hcell 1 (by decide)
        have k2 : w.cell? ((x.add (i * 3)).add 2) = some v2 := hcell 2 (by decide)
        have hspot := hsp (by omega)
        obtain ⟨b, off, spot⟩ := x
        simp only at hspot
        subst hspot
        simp only [Addr.add_lit] at k0 k1 k2
        exact ⟨o, b, off, rfl, v1, v2, k0, k1, k2, r1, r2⟩
    obtain ⟨L, hL⟩ := Deep.choose_lt hex
    refine ⟨(List.range len).map L, some x, m, by simp, by simp; omega, hm, fun j hj => ?_⟩
    have hj' : j < len := by simpa using hj
    obtain ⟨b, off, rfl, ho⟩ := hL j hj'
    exact ⟨b, off, rfl, by simpa using ho⟩

end Go.Proofs.YtmgofohaoppajaaDoor
