/- What a law is told of calls to a disk that came in. -/
import Derived.Test.YtanmfmllnbbdoaaKeyArg
import Derived.Test.YtanmfmllnbbdoaaDArmsWalk
namespace Go.Proofs.Ytanmfmllnbbdoaa
open Go.ChangeShapes Go.WideShapes Go.ChangeAt Go.RowKit

structure DOp where
  act : UInt8
  name : ByteArray
  to : ByteArray
  p : List UInt8
  n : Int
  keep : List Int

structure DOpAt (w : World) (b off : Nat) (o : DOp) (v3 v5 : Value) : Prop where
  c0 : w.cell? ⟨b, off, none⟩ = some (.int .u8 (o.act.toNat : Int))
  c1 : w.cell? ⟨b, off + 1, none⟩ = some (.string o.name)
  c2 : w.cell? ⟨b, off + 2, none⟩ = some (.string o.to)
  c3 : w.cell? ⟨b, off + 3, none⟩ = some v3
  c4 : w.cell? ⟨b, off + 4, none⟩ = some (.int .i64 o.n)
  c5 : w.cell? ⟨b, off + 5, none⟩ = some v5
  a3 : Arg w v3 o.p
  a5 : RdI w v5 o.keep
  s1 : o.name.size ≤ maxLen
  s2 : o.to.size ≤ maxLen
  n0 : -9223372036854775808 ≤ o.n
  n1 : o.n ≤ 9223372036854775807

def ArgD (w : World) (v : Value) (os : List DOp) : Prop :=
  ∃ a cap, v = .slice a os.length cap ∧ os.length ≤ cap ∧ cap ≤ 9223372036854775807 ∧ ∀ j (hj : j < os.length), ∃ b off, a = some ⟨b, off, none⟩ ∧ ∃ v3 v5, DOpAt w b (off + j * 6) os[j] v3 v5

theorem cell_below {B : Nat} {w w' : World} {p : Addr} {v : Value} (hb : Below B w w') (hB : w.heap.size ≤ B) (h : w.cell? p = some v) : w'.cell? p = some v :=
  (hb.cell (Nat.lt_of_lt_of_le (World.block_lt_of_cell? w _ h) hB)).trans h

theorem DOpAt.below {B : Nat} {w w' : World} {b off : Nat} {o : DOp} {v3 v5 : Value} (h : DOpAt w b off o v3 v5) (hb : Below B w w') (hB : w.heap.size ≤ B) : DOpAt w' b off o v3 v5 :=
  ⟨cell_below hb hB h.c0, cell_below hb hB h.c1, cell_below hb hB h.c2, cell_below hb hB h.c3, cell_below hb hB h.c4, cell_below hb hB h.c5, h.a3.below hb hB, h.a5.below hb hB, h.s1, h.s2, h.n0, h.n1⟩

theorem ints_of_trod {H : Type} {enc : TypeId × Value → H} {w : World} {n : Nat} {v : Value} {y : DataW H × List MemPlace}
    (h : DataW.trod enc Try.prog w 0 (fun _ => true) true n 32 [v] = some y) : ∃ a len cap zs, v = .slice a len cap ∧ IsRow .i64 w a len cap zs := by
  rcases open_ints Try.underlying32 Try.underlying3 (by kernel_rfl) h with ⟨hcs, _⟩ | ⟨x, l, c, zs, hcs, _, hl, hm, hz, _, hcell, hwz⟩
  · simp at hcs
    exact ⟨none, 0, 0, [], hcs, .inl ⟨rfl, rfl, rfl, rfl⟩⟩
  · simp at hcs
    exact ⟨some x, l, c, zs, hcs, .inr ⟨_, rfl, hl, hm, by simpa using hz, hcell, hwz⟩⟩

theorem byte_of {k : Int} (h : (Lit.int .u8 k).wf = true) : k = ((UInt8.ofNat k.toNat).toNat : Int) := by
  have := bounds_u8 h
  simp
  omega

theorem dop_of {H : Type} {enc : TypeId × Value → H} {w : World} {n : Nat} {v0 v1 v2 v3 v4 v5 : Value} {y : DataW H × List MemPlace}
    (h : DataW.trod enc Try.prog w 0 (fun _ => true) true n 34 [v0, v1, v2, v3, v4, v5] = some y) :
    ∃ o : DOp, v0 = .int .u8 (o.act.toNat : Int) ∧ v1 = .string o.name ∧ v2 = .string o.to ∧ Arg w v3 o.p ∧ v4 = .int .i64 o.n ∧ RdI w v5 o.keep ∧ o.name.size ≤ maxLen ∧ o.to.size ≤ maxLen ∧ -9223372036854775808 ≤ o.n ∧ o.n ≤ 9223372036854775807 := by
  obtain ⟨xs, n', _, rfl, hl, hlen, hf⟩ := DataW.trod_struct Try.underlying34 h
  match xs, hlen with
  | [y0, y1, y2, y3, y4, y5], _ =>
    have h0 := hf 0 _ rfl
    have h1 := hf 1 _ rfl
    have h2 := hf 2 _ rfl
    have h3 := hf 3 _ rfl
    have h4 := hf 4 _ rfl
    have h5 := hf 5 _ rfl
    have c5 : Try.prog.cellsOf 5 = 1 := by kernel_rfl
    have c9 : Try.prog.cellsOf 9 = 1 := by kernel_rfl
    have c31 : Try.prog.cellsOf 31 = 1 := by kernel_rfl
    have c3 : Try.prog.cellsOf 3 = 1 := by kernel_rfl
    have c32 : Try.prog.cellsOf 32 = 1 := by kernel_rfl
    simp at h0 h1 h2 h3 h4 h5
    rw [c5] at h0
    rw [c9] at h1 h2
    rw [c31] at h3
    rw [c3] at h4
    rw [c32] at h5
    simp at h0 h1 h2 h3 h4 h5
    obtain ⟨k, e0, _, wk⟩ := DataW.trod_int Try.underlying5 h0
    obtain ⟨s1, e1, _, w1⟩ := DataW.trod_string Try.underlying9 h1
    obtain ⟨s2, e2, _, w2⟩ := DataW.trod_string Try.underlying9 h2
    obtain ⟨a3, l3, q3, z3, rfl, r3⟩ := row_of_trod h3
    obtain ⟨m, e4, _, w4⟩ := DataW.trod_int Try.underlying3 h4
    obtain ⟨a5, l5, q5, z5, rfl, r5⟩ := ints_of_trod h5
    simp at e0 e1 e2 e4
    subst e0 e1 e2 e4
    have hb := bounds_i64 w4
    exact ⟨⟨UInt8.ofNat k.toNat, s1, s2, _, m, _⟩, congrArg _ (byte_of wk), rfl, rfl, arg_of r3, rfl, rdi_of r5, w1, w2, by simp only; omega, by simp only; omega⟩

theorem dopsArg_of {H : Type} {enc : TypeId × Value → H} {w : World} {a : Option Addr} {len cap : Nat} {d : DataW H} {ps : List MemPlace}
    (h : DataW.Trod enc Try.prog w 0 (fun _ => true) true 22 (.slice a len cap) d ps) : ∃ os, ArgD w (.slice a len cap) os := by
  obtain ⟨fuel, hf⟩ := h
  rcases Deep.open_slice Try.underlying22 hf with ⟨hcs, _⟩ | ⟨x, len', cap', m, n, D, Pl, hcs, _, hl, hm, hmm, _, hall⟩
  · simp [Value.cells] at hcs
    obtain ⟨rfl, rfl, rfl⟩ := hcs
    exact ⟨[], none, 0, rfl, by simp, by omega, fun j hj => by simp at hj⟩
  · simp [Value.cells] at hcs
    obtain ⟨rfl, rfl, rfl⟩ := hcs
    simp only [if_true] at hmm
    subst hmm
    have c6 : Try.prog.cellsOf 34 = 6 := by kernel_rfl
    rw [c6] at hall
    have hsp : 0 < len → x.spot = none := by
      intro h0
      obtain ⟨cs', h1, _⟩ := hall 0 (by omega)
      obtain ⟨_, hlen, hcell⟩ := World.cells?_some h1
      match cs', hlen with
      | [v0, v1, v2, v3, v4, v5], _ =>
        have k0 : w.cell? ((x.add (0 * 6)).add 0) = some v0 := hcell 0 (by decide)
        simpa [Addr.add] using World.cell?_spot k0
    have hex : ∀ i, i < len → ∃ o : DOp, ∃ b off, x = ⟨b, off, none⟩ ∧ ∃ v3 v5, DOpAt w b (off + i * 6) o v3 v5 := by
      intro i hi
      obtain ⟨cs', h1, h2⟩ := hall i (by omega)
      obtain ⟨_, hlen, hcell⟩ := World.cells?_some h1
      match cs', hlen with
      | [v0, v1, v2, v3, v4, v5], _ =>
        obtain ⟨o, rfl, rfl, rfl, r3, rfl, r5, s1, s2, n0, n1⟩ := dop_of h2
        have k0 := hcell 0 (by decide)
        have k1 := hcell 1 (by decide)
        have k2 := hcell 2 (by decide)
        have k3 := hcell 3 (by decide)
        have k4 := hcell 4 (by decide)
        have k5 := hcell 5 (by decide)
        have hspot := hsp (by omega)
        obtain ⟨b, off, spot⟩ := x
        simp only at hspot
        subst hspot
        simp only [Addr.add_lit] at k0 k1 k2 k3 k4 k5
        exact ⟨o, b, off, rfl, v3, v5, k0, k1, k2, k3, k4, k5, r3, r5, s1, s2, n0, n1⟩
    have hI : Inhabited DOp := ⟨⟨0, ⟨#[]⟩, ⟨#[]⟩, [], 0, []⟩⟩
    obtain ⟨L, hL⟩ := Deep.choose_lt hex
    refine ⟨(List.range len).map L, some x, m, by simp, by simp; omega, by unfold maxLen at hm; omega, fun j hj => ?_⟩
    have hj' : j < len := by simpa using hj
    obtain ⟨b, off, rfl, v3, v5, hD⟩ := hL j hj'
    exact ⟨b, off, rfl, v3, v5, by simpa using hD⟩

end Go.Proofs.Ytanmfmllnbbdoaa
