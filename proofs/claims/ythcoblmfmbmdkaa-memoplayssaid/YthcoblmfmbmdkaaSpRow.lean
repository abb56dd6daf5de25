/- Rows of spans (api.Span); what a law is told of spans that came in. -/
import Derived.Test.YthcoblmfmbmdkaaHeld
import Derived.Test.YthcoblmfmbmdkaaKeyArg
import Derived.Test.YthcoblmfmbmdkaaLists
import Derived.Deep.AppendLies
import Derived.Deep.RegionHeld3
import Derived.Deep.LoopGhost
namespace Go.Proofs.Ythcoblmfmbmdkaa
set_option maxRecDepth 20000
open Go.ChangeShapes Go.WideShapes Go.ChangeAt Go.RowKit
set_option linter.unusedVariables false

/-- a span: From, To, Seq -/
abbrev SpB := List UInt8 × List UInt8 × Nat

/-- the three cells of a span -/
def SpAt (R : World → Value → List UInt8 → Prop) (w : World) (b o : Nat) (e : SpB) : Prop :=
  ∃ x y, w.cell? ⟨b, o, none⟩ = some x ∧ w.cell? ⟨b, o + 1, none⟩ = some y ∧ w.cell? ⟨b, o + 2, none⟩ = some (.int .u64 (e.2.2 : Int)) ∧ R w x e.1 ∧ R w y e.2.1

/-- a slice of spans -/
def LsS (R : World → Value → List UInt8 → Prop) (w : World) (v : Value) (es : List SpB) : Prop :=
  ∃ ao cap, v = .slice ao es.length cap ∧ es.length ≤ cap ∧ cap ≤ maxLen ∧ ∀ j (h : j < es.length), ∃ b off, ao = some ⟨b, off, none⟩ ∧ SpAt R w b (off + j * 3) es[j]

abbrev RdS := LsS Rd
abbrev ArgS := LsS Arg

theorem LsS.belowR {R : World → Value → List UInt8 → Prop} {B : Nat} {w w' : World} {v : Value} {es : List SpB} (h : LsS R w v es) (hR : ∀ x l, R w x l → R w' x l) (hb : Below B w w') (hB : w.heap.size ≤ B) : LsS R w' v es := by
  obtain ⟨ao, cap, rfl, h1, h2, h3⟩ := h
  refine ⟨ao, cap, rfl, h1, h2, fun j hj => ?_⟩
  obtain ⟨b, off, e, x, y, c0, c1, c2, rx, ry⟩ := h3 j hj
  have hl : b < B := Nat.lt_of_lt_of_le (World.block_lt_of_cell? w _ c0) hB
  exact ⟨b, off, e, x, y, (hb.cell (p := ⟨b, off + j * 3, none⟩) hl).trans c0, (hb.cell (p := ⟨b, off + j * 3 + 1, none⟩) hl).trans c1, (hb.cell (p := ⟨b, off + j * 3 + 2, none⟩) hl).trans c2, hR _ _ rx, hR _ _ ry⟩

theorem rdS_below {B : Nat} {w w' : World} {v : Value} {es : List SpB} (h : RdS w v es) (hb : Below B w w') (hB : w.heap.size ≤ B) : RdS w' v es := h.belowR (fun _ _ hr => hr.below hb hB) hb hB
theorem argS_below {B : Nat} {w w' : World} {v : Value} {es : List SpB} (h : ArgS w v es) (hb : Below B w w') (hB : w.heap.size ≤ B) : ArgS w' v es := h.belowR (fun _ _ hr => hr.below hb hB) hb hB
theorem rdS_drewN {w : World} {v : Value} {es : List SpB} (h : RdS w v es) (n : Nat) : RdS (w.drewN n) v es := h

theorem rdS_arg {w : World} {v : Value} {es : List SpB} (h : RdS w v es) : ArgS w v es := by
  obtain ⟨ao, cap, rfl, h1, h2, h3⟩ := h
  refine ⟨ao, cap, rfl, h1, h2, fun j hj => ?_⟩
  obtain ⟨b, off, e, x, y, c0, c1, c2, rx, ry⟩ := h3 j hj
  exact ⟨b, off, e, x, y, c0, c1, c2, rx.arg, ry.arg⟩

theorem LsS.nil (R : World → Value → List UInt8 → Prop) (w : World) : LsS R w (.slice none 0 0) [] := ⟨none, 0, rfl, Nat.le_refl _, Nat.zero_le _, fun j h => absurd h (Nat.not_lt_zero _)⟩

theorem LsS.shape {R : World → Value → List UInt8 → Prop} {w : World} {v : Value} {es : List SpB} (h : LsS R w v es) : ∃ a c, v = .slice a es.length c := by
  obtain ⟨ao, cap, e, _⟩ := h
  exact ⟨ao, cap, e⟩

/-- spans in a row of the call's own; what they hold lies elsewhere -/
def OwnSp (B : Nat) (w : World) (v : Value) (es : List SpB) : Prop :=
  ∃ cs, w.ownsRow B 46 3 v es.length cs ∧ ∀ j (h : j < es.length), ∃ x y, cs[j * 3]? = some x ∧ cs[j * 3 + 1]? = some y ∧ cs[j * 3 + 2]? = some (.int .u64 (es[j].2.2 : Int)) ∧ (Rd w x es[j].1 ∧ NeB x es[j].1 v) ∧ (Rd w y es[j].2.1 ∧ NeB y es[j].2.1 v)

theorem OwnSp.nil (B : Nat) (w : World) : OwnSp B w (.slice none 0 0) [] := ⟨[], World.ownsRow_nil _ _ _ _, fun _ h => absurd h (Nat.not_lt_zero _)⟩

theorem OwnSp.below {B C : Nat} {w w' : World} {v : Value} {es : List SpB} (h : OwnSp B w v es) (hb : Below C w w') (hC : w.heap.size ≤ C) : OwnSp B w' v es := by
  obtain ⟨cs, hr, hj⟩ := h
  have hb' : Below w.heap.size w w' := ⟨hb.os, hb.tape, hb.output, hb.size, fun i hi => hb.block i (Nat.lt_of_lt_of_le hi hC)⟩
  refine ⟨cs, row_below hr hb', fun j h => ?_⟩
  obtain ⟨x, y, c0, c1, c2, ox, oy⟩ := hj j h
  exact ⟨x, y, c0, c1, c2, ⟨ox.1.below hb hC, ox.2⟩, ⟨oy.1.below hb hC, oy.2⟩⟩

theorem OwnSp.drew {B : Nat} {w : World} {v : Value} {es : List SpB} (h : OwnSp B w v es) : OwnSp B w.drew v es := h

theorem OwnSp.rd {B : Nat} {w : World} {v : Value} {es : List SpB} (h : OwnSp B w v es) : RdS w v es := by
  obtain ⟨cs, hr, hj⟩ := h
  have hr2 := hr
  rcases hr.2 with ⟨e, hn⟩ | ⟨g, cap, cur, e, hb, hg, h1, h2, h3, h4⟩
  · exact ⟨none, 0, by rw [e, hn], by omega, Nat.zero_le _, fun j hj => by omega⟩
  · subst e
    refine ⟨_, cap, rfl, h1, h2, fun j h => ⟨g, 0, rfl, ?_⟩⟩
    obtain ⟨x, y, c0, c1, c2, ox, oy⟩ := hj j h
    have hc := hr2.cells (g := g) rfl
    refine ⟨x, y, ?_, ?_, ?_, ox.1, oy.1⟩
    · have := hc _ _ c0; rwa [Addr.add_lit] at this
    · have := hc _ _ c1; rwa [Addr.add_lit] at this
    · have := hc _ _ c2; rwa [Addr.add_lit] at this

theorem OwnSp.shape {B : Nat} {w : World} {v : Value} {es : List SpB} (h : OwnSp B w v es) : ∃ a c, v = .slice a es.length c := h.rd.shape

theorem OwnSp.lt {B : Nat} {w : World} {v : Value} {es : List SpB} (h : OwnSp B w v es) : ∀ q, v.ownBlock = some q → B ≤ q ∧ q < w.heap.size := by
  obtain ⟨cs, hr, _⟩ := h
  exact fun q hq => hr.lt q hq

theorem OwnSp.mono {B C : Nat} {w : World} {v : Value} {es : List SpB} (h : OwnSp B w v es) (hC : C ≤ B) : OwnSp C w v es := by
  obtain ⟨cs, ⟨hl, hr⟩, hj⟩ := h
  refine ⟨cs, ⟨hl, ?_⟩, hj⟩
  rcases hr with hr | ⟨g, cap, cur, e, hb, hg⟩
  · exact .inl hr
  · exact .inr ⟨g, cap, cur, e, Nat.le_trans hC hb, hg⟩

theorem own_pushS {B g c n : Nat} {w w' : World} {v x y : Value} {es : List SpB} {cs : List Value} (o : SpB) (hl : es.length = n) (hrow : w.ownsRow B 46 3 v n cs)
    (hel : ∀ j (h : j < es.length), ∃ x y, cs[j * 3]? = some x ∧ cs[j * 3 + 1]? = some y ∧ cs[j * 3 + 2]? = some (.int .u64 (es[j].2.2 : Int)) ∧ (Rd w x es[j].1 ∧ NeB x es[j].1 v) ∧ (Rd w y es[j].2.1 ∧ NeB y es[j].2.1 v))
    (hx : Rd w x o.1 ∧ NeB x o.1 v) (hy : Rd w y o.2.1 ∧ NeB y o.2.1 v) (hn : w'.ownsRow B 46 3 (.slice (some ⟨g, 0, none⟩) (n + 1) c) (n + 1) (cs ++ [x, y, .int .u64 (o.2.2 : Int)])) (hg : w.grownBy w' v.ownBlock) (hat : v.ownBlock = some g ∨ g = w.heap.size) : OwnSp B w' (.slice (some ⟨g, 0, none⟩) (n + 1) c) (es ++ [o]) := by
  subst hl
  have hcl : cs.length = es.length * 3 := hrow.1
  refine ⟨_, by rw [List.length_append]; exact hn, fun j h => ?_⟩
  by_cases hj : j < es.length
  · obtain ⟨x', y', c0, c1, c2, ox, oy⟩ := hel j hj
    refine ⟨x', y', ?_, ?_, ?_, ?_, ?_⟩
    · rw [List.getElem?_append_left (by omega)]; exact c0
    · rw [List.getElem?_append_left (by omega)]; exact c1
    · rw [List.getElem?_append_left (by omega), List.getElem_append_left hj]; exact c2
    · rw [List.getElem_append_left hj]; exact ⟨rd_grown ox.1 hg ox.2, neb_step ox.2 ox.1 hat⟩
    · rw [List.getElem_append_left hj]; exact ⟨rd_grown oy.1 hg oy.2, neb_step oy.2 oy.1 hat⟩
  · have hje : j = es.length := by rw [List.length_append] at h; simp at h; omega
    subst hje
    have e : (es ++ [o])[es.length]'h = o := by simp
    rw [e]
    refine ⟨x, y, ?_, ?_, ?_, ⟨rd_grown hx.1 hg hx.2, neb_step hx.2 hx.1 hat⟩, ⟨rd_grown hy.1 hg hy.2, neb_step hy.2 hy.1 hat⟩⟩
    · rw [List.getElem?_append_right (by omega), show es.length * 3 - cs.length = 0 by omega]; rfl
    · rw [List.getElem?_append_right (by omega), show es.length * 3 + 1 - cs.length = 1 by omega]; rfl
    · rw [List.getElem?_append_right (by omega), show es.length * 3 + 2 - cs.length = 2 by omega]; rfl

theorem oneS (s : Int) (a b : Option Addr) (n m c d : Nat) : ∀ u ∈ [Value.slice a n c, .slice b m d, .int .u64 s], u.oneCell' = true := by
  intro u hu
  simp at hu
  rcases hu with rfl | rfl | rfl <;> rfl

theorem infoSp : (Try.prog.info? 46).map (fun i => (i.zero, i.size, i.bytes)) = some (some (.agg #[.slice none 0 0, .slice none 0 0, .int .u64 0]), 3, 56) := by kernel_rfl

theorem sp_of {H : Type} {enc : TypeId × Value → H} {w : World} {n : Nat} {v0 v1 v2 : Value} {y : DataW H × List MemPlace}
    (h : DataW.trod enc Try.prog w 0 (fun _ => true) true n 46 [v0, v1, v2] = some y) : ∃ o : SpB, v2 = .int .u64 (o.2.2 : Int) ∧ o.2.2 < 18446744073709551616 ∧ Arg w v0 o.1 ∧ Arg w v1 o.2.1 := by
  have c25 : Try.prog.cellsOf 40 = 1 := by kernel_rfl
  have c8 : Try.prog.cellsOf 33 = 1 := by kernel_rfl
  obtain ⟨z0, z1, z2, n2, _, _, k0, k1, k2⟩ := Deep.trod_struct3 Try.underlying46 h
  simp only [c25, c8] at k0 k1 k2
  simp at k0 k1 k2
  obtain ⟨a1, l1, q1, zz1, rfl, r1⟩ := row_of_trod k0
  obtain ⟨a2, l2, q2, zz2, rfl, r2⟩ := row_of_trod k1
  obtain ⟨s, e1, _, ws⟩ := DataW.trod_int Try.underlying33 k2
  simp at e1
  subst e1
  have hs := bounds_u64 ws
  refine ⟨(_, _, s.toNat), ?_, by show s.toNat < _; omega, arg_of r1, arg_of r2⟩
  rw [show ((s.toNat : Nat) : Int) = s by omega]

/-- spans that came in -/
theorem spsArg_of {H : Type} {enc : TypeId × Value → H} {w : World} {a : Option Addr} {len cap : Nat} {d : DataW H} {ps : List MemPlace}
    (h : DataW.Trod enc Try.prog w 0 (fun _ => true) true 38 (.slice a len cap) d ps) : ∃ es, ArgS w (.slice a len cap) es ∧ ∀ e ∈ es, e.2.2 < 18446744073709551616 := by
  obtain ⟨fuel, hf⟩ := h
  rcases Deep.open_slice Try.underlying38 hf with ⟨hcs, _⟩ | ⟨x, len', cap', m, n, D, Pl, hcs, _, hl, hm, hmm, _, hall⟩
  · simp [Value.cells] at hcs
    obtain ⟨rfl, rfl, rfl⟩ := hcs
    exact ⟨[], LsS.nil _ w, by simp⟩
  · simp [Value.cells] at hcs
    obtain ⟨rfl, rfl, rfl⟩ := hcs
    simp only [if_true] at hmm
    subst hmm
    have c3k : Try.prog.cellsOf 46 = 3 := by kernel_rfl
    rw [c3k] at hall
    have hsp : 0 < len → x.spot = none := by
      intro h0
      obtain ⟨cs', h1, _⟩ := hall 0 (by omega)
      obtain ⟨_, hlen, hcell⟩ := World.cells?_some h1
      match cs', hlen with
      | [v0, v1, v2], _ =>
        have k0 : w.cell? ((x.add (0 * 3)).add 0) = some v0 := hcell 0 (by decide)
        simpa [Addr.add] using World.cell?_spot k0
    have hex : ∀ i, i < len → ∃ o : SpB, ∃ b off, x = ⟨b, off, none⟩ ∧ SpAt Arg w b (off + i * 3) o ∧ o.2.2 < 18446744073709551616 := by
      intro i hi
      obtain ⟨cs', h1, h2⟩ := hall i (by omega)
      obtain ⟨_, hlen, hcell⟩ := World.cells?_some h1
      match cs', hlen with
      | [v0, v1, v2], _ =>
        obtain ⟨o, rfl, hs, r1, r2⟩ := sp_of h2
        have k0 : w.cell? ((x.add (i * 3)).add 0) = some v0 := hcell 0 (by decide)
        have k1 : w.cell? ((x.add (i * 3)).add 1) = some v1 := hcell 1 (by decide)
        have k2 : w.cell? ((x.add (i * 3)).add 2) = some (.int .u64 (o.2.2 : Int)) := hcell 2 (by decide)
        have hspot := hsp (by omega)
        obtain ⟨b, off, spot⟩ := x
        simp only at hspot
        subst hspot
        simp only [Addr.add_lit] at k0 k1 k2
        exact ⟨o, b, off, rfl, ⟨v0, v1, k0, k1, k2, r1, r2⟩, hs⟩
    obtain ⟨L, hL⟩ := Deep.choose_lt hex
    refine ⟨(List.range len).map L, ⟨some x, m, by simp, by simp; omega, hm, fun j hj => ?_⟩, fun e he => ?_⟩
    · have hj' : j < len := by simpa using hj
      obtain ⟨b, off, rfl, ho, _⟩ := hL j hj'
      exact ⟨b, off, rfl, by simpa using ho⟩
    · obtain ⟨i, hi, rfl⟩ := List.mem_map.1 he
      obtain ⟨_, _, _, _, hs⟩ := hL i (by simpa using hi); exact hs

end Go.Proofs.Ythcoblmfmbmdkaa
