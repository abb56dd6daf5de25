/- Rows of versions with their values (api.Entry); what a law is told of entries that came in. -/
import Derived.Test.YthcoblmfmbmdkaaHeld
import Derived.Test.YthcoblmfmbmdkaaKeyArg
import Derived.Test.YthcoblmfmbmdkaaLists
import Derived.Deep.AppendLies
import Derived.Deep.RegionHeld3
import Derived.Deep.LoopGhost
namespace Go.Proofs.Ythcoblmfmbmdkaa
set_option maxRecDepth 20000
open Go.ChangeShapes Go.WideShapes Go.ChangeAt Go.RowKit
set_option linter.unusedVariables false

/-- a version and its value: User, Seq, Kind, Value -/
abbrev EnB := List UInt8 × Nat × UInt8 × List UInt8

/-- the four cells of an entry -/
def EnAt (R : World → Value → List UInt8 → Prop) (w : World) (b o : Nat) (e : EnB) : Prop :=
  ∃ x y, w.cell? ⟨b, o, none⟩ = some x ∧ w.cell? ⟨b, o + 1, none⟩ = some (.int .u64 (e.2.1 : Int)) ∧ w.cell? ⟨b, o + 2, none⟩ = some (.int .u8 (e.2.2.1.toNat : Int)) ∧ w.cell? ⟨b, o + 3, none⟩ = some y ∧ R w x e.1 ∧ R w y e.2.2.2

/-- a slice of entries -/
def LsE (R : World → Value → List UInt8 → Prop) (w : World) (v : Value) (es : List EnB) : Prop :=
  ∃ ao cap, v = .slice ao es.length cap ∧ es.length ≤ cap ∧ cap ≤ maxLen ∧ ∀ j (h : j < es.length), ∃ b off, ao = some ⟨b, off, none⟩ ∧ EnAt R w b (off + j * 4) es[j]

abbrev RdE := LsE Rd
abbrev ArgE := LsE Arg

theorem LsE.belowR {R : World → Value → List UInt8 → Prop} {B : Nat} {w w' : World} {v : Value} {es : List EnB} (h : LsE R w v es) (hR : ∀ x l, R w x l → R w' x l) (hb : Below B w w') (hB : w.heap.size ≤ B) : LsE R w' v es := by
  obtain ⟨ao, cap, rfl, h1, h2, h3⟩ := h
  refine ⟨ao, cap, rfl, h1, h2, fun j hj => ?_⟩
  obtain ⟨b, off, e, x, y, c0, c1, c2, c3, rx, ry⟩ := h3 j hj
  have hl : b < B := Nat.lt_of_lt_of_le (World.block_lt_of_cell? w _ c0) hB
  exact ⟨b, off, e, x, y, (hb.cell (p := ⟨b, off + j * 4, none⟩) hl).trans c0, (hb.cell (p := ⟨b, off + j * 4 + 1, none⟩) hl).trans c1, (hb.cell (p := ⟨b, off + j * 4 + 2, none⟩) hl).trans c2, (hb.cell (p := ⟨b, off + j * 4 + 3, none⟩) hl).trans c3, hR _ _ rx, hR _ _ ry⟩

theorem rdE_below {B : Nat} {w w' : World} {v : Value} {es : List EnB} (h : RdE w v es) (hb : Below B w w') (hB : w.heap.size ≤ B) : RdE w' v es := h.belowR (fun _ _ hr => hr.below hb hB) hb hB
theorem argE_below {B : Nat} {w w' : World} {v : Value} {es : List EnB} (h : ArgE w v es) (hb : Below B w w') (hB : w.heap.size ≤ B) : ArgE w' v es := h.belowR (fun _ _ hr => hr.below hb hB) hb hB
theorem rdE_drewN {w : World} {v : Value} {es : List EnB} (h : RdE w v es) (n : Nat) : RdE (w.drewN n) v es := h

theorem rdE_arg {w : World} {v : Value} {es : List EnB} (h : RdE w v es) : ArgE w v es := by
  obtain ⟨ao, cap, rfl, h1, h2, h3⟩ := h
  refine ⟨ao, cap, rfl, h1, h2, fun j hj => ?_⟩
  obtain ⟨b, off, e, x, y, c0, c1, c2, c3, rx, ry⟩ := h3 j hj
  exact ⟨b, off, e, x, y, c0, c1, c2, c3, rx.arg, ry.arg⟩

theorem LsE.nil (R : World → Value → List UInt8 → Prop) (w : World) : LsE R w (.slice none 0 0) [] := ⟨none, 0, rfl, Nat.le_refl _, Nat.zero_le _, fun j h => absurd h (Nat.not_lt_zero _)⟩

theorem LsE.shape {R : World → Value → List UInt8 → Prop} {w : World} {v : Value} {es : List EnB} (h : LsE R w v es) : ∃ a c, v = .slice a es.length c := by
  obtain ⟨ao, cap, e, _⟩ := h
  exact ⟨ao, cap, e⟩

/-- entries in a row of the call's own; what they hold lies elsewhere -/
def OwnE (B : Nat) (w : World) (v : Value) (es : List EnB) : Prop :=
  ∃ cs, w.ownsRow B 44 4 v es.length cs ∧ ∀ j (h : j < es.length), ∃ x y, cs[j * 4]? = some x ∧ cs[j * 4 + 1]? = some (.int .u64 (es[j].2.1 : Int)) ∧ cs[j * 4 + 2]? = some (.int .u8 (es[j].2.2.1.toNat : Int)) ∧ cs[j * 4 + 3]? = some y ∧ (Rd w x es[j].1 ∧ NeB x es[j].1 v) ∧ (Rd w y es[j].2.2.2 ∧ NeB y es[j].2.2.2 v)

theorem OwnE.nil (B : Nat) (w : World) : OwnE B w (.slice none 0 0) [] := ⟨[], World.ownsRow_nil _ _ _ _, fun _ h => absurd h (Nat.not_lt_zero _)⟩

theorem OwnE.below {B C : Nat} {w w' : World} {v : Value} {es : List EnB} (h : OwnE B w v es) (hb : Below C w w') (hC : w.heap.size ≤ C) : OwnE B w' v es := by
  obtain ⟨cs, hr, hj⟩ := h
  have hb' : Below w.heap.size w w' := ⟨hb.os, hb.tape, hb.output, hb.size, fun i hi => hb.block i (Nat.lt_of_lt_of_le hi hC)⟩
  refine ⟨cs, row_below hr hb', fun j h => ?_⟩
  obtain ⟨x, y, c0, c1, c2, c3, ox, oy⟩ := hj j h
  exact ⟨x, y, c0, c1, c2, c3, ⟨ox.1.below hb hC, ox.2⟩, ⟨oy.1.below hb hC, oy.2⟩⟩

theorem OwnE.drew {B : Nat} {w : World} {v : Value} {es : List EnB} (h : OwnE B w v es) : OwnE B w.drew v es := h

theorem OwnE.rd {B : Nat} {w : World} {v : Value} {es : List EnB} (h : OwnE B w v es) : RdE w v es := by
  obtain ⟨cs, hr, hj⟩ := h
  have hr2 := hr
  rcases hr.2 with ⟨e, hn⟩ | ⟨g, cap, cur, e, hb, hg, h1, h2, h3, h4⟩
  · exact ⟨none, 0, by rw [e, hn], by omega, Nat.zero_le _, fun j hj => by omega⟩
  · subst e
    refine ⟨_, cap, rfl, h1, h2, fun j h => ⟨g, 0, rfl, ?_⟩⟩
    obtain ⟨x, y, c0, c1, c2, c3, ox, oy⟩ := hj j h
    have hc := hr2.cells (g := g) rfl
    refine ⟨x, y, ?_, ?_, ?_, ?_, ox.1, oy.1⟩
    · have := hc _ _ c0; rwa [Addr.add_lit] at this
    · have := hc _ _ c1; rwa [Addr.add_lit] at this
    · have := hc _ _ c2; rwa [Addr.add_lit] at this
    · have := hc _ _ c3; rwa [Addr.add_lit] at this

theorem OwnE.shape {B : Nat} {w : World} {v : Value} {es : List EnB} (h : OwnE B w v es) : ∃ a c, v = .slice a es.length c := h.rd.shape

theorem OwnE.lt {B : Nat} {w : World} {v : Value} {es : List EnB} (h : OwnE B w v es) : ∀ q, v.ownBlock = some q → B ≤ q ∧ q < w.heap.size := by
  obtain ⟨cs, hr, _⟩ := h
  exact fun q hq => hr.lt q hq

theorem OwnE.mono {B C : Nat} {w : World} {v : Value} {es : List EnB} (h : OwnE B w v es) (hC : C ≤ B) : OwnE C w v es := by
  obtain ⟨cs, ⟨hl, hr⟩, hj⟩ := h
  refine ⟨cs, ⟨hl, ?_⟩, hj⟩
  rcases hr with hr | ⟨g, cap, cur, e, hb, hg⟩
  · exact .inl hr
  · exact .inr ⟨g, cap, cur, e, Nat.le_trans hC hb, hg⟩

theorem own_pushE {B g c n : Nat} {w w' : World} {v x y : Value} {es : List EnB} {cs : List Value} (o : EnB) (hl : es.length = n) (hrow : w.ownsRow B 44 4 v n cs)
    (hel : ∀ j (h : j < es.length), ∃ x y, cs[j * 4]? = some x ∧ cs[j * 4 + 1]? = some (.int .u64 (es[j].2.1 : Int)) ∧ cs[j * 4 + 2]? = some (.int .u8 (es[j].2.2.1.toNat : Int)) ∧ cs[j * 4 + 3]? = some y ∧ (Rd w x es[j].1 ∧ NeB x es[j].1 v) ∧ (Rd w y es[j].2.2.2 ∧ NeB y es[j].2.2.2 v))
    (hx : Rd w x o.1 ∧ NeB x o.1 v) (hy : Rd w y o.2.2.2 ∧ NeB y o.2.2.2 v) (hn : w'.ownsRow B 44 4 (.slice (some ⟨g, 0, none⟩) (n + 1) c) (n + 1) (cs ++ [x, .int .u64 (o.2.1 : Int), .int .u8 (o.2.2.1.toNat : Int), y])) (hg : w.grownBy w' v.ownBlock) (hat : v.ownBlock = some g ∨ g = w.heap.size) : OwnE B w' (.slice (some ⟨g, 0, none⟩) (n + 1) c) (es ++ [o]) := by
  subst hl
  have hcl : cs.length = es.length * 4 := hrow.1
  refine ⟨_, by rw [List.length_append]; exact hn, fun j h => ?_⟩
  by_cases hj : j < es.length
  · obtain ⟨x', y', c0, c1, c2, c3, ox, oy⟩ := hel j hj
    refine ⟨x', y', ?_, ?_, ?_, ?_, ?_, ?_⟩
    · rw [List.getElem?_append_left (by omega)]; exact c0
    · rw [List.getElem?_append_left (by omega), List.getElem_append_left hj]; exact c1
    · rw [List.getElem?_append_left (by omega), List.getElem_append_left hj]; exact c2
    · rw [List.getElem?_append_left (by omega)]; exact c3
    · rw [List.getElem_append_left hj]; exact ⟨rd_grown ox.1 hg ox.2, neb_step ox.2 ox.1 hat⟩
    · rw [List.getElem_append_left hj]; exact ⟨rd_grown oy.1 hg oy.2, neb_step oy.2 oy.1 hat⟩
  · have hje : j = es.length := by rw [List.length_append] at h; simp at h; omega
    subst hje
    have e : (es ++ [o])[es.length]'h = o := by simp
    rw [e]
    refine ⟨x, y, ?_, ?_, ?_, ?_, ⟨rd_grown hx.1 hg hx.2, neb_step hx.2 hx.1 hat⟩, ⟨rd_grown hy.1 hg hy.2, neb_step hy.2 hy.1 hat⟩⟩
    · rw [List.getElem?_append_right (by omega), show es.length * 4 - cs.length = 0 by omega]; rfl
    · rw [List.getElem?_append_right (by omega), show es.length * 4 + 1 - cs.length = 1 by omega]; rfl
    · rw [List.getElem?_append_right (by omega), show es.length * 4 + 2 - cs.length = 2 by omega]; rfl
    · rw [List.getElem?_append_right (by omega), show es.length * 4 + 3 - cs.length = 3 by omega]; rfl

theorem oneE (k s : Int) (a b : Option Addr) (n m c d : Nat) : ∀ u ∈ [Value.slice a n c, .int .u64 s, .int .u8 k, .slice b m d], u.oneCell' = true := by
  intro u hu
  simp at hu
  rcases hu with rfl | rfl | rfl | rfl <;> rfl

theorem infoEn : (Try.prog.info? 44).map (fun i => (i.zero, i.size, i.bytes)) = some (some (.agg #[.slice none 0 0, .int .u64 0, .int .u8 0, .slice none 0 0]), 4, 64) := by kernel_rfl

theorem en_of {H : Type} {enc : TypeId × Value → H} {w : World} {n : Nat} {v0 v1 v2 v3 : Value} {y : DataW H × List MemPlace}
    (h : DataW.trod enc Try.prog w 0 (fun _ => true) true n 44 [v0, v1, v2, v3] = some y) : ∃ o : EnB, v1 = .int .u64 (o.2.1 : Int) ∧ v2 = .int .u8 (o.2.2.1.toNat : Int) ∧ o.2.1 < 18446744073709551616 ∧ Arg w v0 o.1 ∧ Arg w v3 o.2.2.2 := by
  obtain ⟨y0, y1, n', _, _, h0, h1⟩ := ChangeShapes.trod_struct2 Try.underlying44 h
  have c37 : Try.prog.cellsOf 42 = 3 := by kernel_rfl
  have c25 : Try.prog.cellsOf 40 = 1 := by kernel_rfl
  have c8 : Try.prog.cellsOf 33 = 1 := by kernel_rfl
  have c5 : Try.prog.cellsOf 5 = 1 := by kernel_rfl
  simp only [c37, c25] at h0 h1
  simp at h0 h1
  obtain ⟨z0, z1, z2, n2, _, _, k0, k1, k2⟩ := Deep.trod_struct3 Try.underlying42 h0
  simp only [c25, c8, c5] at k0 k1 k2
  simp at k0 k1 k2
  obtain ⟨a1, l1, q1, zz1, rfl, r1⟩ := row_of_trod k0
  obtain ⟨s, e1, _, ws⟩ := DataW.trod_int Try.underlying33 k1
  obtain ⟨k, e2, _, wk⟩ := DataW.trod_int Try.underlying5 k2
  obtain ⟨a2, l2, q2, zz2, rfl, r2⟩ := row_of_trod h1
  simp at e1 e2
  subst e1 e2
  have hs := bounds_u64 ws
  have hk := bounds_u8 wk
  refine ⟨(_, s.toNat, UInt8.ofNat k.toNat, _), ?_, ?_, by show s.toNat < _; omega, arg_of r1, arg_of r2⟩
  · rw [show ((s.toNat : Nat) : Int) = s by omega]
  · simp only [UInt8.toNat_ofNat', Value.int.injEq, true_and]; omega

/-- entries that came in -/
theorem ensArg_of {H : Type} {enc : TypeId × Value → H} {w : World} {a : Option Addr} {len cap : Nat} {d : DataW H} {ps : List MemPlace}
    (h : DataW.Trod enc Try.prog w 0 (fun _ => true) true 36 (.slice a len cap) d ps) : ∃ es, ArgE w (.slice a len cap) es ∧ ∀ e ∈ es, e.2.1 < 18446744073709551616 := by
  obtain ⟨fuel, hf⟩ := h
  rcases Deep.open_slice Try.underlying36 hf with ⟨hcs, _⟩ | ⟨x, len', cap', m, n, D, Pl, hcs, _, hl, hm, hmm, _, hall⟩
  · simp [Value.cells] at hcs
    obtain ⟨rfl, rfl, rfl⟩ := hcs
    exact ⟨[], LsE.nil _ w, by simp⟩
  · simp [Value.cells] at hcs
    obtain ⟨rfl, rfl, rfl⟩ := hcs
    simp only [if_true] at hmm
    subst hmm
    have c4 : Try.prog.cellsOf 44 = 4 := by kernel_rfl
    rw [c4] at hall
    have hsp : 0 < len → x.spot = none := by
      intro h0
      obtain ⟨cs', h1, _⟩ := hall 0 (by omega)
      obtain ⟨_, hlen, hcell⟩ := World.cells?_some h1
      match cs', hlen with
      | [v0, v1, v2, v3], _ =>
        have k0 : w.cell? ((x.add (0 * 4)).add 0) = some v0 := hcell 0 (by decide)
        simpa [Addr.add] using World.cell?_spot k0
    have hex : ∀ i, i < len → ∃ o : EnB, ∃ b off, x = ⟨b, off, none⟩ ∧ EnAt Arg w b (off + i * 4) o ∧ o.2.1 < 18446744073709551616 := by
      intro i hi
      obtain ⟨cs', h1, h2⟩ := hall i (by omega)
      obtain ⟨_, hlen, hcell⟩ := World.cells?_some h1
      match cs', hlen with
      | [v0, v1, v2, v3], _ =>
        obtain ⟨o, rfl, rfl, hs, r1, r2⟩ := en_of h2
        have k0 : w.cell? ((x.add (i * 4)).add 0) = some v0 := hcell 0 (by decide)
        have k1 : w.cell? ((x.add (i * 4)).add 1) = some (.int .u64 (o.2.1 : Int)) := hcell 1 (by decide)
        have k2 : w.cell? ((x.add (i * 4)).add 2) = some (.int .u8 (o.2.2.1.toNat : Int)) := hcell 2 (by decide)
        have k3 : w.cell? ((x.add (i * 4)).add 3) = some v3 := hcell 3 (by decide)
        have hspot := hsp (by omega)
        obtain ⟨b, off, spot⟩ := x
        simp only at hspot
        subst hspot
        simp only [Addr.add_lit] at k0 k1 k2 k3
        exact ⟨o, b, off, rfl, ⟨v0, v3, k0, k1, k2, k3, r1, r2⟩, hs⟩
    obtain ⟨L, hL⟩ := Deep.choose_lt hex
    refine ⟨(List.range len).map L, ⟨some x, m, by simp, by simp; omega, hm, fun j hj => ?_⟩, fun e he => ?_⟩
    · have hj' : j < len := by simpa using hj
      obtain ⟨b, off, rfl, ho, _⟩ := hL j hj'
      exact ⟨b, off, rfl, by simpa using ho⟩
    · obtain ⟨i, hi, rfl⟩ := List.mem_map.1 he
      obtain ⟨_, _, _, _, hs⟩ := hL i (by simpa using hi); exact hs

end Go.Proofs.Ythcoblmfmbmdkaa
