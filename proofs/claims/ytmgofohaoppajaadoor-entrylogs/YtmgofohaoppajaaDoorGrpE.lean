/- Several texts in one. -/
import Derived.Test.YtmgofohaoppajaaDoorGrpA
import Derived.Lib.SmallJoins
import Derived.Test.YtmgofohaoppajaaDoorGrpB
import Derived.Test.YtmgofohaoppajaaDoorGrpC
import Derived.BigQuiet
import Derived.Deep.RegionHeld3
import Derived.Deep.DeepCutAuto
import Derived.Deep.LoopGhost

/- Entries that came in, several of them. -/
namespace Go.Proofs.YtmgofohaoppajaaDoor
open Go.ChangeShapes Go.WideShapes Go.ChangeAt Go.RowKit
set_option linter.unusedVariables false

theorem nt_of {H : Type} {enc : TypeId × Value → H} {w : World} {n : Nat} {v0 v1 v2 v3 : Value} {y : DataW H × List MemPlace}
    (h : DataW.trod enc Tryd.prog w 0 (fun _ => true) true n 36 [v0, v1, v2, v3] = some y) : ∃ o : NtB, v0 = .int .u8 (o.1.toNat : Int) ∧ v1 = .int .u64 (o.2.1 : Int) ∧ o.2.1 < 18446744073709551616 ∧ Arg w v2 o.2.2.1 ∧ ArgO w v3 o.2.2.2 := by
  obtain ⟨y0, y1, y2, y3, n', _, _, h0, h1, h2, h3⟩ := Joins.trod_struct4 Tryd.underlying36 h
  have c8 : Tryd.prog.cellsOf 33 = 1 := by kernel_rfl
  have c5 : Tryd.prog.cellsOf 5 = 1 := by kernel_rfl
  have c25 : Tryd.prog.cellsOf 26 = 1 := by kernel_rfl
  have co : Tryd.prog.cellsOf 34 = 1 := by kernel_rfl
  simp only [c8, c5, c25, co] at h0 h1 h2 h3
  simp at h0 h1 h2 h3
  obtain ⟨k, e0, _, wk⟩ := DataW.trod_int Tryd.underlying5 h0
  obtain ⟨s, e1, _, ws⟩ := DataW.trod_int Tryd.underlying33 h1
  obtain ⟨a2, l2, q2, z2, rfl, r2⟩ := row_of_trod h2
  obtain ⟨a3, l3, q3, rfl⟩ : ∃ a l q, v3 = .slice a l q := by
    rcases Deep.open_slice Tryd.underlying34 h3 with ⟨hcs, _⟩ | ⟨x, len', cap', m, n', D, Pl, hcs, _⟩
    · simp at hcs; exact ⟨_, _, _, hcs⟩
    · simp at hcs; exact ⟨_, _, _, hcs⟩
  obtain ⟨os, ho⟩ := opsArg_of (H := H) (enc := enc) (w := w) (a := a3) (len := l3) (cap := q3) (d := y3.1) (ps := y3.2) ⟨n', by simpa [Value.cells] using h3⟩
  simp at e0 e1
  subst e0 e1
  have hs := bounds_u64 ws
  refine ⟨(UInt8.ofNat k.toNat, s.toNat, _, os), ?_, ?_, by show s.toNat < _; omega, arg_of r2, ho⟩
  · rw [← u8_byte wk]
  · rw [show ((s.toNat : Nat) : Int) = s by omega]

theorem notesArg_of {H : Type} {enc : TypeId × Value → H} {w : World} {a : Option Addr} {len cap : Nat} {d : DataW H} {ps : List MemPlace}
    (h : DataW.Trod enc Tryd.prog w 0 (fun _ => true) true 22 (.slice a len cap) d ps) : ∃ ns, ArgN w (.slice a len cap) ns ∧ ∀ n ∈ ns, n.2.1 < 18446744073709551616 := by
  obtain ⟨fuel, hf⟩ := h
  rcases Deep.open_slice Tryd.underlying22 hf with ⟨hcs, _⟩ | ⟨x, len', cap', m, n, D, Pl, hcs, _, hl, hm, hmm, _, hall⟩
  · simp [Value.cells] at hcs
    obtain ⟨rfl, rfl, rfl⟩ := hcs
    exact ⟨[], ⟨none, 0, rfl, Nat.le_refl _, Nat.zero_le _, fun j h => absurd h (Nat.not_lt_zero _)⟩, by simp⟩
  · simp [Value.cells] at hcs
    obtain ⟨rfl, rfl, rfl⟩ := hcs
    simp only [if_true] at hmm
    subst hmm
    have c4 : Tryd.prog.cellsOf 36 = 4 := by kernel_rfl
    rw [c4] at hall
    have hsp : 0 < len → x.spot = none := by
      intro h0
      obtain ⟨cs', h1, _⟩ := hall 0 (by omega)
      obtain ⟨_, hlen, hcell⟩ := World.cells?_some h1
      match cs', hlen with
      | [v0, v1, v2, v3], _ =>
        have k0 : w.cell? ((x.add (0 * 4)).add 0) = some v0 := hcell 0 (by decide)
        simpa [Addr.add] using World.cell?_spot k0
    have hex : ∀ i, i < len → ∃ o : NtB, ∃ b off, x = ⟨b, off, none⟩ ∧ NtArg w b (off + i * 4) o ∧ o.2.1 < 18446744073709551616 := by
      intro i hi
      obtain ⟨cs', h1, h2⟩ := hall i (by omega)
      obtain ⟨_, hlen, hcell⟩ := World.cells?_some h1
      match cs', hlen with
      | [v0, v1, v2, v3], _ =>
        obtain ⟨o, rfl, rfl, hs, r1, r2⟩ := nt_of h2
        have k0 : w.cell? ((x.add (i * 4)).add 0) = some (.int .u8 (o.1.toNat : Int)) := hcell 0 (by decide)
        have k1 : w.cell? ((x.add (i * 4)).add 1) = some (.int .u64 (o.2.1 : Int)) := hcell 1 (by decide)
        have k2 : w.cell? ((x.add (i * 4)).add 2) = some v2 := hcell 2 (by decide)
        have k3 : w.cell? ((x.add (i * 4)).add 3) = some v3 := hcell 3 (by decide)
        have hspot := hsp (by omega)
        obtain ⟨b, off, spot⟩ := x
        simp only at hspot
        subst hspot
        simp only [Addr.add_lit] at k0 k1 k2 k3
        exact ⟨o, b, off, rfl, ⟨v2, v3, k0, k1, k2, k3, r1, r2⟩, hs⟩
    obtain ⟨L, hL⟩ := Deep.choose_lt hex
    refine ⟨(List.range len).map L, ⟨some x, m, by simp, by simp; omega, hm, fun j hj => ?_⟩, fun e he => ?_⟩
    · have hj' : j < len := by simpa using hj
      obtain ⟨b, off, rfl, ho, _⟩ := hL j hj'
      exact ⟨b, off, rfl, by simpa using ho⟩
    · obtain ⟨i, hi, rfl⟩ := List.mem_map.1 he
      obtain ⟨_, _, _, _, hs⟩ := hL i (by simpa using hi); exact hs

end Go.Proofs.YtmgofohaoppajaaDoor

/- Rows of entries whose names and ops lie elsewhere; what is replayed, as plain bytes. -/
namespace Go.Proofs.YtmgofohaoppajaaDoor
set_option maxRecDepth 20000
open Go.RowKit
set_option linter.unusedVariables false

def NeO (y : Value) (os : List OpB) (v : Value) : Prop := os = [] ∨ ∃ b off n c, y = .slice (some ⟨b, off, none⟩) n c ∧ some b ≠ v.ownBlock

/-- ops that don't lie in v's own block, they and what they hold -/
def HeldO (w : World) (v y : Value) (os : List OpB) : Prop := LsO (fun w x l => Rd w x l ∧ NeB x l v) w y os ∧ NeO y os v

theorem HeldO.rd {w : World} {v y : Value} {os : List OpB} (h : HeldO w v y os) : RdO w y os := by
  obtain ⟨⟨ao, cap, e, h1, h2, h3⟩, _⟩ := h
  refine ⟨ao, cap, e, h1, h2, fun j hj => ?_⟩
  obtain ⟨b, off, e1, x, z, c0, c1, c2, r1, r2⟩ := h3 j hj
  exact ⟨b, off, e1, x, z, c0, c1, c2, r1.1, r2.1⟩

theorem HeldO.below {C : Nat} {w w' : World} {v y : Value} {os : List OpB} (h : HeldO w v y os) (hb : Below C w w') (hC : w.heap.size ≤ C) : HeldO w' v y os :=
  ⟨h.1.belowR (fun _ _ hr => ⟨hr.1.below hb hC, hr.2⟩) hb hC, h.2⟩

theorem heldO_of {C : Nat} {w : World} {v y : Value} {os : List OpB} (h : RdOF C w y os) (hr : ∀ q, v.ownBlock = some q → q < C) : HeldO w v y os := by
  obtain ⟨⟨ao, cap, e, h1, h2, h3⟩, hf⟩ := h
  refine ⟨⟨ao, cap, e, h1, h2, fun j hj => ?_⟩, ?_⟩
  · obtain ⟨b, off, e1, x, z, c0, c1, c2, r1, r2⟩ := h3 j hj
    exact ⟨b, off, e1, x, z, c0, c1, c2, ⟨r1.1, neb_of r1.2 hr r1.1⟩, ⟨r2.1, neb_of r2.2 hr r2.1⟩⟩
  · by_cases hn : os = []
    · exact .inl hn
    · obtain ⟨b, off, e1, _⟩ := h3 0 (List.length_pos_iff.2 hn)
      subst e1
      refine .inr ⟨b, off, _, _, e, fun e2 => ?_⟩
      have h4 : C ≤ b := hf ⟨b, off, none⟩ _ _ e
      have h5 := hr b e2.symm
      omega

theorem HeldO.grown {w w' : World} {v y : Value} {os : List OpB} {g n c : Nat} (h : HeldO w v y os) (hg : w.grownBy w' v.ownBlock) (hat : v.ownBlock = some g ∨ g = w.heap.size) : HeldO w' (.slice (some ⟨g, 0, none⟩) n c) y os := by
  obtain ⟨⟨ao, cap, e, h1, h2, h3⟩, hf⟩ := h
  refine ⟨⟨ao, cap, e, h1, h2, fun j hj => ?_⟩, ?_⟩
  · obtain ⟨b, off, e1, x, z, c0, c1, c2, r1, r2⟩ := h3 j hj
    have hne : some b ≠ v.ownBlock := by
      rcases hf with h0 | ⟨b', off', n', c', e', hne⟩
      · rw [h0] at hj; simp at hj
      · rw [e1] at e
        rw [e] at e'
        simp only [Value.slice.injEq, Option.some.injEq, Addr.mk.injEq] at e'
        rw [e'.1.1]
        exact hne
    have hlt := World.block_lt_of_cell? w _ c0
    have hk : ∀ i, w'.cell? ⟨b, i, none⟩ = w.cell? ⟨b, i, none⟩ := fun i => World.cell?_of_block (hg.block b hlt hne)
    exact ⟨b, off, e1, x, z, by rw [hk]; exact c0, by rw [hk]; exact c1, by rw [hk]; exact c2, ⟨rd_grown r1.1 hg r1.2, neb_step r1.2 r1.1 hat⟩, ⟨rd_grown r2.1 hg r2.2, neb_step r2.2 r2.1 hat⟩⟩
  · by_cases hn : os = []
    · exact .inl hn
    · obtain ⟨b, off, e1, x, z, c0, _⟩ := h3 0 (List.length_pos_iff.2 hn)
      have hlt := World.block_lt_of_cell? w _ c0
      rcases hf with h0 | ⟨b', off', n', c', e', hne⟩
      · exact .inl h0
      · refine .inr ⟨b', off', n', c', e', ?_⟩
        rw [e1] at e
        rw [e] at e'
        simp only [Value.slice.injEq, Option.some.injEq, Addr.mk.injEq] at e'
        rcases hat with ha | ha
        · rw [ha] at hne; exact hne
        · simp only [Value.ownBlock, ne_eq, Option.some.injEq]
          have hl2 : b < w.heap.size := hlt
          have := e'.1.1
          omega

/-- entries in a row of one's own; what they hold lies elsewhere -/
def OwnH (T : TypeId) (B : Nat) (w : World) (v : Value) (ns : List NtB) : Prop :=
  ∃ cs, w.ownsRow B T 4 v ns.length cs ∧ ∀ j (h : j < ns.length), ∃ x y, cs[j * 4]? = some (.int .u8 (ns[j].1.toNat : Int)) ∧ cs[j * 4 + 1]? = some (.int .u64 (ns[j].2.1 : Int)) ∧ cs[j * 4 + 2]? = some x ∧ cs[j * 4 + 3]? = some y ∧ (Rd w x ns[j].2.2.1 ∧ NeB x ns[j].2.2.1 v) ∧ HeldO w v y ns[j].2.2.2

theorem OwnH.nil (T : TypeId) (B : Nat) (w : World) : OwnH T B w (.slice none 0 0) [] := ⟨[], World.ownsRow_nil _ _ _ _, fun _ h => absurd h (Nat.not_lt_zero _)⟩

theorem OwnH.below {T : TypeId} {B C : Nat} {w w' : World} {v : Value} {ns : List NtB} (h : OwnH T B w v ns) (hb : Below C w w') (hC : w.heap.size ≤ C) : OwnH T B w' v ns := by
  obtain ⟨cs, hr, hj⟩ := h
  have hb' : Below w.heap.size w w' := ⟨hb.os, hb.tape, hb.output, hb.size, fun i hi => hb.block i (Nat.lt_of_lt_of_le hi hC)⟩
  refine ⟨cs, row_below hr hb', fun j h => ?_⟩
  obtain ⟨x, y, c0, c1, c2, c3, ox, oy⟩ := hj j h
  exact ⟨x, y, c0, c1, c2, c3, ⟨ox.1.below hb hC, ox.2⟩, oy.below hb hC⟩

theorem OwnH.rd {T : TypeId} {B : Nat} {w : World} {v : Value} {ns : List NtB} (h : OwnH T B w v ns) : RdN w v ns := by
  obtain ⟨cs, hr, hj⟩ := h
  have hr2 := hr
  rcases hr.2 with ⟨e, hn⟩ | ⟨g, cap, cur, e, hb, hg, h1, h2, h3, h4⟩
  · exact ⟨none, 0, by rw [e, hn], by omega, Nat.zero_le _, fun j hj => by omega⟩
  · subst e
    refine ⟨_, cap, rfl, h1, h2, fun j h => ⟨g, 0, rfl, ?_⟩⟩
    obtain ⟨x, y, c0, c1, c2, c3, ox, oy⟩ := hj j h
    have hc := hr2.cells (g := g) rfl
    refine ⟨x, y, ?_, ?_, ?_, ?_, ox.1, oy.rd⟩
    · have := hc _ _ c0; rwa [Addr.add_lit] at this
    · have := hc _ _ c1; rwa [Addr.add_lit] at this
    · have := hc _ _ c2; rwa [Addr.add_lit] at this
    · have := hc _ _ c3; rwa [Addr.add_lit] at this

theorem own_pushH {T : TypeId} {B g c : Nat} {w w' : World} {v x y : Value} {ns : List NtB} {cs : List Value} (o : NtB) (hrow : w.ownsRow B T 4 v ns.length cs)
    (hel : ∀ j (h : j < ns.length), ∃ x y, cs[j * 4]? = some (.int .u8 (ns[j].1.toNat : Int)) ∧ cs[j * 4 + 1]? = some (.int .u64 (ns[j].2.1 : Int)) ∧ cs[j * 4 + 2]? = some x ∧ cs[j * 4 + 3]? = some y ∧ (Rd w x ns[j].2.2.1 ∧ NeB x ns[j].2.2.1 v) ∧ HeldO w v y ns[j].2.2.2)
    (hx : Rd w x o.2.2.1 ∧ NeB x o.2.2.1 v) (hy : HeldO w v y o.2.2.2) (hn : w'.ownsRow B T 4 (.slice (some ⟨g, 0, none⟩) (ns.length + 1) c) (ns.length + 1) (cs ++ [.int .u8 (o.1.toNat : Int), .int .u64 (o.2.1 : Int), x, y])) (hg : w.grownBy w' v.ownBlock) (hat : v.ownBlock = some g ∨ g = w.heap.size) : OwnH T B w' (.slice (some ⟨g, 0, none⟩) (ns.length + 1) c) (ns ++ [o]) := by
  have hcl : cs.length = ns.length * 4 := hrow.1
  refine ⟨_, by rw [List.length_append]; exact hn, fun j h => ?_⟩
  by_cases hj : j < ns.length
  · obtain ⟨x', y', c0, c1, c2, c3, ox, oy⟩ := hel j hj
    refine ⟨x', y', ?_, ?_, ?_, ?_, ?_, ?_⟩
    · rw [List.getElem?_append_left (by omega), List.getElem_append_left hj]; exact c0
    · rw [List.getElem?_append_left (by omega), List.getElem_append_left hj]; exact c1
    · rw [List.getElem?_append_left (by omega)]; exact c2
    · rw [List.getElem?_append_left (by omega)]; exact c3
    · rw [List.getElem_append_left hj]; exact ⟨rd_grown ox.1 hg ox.2, neb_step ox.2 ox.1 hat⟩
    · rw [List.getElem_append_left hj]; exact oy.grown hg hat
  · have hje : j = ns.length := by rw [List.length_append] at h; simp at h; omega
    subst hje
    have e : (ns ++ [o])[ns.length]'h = o := by simp
    rw [e]
    refine ⟨x, y, ?_, ?_, ?_, ?_, ⟨rd_grown hx.1 hg hx.2, neb_step hx.2 hx.1 hat⟩, hy.grown hg hat⟩
    · rw [List.getElem?_append_right (by omega), show ns.length * 4 - cs.length = 0 by omega]; rfl
    · rw [List.getElem?_append_right (by omega), show ns.length * 4 + 1 - cs.length = 1 by omega]; rfl
    · rw [List.getElem?_append_right (by omega), show ns.length * 4 + 2 - cs.length = 2 by omega]; rfl
    · rw [List.getElem?_append_right (by omega), show ns.length * 4 + 3 - cs.length = 3 by omega]; rfl

/-- the entries of records, up to the first that is none -/
def replayN : List (List UInt8) → List NtB
  | [] => []
  | r :: rs => match noteS r with
    | some n => n :: replayN rs
    | none => []

theorem replayN_some {recs : List (List UInt8)} {ns : List NtB} {j : Nat} {n : NtB} (h : j < recs.length) (he : replayN recs = ns ++ replayN (recs.drop j)) (hn : noteS recs[j] = some n) : replayN recs = (ns ++ [n]) ++ replayN (recs.drop (j + 1)) := by
  rw [he, List.drop_eq_getElem_cons h, replayN, hn]
  simp

theorem replayN_none {recs : List (List UInt8)} {ns : List NtB} {j : Nat} (h : j < recs.length) (he : replayN recs = ns ++ replayN (recs.drop j)) (hn : noteS recs[j] = none) : replayN recs = ns := by
  rw [he, List.drop_eq_getElem_cons h, replayN, hn]
  simp

theorem replayN_end {recs : List (List UInt8)} {ns : List NtB} {j : Nat} (h : ¬ j < recs.length) (he : replayN recs = ns ++ replayN (recs.drop j)) : replayN recs = ns := by
  rw [he, List.drop_eq_nil_of_le (by omega), replayN]
  simp

theorem readG_most : ∀ (n : Nat) (p : List UInt8) (a : Nat) (l : List (List UInt8)), a ≤ p.length → (∀ r ∈ l, r.length ≤ 65536) → (readG n p a l).1.length ≤ l.length + (p.length - a) ∧ ∀ r ∈ (readG n p a l).1, r.length ≤ 65536
  | 0, p, a, l, ha, hl => ⟨by rw [readG]; exact Nat.le_add_right _ _, by rw [readG]; exact hl⟩
  | n + 1, p, a, l, ha, hl => by
    rw [readG]
    cases hr : recAt p a with
    | none => exact ⟨by simp, hl⟩
    | some q =>
      obtain ⟨t, nx⟩ := q
      obtain ⟨h1, h2, h3, h4⟩ := recAt_some hr
      have h5 : a + 7 ≤ nx := by
        unfold recAt at hr
        split at hr
        · cases hr
        · rename_i t' nx' hg
          split at hr
          · simp only [Option.some.injEq, Prod.mk.injEq] at hr
            have := (recG_fits _ _ _ _ _ _ hg).1
            omega
          · cases hr
      have ih := readG_most n p nx (l ++ [t]) h4 (fun r hr' => by
        rcases List.mem_append.1 hr' with h | h
        · exact hl r h
        · simp at h; subst h; exact h1)
      refine ⟨?_, ih.2⟩
      have h6 := ih.1
      rw [List.length_append] at h6
      simp only [List.length_cons, List.length_nil] at h6
      simp only
      omega

theorem readB_most (p : List UInt8) : (readB p).1.length ≤ p.length ∧ ∀ r ∈ (readB p).1, r.length ≤ 65536 := by
  have := readG_most (p.length + 1) p 0 [] (Nat.zero_le _) (by simp)
  unfold readB
  simpa using this

end Go.Proofs.YtmgofohaoppajaaDoor

/- What EntryTorn says, as plain bytes: entries that have bytes, their reel, torn. -/
namespace Go.Proofs.YtmgofohaoppajaaDoor
open Go.RowKit
set_option maxRecDepth 20000
set_option linter.unusedVariables false

/-- an entry that has bytes -/
def fitN (n : NtB) : Bool := rightB (n.1.toNat : Int) (n.2.1 : Int) n.2.2.1.length n.2.2.2.length && decide (chkL n.2.2.2 = 0)

/-- its bytes -/
def bytN (n : NtB) : List UInt8 := noteB n.1.toNat n.2.1 n.2.2.1 n.2.2.2

theorem noteS_bytN {n : NtB} (hk : n.1.toNat ≤ 4) (hs : n.2.1 < 18446744073709551616) (hl : n.2.2.1.length ≤ 32) (h : fitN n = true) : noteS (bytN n) = some n := by
  obtain ⟨k, s, l, os⟩ := n
  unfold fitN at h
  simp only [Bool.and_eq_true, decide_eq_true_eq] at h hk hs hl
  obtain ⟨e1, e2, e3, e4⟩ := noteB_read k.toNat s l os (by omega) hs hl h.2
  unfold noteS bytN
  simp only
  rw [e1]
  simp only
  rw [e2]
  simp only
  rw [e3]
  simp only
  rw [e4]
  simp only
  rw [if_pos ⟨trivial, hk⟩, if_pos trivial, if_pos trivial, if_pos trivial, if_pos h.1]
  simp

theorem replayN_map : ∀ (ns : List NtB), (∀ n ∈ ns, noteS (bytN n) = some n) → replayN (ns.map bytN) = ns
  | [], _ => rfl
  | n :: ns, h => by
    rw [List.map_cons, replayN, h n (List.mem_cons_self ..)]
    simp only
    rw [replayN_map ns (fun m hm => h m (List.mem_cons_of_mem _ hm))]

/-- where the second loop has come to -/
structure TornI (T : List (List UInt8)) (k : Nat) (b : UInt8) (j wh : Nat) : Prop where
  le : wh ≤ j
  ok : wh = 0 ∨ offT T wh < k ∨ (offT T wh = k ∧ b = 0)
  no : ∀ i, wh < i → i ≤ j → ¬ (offT T i < k ∨ (offT T i = k ∧ b = 0))

theorem TornI.start (T : List (List UInt8)) (k : Nat) (b : UInt8) : TornI T k b 0 0 := ⟨Nat.le_refl _, .inl rfl, fun i h1 h2 => by omega⟩

theorem TornI.yes {T : List (List UInt8)} {k : Nat} {b : UInt8} {j wh : Nat} (h : TornI T k b j wh) (hj : offT T (j + 1) < k ∨ (offT T (j + 1) = k ∧ b = 0)) : TornI T k b (j + 1) (j + 1) :=
  ⟨Nat.le_refl _, .inr hj, fun i h1 h2 => by omega⟩

theorem TornI.not {T : List (List UInt8)} {k : Nat} {b : UInt8} {j wh : Nat} (h : TornI T k b j wh) (hj : ¬ (offT T (j + 1) < k ∨ (offT T (j + 1) = k ∧ b = 0))) : TornI T k b (j + 1) wh :=
  ⟨Nat.le_succ_of_le h.le, h.ok, fun i h1 h2 => by
    by_cases e : i = j + 1
    · rw [e]; exact hj
    · exact h.no i h1 (by omega)⟩

/-- WHAT IS REPLAYED OF A LOG THAT IS TORN -/
theorem torn_replay (G : List NtB) (k wh : Nat) (b : UInt8) (hn : ∀ n ∈ G, noteS (bytN n) = some n) (hl : ∀ n ∈ G, (bytN n).length ≤ 65536) (hk : k ≤ (allB (G.map bytN) []).length) (h : TornI (G.map bytN) k b G.length wh) :
    replayN (readB (tornP (allB (G.map bytN) []) k b)).1 = G.take wh := by
  rw [torn_read (G.map bytN) k wh b (fun r hr => by obtain ⟨n, h1, rfl⟩ := List.mem_map.mp hr; exact hl n h1) hk (by rw [List.length_map]; exact h.le) h.ok (fun j h1 h2 => h.no j h1 (by rwa [List.length_map] at h2))]
  rw [← List.map_take, replayN_map _ (fun n h1 => hn n (List.mem_of_mem_take h1))]

end Go.Proofs.YtmgofohaoppajaaDoor

/- bartizanref07.Same. -/
namespace Go.Proofs.YtmgofohaoppajaaDoor
open Go.RowKit
set_option linter.unusedVariables false

theorem k_ne {a b : UInt8} (h : a ≠ b) : ¬ (a.toNat : Int) = (b.toNat : Int) := fun e => h (UInt8.toNat_inj.1 (by omega))

set_option maxHeartbeats 16000000 in
set_option maxRecDepth 20000 in
theorem sament_any (w : World) (va vb : Value) (os ps : List NtB) (r : Bool) (ha : RdN w va os) (hb : RdN w vb ps) (hr : os = ps ↔ r = true) :
    Calls Tryd.prog 15 #[va, vb] w fun e w' => e = .returned (.bool r) ∧ ∃ n, w' = w.drewN n := by
  obtain ⟨ao, ac, rfl, h1, h2, h3⟩ := ha
  obtain ⟨bo, bc, rfl, g1, g2, g3⟩ := hb
  unfold maxLen at h2 g2
  have H3 : Hid _ := h3
  have G3 : Hid _ := g3
  have HR : Hid _ := hr
  clear h3 g3 hr
  by_cases hl : os.length = ps.length
  · have HL : Hid _ := hl
    obtain ⟨n, hn⟩ : ∃ n, os.length = n := ⟨_, rfl⟩
    rw [hn] at hl h1 ⊢
    rw [← hl] at g1 ⊢
    have HN : Hid _ := hn
    clear hn hl
    go_enter Tryd.func15, Tryd.ntmps15
    go_wp2_with fail
    go_loopg [13] n (fun gk iv wr => ∃ j m : Nat, gk + j = n ∧ iv = .int .i64 (j : Int) ∧ wr = w.drewN m ∧ os.take j = ps.take j)
    case atStart => exact ⟨0, 0, rfl, rfl, rfl, by simp⟩
    case round =>
      obtain ⟨j, m, hj, rfl, hwr, ht⟩ := hrel
      have HW : Hid (∀ n, wr.drewN n = w.drewN (m + n)) := by intro n; rw [hwr]; exact World.drewN_drewN _ _ _
      have HW0 : Hid _ := hwr
      have HT : Hid _ := ht
      clear ht
      by_cases hlt : j < n
      · have hlo : j < os.length := by rw [HN.out]; exact hlt
        have hlp : j < ps.length := by rw [← HL.out, HN.out]; exact hlt
        obtain ⟨b, off, rfl, xv, yv, c0, c1, c2, c3, rx, ry⟩ := H3.out j hlo
        obtain ⟨b', off', rfl, xv', yv', d0, d1, d2, d3, rx', ry'⟩ := G3.out j hlp
        obtain ⟨⟨ok, osq, ol, oo⟩, ho⟩ : ∃ o, os[j] = o := ⟨_, rfl⟩
        obtain ⟨⟨pk, psq, pl, po⟩, hp⟩ : ∃ o, ps[j] = o := ⟨_, rfl⟩
        rw [ho] at c0 c1 rx ry
        rw [hp] at d0 d1 rx' ry'
        simp only at c0 c1 rx ry d0 d1 rx' ry'
        have e0 : ∀ p, w.cell? p = wr.cell? p := by intro p; rw [hwr]; rfl
        have e1 : ∀ v l, Rd w v l → Rd wr v l := by rw [hwr]; exact fun _ _ h => h
        have e2 : ∀ v l, RdO w v l → RdO wr v l := by rw [hwr]; exact fun _ _ h => h
        rw [e0] at c0 c1 c2 c3 d0 d1 d2 d3
        replace rx := e1 _ _ rx
        replace rx' := e1 _ _ rx'
        replace ry := e2 _ _ ry
        replace ry' := e2 _ _ ry'
        clear e0 e1 e2
        clear hwr
        have HO : Hid (os[j] = (ok, osq, ol, oo)) := ho
        have HP : Hid (ps[j] = (pk, psq, pl, po)) := hp
        clear ho hp
        obtain ⟨q, hq⟩ : ∃ q, (ol == pl) = q := ⟨_, rfl⟩
        have HQ : Hid _ := hq
        obtain ⟨q2, hq2⟩ : ∃ q2, decide (oo = po) = q2 := ⟨_, rfl⟩
        have HQ2 : Hid _ := hq2
        clear hq hq2
        by_cases hk : ok = pk
        · subst hk
          by_cases hs : osq = psq
          · subst hs
            cases q
            · skip
              have hno : Hid (r = false) := by
                show _ = _
                rw [← Bool.not_eq_true]
                intro hrt
                have heq := HR.out.2 hrt
                subst heq
                have e := HO.out.symm.trans HP.out
                simp only [Prod.mk.injEq] at e
                have := HQ.out
                rw [e.2.2.1] at this
                simp at this
              go_wp2_with fail
              go_quiet (first
                | (go_at_call 11; refine Calls.quiet_of (same_q _ _ _ ol pl false (by exact rx) (by exact rx') HQ.out)))
              go_wp2
              go_ret
              exact ⟨retBo (by rw [hno.out]), _, HW.out _⟩
            · cases q2
              · skip
                have hno : Hid (r = false) := by
                  show _ = _
                  rw [← Bool.not_eq_true]
                  intro hrt
                  have heq := HR.out.2 hrt
                  subst heq
                  have e := HO.out.symm.trans HP.out
                  simp only [Prod.mk.injEq] at e
                  have := HQ2.out
                  rw [e.2.2.2] at this
                  simp at this
                go_wp2_with fail
                go_quiet (first
                  | (go_at_call 11; refine Calls.quiet_of (same_q _ _ _ ol pl true (by exact rx) (by exact rx') HQ.out))
                  | (go_at_call 31; refine Calls.quiet_of (sameops_any _ _ _ oo po false (by exact ry) (by exact ry') HQ2.out)))
                go_wp2
                go_ret
                exact ⟨retBo (by rw [hno.out]), _, HW.out _⟩
              · have hyes : Hid (os.take (j + 1) = ps.take (j + 1)) := by
                  show _ = _
                  rw [List.take_succ_eq_append_getElem hlo, List.take_succ_eq_append_getElem hlp, HT.out, HO.out, HP.out, eq_of_beq HQ.out, of_decide_eq_true HQ2.out]
                go_wp2_with fail
                go_quiet (first
                  | (go_at_call 11; refine Calls.quiet_of (same_q _ _ _ ol pl true (by exact rx) (by exact rx') HQ.out))
                  | (go_at_call 31; refine Calls.quiet_of (sameops_any _ _ _ oo po true (by exact ry) (by exact ry') HQ2.out)))
                go_wp2
                go_roundg (gk - 1)
                case measure => omega
                case rel => exact ⟨j + 1, _, by omega, by go_num, HW.out _, hyes.out⟩
          · have hsI : ¬ (osq : Int) = (psq : Int) := by omega
            have hsq : decide ((osq : Int) = (psq : Int)) = false := decide_eq_false hsI
            have hsq2 : ((osq : Int) != (psq : Int)) = true := by simp [hsI]
            clear HQ HQ2 rx rx' ry ry'
            have hno : Hid (r = false) := by
              show _ = _
              rw [← Bool.not_eq_true]
              intro hrt
              have heq := HR.out.2 hrt
              subst heq
              have e := HO.out.symm.trans HP.out
              simp only [Prod.mk.injEq] at e
              exact hs e.2.1
            go_wp2_with fail
            go_quiet (fail)
            go_wp2
            go_ret
            exact ⟨retBo (by rw [hno.out]), _, HW.out _⟩
        · have hkI := k_ne hk
          have hkq : decide ((ok.toNat : Int) = (pk.toNat : Int)) = false := decide_eq_false hkI
          have hkq2 : ((ok.toNat : Int) != (pk.toNat : Int)) = true := by simp [hkI]
          clear HQ HQ2 rx rx' ry ry'
          have hno : Hid (r = false) := by
            show _ = _
            rw [← Bool.not_eq_true]
            intro hrt
            have heq := HR.out.2 hrt
            subst heq
            have e := HO.out.symm.trans HP.out
            simp only [Prod.mk.injEq] at e
            exact hk e.1
          go_wp2_with fail
          go_quiet (fail)
          go_wp2
          go_ret
          exact ⟨retBo (by rw [hno.out]), _, HW.out _⟩
      · obtain rfl : j = n := by omega
        have hyes : Hid (r = true) := by
          show _ = _
          apply HR.out.1
          have e := HT.out
          rw [List.take_of_length_le (by rw [HN.out]; omega), List.take_of_length_le (by rw [← HL.out, HN.out]; omega)] at e
          exact e
        clear hwr
        go_wp2
        go_ret
        exact ⟨retBo (by rw [hyes.out]), _, HW0.out⟩
  · have hno : Hid (r = false) := by
      show _ = _
      rw [← Bool.not_eq_true]
      intro hrt
      exact hl (by rw [HR.out.2 hrt])
    obtain ⟨n, hn⟩ : ∃ n, os.length = n := ⟨_, rfl⟩
    obtain ⟨m, hm⟩ : ∃ n, ps.length = n := ⟨_, rfl⟩
    rw [hn, hm] at hl ⊢
    have hI : ¬ (n : Int) = (m : Int) := by omega
    have hbq : ((n : Int) == (m : Int)) = false := by simpa using hI
    clear hn hm hl h1 h2 g1 g2
    go_enter Tryd.func15, Tryd.ntmps15
    go_wp2
    go_ret
    exact ⟨retBo (by rw [hno.out]), 0, rfl⟩

end Go.Proofs.YtmgofohaoppajaaDoor

/- The document's example of entries. -/
namespace Go.Proofs.YtmgofohaoppajaaDoor
open Go.RowKit
set_option linter.unusedVariables false

theorem rd_mark1 (w : World) (b : UInt8) (i : Int) (hi : (b.toNat : Int) = i) : Rd (w.alloc (.cells #[.int .u8 i] 5 (1, 2))) (.slice (some ⟨w.heap.size, 0, none⟩) 1 1) [b] := by
  refine .inr ⟨w.heap.size, 0, 1, rfl, by simp, by simp [maxLen], fun j u hu => ?_⟩
  rw [World.cell?_alloc_mark]
  subst hi
  have hj : j = 0 := by have := (List.getElem?_eq_some_iff.1 hu).1; simp [bv] at this; omega
  subst hj
  simpa [bv] using hu

theorem conv_mark1 (w : World) (i : Int) (g : Nat) (hg : g = w.heap.size) : (convert 26 26 (.slice (some ⟨g, 0, none⟩) 1 1)).run Tryd.prog (w.alloc (.cells #[.int .u8 i] 5)) = .ok (.slice (some ⟨g, 0, none⟩) 1 1) (w.alloc (.cells #[.int .u8 i] 5 (1, 2))) :=
  Joins.run_convert_bytes_const_at w 26 5 _ 1 1 g hg Tryd.underlying26 Tryd.underlying5

theorem eex1 : noteB 3 5 [97] [] = [3, 5, 1, 97, 0] := by decide +kernel
theorem eex2 : rightB ((3 : Nat) : Int) ((5 : Nat) : Int) 1 0 = true := by decide +kernel
theorem eex3 : chkL [] = 0 := by decide +kernel

theorem five_row (w : World) (B : Nat) (hB : B ≤ w.heap.size) (a b c d e : UInt8) : (w.alloc (.cells #[.int .u8 (a.toNat : Int), .int .u8 (b.toNat : Int), .int .u8 (c.toNat : Int), .int .u8 (d.toNat : Int), .int .u8 (e.toNat : Int)] 5)).ownsRow B 5 1 (.slice (some ⟨w.heap.size, 0, none⟩) 5 5) 5 (bv [a, b, c, d, e]) :=
  World.ownsRow_lit w #[.int .u8 (a.toNat : Int), .int .u8 (b.toNat : Int), .int .u8 (c.toNat : Int), .int .u8 (d.toNat : Int), .int .u8 (e.toNat : Int)] 5 hB (by simp [maxLen]) rfl

set_option maxHeartbeats 2000000 in
set_option maxRecDepth 20000 in
theorem eawake_any (w : World) : Calls Tryd.prog 6 #[] w fun e w' => e = .returned (.bool true) ∧ Below w.heap.size w w' := by
  have h1 : Below w.heap.size w (w.alloc (.cells #[.int .u8 97] 5 (1, 2))) := below_box4 w _
  have r1 := rd_mark1 w 97 97 rfl
  have k1 := conv_mark1 w 97 w.heap.size rfl
  have heb := ebytes_ok (w.alloc (.cells #[.int .u8 97] 5 (1, 2))) 3 5 (some ⟨w.heap.size, 0, none⟩) 1 1 none 0 0 [97] [] (by omega) (by omega) eex2 r1 (by decide) (LsO.nil _) eex3 (by decide) (by decide)
  rw [eex1] at heb
  have e3 : ((3 : Nat) : Int) = 3 := rfl
  have e5 : ((5 : Nat) : Int) = 5 := rfl
  rw [e3, e5] at heb
  clear r1 e3 e5
  go_enter Tryd.func6, Tryd.ntmps6
  go_wp2_with fail
  refine heb.mono ?_
  rintro e wp ⟨p, rfl, op, hb⟩
  obtain ⟨gp, kp, hp⟩ := op.shape
  subst hp
  have hB := h1.trans (hb.mono h1.size)
  have hlit := (Own.of_row (l := [3, 5, 1, 97, 0]) (five_row wp wp.heap.size (Nat.le_refl _) 3 5 1 97 0) (by simp)).rd
  have op2 := op.rd.below (below_box4 wp (.cells #[.int .u8 ((3 : UInt8).toNat : Int), .int .u8 ((5 : UInt8).toNat : Int), .int .u8 ((1 : UInt8).toNat : Int), .int .u8 ((97 : UInt8).toNat : Int), .int .u8 ((0 : UInt8).toNat : Int)] 5)) (Nat.le_refl _)
  have hsm := same_b _ _ _ _ _ true op2 hlit (by decide)
  have hB2 := hB.alloc hB.size (.cells #[.int .u8 ((3 : UInt8).toNat : Int), .int .u8 ((5 : UInt8).toNat : Int), .int .u8 ((1 : UInt8).toNat : Int), .int .u8 ((97 : UInt8).toNat : Int), .int .u8 ((0 : UInt8).toNat : Int)] 5)
  rw [show ((3 : UInt8).toNat : Int) = 3 from rfl, show ((5 : UInt8).toNat : Int) = 5 from rfl, show ((1 : UInt8).toNat : Int) = 1 from rfl, show ((97 : UInt8).toNat : Int) = 97 from rfl, show ((0 : UInt8).toNat : Int) = 0 from rfl] at hsm hB2
  clear h1 hb heb k1 op hlit op2 hB
  go_wp2_with fail
  refine hsm.mono ?_
  rintro e w5 ⟨rfl, rfl⟩
  go_wp2
  go_ret
  exact ⟨rfl, hB2⟩

end Go.Proofs.YtmgofohaoppajaaDoor

/- EntryBytes answers true. -/
namespace Go.Proofs.YtmgofohaoppajaaDoor
open Go.RowKit
set_option linter.unusedVariables false

theorem OwnNt.mono' {B C : Nat} {w : World} {v : Value} {ns : List NtB} (h : OwnNt B w v ns) (hC : C ≤ B) : OwnNt C w v ns := by
  obtain ⟨cs, hr, hj⟩ := h
  refine ⟨cs, ⟨hr.1, hr.2.imp id (fun ⟨g, cap, cur, a, b, c⟩ => ⟨g, cap, cur, a, Nat.le_trans hC b, c⟩)⟩, fun j h => ?_⟩
  obtain ⟨x, y, c0, c1, c2, c3, ox, oy⟩ := hj j h
  exact ⟨x, y, c0, c1, c2, c3, ox.mono hC, oy.mono hC⟩

theorem argN_one (w : World) (n : NtB) (k s : Int) (x y : Value) (hk : (n.1.toNat : Int) = k) (hs : (n.2.1 : Int) = s) (hx : Arg w x n.2.2.1) (hy : ArgO w y n.2.2.2) (t : TypeId) :
    ArgN (w.alloc (.cells #[.int .u8 k, .int .u64 s, x, y] t)) (.slice (some ⟨w.heap.size, 0, none⟩) 1 1) [n] := by
  subst hk hs
  have hb := below_box4 w (.cells #[.int .u8 (n.1.toNat : Int), .int .u64 (n.2.1 : Int), x, y] t)
  have b := box4_new w (.int .u8 (n.1.toNat : Int)) (.int .u64 (n.2.1 : Int)) x y t
  refine ⟨_, 1, rfl, by simp, by simp [maxLen], fun j h => ?_⟩
  have hj : j = 0 := by simp at h; omega
  subst hj
  exact ⟨w.heap.size, 0, rfl, x, y, b.c0, b.c1, b.c2, b.c3, hx.below hb (Nat.le_refl _), LsO.belowA hy hb (Nat.le_refl _)⟩

theorem few_one' (n : NtB) : fewN 1 [n] = [cutN n] := rfl

theorem fewO_most (os : List OpB) : sizeO (fewO 66 os) ≤ 44880 := by
  have h1 : ∀ l : List OpB, sizeO (l.map cutOp) ≤ 680 * l.length := by
    intro l
    induction l with
    | nil => simp [sizeO]
    | cons o l ih =>
      have e : sizeO ((o :: l).map cutOp) = (o.2.1.take 80).length + (o.2.2.take 600).length + sizeO (l.map cutOp) := by simp [sizeO, cutOp]
      have h80 := List.length_take_le 80 o.2.1
      have h600 := List.length_take_le 600 o.2.2
      rw [e, List.length_cons]
      omega
  unfold fewO
  have h2 := h1 (os.take 66)
  have h3 := List.length_take_le 66 os
  omega

theorem ntrow_one' {B : Nat} {w : World} {v : Value} {n : NtB} (h : OwnNt B w v [n]) : ∃ g c na nc oa oc, v = .slice (some ⟨g, 0, none⟩) 1 c ∧ 1 ≤ c ∧ w.cell? ⟨g, 0, none⟩ = some (.int .u8 (n.1.toNat : Int)) ∧ w.cell? ⟨g, 1, none⟩ = some (.int .u64 (n.2.1 : Int)) ∧ w.cell? ⟨g, 2, none⟩ = some (.slice na n.2.2.1.length nc) ∧ w.cell? ⟨g, 3, none⟩ = some (.slice oa n.2.2.2.length oc) ∧ Rd w (.slice na n.2.2.1.length nc) n.2.2.1 ∧ RdO w (.slice oa n.2.2.2.length oc) n.2.2.2 := by
  obtain ⟨cs, hr, hj⟩ := h
  obtain ⟨x, y, c0, c1, c2, c3, ox, oy⟩ := hj 0 (by simp)
  have hr2 := hr
  rcases hr.2 with ⟨e, hn⟩ | ⟨g, cap, cur, e, hb, hg, h1, h2, h3, h4⟩
  · simp at hn
  · subst e
    have hc := hr2.cells (g := g) rfl
    obtain ⟨xa, xc, rfl⟩ := ox.rd.len
    obtain ⟨ya, yc, rfl⟩ := ownO_shape oy
    refine ⟨g, cap, _, _, _, _, rfl, by simpa using h1, ?_, ?_, ?_, ?_, ox.rd, oy.rd⟩
    · have := hc _ _ c0; rwa [Addr.add_lit] at this
    · have := hc _ _ c1; rwa [Addr.add_lit] at this
    · have := hc _ _ c2; rwa [Addr.add_lit] at this
    · have := hc _ _ c3; rwa [Addr.add_lit] at this

theorem chk_most {os : List OpB} (h : chkL os = 0) : os.length ≤ 64 := by
  unfold chkL at h
  split at h
  · cases h
  · omega

end Go.Proofs.YtmgofohaoppajaaDoor

/- entry.Replay; bartizanlaw07.back. -/
namespace Go.Proofs.YtmgofohaoppajaaDoor
set_option maxRecDepth 20000
open Go.RowKit
set_option linter.unusedVariables false

theorem infoNoteE : (Tryd.prog.info? 54).map (fun i => (i.zero, i.size, i.bytes)) = some (some (.agg #[.int .u8 0, .int .u64 0, .slice none 0 0, .slice none 0 0]), 4, 64) := by kernel_rfl

theorem OwnH.lt {T : TypeId} {B : Nat} {w : World} {v : Value} {ns : List NtB} (h : OwnH T B w v ns) : ∀ q, v.ownBlock = some q → B ≤ q ∧ q < w.heap.size := by
  obtain ⟨cs, hr, _⟩ := h
  exact fun q hq => hr.lt q hq

theorem own_pushJ {T : TypeId} {B g c j : Nat} {w w' : World} {v x y : Value} {ns : List NtB} {cs : List Value} {k s : Nat} (o : NtB) (hl : ns.length = j) (hk : o.1.toNat = k) (hs : o.2.1 = s) (hrow : w.ownsRow B T 4 v j cs)
    (hel : ∀ j (h : j < ns.length), ∃ x y, cs[j * 4]? = some (.int .u8 (ns[j].1.toNat : Int)) ∧ cs[j * 4 + 1]? = some (.int .u64 (ns[j].2.1 : Int)) ∧ cs[j * 4 + 2]? = some x ∧ cs[j * 4 + 3]? = some y ∧ (Rd w x ns[j].2.2.1 ∧ NeB x ns[j].2.2.1 v) ∧ HeldO w v y ns[j].2.2.2)
    (hx : Rd w x o.2.2.1 ∧ NeB x o.2.2.1 v) (hy : HeldO w v y o.2.2.2) (hn : w'.ownsRow B T 4 (.slice (some ⟨g, 0, none⟩) (j + 1) c) (j + 1) (cs ++ [.int .u8 (k : Int), .int .u64 (s : Int), x, y])) (hg : w.grownBy w' v.ownBlock) (hat : v.ownBlock = some g ∨ g = w.heap.size) : OwnH T B w' (.slice (some ⟨g, 0, none⟩) (j + 1) c) (ns ++ [o]) := by
  subst hl hk hs
  exact own_pushH o hrow hel hx hy hn hg hat

/-- the row of entries, as far as it has come -/
structure RepI (T : TypeId) (w1 wr : World) (pv : Value) (recs : List (List UInt8)) (ns : List NtB) (j : Nat) : Prop where
  ow : OwnH T w1.heap.size wr pv ns
  nl : ns.length = j
  eq : replayN recs = ns ++ replayN (recs.drop j)
  be : Below w1.heap.size w1 wr

theorem rep_bd {j : Nat} (h : j ≤ 1000000) : j + 1 ≤ maxLen ∧ (j + 1) * 64 ≤ 140737488355328 := by unfold maxLen; omega

set_option maxHeartbeats 4000000 in
theorem replay_any (w : World) (v : Value) (p : List UInt8) (hv : Rd w v p) (hvb : ∀ b, v.ownBlock = some b → b < w.heap.size) (hp : p.length ≤ 1000000) (hT : Tab w) :
    Calls Tryd.prog 13 #[v] w fun o w' => ∃ y, o = .returned (.tuple #[y, .int .i64 ((replayN (readB p).1).length : Int)]) ∧ RdN w' y (replayN (readB p).1) ∧ Below w.heap.size w w' := by
  obtain ⟨i0, hi, hz0, hz1, hz2⟩ := info_parts infoNoteE
  have hrd := read_any w v p hv hvb hp hT
  obtain ⟨hm1, hm2⟩ := readB_most p
  obtain ⟨recs, hrecs⟩ : ∃ recs, (readB p).1 = recs := ⟨_, rfl⟩
  rw [hrecs] at hm1 hm2 ⊢
  have HR : Hid ((readB p).1 = recs) := hrecs
  obtain ⟨ao, cap, rfl⟩ := hv.len
  have HM : Hid (recs.length ≤ 1000000 ∧ ∀ r ∈ recs, r.length ≤ 1000000) := ⟨by omega, fun r hr => by have := hm2 r hr; omega⟩
  clear hm1 hm2 hrecs hv hvb hT
  go_enter Tryd.func13, Tryd.ntmps13
  go_wp2_with fail
  refine hrd.mono ?_
  rintro o w1 ⟨hb1, y, rfl, oy⟩
  rw [HR.out] at oy
  obtain ⟨ra, rc, e', r1, r2, r3⟩ := oy.rd.places
  subst e'
  have H3 : Hid _ := r3
  obtain ⟨N, hN⟩ : ∃ N, recs.length = N := ⟨_, rfl⟩
  have HN : Hid (recs.length = N) := hN
  rw [hN] at r1 ⊢
  have HB1 : Hid (Below w.heap.size w w1) := hb1
  clear hrd r3 hN oy hb1
  go_wp2_with fail
  go_loopg [4, 18] N (fun gk pv iv wr => ∃ (j : Nat) (ns : List NtB) (a' : Option Addr) (c' : Nat), gk + j = N ∧ iv = .int .i64 (j : Int) ∧ pv = .slice a' j c' ∧ Hid (RepI 54 w1 wr pv recs ns j))
  case atStart => exact ⟨0, [], none, 0, by omega, rfl, rfl, ⟨OwnH.nil _ _ _, rfl, by simp, Below.refl _ _⟩⟩
  case round =>
    obtain ⟨j, ns, a', c', hj, rfl, rfl, HI⟩ := hrel
    by_cases hlt : j < N
    · have hlt2 : j < recs.length := by rw [HN.out]; exact hlt
      obtain ⟨bb, off, rfl, u, hu, hru⟩ := H3.out j hlt2
      have hur := (HI.out.be.cell (p := ⟨bb, off + j, none⟩) (World.block_lt_of_cell? w1 _ hu)).trans hu
      have hrur := hru.below HI.out.be (Nat.le_refl _)
      obtain ⟨ua, uc, rfl⟩ := hrur.len
      have her := eread_any wr _ recs[j] hrur (HM.out.2 _ (List.getElem_mem hlt2))
      obtain ⟨q1, q2⟩ := gk_nxt hj hlt
      obtain ⟨rl, hrl⟩ : ∃ rl, (recs[j]).length = rl := ⟨_, rfl⟩
      rw [hrl] at hur her
      cases hq : noteS recs[j] with
      | none =>
        rw [hq] at her
        have HF : Hid (replayN recs = ns) := replayN_none hlt2 HI.out.eq hq
        clear hu hru hrur hq hrl
        go_wp2_with fail
        refine her.mono ?_
        rintro o w2 ⟨hb2, rfl⟩
        have HB2 : Hid (Below wr.heap.size wr w2) := hb2
        have hbx := below_box4 w2 (.cells #[.int .u8 0, .int .u64 0, .slice none 0 0, .slice none 0 0] 54)
        have HBX : Hid (Below w2.heap.size w2 (w2.alloc (.cells #[.int .u8 0, .int .u64 0, .slice none 0 0, .slice none 0 0] 54))) := hbx
        clear her hb2 hbx
        go_wp2
        go_ret2
        refine ⟨.slice a' j c', by rw [HF.out, HI.out.nl]; rfl, ?_, ?_⟩
        · rw [HF.out]
          exact ((HI.out.ow.below HB2.out (Nat.le_refl _)).below HBX.out (Nat.le_refl _)).rd
        · have h8 := HI.out.be.trans (HB2.out.mono HI.out.be.size)
          have h9 := h8.trans (HBX.out.mono h8.size)
          exact HB1.out.trans (h9.mono HB1.out.size)
      | some n =>
        rw [hq] at her
        have HF : Hid (replayN recs = (ns ++ [n]) ++ replayN (recs.drop (j + 1))) := replayN_some hlt2 HI.out.eq hq
        obtain ⟨k, hk⟩ : ∃ k, n.1.toNat = k := ⟨_, rfl⟩
        obtain ⟨s, hs⟩ : ∃ s, n.2.1 = s := ⟨_, rfl⟩
        have HK : Hid (n.1.toNat = k ∧ n.2.1 = s) := ⟨hk, hs⟩
        have HJ : Hid (j ≤ 1000000) := by show j ≤ _; have := HM.out.1; omega
        clear hu hru hrur hq hrl
        go_wp2_with fail
        refine her.mono ?_
        rintro o w2 ⟨hb2, xn, yo, rfl, rx, ry⟩
        rw [hk, hs]
        obtain ⟨xa, xc, rfl⟩ := rx.1.len
        obtain ⟨ya, yc, rfl⟩ := rdo_shape ry.rd
        have hlow : ∀ q, (Value.slice a' j c').ownBlock = some q → q < wr.heap.size + 1 := fun q hq => Nat.lt_succ_of_lt (HI.out.ow.lt q hq).2
        have hO2 := HI.out.ow.below hb2 (Nat.le_refl _)
        have hB2 := HI.out.be.trans (hb2.mono HI.out.be.size)
        have hbx := below_box4 w2 (.cells #[.int .u8 (k : Int), .int .u64 (s : Int), .slice xa n.2.2.1.length xc, .slice ya n.2.2.2.length yc] 54)
        obtain ⟨z0, z1, z2, z3⟩ := box4_new w2 (.int .u8 (k : Int)) (.int .u64 (s : Int)) (.slice xa n.2.2.1.length xc) (.slice ya n.2.2.2.length yc) 54
        have hbx2 := below_box4 (w2.alloc (.cells #[.int .u8 (k : Int), .int .u64 (s : Int), .slice xa n.2.2.1.length xc, .slice ya n.2.2.2.length yc] 54)) (.cells #[.int .u8 (k : Int), .int .u64 (s : Int), .slice xa n.2.2.1.length xc, .slice ya n.2.2.2.length yc] 54)
        have hlit := laid4 (w2.alloc (.cells #[.int .u8 (k : Int), .int .u64 (s : Int), .slice xa n.2.2.1.length xc, .slice ya n.2.2.2.length yc] 54)) (.int .u8 (k : Int)) (.int .u64 (s : Int)) (.slice xa n.2.2.1.length xc) (.slice ya n.2.2.2.length yc) 54
        rw [show (w2.alloc (.cells #[.int .u8 (k : Int), .int .u64 (s : Int), .slice xa n.2.2.1.length xc, .slice ya n.2.2.2.length yc] 54)).heap.size = w2.heap.size + 1 by simp] at hlit
        have hOe := (hO2.below hbx (Nat.le_refl _)).below hbx2 (Nat.le_refl _)
        have hBe := (hB2.trans (hbx.mono hB2.size)).trans (hbx2.mono (Nat.le_trans hB2.size hbx.size))
        have hxe : Rd _ (.slice xa n.2.2.1.length xc) n.2.2.1 ∧ NeB (.slice xa n.2.2.1.length xc) n.2.2.1 (.slice a' j c') := ⟨(rx.1.below hbx (Nat.le_refl _)).below hbx2 (Nat.le_refl _), neb_of rx.2 hlow rx.1⟩
        have hye := ((heldO_of ry hlow).below hbx (Nat.le_refl _)).below hbx2 (Nat.le_refl _)
        obtain ⟨cs, hrow, hel⟩ := hOe
        rw [HI.out.nl] at hrow
        have hse := hBe.size
        have HBE : Hid _ := hBe
        have HXE : Hid _ := hxe
        have HYE : Hid _ := hye
        have HEL : Hid _ := hel
        have HRW : Hid _ := hrow
        clear her hb2 rx ry hO2 hB2 hbx hbx2 hBe hxe hye hel hk hs hlow
        go_wp2_with (first | (at_builtin; refine wpList_append_lies _ rfl (.tmp 29) (.tmp 31) 30 rfl w1.heap.size 54 i0 (.agg #[.int .u8 0, .int .u64 0, .slice none 0 0, .slice none 0 0]) 4 64 Tryd.underlying30 hi hz0 hz1 hz2 rfl (by decide) (.slice a' j c') j cs rfl hrow ⟨w2.heap.size + 1, 0, none⟩ 1 1 [.int .u8 (k : Int), .int .u64 (s : Int), .slice xa n.2.2.1.length xc, .slice ya n.2.2.2.length yc] rfl rfl hlit (one4 _ _ _ _ _ _ _ _) (by decide) (rep_bd HJ.out).1 (rep_bd HJ.out).2 hse _ rfl ?_; intro g4 c4 w4 hown hgrow hat hlt4; have HI4 : Hid (RepI 54 w1 w4 (.slice (some ⟨g4, 0, none⟩) (j + 1) c4) recs (ns ++ [n]) (j + 1)) := ⟨own_pushJ n HI.out.nl HK.out.1 HK.out.2 HRW.out HEL.out HXE.out HYE.out hown hgrow hat, (by rw [List.length_append, HI.out.nl]; rfl), HF.out, HBE.out.grown hgrow HBE.out.size (fun k' e => (hrow.lt k' e).1)⟩; clear hown hgrow hat hlt4) | fail)
        clear hrow hlit z0 z1 z2 z3 hse
        go_roundg (gk - 1)
        case measure => exact q1
        case rel => exact ⟨j + 1, ns ++ [n], _, c4, q2, by go_num, rfl, HI4⟩
    · have hjI : ¬ (j : Int) < (N : Int) := by omega
      have HF : Hid (replayN recs = ns) := replayN_end (by rw [HN.out]; exact hlt) HI.out.eq
      go_wp2
      go_ret2
      exact ⟨.slice a' j c', by rw [HF.out, HI.out.nl]; rfl, by rw [HF.out]; exact HI.out.ow.rd, HB1.out.trans (HI.out.be.mono HB1.out.size)⟩

end Go.Proofs.YtmgofohaoppajaaDoor

/- bartizanlaw07.back. -/
namespace Go.Proofs.YtmgofohaoppajaaDoor
set_option maxRecDepth 20000
open Go.RowKit
set_option linter.unusedVariables false

/-- a row of entries of one's own, as far as it has come; what they hold lies in w -/
structure BckI (T : TypeId) (w wr : World) (pv : Value) (ns : List NtB) (j : Nat) : Prop where
  ow : ∃ cs, wr.ownsRow w.heap.size T 4 pv j cs ∧ ∀ i (h : i < j) (h2 : i < ns.length), ∃ x y, cs[i * 4]? = some (.int .u8 (ns[i].1.toNat : Int)) ∧ cs[i * 4 + 1]? = some (.int .u64 (ns[i].2.1 : Int)) ∧ cs[i * 4 + 2]? = some x ∧ cs[i * 4 + 3]? = some y ∧ Rd w x ns[i].2.2.1 ∧ RdO w y ns[i].2.2.2
  be : Below w.heap.size w wr

theorem BckI.rd {T : TypeId} {w wr : World} {pv : Value} {ns : List NtB} (h : BckI T w wr pv ns ns.length) : RdN wr pv ns := by
  obtain ⟨⟨cs, hr, hj⟩, hb⟩ := h
  have hr2 := hr
  rcases hr.2 with ⟨e, hn⟩ | ⟨g, cap, cur, e, hb', hg, h1, h2, h3, h4⟩
  · exact ⟨none, 0, by rw [e, hn], by omega, Nat.zero_le _, fun j hj => by omega⟩
  · subst e
    refine ⟨_, cap, rfl, h1, h2, fun j h => ⟨g, 0, rfl, ?_⟩⟩
    obtain ⟨x, y, c0, c1, c2, c3, ox, oy⟩ := hj j h h
    have hc := hr2.cells (g := g) rfl
    refine ⟨x, y, ?_, ?_, ?_, ?_, ox.below hb (Nat.le_refl _), LsO.below oy hb (Nat.le_refl _)⟩
    · have := hc _ _ c0; rwa [Addr.add_lit] at this
    · have := hc _ _ c1; rwa [Addr.add_lit] at this
    · have := hc _ _ c2; rwa [Addr.add_lit] at this
    · have := hc _ _ c3; rwa [Addr.add_lit] at this

theorem BckI.push {T : TypeId} {w wr we w4 : World} {pv x y : Value} {ns : List NtB} {j g c k s : Nat} {cs : List Value} (hj : j < ns.length) (hk : ns[j].1.toNat = k) (hs : ns[j].2.1 = s) (hel : ∀ i (h : i < j) (h2 : i < ns.length), ∃ x y, cs[i * 4]? = some (.int .u8 (ns[i].1.toNat : Int)) ∧ cs[i * 4 + 1]? = some (.int .u64 (ns[i].2.1 : Int)) ∧ cs[i * 4 + 2]? = some x ∧ cs[i * 4 + 3]? = some y ∧ Rd w x ns[i].2.2.1 ∧ RdO w y ns[i].2.2.2)
    (hrow : we.ownsRow w.heap.size T 4 pv j cs) (hx : Rd w x ns[j].2.2.1) (hy : RdO w y ns[j].2.2.2) (hbe : Below w.heap.size w we) (hn : w4.ownsRow w.heap.size T 4 (.slice (some ⟨g, 0, none⟩) (j + 1) c) (j + 1) (cs ++ [.int .u8 (k : Int), .int .u64 (s : Int), x, y])) (hg : we.grownBy w4 pv.ownBlock) : BckI T w w4 (.slice (some ⟨g, 0, none⟩) (j + 1) c) ns (j + 1) := by
  subst hk hs
  have hcl : cs.length = j * 4 := hrow.1
  refine ⟨⟨_, hn, fun i h h2 => ?_⟩, hbe.grown hg hbe.size (fun k' e => (hrow.lt k' e).1)⟩
  by_cases hi : i < j
  · obtain ⟨x', y', c0, c1, c2, c3, ox, oy⟩ := hel i hi h2
    exact ⟨x', y', by rw [List.getElem?_append_left (by omega)]; exact c0, by rw [List.getElem?_append_left (by omega)]; exact c1, by rw [List.getElem?_append_left (by omega)]; exact c2, by rw [List.getElem?_append_left (by omega)]; exact c3, ox, oy⟩
  · have hie : i = j := by omega
    subst hie
    refine ⟨x, y, ?_, ?_, ?_, ?_, hx, hy⟩
    · rw [List.getElem?_append_right (by omega), show i * 4 - cs.length = 0 by omega]; rfl
    · rw [List.getElem?_append_right (by omega), show i * 4 + 1 - cs.length = 1 by omega]; rfl
    · rw [List.getElem?_append_right (by omega), show i * 4 + 2 - cs.length = 2 by omega]; rfl
    · rw [List.getElem?_append_right (by omega), show i * 4 + 3 - cs.length = 3 by omega]; rfl

set_option maxHeartbeats 4000000 in
theorem back_any (w : World) (v : Value) (ns : List NtB) (hv : RdN w v ns) (hn : ns.length ≤ 1000000) :
    Calls Tryd.prog 16 #[v] w fun o w' => ∃ y, o = .returned y ∧ RdN w' y ns ∧ Below w.heap.size w w' := by
  obtain ⟨i0, hi, hz0, hz1, hz2⟩ := info_parts infoNote
  obtain ⟨ao, cap, rfl, h1, h2, h3⟩ := hv
  unfold maxLen at h2
  have H3 : Hid _ := h3
  obtain ⟨N, hN⟩ : ∃ N, ns.length = N := ⟨_, rfl⟩
  rw [hN] at h1 hn ⊢
  have HN : Hid (ns.length = N) := hN
  clear h3 hN
  go_enter Tryd.func16, Tryd.ntmps16
  go_wp2_with fail
  go_loopg [3, 8] N (fun gk pv iv wr => ∃ (j : Nat) (a' : Option Addr) (c' : Nat), gk + j = N ∧ iv = .int .i64 (j : Int) ∧ pv = .slice a' j c' ∧ Hid (BckI 36 w wr pv ns j))
  case atStart => exact ⟨0, none, 0, by omega, rfl, rfl, ⟨⟨[], World.ownsRow_nil _ _ _ _, fun i h => absurd h (Nat.not_lt_zero _)⟩, Below.refl _ _⟩⟩
  case round =>
    obtain ⟨j, a', c', hj, rfl, rfl, HI⟩ := hrel
    by_cases hlt : j < N
    · have hlt2 : j < ns.length := by rw [HN.out]; exact hlt
      obtain ⟨b, off, rfl, xv, yv, c0, c1, c2, c3, rx, ry⟩ := H3.out j hlt2
      obtain ⟨xa, xc, rfl⟩ := rx.len
      obtain ⟨ya, yc, rfl⟩ := rdo_shape ry
      have hbl := World.block_lt_of_cell? w _ c0
      have d0 := (HI.out.be.cell (p := ⟨b, off + j * 4, none⟩) hbl).trans c0
      have d1 := (HI.out.be.cell (p := ⟨b, off + j * 4 + 1, none⟩) hbl).trans c1
      have d2 := (HI.out.be.cell (p := ⟨b, off + j * 4 + 2, none⟩) hbl).trans c2
      have d3 := (HI.out.be.cell (p := ⟨b, off + j * 4 + 3, none⟩) hbl).trans c3
      have HRX : Hid (Rd w (.slice xa (ns[j]).2.2.1.length xc) (ns[j]).2.2.1 ∧ RdO w (.slice ya (ns[j]).2.2.2.length yc) (ns[j]).2.2.2) := ⟨rx, ry⟩
      obtain ⟨k, hk⟩ : ∃ k, (ns[j]).1.toNat = k := ⟨_, rfl⟩
      obtain ⟨s, hs⟩ : ∃ s, (ns[j]).2.1 = s := ⟨_, rfl⟩
      have HK : Hid ((ns[j]).1.toNat = k ∧ (ns[j]).2.1 = s) := ⟨hk, hs⟩
      obtain ⟨xl, hxl⟩ : ∃ xl, (ns[j]).2.2.1.length = xl := ⟨_, rfl⟩
      obtain ⟨yl, hyl⟩ : ∃ yl, (ns[j]).2.2.2.length = yl := ⟨_, rfl⟩
      rw [hxl, hyl] at HRX
      rw [hk] at d0
      rw [hs] at d1
      rw [hxl] at d2
      rw [hyl] at d3
      obtain ⟨q1, q2⟩ := gk_nxt hj hlt
      have HJ : Hid (j ≤ 1000000) := by show j ≤ _; omega
      have hbx := below_box4 wr (.cells #[.int .u8 (k : Int), .int .u64 (s : Int), .slice xa xl xc, .slice ya yl yc] 54)
      obtain ⟨z0, z1, z2, z3⟩ := box4_new wr (.int .u8 (k : Int)) (.int .u64 (s : Int)) (.slice xa xl xc) (.slice ya yl yc) 54
      have hbx2 := below_box4 (wr.alloc (.cells #[.int .u8 (k : Int), .int .u64 (s : Int), .slice xa xl xc, .slice ya yl yc] 54)) (.cells #[.int .u8 (k : Int), .int .u64 (s : Int), .slice xa xl xc, .slice ya yl yc] 36)
      have hlit := laid4 (wr.alloc (.cells #[.int .u8 (k : Int), .int .u64 (s : Int), .slice xa xl xc, .slice ya yl yc] 54)) (.int .u8 (k : Int)) (.int .u64 (s : Int)) (.slice xa xl xc) (.slice ya yl yc) 36
      rw [show (wr.alloc (.cells #[.int .u8 (k : Int), .int .u64 (s : Int), .slice xa xl xc, .slice ya yl yc] 54)).heap.size = wr.heap.size + 1 by simp] at hlit
      obtain ⟨cs, hrow0, hel⟩ := HI.out.ow
      have hrow := row_below (row_below hrow0 hbx) hbx2
      have hBe := (HI.out.be.trans (hbx.mono HI.out.be.size)).trans (hbx2.mono (Nat.le_trans HI.out.be.size hbx.size))
      have hse := hBe.size
      have HBE : Hid _ := hBe
      have HEL : Hid _ := hel
      have HRW : Hid _ := hrow
      clear rx ry hbl c0 c1 c2 c3 hk hs hxl hyl hbx hbx2 hrow0 hel hBe
      go_wp2_with (first | (at_builtin; refine wpList_append_lies _ rfl (.tmp 12) (.tmp 14) 22 rfl w.heap.size 36 i0 (.agg #[.int .u8 0, .int .u64 0, .slice none 0 0, .slice none 0 0]) 4 64 Tryd.underlying22 hi hz0 hz1 hz2 rfl (by decide) (.slice a' j c') j cs rfl hrow ⟨wr.heap.size + 1, 0, none⟩ 1 1 [.int .u8 (k : Int), .int .u64 (s : Int), .slice xa xl xc, .slice ya yl yc] rfl rfl hlit (one4 _ _ _ _ _ _ _ _) (by decide) (rep_bd HJ.out).1 (rep_bd HJ.out).2 hse _ rfl ?_; intro g4 c4 w4 hown hgrow hat hlt4; have HI4 : Hid (BckI 36 w w4 (.slice (some ⟨g4, 0, none⟩) (j + 1) c4) ns (j + 1)) := BckI.push (wr := wr) hlt2 HK.out.1 HK.out.2 HEL.out HRW.out HRX.out.1 HRX.out.2 HBE.out hown hgrow; clear hown hgrow hat hlt4) | fail)
      clear hrow hlit z0 z1 z2 z3 hse
      go_roundg (gk - 1)
      case measure => exact q1
      case rel => exact ⟨j + 1, _, c4, q2, by go_num, rfl, HI4⟩
    · have hjI : ¬ (j : Int) < (N : Int) := by omega
      have hje : j = ns.length := by rw [HN.out]; omega
      have HR : Hid (RdN wr (.slice a' j c') ns) := by
        have h9 := HI.out
        rw [hje] at h9 ⊢
        exact h9.rd
      clear hje
      go_wp2
      go_ret
      exact ⟨_, rfl, HR.out, HI.out.be⟩

end Go.Proofs.YtmgofohaoppajaaDoor

/- The two rows that EntryTorn gathers: records, and the entries that they are of. -/
namespace Go.Proofs.YtmgofohaoppajaaDoor
open Go.RowKit
set_option linter.unusedVariables false

theorem bytN_len {n : NtB} (h1 : n.2.2.1.length ≤ 40) (h2 : chkL n.2.2.2 = 0) (h3 : sizeO n.2.2.2 ≤ 44880) : (bytN n).length ≤ 47000 := by
  unfold bytN noteB
  simp only [List.length_append, Mth.numB_length]
  have k1 := (Mth.numL_bd n.1.toNat).2
  have k2 := (Mth.numL_bd n.2.1).2
  have k3 : (textB n.2.2.1).length ≤ 49 := by unfold textB; rw [List.length_append, Mth.numB_length]; have := (Mth.numL_bd n.2.2.1.length).2; omega
  have k4 : (batB n.2.2.2).length ≤ 9 + 27 * n.2.2.2.length + sizeO n.2.2.2 := by unfold batB; exact parts_len _ _
  have k5 := chk_most h2
  omega

/-- an entry as it comes out of bartizanref07.Few -/
structure FewF (n : NtB) : Prop where
  sq : n.2.1 < 18446744073709551616
  nl : n.2.2.1.length ≤ 40
  sz : sizeO n.2.2.2 ≤ 44880

theorem fewN_all {m : Nat} {ns : List NtB} (h : ∀ n ∈ ns, n.2.1 < 18446744073709551616) : (fewN m ns).length ≤ m ∧ ∀ n ∈ fewN m ns, FewF n := by
  refine ⟨by unfold fewN; rw [List.length_map, List.length_take]; omega, fun n hn => ?_⟩
  obtain ⟨x, hx, rfl⟩ := List.mem_map.1 hn
  exact ⟨h x (List.mem_of_mem_take hx), List.length_take_le _ _, fewO_most _⟩

theorem fit_facts {n : NtB} (h : fitN n = true) : rightB (n.1.toNat : Int) (n.2.1 : Int) n.2.2.1.length n.2.2.2.length = true ∧ chkL n.2.2.2 = 0 := by
  unfold fitN at h
  rw [Bool.and_eq_true, decide_eq_true_eq] at h
  exact h

theorem fit_name {n : NtB} (h : fitN n = true) : n.1.toNat ≤ 4 ∧ n.2.2.1.length ≤ 32 := by
  have h1 := (fit_facts h).1
  unfold rightB namedB at h1
  repeat' split at h1
  all_goals first | cases h1; done | (simp only [Bool.and_eq_true, decide_eq_true_eq] at h1; refine ⟨by omega, by omega⟩)

theorem fit_back {n : NtB} (hf : FewF n) (h : fitN n = true) : noteS (bytN n) = some n ∧ (bytN n).length ≤ 47000 :=
  ⟨noteS_bytN (fit_name h).1 hf.sq (fit_name h).2 h, bytN_len hf.nl (fit_facts h).2 hf.sz⟩

/-- entries in a row of one's own; what they hold is read in an earlier world -/
def RowG (w wr : World) (v : Value) (G : List NtB) : Prop :=
  ∃ cs, wr.ownsRow w.heap.size 36 4 v G.length cs ∧ ∀ i (h : i < G.length), ∃ x y, cs[i * 4]? = some (.int .u8 (G[i].1.toNat : Int)) ∧ cs[i * 4 + 1]? = some (.int .u64 (G[i].2.1 : Int)) ∧ cs[i * 4 + 2]? = some x ∧ cs[i * 4 + 3]? = some y ∧ Rd w x G[i].2.2.1 ∧ RdO w y G[i].2.2.2

theorem RowG.nil (w wr : World) : RowG w wr (.slice none 0 0) [] := ⟨[], World.ownsRow_nil _ _ _ _, fun _ h => absurd h (Nat.not_lt_zero _)⟩

theorem RowG.below {w wr w' : World} {v : Value} {G : List NtB} (h : RowG w wr v G) (hb : Below wr.heap.size wr w') : RowG w w' v G := by
  obtain ⟨cs, hr, hj⟩ := h
  exact ⟨cs, row_below hr hb, hj⟩

theorem RowG.rd {w wr : World} {v : Value} {G : List NtB} (h : RowG w wr v G) (hb : Below w.heap.size w wr) : RdN wr v G := by
  obtain ⟨cs, hr, hj⟩ := h
  have hr2 := hr
  rcases hr.2 with ⟨e, hn⟩ | ⟨g, cap, cur, e, _, hg, h1, h2, h3, h4⟩
  · exact ⟨none, 0, by rw [e, hn], by omega, Nat.zero_le _, fun j hj => by omega⟩
  · subst e
    refine ⟨_, cap, rfl, h1, h2, fun j h => ⟨g, 0, rfl, ?_⟩⟩
    obtain ⟨x, y, c0, c1, c2, c3, ox, oy⟩ := hj j h
    have hc := hr2.cells (g := g) rfl
    refine ⟨x, y, ?_, ?_, ?_, ?_, ox.below hb (Nat.le_refl _), LsO.below oy hb (Nat.le_refl _)⟩
    · have := hc _ _ c0; rwa [Addr.add_lit] at this
    · have := hc _ _ c1; rwa [Addr.add_lit] at this
    · have := hc _ _ c2; rwa [Addr.add_lit] at this
    · have := hc _ _ c3; rwa [Addr.add_lit] at this

theorem rdN_take {w : World} {ao : Option Addr} {n c : Nat} {G : List NtB} (h : RdN w (.slice ao n c) G) (k : Nat) (hk : k ≤ G.length) : RdN w (.slice ao k c) (G.take k) := by
  obtain ⟨ao', cap, e, h1, h2, h3⟩ := h
  cases e
  refine ⟨_, c, by rw [List.length_take, Nat.min_eq_left hk], by rw [List.length_take]; omega, h2, fun j hj => ?_⟩
  rw [List.length_take] at hj
  obtain ⟨b, off, e, ha⟩ := h3 j (by omega)
  exact ⟨b, off, e, by rw [List.getElem_take]; exact ha⟩

/-- a row of texts stays, whatever a row of other elements grows by -/
theorem OwnT.kept {B B' n s : Nat} {w w' : World} {v v' : Value} {e : TypeId} {ls : List (List UInt8)} {cs : List Value} (h : OwnT B w v ls) (h5 : e ≠ 5) (hT : e ≠ 26) (hr : w.ownsRow B' e s v' n cs) (hg : w.grownBy w' v'.ownBlock) : OwnT B w' v ls := by
  obtain ⟨vs, h1, h2⟩ := h
  refine ⟨vs, World.ownsRow.kept h1 hg (rows_ne hT hr h1), fun j hj => ?_⟩
  obtain ⟨x, hx, ox⟩ := h2 j hj
  exact ⟨x, hx, ownN_kept ox h5 hr hg⟩

theorem grown_cell {w w' : World} {row : Option Nat} {p : Addr} {u : Value} (hg : w.grownBy w' row) (h : w.cell? p = some u) (hne : some p.block ≠ row) : w'.cell? p = some u := by
  rw [← h]
  exact World.cell?_of_block (hg.block _ (World.block_lt_of_cell? _ _ h) hne)

/-- where the first loop has come to -/
structure TrI (w wr : World) (rv gv : Value) (G : List NtB) : Prop where
  rc : OwnT w.heap.size wr rv (G.map bytN)
  gd : RowG w wr gv G
  be : Below w.heap.size w wr

theorem TrI.below {w wr w' : World} {rv gv : Value} {G : List NtB} (h : TrI w wr rv gv G) (hb : Below wr.heap.size wr w') : TrI w w' rv gv G :=
  ⟨h.rc.below hb (Nat.le_refl _), h.gd.below hb, bsplit h.be hb⟩

/-- the record stands there -/
structure TrM (w w6 : World) (rv gv : Value) (G : List NtB) (n : NtB) : Prop where
  rc : OwnT w.heap.size w6 rv ((G ++ [n]).map bytN)
  gd : RowG w w6 gv G
  be : Below w.heap.size w w6

theorem TrM.below {w wr w' : World} {rv gv : Value} {G : List NtB} {n : NtB} (h : TrM w wr rv gv G n) (hb : Below wr.heap.size wr w') : TrM w w' rv gv G n :=
  ⟨h.rc.below hb (Nat.le_refl _), h.gd.below hb, bsplit h.be hb⟩

theorem TrI.mid {w W w6 : World} {rv gv x : Value} {G : List NtB} {n : NtB} {m g6 c6 : Nat} {rs : List Value} (h : TrI w W rv gv G) (hm : G.length = m) (hrow : W.ownsRow w.heap.size 26 1 rv m rs) (hx : OwnN w.heap.size W x (bytN n))
    (hn : w6.ownsRow w.heap.size 26 1 (.slice (some ⟨g6, 0, none⟩) (m + 1) c6) (m + 1) (rs ++ [x])) (hg : W.grownBy w6 rv.ownBlock) : TrM w w6 (.slice (some ⟨g6, 0, none⟩) (m + 1) c6) gv G n := by
  obtain ⟨vs, h1, h2⟩ := h.rc
  have hl : (G.map bytN).length = m := by rw [List.length_map]; exact hm
  have e : vs = rs := by
    rw [hl] at h1
    rcases h1.2 with ⟨e1, e2⟩ | ⟨g, cap, cur, e1, _, hgg, _, _, _, h4⟩
    · have l1 := h1.1
      have l2 := hrow.1
      rw [e2, Nat.zero_mul] at l1 l2
      rw [List.eq_nil_of_length_eq_zero l1, List.eq_nil_of_length_eq_zero l2]
    · rcases hrow.2 with ⟨e2, _⟩ | ⟨g', cap', cur', e2, _, hgg', _, _, _, h4'⟩
      · rw [e1] at e2; cases e2
      · rw [e1] at e2
        cases e2
        rw [hgg] at hgg'
        cases hgg'
        rw [← h4, ← h4']
  subst e
  refine ⟨?_, ?_, h.be.grown hg h.be.size (fun k' e => (h1.lt k' e).1)⟩
  · rw [List.map_append]
    exact own_push1 (bytN n) h1 h2 hx (by rw [hl]; exact hn) hg
  · obtain ⟨cs, k1, k2⟩ := h.gd
    exact ⟨cs, World.ownsRow.kept k1 hg (rows_ne (by decide) h1 k1), k2⟩

theorem TrM.done {w W w7 : World} {rv gv x y : Value} {G : List NtB} {n : NtB} {m g7 c7 k s : Nat} {cs : List Value} (h : TrM w W rv gv G n) (hm : G.length = m) (hk : n.1.toNat = k) (hs : n.2.1 = s) (hrow : W.ownsRow w.heap.size 36 4 gv m cs) (hx : Rd w x n.2.2.1) (hy : RdO w y n.2.2.2)
    (hn : w7.ownsRow w.heap.size 36 4 (.slice (some ⟨g7, 0, none⟩) (m + 1) c7) (m + 1) (cs ++ [.int .u8 (k : Int), .int .u64 (s : Int), x, y])) (hg : W.grownBy w7 gv.ownBlock) : TrI w w7 rv (.slice (some ⟨g7, 0, none⟩) (m + 1) c7) (G ++ [n]) := by
  obtain ⟨ds, h1, h2⟩ := h.gd
  subst hm hk hs
  have e : ds = cs := by
    rcases h1.2 with ⟨e1, e2⟩ | ⟨g, cap, cur, e1, _, hgg, _, _, _, h4⟩
    · have l1 := h1.1
      have l2 := hrow.1
      rw [e2, Nat.zero_mul] at l1 l2
      rw [List.eq_nil_of_length_eq_zero l1, List.eq_nil_of_length_eq_zero l2]
    · rcases hrow.2 with ⟨e2, _⟩ | ⟨g', cap', cur', e2, _, hgg', _, _, _, h4'⟩
      · rw [e1] at e2; cases e2
      · rw [e1] at e2
        cases e2
        rw [hgg] at hgg'
        cases hgg'
        rw [← h4, ← h4']
  subst e
  have hcl : ds.length = G.length * 4 := h1.1
  refine ⟨h.rc.kept (by decide) (by decide) h1 hg, ⟨_, by rw [List.length_append]; exact hn, fun j hj => ?_⟩, h.be.grown hg h.be.size (fun k' e => (h1.lt k' e).1)⟩
  by_cases hlt : j < G.length
  · obtain ⟨x', y', c0, c1, c2, c3, ox, oy⟩ := h2 j hlt
    refine ⟨x', y', ?_, ?_, ?_, ?_, ?_, ?_⟩
    · rw [List.getElem?_append_left (by omega), List.getElem_append_left hlt]; exact c0
    · rw [List.getElem?_append_left (by omega), List.getElem_append_left hlt]; exact c1
    · rw [List.getElem?_append_left (by omega)]; exact c2
    · rw [List.getElem?_append_left (by omega)]; exact c3
    · rw [List.getElem_append_left hlt]; exact ox
    · rw [List.getElem_append_left hlt]; exact oy
  · have hje : j = G.length := by rw [List.length_append] at hj; simp at hj; omega
    subst hje
    have e : (G ++ [n])[G.length]'hj = n := by simp
    rw [e]
    refine ⟨x, y, ?_, ?_, ?_, ?_, hx, hy⟩
    · rw [List.getElem?_append_right (by omega), show G.length * 4 - ds.length = 0 by omega]; rfl
    · rw [List.getElem?_append_right (by omega), show G.length * 4 + 1 - ds.length = 1 by omega]; rfl
    · rw [List.getElem?_append_right (by omega), show G.length * 4 + 2 - ds.length = 2 by omega]; rfl
    · rw [List.getElem?_append_right (by omega), show G.length * 4 + 3 - ds.length = 3 by omega]; rfl

end Go.Proofs.YtmgofohaoppajaaDoor

/- EntryTorn answers true. -/
namespace Go.Proofs.YtmgofohaoppajaaDoor
set_option maxRecDepth 20000
open Go.RowKit
set_option linter.unusedVariables false

theorem rdN_at {w w' : World} {ao : Option Addr} {N cap : Nat} {ns : List NtB} (h : RdN w (.slice ao N cap) ns) (hb : Below w.heap.size w w') {j : Nat} (hj : j < ns.length) : ∃ p o na nc oa oc, ao = some ⟨p, o, none⟩ ∧ w'.cell? ⟨p, o + j * 4, none⟩ = some (.int .u8 (ns[j].1.toNat : Int)) ∧ w'.cell? ⟨p, o + j * 4 + 1, none⟩ = some (.int .u64 (ns[j].2.1 : Int)) ∧ w'.cell? ⟨p, o + j * 4 + 2, none⟩ = some (.slice na ns[j].2.2.1.length nc) ∧ w'.cell? ⟨p, o + j * 4 + 3, none⟩ = some (.slice oa ns[j].2.2.2.length oc) ∧ Rd w (.slice na ns[j].2.2.1.length nc) ns[j].2.2.1 ∧ RdO w (.slice oa ns[j].2.2.2.length oc) ns[j].2.2.2 := by
  obtain ⟨_, _, e, _, _, h3⟩ := h
  cases e
  obtain ⟨p, o, rfl, xv, yv, c0, c1, c2, c3, rx, ry⟩ := h3 j hj
  obtain ⟨x1, x2, ex⟩ := rx.len
  obtain ⟨y1, y2, ey⟩ := rdo_shape ry
  subst ex ey
  have hl := World.block_lt_of_cell? w _ c0
  exact ⟨p, o, x1, x2, y1, y2, rfl, (hb.cell (p := ⟨p, o + j * 4, none⟩) hl).trans c0, (hb.cell (p := ⟨p, o + j * 4 + 1, none⟩) hl).trans c1, (hb.cell (p := ⟨p, o + j * 4 + 2, none⟩) hl).trans c2, (hb.cell (p := ⟨p, o + j * 4 + 3, none⟩) hl).trans c3, rx, ry⟩

theorem filt_no {FN : List NtB} {j : Nat} (h : j < FN.length) (hf : fitN FN[j] = false) : (FN.take (j + 1)).filter fitN = (FN.take j).filter fitN := by
  rw [List.take_succ_eq_append_getElem h, List.filter_append]
  simp [hf]

theorem filt_yes {FN : List NtB} {j : Nat} (h : j < FN.length) (hf : fitN FN[j] = true) : (FN.take (j + 1)).filter fitN = (FN.take j).filter fitN ++ [FN[j]] := by
  rw [List.take_succ_eq_append_getElem h, List.filter_append]
  simp [hf]

theorem box4_grown {w w' : World} {row : Option Nat} {b : Nat} {v0 v1 v2 v3 : Value} (h : Box4 w b v0 v1 v2 v3) (hg : w.grownBy w' row) (hne : some b ≠ row) : Box4 w' b v0 v1 v2 v3 :=
  ⟨grown_cell hg h.c0 hne, grown_cell hg h.c1 hne, grown_cell hg h.c2 hne, grown_cell hg h.c3 hne⟩

theorem laid_grown {w w' : World} {row : Option Nat} {b : Nat} {l : List Value} (h : ∀ j u, l[j]? = some u → w.cell? ((⟨b, 0, none⟩ : Addr).add j) = some u) (hg : w.grownBy w' row) (hne : some b ≠ row) : ∀ j u, l[j]? = some u → w'.cell? ((⟨b, 0, none⟩ : Addr).add j) = some u := fun j u hu => by
  have h9 := h j u hu
  rw [Addr.add_lit] at h9 ⊢
  exact grown_cell hg h9 hne

theorem laid_below {w w' : World} {b : Nat} {l : List Value} (h : ∀ j u, l[j]? = some u → w.cell? ((⟨b, 0, none⟩ : Addr).add j) = some u) (hb : Below w.heap.size w w') : ∀ j u, l[j]? = some u → w'.cell? ((⟨b, 0, none⟩ : Addr).add j) = some u := fun j u hu => by
  have h9 := h j u hu
  exact (hb.cell (World.block_lt_of_cell? _ _ h9)).trans h9

theorem ne_row {v : Value} {b B : Nat} (h : ∀ q, v.ownBlock = some q → q < B) (hb : B ≤ b) : some b ≠ v.ownBlock := fun e => by
  have := h b e.symm
  omega

set_option maxHeartbeats 8000000 in
theorem etorn (HSAME : Hid (∀ (w : World) (va vb : Value) (os ps : List NtB) (r : Bool), RdN w va os → RdN w vb ps → (os = ps ↔ r = true) → Calls Tryd.prog 15 #[va, vb] w fun e w' => e = .returned (.bool r) ∧ ∃ n, w' = w.drewN n)) (w : World) (v : Value) (ns : List NtB) (z : Int) (b : UInt8) (nb : Nat) (HNB : Hid (b.toNat = nb ∧ nb < 256)) (hv : ArgN w v ns) (hns : ∀ n ∈ ns, n.2.1 < 18446744073709551616) (hz0 : 0 ≤ z) (hz1 : z ≤ 65535) (hT : Tab w) :
    Calls Tryd.prog 5 #[v, .int .u16 z, .int .u8 (nb : Int)] w fun e w' => e = .returned (.bool true) ∧ Below w.heap.size w w' := by
  obtain ⟨i2, hi2, hy0, hy1, hy2⟩ := info_parts info24
  obtain ⟨i4, hi4, hx0, hx1, hx2⟩ := info_parts infoNote
  have HV : Hid (ArgN w v ns) := hv
  have HT : Hid (Tab w) := hT
  obtain ⟨va, vc, rfl, _⟩ := hv
  have HNS : Hid (∀ n ∈ ns, n.2.1 < 18446744073709551616) := hns
  clear hT hns
  go_enter Tryd.func5, Tryd.ntmps5
  go_wp2_with fail
  refine (eawake_any _).mono ?_
  rintro e w1 ⟨rfl, hb1⟩
  have HB1 : Hid (Below w.heap.size w w1) := hb1
  have hfw := fewnt_any w1 _ ns 8 (HV.out.below hb1 (Nat.le_refl _)) (by decide)
  clear hb1
  go_wp2_with fail
  refine hfw.mono ?_
  rintro e w2 ⟨x2, rfl, o2, hb2⟩
  have HB2 : Hid (Below w.heap.size w w2) := bsplit HB1.out hb2
  obtain ⟨FN, hFN⟩ : ∃ F, fewN 8 ns = F := ⟨_, rfl⟩
  have hfa := fewN_all (m := 8) HNS.out
  rw [hFN] at o2 hfa
  have HFA : Hid (∀ n ∈ FN, FewF n) := hfa.2
  have HRN : Hid (RdN w2 x2 FN) := o2.rd
  obtain ⟨xa, xc, rfl, hx9, hx8, _⟩ := o2.rd
  unfold maxLen at hx8
  obtain ⟨N, hN⟩ : ∃ n, FN.length = n := ⟨_, rfl⟩
  have HN : Hid (FN.length = N) := hN
  have hN8 : N ≤ 8 := by rw [← hN]; exact hfa.1
  rw [hN] at HRN hx9 ⊢
  clear hfw hb2 o2 hFN hfa hN
  go_wp2_with fail
  go_loopg [7, 8, 25] N (fun gk rv gv iv wr => ∃ (j m : Nat) (ra ga : Option Addr) (rc gc : Nat) (G : List NtB), gk + j = N ∧ iv = .int .i64 (j : Int) ∧ rv = .slice ra m rc ∧ gv = .slice ga m gc ∧ m ≤ j ∧ Hid (G = (FN.take j).filter fitN ∧ G.length = m) ∧ Hid (TrI w2 wr rv gv G))
  case atStart => exact ⟨0, 0, none, none, 0, 0, [], by omega, rfl, rfl, rfl, Nat.le_refl _, ⟨rfl, rfl⟩, ⟨OwnT.nil _ _, RowG.nil _ _, Below.refl _ _⟩⟩
  case round =>
    obtain ⟨j, m, ra, ga, rc, gc, G, hj, rfl, rfl, rfl, hmj, HG, HI⟩ := hrel
    by_cases hlt : j < N
    · have hlt2 : j < FN.length := by rw [HN.out]; exact hlt
      obtain ⟨p, o, na, nc, oa, oc, rfl, d0, d1, d2, d3, rx, ry⟩ := rdN_at HRN.out HI.out.be hlt2
      obtain ⟨q1, q2⟩ := gk_nxt hj hlt
      obtain ⟨n, hn⟩ : ∃ n, FN[j] = n := ⟨_, rfl⟩
      have HFF : Hid (FewF n) := by rw [← hn]; exact HFA.out _ (List.getElem_mem hlt2)
      have HNJ : Hid (FN[j] = n) := hn
      rw [hn] at d0 d1 d2 d3 rx ry
      obtain ⟨nl, hnl⟩ : ∃ z, n.2.2.1.length = z := ⟨_, rfl⟩
      obtain ⟨ol, hol⟩ : ∃ z, n.2.2.2.length = z := ⟨_, rfl⟩
      obtain ⟨kk, hkk⟩ : ∃ z, n.1.toNat = z := ⟨_, rfl⟩
      obtain ⟨sq, hsq⟩ : ∃ z, n.2.1 = z := ⟨_, rfl⟩
      have HKS : Hid (n.1.toNat = kk ∧ n.2.1 = sq ∧ n.2.2.1.length = nl ∧ n.2.2.2.length = ol) := ⟨hkk, hsq, hnl, hol⟩
      rw [hkk] at d0
      rw [hsq] at d1
      rw [hnl] at d2 rx
      rw [hol] at d3 ry
      have HRX : Hid (Rd w2 (.slice na nl nc) n.2.2.1 ∧ RdO w2 (.slice oa ol oc) n.2.2.2) := ⟨rx, ry⟩
      have hb3 := below_box4 wr (.cells #[.int .u8 (kk : Int), .int .u64 (sq : Int), .slice na nl nc, .slice oa ol oc] 36)
      have BN3 := box4_new wr (.int .u8 (kk : Int)) (.int .u64 (sq : Int)) (.slice na nl nc) (.slice oa ol oc) 36
      have HB3 : Hid (Below w2.heap.size w2 (wr.alloc (.cells #[.int .u8 (kk : Int), .int .u64 (sq : Int), .slice na nl nc, .slice oa ol oc] 36))) := bsplit HI.out.be hb3
      have HI3 : Hid (TrI w2 (wr.alloc (.cells #[.int .u8 (kk : Int), .int .u64 (sq : Int), .slice na nl nc, .slice oa ol oc] 36)) (.slice ra m rc) (.slice ga m gc) G) := HI.out.below hb3
      obtain ⟨z0, z1', z2, z3⟩ := BN3
      have BN3 := box4_new wr (.int .u8 (kk : Int)) (.int .u64 (sq : Int)) (.slice na nl nc) (.slice oa ol oc) 36
      cases hf : fitN n with
      | false =>
        have hrb := refbytes_bad (wr.alloc (.cells #[.int .u8 (kk : Int), .int .u64 (sq : Int), .slice na nl nc, .slice oa ol oc] 36)) n na nl nc oa ol oc (rx.below HB3.out (Nat.le_refl _)) (LsO.below ry HB3.out (Nat.le_refl _)) (fun h => by
          unfold fitN at hf
          rw [h.1, h.2] at hf
          simp at hf)
        rw [hkk, hsq] at hrb
        have HG2 : Hid (G = (FN.take (j + 1)).filter fitN ∧ G.length = m) := ⟨by rw [filt_no hlt2 (by rw [hn]; exact hf)]; exact HG.out.1, HG.out.2⟩
        clear rx ry hn hkk hsq hnl hol hb3 hf
        go_wp2_with fail
        refine hrb.mono ?_
        rintro e w5 ⟨rfl, hb5⟩
        have HI5 : Hid (TrI w2 w5 (.slice ra m rc) (.slice ga m gc) G) := HI3.out.below hb5
        clear hrb hb5 z0 z1' z2 z3 d0 d1 d2 d3
        go_wp2_with fail
        go_roundg (gk - 1)
        case measure => exact q1
        case rel => exact ⟨j + 1, m, ra, ga, rc, gc, G, q2, by go_num, rfl, rfl, by omega, HG2, HI5⟩
      | true =>
        obtain ⟨f1, f2⟩ := fit_facts hf
        have hrb := refbytes_ok (wr.alloc (.cells #[.int .u8 (kk : Int), .int .u64 (sq : Int), .slice na nl nc, .slice oa ol oc] 36)) kk sq na nl nc oa ol oc n.2.2.1 n.2.2.2 (by rw [← hkk]; exact n.1.toNat_lt) (by rw [← hsq]; exact HFF.out.sq) (by rw [form_right _ _ _ _ (by omega), ← hkk, ← hsq, ← hnl, ← hol]; exact f1) (rx.below HB3.out (Nat.le_refl _)) (by have := HFF.out.nl; omega) (LsO.below ry HB3.out (Nat.le_refl _)) f2 (chk_most f2) (by have := HFF.out.sz; omega)
        have HG2 : Hid (G ++ [n] = (FN.take (j + 1)).filter fitN ∧ (G ++ [n]).length = m + 1) := ⟨by rw [filt_yes hlt2 (by rw [hn]; exact hf), hn, ← HG.out.1], by rw [List.length_append, HG.out.2]; rfl⟩
        have HBY : Hid (noteB kk sq n.2.2.1 n.2.2.2 = bytN n) := by show _ = _; unfold bytN; rw [hkk, hsq]
        clear rx ry hn hkk hsq hnl hol hb3 hf f1 f2
        go_wp2_with fail
        refine hrb.mono ?_
        rintro e w5 ⟨xb, rfl, ob, hb5⟩
        rw [HBY.out] at ob
        obtain ⟨gb, bc, rfl⟩ := ob.shape
        obtain ⟨bl, hbl⟩ : ∃ c, (bytN n).length = c := ⟨_, rfl⟩
        rw [hbl] at ob ⊢
        have HI5 : Hid (TrI w2 w5 (.slice ra m rc) (.slice ga m gc) G) := HI3.out.below hb5
        have HOB : Hid (OwnN w2.heap.size w5 (.slice (some ⟨gb, 0, none⟩) bl bc) (bytN n)) := .inr (ob.mono HB3.out.size)
        have BN5 := BN3.below hb5 (Nat.le_refl _)
        have HLR : Hid (∀ q, (Value.slice ra m rc).ownBlock = some q → q < wr.heap.size) := fun q hq => by
          obtain ⟨vs, h1, _⟩ := HI.out.rc
          exact (h1.lt q hq).2
        have HLG : Hid (∀ q, (Value.slice ga m gc).ownBlock = some q → q < wr.heap.size) := fun q hq => by
          obtain ⟨vs, h1, _⟩ := HI.out.gd
          exact (h1.lt q hq).2
        obtain ⟨bn, hbn⟩ : ∃ b, wr.heap.size = b := ⟨_, rfl⟩
        rw [hbn] at BN5 HLR HLG
        have HSZ : Hid (bn < w5.heap.size) := BN5.lt
        obtain ⟨rs, hr5, _⟩ := HI5.out.rc
        rw [List.length_map, HG.out.2] at hr5
        have HM8 : Hid (m ≤ 8 ∧ w2.heap.size ≤ w5.heap.size) := ⟨by omega, HI5.out.be.size⟩
        clear hrb hb5 ob hbl z0 z1' z2 z3 d0 d1 d2 d3 BN3
        go_wp2_with fail
        have s1 : (w5.alloc (.cells #[.slice (some ⟨gb, 0, none⟩) bl bc] 26)).heap.size = w5.heap.size + 1 := by simp
        have s2 : (w5.alloc (.cells #[.int .u8 (kk : Int), .int .u64 (sq : Int), .slice na nl nc, .slice oa ol oc] 36)).heap.size = w5.heap.size + 1 := by simp
        have PA : Below w5.heap.size w5 (w5.alloc (.cells #[.slice (some ⟨gb, 0, none⟩) bl bc] 26)).drew := (below_box4 w5 _).drew
        have PB : Below w5.heap.size w5 (w5.alloc (.cells #[.int .u8 (kk : Int), .int .u64 (sq : Int), .slice na nl nc, .slice oa ol oc] 36)).drew := (below_box4 w5 _).drew
        have PAB : Below w5.heap.size w5 ((w5.alloc (.cells #[.slice (some ⟨gb, 0, none⟩) bl bc] 26)).alloc (.cells #[.int .u8 (kk : Int), .int .u64 (sq : Int), .slice na nl nc, .slice oa ol oc] 36)).drew := (bsplit (below_box4 w5 _) (below_box4 _ _)).drew
        have PBA : Below w5.heap.size w5 ((w5.alloc (.cells #[.int .u8 (kk : Int), .int .u64 (sq : Int), .slice na nl nc, .slice oa ol oc] 36)).alloc (.cells #[.slice (some ⟨gb, 0, none⟩) bl bc] 26)).drew := (bsplit (below_box4 w5 _) (below_box4 _ _)).drew
        have BN0 := BN5.drew
        have BNA := BN5.below PA (Nat.le_refl _)
        have BNB := BN5.below PB (Nat.le_refl _)
        have BNAB := BN5.below PAB (Nat.le_refl _)
        have BNBA := BN5.below PBA (Nat.le_refl _)
        have lA : ∀ j u, ([.slice (some ⟨gb, 0, none⟩) bl bc] : List Value)[j]? = some u → (w5.alloc (.cells #[.slice (some ⟨gb, 0, none⟩) bl bc] 26)).drew.cell? ((⟨w5.heap.size, 0, none⟩ : Addr).add j) = some u := laid1 w5 _ _
        have lAB : ∀ j u, ([.slice (some ⟨gb, 0, none⟩) bl bc] : List Value)[j]? = some u → ((w5.alloc (.cells #[.slice (some ⟨gb, 0, none⟩) bl bc] 26)).alloc (.cells #[.int .u8 (kk : Int), .int .u64 (sq : Int), .slice na nl nc, .slice oa ol oc] 36)).drew.cell? ((⟨w5.heap.size, 0, none⟩ : Addr).add j) = some u := laid_below (laid1 w5 _ 26) (below_box4 _ _).drew
        have lBA : ∀ j u, ([.slice (some ⟨gb, 0, none⟩) bl bc] : List Value)[j]? = some u → ((w5.alloc (.cells #[.int .u8 (kk : Int), .int .u64 (sq : Int), .slice na nl nc, .slice oa ol oc] 36)).alloc (.cells #[.slice (some ⟨gb, 0, none⟩) bl bc] 26)).drew.cell? ((⟨w5.heap.size + 1, 0, none⟩ : Addr).add j) = some u := by
          have h9 := laid1 (w5.alloc (.cells #[.int .u8 (kk : Int), .int .u64 (sq : Int), .slice na nl nc, .slice oa ol oc] 36)) (.slice (some ⟨gb, 0, none⟩) bl bc) 26
          rw [s2] at h9
          exact h9
        have mAB : ∀ j u, ([.int .u8 (kk : Int), .int .u64 (sq : Int), .slice na nl nc, .slice oa ol oc] : List Value)[j]? = some u → ((w5.alloc (.cells #[.slice (some ⟨gb, 0, none⟩) bl bc] 26)).alloc (.cells #[.int .u8 (kk : Int), .int .u64 (sq : Int), .slice na nl nc, .slice oa ol oc] 36)).drew.cell? ((⟨w5.heap.size + 1, 0, none⟩ : Addr).add j) = some u := by
          have h9 := laid4 (w5.alloc (.cells #[.slice (some ⟨gb, 0, none⟩) bl bc] 26)) (.int .u8 (kk : Int)) (.int .u64 (sq : Int)) (.slice na nl nc) (.slice oa ol oc) 36
          rw [s1] at h9
          exact h9
        have mBA : ∀ j u, ([.int .u8 (kk : Int), .int .u64 (sq : Int), .slice na nl nc, .slice oa ol oc] : List Value)[j]? = some u → ((w5.alloc (.cells #[.int .u8 (kk : Int), .int .u64 (sq : Int), .slice na nl nc, .slice oa ol oc] 36)).alloc (.cells #[.slice (some ⟨gb, 0, none⟩) bl bc] 26)).drew.cell? ((⟨w5.heap.size, 0, none⟩ : Addr).add j) = some u := laid_below (laid4 w5 (.int .u8 (kk : Int)) (.int .u64 (sq : Int)) (.slice na nl nc) (.slice oa ol oc) 36) (below_box4 _ _).drew
        have n5 : some w5.heap.size ≠ (Value.slice ra m rc).ownBlock := ne_row HLR.out (Nat.le_of_lt HSZ.out)
        have n51 : some (w5.heap.size + 1) ≠ (Value.slice ra m rc).ownBlock := ne_row HLR.out (Nat.le_succ_of_le (Nat.le_of_lt HSZ.out))
        have nbn : some bn ≠ (Value.slice ra m rc).ownBlock := ne_row HLR.out (Nat.le_refl _)
        have gbn : some bn ≠ (Value.slice ga m gc).ownBlock := ne_row HLG.out (Nat.le_refl _)
        clear s1 s2
        go_region_held3 (fun w' => w'.cell? ⟨bn, 0, none⟩ = some (.int .u8 (kk : Int)) ∧ w'.cell? ⟨bn, 1, none⟩ = some (.int .u64 (sq : Int)) ∧ w'.cell? ⟨bn, 2, none⟩ = some (.slice na nl nc) ∧ w'.cell? ⟨bn, 3, none⟩ = some (.slice oa ol oc))
          (first | with_reducible exact ⟨BN7.c0, BN7.c1, BN7.c2, BN7.c3⟩ | with_reducible exact ⟨BN6a.c0, BN6a.c1, BN6a.c2, BN6a.c3⟩ | with_reducible exact ⟨BN6.c0, BN6.c1, BN6.c2, BN6.c3⟩ | with_reducible exact ⟨BNAB.c0, BNAB.c1, BNAB.c2, BNAB.c3⟩ | with_reducible exact ⟨BNBA.c0, BNBA.c1, BNBA.c2, BNBA.c3⟩ | with_reducible exact ⟨BNA.c0, BNA.c1, BNA.c2, BNA.c3⟩ | with_reducible exact ⟨BNB.c0, BNB.c1, BNB.c2, BNB.c3⟩ | with_reducible exact ⟨BN0.c0, BN0.c1, BN0.c2, BN0.c3⟩)
          (first
            | (refine step_append_lies _ rfl (.tmp 36) (.tmp 38) 32 rfl w2.heap.size 26 i2 (.slice none 0 0) 1 24 Tryd.underlying32 hi2 hy0 hy1 hy2 rfl (by decide) (.slice ra m rc) m rs rfl (by with_reducible exact row_below hr5 PA) ⟨w5.heap.size, 0, none⟩ 1 1 [.slice (some ⟨gb, 0, none⟩) bl bc] rfl rfl lA (one_slice _ _ _) (by decide) (by have := HM8.out; simp only [maxLen]; omega) (by have := HM8.out; omega) (Nat.le_trans HM8.out.2 PA.size) _ rfl ?_
               intro g6 c6 w6 hown6 hgrow6 hat6 hlt6
               have HM6 : Hid (TrM w2 w6 (.slice (some ⟨g6, 0, none⟩) (m + 1) c6) (.slice ga m gc) G n) := (HI5.out.below PA).mid HG.out.2 (row_below hr5 PA) (HOB.out.below PA (Nat.le_refl _)) hown6 hgrow6
               have BN6 := box4_grown BNA hgrow6 nbn
               have BN6a := BN6.below (below_box4 w6 (.cells #[.int .u8 (kk : Int), .int .u64 (sq : Int), .slice na nl nc, .slice oa ol oc] 36)) (Nat.le_refl _)
               obtain ⟨cs6, hc6, _⟩ := HM6.out.gd
               rw [HG.out.2] at hc6
               have m6 := laid4 w6 (.int .u8 (kk : Int)) (.int .u64 (sq : Int)) (.slice na nl nc) (.slice oa ol oc) 36
               clear hown6 hgrow6 hat6 hlt6 hr5)
            | (refine step_append_lies _ rfl (.tmp 36) (.tmp 38) 32 rfl w2.heap.size 26 i2 (.slice none 0 0) 1 24 Tryd.underlying32 hi2 hy0 hy1 hy2 rfl (by decide) (.slice ra m rc) m rs rfl (by with_reducible exact row_below hr5 PAB) ⟨w5.heap.size, 0, none⟩ 1 1 [.slice (some ⟨gb, 0, none⟩) bl bc] rfl rfl lAB (one_slice _ _ _) (by decide) (by have := HM8.out; simp only [maxLen]; omega) (by have := HM8.out; omega) (Nat.le_trans HM8.out.2 PAB.size) _ rfl ?_
               intro g6 c6 w6 hown6 hgrow6 hat6 hlt6
               have HM6 : Hid (TrM w2 w6 (.slice (some ⟨g6, 0, none⟩) (m + 1) c6) (.slice ga m gc) G n) := (HI5.out.below PAB).mid HG.out.2 (row_below hr5 PAB) (HOB.out.below PAB (Nat.le_refl _)) hown6 hgrow6
               have BN6 := box4_grown BNAB hgrow6 nbn
               have BN6a := BN6.below (below_box4 w6 (.cells #[.int .u8 (kk : Int), .int .u64 (sq : Int), .slice na nl nc, .slice oa ol oc] 36)) (Nat.le_refl _)
               obtain ⟨cs6, hc6, _⟩ := HM6.out.gd
               rw [HG.out.2] at hc6
               have m6 := laid_grown mAB hgrow6 n51
               clear hown6 hgrow6 hat6 hlt6 hr5)
            | (refine step_append_lies _ rfl (.tmp 36) (.tmp 38) 32 rfl w2.heap.size 26 i2 (.slice none 0 0) 1 24 Tryd.underlying32 hi2 hy0 hy1 hy2 rfl (by decide) (.slice ra m rc) m rs rfl (by with_reducible exact row_below hr5 PBA) ⟨w5.heap.size + 1, 0, none⟩ 1 1 [.slice (some ⟨gb, 0, none⟩) bl bc] rfl rfl lBA (one_slice _ _ _) (by decide) (by have := HM8.out; simp only [maxLen]; omega) (by have := HM8.out; omega) (Nat.le_trans HM8.out.2 PBA.size) _ rfl ?_
               intro g6 c6 w6 hown6 hgrow6 hat6 hlt6
               have HM6 : Hid (TrM w2 w6 (.slice (some ⟨g6, 0, none⟩) (m + 1) c6) (.slice ga m gc) G n) := (HI5.out.below PBA).mid HG.out.2 (row_below hr5 PBA) (HOB.out.below PBA (Nat.le_refl _)) hown6 hgrow6
               have BN6 := box4_grown BNBA hgrow6 nbn
               have BN6a := BN6.below (below_box4 w6 (.cells #[.int .u8 (kk : Int), .int .u64 (sq : Int), .slice na nl nc, .slice oa ol oc] 36)) (Nat.le_refl _)
               obtain ⟨cs6, hc6, _⟩ := HM6.out.gd
               rw [HG.out.2] at hc6
               have m6 := laid_grown mBA hgrow6 n5
               clear hown6 hgrow6 hat6 hlt6 hr5)
            | (refine step_append_lies _ rfl (.tmp 40) (.tmp 42) 22 rfl w2.heap.size 36 i4 (.agg #[.int .u8 0, .int .u64 0, .slice none 0 0, .slice none 0 0]) 4 64 Tryd.underlying22 hi4 hx0 hx1 hx2 rfl (by decide) (.slice ga m gc) m cs6 rfl (by with_reducible exact hc6) ⟨w5.heap.size + 1, 0, none⟩ 1 1 [.int .u8 (kk : Int), .int .u64 (sq : Int), .slice na nl nc, .slice oa ol oc] rfl rfl m6 (one4 _ _ _ _ _ _ _ _) (by decide) (by have := HM8.out; simp only [maxLen]; omega) (by have := HM8.out; omega) (Nat.le_trans HM6.out.be.size (Below.refl w6.heap.size w6).size) _ rfl ?_
               intro g7 c7 w7 hown7 hgrow7 hat7 hlt7
               have HI7 : Hid (TrI w2 w7 (.slice (some ⟨g6, 0, none⟩) (m + 1) c6) (.slice (some ⟨g7, 0, none⟩) (m + 1) c7) (G ++ [n])) := (HM6.out.below (Below.refl w6.heap.size w6)).done HG.out.2 HKS.out.1 HKS.out.2.1 (hc6) HRX.out.1 HRX.out.2 hown7 hgrow7
               have BN7 := box4_grown BN6 hgrow7 gbn
               clear hown7 hgrow7 hat7 hlt7)
            | (refine step_append_lies _ rfl (.tmp 40) (.tmp 42) 22 rfl w2.heap.size 36 i4 (.agg #[.int .u8 0, .int .u64 0, .slice none 0 0, .slice none 0 0]) 4 64 Tryd.underlying22 hi4 hx0 hx1 hx2 rfl (by decide) (.slice ga m gc) m cs6 rfl (by with_reducible exact hc6) ⟨w5.heap.size, 0, none⟩ 1 1 [.int .u8 (kk : Int), .int .u64 (sq : Int), .slice na nl nc, .slice oa ol oc] rfl rfl m6 (one4 _ _ _ _ _ _ _ _) (by decide) (by have := HM8.out; simp only [maxLen]; omega) (by have := HM8.out; omega) (Nat.le_trans HM6.out.be.size (Below.refl w6.heap.size w6).size) _ rfl ?_
               intro g7 c7 w7 hown7 hgrow7 hat7 hlt7
               have HI7 : Hid (TrI w2 w7 (.slice (some ⟨g6, 0, none⟩) (m + 1) c6) (.slice (some ⟨g7, 0, none⟩) (m + 1) c7) (G ++ [n])) := (HM6.out.below (Below.refl w6.heap.size w6)).done HG.out.2 HKS.out.1 HKS.out.2.1 (hc6) HRX.out.1 HRX.out.2 hown7 hgrow7
               have BN7 := box4_grown BN6 hgrow7 gbn
               clear hown7 hgrow7 hat7 hlt7)
            | (refine step_append_lies _ rfl (.tmp 40) (.tmp 42) 22 rfl w2.heap.size 36 i4 (.agg #[.int .u8 0, .int .u64 0, .slice none 0 0, .slice none 0 0]) 4 64 Tryd.underlying22 hi4 hx0 hx1 hx2 rfl (by decide) (.slice ga m gc) m cs6 rfl (by with_reducible exact row_below hc6 (below_box4 w6 (.cells #[.int .u8 (kk : Int), .int .u64 (sq : Int), .slice na nl nc, .slice oa ol oc] 36))) ⟨w6.heap.size, 0, none⟩ 1 1 [.int .u8 (kk : Int), .int .u64 (sq : Int), .slice na nl nc, .slice oa ol oc] rfl rfl m6 (one4 _ _ _ _ _ _ _ _) (by decide) (by have := HM8.out; simp only [maxLen]; omega) (by have := HM8.out; omega) (Nat.le_trans HM6.out.be.size (below_box4 w6 (.cells #[.int .u8 (kk : Int), .int .u64 (sq : Int), .slice na nl nc, .slice oa ol oc] 36)).size) _ rfl ?_
               intro g7 c7 w7 hown7 hgrow7 hat7 hlt7
               have HI7 : Hid (TrI w2 w7 (.slice (some ⟨g6, 0, none⟩) (m + 1) c6) (.slice (some ⟨g7, 0, none⟩) (m + 1) c7) (G ++ [n])) := (HM6.out.below (below_box4 w6 (.cells #[.int .u8 (kk : Int), .int .u64 (sq : Int), .slice na nl nc, .slice oa ol oc] 36))).done HG.out.2 HKS.out.1 HKS.out.2.1 (row_below hc6 (below_box4 w6 (.cells #[.int .u8 (kk : Int), .int .u64 (sq : Int), .slice na nl nc, .slice oa ol oc] 36))) HRX.out.1 HRX.out.2 hown7 hgrow7
               have BN7 := box4_grown BN6a hgrow7 gbn
               clear hown7 hgrow7 hat7 hlt7)
            | fail "arm")
        all_goals
          go_wp2_with fail
          go_roundg (gk - 1)
          case measure => exact q1
          case rel => exact ⟨j + 1, m + 1, _, _, _, _, G ++ [n], q2, by go_num, rfl, rfl, by omega, HG2, HI7⟩
    · have hjN : j = N := by omega
      subst hjN
      have hni : ¬ (j : Int) < (j : Int) := by omega
      have HGF : Hid (∀ n ∈ G, fitN n = true ∧ FewF n) := fun n hn => by
        rw [HG.out.1] at hn
        obtain ⟨h1, h2⟩ := List.mem_filter.1 hn
        exact ⟨h2, HFA.out n (List.mem_of_mem_take h1)⟩
      obtain ⟨T, hTq⟩ : ∃ T, G.map bytN = T := ⟨_, rfl⟩
      have HTq : Hid (G.map bytN = T) := hTq
      have HTL : Hid (T.length = m ∧ ∀ l ∈ T, l.length ≤ 47000) := ⟨by rw [← hTq, List.length_map]; exact HG.out.2, fun l hl => by
        rw [← hTq] at hl
        obtain ⟨n, h1, rfl⟩ := List.mem_map.1 hl
        exact (fit_back (HGF.out n h1).2 (HGF.out n h1).1).2⟩
      obtain ⟨wl, hwl⟩ : ∃ W, W = wr := ⟨_, rfl⟩
      subst hwl
      have OT : Hid (OwnT w2.heap.size wl (.slice ra m rc) T) := by rw [← hTq]; exact HI.out.rc
      have HGD : Hid (RdN wl (.slice ga m gc) G) := HI.out.gd.rd HI.out.be
      have HBL : Hid (Below w.heap.size w wl) := bsplit HB2.out HI.out.be
      have hm8 : m ≤ 8 := by omega
      have hall := rall_any wl _ T 47000 OT.out.tex HTL.out.2 (by decide) (by have := HTL.out.1; omega)
      clear hTq
      go_wp2_with fail
      refine hall.mono ?_
      rintro e w3 ⟨pv, rfl, oP, hb3⟩
      obtain ⟨P, hPq⟩ : ∃ P, allB T [] = P := ⟨_, rfl⟩
      rw [hPq] at oP
      have HPQ : Hid (allB T [] = P) := hPq
      have hPl : P.length ≤ 752160 := by
        have h1 := allB_most 47000 T [] HTL.out.2
        rw [hPq, HTL.out.1] at h1
        simp at h1
        omega
      obtain ⟨pa, pc, rfl⟩ := oP.rd.len
      obtain ⟨L, hL⟩ : ∃ L, P.length = L := ⟨_, rfl⟩
      rw [hL] at hPl oP ⊢
      have HL : Hid (P.length = L) := hL
      have HOP : Hid (OwnN wl.heap.size w3 (.slice pa L pc) P) := oP
      have HB3 : Hid (Below wl.heap.size wl w3) := hb3
      obtain ⟨cut, hcutm, hcutL⟩ := tmod_pos z L hz0
      have hLI : (L : Int) ≤ 752160 := by omega
      have hLI0 : (0 : Int) ≤ (L : Int) := by omega
      have HPL : Hid (L ≤ 752160 ∧ cut ≤ L) := ⟨hPl, hcutL⟩
      have htc : Hid (m ≤ rc ∧ rc ≤ 9223372036854775807) := by
        obtain ⟨a', c', e, h1, h2, _⟩ := OT.out.tex
        cases e
        exact ⟨by rw [HTL.out.1] at h1; exact h1, h2⟩
      have hgc : Hid (m ≤ gc) := by
        obtain ⟨a', c', e, h1, h2, _⟩ := HGD.out
        cases e
        rw [HG.out.2] at h1; exact h1
      have hpc : L ≤ pc := by
        rcases HOP.out with ⟨e, _⟩ | h
        · cases e; exact Nat.le_refl _
        · obtain ⟨g', k', e⟩ := h.shape
          cases e
          have := h.caps.1; rw [HL.out] at this; exact this
      have hpcI : (cut : Int) ≤ (pc : Int) := by omega
      have hcI0 : (0 : Int) ≤ (cut : Int) := by omega
      have hcI1 : (cut : Int) ≤ (L : Int) := by omega
      clear hall hb3 oP hPq hL
      go_upto_if 57 with fail
      go_cut [] (fun wx => Hid (Rd wx (.slice pa cut pc) (tornP P cut b) ∧ (∀ q, (Value.slice pa cut pc).ownBlock = some q → q < wx.heap.size)) ∧ Hid (Below wl.heap.size wl wx))
      case first =>
        by_cases hc0 : cut = 0
        · have hk0 : ¬ (0 : Int) < (cut : Int) := by omega
          obtain ⟨rd1, bk1⟩ := ownN_take HOP.out cut (by rw [HL.out]; exact HPL.out.2)
          have HT0 : Hid (Rd w3 (.slice pa cut pc) (tornP P cut b) ∧ (∀ q, (Value.slice pa cut pc).ownBlock = some q → q < w3.heap.size)) := by
            refine ⟨?_, bk1⟩
            unfold tornP
            rw [if_pos hc0]
            rw [hc0, List.take_zero] at rd1
            rw [hc0]
            exact rd1
          clear rd1 bk1 hc0
          go_wp2_with fail
          go_meet
          exact ⟨HT0, HB3⟩
        · have hk0 : (0 : Int) < (cut : Int) := by omega
          obtain ⟨k, hk⟩ : ∃ k, cut - 1 = k := ⟨_, rfl⟩
          have hkI : (cut : Int) - 1 = (k : Int) := by omega
          have hkP : k < P.length := by rw [HL.out]; have := HPL.out; omega
          rcases HOP.out with ⟨e, e2⟩ | hown
          · exfalso
            rw [e2] at hkP
            simp at hkP
          obtain ⟨gp, pc', e⟩ := hown.shape
          cases e
          obtain ⟨q, hq⟩ : ∃ q, P[k] = q := ⟨_, rfl⟩
          have hc := hown.cell k hkP
          rw [hq] at hc
          have hfz := hown.frozen k
          have hst := hown.store k (q ^^^ b)
          have hX : (q ^^^ b).toNat = q.toNat ^^^ nb := by rw [UInt8.toNat_xor, HNB.out.1]
          have hx8 := u8_xor_nat q.toNat nb q.toNat_lt HNB.out.2
          rw [← hX] at hx8
          obtain ⟨vv, hvv⟩ : ∃ vv, q ^^^ b = vv := ⟨_, rfl⟩
          rw [hvv] at hst hx8
          obtain ⟨r, hr⟩ : ∃ r, vv.toNat = r := ⟨_, rfl⟩
          have hrl : (r : Int) ≤ 255 := by have := vv.toNat_lt; omega
          rw [hr] at hst hx8
          obtain ⟨nq, hnq⟩ : ∃ nq, q.toNat = nq := ⟨_, rfl⟩
          have hql : (nq : Int) ≤ 255 := by have := q.toNat_lt; omega
          rw [hnq] at hc hx8
          have HT0 : Hid (Rd (w3.setCell ⟨gp, k, none⟩ (.int .u8 (r : Int))) (.slice (some ⟨gp, 0, none⟩) cut pc) (tornP P cut b) ∧ (∀ q, (Value.slice (some ⟨gp, 0, none⟩) cut pc).ownBlock = some q → q < (w3.setCell ⟨gp, k, none⟩ (.int .u8 (r : Int))).heap.size)) := by
            refine ⟨?_, fun q hq => by cases hq; exact hst.lt.2⟩
            have h9 := (ownN_take (.inr hst) cut (by rw [List.length_set, HL.out]; exact HPL.out.2)).1
            unfold tornP
            rw [if_neg hc0, hk, List.getD_eq_getElem?_getD, List.getElem?_eq_getElem hkP]
            simp only [Option.getD_some]
            rw [hq, hvv, ← List.take_set]
            exact h9
          have HBS : Hid (Below wl.heap.size wl (w3.setCell ⟨gp, k, none⟩ (.int .u8 (r : Int)))) := HB3.out.setCell (p := ⟨gp, k, none⟩) hown.lt.1 _
          have k1 : (k : Int) < (cut : Int) := by omega
          have k2 : (0 : Int) ≤ (k : Int) := by omega
          clear hown hkP hq hst hX hvv hr hnq hc0 hk
          go_wp2_with fail
          go_meet
          exact ⟨HT0, HBS⟩
      case rest =>
        obtain ⟨HPT, HBX⟩ := hcut
        have HBXW : Hid (Below w.heap.size w wc) := bsplit HBL.out HBX.out
        have OTC : Hid (OwnT w2.heap.size wc (.slice ra m rc) T) := OT.out.below HBX.out (Nat.le_refl _)
        have hmI : (m : Int) ≤ 8 := by omega
        go_wp2_with fail
        go_loopg [15, 68] m (fun gk wv iv wr => ∃ (i wh : Nat), gk + i = m ∧ iv = .int .i64 (i : Int) ∧ wv = .int .i64 (wh : Int) ∧ Hid (TornI T cut b i wh) ∧ Hid (Below wc.heap.size wc wr))
        case atStart => exact ⟨0, 0, by omega, rfl, rfl, TornI.start _ _ _, Below.refl _ _⟩
        case round =>
          obtain ⟨i, wh, hi, rfl, rfl, HTI, HBR⟩ := hrel
          by_cases hlti : i < m
          · obtain ⟨q1, q2⟩ := gk_nxt hi hlti
            have hit : (i : Int) + 1 ≤ (rc : Int) := by have := htc.out; omega
            have hiI : (i : Int) ≤ 8 := by omega
            have htx := (OTC.out.tex.below HBR.out (Nat.le_refl _)).take (i + 1) (by rw [HTL.out.1]; omega)
            have hal := rall_any wr _ (T.take (i + 1)) 47000 htx (fun l hl => HTL.out.2 l (List.mem_of_mem_take hl)) (by decide) (by have := HTL.out.1; rw [List.length_take]; omega)
            obtain ⟨O, hO⟩ : ∃ O, offT T (i + 1) = O := ⟨_, rfl⟩
            have hOl : O ≤ 752160 := by
              have h1 := offT_mono T (i + 1) m (by omega) (by rw [HTL.out.1]; exact Nat.le_refl _)
              rw [hO] at h1
              have h2 : offT T m = L := by unfold offT; rw [← HTL.out.1, List.take_length, HPQ.out, HL.out]
              have := HPL.out
              omega
            have hOI : (O : Int) ≤ 752160 := by omega
            have HO : Hid (offT T (i + 1) = O) := hO
            clear htx hO hOl
            by_cases hoc : O < cut
            · have hocI : (O : Int) < (cut : Int) := by omega
              have HT2 : Hid (TornI T cut b (i + 1) (i + 1)) := HTI.out.yes (by rw [HO.out]; exact .inl hoc)
              go_wp2_with fail
              refine hal.mono ?_
              rintro e w4 ⟨y, rfl, oy, hb4⟩
              have hyl : (allB (T.take (i + 1)) []).length = O := HO.out
              obtain ⟨ya, yc, hy⟩ := oy.rd.len
              rw [hyl] at hy
              subst hy
              have HB4 : Hid (Below wc.heap.size wc w4) := bsplit HBR.out hb4
              clear hal hb4 oy hyl
              go_wp2_with fail
              go_roundg (gk - 1)
              case measure => exact q1
              case rel => exact ⟨i + 1, i + 1, q2, by go_num, by go_num, HT2, HB4⟩
            · have hocI : ¬ (O : Int) < (cut : Int) := by omega
              have hocb : decide ((O : Int) < (cut : Int)) = false := decide_eq_false hocI
              by_cases hoe : O = cut
              · have hoeI : (O : Int) = (cut : Int) := by omega
                by_cases hb0 : nb = 0
                · have HT2 : Hid (TornI T cut b (i + 1) (i + 1)) := HTI.out.yes (by rw [HO.out]; exact .inr ⟨hoe, UInt8.toNat_inj.1 (by rw [HNB.out.1, hb0]; rfl)⟩)
                  subst hb0
                  subst hoe
                  clear hoeI
                  go_wp2_with fail
                  refine hal.mono ?_
                  rintro e w4 ⟨y, rfl, oy, hb4⟩
                  have hyl : (allB (T.take (i + 1)) []).length = O := HO.out
                  obtain ⟨ya, yc, hy⟩ := oy.rd.len
                  rw [hyl] at hy
                  subst hy
                  have HB4 : Hid (Below wc.heap.size wc w4) := bsplit HBR.out hb4
                  clear hal hb4 oy hyl
                  go_wp2_with fail
                  go_roundg (gk - 1)
                  case measure => exact q1
                  case rel => exact ⟨i + 1, i + 1, q2, by go_num, by go_num, HT2, HB4⟩
                · have HT2 : Hid (TornI T cut b (i + 1) wh) := HTI.out.not (by
                    rw [HO.out]
                    rintro (h | ⟨_, h⟩)
                    · exact hoc h
                    · rw [h] at HNB
                      have := HNB.out.1
                      exact hb0 (by rw [← this]; rfl))
                  have hb0I : ¬ (nb : Int) = 0 := by omega
                  have hb0b : ((nb : Int) == 0) = false := by simpa using hb0I
                  subst hoe
                  clear hoeI
                  go_wp2_with fail
                  refine hal.mono ?_
                  rintro e w4 ⟨y, rfl, oy, hb4⟩
                  have hyl : (allB (T.take (i + 1)) []).length = O := HO.out
                  obtain ⟨ya, yc, hy⟩ := oy.rd.len
                  rw [hyl] at hy
                  subst hy
                  have HB4 : Hid (Below wc.heap.size wc w4) := bsplit HBR.out hb4
                  clear hal hb4 oy hyl
                  go_wp2_with fail
                  go_roundg (gk - 1)
                  case measure => exact q1
                  case rel => exact ⟨i + 1, wh, q2, by go_num, rfl, HT2, HB4⟩
              · have HT2 : Hid (TornI T cut b (i + 1) wh) := HTI.out.not (by
                  rw [HO.out]
                  rintro (h | ⟨h, _⟩)
                  · exact hoc h
                  · exact hoe h)
                have hoeI : ¬ (O : Int) = (cut : Int) := by omega
                have hoeb : ((O : Int) == (cut : Int)) = false := by simpa using hoeI
                go_wp2_with fail
                refine hal.mono ?_
                rintro e w4 ⟨y, rfl, oy, hb4⟩
                have hyl : (allB (T.take (i + 1)) []).length = O := HO.out
                obtain ⟨ya, yc, hy⟩ := oy.rd.len
                rw [hyl] at hy
                subst hy
                have HB4 : Hid (Below wc.heap.size wc w4) := bsplit HBR.out hb4
                clear hal hb4 oy hyl
                go_wp2_with fail
                go_roundg (gk - 1)
                case measure => exact q1
                case rel => exact ⟨i + 1, wh, q2, by go_num, rfl, HT2, HB4⟩
          · have him : i = m := by omega
            subst him
            have hni2 : ¬ (i : Int) < (i : Int) := by omega
            have hre := torn_replay G cut wh b (fun n hn => (fit_back (HGF.out n hn).2 (HGF.out n hn).1).1) (fun n hn => by have := (fit_back (HGF.out n hn).2 (HGF.out n hn).1).2; omega) (by rw [HTq.out, HPQ.out, HL.out]; exact HPL.out.2) (by rw [HTq.out, HG.out.2]; exact HTI.out)
            rw [HTq.out, HPQ.out] at hre
            have hwm : wh ≤ i := HTI.out.le
            have HWL : Hid ((G.take wh).length = wh) := by show _ = _; rw [List.length_take, HG.out.2]; exact Nat.min_eq_left hwm
            have HBWR : Hid (Below w.heap.size w wr) := bsplit HBXW.out HBR.out
            have hrp := replay_any wr (.slice pa cut pc) (tornP P cut b) (HPT.out.1.below HBR.out (Nat.le_refl _)) (fun q hq => Nat.lt_of_lt_of_le (HPT.out.2 q hq) HBR.out.size) (by
              unfold tornP
              split
              · simp
              · rw [List.length_set, List.length_take, HL.out]; have := HPL.out; omega) (HT.out.below HBWR.out (Nat.le_refl _))
            rw [hre, HWL.out] at hrp
            have HGW : Hid (RdN wr (.slice ga i gc) G) := (HGD.out.below HBX.out (Nat.le_refl _)).below HBR.out (Nat.le_refl _)
            have k1 : (wh : Int) ≤ (gc : Int) := by have := hgc.out; omega
            have k2 : (0 : Int) ≤ (wh : Int) := by omega
            have k3 : (wh : Int) ≤ (i : Int) := by omega
            clear hre
            go_wp2_with fail
            refine hrp.mono ?_
            rintro e w5 ⟨y, rfl, ry, hb5⟩
            obtain ⟨ya, yc, rfl⟩ : ∃ ya yc, y = .slice ya wh yc := by obtain ⟨ao, cap, e, _⟩ := ry; rw [HWL.out] at e; exact ⟨ao, cap, e⟩
            have HB5 : Hid (Below w.heap.size w w5) := bsplit HBWR.out hb5
            have hbk := back_any w5.drew _ (G.take wh) ry (by rw [HWL.out]; omega)
            have HG5 : Hid (RdN w5 (.slice ga i gc) G) := HGW.out.below hb5 (Nat.le_refl _)
            clear hrp hb5 ry
            go_wp2_with fail
            go_region_held3 (fun _ => True) (exact trivial)
              (first
                | (go_at_call 16; refine hbk.mono ?_; rintro e w7 ⟨x7, rfl, r7, hb7⟩
                   obtain ⟨xa7, xc7, e7⟩ : ∃ xa xc, x7 = .slice xa wh xc := by obtain ⟨ao, cap, e, _⟩ := r7; rw [HWL.out] at e; exact ⟨ao, cap, e⟩
                   subst e7
                   have HB7 : Hid (Below w.heap.size w w7) := bsplit HB5.out.drew hb7
                   have hs := HSAME.out w7 _ (.slice ga wh gc) (G.take wh) (G.take wh) true r7 (rdN_take (HG5.out.below (bsplit (Below.refl _ _).drew hb7) (Nat.le_refl _)) wh (by rw [HG.out.2]; omega)) ⟨fun _ => rfl, fun _ => rfl⟩
                   clear hbk hb7 r7)
                | (go_at_call 15; refine hs.mono ?_; rintro e w8 ⟨rfl, n8, hw8⟩
                   have HBx : Hid (Below w.heap.size w w8) := by rw [hw8]; exact below_drewN HB7.out _
                   clear hs hw8)
                | fail)
            go_wp2
            go_ret
            exact ⟨rfl, HBx.out⟩

theorem entryTorn_walk (a0 : Option Addr) (len0 cap0 : Nat) (z0 : List NtB) (a1 : Int) (a2 : Int) (w : World) (w0 : ArgN w (.slice a0 len0 cap0) z0 ∧ ∀ n ∈ z0, n.2.1 < 18446744073709551616) (w1 : (Lit.int .u16 a1).wf = true) (w2 : (Lit.int .u8 a2).wf = true) (ht : Tab w) :
    Calls Tryd.prog 5 #[.slice a0 len0 cap0, .int .u16 a1, .int .u8 a2] w fun e w' => e = .returned (.bool true) ∧ Below w.heap.size w w' := by
  have h1 := bounds_u16 w1
  have h2 := bounds_u8 w2
  obtain ⟨n, rfl⟩ : ∃ n : Nat, a2 = (n : Int) := ⟨a2.toNat, by omega⟩
  refine etorn sament_any w _ z0 a1 (UInt8.ofNat n) n ⟨?_, by omega⟩ w0.1 w0.2 (by omega) (by omega) ht
  simp
  omega

end Go.Proofs.YtmgofohaoppajaaDoor

/- entry.Log. -/
namespace Go.Proofs.YtmgofohaoppajaaDoor
set_option maxRecDepth 20000
open Go.RowKit
set_option linter.unusedVariables false

/-- where the loop has come to -/
structure LogI (w wr : World) (pv : Value) (ns : List NtB) (j : Nat) : Prop where
  ow : OwnN w.heap.size wr pv (allB ((ns.take j).map bytN) [])
  ft : ∀ i (h : i < ns.length), i < j → fitN ns[i] = true
  be : Below w.heap.size w wr

theorem log_snoc {ns : List NtB} {j : Nat} (h : j < ns.length) : allB ((ns.take (j + 1)).map bytN) [] = allB ((ns.take j).map bytN) [] ++ frameB (allB ((ns.take j).map bytN) []).length (bytN ns[j]) := by
  rw [List.take_succ_eq_append_getElem h, List.map_append, List.map_cons, List.map_nil, allB_snoc]

theorem log_most {ns : List NtB} {j : Nat} (hF : ∀ n ∈ ns, FewF n) (hn : ns.length ≤ 10) (hf : ∀ i (h : i < ns.length), i < j → fitN ns[i] = true) : (allB ((ns.take j).map bytN) []).length ≤ 940200 := by
  have h1 := allB_most 47000 ((ns.take j).map bytN) [] (fun r hr => by
    obtain ⟨n, h1, rfl⟩ := List.mem_map.1 hr
    obtain ⟨i, hi, rfl⟩ := List.getElem_of_mem h1
    rw [List.length_take] at hi
    rw [List.getElem_take]
    exact (fit_back (hF _ (List.getElem_mem _)) (hf i (by omega) (by omega))).2)
  rw [List.length_map, List.length_take, List.length_nil] at h1
  omega

/-- what entry.Log answers -/
def LogPost (ns : List NtB) (w w' : World) (o : Ending) : Prop :=
  Below w.heap.size w w' ∧ if ns.all fitN = true then ∃ x, o = .returned (.tuple #[x, .int .i64 0]) ∧ OwnN w.heap.size w' x (allB (ns.map bytN) []) else o = .returned (.tuple #[.slice none 0 0, .int .i64 4])

set_option maxHeartbeats 4000000 in
theorem elog_any (w : World) (v : Value) (ns : List NtB) (hv : RdN w v ns) (hF : ∀ n ∈ ns, FewF n) (hn : ns.length ≤ 10) (hT : Tab w) (h0 : 0 < w.heap.size) :
    Calls Tryd.prog 8 #[v] w fun o w' => LogPost ns w w' o := by
  obtain ⟨i0, hi, hz0, hz1, hz2⟩ := info_parts info5
  have HV : Hid (RdN w v ns) := hv
  have HT : Hid (Tab w) := hT
  have H0 : Hid (0 < w.heap.size) := h0
  have HF : Hid (∀ n ∈ ns, FewF n) := hF
  obtain ⟨ao, cap, rfl, h1, h2, _⟩ := hv
  unfold maxLen at h2
  obtain ⟨N, hN⟩ : ∃ N, ns.length = N := ⟨_, rfl⟩
  have HN : Hid (ns.length = N) := hN
  rw [hN] at h1 hn HV ⊢
  clear hT h0 hF hN
  go_enter Tryd.func8, Tryd.ntmps8
  go_wp2_with fail
  go_loopg [4, 12] N (fun gk pv iv wr => ∃ (j : Nat) (pa : Option Addr) (pl pc : Nat), gk + j = N ∧ iv = .int .i64 (j : Int) ∧ pv = .slice pa pl pc ∧ Hid ((allB ((ns.take j).map bytN) []).length = pl) ∧ Hid (LogI w wr pv ns j))
  case atStart => exact ⟨0, none, 0, 0, by omega, rfl, rfl, rfl, ⟨.inl ⟨rfl, rfl⟩, fun i h h2 => absurd h2 (Nat.not_lt_zero _), Below.refl _ _⟩⟩
  case round =>
    obtain ⟨j, pa, pl, pc, hj, rfl, rfl, HPL, HI⟩ := hrel
    by_cases hlt : j < N
    · have hlt2 : j < ns.length := by rw [HN.out]; exact hlt
      obtain ⟨p, o, na, nc, oa, oc, rfl, d0, d1, d2, d3, rx, ry⟩ := rdN_at HV.out HI.out.be hlt2
      obtain ⟨q1, q2⟩ := gk_nxt hj hlt
      have HSN := log_snoc hlt2
      obtain ⟨n, hnq⟩ : ∃ n, ns[j] = n := ⟨_, rfl⟩
      have HFF : Hid (FewF n) := by rw [← hnq]; exact HF.out _ (List.getElem_mem hlt2)
      rw [hnq] at d0 d1 d2 d3 rx ry HSN
      obtain ⟨nl, hnl⟩ : ∃ z, n.2.2.1.length = z := ⟨_, rfl⟩
      obtain ⟨ol, hol⟩ : ∃ z, n.2.2.2.length = z := ⟨_, rfl⟩
      obtain ⟨kk, hkk⟩ : ∃ z, n.1.toNat = z := ⟨_, rfl⟩
      obtain ⟨sq, hsq⟩ : ∃ z, n.2.1 = z := ⟨_, rfl⟩
      rw [hkk] at d0
      rw [hsq] at d1
      rw [hnl] at d2 rx
      rw [hol] at d3 ry
      have hb3 := below_box4 wr (.cells #[.int .u8 (kk : Int), .int .u64 (sq : Int), .slice na nl nc, .slice oa ol oc] 54)
      have HB3 : Hid (Below w.heap.size w (wr.alloc (.cells #[.int .u8 (kk : Int), .int .u64 (sq : Int), .slice na nl nc, .slice oa ol oc] 54))) := bsplit HI.out.be hb3
      have HOW3 : Hid (OwnN w.heap.size (wr.alloc (.cells #[.int .u8 (kk : Int), .int .u64 (sq : Int), .slice na nl nc, .slice oa ol oc] 54)) (.slice pa pl pc) (allB ((ns.take j).map bytN) [])) := HI.out.ow.below hb3 (Nat.le_refl _)
      obtain ⟨z0, z1', z2, z3⟩ := box4_new wr (.int .u8 (kk : Int)) (.int .u64 (sq : Int)) (.slice na nl nc) (.slice oa ol oc) 54
      cases hf : fitN n with
      | false =>
        have hrb := ebytes_no (wr.alloc (.cells #[.int .u8 (kk : Int), .int .u64 (sq : Int), .slice na nl nc, .slice oa ol oc] 54)) n na nl nc oa ol oc (rx.below HB3.out (Nat.le_refl _)) (LsO.below ry HB3.out (Nat.le_refl _)) (fun h => by
          unfold fitN at hf
          rw [h.1, h.2] at hf
          simp at hf)
        rw [hkk, hsq] at hrb
        have HALL : Hid (¬ ns.all fitN = true) := fun h => by
          rw [List.all_eq_true] at h
          have := h ns[j] (List.getElem_mem hlt2)
          rw [hnq, hf] at this
          cases this
        clear rx ry hnq hkk hsq hnl hol hb3 hf HSN
        go_wp2_with fail
        refine hrb.mono ?_
        rintro e w5 ⟨rfl, hb5⟩
        have HB5 : Hid (Below w.heap.size w w5) := bsplit HB3.out hb5
        clear hrb hb5 z0 z1' z2 z3 d0 d1 d2 d3
        go_wp2
        go_ret2
        refine ⟨HB5.out, ?_⟩
        rw [if_neg HALL.out]
        rfl
      | true =>
        obtain ⟨f1, f2⟩ := fit_facts hf
        have hrb := ebytes_ok (wr.alloc (.cells #[.int .u8 (kk : Int), .int .u64 (sq : Int), .slice na nl nc, .slice oa ol oc] 54)) kk sq na nl nc oa ol oc n.2.2.1 n.2.2.2 (by rw [← hkk]; exact n.1.toNat_lt) (by rw [← hsq]; exact HFF.out.sq) (by rw [← hkk, ← hsq, ← hnl, ← hol]; exact f1) (rx.below HB3.out (Nat.le_refl _)) (by have := HFF.out.nl; omega) (LsO.below ry HB3.out (Nat.le_refl _)) f2 (chk_most f2) (by have := HFF.out.sz; omega)
        have HBY : Hid (noteB kk sq n.2.2.1 n.2.2.2 = bytN n) := by show _ = _; unfold bytN; rw [hkk, hsq]
        have hbl47 := (fit_back HFF.out hf).2
        have HFT : Hid (∀ i (h : i < ns.length), i < j + 1 → fitN ns[i] = true) := fun i h hij => by
          by_cases e : i = j
          · subst e; rw [hnq]; exact hf
          · exact HI.out.ft i h (by omega)
        have hmst := log_most HF.out (by rw [HN.out]; exact hn) HI.out.ft
        rw [HPL.out] at hmst
        obtain ⟨A, hA⟩ : ∃ A, allB ((ns.take j).map bytN) [] = A := ⟨_, rfl⟩
        rw [hA, show A.length = pl by rw [← hA]; exact HPL.out] at HSN
        have HPA : Hid (A.length = pl) := by rw [← hA]; exact HPL.out
        rw [hA] at HOW3
        clear rx ry hnq hkk hsq hnl hol hb3 hf f1 f2 hA
        go_wp2_with fail
        refine hrb.mono ?_
        rintro e w5 ⟨xb, rfl, ob, hb5⟩
        rw [HBY.out] at ob
        obtain ⟨gb, bc, rfl⟩ := ob.shape
        obtain ⟨bl, hbl⟩ : ∃ c, (bytN n).length = c := ⟨_, rfl⟩
        rw [hbl] at ob hbl47 ⊢
        have HB5 : Hid (Below w.heap.size w w5) := bsplit HB3.out hb5
        have HOW5 : Hid (OwnN w.heap.size w5 (.slice pa pl pc) A) := HOW3.out.below hb5 (Nat.le_refl _)
        have hfr := frame_any w5 pl _ (bytN n) ob.rd (fun q hq => by cases hq; exact ob.lt.2) (by rw [hbl]; omega) (HT.out.below HB5.out (Nat.le_refl _)) (Nat.lt_of_lt_of_le H0.out HB5.out.size)
        obtain ⟨FB, hFB⟩ : ∃ FB, frameB pl (bytN n) = FB := ⟨_, rfl⟩
        have hFl : FB.length ≤ 94020 := by have := frame_most pl (bytN n); rw [hFB, hbl] at this; omega
        rw [hFB] at hfr HSN
        have HSN2 : Hid (allB ((ns.take (j + 1)).map bytN) [] = A ++ FB) := HSN
        have HBD : Hid (pl + FB.length ≤ maxLen ∧ (pl + FB.length) * 1 ≤ 140737488355328) := by show _ ∧ _; unfold maxLen; omega
        clear hrb hb5 ob hbl z0 z1' z2 z3 d0 d1 d2 d3 hFB hFl hmst hbl47 HSN
        go_wp2_with fail
        refine hfr.mono ?_
        rintro e w6 ⟨g6, c6, rfl, o6, hb6⟩
        have HB6 : Hid (Below w.heap.size w w6) := bsplit HB5.out hb6
        have hrow := ownN_row (HOW5.out.below hb6 (Nat.le_refl _))
        rw [HPA.out] at hrow
        have hfc := (rd_cells o6.rd).2
        obtain ⟨fl, hfl⟩ : ∃ n, FB.length = n := ⟨_, rfl⟩
        have HFL : Hid (FB.length = fl) := hfl
        rw [hfl] at HBD ⊢
        clear hfr hb6 hfl
        go_wp2_with (first | (at_builtin; refine wpList_append_own _ rfl (.tmp 34) (.tmp 35) 26 rfl w.heap.size 5 i0 (.int .u8 0) 1 1 Tryd.underlying26 hi hz0 hz1 hz2 rfl (by decide) (.slice pa pl pc) pl (bv A) rfl hrow ⟨g6, 0, none⟩ fl c6 (bv FB) rfl (by rw [bv_length, Nat.mul_one]; exact HFL.out) hfc (bv_one _) HBD.out.1 HBD.out.2 HB6.out.size ?_; intro v' w7 ho' hgr' hn'; have HO7 : Hid (OwnN w.heap.size w7 v' (A ++ FB)) := (ownN_of_rowT (by rw [HPA.out, HFL.out]; exact ho')); have HB7 : Hid (Below w.heap.size w w7) := (HB6.out.grown hgr' HB6.out.size (fun k' e => (hrow.lt k' e).1)); obtain ⟨va, vc, hvv⟩ := HO7.out.rd.len; subst hvv; clear ho' hgr' hn') | fail)
        clear hrow hfc
        go_roundg (gk - 1)
        case measure => exact q1
        case rel => exact ⟨j + 1, va, A.length + FB.length, vc, q2, by go_num, rfl, by show _ = _; rw [HSN2.out, List.length_append], ⟨by rw [HSN2.out, ← List.length_append]; exact HO7.out, HFT.out, HB7.out⟩⟩
    · have hjN : j = N := by omega
      subst hjN
      have hni : ¬ (j : Int) < (j : Int) := by omega
      have HALL : Hid (ns.all fitN = true) := by
        show _ = true
        rw [List.all_eq_true]
        intro n hn
        obtain ⟨i, hi, rfl⟩ := List.getElem_of_mem hn
        exact HI.out.ft i hi (by rw [HN.out] at hi; exact hi)
      have HO : Hid (OwnN w.heap.size wr (.slice pa pl pc) (allB (ns.map bytN) [])) := by
        have h9 := HI.out.ow
        rw [← HN.out, List.take_length] at h9
        exact h9
      go_wp2
      go_ret2
      refine ⟨HI.out.be, ?_⟩
      rw [if_pos HALL.out]
      exact ⟨_, rfl, HO.out⟩

end Go.Proofs.YtmgofohaoppajaaDoor

/- bartizanlaw07's of. -/
namespace Go.Proofs.YtmgofohaoppajaaDoor
open Go.RowKit
set_option linter.unusedVariables false

set_option maxHeartbeats 4000000 in
theorem of_any (w : World) (v : Value) (ns : List NtB) (hv : RdN w v ns) (hn : ns.length ≤ 1000000) :
    Calls Tryd.prog 9 #[v] w fun o w' => ∃ y, o = .returned y ∧ RdN w' y ns ∧ Below w.heap.size w w' := by
  obtain ⟨i0, hi, hz0, hz1, hz2⟩ := info_parts infoNoteE
  obtain ⟨ao, cap, rfl, h1, h2, h3⟩ := hv
  unfold maxLen at h2
  have H3 : Hid _ := h3
  obtain ⟨N, hN⟩ : ∃ N, ns.length = N := ⟨_, rfl⟩
  rw [hN] at h1 hn ⊢
  have HN : Hid (ns.length = N) := hN
  clear h3 hN
  go_enter Tryd.func9, Tryd.ntmps9
  go_wp2_with fail
  go_loopg [3, 8] N (fun gk pv iv wr => ∃ (j : Nat) (a' : Option Addr) (c' : Nat), gk + j = N ∧ iv = .int .i64 (j : Int) ∧ pv = .slice a' j c' ∧ Hid (BckI 54 w wr pv ns j))
  case atStart => exact ⟨0, none, 0, by omega, rfl, rfl, ⟨⟨[], World.ownsRow_nil _ _ _ _, fun i h => absurd h (Nat.not_lt_zero _)⟩, Below.refl _ _⟩⟩
  case round =>
    obtain ⟨j, a', c', hj, rfl, rfl, HI⟩ := hrel
    by_cases hlt : j < N
    · have hlt2 : j < ns.length := by rw [HN.out]; exact hlt
      obtain ⟨b, off, rfl, xv, yv, c0, c1, c2, c3, rx, ry⟩ := H3.out j hlt2
      obtain ⟨xa, xc, rfl⟩ := rx.len
      obtain ⟨ya, yc, rfl⟩ := rdo_shape ry
      have hbl := World.block_lt_of_cell? w _ c0
      have d0 := (HI.out.be.cell (p := ⟨b, off + j * 4, none⟩) hbl).trans c0
      have d1 := (HI.out.be.cell (p := ⟨b, off + j * 4 + 1, none⟩) hbl).trans c1
      have d2 := (HI.out.be.cell (p := ⟨b, off + j * 4 + 2, none⟩) hbl).trans c2
      have d3 := (HI.out.be.cell (p := ⟨b, off + j * 4 + 3, none⟩) hbl).trans c3
      have HRX : Hid (Rd w (.slice xa (ns[j]).2.2.1.length xc) (ns[j]).2.2.1 ∧ RdO w (.slice ya (ns[j]).2.2.2.length yc) (ns[j]).2.2.2) := ⟨rx, ry⟩
      obtain ⟨k, hk⟩ : ∃ k, (ns[j]).1.toNat = k := ⟨_, rfl⟩
      obtain ⟨s, hs⟩ : ∃ s, (ns[j]).2.1 = s := ⟨_, rfl⟩
      have HK : Hid ((ns[j]).1.toNat = k ∧ (ns[j]).2.1 = s) := ⟨hk, hs⟩
      obtain ⟨xl, hxl⟩ : ∃ xl, (ns[j]).2.2.1.length = xl := ⟨_, rfl⟩
      obtain ⟨yl, hyl⟩ : ∃ yl, (ns[j]).2.2.2.length = yl := ⟨_, rfl⟩
      rw [hxl, hyl] at HRX
      rw [hk] at d0
      rw [hs] at d1
      rw [hxl] at d2
      rw [hyl] at d3
      obtain ⟨q1, q2⟩ := gk_nxt hj hlt
      have HJ : Hid (j ≤ 1000000) := by show j ≤ _; omega
      have hbx := below_box4 wr (.cells #[.int .u8 (k : Int), .int .u64 (s : Int), .slice xa xl xc, .slice ya yl yc] 36)
      obtain ⟨z0, z1, z2, z3⟩ := box4_new wr (.int .u8 (k : Int)) (.int .u64 (s : Int)) (.slice xa xl xc) (.slice ya yl yc) 36
      have hbx2 := below_box4 (wr.alloc (.cells #[.int .u8 (k : Int), .int .u64 (s : Int), .slice xa xl xc, .slice ya yl yc] 36)) (.cells #[.int .u8 (k : Int), .int .u64 (s : Int), .slice xa xl xc, .slice ya yl yc] 54)
      have hlit := laid4 (wr.alloc (.cells #[.int .u8 (k : Int), .int .u64 (s : Int), .slice xa xl xc, .slice ya yl yc] 36)) (.int .u8 (k : Int)) (.int .u64 (s : Int)) (.slice xa xl xc) (.slice ya yl yc) 54
      rw [show (wr.alloc (.cells #[.int .u8 (k : Int), .int .u64 (s : Int), .slice xa xl xc, .slice ya yl yc] 36)).heap.size = wr.heap.size + 1 by simp] at hlit
      obtain ⟨cs, hrow0, hel⟩ := HI.out.ow
      have hrow := row_below (row_below hrow0 hbx) hbx2
      have hBe := (HI.out.be.trans (hbx.mono HI.out.be.size)).trans (hbx2.mono (Nat.le_trans HI.out.be.size hbx.size))
      have hse := hBe.size
      have HBE : Hid _ := hBe
      have HEL : Hid _ := hel
      have HRW : Hid _ := hrow
      clear rx ry hbl c0 c1 c2 c3 hk hs hxl hyl hbx hbx2 hrow0 hel hBe
      go_wp2_with (first | (at_builtin; refine wpList_append_lies _ rfl (.tmp 12) (.tmp 14) 30 rfl w.heap.size 54 i0 (.agg #[.int .u8 0, .int .u64 0, .slice none 0 0, .slice none 0 0]) 4 64 Tryd.underlying30 hi hz0 hz1 hz2 rfl (by decide) (.slice a' j c') j cs rfl hrow ⟨wr.heap.size + 1, 0, none⟩ 1 1 [.int .u8 (k : Int), .int .u64 (s : Int), .slice xa xl xc, .slice ya yl yc] rfl rfl hlit (one4 _ _ _ _ _ _ _ _) (by decide) (rep_bd HJ.out).1 (rep_bd HJ.out).2 hse _ rfl ?_; intro g4 c4 w4 hown hgrow hat hlt4; have HI4 : Hid (BckI 54 w w4 (.slice (some ⟨g4, 0, none⟩) (j + 1) c4) ns (j + 1)) := BckI.push (wr := wr) hlt2 HK.out.1 HK.out.2 HEL.out HRW.out HRX.out.1 HRX.out.2 HBE.out hown hgrow; clear hown hgrow hat hlt4) | fail)
      clear hrow hlit z0 z1 z2 z3 hse
      go_roundg (gk - 1)
      case measure => exact q1
      case rel => exact ⟨j + 1, _, c4, q2, by go_num, rfl, HI4⟩
    · have hjI : ¬ (j : Int) < (N : Int) := by omega
      have hje : j = ns.length := by rw [HN.out]; omega
      have HR : Hid (RdN wr (.slice a' j c') ns) := by
        have h9 := HI.out
        rw [hje] at h9 ⊢
        exact h9.rd
      clear hje
      go_wp2
      go_ret
      exact ⟨_, rfl, HR.out, HI.out.be⟩

end Go.Proofs.YtmgofohaoppajaaDoor

/- EntryLogs answers true. -/
namespace Go.Proofs.YtmgofohaoppajaaDoor
set_option maxRecDepth 20000
open Go.RowKit
set_option linter.unusedVariables false

theorem torn_some (T : List (List UInt8)) (k : Nat) (b : UInt8) : ∀ j, ∃ wh, TornI T k b j wh
  | 0 => ⟨0, TornI.start _ _ _⟩
  | j + 1 => by
    obtain ⟨wh, h⟩ := torn_some T k b j
    by_cases hc : offT T (j + 1) < k ∨ (offT T (j + 1) = k ∧ b = 0)
    · exact ⟨_, h.yes hc⟩
    · exact ⟨_, h.not hc⟩

theorem torn_none {P : List UInt8} {k : Nat} (hk : k ≤ P.length) : tornP P k 0 = P.take k := by
  unfold tornP
  split
  · rename_i h; rw [h]; rfl
  · rename_i h
    have hl : k - 1 < (P.take k).length := by rw [List.length_take]; omega
    have e : P.getD (k - 1) 0 ^^^ 0 = (P.take k)[k - 1] := by
      rw [List.getD_eq_getElem?_getD, List.getElem?_eq_getElem (by omega), List.getElem_take]
      simp
    rw [e]
    exact List.set_getElem_self hl

/-- of a log that is cut anywhere as many records are read, and entries replayed, as lie whole ahead of the cut -/
theorem cut_some {G : List NtB} {k : Nat} (hn : ∀ n ∈ G, noteS (bytN n) = some n) (hl : ∀ n ∈ G, (bytN n).length ≤ 47000) (hk : k ≤ (allB (G.map bytN) []).length) :
    ∃ wh, wh ≤ G.length ∧ (readB ((allB (G.map bytN) []).take k)).1 = (G.take wh).map bytN ∧ replayN (readB ((allB (G.map bytN) []).take k)).1 = G.take wh := by
  obtain ⟨wh, h⟩ := torn_some (G.map bytN) k 0 (G.map bytN).length
  have h2 := torn_read (G.map bytN) k wh 0 (fun r hr => by obtain ⟨n, h1, rfl⟩ := List.mem_map.mp hr; have := hl n h1; omega) hk h.le h.ok h.no
  rw [torn_none hk, ← List.map_take] at h2
  refine ⟨wh, by have := h.le; rwa [List.length_map] at this, h2, ?_⟩
  rw [h2, replayN_map _ (fun n h1 => hn n (List.mem_of_mem_take h1))]

/-- what the loop of the records has come to -/
structure RcI (w wr : World) (rv : Value) (FN : List NtB) (j : Nat) : Prop where
  rc : OwnT w.heap.size wr rv ((FN.take j).map bytN)
  be : Below w.heap.size w wr

theorem RcI.below {w wr w' : World} {rv : Value} {FN : List NtB} {j : Nat} (h : RcI w wr rv FN j) (hb : Below wr.heap.size wr w') : RcI w w' rv FN j :=
  ⟨h.rc.below hb (Nat.le_refl _), bsplit h.be hb⟩

theorem tmod_pos2 (z : Int) (L : Nat) (h0 : 0 ≤ z) : ∃ c : Nat, z.tmod ((L : Int) + 1) = (c : Int) ∧ c ≤ L ∧ (c : Int) ≤ z := by
  obtain ⟨n, rfl⟩ := Int.eq_ofNat_of_zero_le h0
  refine ⟨n % (L + 1), ?_, by have := Nat.mod_lt n (show 0 < L + 1 by omega); omega, by have := Nat.mod_le n (L + 1); exact Int.ofNat_le.2 this⟩
  rw [Int.tmod_eq_emod_of_nonneg h0]
  exact (Int.natCast_emod n (L + 1)).symm

theorem rc_push {w W w7 : World} {ra : Option Addr} {rc j g7 c7 : Nat} {x : Value} {FN : List NtB} {n : NtB} {rs : List Value} (h : RcI w W (.slice ra j rc) FN j) (hj : j < FN.length) (hn : FN[j] = n) (hrow : W.ownsRow w.heap.size 26 1 (.slice ra j rc) j rs) (hel : ∀ i (h : i < ((FN.take j).map bytN).length), ∃ x, rs[i]? = some x ∧ OwnN w.heap.size W x ((FN.take j).map bytN)[i]) (hx : OwnN w.heap.size W x (bytN n))
    (hn7 : w7.ownsRow w.heap.size 26 1 (.slice (some ⟨g7, 0, none⟩) (j + 1) c7) (j + 1) (rs ++ [x])) (hg : W.grownBy w7 (Value.slice ra j rc).ownBlock) : RcI w w7 (.slice (some ⟨g7, 0, none⟩) (j + 1) c7) FN (j + 1) := by
  have hl : ((FN.take j).map bytN).length = j := by rw [List.length_map, List.length_take]; omega
  refine ⟨?_, h.be.grown hg h.be.size (fun k' e => (hrow.lt k' e).1)⟩
  rw [List.take_succ_eq_append_getElem hj, List.map_append, List.map_cons, List.map_nil, hn]
  exact own_push1 (bytN n) (by rw [hl]; exact hrow) hel hx (by rw [hl]; exact hn7) hg

set_option maxHeartbeats 8000000 in
theorem elogs (HSAME : Hid (∀ (w : World) (va vb : Value) (os ps : List NtB) (r : Bool), RdN w va os → RdN w vb ps → (os = ps ↔ r = true) → Calls Tryd.prog 15 #[va, vb] w fun e w' => e = .returned (.bool r) ∧ ∃ n, w' = w.drewN n)) (w : World) (v : Value) (ns : List NtB) (z : Int) (hv : ArgN w v ns) (hns : ∀ n ∈ ns, n.2.1 < 18446744073709551616) (hz0 : 0 ≤ z) (hz1 : z ≤ 65535) (hT : Tab w) (h0 : 0 < w.heap.size) :
    Calls Tryd.prog 3 #[v, .int .u16 z] w fun e w' => e = .returned (.bool true) ∧ Below w.heap.size w w' := by
  obtain ⟨i2, hi2, hy0, hy1, hy2⟩ := info_parts info24
  have HV : Hid (ArgN w v ns) := hv
  have HT : Hid (Tab w) := hT
  have H0 : Hid (0 < w.heap.size) := h0
  obtain ⟨va, vc, rfl, _⟩ := hv
  have HNS : Hid (∀ n ∈ ns, n.2.1 < 18446744073709551616) := hns
  clear hT hns h0
  go_enter Tryd.func3, Tryd.ntmps3
  go_wp2_with fail
  refine (eawake_any _).mono ?_
  rintro e w1 ⟨rfl, hb1⟩
  have HB1 : Hid (Below w.heap.size w w1) := hb1
  have hfw := fewnt_any w1 _ ns 10 (HV.out.below hb1 (Nat.le_refl _)) (by decide)
  clear hb1
  go_wp2_with fail
  refine hfw.mono ?_
  rintro e w2 ⟨x2, rfl, o2, hb2⟩
  have HB2 : Hid (Below w.heap.size w w2) := bsplit HB1.out hb2
  obtain ⟨FN, hFN⟩ : ∃ F, fewN 10 ns = F := ⟨_, rfl⟩
  have hfa := fewN_all (m := 10) HNS.out
  rw [hFN] at o2 hfa
  have HFA : Hid (∀ n ∈ FN, FewF n) := hfa.2
  have HRN : Hid (RdN w2 x2 FN) := o2.rd
  obtain ⟨xa, xc, rfl, hx9, hx8, _⟩ := o2.rd
  unfold maxLen at hx8
  obtain ⟨N, hN⟩ : ∃ n, FN.length = n := ⟨_, rfl⟩
  have HN : Hid (FN.length = N) := hN
  have hN8 : N ≤ 10 := by rw [← hN]; exact hfa.1
  rw [hN] at HRN hx9 ⊢
  have hof := of_any w2 _ FN HRN.out (by rw [hN]; omega)
  clear hfw hb2 o2 hFN hfa hN
  go_wp2_with fail
  refine hof.mono ?_
  rintro e w3 ⟨y3, rfl, r3, hb3⟩
  have HB3 : Hid (Below w.heap.size w w3) := bsplit HB2.out hb3
  have HB23 : Hid (Below w2.heap.size w2 w3) := hb3
  have hlg := elog_any w3 y3 FN r3 HFA.out (by rw [HN.out]; exact hN8) (HT.out.below HB3.out (Nat.le_refl _)) (Nat.lt_of_lt_of_le H0.out HB3.out.size)
  obtain ⟨ya, yc, rfl, _⟩ := r3
  clear hof hb3
  go_wp2_with fail
  refine hlg.mono ?_
  rintro e w4 ⟨hb4, hpost⟩
  have HB4 : Hid (Below w.heap.size w w4) := bsplit HB3.out hb4
  have HB24 : Hid (Below w2.heap.size w2 w4) := bsplit HB23.out hb4
  have HR4 : Hid (RdN w4 (.slice xa N xc) FN) := HRN.out.below HB24.out (Nat.le_refl _)
  clear hlg
  cases hall : FN.all fitN with
  | false =>
    rw [hall] at hpost
    simp only [Bool.false_eq_true, if_false] at hpost
    subst hpost
    have HAL : Hid (FN.all fitN = false) := hall
    clear hall hb4
    go_wp2_with fail
    go_loopg [7, 8, 32] N (fun gk rv wv iv wr => ∃ (j : Nat) (ra : Option Addr) (rc : Nat), gk + j = N ∧ iv = .int .i64 (j : Int) ∧ wv = .int .i64 0 ∧ rv = .slice ra j rc ∧ Hid (∀ i (h : i < FN.length), i < j → fitN FN[i] = true) ∧ Hid (RcI w4 wr rv FN j))
    case atStart => exact ⟨0, none, 0, by omega, rfl, rfl, rfl, fun i h h2 => absurd h2 (Nat.not_lt_zero _), ⟨OwnT.nil _ _, Below.refl _ _⟩⟩
    case round =>
      obtain ⟨j, ra, rc, hj, rfl, rfl, rfl, HFT, HI⟩ := hrel
      by_cases hlt : j < N
      · have hlt2 : j < FN.length := by rw [HN.out]; exact hlt
        obtain ⟨p, o, na, nc, oa, oc, rfl, d0, d1, d2, d3, rx, ry⟩ := rdN_at HR4.out HI.out.be hlt2
        obtain ⟨q1, q2⟩ := gk_nxt hj hlt
        obtain ⟨n, hn⟩ : ∃ n, FN[j] = n := ⟨_, rfl⟩
        have HFF : Hid (FewF n) := by rw [← hn]; exact HFA.out _ (List.getElem_mem hlt2)
        have HNJ : Hid (FN[j] = n) := hn
        rw [hn] at d0 d1 d2 d3 rx ry
        obtain ⟨nl, hnl⟩ : ∃ z, n.2.2.1.length = z := ⟨_, rfl⟩
        obtain ⟨ol, hol⟩ : ∃ z, n.2.2.2.length = z := ⟨_, rfl⟩
        obtain ⟨kk, hkk⟩ : ∃ z, n.1.toNat = z := ⟨_, rfl⟩
        obtain ⟨sq, hsq⟩ : ∃ z, n.2.1 = z := ⟨_, rfl⟩
        rw [hkk] at d0
        rw [hsq] at d1
        rw [hnl] at d2 rx
        rw [hol] at d3 ry
        have hb5 := below_box4 wr (.cells #[.int .u8 (kk : Int), .int .u64 (sq : Int), .slice na nl nc, .slice oa ol oc] 36)
        have HB5 : Hid (Below w4.heap.size w4 (wr.alloc (.cells #[.int .u8 (kk : Int), .int .u64 (sq : Int), .slice na nl nc, .slice oa ol oc] 36))) := bsplit HI.out.be hb5
        have HI5 : Hid (RcI w4 (wr.alloc (.cells #[.int .u8 (kk : Int), .int .u64 (sq : Int), .slice na nl nc, .slice oa ol oc] 36)) (.slice ra j rc) FN j) := HI.out.below hb5
        obtain ⟨z0, z1', z2, z3⟩ := box4_new wr (.int .u8 (kk : Int)) (.int .u64 (sq : Int)) (.slice na nl nc) (.slice oa ol oc) 36
        cases hf : fitN n with
        | false =>
          have hrb := refbytes_bad (wr.alloc (.cells #[.int .u8 (kk : Int), .int .u64 (sq : Int), .slice na nl nc, .slice oa ol oc] 36)) n na nl nc oa ol oc (rx.below HB5.out (Nat.le_refl _)) (LsO.below ry HB5.out (Nat.le_refl _)) (fun h => by
            unfold fitN at hf
            rw [h.1, h.2] at hf
            simp at hf)
          rw [hkk, hsq] at hrb
          clear rx ry hn hkk hsq hnl hol hb5 hf
          go_wp2_with fail
          refine hrb.mono ?_
          rintro e w6 ⟨rfl, hb6⟩
          have HB6 : Hid (Below w.heap.size w w6) := bsplit (bsplit HB4.out HB5.out) hb6
          clear hrb hb6 z0 z1' z2 z3 d0 d1 d2 d3
          go_wp2
          go_ret
          exact ⟨rfl, HB6.out⟩
        | true =>
          obtain ⟨f1, f2⟩ := fit_facts hf
          have hrb := refbytes_ok (wr.alloc (.cells #[.int .u8 (kk : Int), .int .u64 (sq : Int), .slice na nl nc, .slice oa ol oc] 36)) kk sq na nl nc oa ol oc n.2.2.1 n.2.2.2 (by rw [← hkk]; exact n.1.toNat_lt) (by rw [← hsq]; exact HFF.out.sq) (by rw [form_right _ _ _ _ (by omega), ← hkk, ← hsq, ← hnl, ← hol]; exact f1) (rx.below HB5.out (Nat.le_refl _)) (by have := HFF.out.nl; omega) (LsO.below ry HB5.out (Nat.le_refl _)) f2 (chk_most f2) (by have := HFF.out.sz; omega)
          have HBY : Hid (noteB kk sq n.2.2.1 n.2.2.2 = bytN n) := by show _ = _; unfold bytN; rw [hkk, hsq]
          have HFT2 : Hid (∀ i (h : i < FN.length), i < j + 1 → fitN FN[i] = true) := fun i h hij => by
            by_cases e : i = j
            · subst e; rw [hn]; exact hf
            · exact HFT.out i h (by omega)
          clear rx ry hn hkk hsq hnl hol hb5 hf f1 f2
          go_wp2_with fail
          refine hrb.mono ?_
          rintro e w6 ⟨xb, rfl, ob, hb6⟩
          rw [HBY.out] at ob
          obtain ⟨gb, bc, rfl⟩ := ob.shape
          obtain ⟨bl, hbl⟩ : ∃ c, (bytN n).length = c := ⟨_, rfl⟩
          rw [hbl] at ob ⊢
          have hb6a := below_box4 w6 (.cells #[.slice (some ⟨gb, 0, none⟩) bl bc] 26)
          have HI6 : Hid (RcI w4 (w6.alloc (.cells #[.slice (some ⟨gb, 0, none⟩) bl bc] 26)) (.slice ra j rc) FN j) := (HI5.out.below hb6).below hb6a
          have HOB : Hid (OwnN w4.heap.size (w6.alloc (.cells #[.slice (some ⟨gb, 0, none⟩) bl bc] 26)) (.slice (some ⟨gb, 0, none⟩) bl bc) (bytN n)) := .inr ((ob.mono HB5.out.size).below hb6a (Nat.le_refl _))
          obtain ⟨rs, hrow, hel⟩ := HI6.out.rc
          rw [List.length_map, List.length_take, HN.out, Nat.min_eq_left (Nat.le_of_lt hlt)] at hrow
          have HEL : Hid _ := hel
          have HRW : Hid _ := hrow
          have hse := HI6.out.be.size
          clear hrb hb6 hb6a ob hbl z0 z1' z2 z3 d0 d1 d2 d3 hel
          go_wp2_with (first | (at_builtin; refine wpList_append_lies _ rfl (.tmp 44) (.tmp 46) 32 rfl w4.heap.size 26 i2 (.slice none 0 0) 1 24 Tryd.underlying32 hi2 hy0 hy1 hy2 rfl (by decide) (.slice ra j rc) j rs rfl hrow ⟨w6.heap.size, 0, none⟩ 1 1 [.slice (some ⟨gb, 0, none⟩) bl bc] rfl rfl (laid1 _ _ _) (one_slice _ _ _) (by decide) (by simp only [maxLen]; omega) (by omega) hse _ rfl ?_; intro g7 c7 w7 hown hgrow hat hlt7; have HI7 : Hid (RcI w4 w7 (.slice (some ⟨g7, 0, none⟩) (j + 1) c7) FN (j + 1)) := (rc_push HI6.out (by rw [HN.out]; exact hlt) HNJ.out HRW.out HEL.out HOB.out hown hgrow); clear hown hgrow hat hlt7) | fail)
          clear hrow hse
          go_roundg (gk - 1)
          case measure => exact q1
          case rel => exact ⟨j + 1, _, _, q2, by go_num, rfl, rfl, HFT2, HI7⟩
      · exfalso
        have h9 : FN.all fitN = true := by
          rw [List.all_eq_true]
          intro n hn
          obtain ⟨i, hi, rfl⟩ := List.getElem_of_mem hn
          exact HFT.out i hi (by rw [HN.out] at hi; omega)
        rw [HAL.out] at h9
        cases h9
  | true =>
    rw [hall, if_pos rfl] at hpost
    obtain ⟨xp, rfl, oP⟩ := hpost
    have HAL : Hid (FN.all fitN = true) := hall
    obtain ⟨P, hPq⟩ : ∃ P, allB (FN.map bytN) [] = P := ⟨_, rfl⟩
    rw [hPq] at oP
    have HPQ : Hid (allB (FN.map bytN) [] = P) := hPq
    have HGB : Hid (∀ n ∈ FN, noteS (bytN n) = some n ∧ (bytN n).length ≤ 47000) := fun n hn => fit_back (HFA.out n hn) ((List.all_eq_true.1 HAL.out) n hn)
    have hPl : P.length ≤ 940200 := by
      have h1 := allB_most 47000 (FN.map bytN) [] (fun r hr => by obtain ⟨n, h1, rfl⟩ := List.mem_map.1 hr; exact (HGB.out n h1).2)
      rw [hPq, List.length_map, HN.out, List.length_nil] at h1
      omega
    obtain ⟨pa, pc, rfl⟩ := oP.rd.len
    obtain ⟨L, hL⟩ : ∃ L, P.length = L := ⟨_, rfl⟩
    rw [hL] at hPl oP ⊢
    have HL : Hid (P.length = L) := hL
    have HOP : Hid (OwnN w3.heap.size w4 (.slice pa L pc) P) := oP
    have hLI : (L : Int) ≤ 940200 := by omega
    have hLI0 : (0 : Int) ≤ (L : Int) := by omega
    clear hall hb4 hPq hL oP
    go_wp2_with fail
    go_loopg [7, 8, 32] N (fun gk rv wv iv wr => ∃ (j : Nat) (ra : Option Addr) (rc : Nat), gk + j = N ∧ iv = .int .i64 (j : Int) ∧ wv = .int .i64 0 ∧ rv = .slice ra j rc ∧ Hid (∀ i (h : i < FN.length), i < j → fitN FN[i] = true) ∧ Hid (RcI w4 wr rv FN j))
    case atStart => exact ⟨0, none, 0, by omega, rfl, rfl, rfl, fun i h h2 => absurd h2 (Nat.not_lt_zero _), ⟨OwnT.nil _ _, Below.refl _ _⟩⟩
    case round =>
      obtain ⟨j, ra, rc, hj, rfl, rfl, rfl, HFT, HI⟩ := hrel
      by_cases hlt : j < N
      · have hlt2 : j < FN.length := by rw [HN.out]; exact hlt
        obtain ⟨p, o, na, nc, oa, oc, rfl, d0, d1, d2, d3, rx, ry⟩ := rdN_at HR4.out HI.out.be hlt2
        obtain ⟨q1, q2⟩ := gk_nxt hj hlt
        obtain ⟨n, hn⟩ : ∃ n, FN[j] = n := ⟨_, rfl⟩
        have HFF : Hid (FewF n) := by rw [← hn]; exact HFA.out _ (List.getElem_mem hlt2)
        have HNJ : Hid (FN[j] = n) := hn
        rw [hn] at d0 d1 d2 d3 rx ry
        obtain ⟨nl, hnl⟩ : ∃ z, n.2.2.1.length = z := ⟨_, rfl⟩
        obtain ⟨ol, hol⟩ : ∃ z, n.2.2.2.length = z := ⟨_, rfl⟩
        obtain ⟨kk, hkk⟩ : ∃ z, n.1.toNat = z := ⟨_, rfl⟩
        obtain ⟨sq, hsq⟩ : ∃ z, n.2.1 = z := ⟨_, rfl⟩
        rw [hkk] at d0
        rw [hsq] at d1
        rw [hnl] at d2 rx
        rw [hol] at d3 ry
        have hb5 := below_box4 wr (.cells #[.int .u8 (kk : Int), .int .u64 (sq : Int), .slice na nl nc, .slice oa ol oc] 36)
        have HB5 : Hid (Below w4.heap.size w4 (wr.alloc (.cells #[.int .u8 (kk : Int), .int .u64 (sq : Int), .slice na nl nc, .slice oa ol oc] 36))) := bsplit HI.out.be hb5
        have HI5 : Hid (RcI w4 (wr.alloc (.cells #[.int .u8 (kk : Int), .int .u64 (sq : Int), .slice na nl nc, .slice oa ol oc] 36)) (.slice ra j rc) FN j) := HI.out.below hb5
        obtain ⟨z0, z1', z2, z3⟩ := box4_new wr (.int .u8 (kk : Int)) (.int .u64 (sq : Int)) (.slice na nl nc) (.slice oa ol oc) 36
        have hf : fitN n = true := by rw [← hn]; exact (List.all_eq_true.1 HAL.out) _ (List.getElem_mem hlt2)
        obtain ⟨f1, f2⟩ := fit_facts hf
        have hrb := refbytes_ok (wr.alloc (.cells #[.int .u8 (kk : Int), .int .u64 (sq : Int), .slice na nl nc, .slice oa ol oc] 36)) kk sq na nl nc oa ol oc n.2.2.1 n.2.2.2 (by rw [← hkk]; exact n.1.toNat_lt) (by rw [← hsq]; exact HFF.out.sq) (by rw [form_right _ _ _ _ (by omega), ← hkk, ← hsq, ← hnl, ← hol]; exact f1) (rx.below HB5.out (Nat.le_refl _)) (by have := HFF.out.nl; omega) (LsO.below ry HB5.out (Nat.le_refl _)) f2 (chk_most f2) (by have := HFF.out.sz; omega)
        have HBY : Hid (noteB kk sq n.2.2.1 n.2.2.2 = bytN n) := by show _ = _; unfold bytN; rw [hkk, hsq]
        have HFT2 : Hid (∀ i (h : i < FN.length), i < j + 1 → fitN FN[i] = true) := fun i h hij => by
          by_cases e : i = j
          · subst e; rw [hn]; exact hf
          · exact HFT.out i h (by omega)
        clear rx ry hn hkk hsq hnl hol hb5 hf f1 f2
        go_wp2_with fail
        refine hrb.mono ?_
        rintro e w6 ⟨xb, rfl, ob, hb6⟩
        rw [HBY.out] at ob
        obtain ⟨gb, bc, rfl⟩ := ob.shape
        obtain ⟨bl, hbl⟩ : ∃ c, (bytN n).length = c := ⟨_, rfl⟩
        rw [hbl] at ob ⊢
        have hb6a := below_box4 w6 (.cells #[.slice (some ⟨gb, 0, none⟩) bl bc] 26)
        have HI6 : Hid (RcI w4 (w6.alloc (.cells #[.slice (some ⟨gb, 0, none⟩) bl bc] 26)) (.slice ra j rc) FN j) := (HI5.out.below hb6).below hb6a
        have HOB : Hid (OwnN w4.heap.size (w6.alloc (.cells #[.slice (some ⟨gb, 0, none⟩) bl bc] 26)) (.slice (some ⟨gb, 0, none⟩) bl bc) (bytN n)) := .inr ((ob.mono HB5.out.size).below hb6a (Nat.le_refl _))
        obtain ⟨rs, hrow, hel⟩ := HI6.out.rc
        rw [List.length_map, List.length_take, HN.out, Nat.min_eq_left (Nat.le_of_lt hlt)] at hrow
        have HEL : Hid _ := hel
        have HRW : Hid _ := hrow
        have hse := HI6.out.be.size
        clear hrb hb6 hb6a ob hbl z0 z1' z2 z3 d0 d1 d2 d3 hel
        go_wp2_with (first | (at_builtin; refine wpList_append_lies _ rfl (.tmp 44) (.tmp 46) 32 rfl w4.heap.size 26 i2 (.slice none 0 0) 1 24 Tryd.underlying32 hi2 hy0 hy1 hy2 rfl (by decide) (.slice ra j rc) j rs rfl hrow ⟨w6.heap.size, 0, none⟩ 1 1 [.slice (some ⟨gb, 0, none⟩) bl bc] rfl rfl (laid1 _ _ _) (one_slice _ _ _) (by decide) (by simp only [maxLen]; omega) (by omega) hse _ rfl ?_; intro g7 c7 w7 hown hgrow hat hlt7; have HI7 : Hid (RcI w4 w7 (.slice (some ⟨g7, 0, none⟩) (j + 1) c7) FN (j + 1)) := (rc_push HI6.out (by rw [HN.out]; exact hlt) HNJ.out HRW.out HEL.out HOB.out hown hgrow); clear hown hgrow hat hlt7) | fail)
        clear hrow hse
        go_roundg (gk - 1)
        case measure => exact q1
        case rel => exact ⟨j + 1, _, _, q2, by go_num, rfl, rfl, HFT2, HI7⟩
      · have hjN : j = N := by omega
        subst hjN
        have hni : ¬ (j : Int) < (j : Int) := by omega
        have OT : Hid (OwnT w4.heap.size wr (.slice ra j rc) (FN.map bytN)) := by
          have h9 := HI.out.rc
          rw [← HN.out, List.take_length, HN.out] at h9
          exact h9
        have hal := rall_any wr _ (FN.map bytN) 47000 OT.out.tex (fun r hr => by obtain ⟨n, h1, rfl⟩ := List.mem_map.1 hr; exact (HGB.out n h1).2) (by decide) (by rw [List.length_map, HN.out]; omega)
        rw [HPQ.out] at hal
        obtain ⟨cut, hcutm, hcutL, hcutz⟩ := tmod_pos2 z L hz0
        obtain ⟨wh, hwm, hrs, hrn⟩ := cut_some (G := FN) (k := cut) (fun n hn => (HGB.out n hn).1) (fun n hn => (HGB.out n hn).2) (by rw [HPQ.out, HL.out]; exact hcutL)
        rw [HPQ.out] at hrs hrn
        rw [HN.out] at hwm
        have hre : replayN (readB P).1 = FN := by
          rw [← HPQ.out, readB_all _ (fun r hr => by obtain ⟨n, h1, rfl⟩ := List.mem_map.1 hr; have := (HGB.out n h1).2; omega)]
          exact replayN_map _ (fun n hn => (HGB.out n hn).1)
        have HRE : Hid (replayN (readB P).1 = FN) := hre
        have HRS : Hid ((readB (P.take cut)).1 = (FN.take wh).map bytN) := hrs
        have HRN2 : Hid (replayN (readB (P.take cut)).1 = FN.take wh) := hrn
        have HTW : Hid ((FN.take wh).length = wh) := by show _ = _; rw [List.length_take, HN.out]; omega
        have HCUT : Hid (cut ≤ L ∧ cut ≤ 65535 ∧ L ≤ 940200) := ⟨hcutL, by omega, hPl⟩
        have hpc : L ≤ pc ∧ pc ≤ 9223372036854775807 := by
          rcases HOP.out with ⟨e, _⟩ | h
          · cases e; exact ⟨Nat.le_refl _, by omega⟩
          · obtain ⟨g', k', e⟩ := h.shape
            cases e
            have := h.caps; rw [HL.out] at this; unfold maxLen at this; exact ⟨this.1, by omega⟩
        have hcI : (cut : Int) ≤ (pc : Int) := by omega
        have hcI0 : (0 : Int) ≤ (cut : Int) := by omega
        have k1 : (wh : Int) ≤ (xc : Int) := by omega
        have k2 : (0 : Int) ≤ (wh : Int) := by omega
        have k3 : (wh : Int) ≤ (j : Int) := by omega
        clear hre hrs hrn
        go_wp2_with fail
        refine hal.mono ?_
        rintro e w7 ⟨qv, rfl, oq, hb7⟩
        have HB47 : Hid (Below w4.heap.size w4 w7) := bsplit HI.out.be hb7
        have HBW7 : Hid (Below w.heap.size w w7) := bsplit HB4.out HB47.out
        have HP7 : Hid (OwnN w3.heap.size w7 (.slice pa L pc) P) := HOP.out.below HB47.out (Nat.le_refl _)
        have hsm := same_b w7 _ _ P P true HP7.out.rd oq.rd (beq_self_eq_true P)
        obtain ⟨qa, qc, rfl⟩ := oq.rd.len
        rw [HL.out] at hsm ⊢
        have hrp := replay_any w7 (.slice pa L pc) P HP7.out.rd (ownN_block HP7.out) (by rw [HL.out]; omega) (HT.out.below HBW7.out (Nat.le_refl _))
        rw [HRE.out, HN.out] at hrp
        clear hal hb7 oq
        go_wp2_with fail
        refine hsm.mono ?_
        rintro e w8 ⟨rfl, rfl⟩
        clear hsm
        go_wp2_with fail
        refine hrp.mono ?_
        rintro e w9 ⟨y9, rfl, r9, hb9⟩
        obtain ⟨ya9, yc9, rfl⟩ : ∃ ya yc, y9 = .slice ya j yc := by obtain ⟨ao, cap, e, _⟩ := r9; rw [HN.out] at e; exact ⟨ao, cap, e⟩
        have HB49 : Hid (Below w4.heap.size w4 w9) := bsplit HB47.out hb9
        have HBW9 : Hid (Below w.heap.size w w9) := bsplit HB4.out HB49.out
        have HP9 : Hid (OwnN w3.heap.size w9 (.slice pa L pc) P) := HP7.out.below hb9 (Nat.le_refl _)
        have HY9 : Hid (RdN w9 (.slice ya9 j yc9) FN) := r9
        obtain ⟨rd1, bk1⟩ := ownN_take HP9.out cut (by rw [HL.out]; exact HCUT.out.1)
        have hrp2 := replay_any w9 (.slice pa cut pc) (P.take cut) rd1 bk1 (by rw [List.length_take, HL.out]; have := HCUT.out; omega) (HT.out.below HBW9.out (Nat.le_refl _))
        rw [HRN2.out, HTW.out] at hrp2
        clear hrp hb9 r9 rd1 bk1
        go_wp2_with fail
        refine hrp2.mono ?_
        rintro e w10 ⟨y10, rfl, r10, hb10⟩
        obtain ⟨ya10, yc10, rfl⟩ : ∃ ya yc, y10 = .slice ya wh yc := by obtain ⟨ao, cap, e, _⟩ := r10; rw [HTW.out] at e; exact ⟨ao, cap, e⟩
        have HB410 : Hid (Below w4.heap.size w4 w10) := bsplit HB49.out hb10
        have HP10 : Hid (OwnN w3.heap.size w10 (.slice pa L pc) P) := HP9.out.below hb10 (Nat.le_refl _)
        have HY10 : Hid (RdN w10 (.slice ya9 j yc9) FN ∧ RdN w10 (.slice ya10 wh yc10) (FN.take wh)) := ⟨HY9.out.below hb10 (Nat.le_refl _), r10⟩
        have hrd6 : Calls Tryd.prog 14 #[.slice pa cut pc] w10 fun x w' => ∃ (y : Value) (n : Int), x = .returned (.tuple #[y, .int .i64 n]) ∧ OwnT w10.heap.size w' y ((FN.take wh).map bytN) ∧ Below w10.heap.size w10 w' := by
          rw [← HRS.out]
          rcases HP10.out with ⟨e, e2⟩ | h
          · have hc0 : cut = 0 := by have := HCUT.out.1; have := HL.out; rw [e2] at this; simp at this; omega
            cases e
            rw [hc0, e2]
            have h9 := readB_all [] (fun r hr => by cases hr)
            rw [show allB [] [] = [] from rfl] at h9
            rw [List.take_nil, h9]
            exact rread6_nil w10
          · obtain ⟨g', k', e⟩ := h.shape
            cases e
            have hcel := rd_cells (ownN_take (.inr h) cut (by rw [HL.out]; exact HCUT.out.1)).1
            have hcl : (P.take cut).length = cut := by rw [List.length_take, HL.out]; have := HCUT.out; omega
            have h9 := rread6_any w10 g' 0 pc (P.take cut) (fun i u hu => by have := hcel.2 i u hu; rwa [Addr.add_lit] at this) h.lt.2 (by rw [hcl]; have := HCUT.out; omega) hpc.2 (by rw [hcl]; exact HCUT.out.2.1)
            rw [hcl] at h9
            exact h9
        clear hrp2 hb10 r10
        go_wp2_with fail
        refine hrd6.mono ?_
        rintro e w11 ⟨y11, nn, rfl, o11, hb11⟩
        obtain ⟨ya11, yc11, hy11⟩ := o11.shape
        rw [List.length_map, HTW.out] at hy11
        subst hy11
        have HB411 : Hid (Below w4.heap.size w4 w11) := bsplit HB410.out hb11
        have HY11 : Hid (RdN w11 (.slice ya9 j yc9) FN ∧ RdN w11 (.slice ya10 wh yc10) (FN.take wh) ∧ RdN w11 (.slice xa j xc) FN) := ⟨HY10.out.1.below hb11 (Nat.le_refl _), HY10.out.2.below hb11 (Nat.le_refl _), HR4.out.below HB411.out (Nat.le_refl _)⟩
        have hbk := back_any w11.drew _ FN HY11.out.1 (by rw [HN.out]; omega)
        clear hrd6 hb11 o11
        go_wp2_with fail
        go_region_held3 (fun _ => True) (exact trivial)
          (first
            | (go_at_call 16; refine hbk.mono ?_; rintro e w12 ⟨x12, rfl, r12, hb12⟩
               obtain ⟨xa12, xc12, e12⟩ : ∃ xa xc, x12 = .slice xa j xc := by obtain ⟨ao, cap, e, _⟩ := r12; rw [HN.out] at e; exact ⟨ao, cap, e⟩
               subst e12
               have HB1112 : Hid (Below w11.heap.size w11 w12) := bsplit (Below.refl _ _).drew hb12
               have hs := HSAME.out w12 _ (.slice xa j xc) FN FN true r12 (HY11.out.2.2.below HB1112.out (Nat.le_refl _)) ⟨fun _ => rfl, fun _ => rfl⟩
               clear hbk hb12 r12)
            | (go_at_call 15; refine hs.mono ?_; rintro e w13 ⟨rfl, n13, hw13⟩
               have HB1113 : Hid (Below w11.heap.size w11 w13) := by rw [hw13]; exact below_drewN HB1112.out _
               have hbk2 := back_any w13 _ (FN.take wh) (HY11.out.2.1.below HB1113.out (Nat.le_refl _)) (by rw [HTW.out]; omega)
               clear hs hw13)
            | (go_at_call 16; refine hbk2.mono ?_; rintro e w14 ⟨x14, rfl, r14, hb14⟩
               obtain ⟨xa14, xc14, e14⟩ : ∃ xa xc, x14 = .slice xa wh xc := by obtain ⟨ao, cap, e, _⟩ := r14; rw [HTW.out] at e; exact ⟨ao, cap, e⟩
               subst e14
               have HB1114 : Hid (Below w11.heap.size w11 w14) := bsplit HB1113.out hb14
               have hs2 := HSAME.out w14 _ (.slice xa wh xc) (FN.take wh) (FN.take wh) true r14 (rdN_take (HY11.out.2.2.below HB1114.out (Nat.le_refl _)) wh (by rw [HN.out]; omega)) ⟨fun _ => rfl, fun _ => rfl⟩
               clear hbk2 hb14 r14)
            | (go_at_call 15; refine hs2.mono ?_; rintro e w15 ⟨rfl, n15, hw15⟩
               have HBx : Hid (Below w.heap.size w w15) := by rw [hw15]; exact below_drewN (bsplit (bsplit HB4.out HB411.out) HB1114.out) _
               clear hs2 hw15)
            | fail)
        go_wp2
        go_ret
        exact ⟨rfl, HBx.out⟩

theorem entryLogs_walk (a0 : Option Addr) (len0 cap0 : Nat) (z0 : List NtB) (a1 : Int) (w : World) (w0 : ArgN w (.slice a0 len0 cap0) z0 ∧ ∀ n ∈ z0, n.2.1 < 18446744073709551616) (w1 : (Lit.int .u16 a1).wf = true) (ht : Tab w) :
    Calls Tryd.prog 3 #[.slice a0 len0 cap0, .int .u16 a1] w fun e w' => e = .returned (.bool true) ∧ Below w.heap.size w w' := by
  have h1 := bounds_u16 w1
  exact elogs sament_any w _ z0 a1 w0.1 w0.2 (by omega) (by omega) ht (World.block_lt_of_cell? w _ (ht 0 (by decide)))

end Go.Proofs.YtmgofohaoppajaaDoor
