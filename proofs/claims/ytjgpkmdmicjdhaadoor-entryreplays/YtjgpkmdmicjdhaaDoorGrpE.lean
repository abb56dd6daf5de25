/- Several texts in one. -/
import Derived.Test.YtjgpkmdmicjdhaaDoorGrpA
import Derived.Test.YtjgpkmdmicjdhaaDoorGrpB
import Derived.Test.YtjgpkmdmicjdhaaDoorGrpD
import Derived.BigQuiet
import Derived.Lib.SmallJoins

/- Rows of entries whose names and ops lie elsewhere; what is replayed, as plain bytes. -/
namespace Go.Proofs.YtjgpkmdmicjdhaaDoor
set_option maxRecDepth 20000
open Go.RowKit
set_option linter.unusedVariables false

def NeO (y : Value) (os : List OpB) (v : Value) : Prop := os = [] ∨ ∃ b off n c, y = .slice (some ⟨b, off, none⟩) n c ∧ some b ≠ v.ownBlock

/-- ops that don't lie in v's own block, they and what they hold -/
def HeldO (w : World) (v y : Value) (os : List OpB) : Prop := LsO (fun w x l => Rd w x l ∧ NeB x l v) w y os ∧ NeO y os v

theorem HeldO.rd {w : World} {v y : Value} {os : List OpB} (h : HeldO w v y os) : RdO w y os := by
  obtain ⟨⟨ao, cap, e, h1, h2, h3⟩, _⟩ := h
  refine ⟨ao, cap, e, h1, h2, fun j hj => ?_⟩
  obtain ⟨b, off, e1, x, z, c0, c1, c2, r1, r2⟩ := h3 j hj
  exact ⟨b, off, e1, x, z, c0, c1, c2, r1.1, r2.1⟩

theorem HeldO.below {C : Nat} {w w' : World} {v y : Value} {os : List OpB} (h : HeldO w v y os) (hb : Below C w w') (hC : w.heap.size ≤ C) : HeldO w' v y os :=
  ⟨h.1.belowR (fun _ _ hr => ⟨hr.1.below hb hC, hr.2⟩) hb hC, h.2⟩

theorem heldO_of {C : Nat} {w : World} {v y : Value} {os : List OpB} (h : RdOF C w y os) (hr : ∀ q, v.ownBlock = some q → q < C) : HeldO w v y os := by
  obtain ⟨⟨ao, cap, e, h1, h2, h3⟩, hf⟩ := h
  refine ⟨⟨ao, cap, e, h1, h2, fun j hj => ?_⟩, ?_⟩
  · obtain ⟨b, off, e1, x, z, c0, c1, c2, r1, r2⟩ := h3 j hj
    exact ⟨b, off, e1, x, z, c0, c1, c2, ⟨r1.1, neb_of r1.2 hr r1.1⟩, ⟨r2.1, neb_of r2.2 hr r2.1⟩⟩
  · by_cases hn : os = []
    · exact .inl hn
    · obtain ⟨b, off, e1, _⟩ := h3 0 (List.length_pos_iff.2 hn)
      subst e1
      refine .inr ⟨b, off, _, _, e, fun e2 => ?_⟩
      have h4 : C ≤ b := hf ⟨b, off, none⟩ _ _ e
      have h5 := hr b e2.symm
      omega

theorem HeldO.grown {w w' : World} {v y : Value} {os : List OpB} {g n c : Nat} (h : HeldO w v y os) (hg : w.grownBy w' v.ownBlock) (hat : v.ownBlock = some g ∨ g = w.heap.size) : HeldO w' (.slice (some ⟨g, 0, none⟩) n c) y os := by
  obtain ⟨⟨ao, cap, e, h1, h2, h3⟩, hf⟩ := h
  refine ⟨⟨ao, cap, e, h1, h2, fun j hj => ?_⟩, ?_⟩
  · obtain ⟨b, off, e1, x, z, c0, c1, c2, r1, r2⟩ := h3 j hj
    have hne : some b ≠ v.ownBlock := by
      rcases hf with h0 | ⟨b', off', n', c', e', hne⟩
      · rw [h0] at hj; simp at hj
      · rw [e1] at e
        rw [e] at e'
        simp only [Value.slice.injEq, Option.some.injEq, Addr.mk.injEq] at e'
        rw [e'.1.1]
        exact hne
    have hlt := World.block_lt_of_cell? w _ c0
    have hk : ∀ i, w'.cell? ⟨b, i, none⟩ = w.cell? ⟨b, i, none⟩ := fun i => World.cell?_of_block (hg.block b hlt hne)
    exact ⟨b, off, e1, x, z, by rw [hk]; exact c0, by rw [hk]; exact c1, by rw [hk]; exact c2, ⟨rd_grown r1.1 hg r1.2, neb_step r1.2 r1.1 hat⟩, ⟨rd_grown r2.1 hg r2.2, neb_step r2.2 r2.1 hat⟩⟩
  · by_cases hn : os = []
    · exact .inl hn
    · obtain ⟨b, off, e1, x, z, c0, _⟩ := h3 0 (List.length_pos_iff.2 hn)
      have hlt := World.block_lt_of_cell? w _ c0
      rcases hf with h0 | ⟨b', off', n', c', e', hne⟩
      · exact .inl h0
      · refine .inr ⟨b', off', n', c', e', ?_⟩
        rw [e1] at e
        rw [e] at e'
        simp only [Value.slice.injEq, Option.some.injEq, Addr.mk.injEq] at e'
        rcases hat with ha | ha
        · rw [ha] at hne; exact hne
        · simp only [Value.ownBlock, ne_eq, Option.some.injEq]
          have hl2 : b < w.heap.size := hlt
          have := e'.1.1
          omega

/-- entries in a row of one's own; what they hold lies elsewhere -/
def OwnH (T : TypeId) (B : Nat) (w : World) (v : Value) (ns : List NtB) : Prop :=
  ∃ cs, w.ownsRow B T 4 v ns.length cs ∧ ∀ j (h : j < ns.length), ∃ x y, cs[j * 4]? = some (.int .u8 (ns[j].1.toNat : Int)) ∧ cs[j * 4 + 1]? = some (.int .u64 (ns[j].2.1 : Int)) ∧ cs[j * 4 + 2]? = some x ∧ cs[j * 4 + 3]? = some y ∧ (Rd w x ns[j].2.2.1 ∧ NeB x ns[j].2.2.1 v) ∧ HeldO w v y ns[j].2.2.2

theorem OwnH.nil (T : TypeId) (B : Nat) (w : World) : OwnH T B w (.slice none 0 0) [] := ⟨[], World.ownsRow_nil _ _ _ _, fun _ h => absurd h (Nat.not_lt_zero _)⟩

theorem OwnH.below {T : TypeId} {B C : Nat} {w w' : World} {v : Value} {ns : List NtB} (h : OwnH T B w v ns) (hb : Below C w w') (hC : w.heap.size ≤ C) : OwnH T B w' v ns := by
  obtain ⟨cs, hr, hj⟩ := h
  have hb' : Below w.heap.size w w' := ⟨hb.os, hb.tape, hb.output, hb.size, fun i hi => hb.block i (Nat.lt_of_lt_of_le hi hC)⟩
  refine ⟨cs, row_below hr hb', fun j h => ?_⟩
  obtain ⟨x, y, c0, c1, c2, c3, ox, oy⟩ := hj j h
  exact ⟨x, y, c0, c1, c2, c3, ⟨ox.1.below hb hC, ox.2⟩, oy.below hb hC⟩

theorem OwnH.rd {T : TypeId} {B : Nat} {w : World} {v : Value} {ns : List NtB} (h : OwnH T B w v ns) : RdN w v ns := by
  obtain ⟨cs, hr, hj⟩ := h
  have hr2 := hr
  rcases hr.2 with ⟨e, hn⟩ | ⟨g, cap, cur, e, hb, hg, h1, h2, h3, h4⟩
  · exact ⟨none, 0, by rw [e, hn], by omega, Nat.zero_le _, fun j hj => by omega⟩
  · subst e
    refine ⟨_, cap, rfl, h1, h2, fun j h => ⟨g, 0, rfl, ?_⟩⟩
    obtain ⟨x, y, c0, c1, c2, c3, ox, oy⟩ := hj j h
    have hc := hr2.cells (g := g) rfl
    refine ⟨x, y, ?_, ?_, ?_, ?_, ox.1, oy.rd⟩
    · have := hc _ _ c0; rwa [Addr.add_lit] at this
    · have := hc _ _ c1; rwa [Addr.add_lit] at this
    · have := hc _ _ c2; rwa [Addr.add_lit] at this
    · have := hc _ _ c3; rwa [Addr.add_lit] at this

theorem own_pushH {T : TypeId} {B g c : Nat} {w w' : World} {v x y : Value} {ns : List NtB} {cs : List Value} (o : NtB) (hrow : w.ownsRow B T 4 v ns.length cs)
    (hel : ∀ j (h : j < ns.length), ∃ x y, cs[j * 4]? = some (.int .u8 (ns[j].1.toNat : Int)) ∧ cs[j * 4 + 1]? = some (.int .u64 (ns[j].2.1 : Int)) ∧ cs[j * 4 + 2]? = some x ∧ cs[j * 4 + 3]? = some y ∧ (Rd w x ns[j].2.2.1 ∧ NeB x ns[j].2.2.1 v) ∧ HeldO w v y ns[j].2.2.2)
    (hx : Rd w x o.2.2.1 ∧ NeB x o.2.2.1 v) (hy : HeldO w v y o.2.2.2) (hn : w'.ownsRow B T 4 (.slice (some ⟨g, 0, none⟩) (ns.length + 1) c) (ns.length + 1) (cs ++ [.int .u8 (o.1.toNat : Int), .int .u64 (o.2.1 : Int), x, y])) (hg : w.grownBy w' v.ownBlock) (hat : v.ownBlock = some g ∨ g = w.heap.size) : OwnH T B w' (.slice (some ⟨g, 0, none⟩) (ns.length + 1) c) (ns ++ [o]) := by
  have hcl : cs.length = ns.length * 4 := hrow.1
  refine ⟨_, by rw [List.length_append]; exact hn, fun j h => ?_⟩
  by_cases hj : j < ns.length
  · obtain ⟨x', y', c0, c1, c2, c3, ox, oy⟩ := hel j hj
    refine ⟨x', y', ?_, ?_, ?_, ?_, ?_, ?_⟩
    · rw [List.getElem?_append_left (by omega), List.getElem_append_left hj]; exact c0
    · rw [List.getElem?_append_left (by omega), List.getElem_append_left hj]; exact c1
    · rw [List.getElem?_append_left (by omega)]; exact c2
    · rw [List.getElem?_append_left (by omega)]; exact c3
    · rw [List.getElem_append_left hj]; exact ⟨rd_grown ox.1 hg ox.2, neb_step ox.2 ox.1 hat⟩
    · rw [List.getElem_append_left hj]; exact oy.grown hg hat
  · have hje : j = ns.length := by rw [List.length_append] at h; simp at h; omega
    subst hje
    have e : (ns ++ [o])[ns.length]'h = o := by simp
    rw [e]
    refine ⟨x, y, ?_, ?_, ?_, ?_, ⟨rd_grown hx.1 hg hx.2, neb_step hx.2 hx.1 hat⟩, hy.grown hg hat⟩
    · rw [List.getElem?_append_right (by omega), show ns.length * 4 - cs.length = 0 by omega]; rfl
    · rw [List.getElem?_append_right (by omega), show ns.length * 4 + 1 - cs.length = 1 by omega]; rfl
    · rw [List.getElem?_append_right (by omega), show ns.length * 4 + 2 - cs.length = 2 by omega]; rfl
    · rw [List.getElem?_append_right (by omega), show ns.length * 4 + 3 - cs.length = 3 by omega]; rfl

/-- the entries of records, up to the first that is none -/
def replayN : List (List UInt8) → List NtB
  | [] => []
  | r :: rs => match noteS r with
    | some n => n :: replayN rs
    | none => []

theorem replayN_some {recs : List (List UInt8)} {ns : List NtB} {j : Nat} {n : NtB} (h : j < recs.length) (he : replayN recs = ns ++ replayN (recs.drop j)) (hn : noteS recs[j] = some n) : replayN recs = (ns ++ [n]) ++ replayN (recs.drop (j + 1)) := by
  rw [he, List.drop_eq_getElem_cons h, replayN, hn]
  simp

theorem replayN_none {recs : List (List UInt8)} {ns : List NtB} {j : Nat} (h : j < recs.length) (he : replayN recs = ns ++ replayN (recs.drop j)) (hn : noteS recs[j] = none) : replayN recs = ns := by
  rw [he, List.drop_eq_getElem_cons h, replayN, hn]
  simp

theorem replayN_end {recs : List (List UInt8)} {ns : List NtB} {j : Nat} (h : ¬ j < recs.length) (he : replayN recs = ns ++ replayN (recs.drop j)) : replayN recs = ns := by
  rw [he, List.drop_eq_nil_of_le (by omega), replayN]
  simp

theorem readG_most : ∀ (n : Nat) (p : List UInt8) (a : Nat) (l : List (List UInt8)), a ≤ p.length → (∀ r ∈ l, r.length ≤ 65536) → (readG n p a l).1.length ≤ l.length + (p.length - a) ∧ ∀ r ∈ (readG n p a l).1, r.length ≤ 65536
  | 0, p, a, l, ha, hl => ⟨by rw [readG]; exact Nat.le_add_right _ _, by rw [readG]; exact hl⟩
  | n + 1, p, a, l, ha, hl => by
    rw [readG]
    cases hr : recAt p a with
    | none => exact ⟨by simp, hl⟩
    | some q =>
      obtain ⟨t, nx⟩ := q
      obtain ⟨h1, h2, h3, h4⟩ := recAt_some hr
      have h5 : a + 7 ≤ nx := by
        unfold recAt at hr
        split at hr
        · cases hr
        · rename_i t' nx' hg
          split at hr
          · simp only [Option.some.injEq, Prod.mk.injEq] at hr
            have := (recG_fits _ _ _ _ _ _ hg).1
            omega
          · cases hr
      have ih := readG_most n p nx (l ++ [t]) h4 (fun r hr' => by
        rcases List.mem_append.1 hr' with h | h
        · exact hl r h
        · simp at h; subst h; exact h1)
      refine ⟨?_, ih.2⟩
      have h6 := ih.1
      rw [List.length_append] at h6
      simp only [List.length_cons, List.length_nil] at h6
      simp only
      omega

theorem readB_most (p : List UInt8) : (readB p).1.length ≤ p.length ∧ ∀ r ∈ (readB p).1, r.length ≤ 65536 := by
  have := readG_most (p.length + 1) p 0 [] (Nat.zero_le _) (by simp)
  unfold readB
  simpa using this

end Go.Proofs.YtjgpkmdmicjdhaaDoor

/- entry.Replay; bartizanlaw07.back. -/
namespace Go.Proofs.YtjgpkmdmicjdhaaDoor
set_option maxRecDepth 20000
open Go.RowKit
set_option linter.unusedVariables false

theorem infoNoteE : (Tryd.prog.info? 54).map (fun i => (i.zero, i.size, i.bytes)) = some (some (.agg #[.int .u8 0, .int .u64 0, .slice none 0 0, .slice none 0 0]), 4, 64) := by kernel_rfl

theorem OwnH.lt {T : TypeId} {B : Nat} {w : World} {v : Value} {ns : List NtB} (h : OwnH T B w v ns) : ∀ q, v.ownBlock = some q → B ≤ q ∧ q < w.heap.size := by
  obtain ⟨cs, hr, _⟩ := h
  exact fun q hq => hr.lt q hq

theorem own_pushJ {T : TypeId} {B g c j : Nat} {w w' : World} {v x y : Value} {ns : List NtB} {cs : List Value} {k s : Nat} (o : NtB) (hl : ns.length = j) (hk : o.1.toNat = k) (hs : o.2.1 = s) (hrow : w.ownsRow B T 4 v j cs)
    (hel : ∀ j (h : j < ns.length), ∃ x y, cs[j * 4]? = some (.int .u8 (ns[j].1.toNat : Int)) ∧ cs[j * 4 + 1]? = some (.int .u64 (ns[j].2.1 : Int)) ∧ cs[j * 4 + 2]? = some x ∧ cs[j * 4 + 3]? = some y ∧ (Rd w x ns[j].2.2.1 ∧ NeB x ns[j].2.2.1 v) ∧ HeldO w v y ns[j].2.2.2)
    (hx : Rd w x o.2.2.1 ∧ NeB x o.2.2.1 v) (hy : HeldO w v y o.2.2.2) (hn : w'.ownsRow B T 4 (.slice (some ⟨g, 0, none⟩) (j + 1) c) (j + 1) (cs ++ [.int .u8 (k : Int), .int .u64 (s : Int), x, y])) (hg : w.grownBy w' v.ownBlock) (hat : v.ownBlock = some g ∨ g = w.heap.size) : OwnH T B w' (.slice (some ⟨g, 0, none⟩) (j + 1) c) (ns ++ [o]) := by
  subst hl hk hs
  exact own_pushH o hrow hel hx hy hn hg hat

/-- the row of entries, as far as it has come -/
structure RepI (T : TypeId) (w1 wr : World) (pv : Value) (recs : List (List UInt8)) (ns : List NtB) (j : Nat) : Prop where
  ow : OwnH T w1.heap.size wr pv ns
  nl : ns.length = j
  eq : replayN recs = ns ++ replayN (recs.drop j)
  be : Below w1.heap.size w1 wr

theorem rep_bd {j : Nat} (h : j ≤ 1000000) : j + 1 ≤ maxLen ∧ (j + 1) * 64 ≤ 140737488355328 := by unfold maxLen; omega

set_option maxHeartbeats 4000000 in
theorem replay_any (w : World) (v : Value) (p : List UInt8) (hv : Rd w v p) (hvb : ∀ b, v.ownBlock = some b → b < w.heap.size) (hp : p.length ≤ 1000000) (hT : Tab w) :
    Calls Tryd.prog 13 #[v] w fun o w' => ∃ y, o = .returned (.tuple #[y, .int .i64 ((replayN (readB p).1).length : Int)]) ∧ RdN w' y (replayN (readB p).1) ∧ Below w.heap.size w w' := by
  obtain ⟨i0, hi, hz0, hz1, hz2⟩ := info_parts infoNoteE
  have hrd := read_any w v p hv hvb hp hT
  obtain ⟨hm1, hm2⟩ := readB_most p
  obtain ⟨recs, hrecs⟩ : ∃ recs, (readB p).1 = recs := ⟨_, rfl⟩
  rw [hrecs] at hm1 hm2 ⊢
  have HR : Hid ((readB p).1 = recs) := hrecs
  obtain ⟨ao, cap, rfl⟩ := hv.len
  have HM : Hid (recs.length ≤ 1000000 ∧ ∀ r ∈ recs, r.length ≤ 1000000) := ⟨by omega, fun r hr => by have := hm2 r hr; omega⟩
  clear hm1 hm2 hrecs hv hvb hT
  go_enter Tryd.func13, Tryd.ntmps13
  go_wp2_with fail
  refine hrd.mono ?_
  rintro o w1 ⟨hb1, y, rfl, oy⟩
  rw [HR.out] at oy
  obtain ⟨ra, rc, e', r1, r2, r3⟩ := oy.rd.places
  subst e'
  have H3 : Hid _ := r3
  obtain ⟨N, hN⟩ : ∃ N, recs.length = N := ⟨_, rfl⟩
  have HN : Hid (recs.length = N) := hN
  rw [hN] at r1 ⊢
  have HB1 : Hid (Below w.heap.size w w1) := hb1
  clear hrd r3 hN oy hb1
  go_wp2_with fail
  go_loopg [4, 18] N (fun gk pv iv wr => ∃ (j : Nat) (ns : List NtB) (a' : Option Addr) (c' : Nat), gk + j = N ∧ iv = .int .i64 (j : Int) ∧ pv = .slice a' j c' ∧ Hid (RepI 54 w1 wr pv recs ns j))
  case atStart => exact ⟨0, [], none, 0, by omega, rfl, rfl, ⟨OwnH.nil _ _ _, rfl, by simp, Below.refl _ _⟩⟩
  case round =>
    obtain ⟨j, ns, a', c', hj, rfl, rfl, HI⟩ := hrel
    by_cases hlt : j < N
    · have hlt2 : j < recs.length := by rw [HN.out]; exact hlt
      obtain ⟨bb, off, rfl, u, hu, hru⟩ := H3.out j hlt2
      have hur := (HI.out.be.cell (p := ⟨bb, off + j, none⟩) (World.block_lt_of_cell? w1 _ hu)).trans hu
      have hrur := hru.below HI.out.be (Nat.le_refl _)
      obtain ⟨ua, uc, rfl⟩ := hrur.len
      have her := eread_any wr _ recs[j] hrur (HM.out.2 _ (List.getElem_mem hlt2))
      obtain ⟨q1, q2⟩ := gk_nxt hj hlt
      obtain ⟨rl, hrl⟩ : ∃ rl, (recs[j]).length = rl := ⟨_, rfl⟩
      rw [hrl] at hur her
      cases hq : noteS recs[j] with
      | none =>
        rw [hq] at her
        have HF : Hid (replayN recs = ns) := replayN_none hlt2 HI.out.eq hq
        clear hu hru hrur hq hrl
        go_wp2_with fail
        refine her.mono ?_
        rintro o w2 ⟨hb2, rfl⟩
        have HB2 : Hid (Below wr.heap.size wr w2) := hb2
        have hbx := below_box4 w2 (.cells #[.int .u8 0, .int .u64 0, .slice none 0 0, .slice none 0 0] 54)
        have HBX : Hid (Below w2.heap.size w2 (w2.alloc (.cells #[.int .u8 0, .int .u64 0, .slice none 0 0, .slice none 0 0] 54))) := hbx
        clear her hb2 hbx
        go_wp2
        go_ret2
        refine ⟨.slice a' j c', by rw [HF.out, HI.out.nl]; rfl, ?_, ?_⟩
        · rw [HF.out]
          exact ((HI.out.ow.below HB2.out (Nat.le_refl _)).below HBX.out (Nat.le_refl _)).rd
        · have h8 := HI.out.be.trans (HB2.out.mono HI.out.be.size)
          have h9 := h8.trans (HBX.out.mono h8.size)
          exact HB1.out.trans (h9.mono HB1.out.size)
      | some n =>
        rw [hq] at her
        have HF : Hid (replayN recs = (ns ++ [n]) ++ replayN (recs.drop (j + 1))) := replayN_some hlt2 HI.out.eq hq
        obtain ⟨k, hk⟩ : ∃ k, n.1.toNat = k := ⟨_, rfl⟩
        obtain ⟨s, hs⟩ : ∃ s, n.2.1 = s := ⟨_, rfl⟩
        have HK : Hid (n.1.toNat = k ∧ n.2.1 = s) := ⟨hk, hs⟩
        have HJ : Hid (j ≤ 1000000) := by show j ≤ _; have := HM.out.1; omega
        clear hu hru hrur hq hrl
        go_wp2_with fail
        refine her.mono ?_
        rintro o w2 ⟨hb2, xn, yo, rfl, rx, ry⟩
        rw [hk, hs]
        obtain ⟨xa, xc, rfl⟩ := rx.1.len
        obtain ⟨ya, yc, rfl⟩ := rdo_shape ry.rd
        have hlow : ∀ q, (Value.slice a' j c').ownBlock = some q → q < wr.heap.size + 1 := fun q hq => Nat.lt_succ_of_lt (HI.out.ow.lt q hq).2
        have hO2 := HI.out.ow.below hb2 (Nat.le_refl _)
        have hB2 := HI.out.be.trans (hb2.mono HI.out.be.size)
        have hbx := below_box4 w2 (.cells #[.int .u8 (k : Int), .int .u64 (s : Int), .slice xa n.2.2.1.length xc, .slice ya n.2.2.2.length yc] 54)
        obtain ⟨z0, z1, z2, z3⟩ := box4_new w2 (.int .u8 (k : Int)) (.int .u64 (s : Int)) (.slice xa n.2.2.1.length xc) (.slice ya n.2.2.2.length yc) 54
        have hbx2 := below_box4 (w2.alloc (.cells #[.int .u8 (k : Int), .int .u64 (s : Int), .slice xa n.2.2.1.length xc, .slice ya n.2.2.2.length yc] 54)) (.cells #[.int .u8 (k : Int), .int .u64 (s : Int), .slice xa n.2.2.1.length xc, .slice ya n.2.2.2.length yc] 54)
        have hlit := laid4 (w2.alloc (.cells #[.int .u8 (k : Int), .int .u64 (s : Int), .slice xa n.2.2.1.length xc, .slice ya n.2.2.2.length yc] 54)) (.int .u8 (k : Int)) (.int .u64 (s : Int)) (.slice xa n.2.2.1.length xc) (.slice ya n.2.2.2.length yc) 54
        rw [show (w2.alloc (.cells #[.int .u8 (k : Int), .int .u64 (s : Int), .slice xa n.2.2.1.length xc, .slice ya n.2.2.2.length yc] 54)).heap.size = w2.heap.size + 1 by simp] at hlit
        have hOe := (hO2.below hbx (Nat.le_refl _)).below hbx2 (Nat.le_refl _)
        have hBe := (hB2.trans (hbx.mono hB2.size)).trans (hbx2.mono (Nat.le_trans hB2.size hbx.size))
        have hxe : Rd _ (.slice xa n.2.2.1.length xc) n.2.2.1 ∧ NeB (.slice xa n.2.2.1.length xc) n.2.2.1 (.slice a' j c') := ⟨(rx.1.below hbx (Nat.le_refl _)).below hbx2 (Nat.le_refl _), neb_of rx.2 hlow rx.1⟩
        have hye := ((heldO_of ry hlow).below hbx (Nat.le_refl _)).below hbx2 (Nat.le_refl _)
        obtain ⟨cs, hrow, hel⟩ := hOe
        rw [HI.out.nl] at hrow
        have hse := hBe.size
        have HBE : Hid _ := hBe
        have HXE : Hid _ := hxe
        have HYE : Hid _ := hye
        have HEL : Hid _ := hel
        have HRW : Hid _ := hrow
        clear her hb2 rx ry hO2 hB2 hbx hbx2 hBe hxe hye hel hk hs hlow
        go_wp2_with (first | (at_builtin; refine wpList_append_lies _ rfl (.tmp 29) (.tmp 31) 30 rfl w1.heap.size 54 i0 (.agg #[.int .u8 0, .int .u64 0, .slice none 0 0, .slice none 0 0]) 4 64 Tryd.underlying30 hi hz0 hz1 hz2 rfl (by decide) (.slice a' j c') j cs rfl hrow ⟨w2.heap.size + 1, 0, none⟩ 1 1 [.int .u8 (k : Int), .int .u64 (s : Int), .slice xa n.2.2.1.length xc, .slice ya n.2.2.2.length yc] rfl rfl hlit (one4 _ _ _ _ _ _ _ _) (by decide) (rep_bd HJ.out).1 (rep_bd HJ.out).2 hse _ rfl ?_; intro g4 c4 w4 hown hgrow hat hlt4; have HI4 : Hid (RepI 54 w1 w4 (.slice (some ⟨g4, 0, none⟩) (j + 1) c4) recs (ns ++ [n]) (j + 1)) := ⟨own_pushJ n HI.out.nl HK.out.1 HK.out.2 HRW.out HEL.out HXE.out HYE.out hown hgrow hat, (by rw [List.length_append, HI.out.nl]; rfl), HF.out, HBE.out.grown hgrow HBE.out.size (fun k' e => (hrow.lt k' e).1)⟩; clear hown hgrow hat hlt4) | fail)
        clear hrow hlit z0 z1 z2 z3 hse
        go_roundg (gk - 1)
        case measure => exact q1
        case rel => exact ⟨j + 1, ns ++ [n], _, c4, q2, by go_num, rfl, HI4⟩
    · have hjI : ¬ (j : Int) < (N : Int) := by omega
      have HF : Hid (replayN recs = ns) := replayN_end (by rw [HN.out]; exact hlt) HI.out.eq
      go_wp2
      go_ret2
      exact ⟨.slice a' j c', by rw [HF.out, HI.out.nl]; rfl, by rw [HF.out]; exact HI.out.ow.rd, HB1.out.trans (HI.out.be.mono HB1.out.size)⟩

end Go.Proofs.YtjgpkmdmicjdhaaDoor

/- bartizanlaw07.back. -/
namespace Go.Proofs.YtjgpkmdmicjdhaaDoor
set_option maxRecDepth 20000
open Go.RowKit
set_option linter.unusedVariables false

/-- a row of entries of one's own, as far as it has come; what they hold lies in w -/
structure BckI (T : TypeId) (w wr : World) (pv : Value) (ns : List NtB) (j : Nat) : Prop where
  ow : ∃ cs, wr.ownsRow w.heap.size T 4 pv j cs ∧ ∀ i (h : i < j) (h2 : i < ns.length), ∃ x y, cs[i * 4]? = some (.int .u8 (ns[i].1.toNat : Int)) ∧ cs[i * 4 + 1]? = some (.int .u64 (ns[i].2.1 : Int)) ∧ cs[i * 4 + 2]? = some x ∧ cs[i * 4 + 3]? = some y ∧ Rd w x ns[i].2.2.1 ∧ RdO w y ns[i].2.2.2
  be : Below w.heap.size w wr

theorem BckI.rd {T : TypeId} {w wr : World} {pv : Value} {ns : List NtB} (h : BckI T w wr pv ns ns.length) : RdN wr pv ns := by
  obtain ⟨⟨cs, hr, hj⟩, hb⟩ := h
  have hr2 := hr
  rcases hr.2 with ⟨e, hn⟩ | ⟨g, cap, cur, e, hb', hg, h1, h2, h3, h4⟩
  · exact ⟨none, 0, by rw [e, hn], by omega, Nat.zero_le _, fun j hj => by omega⟩
  · subst e
    refine ⟨_, cap, rfl, h1, h2, fun j h => ⟨g, 0, rfl, ?_⟩⟩
    obtain ⟨x, y, c0, c1, c2, c3, ox, oy⟩ := hj j h h
    have hc := hr2.cells (g := g) rfl
    refine ⟨x, y, ?_, ?_, ?_, ?_, ox.below hb (Nat.le_refl _), LsO.below oy hb (Nat.le_refl _)⟩
    · have := hc _ _ c0; rwa [Addr.add_lit] at this
    · have := hc _ _ c1; rwa [Addr.add_lit] at this
    · have := hc _ _ c2; rwa [Addr.add_lit] at this
    · have := hc _ _ c3; rwa [Addr.add_lit] at this

theorem BckI.push {T : TypeId} {w wr we w4 : World} {pv x y : Value} {ns : List NtB} {j g c k s : Nat} {cs : List Value} (hj : j < ns.length) (hk : ns[j].1.toNat = k) (hs : ns[j].2.1 = s) (hel : ∀ i (h : i < j) (h2 : i < ns.length), ∃ x y, cs[i * 4]? = some (.int .u8 (ns[i].1.toNat : Int)) ∧ cs[i * 4 + 1]? = some (.int .u64 (ns[i].2.1 : Int)) ∧ cs[i * 4 + 2]? = some x ∧ cs[i * 4 + 3]? = some y ∧ Rd w x ns[i].2.2.1 ∧ RdO w y ns[i].2.2.2)
    (hrow : we.ownsRow w.heap.size T 4 pv j cs) (hx : Rd w x ns[j].2.2.1) (hy : RdO w y ns[j].2.2.2) (hbe : Below w.heap.size w we) (hn : w4.ownsRow w.heap.size T 4 (.slice (some ⟨g, 0, none⟩) (j + 1) c) (j + 1) (cs ++ [.int .u8 (k : Int), .int .u64 (s : Int), x, y])) (hg : we.grownBy w4 pv.ownBlock) : BckI T w w4 (.slice (some ⟨g, 0, none⟩) (j + 1) c) ns (j + 1) := by
  subst hk hs
  have hcl : cs.length = j * 4 := hrow.1
  refine ⟨⟨_, hn, fun i h h2 => ?_⟩, hbe.grown hg hbe.size (fun k' e => (hrow.lt k' e).1)⟩
  by_cases hi : i < j
  · obtain ⟨x', y', c0, c1, c2, c3, ox, oy⟩ := hel i hi h2
    exact ⟨x', y', by rw [List.getElem?_append_left (by omega)]; exact c0, by rw [List.getElem?_append_left (by omega)]; exact c1, by rw [List.getElem?_append_left (by omega)]; exact c2, by rw [List.getElem?_append_left (by omega)]; exact c3, ox, oy⟩
  · have hie : i = j := by omega
    subst hie
    refine ⟨x, y, ?_, ?_, ?_, ?_, hx, hy⟩
    · rw [List.getElem?_append_right (by omega), show i * 4 - cs.length = 0 by omega]; rfl
    · rw [List.getElem?_append_right (by omega), show i * 4 + 1 - cs.length = 1 by omega]; rfl
    · rw [List.getElem?_append_right (by omega), show i * 4 + 2 - cs.length = 2 by omega]; rfl
    · rw [List.getElem?_append_right (by omega), show i * 4 + 3 - cs.length = 3 by omega]; rfl

set_option maxHeartbeats 4000000 in
theorem back_any (w : World) (v : Value) (ns : List NtB) (hv : RdN w v ns) (hn : ns.length ≤ 1000000) :
    Calls Tryd.prog 16 #[v] w fun o w' => ∃ y, o = .returned y ∧ RdN w' y ns ∧ Below w.heap.size w w' := by
  obtain ⟨i0, hi, hz0, hz1, hz2⟩ := info_parts infoNote
  obtain ⟨ao, cap, rfl, h1, h2, h3⟩ := hv
  unfold maxLen at h2
  have H3 : Hid _ := h3
  obtain ⟨N, hN⟩ : ∃ N, ns.length = N := ⟨_, rfl⟩
  rw [hN] at h1 hn ⊢
  have HN : Hid (ns.length = N) := hN
  clear h3 hN
  go_enter Tryd.func16, Tryd.ntmps16
  go_wp2_with fail
  go_loopg [3, 8] N (fun gk pv iv wr => ∃ (j : Nat) (a' : Option Addr) (c' : Nat), gk + j = N ∧ iv = .int .i64 (j : Int) ∧ pv = .slice a' j c' ∧ Hid (BckI 36 w wr pv ns j))
  case atStart => exact ⟨0, none, 0, by omega, rfl, rfl, ⟨⟨[], World.ownsRow_nil _ _ _ _, fun i h => absurd h (Nat.not_lt_zero _)⟩, Below.refl _ _⟩⟩
  case round =>
    obtain ⟨j, a', c', hj, rfl, rfl, HI⟩ := hrel
    by_cases hlt : j < N
    · have hlt2 : j < ns.length := by rw [HN.out]; exact hlt
      obtain ⟨b, off, rfl, xv, yv, c0, c1, c2, c3, rx, ry⟩ := H3.out j hlt2
      obtain ⟨xa, xc, rfl⟩ := rx.len
      obtain ⟨ya, yc, rfl⟩ := rdo_shape ry
      have hbl := World.block_lt_of_cell? w _ c0
      have d0 := (HI.out.be.cell (p := ⟨b, off + j * 4, none⟩) hbl).trans c0
      have d1 := (HI.out.be.cell (p := ⟨b, off + j * 4 + 1, none⟩) hbl).trans c1
      have d2 := (HI.out.be.cell (p := ⟨b, off + j * 4 + 2, none⟩) hbl).trans c2
      have d3 := (HI.out.be.cell (p := ⟨b, off + j * 4 + 3, none⟩) hbl).trans c3
      have HRX : Hid (Rd w (.slice xa (ns[j]).2.2.1.length xc) (ns[j]).2.2.1 ∧ RdO w (.slice ya (ns[j]).2.2.2.length yc) (ns[j]).2.2.2) := ⟨rx, ry⟩
      obtain ⟨k, hk⟩ : ∃ k, (ns[j]).1.toNat = k := ⟨_, rfl⟩
      obtain ⟨s, hs⟩ : ∃ s, (ns[j]).2.1 = s := ⟨_, rfl⟩
      have HK : Hid ((ns[j]).1.toNat = k ∧ (ns[j]).2.1 = s) := ⟨hk, hs⟩
      obtain ⟨xl, hxl⟩ : ∃ xl, (ns[j]).2.2.1.length = xl := ⟨_, rfl⟩
      obtain ⟨yl, hyl⟩ : ∃ yl, (ns[j]).2.2.2.length = yl := ⟨_, rfl⟩
      rw [hxl, hyl] at HRX
      rw [hk] at d0
      rw [hs] at d1
      rw [hxl] at d2
      rw [hyl] at d3
      obtain ⟨q1, q2⟩ := gk_nxt hj hlt
      have HJ : Hid (j ≤ 1000000) := by show j ≤ _; omega
      have hbx := below_box4 wr (.cells #[.int .u8 (k : Int), .int .u64 (s : Int), .slice xa xl xc, .slice ya yl yc] 54)
      obtain ⟨z0, z1, z2, z3⟩ := box4_new wr (.int .u8 (k : Int)) (.int .u64 (s : Int)) (.slice xa xl xc) (.slice ya yl yc) 54
      have hbx2 := below_box4 (wr.alloc (.cells #[.int .u8 (k : Int), .int .u64 (s : Int), .slice xa xl xc, .slice ya yl yc] 54)) (.cells #[.int .u8 (k : Int), .int .u64 (s : Int), .slice xa xl xc, .slice ya yl yc] 36)
      have hlit := laid4 (wr.alloc (.cells #[.int .u8 (k : Int), .int .u64 (s : Int), .slice xa xl xc, .slice ya yl yc] 54)) (.int .u8 (k : Int)) (.int .u64 (s : Int)) (.slice xa xl xc) (.slice ya yl yc) 36
      rw [show (wr.alloc (.cells #[.int .u8 (k : Int), .int .u64 (s : Int), .slice xa xl xc, .slice ya yl yc] 54)).heap.size = wr.heap.size + 1 by simp] at hlit
      obtain ⟨cs, hrow0, hel⟩ := HI.out.ow
      have hrow := row_below (row_below hrow0 hbx) hbx2
      have hBe := (HI.out.be.trans (hbx.mono HI.out.be.size)).trans (hbx2.mono (Nat.le_trans HI.out.be.size hbx.size))
      have hse := hBe.size
      have HBE : Hid _ := hBe
      have HEL : Hid _ := hel
      have HRW : Hid _ := hrow
      clear rx ry hbl c0 c1 c2 c3 hk hs hxl hyl hbx hbx2 hrow0 hel hBe
      go_wp2_with (first | (at_builtin; refine wpList_append_lies _ rfl (.tmp 12) (.tmp 14) 22 rfl w.heap.size 36 i0 (.agg #[.int .u8 0, .int .u64 0, .slice none 0 0, .slice none 0 0]) 4 64 Tryd.underlying22 hi hz0 hz1 hz2 rfl (by decide) (.slice a' j c') j cs rfl hrow ⟨wr.heap.size + 1, 0, none⟩ 1 1 [.int .u8 (k : Int), .int .u64 (s : Int), .slice xa xl xc, .slice ya yl yc] rfl rfl hlit (one4 _ _ _ _ _ _ _ _) (by decide) (rep_bd HJ.out).1 (rep_bd HJ.out).2 hse _ rfl ?_; intro g4 c4 w4 hown hgrow hat hlt4; have HI4 : Hid (BckI 36 w w4 (.slice (some ⟨g4, 0, none⟩) (j + 1) c4) ns (j + 1)) := BckI.push (wr := wr) hlt2 HK.out.1 HK.out.2 HEL.out HRW.out HRX.out.1 HRX.out.2 HBE.out hown hgrow; clear hown hgrow hat hlt4) | fail)
      clear hrow hlit z0 z1 z2 z3 hse
      go_roundg (gk - 1)
      case measure => exact q1
      case rel => exact ⟨j + 1, _, c4, q2, by go_num, rfl, HI4⟩
    · have hjI : ¬ (j : Int) < (N : Int) := by omega
      have hje : j = ns.length := by rw [HN.out]; omega
      have HR : Hid (RdN wr (.slice a' j c') ns) := by
        have h9 := HI.out
        rw [hje] at h9 ⊢
        exact h9.rd
      clear hje
      go_wp2
      go_ret
      exact ⟨_, rfl, HR.out, HI.out.be⟩

end Go.Proofs.YtjgpkmdmicjdhaaDoor

/- bartizanref07.Replay. -/
namespace Go.Proofs.YtjgpkmdmicjdhaaDoor
set_option maxRecDepth 20000
open Go.RowKit
set_option linter.unusedVariables false

set_option maxHeartbeats 4000000 in
theorem rreplay_any (w : World) (pb off pc : Nat) (p : List UInt8) (hcs : ∀ j u, (bv p)[j]? = some u → w.cell? ⟨pb, off + j, none⟩ = some u) (hpb : pb < w.heap.size) (hpc : p.length ≤ pc) (hpM : pc ≤ 9223372036854775807) (hp : p.length ≤ 60000) :
    Calls Tryd.prog 19 #[.slice (some ⟨pb, off, none⟩) p.length pc] w fun o w' => ∃ y, o = .returned y ∧ RdN w' y (replayN (readB p).1) ∧ Below w.heap.size w w' := by
  obtain ⟨i0, hi, hz0, hz1, hz2⟩ := info_parts infoNote
  have hrd := rread6_any w pb off pc p hcs hpb hpc hpM hp
  obtain ⟨hm1, hm2⟩ := readB_most p
  obtain ⟨recs, hrecs⟩ : ∃ recs, (readB p).1 = recs := ⟨_, rfl⟩
  rw [hrecs] at hm1 hm2 ⊢
  have HR : Hid ((readB p).1 = recs) := hrecs
  have HM : Hid (recs.length ≤ 1000000 ∧ ∀ r ∈ recs, r.length ≤ 1000000) := ⟨by omega, fun r hr => by have := hm2 r hr; omega⟩
  obtain ⟨PL, hPL⟩ : ∃ PL, p.length = PL := ⟨_, rfl⟩
  rw [hPL] at hrd hpc ⊢
  clear hm1 hm2 hrecs hcs hPL
  go_enter Tryd.func19, Tryd.ntmps19
  go_wp2_with fail
  refine hrd.mono ?_
  rintro o w1 ⟨y, nn, rfl, oy, hb1⟩
  rw [HR.out] at oy
  obtain ⟨ra, rc, e', r1, r2, r3⟩ := oy.rd.places
  subst e'
  have H3 : Hid _ := r3
  obtain ⟨N, hN⟩ : ∃ N, recs.length = N := ⟨_, rfl⟩
  have HN : Hid (recs.length = N) := hN
  rw [hN] at r1 ⊢
  have HB1 : Hid (Below w.heap.size w w1) := hb1
  clear hrd r3 hN oy hb1
  go_wp2_with fail
  go_loopg [5, 17] N (fun gk pv iv wr => ∃ (j : Nat) (ns : List NtB) (a' : Option Addr) (c' : Nat), gk + j = N ∧ iv = .int .i64 (j : Int) ∧ pv = .slice a' j c' ∧ Hid (RepI 36 w1 wr pv recs ns j))
  case atStart => exact ⟨0, [], none, 0, by omega, rfl, rfl, ⟨OwnH.nil _ _ _, rfl, by simp, Below.refl _ _⟩⟩
  case round =>
    obtain ⟨j, ns, a', c', hj, rfl, rfl, HI⟩ := hrel
    by_cases hlt : j < N
    · have hlt2 : j < recs.length := by rw [HN.out]; exact hlt
      obtain ⟨bb, off, rfl, u, hu, hru⟩ := H3.out j hlt2
      have hur := (HI.out.be.cell (p := ⟨bb, off + j, none⟩) (World.block_lt_of_cell? w1 _ hu)).trans hu
      have hrur := hru.below HI.out.be (Nat.le_refl _)
      obtain ⟨ua, uc, rfl⟩ := hrur.len
      have her := rnread_any wr _ recs[j] hrur (HM.out.2 _ (List.getElem_mem hlt2))
      obtain ⟨q1, q2⟩ := gk_nxt hj hlt
      obtain ⟨rl, hrl⟩ : ∃ rl, (recs[j]).length = rl := ⟨_, rfl⟩
      rw [hrl] at hur her
      cases hq : noteS recs[j] with
      | none =>
        rw [hq] at her
        have HF : Hid (replayN recs = ns) := replayN_none hlt2 HI.out.eq hq
        clear hu hru hrur hq hrl
        go_wp2_with fail
        refine her.mono ?_
        rintro o w2 ⟨hb2, rfl⟩
        have HB2 : Hid (Below wr.heap.size wr w2) := hb2
        have hbx := below_box4 w2 (.cells #[.int .u8 0, .int .u64 0, .slice none 0 0, .slice none 0 0] 36)
        have HBX : Hid (Below w2.heap.size w2 (w2.alloc (.cells #[.int .u8 0, .int .u64 0, .slice none 0 0, .slice none 0 0] 36))) := hbx
        clear her hb2 hbx
        go_wp2
        go_ret
        refine ⟨.slice a' j c', rfl, ?_, ?_⟩
        · rw [HF.out]
          exact ((HI.out.ow.below HB2.out (Nat.le_refl _)).below HBX.out (Nat.le_refl _)).rd
        · have h8 := HI.out.be.trans (HB2.out.mono HI.out.be.size)
          have h9 := h8.trans (HBX.out.mono h8.size)
          exact HB1.out.trans (h9.mono HB1.out.size)
      | some n =>
        rw [hq] at her
        have HF : Hid (replayN recs = (ns ++ [n]) ++ replayN (recs.drop (j + 1))) := replayN_some hlt2 HI.out.eq hq
        obtain ⟨k, hk⟩ : ∃ k, n.1.toNat = k := ⟨_, rfl⟩
        obtain ⟨s, hs⟩ : ∃ s, n.2.1 = s := ⟨_, rfl⟩
        have HK : Hid (n.1.toNat = k ∧ n.2.1 = s) := ⟨hk, hs⟩
        have HJ : Hid (j ≤ 1000000) := by show j ≤ _; have := HM.out.1; omega
        clear hu hru hrur hq hrl
        go_wp2_with fail
        refine her.mono ?_
        rintro o w2 ⟨hb2, xn, yo, rfl, rx, ry⟩
        rw [hk, hs]
        obtain ⟨xa, xc, rfl⟩ := rx.1.len
        obtain ⟨ya, yc, rfl⟩ := rdo_shape ry.rd
        have hlow : ∀ q, (Value.slice a' j c').ownBlock = some q → q < wr.heap.size + 1 := fun q hq => Nat.lt_succ_of_lt (HI.out.ow.lt q hq).2
        have hO2 := HI.out.ow.below hb2 (Nat.le_refl _)
        have hB2 := HI.out.be.trans (hb2.mono HI.out.be.size)
        have hbx := below_box4 w2 (.cells #[.int .u8 (k : Int), .int .u64 (s : Int), .slice xa n.2.2.1.length xc, .slice ya n.2.2.2.length yc] 36)
        obtain ⟨z0, z1, z2, z3⟩ := box4_new w2 (.int .u8 (k : Int)) (.int .u64 (s : Int)) (.slice xa n.2.2.1.length xc) (.slice ya n.2.2.2.length yc) 36
        have hbx2 := below_box4 (w2.alloc (.cells #[.int .u8 (k : Int), .int .u64 (s : Int), .slice xa n.2.2.1.length xc, .slice ya n.2.2.2.length yc] 36)) (.cells #[.int .u8 (k : Int), .int .u64 (s : Int), .slice xa n.2.2.1.length xc, .slice ya n.2.2.2.length yc] 36)
        have hlit := laid4 (w2.alloc (.cells #[.int .u8 (k : Int), .int .u64 (s : Int), .slice xa n.2.2.1.length xc, .slice ya n.2.2.2.length yc] 36)) (.int .u8 (k : Int)) (.int .u64 (s : Int)) (.slice xa n.2.2.1.length xc) (.slice ya n.2.2.2.length yc) 36
        rw [show (w2.alloc (.cells #[.int .u8 (k : Int), .int .u64 (s : Int), .slice xa n.2.2.1.length xc, .slice ya n.2.2.2.length yc] 36)).heap.size = w2.heap.size + 1 by simp] at hlit
        have hOe := (hO2.below hbx (Nat.le_refl _)).below hbx2 (Nat.le_refl _)
        have hBe := (hB2.trans (hbx.mono hB2.size)).trans (hbx2.mono (Nat.le_trans hB2.size hbx.size))
        have hxe : Rd _ (.slice xa n.2.2.1.length xc) n.2.2.1 ∧ NeB (.slice xa n.2.2.1.length xc) n.2.2.1 (.slice a' j c') := ⟨(rx.1.below hbx (Nat.le_refl _)).below hbx2 (Nat.le_refl _), neb_of rx.2 hlow rx.1⟩
        have hye := ((heldO_of ry hlow).below hbx (Nat.le_refl _)).below hbx2 (Nat.le_refl _)
        obtain ⟨cs, hrow, hel⟩ := hOe
        rw [HI.out.nl] at hrow
        have hse := hBe.size
        have HBE : Hid _ := hBe
        have HXE : Hid _ := hxe
        have HYE : Hid _ := hye
        have HEL : Hid _ := hel
        have HRW : Hid _ := hrow
        clear her hb2 rx ry hO2 hB2 hbx hbx2 hBe hxe hye hel hk hs hlow
        go_wp2_with (first | (at_builtin; refine wpList_append_lies _ rfl (.tmp 29) (.tmp 31) 22 rfl w1.heap.size 36 i0 (.agg #[.int .u8 0, .int .u64 0, .slice none 0 0, .slice none 0 0]) 4 64 Tryd.underlying22 hi hz0 hz1 hz2 rfl (by decide) (.slice a' j c') j cs rfl hrow ⟨w2.heap.size + 1, 0, none⟩ 1 1 [.int .u8 (k : Int), .int .u64 (s : Int), .slice xa n.2.2.1.length xc, .slice ya n.2.2.2.length yc] rfl rfl hlit (one4 _ _ _ _ _ _ _ _) (by decide) (rep_bd HJ.out).1 (rep_bd HJ.out).2 hse _ rfl ?_; intro g4 c4 w4 hown hgrow hat hlt4; have HI4 : Hid (RepI 36 w1 w4 (.slice (some ⟨g4, 0, none⟩) (j + 1) c4) recs (ns ++ [n]) (j + 1)) := ⟨own_pushJ n HI.out.nl HK.out.1 HK.out.2 HRW.out HEL.out HXE.out HYE.out hown hgrow hat, (by rw [List.length_append, HI.out.nl]; rfl), HF.out, HBE.out.grown hgrow HBE.out.size (fun k' e => (hrow.lt k' e).1)⟩; clear hown hgrow hat hlt4) | fail)
        clear hrow hlit z0 z1 z2 z3 hse
        go_roundg (gk - 1)
        case measure => exact q1
        case rel => exact ⟨j + 1, ns ++ [n], _, c4, q2, by go_num, rfl, HI4⟩
    · have hjI : ¬ (j : Int) < (N : Int) := by omega
      have HF : Hid (replayN recs = ns) := replayN_end (by rw [HN.out]; exact hlt) HI.out.eq
      go_wp2
      go_ret
      exact ⟨.slice a' j c', rfl, by rw [HF.out]; exact HI.out.ow.rd, HB1.out.trans (HI.out.be.mono HB1.out.size)⟩

end Go.Proofs.YtjgpkmdmicjdhaaDoor

/- bartizanref07.Same. -/
namespace Go.Proofs.YtjgpkmdmicjdhaaDoor
open Go.RowKit
set_option linter.unusedVariables false

theorem k_ne {a b : UInt8} (h : a ≠ b) : ¬ (a.toNat : Int) = (b.toNat : Int) := fun e => h (UInt8.toNat_inj.1 (by omega))

set_option maxHeartbeats 16000000 in
set_option maxRecDepth 20000 in
theorem sament_any (w : World) (va vb : Value) (os ps : List NtB) (r : Bool) (ha : RdN w va os) (hb : RdN w vb ps) (hr : os = ps ↔ r = true) :
    Calls Tryd.prog 15 #[va, vb] w fun e w' => e = .returned (.bool r) ∧ ∃ n, w' = w.drewN n := by
  obtain ⟨ao, ac, rfl, h1, h2, h3⟩ := ha
  obtain ⟨bo, bc, rfl, g1, g2, g3⟩ := hb
  unfold maxLen at h2 g2
  have H3 : Hid _ := h3
  have G3 : Hid _ := g3
  have HR : Hid _ := hr
  clear h3 g3 hr
  by_cases hl : os.length = ps.length
  · have HL : Hid _ := hl
    obtain ⟨n, hn⟩ : ∃ n, os.length = n := ⟨_, rfl⟩
    rw [hn] at hl h1 ⊢
    rw [← hl] at g1 ⊢
    have HN : Hid _ := hn
    clear hn hl
    go_enter Tryd.func15, Tryd.ntmps15
    go_wp2_with fail
    go_loopg [13] n (fun gk iv wr => ∃ j m : Nat, gk + j = n ∧ iv = .int .i64 (j : Int) ∧ wr = w.drewN m ∧ os.take j = ps.take j)
    case atStart => exact ⟨0, 0, rfl, rfl, rfl, by simp⟩
    case round =>
      obtain ⟨j, m, hj, rfl, hwr, ht⟩ := hrel
      have HW : Hid (∀ n, wr.drewN n = w.drewN (m + n)) := by intro n; rw [hwr]; exact World.drewN_drewN _ _ _
      have HW0 : Hid _ := hwr
      have HT : Hid _ := ht
      clear ht
      by_cases hlt : j < n
      · have hlo : j < os.length := by rw [HN.out]; exact hlt
        have hlp : j < ps.length := by rw [← HL.out, HN.out]; exact hlt
        obtain ⟨b, off, rfl, xv, yv, c0, c1, c2, c3, rx, ry⟩ := H3.out j hlo
        obtain ⟨b', off', rfl, xv', yv', d0, d1, d2, d3, rx', ry'⟩ := G3.out j hlp
        obtain ⟨⟨ok, osq, ol, oo⟩, ho⟩ : ∃ o, os[j] = o := ⟨_, rfl⟩
        obtain ⟨⟨pk, psq, pl, po⟩, hp⟩ : ∃ o, ps[j] = o := ⟨_, rfl⟩
        rw [ho] at c0 c1 rx ry
        rw [hp] at d0 d1 rx' ry'
        simp only at c0 c1 rx ry d0 d1 rx' ry'
        have e0 : ∀ p, w.cell? p = wr.cell? p := by intro p; rw [hwr]; rfl
        have e1 : ∀ v l, Rd w v l → Rd wr v l := by rw [hwr]; exact fun _ _ h => h
        have e2 : ∀ v l, RdO w v l → RdO wr v l := by rw [hwr]; exact fun _ _ h => h
        rw [e0] at c0 c1 c2 c3 d0 d1 d2 d3
        replace rx := e1 _ _ rx
        replace rx' := e1 _ _ rx'
        replace ry := e2 _ _ ry
        replace ry' := e2 _ _ ry'
        clear e0 e1 e2
        clear hwr
        have HO : Hid (os[j] = (ok, osq, ol, oo)) := ho
        have HP : Hid (ps[j] = (pk, psq, pl, po)) := hp
        clear ho hp
        obtain ⟨q, hq⟩ : ∃ q, (ol == pl) = q := ⟨_, rfl⟩
        have HQ : Hid _ := hq
        obtain ⟨q2, hq2⟩ : ∃ q2, decide (oo = po) = q2 := ⟨_, rfl⟩
        have HQ2 : Hid _ := hq2
        clear hq hq2
        by_cases hk : ok = pk
        · subst hk
          by_cases hs : osq = psq
          · subst hs
            cases q
            · skip
              have hno : Hid (r = false) := by
                show _ = _
                rw [← Bool.not_eq_true]
                intro hrt
                have heq := HR.out.2 hrt
                subst heq
                have e := HO.out.symm.trans HP.out
                simp only [Prod.mk.injEq] at e
                have := HQ.out
                rw [e.2.2.1] at this
                simp at this
              go_wp2_with fail
              go_quiet (first
                | (go_at_call 11; refine Calls.quiet_of (same_q _ _ _ ol pl false (by exact rx) (by exact rx') HQ.out)))
              go_wp2
              go_ret
              exact ⟨retBo (by rw [hno.out]), _, HW.out _⟩
            · cases q2
              · skip
                have hno : Hid (r = false) := by
                  show _ = _
                  rw [← Bool.not_eq_true]
                  intro hrt
                  have heq := HR.out.2 hrt
                  subst heq
                  have e := HO.out.symm.trans HP.out
                  simp only [Prod.mk.injEq] at e
                  have := HQ2.out
                  rw [e.2.2.2] at this
                  simp at this
                go_wp2_with fail
                go_quiet (first
                  | (go_at_call 11; refine Calls.quiet_of (same_q _ _ _ ol pl true (by exact rx) (by exact rx') HQ.out))
                  | (go_at_call 31; refine Calls.quiet_of (sameops_any _ _ _ oo po false (by exact ry) (by exact ry') HQ2.out)))
                go_wp2
                go_ret
                exact ⟨retBo (by rw [hno.out]), _, HW.out _⟩
              · have hyes : Hid (os.take (j + 1) = ps.take (j + 1)) := by
                  show _ = _
                  rw [List.take_succ_eq_append_getElem hlo, List.take_succ_eq_append_getElem hlp, HT.out, HO.out, HP.out, eq_of_beq HQ.out, of_decide_eq_true HQ2.out]
                go_wp2_with fail
                go_quiet (first
                  | (go_at_call 11; refine Calls.quiet_of (same_q _ _ _ ol pl true (by exact rx) (by exact rx') HQ.out))
                  | (go_at_call 31; refine Calls.quiet_of (sameops_any _ _ _ oo po true (by exact ry) (by exact ry') HQ2.out)))
                go_wp2
                go_roundg (gk - 1)
                case measure => omega
                case rel => exact ⟨j + 1, _, by omega, by go_num, HW.out _, hyes.out⟩
          · have hsI : ¬ (osq : Int) = (psq : Int) := by omega
            have hsq : decide ((osq : Int) = (psq : Int)) = false := decide_eq_false hsI
            have hsq2 : ((osq : Int) != (psq : Int)) = true := by simp [hsI]
            clear HQ HQ2 rx rx' ry ry'
            have hno : Hid (r = false) := by
              show _ = _
              rw [← Bool.not_eq_true]
              intro hrt
              have heq := HR.out.2 hrt
              subst heq
              have e := HO.out.symm.trans HP.out
              simp only [Prod.mk.injEq] at e
              exact hs e.2.1
            go_wp2_with fail
            go_quiet (fail)
            go_wp2
            go_ret
            exact ⟨retBo (by rw [hno.out]), _, HW.out _⟩
        · have hkI := k_ne hk
          have hkq : decide ((ok.toNat : Int) = (pk.toNat : Int)) = false := decide_eq_false hkI
          have hkq2 : ((ok.toNat : Int) != (pk.toNat : Int)) = true := by simp [hkI]
          clear HQ HQ2 rx rx' ry ry'
          have hno : Hid (r = false) := by
            show _ = _
            rw [← Bool.not_eq_true]
            intro hrt
            have heq := HR.out.2 hrt
            subst heq
            have e := HO.out.symm.trans HP.out
            simp only [Prod.mk.injEq] at e
            exact hk e.1
          go_wp2_with fail
          go_quiet (fail)
          go_wp2
          go_ret
          exact ⟨retBo (by rw [hno.out]), _, HW.out _⟩
      · obtain rfl : j = n := by omega
        have hyes : Hid (r = true) := by
          show _ = _
          apply HR.out.1
          have e := HT.out
          rw [List.take_of_length_le (by rw [HN.out]; omega), List.take_of_length_le (by rw [← HL.out, HN.out]; omega)] at e
          exact e
        clear hwr
        go_wp2
        go_ret
        exact ⟨retBo (by rw [hyes.out]), _, HW0.out⟩
  · have hno : Hid (r = false) := by
      show _ = _
      rw [← Bool.not_eq_true]
      intro hrt
      exact hl (by rw [HR.out.2 hrt])
    obtain ⟨n, hn⟩ : ∃ n, os.length = n := ⟨_, rfl⟩
    obtain ⟨m, hm⟩ : ∃ n, ps.length = n := ⟨_, rfl⟩
    rw [hn, hm] at hl ⊢
    have hI : ¬ (n : Int) = (m : Int) := by omega
    have hbq : ((n : Int) == (m : Int)) = false := by simpa using hI
    clear hn hm hl h1 h2 g1 g2
    go_enter Tryd.func15, Tryd.ntmps15
    go_wp2
    go_ret
    exact ⟨retBo (by rw [hno.out]), 0, rfl⟩

end Go.Proofs.YtjgpkmdmicjdhaaDoor

/- The document's example of entries. -/
namespace Go.Proofs.YtjgpkmdmicjdhaaDoor
open Go.RowKit
set_option linter.unusedVariables false

theorem rd_mark1 (w : World) (b : UInt8) (i : Int) (hi : (b.toNat : Int) = i) : Rd (w.alloc (.cells #[.int .u8 i] 5 (1, 2))) (.slice (some ⟨w.heap.size, 0, none⟩) 1 1) [b] := by
  refine .inr ⟨w.heap.size, 0, 1, rfl, by simp, by simp [maxLen], fun j u hu => ?_⟩
  rw [World.cell?_alloc_mark]
  subst hi
  have hj : j = 0 := by have := (List.getElem?_eq_some_iff.1 hu).1; simp [bv] at this; omega
  subst hj
  simpa [bv] using hu

theorem conv_mark1 (w : World) (i : Int) (g : Nat) (hg : g = w.heap.size) : (convert 26 26 (.slice (some ⟨g, 0, none⟩) 1 1)).run Tryd.prog (w.alloc (.cells #[.int .u8 i] 5)) = .ok (.slice (some ⟨g, 0, none⟩) 1 1) (w.alloc (.cells #[.int .u8 i] 5 (1, 2))) :=
  Joins.run_convert_bytes_const_at w 26 5 _ 1 1 g hg Tryd.underlying26 Tryd.underlying5

theorem eex1 : noteB 3 5 [97] [] = [3, 5, 1, 97, 0] := by decide +kernel
theorem eex2 : rightB ((3 : Nat) : Int) ((5 : Nat) : Int) 1 0 = true := by decide +kernel
theorem eex3 : chkL [] = 0 := by decide +kernel

theorem five_row (w : World) (B : Nat) (hB : B ≤ w.heap.size) (a b c d e : UInt8) : (w.alloc (.cells #[.int .u8 (a.toNat : Int), .int .u8 (b.toNat : Int), .int .u8 (c.toNat : Int), .int .u8 (d.toNat : Int), .int .u8 (e.toNat : Int)] 5)).ownsRow B 5 1 (.slice (some ⟨w.heap.size, 0, none⟩) 5 5) 5 (bv [a, b, c, d, e]) :=
  World.ownsRow_lit w #[.int .u8 (a.toNat : Int), .int .u8 (b.toNat : Int), .int .u8 (c.toNat : Int), .int .u8 (d.toNat : Int), .int .u8 (e.toNat : Int)] 5 hB (by simp [maxLen]) rfl

set_option maxHeartbeats 2000000 in
set_option maxRecDepth 20000 in
theorem eawake_any (w : World) : Calls Tryd.prog 6 #[] w fun e w' => e = .returned (.bool true) ∧ Below w.heap.size w w' := by
  have h1 : Below w.heap.size w (w.alloc (.cells #[.int .u8 97] 5 (1, 2))) := below_box4 w _
  have r1 := rd_mark1 w 97 97 rfl
  have k1 := conv_mark1 w 97 w.heap.size rfl
  have heb := ebytes_ok (w.alloc (.cells #[.int .u8 97] 5 (1, 2))) 3 5 (some ⟨w.heap.size, 0, none⟩) 1 1 none 0 0 [97] [] (by omega) (by omega) eex2 r1 (by decide) (LsO.nil _) eex3 (by decide) (by decide)
  rw [eex1] at heb
  have e3 : ((3 : Nat) : Int) = 3 := rfl
  have e5 : ((5 : Nat) : Int) = 5 := rfl
  rw [e3, e5] at heb
  clear r1 e3 e5
  go_enter Tryd.func6, Tryd.ntmps6
  go_wp2_with fail
  refine heb.mono ?_
  rintro e wp ⟨p, rfl, op, hb⟩
  obtain ⟨gp, kp, hp⟩ := op.shape
  subst hp
  have hB := h1.trans (hb.mono h1.size)
  have hlit := (Own.of_row (l := [3, 5, 1, 97, 0]) (five_row wp wp.heap.size (Nat.le_refl _) 3 5 1 97 0) (by simp)).rd
  have op2 := op.rd.below (below_box4 wp (.cells #[.int .u8 ((3 : UInt8).toNat : Int), .int .u8 ((5 : UInt8).toNat : Int), .int .u8 ((1 : UInt8).toNat : Int), .int .u8 ((97 : UInt8).toNat : Int), .int .u8 ((0 : UInt8).toNat : Int)] 5)) (Nat.le_refl _)
  have hsm := same_b _ _ _ _ _ true op2 hlit (by decide)
  have hB2 := hB.alloc hB.size (.cells #[.int .u8 ((3 : UInt8).toNat : Int), .int .u8 ((5 : UInt8).toNat : Int), .int .u8 ((1 : UInt8).toNat : Int), .int .u8 ((97 : UInt8).toNat : Int), .int .u8 ((0 : UInt8).toNat : Int)] 5)
  rw [show ((3 : UInt8).toNat : Int) = 3 from rfl, show ((5 : UInt8).toNat : Int) = 5 from rfl, show ((1 : UInt8).toNat : Int) = 1 from rfl, show ((97 : UInt8).toNat : Int) = 97 from rfl, show ((0 : UInt8).toNat : Int) = 0 from rfl] at hsm hB2
  clear h1 hb heb k1 op hlit op2 hB
  go_wp2_with fail
  refine hsm.mono ?_
  rintro e w5 ⟨rfl, rfl⟩
  go_wp2
  go_ret
  exact ⟨rfl, hB2⟩

end Go.Proofs.YtjgpkmdmicjdhaaDoor

/- EntryReplays answers true: any bytes are replayed up to the first record that is no entry; they come back untouched. -/
namespace Go.Proofs.YtjgpkmdmicjdhaaDoor
set_option maxRecDepth 20000
open Go.RowKit
set_option linter.unusedVariables false

theorem replayN_len : ∀ (l : List (List UInt8)), (replayN l).length ≤ l.length
  | [] => Nat.le_refl _
  | r :: rs => by
    rw [replayN]
    cases noteS r with
    | none => exact Nat.zero_le _
    | some n => simp only [List.length_cons]; have := replayN_len rs; omega

theorem own_cap {B g c : Nat} {w : World} {l : List UInt8} (h : Own B w (.slice (some ⟨g, 0, none⟩) l.length c) l) : l.length ≤ c ∧ c ≤ 9223372036854775807 := by
  obtain ⟨g', k', c', e, _, _, h1, h2, _⟩ := h
  simp only [Value.slice.injEq] at e
  obtain ⟨_, _, rfl⟩ := e
  unfold maxLen at h2
  exact ⟨h1, by omega⟩

structure C1 (w : World) (b i : Nat) (v : Value) : Prop where
  c : w.cell? ⟨b, i, none⟩ = some v

theorem C1.below {B : Nat} {w w' : World} {b i : Nat} {v : Value} (h : C1 w b i v) (hb : Below B w w') (hB : w.heap.size ≤ B) : C1 w' b i v :=
  ⟨by rw [hb.cell (p := ⟨b, i, none⟩) (Nat.lt_of_lt_of_le (World.block_lt_of_cell? w _ h.c) hB)]; exact h.c⟩

set_option maxHeartbeats 4000000 in
set_option maxRecDepth 20000 in
theorem ereplays (HSAME : Hid (∀ (w : World) (va vb : Value) (os ps : List NtB) (r : Bool), RdN w va os → RdN w vb ps → (os = ps ↔ r = true) → Calls Tryd.prog 15 #[va, vb] w fun e w' => e = .returned (.bool r) ∧ ∃ n, w' = w.drewN n)) (w : World) (vx : Value) (x cx : List UInt8) (CX : Hid (x.take 600 = cx)) (hcx : cx.length ≤ 600) (hx : Arg w vx x) (ht : Tab w) :
    Calls Tryd.prog 4 #[vx] w fun e w' => e = .returned (.bool true) ∧ Below w.heap.size w w' := by
  obtain ⟨i0, hi, hz0, hz1, hz2⟩ := info_parts info5
  have HT : Hid (Tab w) := ht
  clear ht
  go_enter Tryd.func4, Tryd.ntmps4
  go_wp2_with fail
  refine (eawake_any _).mono ?_
  rintro e w1 ⟨rfl, hb1⟩
  have hx1 := hx.below hb1 (Nat.le_refl _)
  clear hx
  go_wp2_with fail
  refine (cut_any _ _ x 600 hx1 (by omega)).mono ?_
  rintro e w2 ⟨vp, rfl, op, hb2⟩
  rw [CX.out] at op
  have hB2 := hb1.trans (hb2.mono hb1.size)
  obtain ⟨gp, kp, hvp⟩ := op.shape
  subst hvp
  have hgp := op.lt.2
  have HKP : Hid (cx.length ≤ kp ∧ kp ≤ 9223372036854775807) := own_cap op
  clear hb1 hb2 hx1
  go_wp2_with fail
  refine (copy_any _ _ cx op.rd.arg (by omega)).mono ?_
  rintro e w3 ⟨vq, rfl, oq, hb3⟩
  have hB3 := hB2.trans (hb3.mono hB2.size)
  have op3 := op.below hb3 (Nat.le_refl _)
  obtain ⟨gq, kq, hvq⟩ := oq.shape
  subst hvq
  have hgq := oq.lt
  clear hb3 op
  have hlit := lit_row w3 w3.heap.size (Nat.le_refl _) 165
  have hb165 : ((165 : UInt8).toNat : Int) = 165 := by decide
  rw [hb165] at hlit
  have hqa := oq.row.alloc (.cells #[.int .u8 165] 5)
  have rp3 := op3.rd.below ((Below.refl w3.heap.size w3).alloc (Nat.le_refl _) (.cells #[.int .u8 165] 5)) (Nat.le_refl _)
  have hB3a := hB3.alloc hB3.size (.cells #[.int .u8 165] 5)
  have hs2 := hB2.size
  have hs3 : w2.heap.size ≤ w3.heap.size := by omega
  clear op3 oq hB2 hB3 hb165
  go_wp2_with (first | (at_builtin; refine wpList_append_own _ rfl (.tmp 12) (.tmp 13) 26 rfl w2.heap.size 5 i0 (.int .u8 0) 1 1 Tryd.underlying26 hi hz0 hz1 hz2 rfl (by decide) (.slice (some ⟨gq, 0, none⟩) cx.length kq) cx.length (bv cx) rfl hqa ⟨w3.heap.size, 0, none⟩ 1 1 (bv [165]) rfl rfl (hlit.cells rfl) (bv_one _) (by simp only [maxLen]; omega) (by omega) (by simp; omega) ?_; intro v' w4 ho' hgr' hn'; obtain ⟨gv, kv, hvv, hk1, hk2, ov⟩ := app_shape ho' rfl rfl (fun e => by have := (hn'.1 e).1; cases this); subst hvv) | fail)
  have hB4 : Below w.heap.size w w4 := hB3a.grown hgr' hB3a.size (fun k' e => by have := (hqa.lt k' e).1; omega)
  have rp4 := rp3.grown hgr' (fun e => by have := (hqa.lt gp e.symm).1; omega)
  have rf4 := ov.rd
  have hcq : ∀ j u, (bv (cx ++ [165]))[j]? = some u → w4.cell? ⟨gv, 0 + j, none⟩ = some u := fun j u hu => by
    have := (rd_cells (by simpa using rf4)).2 j u hu
    rwa [Addr.add_lit] at this
  have rq4 : Rd w4 (.slice (some ⟨gv, 0, none⟩) cx.length kv) cx := by
    have := rd_sub hcq 0 cx.length kv (by omega) (by simp only [maxLen]; omega) (by simp)
    simpa using this
  have hc4 : w4.cell? ⟨gv, cx.length, none⟩ = some (.int .u8 165) := by
    have := hcq cx.length (.int .u8 165) (by simp [bv])
    simpa using this
  have HB4 : Hid (Below w.heap.size w w4) := hB4
  have HP4 : Hid (Rd w4 (.slice (some ⟨gp, 0, none⟩) cx.length kp) cx) := rp4
  have HQ4 : Hid (Rd w4 (.slice (some ⟨gv, 0, none⟩) cx.length kv) cx) := rq4
  have C4 : C1 w4 gv cx.length (.int .u8 165) := ⟨hc4⟩
  have hgv := ov.lt.2
  have hgp4 : gp < w4.heap.size := Nat.lt_of_lt_of_le hgp (Nat.le_trans hs3 (by have := hgr'.size; simpa using (Nat.le_trans (by simp) this)))
  have her := replay_any w4 _ cx rq4 (fun q hq => by simp [Value.ownBlock] at hq; subst hq; exact hgv) (by omega) (HT.out.below hB4 (Nat.le_refl _))
  obtain ⟨hm1, _⟩ := readB_most cx
  have hnl : (replayN (readB cx).1).length ≤ 600 := Nat.le_trans (replayN_len _) (by omega)
  obtain ⟨NS, hNS⟩ : ∃ NS, replayN (readB cx).1 = NS := ⟨_, rfl⟩
  have HNS : Hid (replayN (readB cx).1 = NS) := hNS
  rw [hNS] at her hnl
  have HK : Hid (cx.length ≤ kp ∧ kp ≤ 9223372036854775807) := HKP.out
  clear ho' hgr' hn' hqa rp3 hB3a ov rf4 hcq hlit hNS rp4 rq4 hc4 hB4 hgp hgq hs2 hs3 hm1
  go_wp2_with fail
  refine her.mono ?_
  rintro e w5 ⟨y, rfl, ry, hb5⟩
  obtain ⟨ya, yc, rfl⟩ : ∃ ya yc, y = .slice ya NS.length yc := by obtain ⟨ao, cap, e, _⟩ := ry; exact ⟨ao, cap, e⟩
  have HB45 : Hid (Below w4.heap.size w4 w5) := hb5
  have HB5 : Hid (Below w.heap.size w w5) := HB4.out.trans (hb5.mono HB4.out.size)
  have HY5 : Hid (RdN w5 (.slice ya NS.length yc) NS) := ry
  have hP5 := HP4.out.below hb5 (Nat.le_refl _)
  have hrr := rreplay_any w5 gp 0 kp cx (fun j u hu => by have := (rd_cells hP5).2 j u hu; rwa [Addr.add_lit] at this) (Nat.lt_of_lt_of_le hgp4 hb5.size) HK.out.1 HK.out.2 (by omega)
  rw [HNS.out] at hrr
  clear her hb5 ry hP5
  go_wp2_with fail
  refine hrr.mono ?_
  rintro e w6 ⟨z, rfl, rz, hb6⟩
  obtain ⟨za, zc, rfl⟩ : ∃ za zc, z = .slice za NS.length zc := by obtain ⟨ao, cap, e, _⟩ := rz; exact ⟨ao, cap, e⟩
  have HB46 : Hid (Below w4.heap.size w4 w6) := HB45.out.trans (hb6.mono HB45.out.size)
  have HB6 : Hid (Below w.heap.size w w6) := HB5.out.trans (hb6.mono HB5.out.size)
  have HZ6 : Hid (RdN w6 (.slice za NS.length zc) NS) := rz
  have hbk := back_any w6 _ NS (HY5.out.below hb6 (Nat.le_refl _)) (by omega)
  clear hrr hb6 rz
  go_wp2_with fail
  refine hbk.mono ?_
  rintro e w7 ⟨x7, rfl, r7, hb7⟩
  obtain ⟨xa7, xc7, rfl⟩ : ∃ xa xc, x7 = .slice xa NS.length xc := by obtain ⟨ao, cap, e, _⟩ := r7; exact ⟨ao, cap, e⟩
  have HB47 : Hid (Below w4.heap.size w4 w7) := HB46.out.trans (hb7.mono HB46.out.size)
  have HB7 : Hid (Below w.heap.size w w7) := HB6.out.trans (hb7.mono HB6.out.size)
  have hs := HSAME.out w7 _ _ NS NS true r7 (HZ6.out.below hb7 (Nat.le_refl _)) ⟨fun _ => rfl, fun _ => rfl⟩
  clear hbk hb7 r7
  go_wp2_with fail
  refine hs.mono ?_
  rintro e w8 ⟨rfl, n8, hw8⟩
  have BX := below_drewN HB47.out n8
  rw [← hw8] at BX
  have HBx : Hid (Below w.heap.size w w8) := by rw [hw8]; exact below_drewN HB7.out _
  have cX := (C4.below BX (Nat.le_refl _)).c
  have hsb := same_b w8 _ _ cx cx true (HQ4.out.below BX (Nat.le_refl _)) (HP4.out.below BX (Nat.le_refl _)) (beq_self_eq_true cx)
  clear hs hw8 BX C4
  go_wp2_with fail
  refine hsb.mono ?_
  rintro e wy ⟨rfl, hwy⟩
  subst hwy
  clear hsb
  go_wp2
  go_ret
  exact ⟨ret_bool (by simp), HBx.out⟩

theorem entryReplays_walk (a0 : Option Addr) (len0 cap0 : Nat) (z0 : List Int) (w : World) (w0 : IsRow .u8 w a0 len0 cap0 z0) (ht : Tab w) :
    Calls Tryd.prog 4 #[.slice a0 len0 cap0] w fun e w' => e = .returned (.bool true) ∧ Below w.heap.size w w' :=
  ereplays sament_any w _ _ _ rfl (List.length_take_le _ _) (arg_of w0) ht

end Go.Proofs.YtjgpkmdmicjdhaaDoor
