/- (*locks.Table).advance: who may be granted is. -/
import Derived.Test.YthiogpojccohgaaLkWhose
import Derived.Deep.RegionLaw
namespace Go.Proofs.Ythiogpojccohgaa
set_option maxRecDepth 20000
open Go.RowKit Go.Maps
set_option linter.unusedVariables false
set_option linter.unusedSimpArgs false

theorem addKey_len (xs : List Lit) : ∀ acc : List Lit, acc.length ≤ (xs.foldl addKey acc).length := by
  induction xs with
  | nil => intro acc; exact Nat.le_refl _
  | cons a r ih =>
    intro acc
    rw [List.foldl_cons]
    refine Nat.le_trans ?_ (ih _)
    unfold addKey
    split
    · exact Nat.le_refl _
    · simp

theorem below_box5r (w : World) (r : Rq) : Below w.heap.size w (w.alloc (.cells #[.int .u64 (r.l.n : Int), r.l.x, r.l.y, .int .u8 (r.l.m.toNat : Int), .int .u64 (r.u : Int)] 63)) := below_box4 w _

/-- a block of cells of one kind is no row of another -/
theorem ne_row {w : World} {t : Nat} {xs : Array Value} {ty e : TypeId} {fr : Nat × Nat} (h : w.heap[t]? = some (.cells xs ty fr)) (hte : ty ≠ e) {base size k : Nat} {o : Value} {cs : List Value} (hr : w.ownsRow base e size o k cs) : some t ≠ o.ownBlock := by
  rcases hr.2 with ⟨rfl, _⟩ | ⟨g, cap, cur, rfl, _, hgb, _⟩
  · simp [Value.ownBlock]
  · intro e'
    obtain rfl : t = g := by simpa [Value.ownBlock] using e'
    have := h.symm.trans hgb
    simp at this
    exact hte this.2.1

/-- how many there are -/
def sizU (xs : List Nat) : Nat := Maps.size (setOf (DataW.agg (H := Unit) []) (xs.map litU))

theorem sizU_zero (xs : List Nat) : sizU xs = 0 ↔ xs.length = 0 := by
  unfold sizU
  rw [size_setOf _ _ (fun x hx => by obtain ⟨n, _, rfl⟩ := List.mem_map.1 hx; simp [WideAt.IsKeyLit, litU])]
  cases xs with
  | nil => simp
  | cons a r =>
    simp only [List.map_cons, List.foldl_cons, List.length_cons]
    have h := addKey_len (r.map litU) (addKey [] (litU a))
    have h1 : (addKey [] (litU a)).length = 1 := by unfold addKey; simp
    omega

theorem sizU_le (xs : List Nat) {w : World} {b : Nat} (h : MapU w b xs) : sizU xs ≤ xs.length := World.ownsMap.size_le h

/-- those that stay, those that go: they are of the queue; and how many -/
theorem advB_mem (qs : List Rq) : ∀ gs ah ps, (∀ r ∈ (advB qs gs ah ps).2.1, r ∈ ah ∨ r ∈ qs) ∧ (∀ r ∈ (advB qs gs ah ps).2.2, r ∈ ps ∨ r ∈ qs) ∧ (∀ g ∈ (advB qs gs ah ps).1, g ∈ gs ∨ ∃ r ∈ qs, g = r.l) ∧ (advB qs gs ah ps).1.length + (advB qs gs ah ps).2.1.length = gs.length + ah.length + qs.length ∧ (advB qs gs ah ps).2.2.length ≤ ps.length + qs.length := by
  induction qs with
  | nil => intro gs ah ps; simp [advB]
  | cons a r ih =>
    intro gs ah ps
    unfold advB
    split
    · obtain ⟨h1, h2, h3, h4, h5⟩ := ih (gs ++ [a.l]) ah (ps ++ [a])
      refine ⟨fun x hx => ?_, fun x hx => ?_, fun x hx => ?_, ?_, ?_⟩
      · rcases h1 x hx with h | h
        · exact .inl h
        · exact .inr (List.mem_cons_of_mem _ h)
      · rcases h2 x hx with h | h
        · rcases List.mem_append.1 h with h | h
          · exact .inl h
          · rw [List.mem_singleton.1 h]; exact .inr List.mem_cons_self
        · exact .inr (List.mem_cons_of_mem _ h)
      · rcases h3 x hx with h | ⟨q, hq, h⟩
        · rcases List.mem_append.1 h with h | h
          · exact .inl h
          · rw [List.mem_singleton.1 h]; exact .inr ⟨a, List.mem_cons_self, rfl⟩
        · exact .inr ⟨q, List.mem_cons_of_mem _ hq, h⟩
      · rw [List.length_append] at h4; simp only [List.length_cons, List.length_nil] at h4 ⊢; omega
      · rw [List.length_append] at h5; simp only [List.length_cons, List.length_nil] at h5 ⊢; omega
    · obtain ⟨h1, h2, h3, h4, h5⟩ := ih gs (ah ++ [a]) ps
      refine ⟨fun x hx => ?_, fun x hx => ?_, fun x hx => ?_, ?_, ?_⟩
      · rcases h1 x hx with h | h
        · rcases List.mem_append.1 h with h | h
          · exact .inl h
          · rw [List.mem_singleton.1 h]; exact .inr List.mem_cons_self
        · exact .inr (List.mem_cons_of_mem _ h)
      · rcases h2 x hx with h | h
        · exact .inl h
        · exact .inr (List.mem_cons_of_mem _ h)
      · rcases h3 x hx with h | ⟨q, hq, h⟩
        · exact .inl h
        · exact .inr ⟨q, List.mem_cons_of_mem _ hq, h⟩
      · rw [List.length_append] at h4; simp only [List.length_cons, List.length_nil] at h4 ⊢; omega
      · simp only [List.length_cons] at h5 ⊢; omega

/-- the round's relation -/
structure AdvI (G : Nat → Prop) (w wr : World) (t : Nat) (mo ea : Int) (gs : List Lk) (qs : List Rq) (qv av pv : Value) (gs' : List Lk) (ah ps : List Rq) : Prop where
  at_ : ∃ Gj gvj, LkAt Gj wr t mo ea gs' qs gvj qv ∧ ∀ b, Gj b → G b ∨ w.heap.size ≤ b
  oa : OwnQ w.heap.size wr av ah
  op : OwnQ w.heap.size wr pv ps
  ap : av.ownBlock = none ∨ pv.ownBlock = none ∨ av.ownBlock ≠ pv.ownBlock
  kp : Keeps G w wr

theorem AdvI.below {G : Nat → Prop} {w wr w2 : World} {t : Nat} {mo ea : Int} {gs gs' : List Lk} {qs ah ps : List Rq} {qv av pv : Value} (h : AdvI G w wr t mo ea gs qs qv av pv gs' ah ps) (hb : Below wr.heap.size wr w2) : AdvI G w w2 t mo ea gs qs qv av pv gs' ah ps := by
  obtain ⟨⟨Gj, gvj, h1, h2⟩, h3, h4, h5, h6⟩ := h
  exact ⟨⟨Gj, gvj, h1.below hb, h2⟩, row_below h3 hb, row_below h4 hb, h5, h6.trans (Below.keeps hb _)⟩

theorem kept_own {w w' : World} {B B' n m s s' : Nat} {e e' : TypeId} {v x : Value} {cs ds : List Value} (h : w.ownsRow B' e' s' x m ds) (hr : w.ownsRow B e s v n cs) (hne : x.ownBlock = none ∨ v.ownBlock = none ∨ x.ownBlock ≠ v.ownBlock) (hg : w.grownBy w' v.ownBlock) : w'.ownsRow B' e' s' x m ds := by
  refine h.kept hg ?_
  rcases hne with h9 | h9 | h9
  · exact .inl h9
  · cases hx : x.ownBlock with
    | none => exact .inl rfl
    | some b => right; rw [h9]; simp
  · exact .inr h9

/-- the ahead row has grown -/
theorem AdvI.stay {G : Nat → Prop} {w W w4 : World} {t g4 c4 : Nat} {mo ea : Int} {gs gs' : List Lk} {qs ah ps : List Rq} {qv av pv : Value} (r : Rq) (h : AdvI G w W t mo ea gs qs qv av pv gs' ah ps) (hqv : ∀ b, qv.ownBlock = some b → b < w.heap.size)
    (hown : w4.ownsRow w.heap.size 63 5 (.slice (some ⟨g4, 0, none⟩) (ah.length + 1) c4) (ah.length + 1) (ah.flatMap encR ++ encR r)) (hg : W.grownBy w4 av.ownBlock) (hat : av.ownBlock = some g4 ∨ g4 = W.heap.size) : AdvI G w w4 t mo ea gs qs qv (.slice (some ⟨g4, 0, none⟩) (ah.length + 1) c4) pv gs' (ah ++ [r]) ps := by
  obtain ⟨⟨Gj, gvj, h1, h2⟩, h3, h4, h5, h6⟩ := h
  refine ⟨⟨Gj, gvj, h1.aside h3 ?_ hg, h2⟩, ?_, kept_own h4 h3 ?_ hg, ?_, h6.then (keeps_grown (F := fun b => av.ownBlock = some b) hg (fun q hq => hq)) (fun i hi => .inr (h3.lt i hi).1)⟩
  · cases hq : qv.ownBlock with
    | none => exact .inl rfl
    | some b =>
      right
      intro e
      have := (h3.lt b e.symm).1
      have := hqv b hq
      omega
  · unfold OwnQ
    rw [flat_snoc, List.length_append]
    exact hown
  · rcases h5 with h9 | h9 | h9
    · exact .inr (.inl h9)
    · exact .inl h9
    · exact .inr (.inr fun e => h9 e.symm)
  · cases hp : pv.ownBlock with
    | none => exact .inr (.inl rfl)
    | some b =>
      right; right
      intro e
      have e2 : g4 = b := by simpa [Value.ownBlock] using e
      rcases hat with h9 | h9
      · rcases h5 with h8 | h8 | h8
        · rw [h8] at h9; cases h9
        · rw [h8] at hp; cases hp
        · exact h8 (by rw [h9, hp, e2])
      · have := (h4.lt b hp).2
        omega

/-- the other row has grown -/
theorem AdvI.pass {G : Nat → Prop} {w W w4 : World} {t g4 c4 : Nat} {mo ea : Int} {gs gs' : List Lk} {qs ah ps : List Rq} {qv av pv : Value} (r : Rq) (h : AdvI G w W t mo ea gs qs qv av pv gs' ah ps) (hqv : ∀ b, qv.ownBlock = some b → b < w.heap.size)
    (hown : w4.ownsRow w.heap.size 63 5 (.slice (some ⟨g4, 0, none⟩) (ps.length + 1) c4) (ps.length + 1) (ps.flatMap encR ++ encR r)) (hg : W.grownBy w4 pv.ownBlock) (hat : pv.ownBlock = some g4 ∨ g4 = W.heap.size) : AdvI G w w4 t mo ea gs qs qv av (.slice (some ⟨g4, 0, none⟩) (ps.length + 1) c4) gs' ah (ps ++ [r]) := by
  have h' : AdvI G w W t mo ea gs qs qv pv av gs' ps ah := ⟨h.at_, h.op, h.oa, by rcases h.ap with h9 | h9 | h9; exact .inr (.inl h9); exact .inl h9; exact .inr (.inr fun e => h9 e.symm), h.kp⟩
  have h2 := h'.stay r hqv hown hg hat
  exact ⟨h2.at_, h2.op, h2.oa, by rcases h2.ap with h9 | h9 | h9; exact .inr (.inl h9); exact .inl h9; exact .inr (.inr fun e => h9 e.symm), h2.kp⟩

/-- one more is granted -/
theorem AdvI.grant {G Gj : Nat → Prop} {w W w4 : World} {t g4 c4 : Nat} {mo ea : Int} {gs gs' : List Lk} {qs ah ps : List Rq} {qv av pv gvj : Value} (r : Rq) (hr : r ∈ qs) (hk : Keeps G w W) (hj : LkAt Gj W t mo ea gs' qs gvj qv) (hsub : ∀ b, Gj b → G b ∨ w.heap.size ≤ b)
    (oa : OwnQ w.heap.size W av ah) (op : OwnQ w.heap.size W pv ps) (ap : av.ownBlock = none ∨ pv.ownBlock = none ∨ av.ownBlock ≠ pv.ownBlock)
    (hown : w4.ownsRow 0 32 4 (.slice (some ⟨g4, 0, none⟩) (gs'.length + 1) c4) (gs'.length + 1) (gs'.flatMap encL ++ encL r.l)) (hg : W.grownBy w4 gvj.ownBlock) (hat : gvj.ownBlock = some g4 ∨ g4 = W.heap.size) (hlt : g4 < w4.heap.size) :
    AdvI G w (w4.setCell ⟨t, 2, none⟩ (.slice (some ⟨g4, 0, none⟩) (gs'.length + 1) c4)) t mo ea gs qs qv av pv (gs' ++ [r.l]) ah ps := by
  have hs := hk.size
  have hn := hj.push2 (B := W.heap.size) r.l (hj.oq r hr) (Nat.le_refl _) (fun b hb => .inl (hj.xq r hr b hb)) hown hg hat hlt
  have hbx : BxT w4 t mo ea gvj qv := hj.bx.grown (by decide) hj.rg hg
  have hown2 : ∀ x rs, OwnQ w.heap.size W x rs → OwnQ w.heap.size (w4.setCell ⟨t, 2, none⟩ (.slice (some ⟨g4, 0, none⟩) (gs'.length + 1) c4)) x rs := fun x rs h => rowT_stored (World.ownsRow.kept h hg (rows_ne (by decide) hj.rg h)) hbx (by decide)
  refine ⟨⟨_, _, hn, fun b hb => ?_⟩, hown2 _ _ oa, hown2 _ _ op, ap, ?_⟩
  · rcases hb.1 with h9 | h9
    · exact hsub b h9
    · exact .inr (by omega)
  · refine (hk.then (keeps_grown (F := fun b => gvj.ownBlock = some b) hg (fun q hq => hq)) (fun i hi => hsub i (hj.gg i hi))).then (F' := fun b => b = t) ?_ (fun i hi => ?_)
    · exact (Keeps.refl (fun b => b = t) w4).setCell (p := ⟨t, 2, none⟩) (show t = t from rfl) _
    · rw [hi]; exact hsub t hj.gt

end Go.Proofs.Ythiogpojccohgaa
