/- The table as it turns: rows stored, locks and requests pushed. -/
import Derived.Test.YthiogpojccohgaaLkBlk
namespace Go.Proofs.Ythiogpojccohgaa
set_option maxRecDepth 20000
open Go.RowKit Go.Maps
set_option linter.unusedVariables false
set_option linter.unusedSimpArgs false

theorem LkOk.stored {w : World} {t i : Nat} {mo ea : Int} {gv qv u : Value} {g : Lk} (h : LkOk w g) (hb : BxT w t mo ea gv qv) : LkOk (w.setCell ⟨t, i, none⟩ u) g := by
  have gen : ∀ x l, OwnN 0 w x l → OwnN 0 (w.setCell ⟨t, i, none⟩ u) x l := fun x l ho => ownN_same9 ho (fun q hq => by
    have hne : q ≠ t := fun e => by
      subst e
      rcases ho with ⟨rfl, _⟩ | ho
      · simp [Value.ownBlock] at hq
      · exact hb.not_row (e := 5) (by decide) ho.row hq.symm
    exact Below.heap_setCell w ⟨t, i, none⟩ u q hne)
  exact ⟨gen _ _ h.1, gen _ _ h.2.1, h.2.2⟩

theorem rowT_stored {w : World} {t i : Nat} {mo ea : Int} {gv qv u o : Value} {B s n : Nat} {e : TypeId} {cs : List Value} (h : w.ownsRow B e s o n cs) (hb : BxT w t mo ea gv qv) (he : 54 ≠ e) : (w.setCell ⟨t, i, none⟩ u).ownsRow B e s o n cs :=
  row_same9 h (fun q hq => Below.heap_setCell w ⟨t, i, none⟩ u q (fun e9 => by subst e9; exact hb.not_row he h hq.symm))

theorem LkOk.grown {w w' : World} {g : Lk} {B n s : Nat} {e : TypeId} {v : Value} {cs : List Value} (h : LkOk w g) (he : e ≠ 5) (hr : w.ownsRow B e s v n cs) (hg : w.grownBy w' v.ownBlock) : LkOk w' g :=
  ⟨ownN_kept h.1 he hr hg, ownN_kept h.2.1 he hr hg, h.2.2⟩

theorem BxT.grown {w w' : World} {t : Nat} {mo ea : Int} {gv qv v : Value} {B n s : Nat} {e : TypeId} {cs : List Value} (h : BxT w t mo ea gv qv) (he : 54 ≠ e) (hr : w.ownsRow B e s v n cs) (hg : w.grownBy w' v.ownBlock) : BxT w' t mo ea gv qv :=
  (hg.block t h.lt (h.not_row he hr)).trans h

/-- a new row of granted locks -/
theorem LkAt.put2 {G G' : Nat → Prop} {W : World} {t : Nat} {mo ea : Int} {gs gs' : List Lk} {qs : List Rq} {gv qv v : Value} (h : LkAt G W t mo ea gs qs gv qv) (hr : RowL W v gs') (ho : ∀ g ∈ gs', LkOk W g) (hG : ∀ b, G b → G' b) (hv : ∀ b, v.ownBlock = some b → G' b) (hx : ∀ g ∈ gs', ∀ b, (g.x.ownBlock = some b ∨ g.y.ownBlock = some b) → G' b) (hlt : ∀ b, G' b → b < W.heap.size) :
    LkAt G' (W.setCell ⟨t, 2, none⟩ v) t mo ea gs' qs v qv where
  bx := h.bx.set2 _
  rg := rowT_stored hr h.bx (by decide)
  rq := rowT_stored h.rq h.bx (by decide)
  og := fun g hg => (ho g hg).stored h.bx
  oq := fun q hq => (h.oq q hq).stored h.bx
  gt := hG _ h.gt
  gg := hv
  gq := fun b hb => hG b (h.gq b hb)
  xg := hx
  xq := fun q hq b hb => hG b (h.xq q hq b hb)
  lt := fun b hb => by simpa using hlt b hb
  nu := h.nu

/-- a new row of requests -/
theorem LkAt.put3 {G G' : Nat → Prop} {W : World} {t : Nat} {mo ea : Int} {gs : List Lk} {qs qs' : List Rq} {gv qv v : Value} (h : LkAt G W t mo ea gs qs gv qv) (hr : RowQ W v qs') (ho : ∀ q ∈ qs', LkOk W q.l) (hG : ∀ b, G b → G' b) (hv : ∀ b, v.ownBlock = some b → G' b) (hx : ∀ q ∈ qs', ∀ b, (q.l.x.ownBlock = some b ∨ q.l.y.ownBlock = some b) → G' b) (hlt : ∀ b, G' b → b < W.heap.size) (hu : ∀ q ∈ qs', q.u < 18446744073709551616) :
    LkAt G' (W.setCell ⟨t, 3, none⟩ v) t mo ea gs qs' gv v where
  bx := h.bx.set3 _
  rg := rowT_stored h.rg h.bx (by decide)
  rq := rowT_stored hr h.bx (by decide)
  og := fun g hg => (h.og g hg).stored h.bx
  oq := fun q hq => (ho q hq).stored h.bx
  gt := hG _ h.gt
  gg := fun b hb => hG b (h.gg b hb)
  gq := hv
  xg := fun g hg b hb => hG b (h.xg g hg b hb)
  xq := hx
  lt := fun b hb => by simpa using hlt b hb
  nu := hu

/-- a row of another's has grown: one that isn't the table's own -/
theorem LkAt.aside {G : Nat → Prop} {W w4 : World} {t B n : Nat} {mo ea : Int} {gs : List Lk} {qs : List Rq} {gv qv v : Value} {cs : List Value} (h : LkAt G W t mo ea gs qs gv qv) (hr : W.ownsRow B 63 5 v n cs) (hq : qv.ownBlock = none ∨ qv.ownBlock ≠ v.ownBlock) (hg : W.grownBy w4 v.ownBlock) : LkAt G w4 t mo ea gs qs gv qv where
  bx := h.bx.grown (by decide) hr hg
  rg := h.rg.kept hg (rows_ne (by decide) hr h.rg)
  rq := h.rq.kept hg hq
  og := fun g hg' => (h.og g hg').grown (by decide) hr hg
  oq := fun q hq' => (h.oq q hq').grown (by decide) hr hg
  gt := h.gt
  gg := h.gg
  gq := h.gq
  xg := h.xg
  xq := h.xq
  lt := fun b hb => Nat.lt_of_lt_of_le (h.lt b hb) hg.size
  nu := h.nu

/-- a lock more -/
theorem LkAt.push2 {G : Nat → Prop} {W w4 : World} {t B g4 c4 : Nat} {mo ea : Int} {gs : List Lk} {qs : List Rq} {gv qv : Value} (l : Lk) (h : LkAt G W t mo ea gs qs gv qv) (hl : LkOk W l) (hB : B ≤ W.heap.size) (hx : ∀ b, (l.x.ownBlock = some b ∨ l.y.ownBlock = some b) → G b ∨ B ≤ b)
    (hown : w4.ownsRow 0 32 4 (.slice (some ⟨g4, 0, none⟩) (gs.length + 1) c4) (gs.length + 1) (gs.flatMap encL ++ encL l)) (hg : W.grownBy w4 gv.ownBlock) (hat : gv.ownBlock = some g4 ∨ g4 = W.heap.size) (hlt : g4 < w4.heap.size) :
    LkAt (fun b => (G b ∨ B ≤ b) ∧ b < w4.heap.size) (w4.setCell ⟨t, 2, none⟩ (.slice (some ⟨g4, 0, none⟩) (gs.length + 1) c4)) t mo ea (gs ++ [l]) qs (.slice (some ⟨g4, 0, none⟩) (gs.length + 1) c4) qv := by
  have hs := hg.size
  have hbx : BxT w4 t mo ea gv qv := h.bx.grown (by decide) h.rg hg
  have hr : RowL w4 (.slice (some ⟨g4, 0, none⟩) (gs.length + 1) c4) (gs ++ [l]) := by
    unfold RowL
    rw [flat_snoc, List.length_append]
    exact hown
  have hxl : ∀ b, (l.x.ownBlock = some b ∨ l.y.ownBlock = some b) → b < W.heap.size := fun b hb => by
    rcases hb with hb | hb
    · exact (ownN_lt9 hl.1 b hb).2
    · exact (ownN_lt9 hl.2.1 b hb).2
  exact {
    bx := hbx.set2 _
    rg := rowT_stored hr hbx (by decide)
    rq := rowT_stored (h.rq.kept hg (rows_ne (by decide) h.rg h.rq)) hbx (by decide)
    og := fun g hg' => by
      rcases List.mem_append.1 hg' with h9 | h9
      · exact ((h.og g h9).grown (by decide) h.rg hg).stored hbx
      · rw [List.mem_singleton.1 h9]
        exact (hl.grown (by decide) h.rg hg).stored hbx
    oq := fun q hq => ((h.oq q hq).grown (by decide) h.rg hg).stored hbx
    gt := ⟨.inl h.gt, hbx.lt⟩
    gg := fun b hb => by
      simp only [Value.ownBlock, Option.some.injEq] at hb
      subst hb
      refine ⟨?_, hlt⟩
      rcases hat with h9 | h9
      · exact .inl (h.gg _ h9)
      · exact .inr (by omega)
    gq := fun b hb => ⟨.inl (h.gq b hb), Nat.lt_of_lt_of_le (h.lt b (h.gq b hb)) hs⟩
    xg := fun g hg' b hb => by
      rcases List.mem_append.1 hg' with h9 | h9
      · exact ⟨.inl (h.xg g h9 b hb), Nat.lt_of_lt_of_le (h.lt b (h.xg g h9 b hb)) hs⟩
      · rw [List.mem_singleton.1 h9] at hb
        exact ⟨hx b hb, Nat.lt_of_lt_of_le (hxl b hb) hs⟩
    xq := fun q hq b hb => ⟨.inl (h.xq q hq b hb), Nat.lt_of_lt_of_le (h.lt b (h.xq q hq b hb)) hs⟩
    lt := fun b hb => by simpa using hb.2
    nu := h.nu }

/-- a request more -/
theorem LkAt.push3 {G : Nat → Prop} {W w4 : World} {t B g4 c4 : Nat} {mo ea : Int} {gs : List Lk} {qs : List Rq} {gv qv : Value} (r : Rq) (h : LkAt G W t mo ea gs qs gv qv) (hl : LkOk W r.l) (hB : B ≤ W.heap.size) (hx : ∀ b, (r.l.x.ownBlock = some b ∨ r.l.y.ownBlock = some b) → G b ∨ B ≤ b)
    (hown : w4.ownsRow 0 63 5 (.slice (some ⟨g4, 0, none⟩) (qs.length + 1) c4) (qs.length + 1) (qs.flatMap encR ++ encR r)) (hg : W.grownBy w4 qv.ownBlock) (hat : qv.ownBlock = some g4 ∨ g4 = W.heap.size) (hlt : g4 < w4.heap.size) (hu : r.u < 18446744073709551616) :
    LkAt (fun b => (G b ∨ B ≤ b) ∧ b < w4.heap.size) (w4.setCell ⟨t, 3, none⟩ (.slice (some ⟨g4, 0, none⟩) (qs.length + 1) c4)) t mo ea gs (qs ++ [r]) gv (.slice (some ⟨g4, 0, none⟩) (qs.length + 1) c4) := by
  have hs := hg.size
  have hbx : BxT w4 t mo ea gv qv := h.bx.grown (by decide) h.rq hg
  have hr : RowQ w4 (.slice (some ⟨g4, 0, none⟩) (qs.length + 1) c4) (qs ++ [r]) := by
    unfold RowQ
    rw [flat_snoc, List.length_append]
    exact hown
  have hxl : ∀ b, (r.l.x.ownBlock = some b ∨ r.l.y.ownBlock = some b) → b < W.heap.size := fun b hb => by
    rcases hb with hb | hb
    · exact (ownN_lt9 hl.1 b hb).2
    · exact (ownN_lt9 hl.2.1 b hb).2
  exact {
    bx := hbx.set3 _
    rg := rowT_stored (h.rg.kept hg (rows_ne (by decide) h.rq h.rg)) hbx (by decide)
    rq := rowT_stored hr hbx (by decide)
    og := fun g hg' => ((h.og g hg').grown (by decide) h.rq hg).stored hbx
    oq := fun q hq => by
      rcases List.mem_append.1 hq with h9 | h9
      · exact ((h.oq q h9).grown (by decide) h.rq hg).stored hbx
      · rw [List.mem_singleton.1 h9]
        exact (hl.grown (by decide) h.rq hg).stored hbx
    gt := ⟨.inl h.gt, hbx.lt⟩
    gg := fun b hb => ⟨.inl (h.gg b hb), Nat.lt_of_lt_of_le (h.lt b (h.gg b hb)) hs⟩
    gq := fun b hb => by
      simp only [Value.ownBlock, Option.some.injEq] at hb
      subst hb
      refine ⟨?_, hlt⟩
      rcases hat with h9 | h9
      · exact .inl (h.gq _ h9)
      · exact .inr (by omega)
    xg := fun g hg' b hb => ⟨.inl (h.xg g hg' b hb), Nat.lt_of_lt_of_le (h.lt b (h.xg g hg' b hb)) hs⟩
    xq := fun q hq b hb => by
      rcases List.mem_append.1 hq with h9 | h9
      · exact ⟨.inl (h.xq q h9 b hb), Nat.lt_of_lt_of_le (h.lt b (h.xq q h9 b hb)) hs⟩
      · rw [List.mem_singleton.1 h9] at hb
        exact ⟨hx b hb, Nat.lt_of_lt_of_le (hxl b hb) hs⟩
    lt := fun b hb => by simpa using hb.2
    nu := fun q hq => by
      rcases List.mem_append.1 hq with h9 | h9
      · exact h.nu q h9
      · rw [List.mem_singleton.1 h9]; exact hu }

/-- a table by its blocks alone -/
def LkP (G : Nat → Prop) (w : World) (t : Nat) (mo ea : Int) (gs : List Lk) (qs : List Rq) : Prop := ∃ gv qv, LkAt G w t mo ea gs qs gv qv

theorem LkP.below {G : Nat → Prop} {w w' : World} {t : Nat} {mo ea : Int} {gs : List Lk} {qs : List Rq} (h : LkP G w t mo ea gs qs) (hb : Below w.heap.size w w') : LkP G w' t mo ea gs qs := by
  obtain ⟨gv, qv, h⟩ := h
  exact ⟨gv, qv, h.below hb⟩
theorem LkP.keeps {F G : Nat → Prop} {w w' : World} {t : Nat} {mo ea : Int} {gs : List Lk} {qs : List Rq} (h : LkP G w t mo ea gs qs) (hk : Keeps F w w') (hF : ∀ b, G b → ¬ F b) : LkP G w' t mo ea gs qs := by
  obtain ⟨gv, qv, h⟩ := h
  exact ⟨gv, qv, h.keeps hk hF⟩
theorem LkP.lt {G : Nat → Prop} {w : World} {t : Nat} {mo ea : Int} {gs : List Lk} {qs : List Rq} (h : LkP G w t mo ea gs qs) : ∀ b, G b → b < w.heap.size := by
  obtain ⟨gv, qv, h⟩ := h
  exact h.lt

end Go.Proofs.Ythiogpojccohgaa
