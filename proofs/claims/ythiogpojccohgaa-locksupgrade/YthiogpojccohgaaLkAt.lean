/- The table in memory; what is read of it. -/
import Derived.Test.YthiogpojccohgaaLkIdx
namespace Go.Proofs.Ythiogpojccohgaa
set_option maxRecDepth 20000
open Go.RowKit
set_option linter.unusedVariables false
set_option linter.unusedSimpArgs false

theorem one_cell (w : World) (v : Value) (t : TypeId) : (w.alloc (.cells #[v] t)).cell? ⟨w.heap.size, 0, none⟩ = some v := by
  rw [cell_of_row _ _ 0 _ _ _ (heap_alloc_new w (.cells #[v] t))]
  rfl

/-- a table's four cells -/
def BxT (w : World) (t : Nat) (mo ea : Int) (gv qv : Value) : Prop := w.heap[t]? = some (.cells #[.int .i64 mo, .int .i64 ea, gv, qv] 54 (0, 0))

theorem BxT.lt {w : World} {t : Nat} {mo ea : Int} {gv qv : Value} (h : BxT w t mo ea gv qv) : t < w.heap.size := (Array.getElem?_eq_some_iff.1 h).1
theorem BxT.c0 {w : World} {t : Nat} {mo ea : Int} {gv qv : Value} (h : BxT w t mo ea gv qv) : w.cell? ⟨t, 0, none⟩ = some (.int .i64 mo) := by simp [World.cell?, show w.heap[t]? = _ from h]
theorem BxT.c1 {w : World} {t : Nat} {mo ea : Int} {gv qv : Value} (h : BxT w t mo ea gv qv) : w.cell? ⟨t, 1, none⟩ = some (.int .i64 ea) := by simp [World.cell?, show w.heap[t]? = _ from h]
theorem BxT.c2 {w : World} {t : Nat} {mo ea : Int} {gv qv : Value} (h : BxT w t mo ea gv qv) : w.cell? ⟨t, 2, none⟩ = some gv := by simp [World.cell?, show w.heap[t]? = _ from h]
theorem BxT.c3 {w : World} {t : Nat} {mo ea : Int} {gv qv : Value} (h : BxT w t mo ea gv qv) : w.cell? ⟨t, 3, none⟩ = some qv := by simp [World.cell?, show w.heap[t]? = _ from h]
theorem BxT.f2 {w : World} {t : Nat} {mo ea : Int} {gv qv : Value} (h : BxT w t mo ea gv qv) : w.frozen? ⟨t, 2, none⟩ = false := by simp [World.frozen?, show w.heap[t]? = _ from h]
theorem BxT.f3 {w : World} {t : Nat} {mo ea : Int} {gv qv : Value} (h : BxT w t mo ea gv qv) : w.frozen? ⟨t, 3, none⟩ = false := by simp [World.frozen?, show w.heap[t]? = _ from h]
theorem BxT.set2 {w : World} {t : Nat} {mo ea : Int} {gv qv : Value} (u : Value) (h : BxT w t mo ea gv qv) : BxT (w.setCell ⟨t, 2, none⟩ u) t mo ea u qv := by
  obtain ⟨hlt, hk⟩ := Array.getElem?_eq_some_iff.1 h
  show (w.heap.modify t _)[t]? = _
  rw [Array.getElem?_eq_getElem (by rw [Array.size_modify]; exact hlt), Array.getElem_modify_self, hk]
  rfl
theorem BxT.set3 {w : World} {t : Nat} {mo ea : Int} {gv qv : Value} (u : Value) (h : BxT w t mo ea gv qv) : BxT (w.setCell ⟨t, 3, none⟩ u) t mo ea gv u := by
  obtain ⟨hlt, hk⟩ := Array.getElem?_eq_some_iff.1 h
  show (w.heap.modify t _)[t]? = _
  rw [Array.getElem?_eq_getElem (by rw [Array.size_modify]; exact hlt), Array.getElem_modify_self, hk]
  rfl
theorem BxT.new (w : World) (mo ea : Int) (gv qv : Value) : BxT (w.alloc (.cells #[.int .i64 mo, .int .i64 ea, gv, qv] 54)) w.heap.size mo ea gv qv := heap_alloc_new w _
theorem BxT.not_row {w : World} {t : Nat} {mo ea : Int} {gv qv : Value} (h : BxT w t mo ea gv qv) {e : TypeId} (hte : 54 ≠ e) {base size k : Nat} {o : Value} {xs : List Value} (hr : w.ownsRow base e size o k xs) : some t ≠ o.ownBlock := by
  rcases hr.2 with ⟨rfl, _⟩ | ⟨g, cap, cur, rfl, _, hgb, _⟩
  · simp [Value.ownBlock]
  · intro e'
    obtain rfl : t = g := by simpa [Value.ownBlock] using e'
    have := (show w.heap[t]? = _ from h).symm.trans hgb
    simp at this
    exact hte this.2
theorem BxT.below {w wr : World} {t : Nat} {mo ea : Int} {gv qv : Value} (h : BxT w t mo ea gv qv) (hb : Below w.heap.size w wr) : BxT wr t mo ea gv qv := (hb.block t h.lt).trans h

/-- the table; G has its blocks -/
structure LkAt (G : Nat → Prop) (w : World) (t : Nat) (mo ea : Int) (gs : List Lk) (qs : List Rq) (gv qv : Value) : Prop where
  bx : BxT w t mo ea gv qv
  rg : RowL w gv gs
  rq : RowQ w qv qs
  og : ∀ g ∈ gs, LkOk w g
  oq : ∀ q ∈ qs, LkOk w q.l
  gt : G t
  gg : ∀ b, gv.ownBlock = some b → G b
  gq : ∀ b, qv.ownBlock = some b → G b
  xg : ∀ g ∈ gs, ∀ b, (g.x.ownBlock = some b ∨ g.y.ownBlock = some b) → G b
  xq : ∀ q ∈ qs, ∀ b, (q.l.x.ownBlock = some b ∨ q.l.y.ownBlock = some b) → G b
  lt : ∀ b, G b → b < w.heap.size
  nu : ∀ q ∈ qs, q.u < 18446744073709551616

theorem LkOk.same {w w' : World} {g : Lk} (h : LkOk w g) (hk : ∀ b, (g.x.ownBlock = some b ∨ g.y.ownBlock = some b) → w'.heap[b]? = w.heap[b]?) : LkOk w' g :=
  ⟨ownN_same9 h.1 (fun q hq => hk q (.inl hq)), ownN_same9 h.2.1 (fun q hq => hk q (.inr hq)), h.2.2⟩

theorem LkAt.same {G : Nat → Prop} {w w' : World} {t : Nat} {mo ea : Int} {gs : List Lk} {qs : List Rq} {gv qv : Value} (h : LkAt G w t mo ea gs qs gv qv) (hs : w.heap.size ≤ w'.heap.size) (hk : ∀ b, G b → w'.heap[b]? = w.heap[b]?) : LkAt G w' t mo ea gs qs gv qv where
  bx := (hk t h.gt).trans h.bx
  rg := row_same9 h.rg (fun b hb => hk b (h.gg b hb))
  rq := row_same9 h.rq (fun b hb => hk b (h.gq b hb))
  og := fun g hg => (h.og g hg).same (fun b hb => hk b (h.xg g hg b hb))
  oq := fun q hq => (h.oq q hq).same (fun b hb => hk b (h.xq q hq b hb))
  gt := h.gt
  gg := h.gg
  gq := h.gq
  xg := h.xg
  xq := h.xq
  lt := fun b hb => Nat.lt_of_lt_of_le (h.lt b hb) hs
  nu := h.nu

theorem LkAt.below {G : Nat → Prop} {w w' : World} {t : Nat} {mo ea : Int} {gs : List Lk} {qs : List Rq} {gv qv : Value} (h : LkAt G w t mo ea gs qs gv qv) (hb : Below w.heap.size w w') : LkAt G w' t mo ea gs qs gv qv :=
  h.same hb.size (fun b hq => hb.block b (h.lt b hq))

theorem LkAt.keeps {F G : Nat → Prop} {w w' : World} {t : Nat} {mo ea : Int} {gs : List Lk} {qs : List Rq} {gv qv : Value} (h : LkAt G w t mo ea gs qs gv qv) (hk : Keeps F w w') (hF : ∀ b, G b → ¬ F b) : LkAt G w' t mo ea gs qs gv qv :=
  h.same hk.size (fun b hq => hk.block b (h.lt b hq) (hF b hq))

theorem eqT (t : Nat) : ∀ w : World, (binOp .eql 24 (.pointer (some ⟨t, 0, none⟩)) (.pointer none)).run Try.prog w = .ok (.bool false) w := fun _ => rfl

theorem beq_nat (n m : Nat) : ((n : Int) == (m : Int)) = decide (n = m) := by
  by_cases h : n = m
  · subst h; simp
  · have : ¬ (n : Int) = (m : Int) := by omega
    simp [h, this]

theorem of_any (G : Nat → Prop) (w : World) (t : Nat) (mo ea : Int) (gs : List Lk) (qs : List Rq) (gv qv : Value) (n : Nat) (h : LkAt G w t mo ea gs qs gv qv) (hn : gs.length ≤ 100000) :
    Calls Try.prog 39 #[.pointer (some ⟨t, 0, none⟩), .int .u64 (n : Int)] w fun e w' => ∃ v, e = .returned v ∧ OwnL w.heap.size w' v (ofB gs n) ∧ Below w.heap.size w w' := by
  have hb0 := below_box4 w (.cells #[.int .u64 (n : Int)] 29)
  have c2 := (h.bx.below hb0).c2
  have hcell : (w.alloc (.cells #[.int .u64 (n : Int)] 29)).cell? ⟨w.heap.size, 0, none⟩ = some (.int .u64 (n : Int)) := one_cell w _ _
  have hw := wol_any (w.alloc (.cells #[.int .u64 (n : Int)] 29)) gv gs 53 (.pointer (some ⟨w.heap.size, 0, none⟩)) (fun g => !decide (g.n = n)) ent_of (h.rg.below hb0) (fun g hg => (h.og g hg).s) hn
    (fun g hg W hW => by
      obtain ⟨⟨a1, l1, c1, e1⟩, ⟨a2, l2, c2, e2⟩⟩ := (h.og g hg).s
      have h9 := of1_any W (g.n : Int) (g.m.toNat : Int) (n : Int) a1 a2 l1 c1 l2 c2 w.heap.size ((hW.cell (p := ⟨w.heap.size, 0, none⟩) (by simp)).trans hcell)
      rw [e1, e2]
      rw [beq_nat] at h9
      exact h9)
  have HE : Hid ((gs.filter fun g => !(fun g : Lk => !decide (g.n = n)) g) = ofB gs n) := by
    show _ = _
    unfold ofB
    congr 1
    funext g
    simp
  rw [HE.out] at hw
  obtain ⟨ga, gc, eg, _⟩ := row_slice9 h.rg
  subst eg
  have HB0 : Hid (Below w.heap.size w (w.alloc (.cells #[.int .u64 (n : Int)] 29))) := hb0
  have hsz : (w.alloc (.cells #[.int .u64 (n : Int)] 29)).heap.size = w.heap.size + 1 := by simp
  obtain ⟨NL, hNL⟩ : ∃ NL, gs.length = NL := ⟨_, rfl⟩
  rw [hNL] at c2 hw
  clear h hb0 hcell hNL hn
  go_enter Try.func39, Try.ntmps39
  go_wp2_with fail
  refine hw.mono ?_
  rintro e w1 ⟨v, rfl, hv, hb1⟩
  have HV : Hid (OwnL w.heap.size w1 v (ofB gs n)) := row_mono9 hv (by rw [hsz]; omega)
  clear hw hv
  go_wp2
  go_ret
  exact ⟨_, rfl, HV.out, bsplit HB0.out hb1⟩

theorem place_any (G : Nat → Prop) (w : World) (t : Nat) (mo ea : Int) (gs : List Lk) (qs : List Rq) (gv qv : Value) (n : Nat) (h : LkAt G w t mo ea gs qs gv qv) (hn : qs.length ≤ 100000) :
    Calls Try.prog 22 #[.pointer (some ⟨t, 0, none⟩), .int .u64 (n : Int)] w fun e w' => e = .returned (.int .i64 (idxB (fun q : Rq => decide (q.l.n = n)) qs)) ∧ Below w.heap.size w w' := by
  have he := eqT t
  have hb0 := below_box4 w (.cells #[.int .u64 (n : Int)] 29)
  have c2 := (h.bx.below hb0).c3
  have hcell : (w.alloc (.cells #[.int .u64 (n : Int)] 29)).cell? ⟨w.heap.size, 0, none⟩ = some (.int .u64 (n : Int)) := one_cell w _ _
  have hw := idxq_any (w.alloc (.cells #[.int .u64 (n : Int)] 29)) qv qs 37 (.pointer (some ⟨w.heap.size, 0, none⟩)) (fun q => decide (q.l.n = n)) ent_plc (h.rq.below hb0) (fun g hg => (h.oq g hg).s) hn
    (fun g hg W hW => by
      obtain ⟨⟨a1, l1, c1, e1⟩, ⟨a2, l2, c2, e2⟩⟩ := (h.oq g hg).s
      have h9 := plc1_any W (g.l.n : Int) (g.l.m.toNat : Int) (g.u : Int) (n : Int) a1 a2 l1 c1 l2 c2 w.heap.size ((hW.cell (p := ⟨w.heap.size, 0, none⟩) (by simp)).trans hcell)
      rw [e1, e2]
      rw [beq_nat] at h9
      exact h9)
  obtain ⟨z, hz⟩ : ∃ z, idxB (fun q : Rq => decide (q.l.n = n)) qs = z := ⟨_, rfl⟩
  rw [hz] at hw ⊢
  obtain ⟨ga, gc, eg, _⟩ := row_slice9 h.rq
  subst eg
  have HB0 : Hid (Below w.heap.size w (w.alloc (.cells #[.int .u64 (n : Int)] 29))) := hb0
  obtain ⟨NL, hNL⟩ : ∃ NL, qs.length = NL := ⟨_, rfl⟩
  rw [hNL] at c2 hw
  clear h hb0 hcell hNL hn hz
  go_enter Try.func22, Try.ntmps22
  go_wp2_with fail
  refine hw.mono ?_
  rintro e w1 ⟨rfl, hb1⟩
  clear hw
  go_wp2
  go_ret
  exact ⟨rfl, bsplit HB0.out hb1⟩

/-- a row of one's own, read -/
theorem OwnL.rd {B : Nat} {w : World} {v : Value} {gs : List Lk} (h : OwnL B w v gs) : RowL w v gs := row_mono9 h (Nat.zero_le _)
theorem OwnQ.rd {B : Nat} {w : World} {v : Value} {qs : List Rq} (h : OwnQ B w v qs) : RowQ w v qs := row_mono9 h (Nat.zero_le _)

theorem has_any (G : Nat → Prop) (w : World) (t : Nat) (mo ea : Int) (gs : List Lk) (qs : List Rq) (gv qv : Value) (l : Lk) (r : Bool) (h : LkAt G w t mo ea gs qs gv qv) (hn : gs.length ≤ 100000) (hx : Rd w l.x l.f) (hy : Rd w l.y l.t) (hr : hasB gs l = r) :
    Calls Try.prog 23 #[.pointer (some ⟨t, 0, none⟩), lkV (l.n : Int) l.x l.y (l.m.toNat : Int)] w fun e w' => e = .returned (.bool r) ∧ Below w.heap.size w w' := by
  obtain ⟨a1, a2, ea⟩ := hx.len
  obtain ⟨a3, a4, eb⟩ := hy.len
  have hb0 := below_box4 w (.cells #[.int .u64 (l.n : Int), l.x, l.y, .int .u8 (l.m.toNat : Int)] 32)
  have HB0 : Hid (Below w.heap.size w (w.alloc (.cells #[.int .u64 (l.n : Int), l.x, l.y, .int .u8 (l.m.toNat : Int)] 32))) := hb0
  have BX : Hid (Box4 (w.alloc (.cells #[.int .u64 (l.n : Int), l.x, l.y, .int .u8 (l.m.toNat : Int)] 32)) w.heap.size (.int .u64 (l.n : Int)) l.x l.y (.int .u8 (l.m.toNat : Int))) := box4_new w _ _ _ _ _
  have hof := of_any G _ t mo _ gs qs gv qv l.n (h.below hb0) hn
  have HC : Hid (∀ W, Below w.heap.size w W → Box4 W w.heap.size (.int .u64 (l.n : Int)) l.x l.y (.int .u8 (l.m.toNat : Int)) → ∀ g ∈ ofB gs l.n, LkS g ∧ Calls Try.prog 40 #[lkV (g.n : Int) g.x g.y (g.m.toNat : Int), .pointer (some ⟨w.heap.size, 0, none⟩)] W fun e w' => e = .returned (.bool (decide (l.m.toNat ≤ g.m.toNat) && covB g l)) ∧ Below W.heap.size W w') := fun W hW hbx g hg => by
    have hok := (h.og g (List.mem_filter.1 hg).1).below hW
    refine ⟨hok.s, ?_⟩
    have h9 := has1_any W g.x g.y l.x l.y g.f g.t l.f l.t (g.n : Int) (g.m.toNat : Int) (l.n : Int) (l.m.toNat : Int) w.heap.size _ hok.1.rd hok.2.1.rd (hx.below hW (Nat.le_refl _)) (hy.below hW (Nat.le_refl _)) hbx rfl
    have e9 : decide ((l.m.toNat : Int) ≤ (g.m.toNat : Int)) = decide (l.m.toNat ≤ g.m.toNat) := decide_eq_decide.2 (by omega)
    rw [e9] at h9
    exact h9
  have HLN : Hid ((ofB gs l.n).length ≤ 100000) := by have := List.length_filter_le (fun g : Lk => decide (g.n = l.n)) gs; show _ ≤ _; unfold ofB; omega
  have HR : Hid ((ofB gs l.n).any (fun g => decide (l.m.toNat ≤ g.m.toNat) && covB g l) = r) := hr
  obtain ⟨⟨z0, z1, z2, z3⟩⟩ : Nonempty (Box4 (w.alloc (.cells #[.int .u64 (l.n : Int), l.x, l.y, .int .u8 (l.m.toNat : Int)] 32)) w.heap.size (.int .u64 (l.n : Int)) l.x l.y (.int .u8 (l.m.toNat : Int))) := ⟨BX.out⟩
  obtain ⟨nl, hnl⟩ : ∃ z : Int, (l.n : Int) = z := ⟨_, rfl⟩
  obtain ⟨ml, hml⟩ : ∃ z : Int, (l.m.toNat : Int) = z := ⟨_, rfl⟩
  rw [ea, eb, hnl, hml] at HB0 BX HC hof z0 z1 z2 z3
  rw [ea, eb, hnl, hml]
  clear h hx hy hb0 hr ea eb hml
  unfold lkV at HC ⊢
  go_enter Try.func23, Try.ntmps23
  go_wp2_with fail
  refine hof.mono ?_
  rintro e w1 ⟨v, rfl, hv, hb1⟩
  have HB1 : Hid (Below w.heap.size w w1) := bsplit HB0.out hb1
  have hcw := contl_any w1 v (ofB gs l.n) 40 (.pointer (some ⟨w.heap.size, 0, none⟩)) (fun g => decide (l.m.toNat ≤ g.m.toNat) && covB g l) ent_has hv.rd (fun g hg => (HC.out w1 HB1.out (BX.out.below hb1 (Nat.le_refl _)) g hg).1) HLN.out
    (fun g hg W hW => (HC.out W (bsplit HB1.out hW) ((BX.out.below hb1 (Nat.le_refl _)).below hW (Nat.le_refl _)) g hg).2)
  rw [HR.out] at hcw
  obtain ⟨va, vc, ev, _⟩ := row_slice9 hv
  subst ev
  clear hof hv hb1 z0 z1 z2 z3
  go_wp2_with fail
  refine hcw.mono ?_
  rintro e w2 ⟨rfl, hb2⟩
  clear hcw
  go_wp2
  go_ret
  exact ⟨rfl, bsplit HB1.out hb2⟩

theorem upg_any (G : Nat → Prop) (w : World) (t : Nat) (mo ea : Int) (gs : List Lk) (qs : List Rq) (gv qv : Value) (l : Lk) (r : Bool) (h : LkAt G w t mo ea gs qs gv qv) (hn : gs.length ≤ 100000) (hx : Rd w l.x l.f) (hy : Rd w l.y l.t) (hr : upgB gs l = r) :
    Calls Try.prog 46 #[.pointer (some ⟨t, 0, none⟩), lkV (l.n : Int) l.x l.y (l.m.toNat : Int)] w fun e w' => e = .returned (.bool r) ∧ Below w.heap.size w w' := by
  obtain ⟨a1, a2, ea⟩ := hx.len
  obtain ⟨a3, a4, eb⟩ := hy.len
  have hb0 := below_box4 w (.cells #[.int .u64 (l.n : Int), l.x, l.y, .int .u8 (l.m.toNat : Int)] 32)
  have HB0 : Hid (Below w.heap.size w (w.alloc (.cells #[.int .u64 (l.n : Int), l.x, l.y, .int .u8 (l.m.toNat : Int)] 32))) := hb0
  have BX : Hid (Box4 (w.alloc (.cells #[.int .u64 (l.n : Int), l.x, l.y, .int .u8 (l.m.toNat : Int)] 32)) w.heap.size (.int .u64 (l.n : Int)) l.x l.y (.int .u8 (l.m.toNat : Int))) := box4_new w _ _ _ _ _
  have hof := of_any G _ t mo _ gs qs gv qv l.n (h.below hb0) hn
  have HC : Hid (∀ W, Below w.heap.size w W → Box4 W w.heap.size (.int .u64 (l.n : Int)) l.x l.y (.int .u8 (l.m.toNat : Int)) → ∀ g ∈ ofB gs l.n, LkS g ∧ Calls Try.prog 57 #[lkV (g.n : Int) g.x g.y (g.m.toNat : Int), .pointer (some ⟨w.heap.size, 0, none⟩)] W fun e w' => e = .returned (.bool (overB g l)) ∧ Below W.heap.size W w') := fun W hW hbx g hg => by
    have hok := (h.og g (List.mem_filter.1 hg).1).below hW
    refine ⟨hok.s, ?_⟩
    exact upg1_any W g.x g.y l.x l.y g.f g.t l.f l.t (g.n : Int) (g.m.toNat : Int) (l.n : Int) (l.m.toNat : Int) w.heap.size _ hok.1.rd hok.2.1.rd (hx.below hW (Nat.le_refl _)) (hy.below hW (Nat.le_refl _)) hbx rfl
  have HLN : Hid ((ofB gs l.n).length ≤ 100000) := by have := List.length_filter_le (fun g : Lk => decide (g.n = l.n)) gs; show _ ≤ _; unfold ofB; omega
  have HR : Hid ((ofB gs l.n).any (fun g => overB g l) = r) := hr
  obtain ⟨⟨z0, z1, z2, z3⟩⟩ : Nonempty (Box4 (w.alloc (.cells #[.int .u64 (l.n : Int), l.x, l.y, .int .u8 (l.m.toNat : Int)] 32)) w.heap.size (.int .u64 (l.n : Int)) l.x l.y (.int .u8 (l.m.toNat : Int))) := ⟨BX.out⟩
  obtain ⟨nl, hnl⟩ : ∃ z : Int, (l.n : Int) = z := ⟨_, rfl⟩
  obtain ⟨ml, hml⟩ : ∃ z : Int, (l.m.toNat : Int) = z := ⟨_, rfl⟩
  rw [ea, eb, hnl, hml] at HB0 BX HC hof z0 z1 z2 z3
  rw [ea, eb, hnl, hml]
  clear h hx hy hb0 hr ea eb hml
  unfold lkV at HC ⊢
  go_enter Try.func46, Try.ntmps46
  go_wp2_with fail
  refine hof.mono ?_
  rintro e w1 ⟨v, rfl, hv, hb1⟩
  have HB1 : Hid (Below w.heap.size w w1) := bsplit HB0.out hb1
  have hcw := contl_any w1 v (ofB gs l.n) 57 (.pointer (some ⟨w.heap.size, 0, none⟩)) (fun g => overB g l) ent_upg hv.rd (fun g hg => (HC.out w1 HB1.out (BX.out.below hb1 (Nat.le_refl _)) g hg).1) HLN.out
    (fun g hg W hW => (HC.out W (bsplit HB1.out hW) ((BX.out.below hb1 (Nat.le_refl _)).below hW (Nat.le_refl _)) g hg).2)
  rw [HR.out] at hcw
  obtain ⟨va, vc, ev, _⟩ := row_slice9 hv
  subst ev
  clear hof hv hb1 z0 z1 z2 z3
  go_wp2_with fail
  refine hcw.mono ?_
  rintro e w2 ⟨rfl, hb2⟩
  clear hcw
  go_wp2
  go_ret
  exact ⟨rfl, bsplit HB1.out hb2⟩

end Go.Proofs.Ythiogpojccohgaa
