/- (*locks.Table).Leave, Release. -/
import Derived.Test.YthiogpojccohgaaLkAdvW
namespace Go.Proofs.Ythiogpojccohgaa
set_option maxRecDepth 100000
open Go.RowKit Go.Maps
set_option linter.unusedVariables false
set_option linter.unusedSimpArgs false

theorem AdvPost.base {G G1 : Nat → Prop} {w w1 : World} {t : Nat} {mo ea : Int} {gs : List Lk} {qs : List Rq} {e : Ending} {w' : World} (hk : Keeps G w w1) (hG : ∀ b, G1 b → G b ∨ w.heap.size ≤ b) (h : AdvPost G1 w1 t mo ea gs qs e w') : AdvPost G w t mo ea gs qs e w' := by
  obtain ⟨v, h1, h2, h3, G', h4, h5⟩ := h
  exact ⟨v, h1, row_mono9 h2 hk.size, hk.then h3 hG, G', h4, fun b hb => (h5 b hb).elim (fun h9 => hG b h9) (fun h9 => .inr (Nat.le_trans hk.size h9))⟩

/-- without one's request -/
def lvB (qs : List Rq) (n : Nat) : List Rq := qs.filter fun q => !decide (q.l.n = n)
def rlB (gs : List Lk) (n : Nat) : List Lk := gs.filter fun g => !decide (g.n = n)

set_option maxHeartbeats 2000000 in
theorem leave_any (G : Nat → Prop) (w : World) (t : Nat) (mo ea : Int) (gs : List Lk) (qs : List Rq) (n : Nat) (h : LkP G w t mo ea gs qs) (hn : gs.length + qs.length ≤ 1000) :
    Calls Try.prog 20 #[.pointer (some ⟨t, 0, none⟩), .int .u64 (n : Int)] w (AdvPost G w t mo ea gs (lvB qs n)) := by
  have he := eqT t
  obtain ⟨gv, qv, h⟩ := h
  have HL : Hid (LkAt G w t mo ea gs qs gv qv) := h
  have hb0 := below_box4 w (.cells #[.int .u64 (n : Int)] 29)
  have HB0 : Hid (Below w.heap.size w (w.alloc (.cells #[.int .u64 (n : Int)] 29))) := hb0
  have c3 := (h.bx.below hb0).c3
  have hcell : (w.alloc (.cells #[.int .u64 (n : Int)] 29)).cell? ⟨w.heap.size, 0, none⟩ = some (.int .u64 (n : Int)) := one_cell w _ _
  have hw := woq_any (w.alloc (.cells #[.int .u64 (n : Int)] 29)) qv qs 33 (.pointer (some ⟨w.heap.size, 0, none⟩)) (fun q => decide (q.l.n = n)) ent_lv (h.rq.below hb0) (fun q hq => (h.oq q hq).s) (by omega)
    (fun q hq W hW => by
      obtain ⟨⟨a1, l1, c1, e1⟩, ⟨a2, l2, c2, e2⟩⟩ := (h.oq q hq).s
      have h9 := lv1_any W (q.l.n : Int) (q.l.m.toNat : Int) (q.u : Int) (n : Int) a1 a2 l1 c1 l2 c2 w.heap.size ((hW.cell (p := ⟨w.heap.size, 0, none⟩) (by simp)).trans hcell)
      rw [e1, e2]
      rw [beq_nat] at h9
      exact h9)
  obtain ⟨qa, qc, eq, _⟩ := row_slice9 h.rq
  subst eq
  have HN : Hid (gs.length + qs.length ≤ 1000) := hn
  obtain ⟨NQ, hNQ⟩ : ∃ N, qs.length = N := ⟨_, rfl⟩
  rw [hNQ] at c3 hw
  clear h hb0 hNQ hn
  go_enter Try.func20, Try.ntmps20
  go_wp2_with fail
  refine hw.mono ?_
  rintro e w1 ⟨v, rfl, hv, hb1⟩
  have HB1 : Hid (Below w.heap.size w w1) := bsplit HB0.out hb1
  have HV : Hid (OwnQ w.heap.size w1 v (lvB qs n)) := row_mono9 hv (by simp)
  have hat := HL.out.below HB1.out
  have hcell1 := (hb1.cell (p := ⟨w.heap.size, 0, none⟩) (by simp)).trans hcell
  have f3 := hat.bx.f3
  have c3b := hat.bx.c3
  obtain ⟨va, vc, ev, _⟩ := row_slice9 hv
  subst ev
  have hsub : ∀ q ∈ lvB qs n, q ∈ qs := fun q hq => (List.mem_filter.1 hq).1
  have HP : Hid (LkP (fun b => (G b ∨ w.heap.size ≤ b) ∧ b < w1.heap.size) (w1.setCell ⟨t, 3, none⟩ (.slice va (qs.filter fun q => !decide (q.l.n = n)).length vc)) t mo ea gs (lvB qs n) ∧ Keeps G w (w1.setCell ⟨t, 3, none⟩ (.slice va (qs.filter fun q => !decide (q.l.n = n)).length vc))) := by
    refine ⟨⟨gv, _, hat.put3 HV.out.rd (fun q hq => hat.oq q (hsub q hq)) (fun b hb => ⟨.inl hb, hat.lt b hb⟩) (fun b hb => ?_) (fun q hq b hb => ?_) (fun b hb => hb.2) (fun q hq => hat.nu q (hsub q hq))⟩, ?_⟩
    · have := HV.out.lt b hb
      exact ⟨.inr this.1, this.2⟩
    · have h9 := hat.xq q (hsub q hq) b hb
      exact ⟨.inl h9, hat.lt b h9⟩
    · exact (Below.keeps HB1.out G).then (F' := fun b => b = t) ((Keeps.refl (fun b => b = t) w1).setCell (p := ⟨t, 3, none⟩) (show t = t from rfl) _) (fun i hi => by rw [hi]; exact .inl hat.gt)
  have hav := adv_any _ _ t mo ea gs (lvB qs n) HP.out.1 (by have h8 := HN.out; have := List.length_filter_le (fun q : Rq => !decide (q.l.n = n)) qs; show _ + (qs.filter _).length ≤ _; omega)
  obtain ⟨NV, hNV⟩ : ∃ N, (qs.filter fun q => !decide (q.l.n = n)).length = N := ⟨_, rfl⟩
  rw [hNV] at HP hav ⊢
  clear hw hv hb1 hat hsub c3 hcell hcell1 hNV
  go_wp2_with fail
  refine hav.mono ?_
  intro e w2 hp
  have HQ : Hid (AdvPost G w t mo ea gs (lvB qs n) e w2) := AdvPost.base HP.out.2 (fun b hb => hb.1) hp
  obtain ⟨v9, he9, hv9, _⟩ := hp
  subst he9
  obtain ⟨v1, v2, ev, _⟩ := row_slice9 hv9
  subst ev
  obtain ⟨nv, hnv⟩ : ∃ nv, ((advB (lvB qs n) gs [] []).2.2.map (·.l.n)).length = nv := ⟨_, rfl⟩
  rw [hnv] at HQ ⊢
  clear hav hv9 hnv
  go_wp2
  go_ret
  exact HQ.out

set_option maxHeartbeats 2000000 in
theorem release_any (G : Nat → Prop) (w : World) (t : Nat) (mo ea : Int) (gs : List Lk) (qs : List Rq) (n : Nat) (h : LkP G w t mo ea gs qs) (hn : gs.length + qs.length ≤ 1000) :
    Calls Try.prog 8 #[.pointer (some ⟨t, 0, none⟩), .int .u64 (n : Int)] w (AdvPost G w t mo ea (rlB gs n) (lvB qs n)) := by
  have he := eqT t
  obtain ⟨gv, qv, h⟩ := h
  have HL : Hid (LkAt G w t mo ea gs qs gv qv) := h
  have hb0 := below_box4 w (.cells #[.int .u64 (n : Int)] 29)
  have HB0 : Hid (Below w.heap.size w (w.alloc (.cells #[.int .u64 (n : Int)] 29))) := hb0
  have c2 := (h.bx.below hb0).c2
  have hcell : (w.alloc (.cells #[.int .u64 (n : Int)] 29)).cell? ⟨w.heap.size, 0, none⟩ = some (.int .u64 (n : Int)) := one_cell w _ _
  have hw := wol_any (w.alloc (.cells #[.int .u64 (n : Int)] 29)) gv gs 19 (.pointer (some ⟨w.heap.size, 0, none⟩)) (fun g => decide (g.n = n)) ent_rel (h.rg.below hb0) (fun g hg => (h.og g hg).s) (by omega)
    (fun g hg W hW => by
      obtain ⟨⟨a1, l1, c1, e1⟩, ⟨a2, l2, c2, e2⟩⟩ := (h.og g hg).s
      have h9 := rel1_any W (g.n : Int) (g.m.toNat : Int) (n : Int) a1 a2 l1 c1 l2 c2 w.heap.size ((hW.cell (p := ⟨w.heap.size, 0, none⟩) (by simp)).trans hcell)
      rw [e1, e2]
      rw [beq_nat] at h9
      exact h9)
  obtain ⟨qa, qc, eq, _⟩ := row_slice9 h.rg
  subst eq
  have HN : Hid (gs.length + qs.length ≤ 1000) := hn
  obtain ⟨NQ, hNQ⟩ : ∃ N, gs.length = N := ⟨_, rfl⟩
  rw [hNQ] at c2 hw
  clear h hb0 hNQ hn
  go_enter Try.func8, Try.ntmps8
  go_wp2_with fail
  refine hw.mono ?_
  rintro e w1 ⟨v, rfl, hv, hb1⟩
  have HB1 : Hid (Below w.heap.size w w1) := bsplit HB0.out hb1
  have HV : Hid (OwnL w.heap.size w1 v (rlB gs n)) := row_mono9 hv (by simp)
  have hat := HL.out.below HB1.out
  have hcell1 := (hb1.cell (p := ⟨w.heap.size, 0, none⟩) (by simp)).trans hcell
  have f2 := hat.bx.f2
  have c2b := hat.bx.c2
  have hnt : w.heap.size ≠ t := fun e => by have := HL.out.lt t HL.out.gt; omega
  obtain ⟨va, vc, ev, _⟩ := row_slice9 hv
  subst ev
  have hsub : ∀ g ∈ rlB gs n, g ∈ gs := fun q hq => (List.mem_filter.1 hq).1
  have HP : Hid (LkP (fun b => (G b ∨ w.heap.size ≤ b) ∧ b < w1.heap.size) (w1.setCell ⟨t, 2, none⟩ (.slice va (gs.filter fun g => !decide (g.n = n)).length vc)) t mo ea (rlB gs n) qs ∧ Keeps G w (w1.setCell ⟨t, 2, none⟩ (.slice va (gs.filter fun g => !decide (g.n = n)).length vc))) := by
    refine ⟨⟨_, qv, hat.put2 HV.out.rd (fun q hq => hat.og q (hsub q hq)) (fun b hb => ⟨.inl hb, hat.lt b hb⟩) (fun b hb => ?_) (fun q hq b hb => ?_) (fun b hb => hb.2)⟩, ?_⟩
    · have := HV.out.lt b hb
      exact ⟨.inr this.1, this.2⟩
    · have h9 := hat.xg q (hsub q hq) b hb
      exact ⟨.inl h9, hat.lt b h9⟩
    · exact (Below.keeps HB1.out G).then (F' := fun b => b = t) ((Keeps.refl (fun b => b = t) w1).setCell (p := ⟨t, 2, none⟩) (show t = t from rfl) _) (fun i hi => by rw [hi]; exact .inl hat.gt)
  have hav := leave_any _ _ t mo ea (rlB gs n) qs n HP.out.1 (by have h8 := HN.out; have := List.length_filter_le (fun g : Lk => !decide (g.n = n)) gs; show (gs.filter _).length + _ ≤ _; omega)
  obtain ⟨NV, hNV⟩ : ∃ N, (gs.filter fun g => !decide (g.n = n)).length = N := ⟨_, rfl⟩
  rw [hNV] at HP hav ⊢
  have hcell2 : (w1.setCell ⟨t, 2, none⟩ (.slice va NV vc)).cell? ⟨w.heap.size, 0, none⟩ = some (.int .u64 (n : Int)) := (cell_other _ _ _ _ hnt).trans hcell1
  clear hw hv hb1 hat hsub c2 hcell hNV
  go_wp2_with fail
  refine hav.mono ?_
  intro e w2 hp
  have HQ : Hid (AdvPost G w t mo ea (rlB gs n) (lvB qs n) e w2) := AdvPost.base HP.out.2 (fun b hb => hb.1) hp
  obtain ⟨v9, he9, hv9, _⟩ := hp
  subst he9
  obtain ⟨v1, v2, ev, _⟩ := row_slice9 hv9
  subst ev
  obtain ⟨nv, hnv⟩ : ∃ nv, ((advB (lvB qs n) (rlB gs n) [] []).2.2.map (·.l.n)).length = nv := ⟨_, rfl⟩
  rw [hnv] at HQ ⊢
  clear hav hv9 hnv
  go_wp2
  go_ret
  exact HQ.out

end Go.Proofs.Ythiogpojccohgaa
