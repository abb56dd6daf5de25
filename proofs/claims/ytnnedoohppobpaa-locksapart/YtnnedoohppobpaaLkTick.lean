/- (*locks.Table).Tick, Queue, Waits. -/
import Derived.Test.YtnnedoohppobpaaLkAwake
namespace Go.Proofs.Ytnnedoohppobpaa
set_option maxRecDepth 100000
open Go.RowKit Go.Maps
set_option linter.unusedVariables false
set_option linter.unusedSimpArgs false

theorem tk1_any (w : World) (n m u k : Int) (a1 a2 : Option Addr) (l1 c1 l2 c2 B : Nat) (hc : w.cell? ⟨B, 0, none⟩ = some (.int .u64 k)) :
    Calls Try.prog 35 #[rqV n (.slice a1 l1 c1) (.slice a2 l2 c2) m u, .pointer (some ⟨B, 0, none⟩)] w fun e w' => e = .returned (.bool (decide (u ≤ k))) ∧ Below w.heap.size w w' := by
  have HB : Hid (Below w.heap.size w (w.alloc (.cells #[.int .u64 n, .slice a1 l1 c1, .slice a2 l2 c2, .int .u8 m, .int .u64 u] 68))) := below_box4 w _
  have hc2 := (HB.out.cell (p := ⟨B, 0, none⟩) (World.block_lt_of_cell? _ _ hc)).trans hc
  obtain ⟨z0, z1, z2, z3, z4⟩ := box5_new w (.int .u64 n) (.slice a1 l1 c1) (.slice a2 l2 c2) (.int .u8 m) (.int .u64 u) 68
  unfold rqV
  go_enter Try.func35, Try.ntmps35
  go_wp2
  go_ret
  exact ⟨rfl, HB.out⟩

theorem tk2_any (w : World) (n m u k : Int) (a1 a2 : Option Addr) (l1 c1 l2 c2 B C : Nat) (hc : w.cell? ⟨B, 0, none⟩ = some (.int .u64 k)) (hC : w.cell? ⟨C, 0, none⟩ = some (.func (.func 35) #[] #[.pointer (some ⟨B, 0, none⟩)])) :
    Calls Try.prog 37 #[rqV n (.slice a1 l1 c1) (.slice a2 l2 c2) m u, .pointer (some ⟨C, 0, none⟩)] w fun e w' => e = .returned (.bool (!decide (u ≤ k))) ∧ Below w.heap.size w w' := by
  have HB : Hid (Below w.heap.size w (w.alloc (.cells #[.int .u64 n, .slice a1 l1 c1, .slice a2 l2 c2, .int .u8 m, .int .u64 u] 68))) := below_box4 w _
  have hc2 := (HB.out.cell (p := ⟨B, 0, none⟩) (World.block_lt_of_cell? _ _ hc)).trans hc
  have hC2 := (HB.out.cell (p := ⟨C, 0, none⟩) (World.block_lt_of_cell? _ _ hC)).trans hC
  have h1 := tk1_any _ n m u k a1 a2 l1 c1 l2 c2 B hc2
  have he := ent_t1
  obtain ⟨z0, z1, z2, z3, z4⟩ := box5_new w (.int .u64 n) (.slice a1 l1 c1) (.slice a2 l2 c2) (.int .u8 m) (.int .u64 u) 68
  obtain ⟨r, hr⟩ : ∃ r, decide (u ≤ k) = r := ⟨_, rfl⟩
  rw [hr] at h1 ⊢
  clear hr hc hC
  unfold rqV at h1 ⊢
  go_enter Try.func37, Try.ntmps37
  go_wp2_with fail
  refine h1.mono ?_
  rintro e w2 ⟨rfl, hb2⟩
  have HF : Hid (Below w.heap.size w w2) := bsplit HB.out hb2
  clear h1 hb2
  go_wp2
  go_ret
  exact ⟨rfl, HF.out⟩

theorem queue_any (G : Nat → Prop) (w : World) (t : Nat) (mo ea : Int) (gs : List Lk) (qs : List Rq) (h : LkP G w t mo ea gs qs) (hn : qs.length ≤ 100000) :
    Calls Try.prog 20 #[.pointer (some ⟨t, 0, none⟩)] w fun e w' => ∃ v, e = .returned v ∧ OwnU w.heap.size w' v (qs.map (·.l.n)) ∧ Below w.heap.size w w' := by
  have he := eqT t
  obtain ⟨gv, qv, h⟩ := h
  have hw := whose_any w qv qs h.rq (fun q hq => (h.oq q hq).s) hn
  obtain ⟨qa, qc, eq, _⟩ := row_slice9 h.rq
  subst eq
  have c3 := h.bx.c3
  obtain ⟨NQ, hNQ⟩ : ∃ N, qs.length = N := ⟨_, rfl⟩
  rw [hNQ] at c3 hw
  clear h hNQ hn
  go_enter Try.func20, Try.ntmps20
  go_wp2_with fail
  refine hw.mono ?_
  rintro e w1 ⟨v, rfl, hv, hb1⟩
  have HV : Hid (OwnU w.heap.size w1 v (qs.map (·.l.n)) ∧ Below w.heap.size w w1) := ⟨hv, hb1⟩
  clear hw hv hb1
  go_wp2
  go_ret
  exact ⟨v, rfl, HV.out.1, HV.out.2⟩

/-- those that waited too long, and those that didn't -/
def lateB (qs : List Rq) (k : Nat) : List Rq := qs.filter fun q => decide (q.u ≤ k)
def restB (qs : List Rq) (k : Nat) : List Rq := qs.filter fun q => !decide (q.u ≤ k)

set_option maxHeartbeats 2000000 in
theorem tick_any (G : Nat → Prop) (w : World) (t : Nat) (mo ea : Int) (gs : List Lk) (qs : List Rq) (k : Nat) (h : LkP G w t mo ea gs qs) (hn : gs.length + qs.length ≤ 1000) :
    Calls Try.prog 14 #[.pointer (some ⟨t, 0, none⟩), .int .u64 (k : Int)] w fun e w' => ∃ v1 v2, e = .returned (.tuple #[v1, v2]) ∧ OwnU w.heap.size w' v1 ((lateB qs k).map (·.l.n)) ∧ OwnU w.heap.size w' v2 ((advB (restB qs k) gs [] []).2.2.map (·.l.n)) ∧ Keeps G w w' ∧ ∃ G', LkP G' w' t mo ea (advB (restB qs k) gs [] []).1 (advB (restB qs k) gs [] []).2.1 ∧ ∀ b, G' b → G b ∨ w.heap.size ≤ b := by
  have he := eqT t
  obtain ⟨gv, qv, h⟩ := h
  have HL : Hid (LkAt G w t mo ea gs qs gv qv) := h
  have HN : Hid (gs.length + qs.length ≤ 1000) := hn
  obtain ⟨qa, qc, eq, _⟩ := row_slice9 h.rq
  subst eq
  have hb1 := below_two w (.cells #[.int .u64 (k : Int)] 29) (.cells #[.nilFunc] 69)
  have hs1 : ((w.alloc (.cells #[.int .u64 (k : Int)] 29)).alloc (.cells #[.nilFunc] 69)).heap.size = w.heap.size + 2 := by simp
  have hs0 : (w.alloc (.cells #[.int .u64 (k : Int)] 29)).heap.size = w.heap.size + 1 := by simp
  have hk0 : ((w.alloc (.cells #[.int .u64 (k : Int)] 29)).alloc (.cells #[.nilFunc] 69)).cell? ⟨w.heap.size, 0, none⟩ = some (.int .u64 (k : Int)) :=
    ((below_box4 (w.alloc (.cells #[.int .u64 (k : Int)] 29)) (.cells #[.nilFunc] 69)).cell (p := ⟨w.heap.size, 0, none⟩) (by rw [hs0]; exact Nat.lt_succ_self _)).trans (one_cell w _ _)
  have hz : ((w.alloc (.cells #[.int .u64 (k : Int)] 29)).alloc (.cells #[.nilFunc] 69)).cell? ⟨w.heap.size + 1, 0, none⟩ = some .nilFunc := by
    have := one_cell (w.alloc (.cells #[.int .u64 (k : Int)] 29)) .nilFunc 69
    rw [hs0] at this
    exact this
  have hfz : ((w.alloc (.cells #[.int .u64 (k : Int)] 29)).alloc (.cells #[.nilFunc] 69)).frozen? ⟨w.heap.size + 1, 0, none⟩ = false := by
    have := frozen_of_row ((w.alloc (.cells #[.int .u64 (k : Int)] 29)).alloc (.cells #[.nilFunc] 69)) (w.heap.size + 1) 0 #[.nilFunc] 69 (by have := heap_alloc_new (w.alloc (.cells #[.int .u64 (k : Int)] 29)) (.cells #[.nilFunc] 69); rw [hs0] at this; exact this)
    exact this
  have HA : Hid (Below w.heap.size w ((w.alloc (.cells #[.int .u64 (k : Int)] 29)).alloc (.cells #[.nilFunc] 69)) ∧ ((w.alloc (.cells #[.int .u64 (k : Int)] 29)).alloc (.cells #[.nilFunc] 69)).heap.size = w.heap.size + 2) := ⟨hb1, hs1⟩
  obtain ⟨NQ, hNQ⟩ : ∃ N, qs.length = N := ⟨_, rfl⟩
  have HNQ : Hid (qs.length = NQ) := hNQ
  clear h hn hb1 hs1 hs0
  go_enter Try.func14, Try.ntmps14
  obtain ⟨W, hW⟩ : ∃ W, (w.alloc (.cells #[.int .u64 (k : Int)] 29)).alloc (.cells #[.nilFunc] 69) = W := ⟨_, rfl⟩
  have hc3 : (W.setCell ⟨w.heap.size + 1, 0, none⟩ (.func (.func 35) #[] #[.pointer (some ⟨w.heap.size, 0, none⟩)])).cell? ⟨t, 3, none⟩ = some (.slice qa NQ qc) := by
    have hat := HL.out.below HA.out.1
    have := (hat.bx.below (Below.refl _ _)).c3
    rw [hNQ, hW] at this
    have hlt := HL.out.bx.lt
    rw [World.cell?_of_block (w := W) (a := ⟨t, 3, none⟩) (Below.heap_setCell _ _ _ _ (by simp; omega))]
    exact this
  rw [hW] at hk0 hz hfz HA
  have hst : (store ⟨w.heap.size + 1, 0, none⟩ (.func (.func 35) #[] #[.pointer (some ⟨w.heap.size, 0, none⟩)])).run Try.prog W = .ok () (W.setCell ⟨w.heap.size + 1, 0, none⟩ (.func (.func 35) #[] #[.pointer (some ⟨w.heap.size, 0, none⟩)])) := by
    rw [run_store _ _ _ _ _ rfl]
    simp [go_sem, hz, hfz, stored]
  go_wp2_with fail
  have HV : Hid (Below w.heap.size w (W.setCell ⟨w.heap.size + 1, 0, none⟩ (.func (.func 35) #[] #[.pointer (some ⟨w.heap.size, 0, none⟩)])) ∧ (W.setCell ⟨w.heap.size + 1, 0, none⟩ (.func (.func 35) #[] #[.pointer (some ⟨w.heap.size, 0, none⟩)])).heap.size = w.heap.size + 2 ∧ (W.setCell ⟨w.heap.size + 1, 0, none⟩ (.func (.func 35) #[] #[.pointer (some ⟨w.heap.size, 0, none⟩)])).cell? ⟨w.heap.size, 0, none⟩ = some (.int .u64 (k : Int)) ∧ (W.setCell ⟨w.heap.size + 1, 0, none⟩ (.func (.func 35) #[] #[.pointer (some ⟨w.heap.size, 0, none⟩)])).cell? ⟨w.heap.size + 1, 0, none⟩ = some (.func (.func 35) #[] #[.pointer (some ⟨w.heap.size, 0, none⟩)])) :=
    ⟨HA.out.1.setCell (p := ⟨w.heap.size + 1, 0, none⟩) (Nat.le_succ _) _, by simpa using HA.out.2, by simp [go_sem, hk0], by simp [go_sem, hz]⟩
  clear hst hz hfz hk0 hW HA hNQ
  generalize W.setCell ⟨w.heap.size + 1, 0, none⟩ (.func (.func 35) #[] #[.pointer (some ⟨w.heap.size, 0, none⟩)]) = V at hc3 HV ⊢
  have hat := HL.out.below HV.out.1
  have hw1 := woq_any V _ qs 37 (.pointer (some ⟨w.heap.size + 1, 0, none⟩)) (fun q => !decide (q.u ≤ k)) ent_t2 hat.rq (fun q hq => (HL.out.oq q hq).s) (by have := HN.out; omega)
    (fun q hq W' hW' => by
      obtain ⟨⟨a1, l1, c1, e1⟩, ⟨a2, l2, c2, e2⟩⟩ := (HL.out.oq q hq).s
      have h9 := tk2_any W' (q.l.n : Int) (q.l.m.toNat : Int) (q.u : Int) (k : Int) a1 a2 l1 c1 l2 c2 w.heap.size (w.heap.size + 1) ((hW'.cell (p := ⟨w.heap.size, 0, none⟩) (by rw [HV.out.2.1]; simp)).trans HV.out.2.2.1) ((hW'.cell (p := ⟨w.heap.size + 1, 0, none⟩) (by rw [HV.out.2.1]; simp)).trans HV.out.2.2.2)
      rw [e1, e2]
      rw [show decide ((q.u : Int) ≤ (k : Int)) = decide (q.u ≤ k) by simp] at h9
      exact h9)
  rw [HNQ.out] at hw1
  have hlf : (qs.filter fun g => !(!decide (g.u ≤ k))) = lateB qs k := by unfold lateB; congr 1; funext g; simp
  rw [hlf] at hw1
  clear hat hlf
  refine hw1.mono ?_
  rintro e w1 ⟨v, rfl, hv, hb1⟩
  have HB1 : Hid (Below w.heap.size w w1 ∧ Below V.heap.size V w1) := ⟨bsplit HV.out.1 (hb1.mono (by rw [HV.out.2.1]; exact Nat.le_refl _)), hb1⟩
  have hwh := whose_any w1 v (lateB qs k) hv.rd (fun q hq => (HL.out.oq q (List.mem_filter.1 hq).1).s) (by have := List.length_filter_le (fun q : Rq => decide (q.u ≤ k)) qs; have := HN.out; unfold lateB; omega)
  obtain ⟨va, vc, ev, _⟩ := row_slice9 hv
  subst ev
  obtain ⟨nl, hnl⟩ : ∃ n, (lateB qs k).length = n := ⟨_, rfl⟩
  rw [hnl] at hwh ⊢
  clear hw1 hv hb1 hnl hc3
  go_wp2_with fail
  refine hwh.mono ?_
  rintro e w2 ⟨v1, rfl, hv1, hb2⟩
  have HV1 : Hid (OwnU w1.heap.size w2 v1 ((lateB qs k).map (·.l.n))) := hv1
  have HB2 : Hid (Below w.heap.size w w2 ∧ Below V.heap.size V w2 ∧ w1.heap.size ≤ w2.heap.size) := ⟨bsplit HB1.out.1 hb2, HB1.out.2.trans (hb2.mono HB1.out.2.size), hb2.size⟩
  have hat2 := HL.out.below HB2.out.1
  have c3 := hat2.bx.c3
  have f3 := hat2.bx.f3
  rw [HNQ.out] at c3
  have k0 := (HB2.out.2.1.cell (p := ⟨w.heap.size, 0, none⟩) (by rw [HV.out.2.1]; simp)).trans HV.out.2.2.1
  have k1 := (HB2.out.2.1.cell (p := ⟨w.heap.size + 1, 0, none⟩) (by rw [HV.out.2.1]; simp)).trans HV.out.2.2.2
  clear hwh hv1 hb2
  have hdr : Below w2.heap.size w2 w2.drew := (Below.refl _ _).drew
  have hw2 := woq_any w2.drew (.slice qa qs.length qc) qs 35 (.pointer (some ⟨w.heap.size, 0, none⟩)) (fun q => decide (q.u ≤ k)) ent_t1 (hat2.rq.below hdr) (fun q hq => (HL.out.oq q hq).s) (by have := HN.out; omega)
    (fun q hq W' hW' => by
      obtain ⟨⟨a1, l1, c1, e1⟩, ⟨a2, l2, c2, e2⟩⟩ := (HL.out.oq q hq).s
      have h9 := tk1_any W' (q.l.n : Int) (q.l.m.toNat : Int) (q.u : Int) (k : Int) a1 a2 l1 c1 l2 c2 w.heap.size ((hW'.cell (p := ⟨w.heap.size, 0, none⟩) (World.block_lt_of_cell? _ _ k0)).trans k0)
      rw [e1, e2]
      rw [show decide ((q.u : Int) ≤ (k : Int)) = decide (q.u ≤ k) by simp] at h9
      exact h9)
  rw [HNQ.out, show (qs.filter fun g => !(fun q : Rq => decide (q.u ≤ k)) g) = restB qs k from rfl] at hw2
  clear hat2
  obtain ⟨v1a, v1c, ev1, _⟩ := row_slice9 HV1.out
  subst ev1
  have HVB : Hid (OwnU w1.heap.size w2 (.slice v1a (lateB qs k).length v1c) ((lateB qs k).map (·.l.n))) := by
    have h := HV1.out
    rw [List.length_map] at h
    exact h
  go_upto_region 5 with fail
  go_region_with (first
    | (go_at_call 32; refine Calls.mono hw2 ?_; rintro e w3 ⟨v3, rfl, hv3, hb3⟩
       have HB3 : Hid (Below w.heap.size w w3 ∧ Below w2.heap.size w2 w3) := ⟨bsplit HB2.out.1 (hdr.trans hb3), hdr.trans hb3⟩
       have HV3 : Hid (OwnQ w2.heap.size w3 v3 (restB qs k)) := hv3
       have hat3 := HL.out.below HB3.out.1
       have f3 := hat3.bx.f3
       have c3 := hat3.bx.c3
       obtain ⟨v3a, v3c, ev3, _⟩ := row_slice9 hv3
       subst ev3)
    | fail)
  all_goals
    have hsub : ∀ q ∈ restB qs k, q ∈ qs := fun q hq => (List.mem_filter.1 hq).1
    have HP : Hid (LkP (fun b => (G b ∨ w2.heap.size ≤ b) ∧ b < w3.heap.size) (w3.setCell ⟨t, 3, none⟩ (.slice v3a (restB qs k).length v3c)) t mo ea gs (restB qs k) ∧ Keeps G w (w3.setCell ⟨t, 3, none⟩ (.slice v3a (restB qs k).length v3c))) := by
      refine ⟨⟨gv, _, hat3.put3 HV3.out.rd (fun q hq => hat3.oq q (hsub q hq)) (fun b hb => ⟨.inl hb, hat3.lt b hb⟩) (fun b hb => ?_) (fun q hq b hb => ?_) (fun b hb => hb.2) (fun q hq => hat3.nu q (hsub q hq))⟩, ?_⟩
      · have := HV3.out.lt b hb
        exact ⟨.inr this.1, this.2⟩
      · have h9 := hat3.xq q (hsub q hq) b hb
        exact ⟨.inl h9, hat3.lt b h9⟩
      · exact (Below.keeps HB3.out.1 G).then (F' := fun b => b = t) ((Keeps.refl (fun b => b = t) w3).setCell (p := ⟨t, 3, none⟩) (show t = t from rfl) _) (fun i hi => by rw [hi]; exact .inl hat3.gt)
    have HS : Hid (w2.heap.size ≤ w3.heap.size ∧ w1.heap.size ≤ w2.heap.size ∧ (w3.setCell ⟨t, 3, none⟩ (.slice v3a (restB qs k).length v3c)).heap.size = w3.heap.size ∧ t < w.heap.size ∧ w.heap.size ≤ w1.heap.size) := ⟨HB3.out.2.size, HB2.out.2.2, by simp, HL.out.bx.lt, HB1.out.1.size⟩
    have hav := adv_any _ _ t mo ea gs (restB qs k) HP.out.1 (by have h8 := HN.out; have := List.length_filter_le (fun q : Rq => !decide (q.u ≤ k)) qs; show _ + (qs.filter _).length ≤ _; omega)
    obtain ⟨V4, hV4⟩ : ∃ V4, w3.setCell ⟨t, 3, none⟩ (.slice v3a (restB qs k).length v3c) = V4 := ⟨_, rfl⟩
    have HV4 : Hid (w3.setCell ⟨t, 3, none⟩ (.slice v3a (restB qs k).length v3c) = V4) := hV4
    rw [hV4] at HP hav HS ⊢
    clear hw2 hv3 hb3 hat3 hsub f3 c3 k0 k1 hV4
    go_wp2_with fail
    refine hav.mono ?_
    intro e w4 hp
    have HQ : Hid (AdvPost G w t mo ea gs (restB qs k) e w4) := AdvPost.base HP.out.2 (fun b hb => hb.1.elim .inl (fun h => .inr (by have := HS.out; omega))) hp
    have HO : Hid (OwnU w.heap.size w4 (.slice v1a (lateB qs k).length v1c) ((lateB qs k).map (·.l.n))) := by
      have hk := hp.choose_spec.2.2.1
      refine row_mono9 (row_same9 HVB.out fun q hq => ?_) HS.out.2.2.2.2
      have hl := HVB.out.lt q hq
      have hsz := HS.out
      have e1 : w3.heap[q]? = w2.heap[q]? := HB3.out.2.block q hl.2
      have e2 : V4.heap[q]? = w3.heap[q]? := by
        rw [← HV4.out]
        exact Below.heap_setCell _ _ _ _ (by simp; omega)
      have e3 : w4.heap[q]? = V4.heap[q]? := hk.block q (by omega) (fun h9 => by
        rcases h9.1 with h9 | h9
        · have := HL.out.lt q h9; omega
        · omega)
      rw [e3, e2, e1]
    obtain ⟨v9, he9, hv9, _⟩ := hp
    subst he9
    obtain ⟨u1, u2, ev, _⟩ := row_slice9 hv9
    subst ev
    obtain ⟨nv, hnv⟩ : ∃ nv, ((advB (restB qs k) gs [] []).2.2.map (·.l.n)).length = nv := ⟨_, rfl⟩
    rw [hnv] at HQ ⊢
    clear hav hv9 hnv
    go_wp2
    go_ret2
    obtain ⟨v, h1, h2, h3, h4⟩ := HQ.out
    cases h1
    exact ⟨_, _, rfl, HO.out, h2, h3, h4⟩

/-- the same by its blocks -/
theorem tickq_any (B : Nat) (w : World) (t : Nat) (mo ea : Int) (gs : List Lk) (qs : List Rq) (k : Nat) (h : LkQ B w t mo ea gs qs) (hn : gs.length + qs.length ≤ 1000) :
    Calls Try.prog 14 #[.pointer (some ⟨t, 0, none⟩), .int .u64 (k : Int)] w fun e w' => ∃ v1 v2, e = .returned (.tuple #[v1, v2]) ∧ RdU w' v1 ((lateB qs k).map (·.l.n)) ∧ RdU w' v2 ((advB (restB qs k) gs [] []).2.2.map (·.l.n)) ∧ Below B w w' ∧ LkQ B w' t mo ea (advB (restB qs k) gs [] []).1 (advB (restB qs k) gs [] []).2.1 := by
  obtain ⟨hB, G, h, hG⟩ := h
  refine (tick_any G w t mo ea gs qs k h hn).mono ?_
  rintro e w' ⟨v1, v2, he, h1, h2, hk, G', hp, hG'⟩
  exact ⟨v1, v2, he, h1.rd, h2.rd, hk.below hG hB, Nat.le_trans hB hk.size, G', hp, fun b hb => (hG' b hb).elim (hG b) (Nat.le_trans hB)⟩

end Go.Proofs.Ytnnedoohppobpaa
