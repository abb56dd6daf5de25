/- (*skip.List).Insert. -/
import Derived.Test.YthcoblmfmbmdkaaSkFind
namespace Go.Proofs.Ythcoblmfmbmdkaa
set_option maxRecDepth 20000
open Go.RowKit
set_option linter.unusedVariables false
set_option linter.unusedSimpArgs false

theorem arr8_of (w : World) (v0 v1 v2 v3 v4 v5 v6 v7 : Value) (t : TypeId) (V : Nat → Value) (h0 : V 0 = v0) (h1 : V 1 = v1) (h2 : V 2 = v2) (h3 : V 3 = v3) (h4 : V 4 = v4) (h5 : V 5 = v5) (h6 : V 6 = v6) (h7 : V 7 = v7) : Arr8 (w.alloc (.cells #[v0, v1, v2, v3, v4, v5, v6, v7] t)) w.heap.size V := by
  have h := heap_alloc_new w (.cells #[v0, v1, v2, v3, v4, v5, v6, v7] t)
  subst h0 h1 h2 h3 h4 h5 h6 h7
  refine ⟨fun r hr => ?_, fun r hr => frozen_of_row _ w.heap.size r _ t h⟩
  have c := cell_of_row _ w.heap.size r _ t (0, 0) h
  have : r = 0 ∨ r = 1 ∨ r = 2 ∨ r = 3 ∨ r = 4 ∨ r = 5 ∨ r = 6 ∨ r = 7 := by omega
  rcases this with rfl | rfl | rfl | rfl | rfl | rfl | rfl | rfl <;> exact c.trans rfl

theorem blk_set {w : World} {b : Nat} (h : ∃ ca ty, w.heap[b]? = some (.cells ca ty (0, 0))) (p : Addr) (u : Value) : ∃ ca ty, (w.setCell p u).heap[b]? = some (.cells ca ty (0, 0)) := by
  obtain ⟨ca, ty, h⟩ := h
  by_cases e : b = p.block
  · subst e
    simp only [World.setCell, Array.getElem?_modify, h, if_true, Option.map_some]
    exact ⟨_, _, rfl⟩
  · exact ⟨ca, ty, by rw [Below.heap_setCell _ _ _ _ e]; exact h⟩

/-- so many of the new tower's rows are done -/
structure InsI (w wr : World) (l tb : Nat) (ts : List Tow) (A : Nat → Nat) (j : Nat) : Prop where
  kp : Keeps (fun i => (∃ a, a ≤ ts.length ∧ i = nb l ts a) ∨ i = tb) w wr
  nc : ∀ a, a ≤ ts.length → ∀ r, r < 8 → wr.cell? ⟨nb l ts a, 4 + r, none⟩ = (if r < j ∧ a = A r then some (ptrT (some tb)) else w.cell? ⟨nb l ts a, 4 + r, none⟩)
  nz : ∀ a, a ≤ ts.length → ∀ r, r < 8 → wr.frozen? ⟨nb l ts a, 4 + r, none⟩ = false
  ne : ∀ a, a ≤ ts.length → ∀ i, i < 4 → wr.cell? ⟨nb l ts a, i, none⟩ = w.cell? ⟨nb l ts a, i, none⟩
  nk : ∀ a, a ≤ ts.length → ∃ ca ty, wr.heap[nb l ts a]? = some (.cells ca ty (0, 0))
  tc : ∀ r, r < 8 → wr.cell? ⟨tb, 4 + r, none⟩ = some (if r < j then ptrT (fstT (ts.drop (A r)) r) else .pointer none)
  tz : ∀ r, r < 8 → wr.frozen? ⟨tb, 4 + r, none⟩ = false
  te : ∀ i, i < 4 → wr.cell? ⟨tb, i, none⟩ = w.cell? ⟨tb, i, none⟩
  tk : ∃ ca ty, wr.heap[tb]? = some (.cells ca ty (0, 0))

theorem cell_same (w : World) (b i j : Nat) (u v : Value) (h : w.cell? ⟨b, i, none⟩ = some v) (hij : j ≠ i) : (w.setCell ⟨b, i, none⟩ u).cell? ⟨b, j, none⟩ = w.cell? ⟨b, j, none⟩ := by
  simp [go_sem, h, hij]

theorem cell_here (w : World) (b i : Nat) (u v : Value) (h : w.cell? ⟨b, i, none⟩ = some v) : (w.setCell ⟨b, i, none⟩ u).cell? ⟨b, i, none⟩ = some u := by
  simp [go_sem, h]

theorem InsI.drew {w wr : World} {l tb : Nat} {ts : List Tow} {A : Nat → Nat} {j : Nat} (h : InsI w wr l tb ts A j) : InsI w wr.drew l tb ts A j := ⟨h.kp.drew, h.nc, h.nz, h.ne, h.nk, h.tc, h.tz, h.te, h.tk⟩

/-- one row more -/
theorem InsI.step {w wr : World} {l tb : Nat} {ts : List Tow} {A : Nat → Nat} {j : Nat} (h : InsI w wr l tb ts A j) (hS : SkAt w l ts) (hj : j < 8) (hA : A j ≤ ts.length) (hnew : ∀ a, a ≤ ts.length → tb ≠ nb l ts a) (hc : w.cell? ⟨nb l ts (A j), 4 + j, none⟩ = some (ptrT (fstT (ts.drop (A j)) j))) :
    InsI w ((wr.setCell ⟨tb, 4 + j, none⟩ (ptrT (fstT (ts.drop (A j)) j))).setCell ⟨nb l ts (A j), 4 + j, none⟩ (ptrT (some tb))) l tb ts A (j + 1) := by
  have htc := h.tc j hj
  have hnc := h.nc (A j) hA j hj
  rw [if_neg (by omega), hc] at hnc
  have hnj := hnew (A j) hA
  have hnc2 : (wr.setCell ⟨tb, 4 + j, none⟩ (ptrT (fstT (ts.drop (A j)) j))).cell? ⟨nb l ts (A j), 4 + j, none⟩ = some (ptrT (fstT (ts.drop (A j)) j)) := by
    rw [cell_other wr ⟨tb, 4 + j, none⟩ ⟨nb l ts (A j), 4 + j, none⟩ _ (Ne.symm hnj)]; exact hnc
  refine ⟨?_, fun a ha r hr => ?_, fun a ha r hr => ?_, fun a ha i hi => ?_, fun a ha => ?_, fun r hr => ?_, fun r hr => ?_, fun i hi => ?_, ?_⟩
  · exact (h.kp.setCell (p := ⟨tb, 4 + j, none⟩) (.inr rfl) _).setCell (p := ⟨nb l ts (A j), 4 + j, none⟩) (.inl ⟨A j, hA, rfl⟩) _
  · by_cases e : a = A j
    · subst e
      by_cases er : r = j
      · subst er
        rw [cell_here _ _ _ _ _ hnc2, if_pos ⟨by omega, rfl⟩]
      · rw [cell_same _ _ _ _ _ _ hnc2 (by omega), cell_other wr ⟨tb, 4 + j, none⟩ ⟨nb l ts (A j), 4 + r, none⟩ _ (Ne.symm hnj), h.nc (A j) ha r hr]
        by_cases h1 : r < j ∧ A j = A r
        · rw [if_pos h1, if_pos ⟨by omega, h1.2⟩]
        · rw [if_neg h1, if_neg (fun h2 => h1 ⟨by omega, h2.2⟩)]
    · have hne : nb l ts a ≠ nb l ts (A j) := fun e2 => e (hS.inj a (A j) ha hA e2)
      rw [cell_other _ ⟨nb l ts (A j), 4 + j, none⟩ ⟨nb l ts a, 4 + r, none⟩ _ hne, cell_other wr ⟨tb, 4 + j, none⟩ ⟨nb l ts a, 4 + r, none⟩ _ (Ne.symm (hnew a ha)), h.nc a ha r hr]
      by_cases h1 : r < j ∧ a = A r
      · rw [if_pos h1, if_pos ⟨by omega, h1.2⟩]
      · rw [if_neg h1, if_neg (fun h2 => h1 ⟨by
          by_cases er : r = j
          · subst er; exact absurd h2.2 e
          · omega, h2.2⟩)]
  · rw [World.frozen?_setCell, World.frozen?_setCell]; exact h.nz a ha r hr
  · by_cases e : a = A j
    · subst e
      rw [cell_same _ _ _ _ _ _ hnc2 (by omega), cell_other wr ⟨tb, 4 + j, none⟩ ⟨nb l ts (A j), i, none⟩ _ (Ne.symm hnj)]
      exact h.ne _ ha i hi
    · have hne : nb l ts a ≠ nb l ts (A j) := fun e2 => e (hS.inj a (A j) ha hA e2)
      rw [cell_other _ ⟨nb l ts (A j), 4 + j, none⟩ ⟨nb l ts a, i, none⟩ _ hne, cell_other wr ⟨tb, 4 + j, none⟩ ⟨nb l ts a, i, none⟩ _ (Ne.symm (hnew a ha))]
      exact h.ne a ha i hi
  · exact blk_set (blk_set (h.nk a ha) _ _) _ _
  · rw [cell_other _ ⟨nb l ts (A j), 4 + j, none⟩ ⟨tb, 4 + r, none⟩ _ hnj]
    by_cases er : r = j
    · subst er
      rw [cell_here _ _ _ _ _ htc, if_pos (by omega)]
    · rw [cell_same _ _ _ _ _ _ htc (by omega), h.tc r hr]
      by_cases h1 : r < j
      · rw [if_pos h1, if_pos (by omega)]
      · rw [if_neg h1, if_neg (by omega)]
  · rw [World.frozen?_setCell, World.frozen?_setCell]; exact h.tz r hr
  · rw [cell_other _ ⟨nb l ts (A j), 4 + j, none⟩ ⟨tb, i, none⟩ _ hnj, cell_same _ _ _ _ _ _ htc (by omega)]
    exact h.te i hi
  · exact blk_set (blk_set h.tk _ _) _ _

/-- what is like a version stands where one looks for it, or nowhere -/
theorem any_at {ts : List Tow} {K : EnB} {c : Nat} (h : PredT ts K 0 c) (hh : ∀ t ∈ ts, 1 ≤ t.h ∧ t.h ≤ 8) (hr : riseB (ts.map (·.e)) = true) : anyE (esT ts) K = true ↔ ∃ hc : c < ts.length, cmpE ts[c].e K = 0 := by
  unfold anyE
  rw [List.any_eq_true]
  constructor
  · rintro ⟨x, hx, hs⟩
    obtain ⟨i, hi, rfl⟩ := List.getElem_of_mem hx
    rw [esT_len] at hi
    rw [esT_get hi] at hs
    have h0 := sameE_iff.1 hs
    by_cases hic : i < c
    · have := h.lt i hi hic
      unfold ltE at this
      rw [decide_eq_true_eq] at this
      omega
    · by_cases e : i = c
      · subst e; exact ⟨hi, h0⟩
      · exfalso
        have hcl : c < ts.length := by omega
        have h1 := h.no c hcl (Nat.le_refl _) (by have := (hh _ (List.getElem_mem hcl)).1; omega)
        unfold ltE at h1
        rw [decide_eq_false_iff_not] at h1
        have h2 := rise_lt (es := esT ts) hr c i (by rw [esT_len]; exact hi) (by omega)
        rw [esT_get hcl, esT_get hi] at h2
        have h3 := cmpE_neg ts[c].e K
        have h4 : cmpE ts[c].e K < 0 := by
          have h5 : cmpE ts[c].e K = cmpE ts[c].e ts[i].e := by
            obtain ⟨e1, e2, e3⟩ := Mth.cmpK_zero.1 h0
            unfold cmpE
            rw [e1, e2, e3]
          omega
        omega
  · rintro ⟨hc, h0⟩
    exact ⟨ts[c].e, by unfold esT; exact List.mem_map.2 ⟨_, List.getElem_mem hc, rfl⟩, sameE_iff.2 h0⟩

theorem chkSk_ok {e : EnB} {h : Int} (hc : chkSk e h = 0) : 1 ≤ h ∧ h ≤ 8 := by
  unfold chkSk at hc
  split at hc
  · split at hc
    · assumption
    · cases hc
  · rename_i h0; exact absurd hc h0

structure Box3 (w : World) (b : Nat) (v0 v1 v2 : Value) : Prop where
  c0 : w.cell? ⟨b, 0, none⟩ = some v0
  c1 : w.cell? ⟨b, 1, none⟩ = some v1
  c2 : w.cell? ⟨b, 2, none⟩ = some v2

theorem Box3.below {w w' : World} {b : Nat} {v0 v1 v2 : Value} (h : Box3 w b v0 v1 v2) (hb : Below w.heap.size w w') : Box3 w' b v0 v1 v2 :=
  ⟨(hb.cell (World.block_lt_of_cell? w _ h.c0)).trans h.c0, (hb.cell (World.block_lt_of_cell? w _ h.c1)).trans h.c1, (hb.cell (World.block_lt_of_cell? w _ h.c2)).trans h.c2⟩

/-- what Insert answers -/
def InsPost (l : Nat) (ts : List Tow) (e : EnB) (hh : Int) (w w' : World) (o : Ending) : Prop :=
  (¬ chkSk e hh = 0 ∧ o = .returned (.int .i64 (chkSk e hh)) ∧ Below w.heap.size w w') ∨
  (chkSk e hh = 0 ∧ anyE (esT ts) e = true ∧ o = .returned (.int .i64 7) ∧ Below w.heap.size w w') ∨
  (chkSk e hh = 0 ∧ anyE (esT ts) e = false ∧ o = .returned (.int .i64 0) ∧ ∃ T : Tow, T.e = e ∧ (T.h : Int) = hh ∧ w.heap.size ≤ T.b ∧ SkAt w' l (insT ts (cntE (esT ts) e) T) ∧ Keeps (fun i => ∃ a, a ≤ ts.length ∧ i = nb l ts a) w w')

/-- what it holds lies behind all that was there -/
def InsPost2 (l : Nat) (ts : List Tow) (e : EnB) (hh : Int) (w w' : World) (o : Ending) : Prop :=
  (¬ chkSk e hh = 0 ∧ o = .returned (.int .i64 (chkSk e hh)) ∧ Below w.heap.size w w') ∨
  (chkSk e hh = 0 ∧ anyE (esT ts) e = true ∧ o = .returned (.int .i64 7) ∧ Below w.heap.size w w') ∨
  (chkSk e hh = 0 ∧ anyE (esT ts) e = false ∧ o = .returned (.int .i64 0) ∧ ∃ T : Tow, T.e = e ∧ (T.h : Int) = hh ∧ (w.heap.size ≤ T.b ∧ From w.heap.size T.x ∧ From w.heap.size T.y) ∧ SkAt w' l (insT ts (cntE (esT ts) e) T) ∧ Keeps (fun i => ∃ a, a ≤ ts.length ∧ i = nb l ts a) w w')

theorem InsPost2.post {l : Nat} {ts : List Tow} {e : EnB} {hh : Int} {w w' : World} {o : Ending} (h : InsPost2 l ts e hh w w' o) : InsPost l ts e hh w w' o := by
  rcases h with h | h | ⟨h1, h2, h3, T, h4, h5, h6, h7⟩
  · exact .inl h
  · exact .inr (.inl h)
  · exact .inr (.inr ⟨h1, h2, h3, T, h4, h5, h6.1, h7⟩)


set_option maxHeartbeats 8000000 in
theorem skinsert_own (w : World) (l : Nat) (ts : List Tow) (xv yv : Value) (e : EnB) (hh : Int) (hS : SkAt w l ts) (hx : Rd w xv e.1) (hy : Rd w yv e.2.2.2) (hl1 : e.1.length ≤ 1000000) (hl2 : e.2.2.2.length ≤ 1000000) (hlen : ts.length + 1 ≤ 4000) :
    Calls Try.prog 70 #[.pointer (some ⟨l, 0, none⟩), enV xv (e.2.1 : Int) (e.2.2.1.toNat : Int) yv, .int .i64 hh] w fun o w' => InsPost2 l ts e hh w w' o := by
  have HS : Hid (SkAt w l ts) := hS
  have HLEN : Hid (ts.length + 1 ≤ 4000) := hlen
  obtain ⟨xa, xc, rfl⟩ := hx.len
  obtain ⟨ya, yc, rfl⟩ := hy.len
  obtain ⟨nl, hnl⟩ : ∃ z, e.1.length = z := ⟨_, rfl⟩
  obtain ⟨ml, hml⟩ : ∃ z, e.2.2.2.length = z := ⟨_, rfl⟩
  obtain ⟨s, hs⟩ : ∃ z : Int, (e.2.1 : Int) = z := ⟨_, rfl⟩
  obtain ⟨k, hk⟩ : ∃ z : Int, (e.2.2.1.toNat : Int) = z := ⟨_, rfl⟩
  have HE : Hid ((e.2.1 : Int) = s ∧ (e.2.2.1.toNat : Int) = k ∧ e.1.length = nl ∧ e.2.2.2.length = ml) := ⟨hs, hk, hnl, hml⟩
  have HLL : Hid (e.1.length ≤ 1000000 ∧ e.2.2.2.length ≤ 1000000) := ⟨hl1, hl2⟩
  have HX : Hid (Rd w (.slice xa nl xc) e.1 ∧ Rd w (.slice ya ml yc) e.2.2.2) := by rw [← hnl, ← hml]; exact ⟨hx, hy⟩
  obtain ⟨c, hc⟩ : ∃ c, chkSk e hh = c := ⟨_, rfl⟩
  have HC : Hid (chkSk e hh = c) := hc
  have hb0 := below_box4 w (.cells #[.slice xa nl xc, .int .u64 s, .int .u8 k, .slice ya ml yc] 44)
  have HB0 : Hid (Below w.heap.size w (w.alloc (.cells #[.slice xa nl xc, .int .u64 s, .int .u8 k, .slice ya ml yc] 44))) := hb0
  have B0 := box4_new w (.slice xa nl xc) (.int .u64 s) (.int .u8 k) (.slice ya ml yc) 44
  have hck := skcheck_any (w.alloc (.cells #[.slice xa nl xc, .int .u64 s, .int .u8 k, .slice ya ml yc] 44)) xa ya xc yc e hh c hc
  rw [hnl, hml, hs, hk] at hck
  rw [hnl, hml, hs, hk]
  obtain ⟨c0, c1, c2, c3⟩ := B0
  have B0 := box4_new w (.slice xa nl xc) (.int .u64 s) (.int .u8 k) (.slice ya ml yc) 44
  clear hS hx hy hl1 hl2 hlen hnl hml hs hk hc hb0
  go_enter Try.func70, Try.ntmps70
  go_wp2_with fail
  refine hck.mono ?_
  rintro o w1 ⟨rfl, hb1⟩
  have HB1 : Hid (Below w.heap.size w w1) := bsplit HB0.out hb1
  have B1 := B0.below hb1 (Nat.le_refl _)
  clear hck hb1 c0 c1 c2 c3 B0
  by_cases h0 : c = 0
  case neg =>
    have h0b : (c == 0) = false := by simpa using h0
    go_wp2
    go_ret
    exact .inl ⟨by rw [HC.out]; exact h0, by rw [HC.out]; rfl, HB1.out⟩
  subst h0
  have hS1 := HS.out.below HB1.out
  have hah := ahead_any w1 l ts (.slice xa nl xc) e hS1 (HX.out.1.below HB1.out (Nat.le_refl _))
  rw [HE.out.1, HE.out.2.1] at hah
  obtain ⟨c0, c1, c2, c3⟩ := B1
  have B1 : Box4 w1 w.heap.size (.slice xa nl xc) (.int .u64 s) (.int .u8 k) (.slice ya ml yc) := ⟨c0, c1, c2, c3⟩
  clear hS1
  go_wp2_with fail
  refine hah.mono ?_
  rintro o w2 ⟨A, rfl, hA, hb2⟩
  clear c0 c1 c2 c3
  have HA : Hid (∀ r, r < 8 → PredT ts e r (A r)) := hA
  have HB2 : Hid (Below w.heap.size w w2) := bsplit HB1.out hb2
  have hba := below_box4 w2 (.cells #[ndP l ts (A 0), ndP l ts (A 1), ndP l ts (A 2), ndP l ts (A 3), ndP l ts (A 4), ndP l ts (A 5), ndP l ts (A 6), ndP l ts (A 7)] 108)
  have AR2 := arr8_of w2 (ndP l ts (A 0)) (ndP l ts (A 1)) (ndP l ts (A 2)) (ndP l ts (A 3)) (ndP l ts (A 4)) (ndP l ts (A 5)) (ndP l ts (A 6)) (ndP l ts (A 7)) 108 (fun r => ndP l ts (A r)) rfl rfl rfl rfl rfl rfl rfl rfl
  have B2 := (B1.below hb2 (Nat.le_refl _)).below hba (Nat.le_refl _)
  obtain ⟨W, hW⟩ : ∃ W, w2.alloc (.cells #[ndP l ts (A 0), ndP l ts (A 1), ndP l ts (A 2), ndP l ts (A 3), ndP l ts (A 4), ndP l ts (A 5), ndP l ts (A 6), ndP l ts (A 7)] 108) = W := ⟨_, rfl⟩
  obtain ⟨ab, hab⟩ : ∃ b, w2.heap.size = b := ⟨_, rfl⟩
  rw [hW] at hba AR2 B2
  rw [hab] at AR2
  have HBW : Hid (Below w.heap.size w W) := bsplit HB2.out hba
  have hSW := HS.out.below HBW.out
  have hP0 := hA 0 (by omega)
  have hcnt := hP0.cnt HS.out.ht
  have hany := any_at hP0 HS.out.ht HS.out.ris
  have a0 := AR2.cel 0 (by omega)
  have n0 := (hSW.nod (A 0) hP0.le).cel 0 (by omega)
  rw [if_pos hP0.hi, fst_low HS.out.ht, Nat.add_zero] at n0
  have HAR : Hid (Arr8 W ab (fun r => ndP l ts (A r))) := AR2
  have HABN : Hid (ab ≠ w.heap.size ∧ w.heap.size < ab ∧ ab < W.heap.size) := ⟨by have := (B1.below hb2 (Nat.le_refl _)).lt; omega, by have := (B1.below hb2 (Nat.le_refl _)).lt; omega, AR2.lt⟩
  clear hah hA hb2 hba B1 AR2
  obtain ⟨AY, hAY⟩ : ∃ r, anyE (esT ts) e = r := ⟨_, rfl⟩
  have HAY : Hid (anyE (esT ts) e = AY) := hAY
  rw [hAY] at hany
  have HANY : Hid (AY = true ↔ ∃ hc : A 0 < ts.length, cmpE ts[A 0].e e = 0) := hany
  have HCNT : Hid (cntE (esT ts) e = A 0) := hcnt
  have HB2h : Hid (Box4 W w.heap.size (.slice xa nl xc) (.int .u64 s) (.int .u8 k) (.slice ya ml yc)) := B2
  have HSW : Hid (SkAt W l ts) := hSW
  obtain ⟨cc, hcc⟩ : ∃ z, nb l ts (A 0) = z := ⟨_, rfl⟩
  have a0' : W.cell? ⟨ab, 0, none⟩ = some (.pointer (some ⟨cc, 0, none⟩)) := by rw [a0]; show some (Value.pointer (some ⟨nb l ts (A 0), 0, none⟩)) = _; rw [hcc]
  rw [hcc] at n0
  obtain ⟨nx, hnx⟩ : ∃ v, ptrT ((ts[A 0]?).map (·.b)) = v := ⟨_, rfl⟩
  rw [hnx] at n0
  have HNX : Hid (ptrT ((ts[A 0]?).map (·.b)) = nx) := hnx
  have HCC : Hid (nb l ts (A 0) = cc) := hcc
  clear a0 hAY hany hcnt hSW hP0 hnx hcc B2
  go_upto_region 8 with fail
  clear hW a0' n0
  go_cut [42] (fun bv wx => bv = .bool AY ∧ Hid (Below W.heap.size W wx))
  case first =>
    by_cases hlt : A 0 < ts.length
    · obtain ⟨t, ht⟩ : ∃ t, ts[A 0] = t := ⟨_, rfl⟩
      obtain ⟨tq, htq⟩ : ∃ z, t.b = z := ⟨_, rfl⟩
      have hnx : nx = .pointer (some ⟨tq, 0, none⟩) := by rw [← HNX.out, List.getElem?_eq_getElem hlt, ht, ← htq]; rfl
      subst hnx
      have hent := HSW.out.ent t (by rw [← ht]; exact List.getElem_mem hlt)
      obtain ⟨⟨c0, c1, c2, c3⟩, rx, ry⟩ := hent
      obtain ⟨x1, x2, ex⟩ := rx.len
      rw [ex] at c0 rx
      obtain ⟨tn, htn⟩ : ∃ z, t.e.1.length = z := ⟨_, rfl⟩
      obtain ⟨sq, hsq⟩ : ∃ z : Int, (t.e.2.1 : Int) = z := ⟨_, rfl⟩
      obtain ⟨ek, hek⟩ : ∃ z : Int, (t.e.2.2.1.toNat : Int) = z := ⟨_, rfl⟩
      rw [htq] at c0 c1 c2
      rw [htn] at c0 rx
      rw [hsq] at c1
      rw [hek] at c2
      obtain ⟨cr, hcr⟩ : ∃ r, cmpE t.e e = r := ⟨_, rfl⟩
      have hcm := compare_any W.drew (.slice x1 tn x2) (.slice xa nl xc) t.e.1 e.1 sq ek s k cr rx.drew (HX.out.1.below HBW.out (Nat.le_refl _)).drew (by rw [← hcr, ← hsq, ← hek, ← HE.out.1, ← HE.out.2.1]; rfl)
      have HAE : Hid (AY = true ↔ cr = 0) := ⟨fun h => by obtain ⟨_, h2⟩ := HANY.out.1 h; rw [ht, hcr] at h2; exact h2, fun h => HANY.out.2 ⟨hlt, by rw [ht, hcr]; exact h⟩⟩
      obtain ⟨b0, b1, b2, b3⟩ := HB2h.out
      have A0 : Box3 W.drew tq (.slice x1 tn x2) (.int .u64 sq) (.int .u8 ek) := ⟨c0, c1, c2⟩
      have E0 := HB2h.out.drew
      clear rx ry ex htn hsq hek hcr ht htq c3 hlt
      go_region_held3 (fun w' => (w'.cell? ⟨tq, 0, none⟩ = some (.slice x1 tn x2) ∧ w'.cell? ⟨tq, 1, none⟩ = some (.int .u64 sq) ∧ w'.cell? ⟨tq, 2, none⟩ = some (.int .u8 ek)) ∧ (w'.cell? ⟨w.heap.size, 0, none⟩ = some (.slice xa nl xc) ∧ w'.cell? ⟨w.heap.size, 1, none⟩ = some (.int .u64 s) ∧ w'.cell? ⟨w.heap.size, 2, none⟩ = some (.int .u8 k)))
        (first | with_reducible exact ⟨⟨A6.c0, A6.c1, A6.c2⟩, ⟨E6.c0, E6.c1, E6.c2⟩⟩ | exact ⟨⟨A0.c0, A0.c1, A0.c2⟩, ⟨E0.c0, E0.c1, E0.c2⟩⟩)
        (first
          | (go_at_call 81; refine hcm.mono ?_; rintro o w6 ⟨rfl, hb6⟩
             have A6 := A0.below hb6
             have E6 := E0.below hb6 (Nat.le_refl _)
             have HB6 : Hid (Below W.heap.size W w6) := bsplit (Below.refl _ _).drew hb6
             clear hcm hb6)
          | fail)
      go_wp2_with fail
      go_meet
      refine ⟨?_, HB6⟩
      congr 1
      rw [Bool.eq_iff_iff, HAE.out]
      simp
    · have hnx : nx = .pointer none := by rw [← HNX.out, List.getElem?_eq_none (by omega)]; rfl
      subst hnx
      have HF : Hid (AY = false) := by
        show AY = false
        cases ha : AY with
        | false => rfl
        | true => obtain ⟨h1, _⟩ := HANY.out.1 ha; exact absurd h1 hlt
      clear hlt
      go_quiet (fail)
      go_wp2_with fail
      go_meet
      exact ⟨by rw [HF.out], below_drewN (Below.refl _ _) _⟩
  case rest =>
    obtain ⟨rfl, HBX⟩ := hcut
    have HBWX : Hid (Below w.heap.size w wc) := bsplit HBW.out HBX.out
    cases AY with
    | true =>
      go_wp2
      go_ret
      exact .inr (.inl ⟨HC.out, HAY.out, rfl, HBWX.out⟩)
    | false =>
      have hap := skapart_any wc (.slice xa nl xc) (.slice ya ml yc) e.1 e.2.2.2 s k (HX.out.1.below HBWX.out (Nat.le_refl _)) (HX.out.2.below HBWX.out (Nat.le_refl _)) HLL.out.1 HLL.out.2
      obtain ⟨b0, b1, b2, b3⟩ := HB2h.out.below HBX.out (Nat.le_refl _)
      go_wp2_with fail
      refine hap.mono ?_
      rintro o w4 ⟨x, y, rfl, rx, ry, lb, hb4⟩
      obtain ⟨x2, xc2, ex⟩ := rx.1.len
      obtain ⟨y2, yc2, ey⟩ := ry.1.len
      rw [HE.out.2.2.1] at ex
      rw [HE.out.2.2.2] at ey
      subst ex ey
      have HXY : Hid ((Rd w4 (.slice x2 nl xc2) e.1 ∧ From (wc.heap.size + 2) (.slice x2 nl xc2)) ∧ (Rd w4 (.slice y2 ml yc2) e.2.2.2 ∧ From (wc.heap.size + 2) (.slice y2 ml yc2)) ∧ (LtB w4 (.slice x2 nl xc2) ∧ LtB w4 (.slice y2 ml yc2))) := ⟨rx, ry, lb⟩
      have HB4 : Hid (Below w.heap.size w w4) := bsplit HBWX.out hb4
      have hbt := below_box4 w4 (.cells #[.slice x2 nl xc2, .int .u64 s, .int .u8 k, .slice y2 ml yc2, .pointer none, .pointer none, .pointer none, .pointer none, .pointer none, .pointer none, .pointer none, .pointer none] 110)
      have hnw := heap_alloc_new w4 (.cells #[.slice x2 nl xc2, .int .u64 s, .int .u8 k, .slice y2 ml yc2, .pointer none, .pointer none, .pointer none, .pointer none, .pointer none, .pointer none, .pointer none, .pointer none] 110)
      have ht4 : Box4 (w4.alloc (.cells #[.slice x2 nl xc2, .int .u64 s, .int .u8 k, .slice y2 ml yc2, .pointer none, .pointer none, .pointer none, .pointer none, .pointer none, .pointer none, .pointer none, .pointer none] 110)) w4.heap.size (.slice x2 nl xc2) (.int .u64 s) (.int .u8 k) (.slice y2 ml yc2) := by
        have c := fun i => cell_of_row (w4.alloc (.cells #[.slice x2 nl xc2, .int .u64 s, .int .u8 k, .slice y2 ml yc2, .pointer none, .pointer none, .pointer none, .pointer none, .pointer none, .pointer none, .pointer none, .pointer none] 110)) w4.heap.size i _ _ (0, 0) hnw
        exact ⟨(c 0).trans rfl, (c 1).trans rfl, (c 2).trans rfl, (c 3).trans rfl⟩
      have htc : ∀ r, r < 8 → (w4.alloc (.cells #[.slice x2 nl xc2, .int .u64 s, .int .u8 k, .slice y2 ml yc2, .pointer none, .pointer none, .pointer none, .pointer none, .pointer none, .pointer none, .pointer none, .pointer none] 110)).cell? ⟨w4.heap.size, 4 + r, none⟩ = some (.pointer none) := fun r hr => by
        have c := cell_of_row (w4.alloc (.cells #[.slice x2 nl xc2, .int .u64 s, .int .u8 k, .slice y2 ml yc2, .pointer none, .pointer none, .pointer none, .pointer none, .pointer none, .pointer none, .pointer none, .pointer none] 110)) w4.heap.size (4 + r) _ _ (0, 0) hnw
        have : r = 0 ∨ r = 1 ∨ r = 2 ∨ r = 3 ∨ r = 4 ∨ r = 5 ∨ r = 6 ∨ r = 7 := by omega
        rcases this with rfl | rfl | rfl | rfl | rfl | rfl | rfl | rfl <;> exact c.trans rfl
      have htz : ∀ r, r < 8 → (w4.alloc (.cells #[.slice x2 nl xc2, .int .u64 s, .int .u8 k, .slice y2 ml yc2, .pointer none, .pointer none, .pointer none, .pointer none, .pointer none, .pointer none, .pointer none, .pointer none] 110)).frozen? ⟨w4.heap.size, 4 + r, none⟩ = false := fun r hr => frozen_of_row _ w4.heap.size (4 + r) _ _ hnw
      obtain ⟨w5, hw5⟩ : ∃ V, w4.alloc (.cells #[.slice x2 nl xc2, .int .u64 s, .int .u8 k, .slice y2 ml yc2, .pointer none, .pointer none, .pointer none, .pointer none, .pointer none, .pointer none, .pointer none, .pointer none] 110) = V := ⟨_, rfl⟩
      obtain ⟨tb, htb⟩ : ∃ z, w4.heap.size = z := ⟨_, rfl⟩
      rw [hw5] at hbt hnw ht4 htc htz
      rw [htb] at hnw ht4 htc htz
      have HB5 : Hid (Below w.heap.size w w5) := bsplit HB4.out hbt
      have HS5 : Hid (SkAt w5 l ts) := HS.out.below HB5.out
      have HTB : Hid (w.heap.size ≤ tb ∧ ab < tb ∧ (∀ a, a ≤ ts.length → nb l ts a < w.heap.size)) := by
        refine ⟨by rw [← htb]; exact HB4.out.size, ?_, fun a ha => (HS.out.nod a ha).lt⟩
        have := HABN.out.2.2
        have := HBX.out.size
        have := hb4.size
        omega
      have HAR5 : Hid (∀ r, r < 8 → w5.cell? ⟨ab, r, none⟩ = some (ndP l ts (A r))) := fun r hr => (((HAR.out.below HBX.out).below hb4).below hbt).cel r hr
      have HI0 : Hid (InsI w5 w5 l tb ts A 0) := ⟨Keeps.refl _ _, fun a ha r hr => by rw [if_neg (by omega)], fun a ha r hr => (HS5.out.nod a ha).frz r hr, fun a ha i hi => rfl, fun a ha => (HS5.out.nod a ha).blk, fun r hr => by rw [if_neg (by omega)]; exact htc r hr, htz, fun i hi => rfl, ⟨_, _, hnw⟩⟩
      have HT4 : Hid (Box4 w5 tb (.slice x2 nl xc2) (.int .u64 s) (.int .u8 k) (.slice y2 ml yc2)) := ht4
      have HXY5 : Hid (Rd w5 (.slice x2 nl xc2) e.1 ∧ Rd w5 (.slice y2 ml yc2) e.2.2.2 ∧ LtB w5 (.slice x2 nl xc2) ∧ LtB w5 (.slice y2 ml yc2)) := ⟨rx.1.below hbt (Nat.le_refl _), ry.1.below hbt (Nat.le_refl _), lb.1.grow hbt.size, lb.2.grow hbt.size⟩
      have HTL : Hid (w4.heap.size = tb) := htb
      obtain ⟨hh1, hh8⟩ := chkSk_ok HC.out
      obtain ⟨hn, rfl⟩ : ∃ n : Nat, hh = (n : Int) := ⟨hh.toNat, by omega⟩
      have hn8 : hn ≤ 8 := by omega
      have hn1 : 1 ≤ hn := by omega
      clear hap hb4 rx ry lb hbt hnw ht4 htc htz b0 b1 b2 b3
      go_wp2_with fail
      clear hw5 htb
      go_loopg [48] hn (fun gk iv wr => ∃ j : Nat, gk + j = hn ∧ iv = .int .i64 (j : Int) ∧ Hid (InsI w5 wr l tb ts A j))
      case atStart => exact ⟨0, by omega, rfl, HI0⟩
      case round =>
        obtain ⟨j, hj, rfl, HI⟩ := hrel
        by_cases hlt : j < hn
        · obtain ⟨q1, q2⟩ := gk_nxt hj hlt
          have hPj := HA.out j (by omega)
          have a1 : wr.cell? ⟨ab, j, none⟩ = some (ndP l ts (A j)) := HI.out.kp.cell (p := ⟨ab, j, none⟩) (by
            rintro (⟨a, ha, he⟩ | he)
            · have h1 := HTB.out.2.2 a ha
              have h2 := HABN.out.2.1
              have : ab = nb l ts a := he
              omega
            · have h1 := HTB.out.2.1
              have : ab = tb := he
              omega) (HAR5.out j (by omega))
          have hc5 := (HS5.out.nod (A j) hPj.le).cel j (by omega)
          rw [if_pos hPj.hi] at hc5
          have n1 := HI.out.nc (A j) hPj.le j (by omega)
          rw [if_neg (by omega), hc5] at n1
          have z1 := HI.out.nz (A j) hPj.le j (by omega)
          have t1 := HI.out.tc j (by omega)
          rw [if_neg (by omega)] at t1
          have y1 := HI.out.tz j (by omega)
          have HST : Hid (InsI w5 ((wr.setCell ⟨tb, 4 + j, none⟩ (ptrT (fstT (ts.drop (A j)) j))).setCell ⟨nb l ts (A j), 4 + j, none⟩ (ptrT (some tb))) l tb ts A (j + 1)) := HI.out.step HS5.out (by omega) hPj.le (fun a ha e => by have h1 := HTB.out.2.2 a ha; have h2 := HTB.out.1; omega) hc5
          have e1 : ¬ ab = tb := by have := HTB.out.2.1; omega
          have e2 : ¬ nb l ts (A j) = tb := by have h1 := HTB.out.2.2 (A j) hPj.le; have h2 := HTB.out.1; omega
          obtain ⟨na, hna⟩ : ∃ z, nb l ts (A j) = z := ⟨_, rfl⟩
          have a1' : wr.cell? ⟨ab, j, none⟩ = some (.pointer (some ⟨na, 0, none⟩)) := by rw [a1, ← hna]
          rw [hna] at n1 z1 HST e2
          have j0 : (0 : Int) ≤ (j : Int) := by omega
          have j8 : (j : Int) < 8 := by omega
          have jn : (j : Int) < (hn : Int) := by omega
          clear a1 hc5 hPj hna
          cases hfs : fstT (ts.drop (A j)) j with
          | none =>
            rw [hfs] at n1 HST
            simp only [ptrT] at n1 HST
            clear hfs
            go_wp2_with fail
            go_region
            go_wp2_with fail
            go_roundg (gk - 1)
            case measure => exact q1
            case rel => exact ⟨j + 1, q2, by go_num, HST.out.drew⟩
          | some fb =>
            rw [hfs] at n1 HST
            simp only [ptrT] at n1 HST
            clear hfs
            go_wp2_with fail
            go_region
            go_wp2_with fail
            go_roundg (gk - 1)
            case measure => exact q1
            case rel => exact ⟨j + 1, q2, by go_num, HST.out.drew⟩
        · have hjn : j = hn := by omega
          subst hjn
          have hni : ¬ (j : Int) < (j : Int) := by omega
          have HFIN : Hid (SkAt wr l (insT ts (A 0) ⟨tb, .slice x2 nl xc2, .slice y2 ml yc2, e, j⟩)) := by
            have kp := HI.out.kp
            have hnode : ∀ a, a ≤ ts.length → tb ≠ nb l ts a := fun a ha e => by have h1 := HTB.out.2.2 a ha; have h2 := HTB.out.1; omega
            have hfx : ∀ {v : Value}, From (wc.heap.size + 2) v → ∀ a, a ≤ ts.length → ∀ q, v.ownBlock = some q → q ≠ nb l ts a := fun {v} hf a ha => from_ne hf (by have h1 := HTB.out.2.2 a ha; have h2 := HBWX.out.size; omega)
            have hlx : ∀ {v : Value}, LtB w4 v → ∀ q, v.ownBlock = some q → q ≠ tb := fun {v} hv q hq e => by have h1 := hv q hq; rw [HTL.out] at h1; omega
            have hrd : ∀ {v : Value} {lst : List UInt8}, Rd w5 v lst → From (wc.heap.size + 2) v → LtB w4 v → Rd wr v lst := fun {v lst} hr hf hv => by
              rcases hr with hr | ⟨b, off, cap, rfl, k1, k2, k3⟩
              · exact .inl hr
              · refine .inr ⟨b, off, cap, rfl, k1, k2, fun i u hu => kp.cell (p := ⟨b, off + i, none⟩) ?_ (k3 i u hu)⟩
                rintro (⟨a, ha, he⟩ | he)
                · exact hfx hf a ha b rfl he
                · exact hlx hv b rfl he
            refine sk_insert (T := ⟨tb, .slice x2 nl xc2, .slice y2 ml yc2, e, j⟩) HS5.out HA.out ⟨hn1, hn8⟩ hnode kp HI.out.nc HI.out.nz HI.out.nk HI.out.tk (fun t ht i hi => ?_) HI.out.tc HI.out.tz ⟨⟨?_, ?_, ?_, ?_⟩, hrd HXY5.out.1 HXY.out.1.2 HXY.out.2.2.1, hrd HXY5.out.2.1 HXY.out.2.1.2 HXY.out.2.2.2⟩ (fun a ha => ⟨hfx HXY.out.1.2 a ha, hfx HXY.out.2.1.2 a ha⟩) ⟨hlx HXY.out.2.2.1, hlx HXY.out.2.2.2⟩ (fun t ht => ?_) ⟨HXY5.out.2.2.1.grow kp.size, HXY5.out.2.2.2.grow kp.size⟩ HAY.out HLEN.out
            · obtain ⟨i0, hi0, rfl⟩ := List.getElem_of_mem ht
              have h1 := HI.out.ne (i0 + 1) (by omega) i hi
              rw [nb_succ l hi0] at h1
              exact h1
            · show wr.cell? ⟨tb, 0, none⟩ = _; rw [HI.out.te 0 (by omega)]; exact HT4.out.c0
            · show wr.cell? ⟨tb, 1, none⟩ = some (.int .u64 (e.2.1 : Int)); rw [HI.out.te 1 (by omega), HE.out.1]; exact HT4.out.c1
            · show wr.cell? ⟨tb, 2, none⟩ = some (.int .u8 (e.2.2.1.toNat : Int)); rw [HI.out.te 2 (by omega), HE.out.2.1]; exact HT4.out.c2
            · show wr.cell? ⟨tb, 3, none⟩ = _; rw [HI.out.te 3 (by omega)]; exact HT4.out.c3
            · have h1 := HS.out.inn t ht
              exact ⟨fun q hq e => by have h2 := h1.1 q hq; have h3 := HTB.out.1; have e' : q = tb := e; omega, fun q hq e => by have h2 := h1.2 q hq; have h3 := HTB.out.1; have e' : q = tb := e; omega⟩
          have HKP : Hid (Keeps (fun i => ∃ a, a ≤ ts.length ∧ i = nb l ts a) w wr) := by
            have kp := HI.out.kp
            refine ⟨kp.os.trans HB5.out.os, kp.tape.trans HB5.out.tape, kp.output.trans HB5.out.output, Nat.le_trans HB5.out.size kp.size, fun i hi hno => ?_⟩
            rw [kp.block i (Nat.lt_of_lt_of_le hi HB5.out.size) (fun h => by
              rcases h with h | h
              · exact hno h
              · have h3 := HTB.out.1; omega)]
            exact HB5.out.block i hi
          go_wp2
          go_ret
          exact .inr (.inr ⟨HC.out, HAY.out, rfl, ⟨tb, .slice x2 nl xc2, .slice y2 ml yc2, e, j⟩, rfl, rfl, ⟨HTB.out.1, fun a n c e => by have h1 := HXY.out.1.2 a n c e; have h2 := HBWX.out.size; omega, fun a n c e => by have h1 := HXY.out.2.1.2 a n c e; have h2 := HBWX.out.size; omega⟩, by rw [HCNT.out]; exact HFIN.out, HKP.out⟩)

theorem skinsert_any (w : World) (l : Nat) (ts : List Tow) (xv yv : Value) (e : EnB) (hh : Int) (hS : SkAt w l ts) (hx : Rd w xv e.1) (hy : Rd w yv e.2.2.2) (hl1 : e.1.length ≤ 1000000) (hl2 : e.2.2.2.length ≤ 1000000) (hlen : ts.length + 1 ≤ 4000) :
    Calls Try.prog 70 #[.pointer (some ⟨l, 0, none⟩), enV xv (e.2.1 : Int) (e.2.2.1.toNat : Int) yv, .int .i64 hh] w fun o w' => InsPost l ts e hh w w' o :=
  (skinsert_own w l ts xv yv e hh hS hx hy hl1 hl2 hlen).mono (fun _ _ h => h.post)

end Go.Proofs.Ythcoblmfmbmdkaa
