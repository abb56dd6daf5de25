/- (*skip.List).ahead. -/
import Derived.Test.YthcoblmfmbmdkaaSkIns
import Derived.Test.YthcoblmfmbmdkaaKeyCmp
import Derived.Test.YthcoblmfmbmdkaaSmall
import Derived.BigQuiet
import Derived.Deep.RegionHeld3
import Derived.Deep.DeepCutAuto
import Derived.Deep.LoopGhost
namespace Go.Proofs.Ythcoblmfmbmdkaa
set_option maxRecDepth 20000
open Go.RowKit
set_option linter.unusedVariables false
set_option linter.unusedSimpArgs false

/-- a pointer to a place's tower -/
abbrev ndP (l : Nat) (ts : List Tow) (a : Nat) : Value := .pointer (some ⟨nb l ts a, 0, none⟩)

/-- eight cells, that may be written -/
structure Arr8 (w : World) (b : Nat) (V : Nat → Value) : Prop where
  cel : ∀ r, r < 8 → w.cell? ⟨b, r, none⟩ = some (V r)
  frz : ∀ r, r < 8 → w.frozen? ⟨b, r, none⟩ = false

theorem Arr8.lt {w : World} {b : Nat} {V : Nat → Value} (h : Arr8 w b V) : b < w.heap.size := World.block_lt_of_cell? w _ (h.cel 0 (by omega))

theorem Arr8.below {w w' : World} {b : Nat} {V : Nat → Value} (h : Arr8 w b V) (hb : Below w.heap.size w w') : Arr8 w' b V :=
  ⟨fun r hr => (hb.cell (p := ⟨b, r, none⟩) h.lt).trans (h.cel r hr), fun r hr => by rw [hb.frozen (p := ⟨b, r, none⟩) h.lt]; exact h.frz r hr⟩

theorem arr8_new (w : World) (t : TypeId) : Arr8 (w.alloc (.cells #[.pointer none, .pointer none, .pointer none, .pointer none, .pointer none, .pointer none, .pointer none, .pointer none] t)) w.heap.size (fun _ => .pointer none) := by
  have h := heap_alloc_new w (.cells #[.pointer none, .pointer none, .pointer none, .pointer none, .pointer none, .pointer none, .pointer none, .pointer none] t)
  refine ⟨fun r hr => ?_, fun r hr => ?_⟩
  · have c := cell_of_row (w.alloc (.cells #[.pointer none, .pointer none, .pointer none, .pointer none, .pointer none, .pointer none, .pointer none, .pointer none] t)) w.heap.size r _ t (0, 0) h
    have : r = 0 ∨ r = 1 ∨ r = 2 ∨ r = 3 ∨ r = 4 ∨ r = 5 ∨ r = 6 ∨ r = 7 := by omega
    rcases this with rfl | rfl | rfl | rfl | rfl | rfl | rfl | rfl <;> exact c.trans rfl
  · exact frozen_of_row (w.alloc (.cells #[.pointer none, .pointer none, .pointer none, .pointer none, .pointer none, .pointer none, .pointer none, .pointer none] t)) w.heap.size r _ t h

theorem Arr8.store {w : World} {b : Nat} {V : Nat → Value} (h : Arr8 w b V) {i : Nat} (hi : i < 8) (u : Value) : Arr8 (w.setCell ⟨b, i, none⟩ u) b (fun r => if r = i then u else V r) := by
  refine ⟨fun r hr => ?_, fun r hr => by rw [World.frozen?_setCell]; exact h.frz r hr⟩
  by_cases e : r = i
  · subst e
    simp only [if_true]
    simp [go_sem, h.cel r hr]
  · simp only [e, if_false]
    have : (w.setCell ⟨b, i, none⟩ u).cell? ⟨b, r, none⟩ = w.cell? ⟨b, r, none⟩ := by
      simp [go_sem, h.cel i hi, e]
    rw [this]
    exact h.cel r hr

/-- where the loop over the rows has come to: j rows are left -/
structure AhI (w wr : World) (l : Nat) (ts : List Tow) (K : EnB) (ka : Option Addr) (kn kc : Nat) (ks kk : Int) (A : Nat → Nat) (a j : Nat) : Prop where
  be : Below w.heap.size w wr
  bk : Box wr w.heap.size (.slice ka kn kc) (.int .u64 ks) (.int .u8 kk)
  br : Arr8 wr (w.heap.size + 1) (fun _ => .pointer none)
  bp : Arr8 wr (w.heap.size + 2) (fun r => if j ≤ r then ndP l ts (A r) else .pointer none)
  ok : ∀ r, r < 8 → j ≤ r → PredT ts K r (A r)
  le : a ≤ ts.length
  lt : ∀ i (h : i < ts.length), i < a → ltE ts[i].e K = true
  hi : j ≤ nh ts a

theorem lt_pre {ts : List Tow} {K : EnB} (hr : riseB (ts.map (·.e)) = true) {j : Nat} (hj : j < ts.length) (h : ltE ts[j].e K = true) : ∀ i (hi : i < ts.length), i < j + 1 → ltE ts[i].e K = true := fun i hi hij => by
  have h9 := ahead_lt (es := esT ts) hr (K := K) (i := i) (j := j) (by rw [esT_len]; exact hj) (by omega) (by rw [esT_get hj]; exact h)
  rwa [esT_get hi] at h9

theorem no_suf {ts : List Tow} {K : EnB} (hr : riseB (ts.map (·.e)) = true) {j : Nat} (hj : j < ts.length) (h : ltE ts[j].e K = false) : ∀ i (hi : i < ts.length), j ≤ i → ltE ts[i].e K = false := fun i hi hij => by
  have h9 := behind_ge (es := esT ts) hr (K := K) (i := j) (j := i) (by rw [esT_len]; exact hi) hij (by rw [esT_get hj]; exact h)
  rwa [esT_get hi] at h9

/-- the cells that a step looks at: the place's pointer in the row, the next one's version, the version asked for -/
structure StpK (w : World) (b h tb kb : Nat) (tp v0 v1 v2 k0 k1 k2 : Value) : Prop where
  p : w.cell? ⟨b, 4 + h, none⟩ = some tp
  a0 : w.cell? ⟨tb, 0, none⟩ = some v0
  a1 : w.cell? ⟨tb, 1, none⟩ = some v1
  a2 : w.cell? ⟨tb, 2, none⟩ = some v2
  b0 : w.cell? ⟨kb, 0, none⟩ = some k0
  b1 : w.cell? ⟨kb, 1, none⟩ = some k1
  b2 : w.cell? ⟨kb, 2, none⟩ = some k2

theorem StpK.below {w w' : World} {b h tb kb : Nat} {tp v0 v1 v2 k0 k1 k2 : Value} (s : StpK w b h tb kb tp v0 v1 v2 k0 k1 k2) (hb : Below w.heap.size w w') : StpK w' b h tb kb tp v0 v1 v2 k0 k1 k2 :=
  ⟨(hb.cell (World.block_lt_of_cell? w _ s.p)).trans s.p, (hb.cell (World.block_lt_of_cell? w _ s.a0)).trans s.a0, (hb.cell (World.block_lt_of_cell? w _ s.a1)).trans s.a1, (hb.cell (World.block_lt_of_cell? w _ s.a2)).trans s.a2, (hb.cell (World.block_lt_of_cell? w _ s.b0)).trans s.b0, (hb.cell (World.block_lt_of_cell? w _ s.b1)).trans s.b1, (hb.cell (World.block_lt_of_cell? w _ s.b2)).trans s.b2⟩

theorem below_store8 {B : Nat} {a w : World} (h : Below B a w) {b : Nat} (hb : B ≤ b) (u0 u1 u2 u3 u4 u5 u6 u7 : Value) : Below B a ((((((((w.setCell ⟨b, 0, none⟩ u0).setCell ⟨b, 1, none⟩ u1).setCell ⟨b, 2, none⟩ u2).setCell ⟨b, 3, none⟩ u3).setCell ⟨b, 4, none⟩ u4).setCell ⟨b, 5, none⟩ u5).setCell ⟨b, 6, none⟩ u6).setCell ⟨b, 7, none⟩ u7) :=
  (((((((h.setCell (p := ⟨b, 0, none⟩) hb u0).setCell (p := ⟨b, 1, none⟩) hb u1).setCell (p := ⟨b, 2, none⟩) hb u2).setCell (p := ⟨b, 3, none⟩) hb u3).setCell (p := ⟨b, 4, none⟩) hb u4).setCell (p := ⟨b, 5, none⟩) hb u5).setCell (p := ⟨b, 6, none⟩) hb u6).setCell (p := ⟨b, 7, none⟩) hb u7

theorem Arr8.other {w : World} {b b' : Nat} {V : Nat → Value} (h : Arr8 w b V) (hne : b ≠ b') (i : Nat) (u : Value) : Arr8 (w.setCell ⟨b', i, none⟩ u) b V :=
  ⟨fun r hr => by rw [cell_other w ⟨b', i, none⟩ ⟨b, r, none⟩ u hne]; exact h.cel r hr, fun r hr => by rw [World.frozen?_setCell]; exact h.frz r hr⟩

/-- one row more is done -/
theorem AhI.next {w wr w2 : World} {l : Nat} {ts : List Tow} {K : EnB} {ka : Option Addr} {kn kc : Nat} {ks kk : Int} {A : Nat → Nat} {a h a' : Nat} (I : AhI w wr l ts K ka kn kc ks kk A a (h + 1)) (hb : Below wr.heap.size wr w2) (hP : PredT ts K h a') (h8 : h < 8) : AhI w (w2.setCell ⟨w.heap.size + 2, h, none⟩ (ndP l ts a')) l ts K ka kn kc ks kk (fun r => if r = h then a' else A r) a' h := by
  have bp := (I.bp.below hb).store h8 (ndP l ts a')
  refine ⟨(bsplit I.be hb).setCell (p := ⟨w.heap.size + 2, h, none⟩) (by show w.heap.size ≤ w.heap.size + 2; omega) _, (I.bk.below hb (Nat.le_refl _)).other ⟨w.heap.size + 2, h, none⟩ (by show w.heap.size ≠ w.heap.size + 2; omega) _, (I.br.below hb).other (by omega) _ _, ⟨fun r hr => ?_, bp.frz⟩, fun r hr hhr => ?_, hP.le, hP.lt, Nat.le_of_lt hP.hi⟩
  · rw [bp.cel r hr]
    by_cases e : r = h
    · subst e; simp
    · simp only [e, if_false]
      by_cases h2 : h ≤ r
      · rw [if_pos h2, if_pos (by omega)]
      · rw [if_neg h2, if_neg (by omega)]
  · by_cases e : r = h
    · subst e; simp only [if_true]; exact hP
    · simp only [e, if_false]; exact I.ok r hr (by omega)

set_option maxHeartbeats 8000000 in
theorem ahead_any (w : World) (l : Nat) (ts : List Tow) (kv : Value) (K : EnB) (hS : SkAt w l ts) (hk : Rd w kv K.1) :
    Calls Try.prog 75 #[.pointer (some ⟨l, 0, none⟩), .agg #[kv, .int .u64 (K.2.1 : Int), .int .u8 (K.2.2.1.toNat : Int)]] w fun e w' => ∃ A : Nat → Nat, e = .returned (.agg #[ndP l ts (A 0), ndP l ts (A 1), ndP l ts (A 2), ndP l ts (A 3), ndP l ts (A 4), ndP l ts (A 5), ndP l ts (A 6), ndP l ts (A 7)]) ∧ (∀ r, r < 8 → PredT ts K r (A r)) ∧ Below w.heap.size w w' := by
  have HS : Hid (SkAt w l ts) := hS
  obtain ⟨ka, kc, rfl⟩ := hk.len
  obtain ⟨kn, hkn⟩ : ∃ n, K.1.length = n := ⟨_, rfl⟩
  obtain ⟨ks, hks⟩ : ∃ z : Int, (K.2.1 : Int) = z := ⟨_, rfl⟩
  obtain ⟨kk, hkk⟩ : ∃ z : Int, (K.2.2.1.toNat : Int) = z := ⟨_, rfl⟩
  have HKS : Hid ((K.2.1 : Int) = ks ∧ (K.2.2.1.toNat : Int) = kk) := ⟨hks, hkk⟩
  rw [hkn] at hk ⊢
  rw [hks, hkk]
  have HK : Hid (Rd w (.slice ka kn kc) K.1) := hk
  have hb0 := below_box w #[.slice ka kn kc, .int .u64 ks, .int .u8 kk] 42
  have hb1 := below_box4 (w.alloc (.cells #[.slice ka kn kc, .int .u64 ks, .int .u8 kk] 42)) (.cells #[.pointer none, .pointer none, .pointer none, .pointer none, .pointer none, .pointer none, .pointer none, .pointer none] 108)
  have hb2 := below_box4 ((w.alloc (.cells #[.slice ka kn kc, .int .u64 ks, .int .u8 kk] 42)).alloc (.cells #[.pointer none, .pointer none, .pointer none, .pointer none, .pointer none, .pointer none, .pointer none, .pointer none] 108)) (.cells #[.pointer none, .pointer none, .pointer none, .pointer none, .pointer none, .pointer none, .pointer none, .pointer none] 108)
  have s1 : (w.alloc (.cells #[.slice ka kn kc, .int .u64 ks, .int .u8 kk] 42)).heap.size = w.heap.size + 1 := by simp
  have s2 : ((w.alloc (.cells #[.slice ka kn kc, .int .u64 ks, .int .u8 kk] 42)).alloc (.cells #[.pointer none, .pointer none, .pointer none, .pointer none, .pointer none, .pointer none, .pointer none, .pointer none] 108)).heap.size = w.heap.size + 2 := by simp
  have BK := ((box_new w (.slice ka kn kc) (.int .u64 ks) (.int .u8 kk) 42).below hb1 (Nat.le_refl _)).below hb2 (Nat.le_refl _)
  have BR := (arr8_new (w.alloc (.cells #[.slice ka kn kc, .int .u64 ks, .int .u8 kk] 42)) 108).below hb2
  have BP := arr8_new ((w.alloc (.cells #[.slice ka kn kc, .int .u64 ks, .int .u8 kk] 42)).alloc (.cells #[.pointer none, .pointer none, .pointer none, .pointer none, .pointer none, .pointer none, .pointer none, .pointer none] 108)) 108
  rw [s1] at BR
  rw [s2] at BP
  obtain ⟨w1, hw1⟩ : ∃ W, ((w.alloc (.cells #[.slice ka kn kc, .int .u64 ks, .int .u8 kk] 42)).alloc (.cells #[.pointer none, .pointer none, .pointer none, .pointer none, .pointer none, .pointer none, .pointer none, .pointer none] 108)).alloc (.cells #[.pointer none, .pointer none, .pointer none, .pointer none, .pointer none, .pointer none, .pointer none, .pointer none] 108) = W := ⟨_, rfl⟩
  have hB1 := bsplit (bsplit hb0 hb1) hb2
  rw [hw1] at BK BR BP hB1
  have HI0 : Hid (AhI w w1 l ts K ka kn kc ks kk (fun _ => 0) 0 8) := ⟨hB1, BK, BR, ⟨fun r hr => by simp only [show ¬ 8 ≤ r by omega, if_false]; exact BP.cel r hr, BP.frz⟩, fun r h1 h2 => by omega, Nat.zero_le _, fun i h h2 => absurd h2 (Nat.not_lt_zero _), Nat.le_refl _⟩
  obtain ⟨n, hn⟩ : ∃ n, ts.length = n := ⟨_, rfl⟩
  have HN : Hid (ts.length = n) := hn
  clear hk hkn hks hkk hb0 hb1 hb2 s1 s2 BK BR BP hB1 hS hn
  go_enter Try.func75, Try.ntmps75
  go_wp2_with fail
  clear hw1
  go_loopg [6, 7] 8 (fun gk av hv wr => ∃ (j a : Nat) (A : Nat → Nat), j = gk ∧ av = ndP l ts a ∧ hv = .int .i64 ((j : Int) - 1) ∧ j ≤ 8 ∧ Hid (AhI w wr l ts K ka kn kc ks kk A a j))
  case atStart => exact ⟨8, 0, fun _ => 0, rfl, rfl, rfl, Nat.le_refl _, HI0⟩
  case round =>
    obtain ⟨j, a, A, hgj, rfl, rfl, hj8, HI⟩ := hrel
    subst hgj
    by_cases hj0 : j = 0
    · subst hj0
      have p0 := HI.out.bp.cel 0 (by decide)
      have r0 := HI.out.br.cel 0 (by decide)
      have f0 := HI.out.br.frz 0 (by decide)
      have p1 := HI.out.bp.cel 1 (by decide)
      have r1 := HI.out.br.cel 1 (by decide)
      have f1 := HI.out.br.frz 1 (by decide)
      have p2 := HI.out.bp.cel 2 (by decide)
      have r2 := HI.out.br.cel 2 (by decide)
      have f2 := HI.out.br.frz 2 (by decide)
      have p3 := HI.out.bp.cel 3 (by decide)
      have r3 := HI.out.br.cel 3 (by decide)
      have f3 := HI.out.br.frz 3 (by decide)
      have p4 := HI.out.bp.cel 4 (by decide)
      have r4 := HI.out.br.cel 4 (by decide)
      have f4 := HI.out.br.frz 4 (by decide)
      have p5 := HI.out.bp.cel 5 (by decide)
      have r5 := HI.out.br.cel 5 (by decide)
      have f5 := HI.out.br.frz 5 (by decide)
      have p6 := HI.out.bp.cel 6 (by decide)
      have r6 := HI.out.br.cel 6 (by decide)
      have f6 := HI.out.br.frz 6 (by decide)
      have p7 := HI.out.bp.cel 7 (by decide)
      have r7 := HI.out.br.cel 7 (by decide)
      have f7 := HI.out.br.frz 7 (by decide)
      simp only [Nat.zero_le, if_true] at p0 p1 p2 p3 p4 p5 p6 p7
      have HBE : Hid (Below w.heap.size w wr) := HI.out.be
      have HOK : Hid (∀ r, r < 8 → PredT ts K r (A r)) := fun r hr => HI.out.ok r hr (Nat.zero_le _)
      go_wp2
      refine bodyPost_ret (v := .agg #[ndP l ts (A 0), ndP l ts (A 1), ndP l ts (A 2), ndP l ts (A 3), ndP l ts (A 4), ndP l ts (A 5), ndP l ts (A 6), ndP l ts (A 7)]) (by simp [results, Try.results75, go_sem, r0, r1, r2, r3, r4, r5, r6, r7]) rfl ⟨A, rfl, HOK.out, below_store8 HBE.out (by omega) _ _ _ _ _ _ _ _⟩
    · obtain ⟨h, rfl⟩ : ∃ h, j = h + 1 := ⟨j - 1, by omega⟩
      have hIv : ((h + 1 : Nat) : Int) - 1 = (h : Int) := by omega
      rw [hIv]
      have h0I : (0 : Int) ≤ (h : Int) := by omega
      have h8I : (h : Int) < 8 := by omega
      clear hIv
      go_wp2_with fail
      obtain ⟨wo, hwo⟩ : ∃ W, W = wr := ⟨_, rfl⟩
      subst hwo
      go_loopg [6] (n - a) (fun gk av wr => ∃ a' : Nat, gk + a' = n ∧ av = ndP l ts a' ∧ Hid (∀ i (hi : i < ts.length), i < a' → ltE ts[i].e K = true) ∧ Hid (h < nh ts a') ∧ Hid (Below wo.heap.size wo wr))
      case atStart => exact ⟨a, by have := HI.out.le; rw [HN.out] at this; omega, rfl, HI.out.lt, HI.out.hi, Below.refl _ _⟩
      case round =>
        obtain ⟨a', hga, rfl, HLT, HH, HB⟩ := hrel
        have hS2 := HS.out.below (bsplit HI.out.be HB.out)
        have han : a' ≤ ts.length := by rw [HN.out]; omega
        have hcel := (hS2.nod a' han).cel h (by omega)
        rw [if_pos HH.out] at hcel
        have bp9 := (HI.out.bp.below HB.out).cel h (by omega)
        have fp9 := (HI.out.bp.below HB.out).frz h (by omega)
        simp only [show ¬ h + 1 ≤ h by omega, if_false] at bp9
        rcases fst_drop ts a' h with ⟨hf, hno⟩ | ⟨jj, hjj, haj, hjh, hf, hno⟩
        · rw [hf] at hcel
          simp only [ptrT] at hcel
          have HPR : Hid (PredT ts K h a') := ⟨han, HLT.out, HH.out, fun i hi hai hr => absurd hr (hno i hi hai)⟩
          clear hf hno hS2 han
          go_wp2_with fail
          go_quiet (fail)
          have BEL : Below wo.heap.size wo (wr.drewN nq) := below_drewN HB.out _
          go_wp2_with fail
          go_roundg h
          case measure => exact Nat.lt_succ_self h
          case rel => exact ⟨h, a', fun r => if r = h then a' else A r, rfl, rfl, rfl, by omega, HI.out.next BEL HPR.out (by omega)⟩
        · rw [hf] at hcel
          simp only [ptrT] at hcel
          obtain ⟨t, ht⟩ : ∃ t, ts[jj] = t := ⟨_, rfl⟩
          have hent := hS2.ent ts[jj] (List.getElem_mem hjj)
          rw [ht] at hcel hent
          have hent2 := hent
          obtain ⟨⟨c0, c1, c2, c3⟩, rx, ry⟩ := hent2
          obtain ⟨x1, x2, ex⟩ := rx.len
          rw [ex] at c0 rx
          obtain ⟨tb, htb⟩ : ∃ z, t.b = z := ⟨_, rfl⟩
          obtain ⟨nl, hnl⟩ : ∃ z, t.e.1.length = z := ⟨_, rfl⟩
          obtain ⟨sq, hsq⟩ : ∃ z : Int, (t.e.2.1 : Int) = z := ⟨_, rfl⟩
          obtain ⟨ek, hek⟩ : ∃ z : Int, (t.e.2.2.1.toNat : Int) = z := ⟨_, rfl⟩
          rw [htb] at hcel c0 c1 c2
          rw [hnl] at c0 rx
          rw [hsq] at c1
          rw [hek] at c2
          obtain ⟨cr, hcr⟩ : ∃ r, cmpE t.e K = r := ⟨_, rfl⟩
          have hcm := compare_any wr.drew (.slice x1 nl x2) (.slice ka kn kc) t.e.1 K.1 sq ek ks kk cr rx.drew (HK.out.below (bsplit HI.out.be HB.out) (Nat.le_refl _)).drew (by rw [← hcr, ← hsq, ← hek, ← HKS.out.1, ← HKS.out.2]; rfl)
          have BKr := HI.out.bk.below HB.out (Nat.le_refl _)
          have T0 : StpK wr.drew (nb l ts a') h tb w.heap.size (.pointer (some ⟨tb, 0, none⟩)) (.slice x1 nl x2) (.int .u64 sq) (.int .u8 ek) (.slice ka kn kc) (.int .u64 ks) (.int .u8 kk) := ⟨hcel, c0, c1, c2, BKr.c0, BKr.c1, BKr.c2⟩
          obtain ⟨d0, d1, d2, _⟩ := BKr
          have HTB : Hid (nb l ts (jj + 1) = tb ∧ nh ts (jj + 1) = t.h) := ⟨by rw [nb_succ l hjj, ht]; exact htb, by rw [nh_succ hjj, ht]⟩
          have HJH : Hid (h < t.h) := by rw [ht] at hjh; exact hjh
          have HJ : Hid (jj < ts.length ∧ a' ≤ jj) := ⟨hjj, haj⟩
          by_cases hlt : cr < 0
          · have hltE : ltE ts[jj].e K = true := by rw [ht]; exact decide_eq_true (by rw [hcr]; exact hlt)
            have HLT2 : Hid (∀ i (hi : i < ts.length), i < jj + 1 → ltE ts[i].e K = true) := lt_pre HS.out.ris hjj hltE
            have q1 : n - (jj + 1) < gk := by rw [HN.out] at hjj; omega
            have q2 : n - (jj + 1) + (jj + 1) = n := by rw [HN.out] at hjj; omega
            have HH2 : Hid (h < nh ts (jj + 1)) := by show h < _; rw [HTB.out.2]; exact HJH.out
            clear hf hno hS2 han rx ry hent ex htb hnl hsq hek hcr ht c3 bp9 fp9 hltE hjh
            go_wp2_with fail
            go_region_held3 (fun w' => w'.cell? ⟨nb l ts a', 4 + h, none⟩ = some (.pointer (some ⟨tb, 0, none⟩)) ∧ (w'.cell? ⟨tb, 0, none⟩ = some (.slice x1 nl x2) ∧ w'.cell? ⟨tb, 1, none⟩ = some (.int .u64 sq) ∧ w'.cell? ⟨tb, 2, none⟩ = some (.int .u8 ek)) ∧ (w'.cell? ⟨w.heap.size, 0, none⟩ = some (.slice ka kn kc) ∧ w'.cell? ⟨w.heap.size, 1, none⟩ = some (.int .u64 ks) ∧ w'.cell? ⟨w.heap.size, 2, none⟩ = some (.int .u8 kk)))
              (first | with_reducible exact ⟨T6.p, ⟨T6.a0, T6.a1, T6.a2⟩, ⟨T6.b0, T6.b1, T6.b2⟩⟩ | exact ⟨T0.p, ⟨T0.a0, T0.a1, T0.a2⟩, ⟨T0.b0, T0.b1, T0.b2⟩⟩)
              (first
                | (go_at_call 81; refine hcm.mono ?_; rintro e w6 ⟨rfl, hb6⟩
                   have T6 := T0.below hb6
                   have HB6 : Hid (Below wo.heap.size wo w6) := bsplit HB.out.drew hb6
                   clear hcm hb6)
                | fail)
            clear T0 d0 d1 d2 c0 c1 c2 hcel
            have e9 := T6.p
            go_wp2_with fail
            go_roundg (n - (jj + 1))
            case measure => exact q1
            case rel => exact ⟨jj + 1, q2, by show _ = Value.pointer (some ⟨nb l ts (jj + 1), 0, none⟩); rw [HTB.out.1], HLT2, HH2, HB6⟩
          · have hltE : ltE ts[jj].e K = false := by rw [ht]; exact decide_eq_false (by rw [hcr]; exact hlt)
            have HPR : Hid (PredT ts K h a') := ⟨han, HLT.out, HH.out, fun i hi hai hr => by
              by_cases hij : i < jj
              · exact absurd hr (hno i hi hai hij)
              · exact no_suf HS.out.ris hjj hltE i hi (by omega)⟩
            clear hf hno hS2 han rx ry hent ex htb hnl hsq hek hcr ht c3 hltE hjh bp9 fp9
            go_wp2_with fail
            go_region_held3 (fun w' => w'.cell? ⟨nb l ts a', 4 + h, none⟩ = some (.pointer (some ⟨tb, 0, none⟩)) ∧ (w'.cell? ⟨tb, 0, none⟩ = some (.slice x1 nl x2) ∧ w'.cell? ⟨tb, 1, none⟩ = some (.int .u64 sq) ∧ w'.cell? ⟨tb, 2, none⟩ = some (.int .u8 ek)) ∧ (w'.cell? ⟨w.heap.size, 0, none⟩ = some (.slice ka kn kc) ∧ w'.cell? ⟨w.heap.size, 1, none⟩ = some (.int .u64 ks) ∧ w'.cell? ⟨w.heap.size, 2, none⟩ = some (.int .u8 kk)))
              (first | with_reducible exact ⟨T6.p, ⟨T6.a0, T6.a1, T6.a2⟩, ⟨T6.b0, T6.b1, T6.b2⟩⟩ | exact ⟨T0.p, ⟨T0.a0, T0.a1, T0.a2⟩, ⟨T0.b0, T0.b1, T0.b2⟩⟩)
              (first
                | (go_at_call 81; refine hcm.mono ?_; rintro e w6 ⟨rfl, hb6⟩
                   have T6 := T0.below hb6
                   have HB6 : Hid (Below wo.heap.size wo w6) := bsplit HB.out.drew hb6
                   clear hcm hb6)
                | fail)
            have bp9 := (HI.out.bp.below HB6.out).cel h (by omega)
            have fp9 := (HI.out.bp.below HB6.out).frz h (by omega)
            simp only [show ¬ h + 1 ≤ h by omega, if_false] at bp9
            have BEL : Below wo.heap.size wo w6 := HB6.out
            clear T0 T6 d0 d1 d2 c0 c1 c2 hcel
            go_wp2_with fail
            go_roundg h
            case measure => exact Nat.lt_succ_self h
            case rel => exact ⟨h, a', fun r => if r = h then a' else A r, rfl, rfl, rfl, by omega, HI.out.next BEL HPR.out (by omega)⟩

end Go.Proofs.Ythcoblmfmbmdkaa
