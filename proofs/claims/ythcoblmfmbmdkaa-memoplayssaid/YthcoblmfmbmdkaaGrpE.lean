/- Several texts in one. -/
import Derived.Test.YthcoblmfmbmdkaaEnFew
import Derived.Test.YthcoblmfmbmdkaaKeyCmp
import Derived.Test.YthcoblmfmbmdkaaTbCover
import Derived.Test.YthcoblmfmbmdkaaTbNew
import Derived.BigQuiet
import Derived.Test.YthcoblmfmbmdkaaGrpC
import Derived.Test.YthcoblmfmbmdkaaKeyCheck
import Derived.Test.YthcoblmfmbmdkaaLists
import Derived.Deep.RegionHeld3
import Derived.Deep.DeepCutAuto
import Derived.Deep.CutRange
import Derived.Deep.LoopGhost
import Derived.Deep.AppendLies
import Derived.Test.YthcoblmfmbmdkaaKeyArg
import Derived.Lib.SmallJoins
import Derived.Test.YthcoblmfmbmdkaaSkKeep
import Derived.Test.YthcoblmfmbmdkaaTbAllS

/- bartizanref03.SameEntry, SameEntries. -/
namespace Go.Proofs.Ythcoblmfmbmdkaa
open Go.RowKit
set_option linter.unusedVariables false

set_option maxRecDepth 20000 in
set_option maxHeartbeats 4000000 in
theorem sameen_any (w : World) (xa ya xb yb : Value) (la ma lb mb : List UInt8) (s k t j : Int) (r : Bool) (hxa : Rd w xa la) (hya : Rd w ya ma) (hxb : Rd w xb lb) (hyb : Rd w yb mb) (hr : decide ((la = lb ∧ s = t ∧ k = j) ∧ ma = mb) = r) :
    Calls Try.prog 40 #[.agg #[xa, .int .u64 s, .int .u8 k, ya], .agg #[xb, .int .u64 t, .int .u8 j, yb]] w fun e w' => e = .returned (.bool r) ∧ Below w.heap.size w w' := by
  obtain ⟨a1, a2, rfl⟩ := hxa.len
  obtain ⟨a3, a4, rfl⟩ := hya.len
  obtain ⟨b1, b2, rfl⟩ := hxb.len
  obtain ⟨b3, b4, rfl⟩ := hyb.len
  obtain ⟨n1, h1⟩ : ∃ n, la.length = n := ⟨_, rfl⟩
  obtain ⟨n2, h2⟩ : ∃ n, ma.length = n := ⟨_, rfl⟩
  obtain ⟨n3, h3⟩ : ∃ n, lb.length = n := ⟨_, rfl⟩
  obtain ⟨n4, h4⟩ : ∃ n, mb.length = n := ⟨_, rfl⟩
  rw [h1] at hxa ⊢
  rw [h2] at hya ⊢
  rw [h3] at hxb ⊢
  rw [h4] at hyb ⊢
  have hb0 := below_box4 w (.cells #[.slice a1 n1 a2, .int .u64 s, .int .u8 k, .slice a3 n2 a4] 44)
  have hb1 := below_box4 (w.alloc (.cells #[.slice a1 n1 a2, .int .u64 s, .int .u8 k, .slice a3 n2 a4] 44)) (.cells #[.slice b1 n3 b2, .int .u64 t, .int .u8 j, .slice b3 n4 b4] 44)
  have BA := (box4_new w (.slice a1 n1 a2) (.int .u64 s) (.int .u8 k) (.slice a3 n2 a4) 44).below hb1 (Nat.le_refl _)
  have BB := box4_new (w.alloc (.cells #[.slice a1 n1 a2, .int .u64 s, .int .u8 k, .slice a3 n2 a4] 44)) (.slice b1 n3 b2) (.int .u64 t) (.int .u8 j) (.slice b3 n4 b4) 44
  rw [show (w.alloc (.cells #[.slice a1 n1 a2, .int .u64 s, .int .u8 k, .slice a3 n2 a4] 44)).heap.size = w.heap.size + 1 by simp] at BB
  have hB1 := bsplit hb0 hb1
  have hks := keysame_any ((w.alloc (.cells #[.slice a1 n1 a2, .int .u64 s, .int .u8 k, .slice a3 n2 a4] 44)).alloc (.cells #[.slice b1 n3 b2, .int .u64 t, .int .u8 j, .slice b3 n4 b4] 44)) _ _ la lb s k t j (decide (la = lb ∧ s = t ∧ k = j)) (hxa.below hB1 (Nat.le_refl _)) (hxb.below hB1 (Nat.le_refl _)) rfl
  have HY : Hid (Rd w (.slice a3 n2 a4) ma ∧ Rd w (.slice b3 n4 b4) mb) := ⟨hya, hyb⟩
  have HB1 : Hid _ := hB1
  have HR : Hid (decide ((la = lb ∧ s = t ∧ k = j) ∧ ma = mb) = r) := hr
  obtain ⟨q, hq⟩ : ∃ q, decide (la = lb ∧ s = t ∧ k = j) = q := ⟨_, rfl⟩
  have HQ : Hid (decide (la = lb ∧ s = t ∧ k = j) = q) := hq
  rw [hq] at hks
  clear hxa hya hxb hyb hr h1 h2 h3 h4 hb0 hb1 hB1 hq
  go_enter Try.func40, Try.ntmps40
  cases q with
  | false =>
    have HF : Hid (r = false) := by
      show r = false
      rw [← HR.out]
      have := of_decide_eq_false HQ.out
      simp only [decide_eq_false_iff_not]
      exact fun h => this h.1
    obtain ⟨c0, c1, c2, c3⟩ := BA
    obtain ⟨d0, d1, d2, d3⟩ := BB
    go_wp2_with fail
    refine hks.mono ?_
    rintro e w1 ⟨rfl, hb⟩
    have HB2 : Hid (Below w.heap.size w w1) := bsplit HB1.out hb
    clear hks hb
    go_wp2
    go_ret
    exact ⟨ret_bool (by rw [HF.out]), HB2.out⟩
  | true =>
    have HT : Hid ((ma == mb) = r) := by
      show (ma == mb) = r
      rw [← HR.out]
      have := of_decide_eq_true HQ.out
      rw [Bool.eq_iff_iff]
      simp only [beq_iff_eq, decide_eq_true_eq]
      exact ⟨fun h => ⟨this, h⟩, fun h => h.2⟩
    have BA' := BA
    have BB' := BB
    obtain ⟨c0, c1, c2, c3⟩ := BA'
    obtain ⟨d0, d1, d2, d3⟩ := BB'
    go_wp2_with fail
    refine hks.mono ?_
    rintro e w1 ⟨rfl, hb⟩
    have HB2 : Hid (Below w.heap.size w w1) := bsplit HB1.out hb
    clear c0 c1 c2 c3 d0 d1 d2 d3
    obtain ⟨c0, c1, c2, c3⟩ := BA.below hb (Nat.le_refl _)
    obtain ⟨d0, d1, d2, d3⟩ := BB.below hb (Nat.le_refl _)
    have hsb := same_b w1 _ _ ma mb r (HY.out.1.below HB2.out (Nat.le_refl _)) (HY.out.2.below HB2.out (Nat.le_refl _)) HT.out
    clear hks hb BA BB
    go_wp2_with fail
    refine hsb.mono ?_
    rintro e w2 ⟨rfl, rfl⟩
    clear hsb
    go_wp2
    go_ret
    exact ⟨rfl, HB2.out⟩

set_option maxRecDepth 20000 in
set_option maxHeartbeats 4000000 in
theorem sameens_any (w : World) (va vb : Value) (us bs : List EnB) (r : Bool) (ha : RdE w va us) (hb : RdE w vb bs) (hr : us = bs ↔ r = true) :
    Calls Try.prog 16 #[va, vb] w fun e w' => e = .returned (.bool r) ∧ Below w.heap.size w w' := by
  have HA : Hid (RdE w va us) := ha
  have HBb : Hid (RdE w vb bs) := hb
  obtain ⟨a1, a2, rfl, ha1, ha2, _⟩ := ha
  obtain ⟨b1, b2, rfl, hb1, hb2, _⟩ := hb
  unfold maxLen at ha2 hb2
  obtain ⟨N, hN⟩ : ∃ n, us.length = n := ⟨_, rfl⟩
  obtain ⟨M, hM⟩ : ∃ n, bs.length = n := ⟨_, rfl⟩
  rw [hN] at ha1 HA ⊢
  rw [hM] at hb1 HBb ⊢
  have HNM : Hid (us.length = N ∧ bs.length = M) := ⟨hN, hM⟩
  have HR : Hid (us = bs ↔ r = true) := hr
  clear hN hM hr
  go_enter Try.func16, Try.ntmps16
  by_cases hnm : N = M
  · subst hnm
    go_wp2_with fail
    go_loopg [13] N (fun gk iv wr => ∃ j : Nat, gk + j = N ∧ iv = .int .i64 (j : Int) ∧ Hid (∀ i, i < j → us[i]? = bs[i]?) ∧ Hid (Below w.heap.size w wr))
    case atStart => exact ⟨0, by omega, rfl, fun i hi => absurd hi (Nat.not_lt_zero _), Below.refl _ _⟩
    case round =>
      obtain ⟨j, hj, rfl, HS, HB⟩ := hrel
      by_cases hlt : j < N
      · have l1 : j < us.length := by rw [HNM.out.1]; exact hlt
        have l2 : j < bs.length := by rw [HNM.out.2]; exact hlt
        obtain ⟨_, _, e, _, _, h3⟩ := rdE_below HA.out HB.out (Nat.le_refl _)
        rw [HNM.out.1] at e
        cases e
        obtain ⟨_, _, e, _, _, h4⟩ := rdE_below HBb.out HB.out (Nat.le_refl _)
        rw [HNM.out.2] at e
        cases e
        obtain ⟨p1, o1, rfl, x1, y1, c0, c1, c2, c3, rx1, ry1⟩ := h3 j l1
        obtain ⟨p2, o2, rfl, x2, y2, d0, d1, d2, d3, rx2, ry2⟩ := h4 j l2
        obtain ⟨q1, q2⟩ := gk_nxt hj hlt
        obtain ⟨t1, t2, hx1⟩ := rx1.len
        obtain ⟨t3, t4, hy1⟩ := ry1.len
        obtain ⟨t5, t6, hx2⟩ := rx2.len
        obtain ⟨t7, t8, hy2⟩ := ry2.len
        have hsm := sameen_any wr.drew x1 y1 x2 y2 us[j].1 us[j].2.2.2 bs[j].1 bs[j].2.2.2 (us[j].2.1 : Int) (us[j].2.2.1.toNat : Int) (bs[j].2.1 : Int) (bs[j].2.2.1.toNat : Int) (decide (us[j] = bs[j])) rx1.drew ry1.drew rx2.drew ry2.drew (by
          rw [decide_eq_decide]
          constructor
          · rintro ⟨⟨e1, e2, e3⟩, e4⟩
            have e2' : us[j].2.1 = bs[j].2.1 := by omega
            have e3' : us[j].2.2.1 = bs[j].2.2.1 := UInt8.toNat_inj.1 (by omega)
            exact Prod.ext e1 (Prod.ext e2' (Prod.ext e3' e4))
          · intro e
            rw [e]
            exact ⟨⟨rfl, rfl, rfl⟩, rfl⟩)
        have h1I : (j : Int) < (a2 : Int) := by omega
        have h2I : (j : Int) < (b2 : Int) := by omega
        rw [hx1] at c0 hsm
        rw [hy1] at c3 hsm
        rw [hx2] at d0 hsm
        rw [hy2] at d3 hsm
        obtain ⟨z1, hz1⟩ : ∃ z, (us[j].2.1 : Int) = z := ⟨_, rfl⟩
        obtain ⟨z2, hz2⟩ : ∃ z, (us[j].2.2.1.toNat : Int) = z := ⟨_, rfl⟩
        obtain ⟨z3, hz3⟩ : ∃ z, (bs[j].2.1 : Int) = z := ⟨_, rfl⟩
        obtain ⟨z4, hz4⟩ : ∃ z, (bs[j].2.2.1.toNat : Int) = z := ⟨_, rfl⟩
        obtain ⟨m1, hm1⟩ : ∃ z, us[j].1.length = z := ⟨_, rfl⟩
        obtain ⟨m2, hm2⟩ : ∃ z, us[j].2.2.2.length = z := ⟨_, rfl⟩
        obtain ⟨m3, hm3⟩ : ∃ z, bs[j].1.length = z := ⟨_, rfl⟩
        obtain ⟨m4, hm4⟩ : ∃ z, bs[j].2.2.2.length = z := ⟨_, rfl⟩
        rw [hz1] at c1 hsm
        rw [hz2] at c2 hsm
        rw [hz3] at d1 hsm
        rw [hz4] at d2 hsm
        rw [hm1] at c0 hsm
        rw [hm2] at c3 hsm
        rw [hm3] at d0 hsm
        rw [hm4] at d3 hsm
        obtain ⟨q, hq⟩ : ∃ q, decide (us[j] = bs[j]) = q := ⟨_, rfl⟩
        have HQ : Hid (decide (us[j] = bs[j]) = q) := hq
        rw [hq] at hsm
        have c0' := c0; have c1' := c1; have c2' := c2; have c3' := c3; have d0' := d0; have d1' := d1; have d2' := d2; have d3' := d3
        clear h3 h4 rx1 ry1 rx2 ry2 hx1 hy1 hx2 hy2 hz1 hz2 hz3 hz4 hm1 hm2 hm3 hm4 hq
        cases q with
        | true =>
          go_wp2_with fail
          go_region_held3 (fun w' => (w'.cell? ⟨p1, o1 + j * 4, none⟩ = some (.slice t1 m1 t2) ∧ w'.cell? ⟨p1, o1 + j * 4 + 1, none⟩ = some (.int .u64 z1) ∧ w'.cell? ⟨p1, o1 + j * 4 + 2, none⟩ = some (.int .u8 z2) ∧ w'.cell? ⟨p1, o1 + j * 4 + 3, none⟩ = some (.slice t3 m2 t4)) ∧ (w'.cell? ⟨p2, o2 + j * 4, none⟩ = some (.slice t5 m3 t6) ∧ w'.cell? ⟨p2, o2 + j * 4 + 1, none⟩ = some (.int .u64 z3) ∧ w'.cell? ⟨p2, o2 + j * 4 + 2, none⟩ = some (.int .u8 z4) ∧ w'.cell? ⟨p2, o2 + j * 4 + 3, none⟩ = some (.slice t7 m4 t8)))
            (first | with_reducible exact ⟨⟨e0, e1, e2, e3⟩, ⟨e4, e5, e6, e7⟩⟩ | exact ⟨⟨c0', c1', c2', c3'⟩, ⟨d0', d1', d2', d3'⟩⟩)
            (first
              | (go_at_call 40; refine hsm.mono ?_; rintro e w5 ⟨rfl, hb5⟩
                 have HB5 : Hid (Below w.heap.size w w5) := bsplit HB.out.drew hb5
                 have b1 := World.block_lt_of_cell? wr _ c0'
                 have b2 := World.block_lt_of_cell? wr _ d0'
                 have e0 := (hb5.cell (p := ⟨p1, o1 + j * 4, none⟩) b1).trans c0'
                 have e1 := (hb5.cell (p := ⟨p1, o1 + j * 4 + 1, none⟩) b1).trans c1'
                 have e2 := (hb5.cell (p := ⟨p1, o1 + j * 4 + 2, none⟩) b1).trans c2'
                 have e3 := (hb5.cell (p := ⟨p1, o1 + j * 4 + 3, none⟩) b1).trans c3'
                 have e4 := (hb5.cell (p := ⟨p2, o2 + j * 4, none⟩) b2).trans d0'
                 have e5 := (hb5.cell (p := ⟨p2, o2 + j * 4 + 1, none⟩) b2).trans d1'
                 have e6 := (hb5.cell (p := ⟨p2, o2 + j * 4 + 2, none⟩) b2).trans d2'
                 have e7 := (hb5.cell (p := ⟨p2, o2 + j * 4 + 3, none⟩) b2).trans d3')
              | fail)
          go_wp2_with fail
          go_roundg (gk - 1)
          case measure => exact q1
          case rel => exact ⟨j + 1, q2, by go_num, fun i hi => by
            by_cases e : i = j
            · subst e; rw [List.getElem?_eq_getElem l1, List.getElem?_eq_getElem l2, of_decide_eq_true HQ.out]
            · exact HS.out i (by omega), HB5⟩
        | false =>
          go_wp2_with fail
          go_region_held3 (fun w' => (w'.cell? ⟨p1, o1 + j * 4, none⟩ = some (.slice t1 m1 t2) ∧ w'.cell? ⟨p1, o1 + j * 4 + 1, none⟩ = some (.int .u64 z1) ∧ w'.cell? ⟨p1, o1 + j * 4 + 2, none⟩ = some (.int .u8 z2) ∧ w'.cell? ⟨p1, o1 + j * 4 + 3, none⟩ = some (.slice t3 m2 t4)) ∧ (w'.cell? ⟨p2, o2 + j * 4, none⟩ = some (.slice t5 m3 t6) ∧ w'.cell? ⟨p2, o2 + j * 4 + 1, none⟩ = some (.int .u64 z3) ∧ w'.cell? ⟨p2, o2 + j * 4 + 2, none⟩ = some (.int .u8 z4) ∧ w'.cell? ⟨p2, o2 + j * 4 + 3, none⟩ = some (.slice t7 m4 t8)))
            (first | with_reducible exact ⟨⟨e0, e1, e2, e3⟩, ⟨e4, e5, e6, e7⟩⟩ | exact ⟨⟨c0', c1', c2', c3'⟩, ⟨d0', d1', d2', d3'⟩⟩)
            (first
              | (go_at_call 40; refine hsm.mono ?_; rintro e w5 ⟨rfl, hb5⟩
                 have HB5 : Hid (Below w.heap.size w w5) := bsplit HB.out.drew hb5
                 have b1 := World.block_lt_of_cell? wr _ c0'
                 have b2 := World.block_lt_of_cell? wr _ d0'
                 have e0 := (hb5.cell (p := ⟨p1, o1 + j * 4, none⟩) b1).trans c0'
                 have e1 := (hb5.cell (p := ⟨p1, o1 + j * 4 + 1, none⟩) b1).trans c1'
                 have e2 := (hb5.cell (p := ⟨p1, o1 + j * 4 + 2, none⟩) b1).trans c2'
                 have e3 := (hb5.cell (p := ⟨p1, o1 + j * 4 + 3, none⟩) b1).trans c3'
                 have e4 := (hb5.cell (p := ⟨p2, o2 + j * 4, none⟩) b2).trans d0'
                 have e5 := (hb5.cell (p := ⟨p2, o2 + j * 4 + 1, none⟩) b2).trans d1'
                 have e6 := (hb5.cell (p := ⟨p2, o2 + j * 4 + 2, none⟩) b2).trans d2'
                 have e7 := (hb5.cell (p := ⟨p2, o2 + j * 4 + 3, none⟩) b2).trans d3')
              | fail)
          have HF : Hid (r = false) := by
            show r = false
            cases hrr : r with
            | false => rfl
            | true =>
              have h9 := HR.out.2 hrr
              subst h9
              exact absurd rfl (of_decide_eq_false HQ.out)
          go_wp2
          go_ret
          exact ⟨ret_bool (by rw [HF.out]), HB5.out⟩
      · have hjN : j = N := by omega
        subst hjN
        have HT : Hid (r = true) := HR.out.1 (List.ext_getElem? (fun i => by
          by_cases hi : i < j
          · exact HS.out i hi
          · rw [List.getElem?_eq_none (by rw [HNM.out.1]; omega), List.getElem?_eq_none (by rw [HNM.out.2]; omega)]))
        go_wp2
        go_ret
        exact ⟨ret_bool (by rw [HT.out]), HB.out⟩
  · have hnmI : ¬ (N : Int) = (M : Int) := by omega
    have HF : Hid (r = false) := by
      show r = false
      cases hrr : r with
      | false => rfl
      | true =>
        have h9 := HR.out.2 hrr
        exact absurd (by rw [← HNM.out.1, ← HNM.out.2, h9]) hnm
    go_wp2
    go_ret
    exact ⟨ret_bool (by rw [HF.out]), Below.refl _ _⟩

end Go.Proofs.Ythcoblmfmbmdkaa

/- The document's answer for tomb: Check, Covers, Cover. -/
namespace Go.Proofs.Ythcoblmfmbmdkaa
set_option maxRecDepth 20000
open Go.RowKit
set_option linter.unusedVariables false
set_option linter.unusedSimpArgs false

set_option maxHeartbeats 2000000 in
theorem rtcovers_any (w : World) (x y kv : Value) (l m k : List UInt8) (s : Int) (r : Bool) (hx : Rd w x l) (hy : Rd w y m) (hk : Rd w kv k) (hr : covB l m k = r) :
    Calls Try.prog 67 #[spV x y s, kv] w fun e w' => e = .returned (.bool r) ∧ Below w.heap.size w w' := by
  obtain ⟨xa, xc, rfl⟩ := hx.len
  obtain ⟨ya, yc, rfl⟩ := hy.len
  obtain ⟨ka, kc, rfl⟩ := hk.len
  have hb0 := below_box w #[.slice xa l.length xc, .slice ya m.length yc, .int .u64 s] 46
  have HB0 : Hid (Below w.heap.size w (w.alloc (.cells #[.slice xa l.length xc, .slice ya m.length yc, .int .u64 s] 46))) := hb0
  obtain ⟨r1, hr1⟩ : ∃ r, decide (Lib.compareBytes k l < 0) = r := ⟨_, rfl⟩
  obtain ⟨r2, hr2⟩ : ∃ r, decide (Lib.compareBytes k m < 0) = r := ⟨_, rfl⟩
  have HC : Hid (r = (!r1 && r2)) := by show r = _; rw [← hr, ← hr1, ← hr2]; rfl
  have e1 := refless_any (w.alloc (.cells #[.slice xa l.length xc, .slice ya m.length yc, .int .u64 s] 46)) _ _ k l r1 (hk.below hb0 (Nat.le_refl _)) (hx.below hb0 (Nat.le_refl _)) hr1
  have e2 := refless_any (w.alloc (.cells #[.slice xa l.length xc, .slice ya m.length yc, .int .u64 s] 46)) _ _ k m r2 (hk.below hb0 (Nat.le_refl _)) (hy.below hb0 (Nat.le_refl _)) hr2
  obtain ⟨c0, c1, c2, _, _, _⟩ := box_new w (.slice xa l.length xc) (.slice ya m.length yc) (.int .u64 s) 46
  clear hr hr1 hr2 hx hy hk hb0
  go_enter Try.func67, Try.ntmps67
  go_wp2_with fail
  refine e1.mono ?_
  rintro o w1 ⟨rfl, rfl⟩
  cases r1
  · go_wp2_with fail
    refine e2.mono ?_
    rintro o w1 ⟨rfl, rfl⟩
    go_wp2
    go_ret
    exact ⟨ret_bool (by rw [HC.out]; simp), HB0.out⟩
  · go_wp2
    go_ret
    exact ⟨ret_bool (by rw [HC.out]; rfl), HB0.out⟩

set_option maxHeartbeats 4000000 in
theorem rtcover_any (w : World) (v : Value) (ss : List SpB) (kv : Value) (k : List UInt8) (seq : Int) (hv : RdS w v ss) (hk : Rd w kv k) :
    Calls Try.prog 49 #[v, kv, .int .u64 seq] w fun e w' => e = .returned (.int .u64 (covN ss k seq : Int)) ∧ Below w.heap.size w w' := by
  obtain ⟨ka, kc, rfl⟩ := hk.len
  obtain ⟨kl, hkl⟩ : ∃ z, k.length = z := ⟨_, rfl⟩
  rw [hkl] at hk ⊢
  have HK : Hid (Rd w (.slice ka kl kc) k) := hk
  have HV : Hid (RdS w v ss) := hv
  obtain ⟨ao, cap, rfl, h1, h2, _⟩ := hv
  unfold maxLen at h2
  obtain ⟨N, hN⟩ : ∃ N, ss.length = N := ⟨_, rfl⟩
  rw [hN] at h1 HV ⊢
  have HN : Hid (ss.length = N) := hN
  clear hN hk hkl
  go_enter Try.func49, Try.ntmps49
  go_wp2_with fail
  go_loopg [12, 7] N (fun gk iv mv wr => ∃ j m : Nat, gk + j = N ∧ iv = .int .i64 (j : Int) ∧ mv = .int .u64 (m : Int) ∧ Hid (m = covN (ss.take j) k seq) ∧ Hid (Below w.heap.size w wr))
  case atStart => exact ⟨0, 0, by omega, rfl, rfl, rfl, Below.refl _ _⟩
  case round =>
    obtain ⟨j, m, hj, rfl, rfl, HS, HB⟩ := hrel
    by_cases hlt : j < N
    · have hlt2 : j < ss.length := by rw [HN.out]; exact hlt
      obtain ⟨_, _, e, _, _, h3⟩ := rdS_below HV.out HB.out (Nat.le_refl _)
      rw [HN.out] at e
      cases e
      obtain ⟨b, off, rfl, xv, yv, c0, c1, c2, rx, ry⟩ := h3 j hlt2
      obtain ⟨x1, x2, ex⟩ := rx.len
      obtain ⟨y1, y2, ey⟩ := ry.len
      subst ex ey
      obtain ⟨⟨sl, sm, sq⟩, ho⟩ : ∃ o, ss[j] = o := ⟨_, rfl⟩
      rw [ho] at c0 c1 c2 rx ry
      obtain ⟨q1, q2⟩ := gk_nxt hj hlt
      simp only at c0 c1 c2 rx ry
      obtain ⟨nl, hnl⟩ : ∃ nl, sl.length = nl := ⟨_, rfl⟩
      obtain ⟨ml, hml⟩ : ∃ ml, sm.length = ml := ⟨_, rfl⟩
      rw [hnl] at c0 rx
      rw [hml] at c1 ry
      have hb0 := below_box wr #[.slice x1 nl x2, .slice y1 ml y2, .int .u64 (sq : Int)] 46
      have HB0 : Hid (Below w.heap.size w (wr.alloc (.cells #[.slice x1 nl x2, .slice y1 ml y2, .int .u64 (sq : Int)] 46))) := bsplit HB.out hb0
      have BX := box_new wr (.slice x1 nl x2) (.slice y1 ml y2) (.int .u64 (sq : Int)) 46
      obtain ⟨r, hr⟩ : ∃ r, covB sl sm k = r := ⟨_, rfl⟩
      have hcv := rtcovers_any (wr.alloc (.cells #[.slice x1 nl x2, .slice y1 ml y2, .int .u64 (sq : Int)] 46)) (.slice x1 nl x2) (.slice y1 ml y2) (.slice ka kl kc) sl sm k (sq : Int) r (rx.below hb0 (Nat.le_refl _)) (ry.below hb0 (Nat.le_refl _)) ((HK.out.below HB.out (Nat.le_refl _)).below hb0 (Nat.le_refl _)) hr
      have HX : Hid (covN (ss.take (j + 1)) k seq = if (sq : Int) ≤ seq ∧ r = true then max m sq else m) := by
        show _ = _
        rw [covN_next ss k seq j hlt2, ho, ← HS.out, ← hr]
        rfl
      have BX' := BX
      obtain ⟨z0, z1, z2, _, _, _⟩ := BX'
      clear ho hb0 h3 rx ry hnl hml hr
      by_cases hle : (sq : Int) ≤ seq
      · by_cases hgt : (m : Int) < (sq : Int)
        · have hmx : max m sq = sq := by omega
          rw [hmx] at HX
          go_wp2_with fail
          refine hcv.mono ?_
          rintro e w2 ⟨rfl, hb2⟩
          have HB2 : Hid (Below w.heap.size w w2) := bsplit HB0.out hb2
          clear z0 z1 z2
          obtain ⟨z0, z1, z2, _, _, _⟩ := BX.below hb2 (Nat.le_refl _)
          clear hcv hb2 BX hmx
          cases r
          · go_wp2_with fail
            go_roundg (gk - 1)
            case measure => exact q1
            case rel => exact ⟨j + 1, m, q2, by go_num, rfl, by show _ = _; rw [HX.out, if_neg (by simp)], HB2⟩
          · go_wp2_with fail
            go_roundg (gk - 1)
            case measure => exact q1
            case rel => exact ⟨j + 1, sq, q2, by go_num, rfl, by show _ = _; rw [HX.out, if_pos (by simp [hle])], HB2⟩
        · have hmx : max m sq = m := by omega
          rw [hmx] at HX
          go_wp2_with fail
          refine hcv.mono ?_
          rintro e w2 ⟨rfl, hb2⟩
          have HB2 : Hid (Below w.heap.size w w2) := bsplit HB0.out hb2
          clear z0 z1 z2
          obtain ⟨z0, z1, z2, _, _, _⟩ := BX.below hb2 (Nat.le_refl _)
          clear hcv hb2 BX hmx
          cases r
          all_goals
            go_wp2_with fail
            go_roundg (gk - 1)
            case measure => exact q1
            case rel => exact ⟨j + 1, m, q2, by go_num, rfl, by show _ = _; rw [HX.out, ite_self], HB2⟩
      · go_wp2_with fail
        refine hcv.mono ?_
        rintro e w2 ⟨rfl, hb2⟩
        have HB2 : Hid (Below w.heap.size w w2) := bsplit HB0.out hb2
        clear z0 z1 z2
        obtain ⟨z0, z1, z2, _, _, _⟩ := BX.below hb2 (Nat.le_refl _)
        clear hcv hb2 BX
        cases r
        all_goals
          go_wp2_with fail
          go_roundg (gk - 1)
          case measure => exact q1
          case rel => exact ⟨j + 1, m, q2, by go_num, rfl, by show _ = _; rw [HX.out, if_neg (fun h => by have := h.1; omega)], HB2⟩
    · have hjN : j = N := by omega
      subst hjN
      go_wp2_with fail
      go_wp2
      go_ret
      exact ⟨ret_int (by rw [HS.out, ← HN.out, List.take_length]), HB.out⟩

end Go.Proofs.Ythcoblmfmbmdkaa

/- bartizanref09.Same. -/
namespace Go.Proofs.Ythcoblmfmbmdkaa
open Go.RowKit
set_option linter.unusedVariables false
set_option linter.unusedSimpArgs false

theorem sameq9 (w : World) (a b : Value) (l l' : List UInt8) (x : Bool) (ha : Rd w a l) (hb : Rd w b l') (hx : (l == l') = x) :
    Calls Try.prog 24 #[a, b] w fun e w' => e = .returned (.bool x) ∧ ∃ n, w' = w.drewN n :=
  (same_b w a b l l' x ha hb hx).mono (fun e w' h => ⟨h.1, 0, h.2⟩)

theorem retB9 {a b : Bool} (h : a = b) : Ending.returned (.bool a) = .returned (.bool b) := by rw [h]

set_option maxHeartbeats 16000000 in
set_option maxRecDepth 20000 in
theorem samesp_any (w : World) (va vb : Value) (os ps : List SpB) (r : Bool) (ha : RdS w va os) (hb : RdS w vb ps) (hr : os = ps ↔ r = true) :
    Calls Try.prog 18 #[va, vb] w fun e w' => e = .returned (.bool r) ∧ ∃ n, w' = w.drewN n := by
  obtain ⟨ao, ac, rfl, h1, h2, h3⟩ := ha
  obtain ⟨bo, bc, rfl, g1, g2, g3⟩ := hb
  unfold maxLen at h2 g2
  have H3 : Hid _ := h3
  have G3 : Hid _ := g3
  have HR : Hid _ := hr
  clear h3 g3 hr
  by_cases hl : os.length = ps.length
  · have HL : Hid _ := hl
    obtain ⟨n, hn⟩ : ∃ n, os.length = n := ⟨_, rfl⟩
    rw [hn] at hl h1 ⊢
    rw [← hl] at g1 ⊢
    have HN : Hid _ := hn
    clear hn hl
    go_enter Try.func18, Try.ntmps18
    go_wp2_with fail
    go_loopg [13] n (fun gk iv wr => ∃ j m : Nat, gk + j = n ∧ iv = .int .i64 (j : Int) ∧ wr = w.drewN m ∧ os.take j = ps.take j)
    case atStart => exact ⟨0, 0, rfl, rfl, rfl, by simp⟩
    case round =>
      obtain ⟨j, m, hj, rfl, hwr, ht⟩ := hrel
      have HW : Hid (∀ n, wr.drewN n = w.drewN (m + n)) := by intro n; rw [hwr]; exact World.drewN_drewN _ _ _
      have HW0 : Hid _ := hwr
      have HT : Hid _ := ht
      clear ht
      by_cases hlt : j < n
      · have hlo : j < os.length := by rw [HN.out]; exact hlt
        have hlp : j < ps.length := by rw [← HL.out, HN.out]; exact hlt
        obtain ⟨b, off, rfl, xv, yv, c0, c1, c2, rx, ry⟩ := H3.out j hlo
        obtain ⟨b', off', rfl, xv', yv', d0, d1, d2, rx', ry'⟩ := G3.out j hlp
        obtain ⟨⟨ol, oo, osq⟩, ho⟩ : ∃ o, os[j] = o := ⟨_, rfl⟩
        obtain ⟨⟨pl, po, psq⟩, hp⟩ : ∃ o, ps[j] = o := ⟨_, rfl⟩
        rw [ho] at c2 rx ry
        rw [hp] at d2 rx' ry'
        simp only at c2 rx ry d2 rx' ry'
        have e0 : ∀ p, w.cell? p = wr.cell? p := by intro p; rw [hwr]; rfl
        have e1 : ∀ v l, Rd w v l → Rd wr v l := by rw [hwr]; exact fun _ _ h => h
        rw [e0] at c0 c1 c2 d0 d1 d2
        replace rx := e1 _ _ rx
        replace rx' := e1 _ _ rx'
        replace ry := e1 _ _ ry
        replace ry' := e1 _ _ ry'
        clear e0 e1
        clear hwr
        have HO : Hid (os[j] = (ol, oo, osq)) := ho
        have HP : Hid (ps[j] = (pl, po, psq)) := hp
        clear ho hp
        obtain ⟨q, hq⟩ : ∃ q, (ol == pl) = q := ⟨_, rfl⟩
        have HQ : Hid _ := hq
        obtain ⟨q2, hq2⟩ : ∃ q2, (oo == po) = q2 := ⟨_, rfl⟩
        have HQ2 : Hid _ := hq2
        clear hq hq2
        cases q
        · have hno : Hid (r = false) := by
            show _ = _
            rw [← Bool.not_eq_true]
            intro hrt
            have heq := HR.out.2 hrt
            subst heq
            have e := HO.out.symm.trans HP.out
            simp only [Prod.mk.injEq] at e
            have := HQ.out
            rw [e.1] at this
            simp at this
          go_wp2_with fail
          go_quiet (first
            | (go_at_call 24; refine Calls.quiet_of (sameq9 _ _ _ ol pl false (by exact rx) (by exact rx') HQ.out)))
          go_wp2
          go_ret
          exact ⟨retB9 (by rw [hno.out]), _, HW.out _⟩
        · cases q2
          · have hno : Hid (r = false) := by
              show _ = _
              rw [← Bool.not_eq_true]
              intro hrt
              have heq := HR.out.2 hrt
              subst heq
              have e := HO.out.symm.trans HP.out
              simp only [Prod.mk.injEq] at e
              have := HQ2.out
              rw [e.2.1] at this
              simp at this
            go_wp2_with fail
            go_quiet (first
              | (go_at_call 24; refine Calls.quiet_of (sameq9 _ _ _ ol pl true (by exact rx) (by exact rx') HQ.out))
              | (go_at_call 24; refine Calls.quiet_of (sameq9 _ _ _ oo po false (by exact ry) (by exact ry') HQ2.out)))
            go_wp2
            go_ret
            exact ⟨retB9 (by rw [hno.out]), _, HW.out _⟩
          · by_cases hs : osq = psq
            · subst hs
              have hyes : Hid (os.take (j + 1) = ps.take (j + 1)) := by
                show _ = _
                rw [List.take_succ_eq_append_getElem hlo, List.take_succ_eq_append_getElem hlp, HT.out, HO.out, HP.out, eq_of_beq HQ.out, eq_of_beq HQ2.out]
              go_wp2_with fail
              go_quiet (first
                | (go_at_call 24; refine Calls.quiet_of (sameq9 _ _ _ ol pl true (by exact rx) (by exact rx') HQ.out))
                | (go_at_call 24; refine Calls.quiet_of (sameq9 _ _ _ oo po true (by exact ry) (by exact ry') HQ2.out)))
              go_wp2
              go_roundg (gk - 1)
              case measure => omega
              case rel => exact ⟨j + 1, _, by omega, by go_num, HW.out _, hyes.out⟩
            · have hsI : ¬ (osq : Int) = (psq : Int) := by omega
              have hsq : decide ((osq : Int) = (psq : Int)) = false := decide_eq_false hsI
              have hsq2 : ((osq : Int) != (psq : Int)) = true := by simp [hsI]
              have hno : Hid (r = false) := by
                show _ = _
                rw [← Bool.not_eq_true]
                intro hrt
                have heq := HR.out.2 hrt
                subst heq
                have e := HO.out.symm.trans HP.out
                simp only [Prod.mk.injEq] at e
                exact hs e.2.2
              go_wp2_with fail
              go_quiet (first
                | (go_at_call 24; refine Calls.quiet_of (sameq9 _ _ _ ol pl true (by exact rx) (by exact rx') HQ.out))
                | (go_at_call 24; refine Calls.quiet_of (sameq9 _ _ _ oo po true (by exact ry) (by exact ry') HQ2.out)))
              go_wp2
              go_ret
              exact ⟨retB9 (by rw [hno.out]), _, HW.out _⟩
      · obtain rfl : j = n := by omega
        have hyes : Hid (r = true) := by
          show _ = _
          apply HR.out.1
          have e := HT.out
          rw [List.take_of_length_le (by rw [HN.out]; omega), List.take_of_length_le (by rw [← HL.out, HN.out]; omega)] at e
          exact e
        clear hwr
        go_wp2
        go_ret
        exact ⟨retB9 (by rw [hyes.out]), _, HW0.out⟩
  · have hno : Hid (r = false) := by
      show _ = _
      rw [← Bool.not_eq_true]
      intro hrt
      exact hl (by rw [HR.out.2 hrt])
    obtain ⟨n, hn⟩ : ∃ n, os.length = n := ⟨_, rfl⟩
    obtain ⟨m, hm⟩ : ∃ n, ps.length = n := ⟨_, rfl⟩
    rw [hn, hm] at hl ⊢
    have hI : ¬ (n : Int) = (m : Int) := by omega
    have hbq : ((n : Int) == (m : Int)) = false := by simpa using hI
    clear hn hm hl h1 h2 g1 g2
    go_enter Try.func18, Try.ntmps18
    go_wp2
    go_ret
    exact ⟨retB9 (by rw [hno.out]), 0, rfl⟩

end Go.Proofs.Ythcoblmfmbmdkaa

/- bartizanref04's Few. -/
namespace Go.Proofs.Ythcoblmfmbmdkaa
open Go.RowKit

theorem few_take {n : Nat} {os : List OpB} {j : Nat} (h : j < os.length) (hn : j < n) : fewO n (os.take (j + 1)) = fewO n (os.take j) ++ [cutOp os[j]] := by
  unfold fewO
  rw [List.take_take, List.take_take, Nat.min_eq_right (by omega), Nat.min_eq_right (by omega), List.take_succ_eq_append_getElem h, List.map_append]
  rfl

theorem few_stay {n : Nat} {os : List OpB} {j : Nat} (hn : ¬ j < n) : fewO n (os.take (j + 1)) = fewO n (os.take j) := by
  unfold fewO
  rw [List.take_take, List.take_take, Nat.min_eq_left (by omega), Nat.min_eq_left (by omega)]

set_option maxHeartbeats 4000000 in
theorem fewop_any (w : World) (v : Value) (os : List OpB) (n : Nat) (hv : ArgO w v os) (hn : n ≤ 1000) :
    Calls Try.prog 28 #[v, .int .i64 (n : Int)] w fun e w' => ∃ x, e = .returned x ∧ OwnO w.heap.size w' x (fewO n os) ∧ Below w.heap.size w w' := by
  obtain ⟨i0, hi, hz0, hz1, hz2⟩ := info_parts infoOp
  have hv0 := hv
  obtain ⟨ao, cap, rfl, h1, h2, h3⟩ := hv
  unfold maxLen at h2
  have H3 : Hid _ := hv0
  clear hv0 h3
  go_enter Try.func28, Try.ntmps28
  go_wp2_with fail
  go_loopg [5, 10] os.length (fun gk pv iv wr => ∃ j n' c' : Nat, ∃ a' : Option Addr, gk + j = os.length ∧ iv = .int .i64 (j : Int) ∧ pv = .slice a' n' c' ∧ OwnO w.heap.size wr pv (fewO n (os.take j)) ∧ Below w.heap.size w wr)
  case atStart => exact ⟨0, 0, 0, none, rfl, rfl, rfl, by rw [List.take_zero, show fewO n [] = [] by simp [fewO]]; exact OwnO.nil _ _, Below.refl _ _⟩
  case round =>
    obtain ⟨j, n', c', a', hj, rfl, rfl, hO, hB⟩ := hrel
    have hrd : ArgO wr _ os := LsO.belowA (show ArgO w _ os from H3.out) hB (Nat.le_refl _)
    by_cases hlt : j < os.length
    · obtain ⟨_, _, e, _, _, h3⟩ := hrd
      cases e
      obtain ⟨b, off, rfl, xv, yv, c0, c1, c2, rx, ry⟩ := h3 j hlt
      obtain ⟨x1, x2, ex⟩ := Arg.shape rx
      obtain ⟨y1, y2, ey⟩ := Arg.shape ry
      subst ex ey
      obtain ⟨⟨ok, ol, om⟩, ho⟩ : ∃ o, os[j] = o := ⟨_, rfl⟩
      rw [ho] at c0 c1 c2 rx ry
      obtain ⟨ck, hck⟩ : ∃ ck, ol.take 80 = ck := ⟨_, rfl⟩
      obtain ⟨cv, hcv⟩ : ∃ cv, om.take 600 = cv := ⟨_, rfl⟩
      have HCK : Hid _ := hck
      have HCV : Hid _ := hcv
      have HR : Hid (j < n → fewO n (os.take (j + 1)) = fewO n (os.take j) ++ [(ok, ck, cv)]) := by intro h; rw [few_take hlt h, ho, ← hck, ← hcv]; rfl
      have hnl : (fewO n (os.take j)).length = min n j := by unfold fewO; rw [List.length_map, List.length_take, List.length_take, Nat.min_eq_left (show j ≤ os.length by omega)]
      clear hck hcv
      clear h3 ho
      have hlow := hB.size
      have hb0 := below_box wr #[.int .u8 (ok.toNat : Int), .slice x1 ol.length x2, .slice y1 om.length y2] 63
      have bx := (box_new wr (.int .u8 (ok.toNat : Int)) (.slice x1 ol.length x2) (.slice y1 om.length y2) 63).drew
      have rx0 := arg_drew (rx.below hb0 (Nat.le_refl _))
      have ry0 := arg_drew (ry.below hb0 (Nat.le_refl _))
      have hO0 := (hO.below hb0 (Nat.le_refl _)).drew
      have hB9 := hB.alloc hB.size (.cells #[.int .u8 (ok.toNat : Int), .slice x1 ol.length x2, .slice y1 om.length y2] 63)
      have hB0 := (hB.alloc hB.size (.cells #[.int .u8 (ok.toNat : Int), .slice x1 ol.length x2, .slice y1 om.length y2] 63)).drew
      have hne : some wr.heap.size ≠ (Value.slice a' n' c').ownBlock := by
        obtain ⟨cs, hrow, _⟩ := hO
        intro e
        have := (hrow.lt _ e.symm).2
        omega
      have hlen : n' = (fewO n (os.take j)).length := by
        obtain ⟨cs, hrow, _⟩ := hO
        rcases hrow.2 with ⟨e, e2⟩ | ⟨g, cap', cur, e, _⟩
        · cases e; exact e2.symm
        · cases e; rfl
      have hmm : n' = min n j := by omega
      clear rx ry hO hB hb0
      have htl : (fewO n (os.take j)).length = n' := hlen.symm
      have hnb : n' ≤ 1000 := by omega
      clear hlen hnl hmm

      by_cases hjn : j < n
      · go_wp2_with fail
        go_region_held3 (fun w' => w'.cell? ⟨wr.heap.size, 0, none⟩ = some (.int .u8 (ok.toNat : Int)) ∧ w'.cell? ⟨wr.heap.size, 1, none⟩ = some (.slice x1 ol.length x2) ∧ w'.cell? ⟨wr.heap.size, 2, none⟩ = some (.slice y1 om.length y2))
          (first | exact ⟨b4.c0, b4.c1, b4.c2⟩ | exact ⟨be.c0, be.c1, be.c2⟩ | exact ⟨by2.c0, by2.c1, by2.c2⟩ | exact ⟨bx2.c0, bx2.c1, bx2.c2⟩ | exact ⟨bx.c0, bx.c1, bx.c2⟩)
          (first
            | (go_at_call_of 21 (Value.slice x1 ol.length x2); refine (cut_any _ _ ol 80 rx0 (by omega)).mono ?_; rintro e wx ⟨x, rfl, ox, hbx⟩; rw [HCK.out] at ox; obtain ⟨gx, kx, hx⟩ := ox.shape; subst hx; have bx2 := bx.below hbx (Nat.le_refl _))
            | (go_at_call_of 21 (Value.slice y1 om.length y2); refine (cut_any _ _ om 600 (ry0.below hbx (Nat.le_refl _)) (by omega)).mono ?_; rintro e wy ⟨y, rfl, oy, hby⟩; rw [HCV.out] at oy; obtain ⟨gy, ky, hy⟩ := oy.shape; subst hy; have by2 := bx2.below hby (Nat.le_refl _); have be := by2.alloc (.cells #[.int .u8 (ok.toNat : Int), .slice (some ⟨gx, 0, none⟩) ck.length kx, .slice (some ⟨gy, 0, none⟩) cv.length ky] 63))
            | (have hbe := below_box wy #[.int .u8 (ok.toNat : Int), .slice (some ⟨gx, 0, none⟩) ck.length kx, .slice (some ⟨gy, 0, none⟩) cv.length ky] 63
               have hOe := ((hO0.below hbx (Nat.le_refl _)).below hby (Nat.le_refl _)).below hbe (Nat.le_refl _)
               have oxe := ((ox.below hby (Nat.le_refl _)).below hbe (Nat.le_refl _)).mono (C := w.heap.size) (by simp; omega)
               have oye := (oy.below hbe (Nat.le_refl _)).mono (C := w.heap.size) (by have := hbx.size; simp at this; omega)
               have hBx := hB0.trans (hbx.mono hB0.size)
               have hBy := hBx.trans (hby.mono hBx.size)
               have hBe := hBy.trans (hbe.mono hBy.size)
               obtain ⟨cs, hrow, hel⟩ := hOe
               have hsz : w.heap.size ≤ wy.heap.size := hBy.size
               refine step_append_lies _ rfl (.tmp 18) (.tmp 28) 29 rfl w.heap.size 63 i0 (.agg #[.int .u8 0, .slice none 0 0, .slice none 0 0]) 3 56 Try.underlying29 hi hz0 hz1 hz2 rfl (by decide) (.slice a' n' c') (fewO n (os.take j)).length cs rfl hrow ⟨wy.heap.size, 0, none⟩ 1 1 [.int .u8 (ok.toNat : Int), .slice (some ⟨gx, 0, none⟩) ck.length kx, .slice (some ⟨gy, 0, none⟩) cv.length ky] rfl rfl (laid3 _ _ _ _ _) (one3 _ _ _ _ _ _ _) (by decide) (by simp only [maxLen]; omega) (by omega) (by simp; omega) _ rfl ?_
               intro g4 c4 w4 hown hgrow hat hlt4
               have b4 := be.grown hgrow hne
               have hpush := own_push (ok, ck, cv) hrow hel (.inr oxe) (.inr oye) hown hgrow
               rw [htl] at hpush
               have hB4 := hBe.grown hgrow (Nat.le_trans hsz (by simp)) (fun k' e => (hrow.lt k' e).1))
            | fail)
        all_goals
          clear hO0 hB0 bx rx0 ry0 hB9
          go_wp2
          go_roundg (gk - 1)
          case measure => omega
          case rel => exact ⟨j + 1, _, c4, _, by omega, by go_num, rfl, by rw [HR.out hjn]; exact hpush, hB4⟩
      · have HN : Hid (fewO n (os.take (j + 1)) = fewO n (os.take j)) := few_stay hjn
        go_wp2
        go_roundg (gk - 1)
        case measure => omega
        case rel => exact ⟨j + 1, n', c', a', by omega, by go_num, rfl, by rw [HN.out]; exact hO0, hB9⟩
    · obtain rfl : j = os.length := by omega
      clear hrd
      go_wp2
      go_ret
      exact ⟨_, rfl, by rw [List.take_length] at hO; exact hO, hB⟩

end Go.Proofs.Ythcoblmfmbmdkaa

/- For MemoBatches: heights, a batch's ops one by one. -/
namespace Go.Proofs.Ythcoblmfmbmdkaa
set_option maxRecDepth 20000
open Go.RowKit
set_option linter.unusedVariables false
set_option linter.unusedSimpArgs false

/-- heights out of bytes -/
def hgt (l : List UInt8) (j : Nat) : List Int := ((l.take j).take 66).map fun x => 1 + ((x.toNat % 8 : Nat) : Int)

theorem hgt_next {l : List UInt8} {j : Nat} (h : j < l.length) (h2 : j < 66) : hgt l (j + 1) = hgt l j ++ [1 + ((l[j].toNat % 8 : Nat) : Int)] := by
  unfold hgt
  rw [List.take_succ_eq_append_getElem h, List.take_append, List.map_append]
  have e1 : (l.take j).length = j := by rw [List.length_take]; omega
  rw [e1, List.take_of_length_le (l := [l[j]]) (by simp; omega)]
  rfl

theorem hgt_stay {l : List UInt8} {j : Nat} (h : j < l.length) (h2 : ¬ j < 66) : hgt l (j + 1) = hgt l j := by
  unfold hgt
  rw [List.take_take, List.take_take, Nat.min_eq_left (by omega), Nat.min_eq_left (by omega)]

theorem hgt_len (l : List UInt8) (j : Nat) : (hgt l j).length ≤ 66 := by
  unfold hgt
  rw [List.length_map, List.length_take]
  omega

/-- a row of heights -/
def RowI (B : Nat) (w : World) (v : Value) (hs : List Int) : Prop := w.ownsRow B 3 1 v hs.length (hs.map fun h => Value.int .i64 h)

theorem RowI.below {B : Nat} {w w' : World} {v : Value} {hs : List Int} (h : RowI B w v hs) (hb : Below w.heap.size w w') : RowI B w' v hs := row_below h hb

/-- it is read, whatever is done elsewhere -/
theorem RowI.rdi {B : Nat} {w : World} {v : Value} {hs : List Int} (h : RowI B w v hs) : ∃ a c, v = .slice a hs.length c ∧ ((a = none ∧ c = 0) ∨ ∃ b off, a = some ⟨b, off, none⟩) ∧ hs.length ≤ c ∧ ∀ (F : Nat → Prop) (W : World), Keeps F w W → (∀ q, B ≤ q → ¬ F q) → RdI W a hs.length hs := by
  have h0 := h
  rcases h.2 with ⟨e, hn⟩ | ⟨g, cap, cur, e, hg, _, h1, h2, _⟩
  · exact ⟨none, 0, by rw [e, hn], .inl ⟨rfl, rfl⟩, by omega, fun F W _ _ => ⟨rfl, fun j hj => absurd hj (by omega)⟩⟩
  · subst e
    refine ⟨_, cap, rfl, .inr ⟨g, 0, rfl⟩, h1, fun F W hk hF => ⟨rfl, fun j hj => ⟨g, 0, rfl, ?_⟩⟩⟩
    rw [Nat.zero_add]
    refine hk.cell (p := ⟨g, j, none⟩) (hF g hg) ?_
    rw [World.ownsRow.cellAt h0 j (by omega)]
    rw [List.getElem?_map, List.getElem?_eq_getElem hj]
    simp [List.getD_eq_getElem?_getD, List.getElem?_eq_getElem hj]

theorem infoI : (Try.prog.info? 3).map (fun i => (i.zero, i.size, i.bytes)) = some (some (.int .i64 0), 1, 8) := by kernel_rfl

theorem laidI1 (w : World) (v0 : Value) (t : TypeId) : ∀ j u, [v0][j]? = some u → (w.alloc (.cells #[v0] t)).cell? ((⟨w.heap.size, 0, none⟩ : Addr).add j) = some u := by
  intro j u hu
  rw [Addr.add_lit, Nat.zero_add]
  have hg : (w.alloc (.cells #[v0] t)).heap[w.heap.size]? = some (.cells #[v0] t) := heap_alloc_new w _
  rw [cell_of_row _ _ j _ _ _ hg]
  simpa using hu

/-- the ops' numbers are right one by one -/
theorem batC_one {fs : List OpB} {o : OpB} {s j : Nat} {last : Int} (hc : chkL fs = 0) (ho : o ∈ fs) (hn : hasN (s : Int) (fs.length : Int) = true) (hj : j < fs.length) (hl : last < ((s + j : Nat) : Int)) : batC [o] ((s + j : Nat) : Int) [1] last = 0 := by
  obtain ⟨_, h2⟩ := chkL_mem hc
  have h3 : chkL [o] = 0 := by
    unfold chkL
    rw [if_neg (by simp)]
    unfold chkOps
    rw [if_pos (h2 o ho)]
    rfl
  unfold hasN at hn
  have h4 := of_decide_eq_true hn
  have h5 : hasN ((s + j : Nat) : Int) (([o].length : Nat) : Int) = true := by
    unfold hasN
    refine decide_eq_true ⟨by omega, by omega, ?_⟩
    simp
    omega
  unfold batC
  rw [if_pos h3, if_pos h5, if_neg (by simp [noHt]), if_neg (by omega)]

theorem batC_zero {os : List OpB} {s : Int} {hs : List Int} {last : Int} (h : batC os s hs last = 0) : chkL os = 0 ∧ hasN s os.length = true ∧ last < s := by
  unfold batC at h
  by_cases h1 : chkL os = 0
  · rw [if_pos h1] at h
    by_cases h2 : hasN s os.length = true
    · rw [if_pos h2] at h
      by_cases h3 : (hs.take os.length).any noHt = true
      · rw [if_pos h3] at h; cases h
      · rw [if_neg h3] at h
        by_cases h4 : s ≤ last
        · rw [if_pos h4] at h; cases h
        · exact ⟨h1, h2, by omega⟩
    · rw [if_neg h2] at h; cases h
  · rw [if_neg h1] at h; exact absurd h h1

theorem verO_lens {fs : List OpB} {s : Nat} (h : chkL fs = 0) : ∀ e ∈ verO fs s, e.1.length ≤ 1000 ∧ e.2.2.2.length ≤ 1000 := by
  intro e he
  obtain ⟨o, ho, e1, e2⟩ := verO_mem he
  obtain ⟨_, h1, h2, h3, _⟩ := chkOp_len ((chkL_mem h).2 o ho)
  rw [e1, e2]
  omega

theorem spnO_lens {fs : List OpB} {s : Nat} (h : chkL fs = 0) : ∀ e ∈ spnO fs s, e.1.length ≤ 1000 ∧ e.2.1.length ≤ 1000 := by
  intro e he
  obtain ⟨o, ho, e1, e2⟩ := spnO_mem he
  obtain ⟨_, h1, h2, h3, _⟩ := chkOp_len ((chkL_mem h).2 o ho)
  rw [e1, e2]
  omega

/-- b, behind j of the ops -/
def BatB (PB : Nat → Prop) (W6 wr : World) (b : Nat) (fs : List OpB) (s j : Nat) : Prop :=
  Keeps PB W6 wr ∧ ∃ LB : List EnB, LB.Perm (verO (fs.take j) s) ∧ MmP (fun q => PB q ∨ W6.heap.size ≤ q) wr b LB (spnO (fs.take j) s) (if j = 0 then 0 else ((s + j - 1 : Nat) : Int))

theorem BatB.next {PB : Nat → Prop} {W6 wr W W' : World} {b : Nat} {fs : List OpB} {s j : Nat} {LB : List EnB} {e : Ending} {last : Int} (h1 : Keeps PB W6 wr) (h2 : LB.Perm (verO (fs.take j) s)) (hj : j < fs.length) (hb : Below wr.heap.size wr W)
    (hq : BatQ (fun q => PB q ∨ W6.heap.size ≤ q) W b LB (spnO (fs.take j) s) last [fs[j]] (s + j) 0 e W') : BatB PB W6 W' b fs s (j + 1) := by
  obtain ⟨_, hk, _, h4⟩ := hq
  obtain ⟨L2, hp, hM⟩ := h4 rfl
  have hjl : (fs.take j).length = j := by rw [List.length_take]; omega
  have htk : fs.take (j + 1) = fs.take j ++ [fs[j]] := List.take_succ_eq_append_getElem hj
  have hk2 : Keeps PB W6 W' := (h1.then (Below.keeps hb (fun _ => False)) (fun i hi => hi.elim)).then hk (fun i hi => hi)
  have hs : W6.heap.size ≤ W.heap.size := Nat.le_trans h1.size hb.size
  refine ⟨hk2, L2, ?_, ?_⟩
  · rw [htk, verO_snoc, hjl]
    have e1 : verO [fs[j]] (s + j) = if fs[j].1 = 3 then [] else [(fs[j].2.1, s + j, fs[j].1, fs[j].2.2)] := by
      by_cases h : fs[j].1 = 3 <;> simp [verO, h]
    rw [← e1]
    exact hp.trans (h2.append_right _)
  · rw [htk, spnO_snoc, hjl]
    have e1 : spnO [fs[j]] (s + j) = if fs[j].1 = 3 then [(fs[j].2.1, fs[j].2.2, s + j)] else [] := by
      by_cases h : fs[j].1 = 3 <;> simp [spnO, h]
    rw [← e1, if_neg (by omega)]
    have h9 := hM.mono (Q := fun q => PB q ∨ W6.heap.size ≤ q) (fun q _ hq => hq.elim id (fun h8 => .inr (Nat.le_trans hs h8)))
    simpa using h9

/-- what came in, by places that are told -/
theorem Arg.lit10 {w : World} {v : Value} {l : List UInt8} (h : Arg w v l) : ∃ a c, v = .slice a l.length c ∧ l.length ≤ c ∧ c ≤ 9223372036854775807 ∧ ∀ j (hj : j < l.length), ∃ b off, a = some ⟨b, off, none⟩ ∧ w.cell? ⟨b, off + j, none⟩ = some (.int .u8 (l[j].toNat : Int)) := by
  rcases h with ⟨rfl, rfl⟩ | ⟨a, cap, rfl, h1, h2, h3⟩
  · exact ⟨none, 0, rfl, by simp, by omega, fun j hj => by simp at hj⟩
  · refine ⟨some a, cap, rfl, h1, by unfold maxLen at h2; omega, fun j hj => ?_⟩
    have hc := h3 j _ (bv_get l j hj)
    have hc0 := h3 0 _ (bv_get l 0 (by omega))
    have hs : a.spot = none := by simpa [Addr.add] using World.cell?_spot hc0
    obtain ⟨b, off, sp⟩ := a
    simp only at hs
    subst hs
    exact ⟨b, off, rfl, by rw [Addr.add_lit] at hc; exact hc⟩

end Go.Proofs.Ythcoblmfmbmdkaa

/- bartizanref10.Do. -/
namespace Go.Proofs.Ythcoblmfmbmdkaa
set_option maxRecDepth 100000
open Go.RowKit
set_option linter.unusedVariables false
set_option linter.unusedSimpArgs false

/-- what the document's Do and Batch leave -/
def R10Post (G : Nat → Prop) (w : World) (x : Nat) (os : List OpB) (ns : List Nat) (ps : List OpB) (s : Nat) (c : Int) (e : Ending) (w' : World) : Prop :=
  e = .returned (.int .i64 c) ∧ Keeps G w w' ∧ (c ≠ 0 → Below w.heap.size w w') ∧ (c = 0 → ∃ G' : Nat → Prop, RefM G' w' x (os ++ ps) (ns ++ List.range' s ps.length) ∧ ∀ q, G' q → G q ∨ w.heap.size ≤ q)

theorem r10Post_no {G : Nat → Prop} {w w' : World} {x s : Nat} {os ps : List OpB} {ns : List Nat} {c d : Int} (hb : Below w.heap.size w w') (hd : d = c) (hc : c ≠ 0) : R10Post G w x os ns ps s c (.returned (.int .i64 d)) w' :=
  ⟨by rw [hd], Below.keeps hb _, fun _ => hb, fun h => absurd h hc⟩

theorem chkL_one (o : OpB) : chkL [o] = chkOp (o.1.toNat : Int) o.2.1 o.2.2 := by
  unfold chkL
  rw [if_neg (by simp)]
  unfold chkOps
  by_cases h : chkOp (o.1.toNat : Int) o.2.1 o.2.2 = 0
  · rw [if_pos h, h]; rfl
  · rw [if_neg h]

theorem infoU10 : (Try.prog.info? 33).map (fun i => (i.zero, i.size, i.bytes)) = some (some (.int .u64 0), 1, 8) := by kernel_rfl

theorem Box.drewN {w : World} {b : Nat} {v0 v1 v2 : Value} (h : Box w b v0 v1 v2) (n : Nat) : Box (w.drewN n) b v0 v1 v2 := ⟨h.c0, h.c1, h.c2, h.f0, h.f1, h.f2⟩

theorem argo_lit10 (w : World) (x y : Value) (l m : List UInt8) (k : UInt8) (i : Int) (hi : (k.toNat : Int) = i) (hx : Rd w x l) (hy : Rd w y m) :
    ArgO (w.alloc (.cells #[.int .u8 i, x, y] 63)) (.slice (some ⟨w.heap.size, 0, none⟩) 1 1) [(k, l, m)] := by
  have hb := below_box w #[.int .u8 i, x, y] 63
  have b := box_new w (.int .u8 i) x y 63
  refine ⟨_, 1, rfl, by simp, by simp [maxLen], fun j h => ?_⟩
  have hj : j = 0 := by simp at h; omega
  subst hj
  exact ⟨w.heap.size, 0, rfl, x, y, by rw [← hi] at b; rw [← hi]; exact b.c0, b.c1, b.c2, (hx.below hb (Nat.le_refl _)).arg, (hy.below hb (Nat.le_refl _)).arg⟩

theorem row_slice10 {w : World} {B n s : Nat} {e : TypeId} {v : Value} {cs : List Value} (h : w.ownsRow B e s v n cs) : ∃ a c, v = .slice a n c := by
  rcases h.2 with ⟨e, hn⟩ | ⟨g, cap, cur, e, _⟩
  · exact ⟨_, _, by rw [e, hn]⟩
  · exact ⟨_, _, e⟩

theorem own_one10 {B : Nat} {w : World} {y : Value} {k : UInt8} {l m : List UInt8} (h : OwnO B w y [(k, l, m)]) : ∃ g c a1 a2 b1 b2, y = .slice (some ⟨g, 0, none⟩) 1 c ∧ w.ownsRow B 63 3 (.slice (some ⟨g, 0, none⟩) 1 c) 1 [.int .u8 (k.toNat : Int), .slice a1 l.length a2, .slice b1 m.length b2] ∧ OwnN B w (.slice a1 l.length a2) l ∧ OwnN B w (.slice b1 m.length b2) m ∧ 1 ≤ c := by
  obtain ⟨cs, hr, he⟩ := h
  obtain ⟨x, y', c0, c1, c2, ox, oy⟩ := he 0 (by simp)
  simp only [Nat.zero_mul, Nat.zero_add, List.getElem_cons_zero] at c0 c1 c2 ox oy
  obtain ⟨a1, a2, ea⟩ := ox.rd.len
  obtain ⟨b1, b2, eb⟩ := oy.rd.len
  subst ea eb
  have hl : cs.length = 3 := hr.1
  have hcs : cs = [.int .u8 (k.toNat : Int), .slice a1 l.length a2, .slice b1 m.length b2] := by
    match cs, hl with
    | [p, q, r], _ =>
      simp at c0 c1 c2
      rw [c0, c1, c2]
  subst hcs
  rcases hr.2 with ⟨_, hn⟩ | ⟨g, cap, cur, e, _, _, h1, _⟩
  · simp at hn
  · subst e
    exact ⟨g, cap, a1, a2, b1, b2, rfl, hr, ox, oy, h1⟩

/-- one op, as the document asks of it -/
theorem batC_do (o : OpB) (s hh last : Int) : batC [o] s [hh] last = if chkOp (o.1.toNat : Int) o.2.1 o.2.2 = 0 then (if 1 ≤ s ∧ s ≤ 72057594037927935 then (if hh < 1 ∨ 8 < hh then 1 else if s ≤ last then 10 else 0) else 13) else chkOp (o.1.toNat : Int) o.2.1 o.2.2 := by
  unfold batC
  rw [chkL_one]
  have e1 : (hasN s (([o].length : Nat) : Int) = true) = (1 ≤ s ∧ s ≤ 72057594037927935) := by
    unfold hasN
    rw [decide_eq_true_eq]
    simp
  have e2 : ((List.take [o].length [hh]).any noHt = true) = (hh < 1 ∨ 8 < hh) := by
    simp [noHt]
  simp only [e1, e2]

set_option maxHeartbeats 4000000 in
theorem r10do_any (G : Nat → Prop) (w : World) (x : Nat) (os : List OpB) (ns : List Nat) (k : UInt8) (xv yv : Value) (kl vl : List UInt8) (s : Nat) (hh : Int) (h : RefM G w x os ns) (hx : Rd w xv kl) (hy : Rd w yv vl) (hkl : kl.length ≤ 1000000) (hvl : vl.length ≤ 1000000) (hn : os.length ≤ 100000) (hn2 : ns.length ≤ 100000) (hs64 : s < 18446744073709551616) :
    Calls Try.prog 36 #[.pointer (some ⟨x, 0, none⟩), .agg #[.int .u8 (k.toNat : Int), xv, yv], .int .u64 (s : Int), .int .i64 hh] w (R10Post G w x os ns [(k, kl, vl)] s (batC [(k, kl, vl)] (s : Int) [hh] (lastN ns : Int))) := by
  have he := eqRm x
  obtain ⟨i0, hi, hz0, hz1, hz2⟩ := info_parts infoOp
  obtain ⟨j0, hj, hy0, hy1, hy2⟩ := info_parts infoU10
  obtain ⟨xa, xc, rfl⟩ := hx.len
  obtain ⟨ya, yc, rfl⟩ := hy.len
  obtain ⟨nl, hnl⟩ : ∃ nl, kl.length = nl := ⟨_, rfl⟩
  obtain ⟨ml, hml⟩ : ∃ ml, vl.length = ml := ⟨_, rfl⟩
  obtain ⟨kk, hkk⟩ : ∃ kk : Int, (k.toNat : Int) = kk := ⟨_, rfl⟩
  obtain ⟨LA, hla⟩ : ∃ LA : Int, (lastN ns : Int) = LA := ⟨_, rfl⟩
  obtain ⟨S, hS⟩ : ∃ S : Int, (s : Int) = S := ⟨_, rfl⟩
  have HSN : Hid ((s : Int) = S) := hS
  obtain ⟨c, hc⟩ : ∃ c, batC [(k, kl, vl)] (s : Int) [hh] (lastN ns : Int) = c := ⟨_, rfl⟩
  rw [hc, hS]
  rw [hnl] at hx ⊢
  rw [hml] at hy ⊢
  have hb0 := below_box w #[.int .u8 kk, .slice xa nl xc, .slice ya ml yc] 63
  have HB0 : Hid (Below w.heap.size w (w.alloc (.cells #[.int .u8 kk, .slice xa nl xc, .slice ya ml yc] 63))) := hb0
  have BX := box_new w (.int .u8 kk) (.slice xa nl xc) (.slice ya ml yc) 63
  obtain ⟨d, hd⟩ : ∃ d, chkOp (k.toNat : Int) kl vl = d := ⟨_, rfl⟩
  have hck := refcheckop_any (w.alloc (.cells #[.int .u8 kk, .slice xa nl xc, .slice ya ml yc] 63)) (.slice xa nl xc) (.slice ya ml yc) kl vl kk d (by omega) (hx.below hb0 (Nat.le_refl _)) (hy.below hb0 (Nat.le_refl _)) (by rw [← hkk]; exact hd)
  have HC : Hid (c = if d = 0 then (if 1 ≤ S ∧ S ≤ 72057594037927935 then (if hh < 1 ∨ 8 < hh then 1 else if S ≤ LA then 10 else 0) else 13) else d) := by
    show _ = _
    rw [← hc, batC_do, hla, hS]
    simp only [hd]
  have HX : Hid (∀ W, Below w.heap.size w W → Rd W (.slice xa nl xc) kl ∧ Rd W (.slice ya ml yc) vl ∧ RefM G W x os ns) := fun W hW => ⟨hx.below hW (Nat.le_refl _), hy.below hW (Nat.le_refl _), h.below hW⟩
  have HD : Hid (chkOp (k.toNat : Int) kl vl = d) := hd
  have HLA : Hid ((lastN ns : Int) = LA) := hla
  rw [hkk]
  have HKK : Hid ((k.toNat : Int) = kk ∧ kl.length = nl ∧ vl.length = ml) := ⟨hkk, hnl, hml⟩
  have BX' := BX
  obtain ⟨z0, z1, z2, _, _, _⟩ := BX'
  clear hc hd hla hx hy h hb0 hnl hml hkk hS
  go_enter Try.func36, Try.ntmps36
  go_wp2_with fail
  refine hck.mono ?_
  rintro e w1 ⟨rfl, hb1⟩
  have HB1 : Hid (Below w.heap.size w w1) := bsplit HB0.out hb1
  have B1 := BX.below hb1 (Nat.le_refl _)
  clear hck BX z0 z1 z2 hb1
  by_cases h0 : d = 0
  · subst h0
    by_cases hs1 : 1 ≤ S ∧ S ≤ 72057594037927935
    · have hs1a : ¬ S < 1 := by omega
      have hs1b : S < 72057594037927936 := by omega
      have hs1c : ¬ (72057594037927936 : Int) ≤ S := by omega
      by_cases hh1 : hh < 1 ∨ 8 < hh
      · have hc1 : c = 1 := by rw [HC.out, if_pos rfl, if_pos hs1, if_pos hh1]
        rcases hh1 with hh1 | hh1
        · go_wp2
          go_ret
          exact r10Post_no HB1.out hc1.symm (by rw [hc1]; omega)
        · have hh2 : ¬ hh < 1 := by omega
          go_wp2
          go_ret
          exact r10Post_no HB1.out hc1.symm (by rw [hc1]; omega)
      · have hh1a : ¬ hh < 1 := by omega
        have hh1b : ¬ 8 < hh := by omega
        have HC2 : Hid (c = if S ≤ LA then 10 else 0) := by show _ = _; rw [HC.out, if_pos rfl, if_pos hs1, if_neg hh1]
        have hla := rlast_any G w1 x os ns (HX.out w1 HB1.out).2.2 (by omega)
        rw [HLA.out] at hla
        go_wp2_with fail
        refine hla.mono ?_
        rintro e w2 ⟨rfl, nn, hw2⟩
        have HB2 : Hid (Below w.heap.size w w2) := by rw [hw2]; exact below_drewN HB1.out _
        have B2 : Box w2 w.heap.size (.int .u8 kk) (.slice xa nl xc) (.slice ya ml yc) := by rw [hw2]; exact B1.drewN nn
        clear hla hw2 B1
        by_cases hle : S ≤ LA
        · have hc1 : c = 10 := by rw [HC2.out, if_pos hle]
          go_wp2
          go_ret
          exact r10Post_no HB2.out hc1.symm (by rw [hc1]; omega)
        · have hc1 : c = 0 := by rw [HC2.out, if_neg hle]
          have HCZ : Hid (c = 0) := hc1
          have HBD : Hid (Below w.heap.size w w2.drew) := HB2.out.drew
          have hlb := (below_box4 w2 (.cells #[.int .u8 kk, .slice xa nl xc, .slice ya ml yc] 63)).drew
          have hcp := opcopy_any (w2.alloc (.cells #[.int .u8 kk, .slice xa nl xc, .slice ya ml yc] 63)).drew (.slice (some ⟨w2.heap.size, 0, none⟩) 1 1) [(k, kl, vl)] (show ArgO (w2.alloc (.cells #[.int .u8 kk, .slice xa nl xc, .slice ya ml yc] 63)).drew _ _ from argo_lit10 w2 (.slice xa nl xc) (.slice ya ml yc) kl vl k kk HKK.out.1 (HX.out _ HB2.out).1 (HX.out _ HB2.out).2.1) (by simp) (by intro o ho; simp at ho; subst ho; exact ⟨hkl, hvl⟩)
          obtain ⟨v, u, cs, hbx, hrow, hel, hu, g0, g1, g2, g3, g4'⟩ := (HX.out _ HB2.out).2.2
          obtain ⟨va, vc, ev⟩ := row_slice10 hrow
          subst ev
          obtain ⟨N, hN⟩ : ∃ N, os.length = N := ⟨_, rfl⟩
          rw [hN] at hbx hrow g1 hn
          have HN : Hid (os.length = N) := hN
          have tb : w2.drew.cell? ⟨x, 0, none⟩ = some (.slice va N vc) := hbx.c0
          have tc := (hlb.cell (p := ⟨x, 0, none⟩) hbx.lt).trans hbx.c0
          have HRF : Hid (Bx2 w2 x (.slice va N vc) u ∧ w2.ownsRow 0 63 3 (.slice va N vc) N cs ∧ ElO w2 os cs ∧ w2.ownsRow 0 33 1 u ns.length (ns.map encU)) := ⟨hbx, hrow, hel, hu⟩
          have HGS : Hid (G x ∧ (∀ q, (Value.slice va N vc).ownBlock = some q → G q) ∧ (∀ z ∈ cs, ∀ q, z.ownBlock = some q → G q) ∧ (∀ q, u.ownBlock = some q → G q) ∧ ∀ q, G q → q < w2.heap.size) := ⟨g0, g1, g2, g3, g4'⟩
          have HLB : Hid (Below w2.heap.size w2 (w2.alloc (.cells #[.int .u8 kk, .slice xa nl xc, .slice ya ml yc] 63)).drew) := hlb
          have HL1 : Hid ((w2.alloc (.cells #[.int .u8 kk, .slice xa nl xc, .slice ya ml yc] 63)).drew.heap.size = w2.heap.size + 1) := by show _ = _; simp
          have bs := B2.drew
          obtain ⟨z0, z1, z2, _, _, _⟩ := bs
          clear hN hbx hrow hel hu g0 g1 g2 g3 g4' B2 hc1 HC HC2 hlb
          go_wp2_with fail
          go_region_law
            (first
              | (go_simp
                 go_at_call 35
                 refine Calls.mono hcp ?_
                 rintro e w3 ⟨y, rfl, oy, hb3⟩
                 obtain ⟨gy, cy, a1, a2, b1, b2, rfl, ry, ra, rb, hcy⟩ := own_one10 oy
                 rw [HKK.out.2.1] at ry ra
                 rw [HKK.out.2.2] at ry rb
                 simp only [HKK.out.1] at ry
                 have HB3 : Hid (Below w2.heap.size w2 w3) := bsplit HLB.out hb3
                 have t3 : w3.cell? ⟨x, 0, none⟩ = some (.slice va N vc) := (HB3.out.cell (p := ⟨x, 0, none⟩) HRF.out.1.lt).trans HRF.out.1.c0
                 clear hcp)
              | (have hrow3 := row_below HRF.out.2.1 HB3.out
                 have hB3s := HB3.out.size
                 refine step_append_lies _ rfl (.tmp 37) (.tmp 40) 29 rfl 0 63 i0 (.agg #[.int .u8 0, .slice none 0 0, .slice none 0 0]) 3 56 Try.underlying29 hi hz0 hz1 hz2 rfl (by decide) (.slice va N vc) N cs rfl hrow3 ⟨gy, 0, none⟩ 1 cy [.int .u8 kk, .slice a1 nl a2, .slice b1 ml b2] rfl rfl (ry.cells rfl) (one3 _ _ _ _ _ _ _) (by decide) (by simp only [maxLen]; omega) (by omega) (Nat.zero_le _) _ rfl ?_
                 intro g4 c4 w4 hown hgrow hat hlt4
                 have HP4 : Hid (RefM (fun q => (G q ∨ w2.heap.size ≤ q) ∧ q < w4.heap.size) (w4.setCell ⟨x, 0, none⟩ (.slice (some ⟨g4, 0, none⟩) (N + 1) c4)) x (os ++ [(k, kl, vl)]) ns ∧ Keeps G w2 (w4.setCell ⟨x, 0, none⟩ (.slice (some ⟨g4, 0, none⟩) (N + 1) c4))) := by
                   have e9 := HN.out
                   subst e9
                   have hbx3 : Bx2 w3 x (.slice va os.length vc) u := (HB3.out.block x HRF.out.1.lt).trans HRF.out.1
                   have hel3 : ElO w3 os cs := HRF.out.2.2.1.same (fun z hz q hq => HB3.out.block q (HGS.out.2.2.2.2 q (HGS.out.2.2.1 z hz q hq)))
                   have hu3 := row_below HRF.out.2.2.2 HB3.out
                   have hsL : w2.heap.size ≤ (w2.alloc (.cells #[.int .u8 kk, .slice xa nl xc, .slice ya ml yc] 63)).drew.heap.size := by rw [HL1.out]; omega
                   have hown9 := hown
                   rw [← HKK.out.1] at hown9
                   refine ⟨refM_op (o := (k, kl, vl)) hB3s hbx3 hrow3 hel3 hu3 HGS.out.1 HGS.out.2.2.1 HGS.out.2.2.2.1 (fun q hq => Nat.lt_of_lt_of_le (HGS.out.2.2.2.2 q hq) hB3s) (ra.mono hsL) (rb.mono hsL) hown9 hgrow ⟨?_, hlt4⟩, (keeps_of (t := x) HB3.out hgrow HGS.out.2.1).setCell (p := ⟨x, 0, none⟩) HGS.out.1 _⟩
                   rcases hat with h9 | h9
                   · exact .inl (HGS.out.2.1 _ h9)
                   · exact .inr (by rw [h9]; exact hB3s)
                 have hx4 : Bx2 w4 x (.slice va N vc) u := (hgrow.block x (Nat.lt_of_lt_of_le HRF.out.1.lt HB3.out.size) (Bx2.not_row (w := w3) ((HB3.out.block x HRF.out.1.lt).trans HRF.out.1) (by decide) hrow3)).trans ((HB3.out.block x HRF.out.1.lt).trans HRF.out.1)
                 have t4 := hx4.c0
                 have f4 := hx4.f0
                 clear hown hgrow hat hlt4 hrow3 hx4 ry ra rb oy)
              | fail)
          all_goals
            obtain ⟨v5, u5, cs5, hbx5, hrow5, hel5, hu5, k0, k1, k2, k3, k4⟩ := HP4.out.1
            obtain ⟨ua, uc, eu⟩ := row_slice10 hu5
            subst eu
            obtain ⟨M, hM⟩ : ∃ M, ns.length = M := ⟨_, rfl⟩
            obtain ⟨w5, hw5⟩ : ∃ w5, w4.setCell ⟨x, 0, none⟩ (.slice (some ⟨g4, 0, none⟩) (N + 1) c4) = w5 := ⟨_, rfl⟩
            rw [hw5] at HP4 hbx5 hrow5 hel5 hu5 k4
            rw [hM] at hbx5 hu5 hn2 k3
            have HMM : Hid (ns.length = M) := hM
            have hle5 := below_box4 w5 (.cells #[.int .u64 S] 33)
            have hlit := laidI1 w5 (.int .u64 S) 33
            have hrow6 := row_below hu5 hle5
            have x1 := hbx5.c1
            have hx6 : Bx2 (w5.alloc (.cells #[.int .u64 S] 33)) x v5 (.slice ua M uc) := (hle5.block x hbx5.lt).trans hbx5
            have HK5 : Hid (Keeps G w w5) := (Below.keeps HB2.out G).trans HP4.out.2
            have HPS : Hid (∀ g6 c6 w6, w6.ownsRow 0 33 1 (.slice (some ⟨g6, 0, none⟩) (M + 1) c6) (M + 1) (ns.map encU ++ [.int .u64 S]) → (w5.alloc (.cells #[.int .u64 S] 33)).grownBy w6 (Value.slice ua M uc).ownBlock → ((Value.slice ua M uc).ownBlock = some g6 ∨ g6 = (w5.alloc (.cells #[.int .u64 S] 33)).heap.size) → g6 < w6.heap.size → (Bx2 w6 x v5 (.slice ua M uc)) ∧ R10Post G w x os ns [(k, kl, vl)] s c (.returned (.int .i64 0)) (w6.setCell ⟨x, 1, none⟩ (.slice (some ⟨g6, 0, none⟩) (M + 1) c6))) := by
              intro g6 c6 w6 hown hgrow hat hlt6
              have hx66 : Bx2 w6 x v5 (.slice ua M uc) := (hgrow.block x hx6.lt (hx6.not_row (by decide) hrow6)).trans hx6
              refine ⟨hx66, ?_⟩
              have e9 := HMM.out
              subst e9
              have hs5 : w2.heap.size ≤ w5.heap.size := HP4.out.2.size
              have hs6 := hle5.size
              have hsw := HB2.out.size
              have hown9 := hown
              rw [← HSN.out] at hown9
              have hkk : Keeps G w (w6.setCell ⟨x, 1, none⟩ (.slice (some ⟨g6, 0, none⟩) (ns.length + 1) c6)) := (HK5.out.then (keeps_of (G := fun q => (G q ∨ w2.heap.size ≤ q) ∧ q < w4.heap.size) (t := x) hle5 hgrow k3) (fun i hi => hi.1.imp id (fun h9 => Nat.le_trans hsw h9))).setCell (p := ⟨x, 1, none⟩) HGS.out.1 _
              refine ⟨by rw [HCZ.out], hkk, fun h9 => absurd HCZ.out h9, fun _ => ⟨_, refM_seq (B := w2.heap.size) (s := s) (Nat.le_trans hs5 hs6) hx6 (row_below hrow5 hle5) (hel5.same (fun z hz q hq => hle5.block q (k4 q (k2 z hz q hq)))) hrow6 k0 k1 k2 (fun q hq => Nat.lt_of_lt_of_le (k4 q hq) hs6) hown9 hgrow ⟨?_, hlt6⟩, fun q hq => ?_⟩⟩
              · rcases hat with h9 | h9
                · exact .inl (k3 _ h9)
                · exact .inr (by rw [h9]; omega)
              · rcases hq.1 with h9 | h9
                · exact h9.1.imp id (fun h8 => Nat.le_trans hsw h8)
                · exact .inr (Nat.le_trans hsw h9)
            have HX6 : Hid (w5.heap.size ≤ (w5.alloc (.cells #[.int .u64 S] 33)).heap.size) := hle5.size
            clear hbx5 hrow5 hel5 hu5 k0 k1 k2 k3 k4 hM hle5 HP4 HK5
            go_wp2_with (first | (at_builtin; refine wpList_append_lies _ rfl (.tmp 48) (.tmp 50) 24 rfl 0 33 j0 (.int .u64 0) 1 8 Try.underlying24 hj hy0 hy1 hy2 rfl (by decide) (.slice ua M uc) M (ns.map encU) rfl hrow6 ⟨w5.heap.size, 0, none⟩ 1 1 [.int .u64 S] rfl rfl hlit (by intro u hu; simp at hu; rw [hu]; rfl) (by decide) (by simp only [maxLen]; omega) (by omega) (Nat.zero_le _) _ rfl ?_; intro g6 c6 w6 hown hgrow hat hlt6; have HP6 : Hid _ := HPS.out g6 c6 w6 hown hgrow hat hlt6; have y1 := HP6.out.1.c1; have y2 := HP6.out.1.f1; clear hown hgrow hat hlt6) | fail)
            go_wp2
            go_ret
            exact HP6.out.2
    · have hc1 : c = 13 := by rw [HC.out, if_pos rfl, if_neg hs1]
      by_cases hs2 : S < 1
      · go_wp2
        go_ret
        exact r10Post_no HB1.out hc1.symm (by rw [hc1]; omega)
      · have hs3 : (72057594037927936 : Int) ≤ S := by omega
        go_wp2
        go_ret
        exact r10Post_no HB1.out hc1.symm (by rw [hc1]; omega)
  · have hc1 : c = d := by rw [HC.out, if_neg h0]
    have hdb : (d != 0) = true := by simp [h0]
    have hdb2 : (d == 0) = false := by simp [h0]
    go_wp2
    go_ret
    exact r10Post_no HB1.out hc1.symm (by rw [hc1]; exact h0)

end Go.Proofs.Ythcoblmfmbmdkaa

/- bartizanref10.Batch. -/
namespace Go.Proofs.Ythcoblmfmbmdkaa
set_option maxRecDepth 100000
open Go.RowKit
set_option linter.unusedVariables false
set_option linter.unusedSimpArgs false

/-- behind j of the ops -/
def R10I (G : Nat → Prop) (w : World) (x : Nat) (os : List OpB) (ns : List Nat) (ps : List OpB) (s j : Nat) (wr : World) : Prop :=
  Keeps G w wr ∧ ∃ G1 : Nat → Prop, RefM G1 wr x (os ++ ps.take j) (ns ++ List.range' s j) ∧ ∀ q, G1 q → G q ∨ w.heap.size ≤ q

theorem R10I.next {G G1 : Nat → Prop} {w wr w' : World} {x s j : Nat} {os ps : List OpB} {ns : List Nat} {e : Ending} (hk : Keeps G w wr) (hG : ∀ q, G1 q → G q ∨ w.heap.size ≤ q) (hj : j < ps.length) (h : R10Post G1 wr x (os ++ ps.take j) (ns ++ List.range' s j) [ps[j]] (s + j) 0 e w') : R10I G w x os ns ps s (j + 1) w' := by
  obtain ⟨_, hk2, _, h4⟩ := h
  obtain ⟨G2, h5, h6⟩ := h4 rfl
  refine ⟨hk.then hk2 hG, G2, ?_, fun q hq => (h6 q hq).elim (hG q) (fun h9 => .inr (Nat.le_trans hk.size h9))⟩
  have e1 : ps.take (j + 1) = ps.take j ++ [ps[j]] := List.take_succ_eq_append_getElem hj
  have e2 : List.range' s (j + 1) = List.range' s j ++ [s + j] := by rw [List.range'_concat]; simp
  rw [e1, e2, ← List.append_assoc, ← List.append_assoc]
  exact h5

theorem any_take_over {hs : List Int} {j : Nat} (h : hs.length ≤ j) : (hs.take (j + 1)).any noHt = (hs.take j).any noHt := by
  rw [List.take_of_length_le h, List.take_of_length_le (by omega)]

theorem any_take_true {hs : List Int} {j K : Nat} (h : j < hs.length) (hK : j < K) (hz : noHt (hs.getD j 0) = true) : (hs.take K).any noHt = true := by
  rw [List.any_eq_true]
  refine ⟨hs[j], ?_, ?_⟩
  · rw [List.mem_take_iff_getElem]
    exact ⟨j, by omega, rfl⟩
  · rw [← hz]
    simp [List.getD_eq_getElem?_getD, List.getElem?_eq_getElem h]

set_option maxHeartbeats 8000000 in
theorem r10batch_any (G : Nat → Prop) (w : World) (x : Nat) (os : List OpB) (ns : List Nat) (pv : Value) (ps : List OpB) (s : Nat) (a : Option Addr) (n cap : Nat) (hs : List Int) (h : RefM G w x os ns) (hv : ∀ W, Keeps G w W → RdO W pv ps) (hh : RdI w a n hs) (hnc : n ≤ cap) (hn0 : n ≤ 1000000)
    (hbd : ∀ o ∈ ps, o.2.1.length ≤ 1000000 ∧ o.2.2.length ≤ 1000000) (hlen : os.length + ps.length ≤ 100000) (hlen2 : ns.length + ps.length ≤ 100000) (hs64 : s < 18446744073709551616) :
    Calls Try.prog 37 #[.pointer (some ⟨x, 0, none⟩), pv, .int .u64 (s : Int), .slice a n cap] w (R10Post G w x os ns ps s (batC ps (s : Int) hs (lastN ns : Int))) := by
  have he := eqRm x
  obtain ⟨i0, hi, hz0, hz1, hz2⟩ := info_parts infoOp
  obtain ⟨j0, hj0, hy0, hy1, hy2⟩ := info_parts infoU10
  obtain ⟨LA, hla⟩ : ∃ LA : Int, (lastN ns : Int) = LA := ⟨_, rfl⟩
  obtain ⟨S, hS⟩ : ∃ S : Int, (s : Int) = S := ⟨_, rfl⟩
  obtain ⟨c, hc⟩ : ∃ c, batC ps (s : Int) hs (lastN ns : Int) = c := ⟨_, rfl⟩
  obtain ⟨d, hd⟩ : ∃ d, chkL ps = d := ⟨_, rfl⟩
  have hr0 := hv w (Keeps.refl _ _)
  have hck := rcheck_any w pv ps d hr0 hd
  have HV : Hid (∀ W, Keeps G w W → RdO W pv ps) := hv
  obtain ⟨pa, pc, rfl, ho1, ho2, _⟩ := hr0
  obtain ⟨K, hK⟩ : ∃ K, ps.length = K := ⟨_, rfl⟩
  have HC : Hid (c = if d = 0 then (if hasN S K = true then (if (hs.take K).any noHt = true then 1 else if S ≤ LA then 10 else 0) else 13) else d) := by
    show _ = _
    rw [← hc]
    unfold batC
    rw [hd, hK, hS, hla]
  rw [hc, hS]
  rw [hK] at hck ho1 HV hlen hlen2 ⊢
  have HK : Hid (ps.length = K) := hK
  have HSN : Hid ((s : Int) = S) := hS
  have HLA : Hid ((lastN ns : Int) = LA) := hla
  have HD : Hid (chkL ps = d) := hd
  have HRM : Hid (RefM G w x os ns) := h
  have HRI : Hid (RdI w a n hs) := hh
  have HBD : Hid (∀ o ∈ ps, o.2.1.length ≤ 1000000 ∧ o.2.2.length ≤ 1000000) := hbd
  have HLN : Hid (os.length + K ≤ 100000 ∧ ns.length + K ≤ 100000) := ⟨hlen, hlen2⟩
  unfold maxLen at ho2
  clear hla hS hc hd hv hK h hh hbd hs64
  go_enter Try.func37, Try.ntmps37
  go_wp2_with fail
  refine hck.mono ?_
  rintro e w1 ⟨rfl, hb1⟩
  have HB1 : Hid (Below w.heap.size w w1) := hb1
  clear hck hb1
  by_cases h0 : d = 0
  · subst h0
    have hK64 : K ≤ 64 := by have := (chkL_mem HD.out).1; rw [HK.out] at this; exact this
    by_cases hs1 : 1 ≤ S ∧ S < 72057594037927936
    · obtain ⟨T, hT⟩ : ∃ T : Int, S + (K : Int) - 1 = T := ⟨_, rfl⟩
      have hs1a : ¬ S < 1 := by omega
      have hs1c : ¬ (72057594037927936 : Int) ≤ S := by omega
      have u1 : IntKind.u64.wrap (K : Int) = (K : Int) := by rw [IntKind.wrap_u64]; omega
      have u2 : IntKind.u64.wrap (S + (K : Int)) = S + (K : Int) := by rw [IntKind.wrap_u64]; omega
      have u3 : IntKind.u64.wrap (S + (K : Int) - 1) = T := by rw [IntKind.wrap_u64]; omega
      by_cases hbad : 0 < K ∧ (72057594037927936 : Int) ≤ T
      · have hc1 : c = 13 := by
          rw [HC.out, if_pos rfl, if_neg]
          intro h9
          unfold hasN at h9
          have := of_decide_eq_true h9
          omega
        obtain ⟨hbad1, hbad2⟩ := hbad
        have hb3 : (0 : Int) < (K : Int) := by omega
        clear hT
        go_wp2
        go_ret
        exact r10Post_no HB1.out hc1.symm (by rw [hc1]; omega)
      · have HCH : Hid (c = if (hs.take K).any noHt = true then 1 else if S ≤ LA then 10 else 0) := by
          show _ = _
          rw [HC.out, if_pos rfl, if_pos]
          unfold hasN
          exact decide_eq_true (by omega)
        have hbad2 : ¬ (0 < K ∧ 72057594037927936 ≤ T) := hbad
        clear hT hbad HC
        go_wp2_with fail
        · go_loopg [42] K (fun gk iv wq => ∃ j : Nat, gk + j = K ∧ iv = .int .i64 (j : Int) ∧ Hid ((hs.take j).any noHt = false) ∧ wq = w1)
          case atStart => exact ⟨0, by omega, rfl, by show _ = _; simp, rfl⟩
          case round =>
            obtain ⟨j, hj, rfl, HA, rfl⟩ := hrel
            by_cases hlt : j < K
            · obtain ⟨q1, q2⟩ := gk_nxt hj hlt
              have hltI : (j : Int) < (K : Int) := by omega
              by_cases hjn : j < n
              · have hjl : j < hs.length := by rw [HRI.out.1]; exact hjn
                obtain ⟨hb, ho, rfl, hcell⟩ := (HRI.out.below HB1.out).2 j hjn
                obtain ⟨z, hz⟩ : ∃ z, hs.getD j 0 = z := ⟨_, rfl⟩
                rw [hz] at hcell
                have hjnI : (j : Int) < (n : Int) := by omega
                by_cases hno : z < 1 ∨ 8 < z
                · have HC1 : Hid (c = 1) := by
                    show _ = _
                    rw [HCH.out, if_pos]
                    exact any_take_true hjl hlt (by rw [hz]; unfold noHt; exact decide_eq_true hno)
                  rcases hno with hno | hno
                  · clear hz
                    go_wp2
                    go_ret
                    exact r10Post_no HB1.out HC1.out.symm (by rw [HC1.out]; omega)
                  · have hno2 : ¬ z < 1 := by omega
                    clear hz
                    go_wp2
                    go_ret
                    exact r10Post_no HB1.out HC1.out.symm (by rw [HC1.out]; omega)
                · have HA2 : Hid ((hs.take (j + 1)).any noHt = false) := by
                    show _ = _
                    rw [any_take_get hjl, HA.out, hz]
                    unfold noHt
                    simp
                    omega
                  have hno1 : ¬ z < 1 := by omega
                  have hno2 : ¬ 8 < z := by omega
                  clear hz hno
                  go_wp2_with fail
                  go_roundg (gk - 1)
                  case measure => exact q1
                  case rel => exact ⟨j + 1, q2, by go_num, HA2, rfl⟩
              · have HA2 : Hid ((hs.take (j + 1)).any noHt = false) := by
                  show _ = _
                  rw [any_take_over (by rw [HRI.out.1]; omega)]
                  exact HA.out
                have hjnI : ¬ (j : Int) < (n : Int) := by omega
                go_wp2_with fail
                go_roundg (gk - 1)
                case measure => exact q1
                case rel => exact ⟨j + 1, q2, by go_num, HA2, rfl⟩
            · have hjK : j = K := by omega
              subst hjK
              have HC3 : Hid (c = if S ≤ LA then 10 else 0) := by show _ = _; rw [HCH.out, if_neg (by rw [HA.out]; simp)]
              have hla := rlast_any G wr x os ns (HRM.out.below HB1.out) (by omega)
              rw [HLA.out] at hla
              clear HA HCH
              go_wp2_with fail
              refine hla.mono ?_
              rintro e w2 ⟨rfl, nn, hw2⟩
              have HB2 : Hid (Below w.heap.size w w2) := by rw [hw2]; exact below_drewN HB1.out _
              clear hla hw2
              by_cases hle : S ≤ LA
              · have hc1 : c = 10 := by rw [HC3.out, if_pos hle]
                go_wp2
                go_ret
                exact r10Post_no HB2.out hc1.symm (by rw [hc1]; omega)
              · have HC0 : Hid (c = 0) := by show _ = _; rw [HC3.out, if_neg hle]
                obtain ⟨K, rfl⟩ : ∃ K, K = j := ⟨_, rfl⟩
                go_wp2_with fail
                go_loopg [70] K (fun gk iv wq => ∃ j : Nat, gk + j = K ∧ iv = .int .i64 (j : Int) ∧ Hid (R10I G w x os ns ps s j wq))
                case atStart => exact ⟨0, by omega, rfl, ⟨Below.keeps HB2.out _, G, by simpa using HRM.out.below HB2.out, fun q hq => .inl hq⟩⟩
                case round =>
                  obtain ⟨j, hj, rfl, HI⟩ := hrel
                  by_cases hlt : j < K
                  · obtain ⟨q1, q2⟩ := gk_nxt hj hlt
                    have hlt2 : j < ps.length := by rw [HK.out]; exact hlt
                    obtain ⟨hk1, G1, hR1, hG1⟩ := HI.out
                    have HKK1 : Hid (Keeps G w wr ∧ ∀ q, G1 q → G q ∨ w.heap.size ≤ q) := ⟨hk1, hG1⟩
                    obtain ⟨_, _, e9, _, _, h3⟩ := HV.out wr hk1
                    rw [HK.out] at e9
                    cases e9
                    obtain ⟨gb, off, rfl, xv, yv, d0, d1, d2, rx, ry⟩ := h3 j hlt2
                    obtain ⟨xa, xc, ex⟩ := rx.len
                    obtain ⟨ya, yc, ey⟩ := ry.len
                    subst ex ey
                    obtain ⟨⟨k, kl, vl⟩, ho⟩ : ∃ o, ps[j] = o := ⟨_, rfl⟩
                    have hbo := HBD.out _ (List.getElem_mem hlt2)
                    rw [ho] at d0 d1 d2 rx ry hbo
                    simp only at d0 d1 d2 rx ry hbo
                    obtain ⟨hkl, hvl⟩ := hbo
                    obtain ⟨nl, hnl⟩ : ∃ nl, kl.length = nl := ⟨_, rfl⟩
                    obtain ⟨ml, hml⟩ : ∃ ml, vl.length = ml := ⟨_, rfl⟩
                    obtain ⟨kk, hkk⟩ : ∃ kk : Int, (k.toNat : Int) = kk := ⟨_, rfl⟩
                    rw [hkk] at d0
                    rw [hnl] at d1 rx
                    rw [hml] at d2 ry
                    have HKK : Hid ((k.toNat : Int) = kk ∧ kl.length = nl ∧ vl.length = ml) := ⟨hkk, hnl, hml⟩
                    have hO1L : (os ++ ps.take j).length ≤ 100000 := by rw [List.length_append, List.length_take]; have := HLN.out; omega
                    have hN1L : (ns ++ List.range' s j).length ≤ 100000 := by rw [List.length_append, List.length_range']; have := HLN.out; omega
                    obtain ⟨O1, hO1⟩ : ∃ O1, os ++ ps.take j = O1 := ⟨_, rfl⟩
                    obtain ⟨N1, hN1⟩ : ∃ N1, ns ++ List.range' s j = N1 := ⟨_, rfl⟩
                    obtain ⟨sj, hsj⟩ : ∃ sj, s + j = sj := ⟨_, rfl⟩
                    obtain ⟨S0, hS0⟩ : ∃ S0 : Int, S = S0 := ⟨_, rfl⟩
                    obtain ⟨Z, hZ⟩ : ∃ Z : Int, S + (j : Int) = Z := ⟨_, rfl⟩
                    have v1 : IntKind.u64.wrap (j : Int) = (j : Int) := by rw [IntKind.wrap_u64]; omega
                    have v2 : IntKind.u64.wrap (S + (j : Int)) = Z := by rw [IntKind.wrap_u64]; omega
                    have HNXT : Hid (∀ W', R10Post G1 wr x O1 N1 [(k, kl, vl)] sj 0 (.returned (.int .i64 0)) W' → R10I G w x os ns ps s (j + 1) W') := fun W' h9 => by
                      rw [← hO1, ← hN1, ← hsj, ← ho] at h9
                      exact R10I.next hk1 hG1 hlt2 h9
                    rw [hO1, hN1] at hR1
                    rw [hO1] at hO1L
                    rw [hN1] at hN1L
                    have hn := hO1L
                    have hn2 := hN1L
                    have HSN2 : Hid ((sj : Int) = Z) := by show _ = _; rw [← hsj, ← hZ, ← HSN.out]; omega
                    have hb0 := below_box4 wr (.cells #[.int .u8 kk, .slice xa nl xc, .slice ya ml yc] 63)
                    have HX : Hid (∀ W, Below wr.heap.size wr W → Rd W (.slice xa nl xc) kl ∧ Rd W (.slice ya ml yc) vl ∧ RefM G1 W x O1 N1) := fun W hW => ⟨rx.below hW (Nat.le_refl _), ry.below hW (Nat.le_refl _), hR1.below hW⟩
                    have B2 := box_new wr (.int .u8 kk) (.slice xa nl xc) (.slice ya ml yc) 63
                    obtain ⟨w0, hw0⟩ : ∃ w0, wr.alloc (.cells #[.int .u8 kk, .slice xa nl xc, .slice ya ml yc] 63) = w0 := ⟨_, rfl⟩
                    rw [hw0] at hb0 B2
                    have HB2 : Hid (Below wr.heap.size wr w0) := hb0
                    clear hk1 hG1 hR1 rx ry h3 ho hnl hml hkk hO1 hN1 hsj hZ hO1L hN1L hb0 HI hS0
                    have HBD : Hid (Below wr.heap.size wr w0.drew) := HB2.out.drew
                    have hlb := (below_box4 w0 (.cells #[.int .u8 kk, .slice xa nl xc, .slice ya ml yc] 63)).drew
                    have hcp := opcopy_any (w0.alloc (.cells #[.int .u8 kk, .slice xa nl xc, .slice ya ml yc] 63)).drew (.slice (some ⟨w0.heap.size, 0, none⟩) 1 1) [(k, kl, vl)] (show ArgO (w0.alloc (.cells #[.int .u8 kk, .slice xa nl xc, .slice ya ml yc] 63)).drew _ _ from argo_lit10 w0 (.slice xa nl xc) (.slice ya ml yc) kl vl k kk HKK.out.1 (HX.out _ HB2.out).1 (HX.out _ HB2.out).2.1) (by simp) (by intro o ho; simp at ho; subst ho; exact ⟨hkl, hvl⟩)
                    obtain ⟨v, u, cs, hbx, hrow, hel, hu, g0, g1, g2, g3, g4'⟩ := (HX.out _ HB2.out).2.2
                    obtain ⟨va, vc, ev⟩ := row_slice10 hrow
                    subst ev
                    obtain ⟨N, hN⟩ : ∃ N, O1.length = N := ⟨_, rfl⟩
                    rw [hN] at hbx hrow g1 hn
                    have HN : Hid (O1.length = N) := hN
                    have tb : w0.drew.cell? ⟨x, 0, none⟩ = some (.slice va N vc) := hbx.c0
                    have tc := (hlb.cell (p := ⟨x, 0, none⟩) hbx.lt).trans hbx.c0
                    have HRF : Hid (Bx2 w0 x (.slice va N vc) u ∧ w0.ownsRow 0 63 3 (.slice va N vc) N cs ∧ ElO w0 O1 cs ∧ w0.ownsRow 0 33 1 u N1.length (N1.map encU)) := ⟨hbx, hrow, hel, hu⟩
                    have HGS : Hid (G1 x ∧ (∀ q, (Value.slice va N vc).ownBlock = some q → G1 q) ∧ (∀ z ∈ cs, ∀ q, z.ownBlock = some q → G1 q) ∧ (∀ q, u.ownBlock = some q → G1 q) ∧ ∀ q, G1 q → q < w0.heap.size) := ⟨g0, g1, g2, g3, g4'⟩
                    have HLB : Hid (Below w0.heap.size w0 (w0.alloc (.cells #[.int .u8 kk, .slice xa nl xc, .slice ya ml yc] 63)).drew) := hlb
                    have HL1 : Hid ((w0.alloc (.cells #[.int .u8 kk, .slice xa nl xc, .slice ya ml yc] 63)).drew.heap.size = w0.heap.size + 1) := by show _ = _; simp
                    have bs := B2.drew
                    obtain ⟨z0, z1, z2, _, _, _⟩ := bs
                    clear hN hbx hrow hel hu g0 g1 g2 g3 g4' B2 hlb
                    go_wp2_with fail
                    go_region_law
                      (first
                        | (go_simp
                           go_at_call 35
                           refine Calls.mono hcp ?_
                           rintro e w3 ⟨y, rfl, oy, hb3⟩
                           obtain ⟨gy, cy, a1, a2, b1, b2, rfl, ry, ra, rb, hcy⟩ := own_one10 oy
                           rw [HKK.out.2.1] at ry ra
                           rw [HKK.out.2.2] at ry rb
                           simp only [HKK.out.1] at ry
                           have HB3 : Hid (Below w0.heap.size w0 w3) := bsplit HLB.out hb3
                           have t3 : w3.cell? ⟨x, 0, none⟩ = some (.slice va N vc) := (HB3.out.cell (p := ⟨x, 0, none⟩) HRF.out.1.lt).trans HRF.out.1.c0
                           clear hcp)
                        | (have hrow3 := row_below HRF.out.2.1 HB3.out
                           have hB3s := HB3.out.size
                           refine step_append_lies _ rfl (.tmp 79) (.tmp 82) 29 rfl 0 63 i0 (.agg #[.int .u8 0, .slice none 0 0, .slice none 0 0]) 3 56 Try.underlying29 hi hz0 hz1 hz2 rfl (by decide) (.slice va N vc) N cs rfl hrow3 ⟨gy, 0, none⟩ 1 cy [.int .u8 kk, .slice a1 nl a2, .slice b1 ml b2] rfl rfl (ry.cells rfl) (one3 _ _ _ _ _ _ _) (by decide) (by simp only [maxLen]; omega) (by omega) (Nat.zero_le _) _ rfl ?_
                           intro g4 c4 w4 hown hgrow hat hlt4
                           have HP4 : Hid (RefM (fun q => (G1 q ∨ w0.heap.size ≤ q) ∧ q < w4.heap.size) (w4.setCell ⟨x, 0, none⟩ (.slice (some ⟨g4, 0, none⟩) (N + 1) c4)) x (O1 ++ [(k, kl, vl)]) N1 ∧ Keeps G1 w0 (w4.setCell ⟨x, 0, none⟩ (.slice (some ⟨g4, 0, none⟩) (N + 1) c4))) := by
                             have e9 := HN.out
                             subst e9
                             have hbx3 : Bx2 w3 x (.slice va O1.length vc) u := (HB3.out.block x HRF.out.1.lt).trans HRF.out.1
                             have hel3 : ElO w3 O1 cs := HRF.out.2.2.1.same (fun z hz q hq => HB3.out.block q (HGS.out.2.2.2.2 q (HGS.out.2.2.1 z hz q hq)))
                             have hu3 := row_below HRF.out.2.2.2 HB3.out
                             have hsL : w0.heap.size ≤ (w0.alloc (.cells #[.int .u8 kk, .slice xa nl xc, .slice ya ml yc] 63)).drew.heap.size := by rw [HL1.out]; omega
                             have hown9 := hown
                             rw [← HKK.out.1] at hown9
                             refine ⟨refM_op (o := (k, kl, vl)) hB3s hbx3 hrow3 hel3 hu3 HGS.out.1 HGS.out.2.2.1 HGS.out.2.2.2.1 (fun q hq => Nat.lt_of_lt_of_le (HGS.out.2.2.2.2 q hq) hB3s) (ra.mono hsL) (rb.mono hsL) hown9 hgrow ⟨?_, hlt4⟩, (keeps_of (t := x) HB3.out hgrow HGS.out.2.1).setCell (p := ⟨x, 0, none⟩) HGS.out.1 _⟩
                             rcases hat with h9 | h9
                             · exact .inl (HGS.out.2.1 _ h9)
                             · exact .inr (by rw [h9]; exact hB3s)
                           have hx4 : Bx2 w4 x (.slice va N vc) u := (hgrow.block x (Nat.lt_of_lt_of_le HRF.out.1.lt HB3.out.size) (Bx2.not_row (w := w3) ((HB3.out.block x HRF.out.1.lt).trans HRF.out.1) (by decide) hrow3)).trans ((HB3.out.block x HRF.out.1.lt).trans HRF.out.1)
                           have t4 := hx4.c0
                           have f4 := hx4.f0
                           clear hown hgrow hat hlt4 hrow3 hx4 ry ra rb oy)
                        | fail)
                    all_goals
                      obtain ⟨v5, u5, cs5, hbx5, hrow5, hel5, hu5, k0, k1, k2, k3, k4⟩ := HP4.out.1
                      obtain ⟨ua, uc, eu⟩ := row_slice10 hu5
                      subst eu
                      obtain ⟨M, hM⟩ : ∃ M, N1.length = M := ⟨_, rfl⟩
                      obtain ⟨w5, hw5⟩ : ∃ w5, w4.setCell ⟨x, 0, none⟩ (.slice (some ⟨g4, 0, none⟩) (N + 1) c4) = w5 := ⟨_, rfl⟩
                      rw [hw5] at HP4 hbx5 hrow5 hel5 hu5 k4
                      rw [hM] at hbx5 hu5 hn2 k3
                      have HMM : Hid (N1.length = M) := hM
                      have hle5 := below_box4 w5 (.cells #[.int .u64 Z] 33)
                      have hlit := laidI1 w5 (.int .u64 Z) 33
                      have hrow6 := row_below hu5 hle5
                      have x1 := hbx5.c1
                      have hx6 : Bx2 (w5.alloc (.cells #[.int .u64 Z] 33)) x v5 (.slice ua M uc) := (hle5.block x hbx5.lt).trans hbx5
                      have HK5 : Hid (Keeps G1 wr w5) := (Below.keeps HB2.out G1).trans HP4.out.2
                      have HPS : Hid (∀ g6 c6 w6, w6.ownsRow 0 33 1 (.slice (some ⟨g6, 0, none⟩) (M + 1) c6) (M + 1) (N1.map encU ++ [.int .u64 Z]) → (w5.alloc (.cells #[.int .u64 Z] 33)).grownBy w6 (Value.slice ua M uc).ownBlock → ((Value.slice ua M uc).ownBlock = some g6 ∨ g6 = (w5.alloc (.cells #[.int .u64 Z] 33)).heap.size) → g6 < w6.heap.size → (Bx2 w6 x v5 (.slice ua M uc)) ∧ R10Post G1 wr x O1 N1 [(k, kl, vl)] sj 0 (.returned (.int .i64 0)) (w6.setCell ⟨x, 1, none⟩ (.slice (some ⟨g6, 0, none⟩) (M + 1) c6))) := by
                        intro g6 c6 w6 hown hgrow hat hlt6
                        have hx66 : Bx2 w6 x v5 (.slice ua M uc) := (hgrow.block x hx6.lt (hx6.not_row (by decide) hrow6)).trans hx6
                        refine ⟨hx66, ?_⟩
                        have e9 := HMM.out
                        subst e9
                        have hs5 : w0.heap.size ≤ w5.heap.size := HP4.out.2.size
                        have hs6 := hle5.size
                        have hsw := HB2.out.size
                        have hown9 := hown
                        rw [← HSN2.out] at hown9
                        have hkk : Keeps G1 wr (w6.setCell ⟨x, 1, none⟩ (.slice (some ⟨g6, 0, none⟩) (N1.length + 1) c6)) := (HK5.out.then (keeps_of (G := fun q => (G1 q ∨ w0.heap.size ≤ q) ∧ q < w4.heap.size) (t := x) hle5 hgrow k3) (fun i hi => hi.1.imp id (fun h9 => Nat.le_trans hsw h9))).setCell (p := ⟨x, 1, none⟩) HGS.out.1 _
                        refine ⟨rfl, hkk, fun h9 => absurd rfl h9, fun _ => ⟨_, refM_seq (B := w0.heap.size) (s := sj) (Nat.le_trans hs5 hs6) hx6 (row_below hrow5 hle5) (hel5.same (fun z hz q hq => hle5.block q (k4 q (k2 z hz q hq)))) hrow6 k0 k1 k2 (fun q hq => Nat.lt_of_lt_of_le (k4 q hq) hs6) hown9 hgrow ⟨?_, hlt6⟩, fun q hq => ?_⟩⟩
                        · rcases hat with h9 | h9
                          · exact .inl (k3 _ h9)
                          · exact .inr (by rw [h9]; omega)
                        · rcases hq.1 with h9 | h9
                          · exact h9.1.imp id (fun h8 => Nat.le_trans hsw h8)
                          · exact .inr (Nat.le_trans hsw h9)
                      have HX6 : Hid (w5.heap.size ≤ (w5.alloc (.cells #[.int .u64 Z] 33)).heap.size) := hle5.size
                      clear hbx5 hrow5 hel5 hu5 k0 k1 k2 k3 k4 hM hle5 HP4 HK5
                      go_wp2_with (first | (at_builtin; refine wpList_append_lies _ rfl (.tmp 90) (.tmp 95) 24 rfl 0 33 j0 (.int .u64 0) 1 8 Try.underlying24 hj0 hy0 hy1 hy2 rfl (by decide) (.slice ua M uc) M (N1.map encU) rfl hrow6 ⟨w5.heap.size, 0, none⟩ 1 1 [.int .u64 Z] rfl rfl hlit (by intro u hu; simp at hu; rw [hu]; rfl) (by decide) (by simp only [maxLen]; omega) (by omega) (Nat.zero_le _) _ rfl ?_; intro g6 c6 w6 hown hgrow hat hlt6; have HP6 : Hid _ := HPS.out g6 c6 w6 hown hgrow hat hlt6; have y1 := HP6.out.1.c1; have y2 := HP6.out.1.f1; clear hown hgrow hat hlt6) | fail)
                      have HNX9 : Hid (R10I G w x os ns ps s (j + 1) (w6.setCell ⟨x, 1, none⟩ (.slice (some ⟨g6, 0, none⟩) (M + 1) c6))) := HNXT.out _ HP6.out.2
                      go_wp2_with fail
                      go_roundg (gk - 1)
                      case measure => exact q1
                      case rel => exact ⟨j + 1, q2, by go_num, HNX9⟩
                  · have hjK : j = K := by omega
                    subst hjK
                    go_wp2
                    go_ret
                    obtain ⟨hk1, G1, hR1, hG1⟩ := HI.out
                    have h9 : ps.take j = ps := by rw [← HK.out, List.take_length]
                    rw [h9] at hR1
                    refine ⟨by rw [HC0.out]; rfl, hk1, fun h8 => absurd HC0.out h8, fun _ => ⟨G1, ?_, hG1⟩⟩
                    rw [HK.out]
                    exact hR1
        · go_loopg [42] K (fun gk iv wq => ∃ j : Nat, gk + j = K ∧ iv = .int .i64 (j : Int) ∧ Hid ((hs.take j).any noHt = false) ∧ wq = w1)
          case atStart => exact ⟨0, by omega, rfl, by show _ = _; simp, rfl⟩
          case round =>
            obtain ⟨j, hj, rfl, HA, rfl⟩ := hrel
            by_cases hlt : j < K
            · exfalso
              omega
            · have hjK : j = K := by omega
              subst hjK
              have HC3 : Hid (c = if S ≤ LA then 10 else 0) := by show _ = _; rw [HCH.out, if_neg (by rw [HA.out]; simp)]
              have hla := rlast_any G wr x os ns (HRM.out.below HB1.out) (by omega)
              rw [HLA.out] at hla
              clear HA HCH
              go_wp2_with fail
              refine hla.mono ?_
              rintro e w2 ⟨rfl, nn, hw2⟩
              have HB2 : Hid (Below w.heap.size w w2) := by rw [hw2]; exact below_drewN HB1.out _
              clear hla hw2
              by_cases hle : S ≤ LA
              · have hc1 : c = 10 := by rw [HC3.out, if_pos hle]
                go_wp2
                go_ret
                exact r10Post_no HB2.out hc1.symm (by rw [hc1]; omega)
              · have HC0 : Hid (c = 0) := by show _ = _; rw [HC3.out, if_neg hle]
                obtain ⟨K, rfl⟩ : ∃ K, K = j := ⟨_, rfl⟩
                go_wp2_with fail
                go_loopg [70] K (fun gk iv wq => ∃ j : Nat, gk + j = K ∧ iv = .int .i64 (j : Int) ∧ Hid (R10I G w x os ns ps s j wq))
                case atStart => exact ⟨0, by omega, rfl, ⟨Below.keeps HB2.out _, G, by simpa using HRM.out.below HB2.out, fun q hq => .inl hq⟩⟩
                case round =>
                  obtain ⟨j, hj, rfl, HI⟩ := hrel
                  by_cases hlt : j < K
                  · exfalso
                    omega
                  · have hjK : j = K := by omega
                    subst hjK
                    go_wp2
                    go_ret
                    obtain ⟨hk1, G1, hR1, hG1⟩ := HI.out
                    have h9 : ps.take j = ps := by rw [← HK.out, List.take_length]
                    rw [h9] at hR1
                    refine ⟨by rw [HC0.out]; rfl, hk1, fun h8 => absurd HC0.out h8, fun _ => ⟨G1, ?_, hG1⟩⟩
                    rw [HK.out]
                    exact hR1
    · have hc1 : c = 13 := by
        rw [HC.out, if_pos rfl, if_neg]
        intro h9
        unfold hasN at h9
        have := of_decide_eq_true h9
        omega
      by_cases hs2 : S < 1
      · go_wp2
        go_ret
        exact r10Post_no HB1.out hc1.symm (by rw [hc1]; omega)
      · have hs3 : (72057594037927936 : Int) ≤ S := by omega
        go_wp2
        go_ret
        exact r10Post_no HB1.out hc1.symm (by rw [hc1]; omega)
  · have hc1 : c = d := by rw [HC.out, if_neg h0]
    have hdb : (d != 0) = true := by simp [h0]
    have hdb2 : (d == 0) = false := by simp [h0]
    go_wp2
    go_ret
    exact r10Post_no HB1.out hc1.symm (by rw [hc1]; exact h0)

end Go.Proofs.Ythcoblmfmbmdkaa

/- What a law is told of ops that came in. -/
namespace Go.Proofs.Ythcoblmfmbmdkaa
set_option maxRecDepth 20000
open Go.ChangeShapes Go.WideShapes Go.ChangeAt Go.RowKit

theorem u8_byte {k : Int} (h : (Lit.int .u8 k).wf = true) : k = ((UInt8.ofNat k.toNat).toNat : Int) := by
  have := bounds_u8 h
  simp
  omega

theorem op_of {H : Type} {enc : TypeId × Value → H} {w : World} {n : Nat} {v0 v1 v2 : Value} {y : DataW H × List MemPlace}
    (h : DataW.trod enc Try.prog w 0 (fun _ => true) true n 63 [v0, v1, v2] = some y) : ∃ o : OpB, v0 = .int .u8 (o.1.toNat : Int) ∧ Arg w v1 o.2.1 ∧ Arg w v2 o.2.2 := by
  obtain ⟨y0, y1, y2, n', _, _, h0, h1, h2⟩ := Deep.trod_struct3 Try.underlying63 h
  simp at h0 h1 h2
  have c5 : Try.prog.cellsOf 5 = 1 := by kernel_rfl
  have c25 : Try.prog.cellsOf 40 = 1 := by kernel_rfl
  rw [c5] at h0
  rw [c25] at h1 h2
  simp at h0 h1 h2
  obtain ⟨k, e0, _, wk⟩ := DataW.trod_int Try.underlying5 h0
  obtain ⟨a1, l1, q1, z1, rfl, r1⟩ := row_of_trod h1
  obtain ⟨a2, l2, q2, z2, rfl, r2⟩ := row_of_trod h2
  simp at e0
  subst e0
  exact ⟨(UInt8.ofNat k.toNat, _, _), congrArg _ (u8_byte wk), arg_of r1, arg_of r2⟩

theorem opArg_of {H : Type} {enc : TypeId × Value → H} {w : World} {r : Reach} {base : Nat} {v : Value} {d : DataW H} {ps : List MemPlace}
    (hv : Value.okWide Try.prog w r base 63 v) (h : DataW.Trod enc Try.prog w 0 (fun _ => true) true 63 v d ps) :
    ∃ o : OpB, ∃ x y, v = .agg #[.int .u8 (o.1.toNat : Int), x, y] ∧ Arg w x o.2.1 ∧ Arg w y o.2.2 := by
  obtain ⟨v0, v1, v2, y0, y1, y2, n, rfl, _, _, h0, h1, h2⟩ := Joins.open_agg3 Try.underlying63 (by kernel_rfl) (by kernel_rfl) hv h
  obtain ⟨k, e0, _, wk⟩ := DataW.trod_int Try.underlying5 h0
  obtain ⟨a1, l1, q1, z1, rfl, r1⟩ := row_of_trod h1
  obtain ⟨a2, l2, q2, z2, rfl, r2⟩ := row_of_trod h2
  simp at e0
  subst e0
  refine ⟨(UInt8.ofNat k.toNat, _, _), _, _, ?_, arg_of r1, arg_of r2⟩
  rw [← u8_byte wk]

theorem opsArg_of {H : Type} {enc : TypeId × Value → H} {w : World} {a : Option Addr} {len cap : Nat} {d : DataW H} {ps : List MemPlace}
    (h : DataW.Trod enc Try.prog w 0 (fun _ => true) true 29 (.slice a len cap) d ps) : ∃ os, ArgO w (.slice a len cap) os := by
  obtain ⟨fuel, hf⟩ := h
  rcases Deep.open_slice Try.underlying29 hf with ⟨hcs, _⟩ | ⟨x, len', cap', m, n, D, Pl, hcs, _, hl, hm, hmm, _, hall⟩
  · simp [Value.cells] at hcs
    obtain ⟨rfl, rfl, rfl⟩ := hcs
    exact ⟨[], LsO.nil w⟩
  · simp [Value.cells] at hcs
    obtain ⟨rfl, rfl, rfl⟩ := hcs
    simp only [if_true] at hmm
    subst hmm
    have c3 : Try.prog.cellsOf 63 = 3 := by kernel_rfl
    rw [c3] at hall
    have hsp : 0 < len → x.spot = none := by
      intro h0
      obtain ⟨cs', h1, _⟩ := hall 0 (by omega)
      obtain ⟨_, hlen, hcell⟩ := World.cells?_some h1
      match cs', hlen with
      | [v0, v1, v2], _ =>
        have k0 : w.cell? ((x.add (0 * 3)).add 0) = some v0 := hcell 0 (by decide)
        simpa [Addr.add] using World.cell?_spot k0
    have hex : ∀ i, i < len → ∃ o : OpB, ∃ b off, x = ⟨b, off, none⟩ ∧ OpAt Arg w b (off + i * 3) o := by
      intro i hi
      obtain ⟨cs', h1, h2⟩ := hall i (by omega)
      obtain ⟨_, hlen, hcell⟩ := World.cells?_some h1
      match cs', hlen with
      | [v0, v1, v2], _ =>
        obtain ⟨o, rfl, r1, r2⟩ := op_of h2
        have k0 : w.cell? ((x.add (i * 3)).add 0) = some (.int .u8 (o.1.toNat : Int)) := hcell 0 (by decide)
        have k1 : w.cell? ((x.add (i * 3)).add 1) = some v1 := hcell 1 (by decide)
        have k2 : w.cell? ((x.add (i * 3)).add 2) = some v2 := hcell 2 (by decide)
        have hspot := hsp (by omega)
        obtain ⟨b, off, spot⟩ := x
        simp only at hspot
        subst hspot
        simp only [Addr.add_lit] at k0 k1 k2
        exact ⟨o, b, off, rfl, v1, v2, k0, k1, k2, r1, r2⟩
    obtain ⟨L, hL⟩ := Deep.choose_lt hex
    refine ⟨(List.range len).map L, some x, m, by simp, by simp; omega, hm, fun j hj => ?_⟩
    have hj' : j < len := by simpa using hj
    obtain ⟨b, off, rfl, ho⟩ := hL j hj'
    exact ⟨b, off, rfl, by simpa using ho⟩

end Go.Proofs.Ythcoblmfmbmdkaa

/- What a law of memo is told of steps that came in. -/
namespace Go.Proofs.Ythcoblmfmbmdkaa
open Go.ChangeShapes Go.WideShapes Go.ChangeAt Go.RowKit
set_option linter.unusedVariables false
set_option maxRecDepth 20000

structure MSt where
  alone : Bool
  ops : List OpB
  seq : Nat
  hts : List Int

/-- heights that came in -/
def ArgH (w : World) (v : Value) (hs : List Int) : Prop := ∃ a len cap zs, v = .slice a len cap ∧ IsRow .i64 w a len cap zs ∧ hs = zs.take len

theorem isRow_below {k : IntKind} {B : Nat} {w w' : World} {a : Option Addr} {len cap : Nat} {zs : List Int} (h : IsRow k w a len cap zs) (hb : Below B w w') (hB : w.heap.size ≤ B) : IsRow k w' a len cap zs := by
  rcases h with h | ⟨x, e, h1, h2, h3, h4, h5⟩
  · exact .inl h
  · exact .inr ⟨x, e, h1, h2, h3, fun i hi => by
      have h9 := h4 i hi
      rw [hb.cell (Nat.lt_of_lt_of_le (World.block_lt_of_cell? w _ h9) hB)]
      exact h9, h5⟩

theorem ArgH.below {B : Nat} {w w' : World} {v : Value} {hs : List Int} (h : ArgH w v hs) (hb : Below B w w') (hB : w.heap.size ≤ B) : ArgH w' v hs := by
  obtain ⟨a, len, cap, zs, e, h1, h2⟩ := h
  exact ⟨a, len, cap, zs, e, isRow_below h1 hb hB, h2⟩

structure MStAt (w : World) (b off : Nat) (o : MSt) (v1 v3 : Value) : Prop where
  c0 : w.cell? ⟨b, off, none⟩ = some (.bool o.alone)
  c1 : w.cell? ⟨b, off + 1, none⟩ = some v1
  c2 : w.cell? ⟨b, off + 2, none⟩ = some (.int .u64 (o.seq : Int))
  c3 : w.cell? ⟨b, off + 3, none⟩ = some v3
  a1 : ArgO w v1 o.ops
  a3 : ArgH w v3 o.hts
  s2 : o.seq < 18446744073709551616

def ArgM (w : World) (v : Value) (os : List MSt) : Prop :=
  ∃ a cap, v = .slice a os.length cap ∧ os.length ≤ cap ∧ cap ≤ 9223372036854775807 ∧ ∀ j (hj : j < os.length), ∃ b off, a = some ⟨b, off, none⟩ ∧ ∃ v1 v3, MStAt w b (off + j * 4) os[j] v1 v3

theorem cell_belowM {B : Nat} {w w' : World} {p : Addr} {v : Value} (hb : Below B w w') (hB : w.heap.size ≤ B) (h : w.cell? p = some v) : w'.cell? p = some v :=
  (hb.cell (Nat.lt_of_lt_of_le (World.block_lt_of_cell? w _ h) hB)).trans h

theorem MStAt.below {B : Nat} {w w' : World} {b off : Nat} {o : MSt} {v1 v3 : Value} (h : MStAt w b off o v1 v3) (hb : Below B w w') (hB : w.heap.size ≤ B) : MStAt w' b off o v1 v3 :=
  ⟨cell_belowM hb hB h.c0, cell_belowM hb hB h.c1, cell_belowM hb hB h.c2, cell_belowM hb hB h.c3, LsO.belowA h.a1 hb hB, h.a3.below hb hB, h.s2⟩

theorem ArgM.below {B : Nat} {w w' : World} {v : Value} {os : List MSt} (h : ArgM w v os) (hb : Below B w w') (hB : w.heap.size ≤ B) : ArgM w' v os := by
  obtain ⟨a, cap, e, h1, h2, h3⟩ := h
  refine ⟨a, cap, e, h1, h2, fun j hj => ?_⟩
  obtain ⟨b, off, e2, v1, v3, h4⟩ := h3 j hj
  exact ⟨b, off, e2, v1, v3, h4.below hb hB⟩

theorem intsM_of_trod {H : Type} {enc : TypeId × Value → H} {w : World} {n : Nat} {v : Value} {y : DataW H × List MemPlace}
    (h : DataW.trod enc Try.prog w 0 (fun _ => true) true n 67 [v] = some y) : ∃ a len cap zs, v = .slice a len cap ∧ IsRow .i64 w a len cap zs := by
  rcases open_ints Try.underlying67 Try.underlying3 (by kernel_rfl) h with ⟨hcs, _⟩ | ⟨x, l, c, zs, hcs, _, hl, hm, hz, _, hcell, hwz⟩
  · simp at hcs
    exact ⟨none, 0, 0, [], hcs, .inl ⟨rfl, rfl, rfl, rfl⟩⟩
  · simp at hcs
    exact ⟨some x, l, c, zs, hcs, .inr ⟨_, rfl, hl, hm, by simpa using hz, hcell, hwz⟩⟩

theorem mst_of {H : Type} {enc : TypeId × Value → H} {w : World} {n : Nat} {v0 v1 v2 v3 : Value} {y : DataW H × List MemPlace}
    (h : DataW.trod enc Try.prog w 0 (fun _ => true) true n 86 [v0, v1, v2, v3] = some y) : ∃ o : MSt, v0 = .bool o.alone ∧ ArgO w v1 o.ops ∧ v2 = .int .u64 (o.seq : Int) ∧ ArgH w v3 o.hts ∧ o.seq < 18446744073709551616 := by
  obtain ⟨y0, y1, y2, y3, n', _, _, h0, h1, h2, h3⟩ := Joins.trod_struct4 Try.underlying86 h
  have c8 : Try.prog.cellsOf 33 = 1 := by kernel_rfl
  have c4 : Try.prog.cellsOf 4 = 1 := by kernel_rfl
  have c25 : Try.prog.cellsOf 67 = 1 := by kernel_rfl
  have co : Try.prog.cellsOf 29 = 1 := by kernel_rfl
  simp only [c8, c4, c25, co] at h0 h1 h2 h3
  simp at h0 h1 h2 h3
  obtain ⟨k, e0, _⟩ := DataW.trod_bool Try.underlying4 h0
  obtain ⟨s, e2, _, ws⟩ := DataW.trod_int Try.underlying33 h2
  obtain ⟨a3, l3, q3, z3, rfl, r3⟩ := intsM_of_trod h3
  obtain ⟨a1, l1, q1, rfl⟩ : ∃ a l q, v1 = .slice a l q := by
    rcases Deep.open_slice Try.underlying29 h1 with ⟨hcs, _⟩ | ⟨x, len', cap', m, n', D, Pl, hcs, _⟩
    · simp at hcs; exact ⟨_, _, _, hcs⟩
    · simp at hcs; exact ⟨_, _, _, hcs⟩
  obtain ⟨os, ho⟩ := opsArg_of (H := H) (enc := enc) (w := w) (a := a1) (len := l1) (cap := q1) (d := y1.1) (ps := y1.2) ⟨n', by simpa [Value.cells] using h1⟩
  simp at e0 e2
  subst e0 e2
  have hs := bounds_u64 ws
  refine ⟨⟨k, os, s.toNat, _⟩, rfl, ho, ?_, ⟨_, _, _, _, rfl, r3, rfl⟩, by show s.toNat < _; omega⟩
  rw [show ((s.toNat : Nat) : Int) = s by omega]

theorem stepsArg_of {H : Type} {enc : TypeId × Value → H} {w : World} {a : Option Addr} {len cap : Nat} {d : DataW H} {ps : List MemPlace}
    (h : DataW.Trod enc Try.prog w 0 (fun _ => true) true 22 (.slice a len cap) d ps) : ∃ os, ArgM w (.slice a len cap) os := by
  obtain ⟨fuel, hf⟩ := h
  rcases Deep.open_slice Try.underlying22 hf with ⟨hcs, _⟩ | ⟨x, len', cap', m, n, D, Pl, hcs, _, hl, hm, hmm, _, hall⟩
  · simp [Value.cells] at hcs
    obtain ⟨rfl, rfl, rfl⟩ := hcs
    exact ⟨[], none, 0, rfl, by simp, by omega, fun j hj => by simp at hj⟩
  · simp [Value.cells] at hcs
    obtain ⟨rfl, rfl, rfl⟩ := hcs
    simp only [if_true] at hmm
    subst hmm
    have c6 : Try.prog.cellsOf 86 = 4 := by kernel_rfl
    rw [c6] at hall
    have hsp : 0 < len → x.spot = none := by
      intro h0
      obtain ⟨cs', h1, _⟩ := hall 0 (by omega)
      obtain ⟨_, hlen, hcell⟩ := World.cells?_some h1
      match cs', hlen with
      | [v0, v1, v2, v3], _ =>
        have k0 : w.cell? ((x.add (0 * 4)).add 0) = some v0 := hcell 0 (by decide)
        simpa [Addr.add] using World.cell?_spot k0
    have hex : ∀ i, i < len → ∃ o : MSt, ∃ b off, x = ⟨b, off, none⟩ ∧ ∃ v1 v3, MStAt w b (off + i * 4) o v1 v3 := by
      intro i hi
      obtain ⟨cs', h1, h2⟩ := hall i (by omega)
      obtain ⟨_, hlen, hcell⟩ := World.cells?_some h1
      match cs', hlen with
      | [v0, v1, v2, v3], _ =>
        obtain ⟨o, rfl, r1, rfl, r3, s2⟩ := mst_of h2
        have k0 := hcell 0 (by decide)
        have k1 := hcell 1 (by decide)
        have k2 := hcell 2 (by decide)
        have k3 := hcell 3 (by decide)
        have hspot := hsp (by omega)
        obtain ⟨b, off, spot⟩ := x
        simp only at hspot
        subst hspot
        simp only [Addr.add_lit] at k0 k1 k2 k3
        exact ⟨o, b, off, rfl, v1, v3, k0, k1, k2, k3, r1, r3, s2⟩
    have hI : Inhabited MSt := ⟨⟨false, [], 0, []⟩⟩
    obtain ⟨L, hL⟩ := Deep.choose_lt hex
    refine ⟨(List.range len).map L, some x, m, by simp, by simp; omega, by unfold maxLen at hm; omega, fun j hj => ?_⟩
    have hj' : j < len := by simpa using hj
    obtain ⟨b, off, rfl, v1, v3, hD⟩ := hL j hj'
    exact ⟨b, off, rfl, v1, v3, by simpa using hD⟩

end Go.Proofs.Ythcoblmfmbmdkaa

/- A memo and the document's own, side by side. -/
namespace Go.Proofs.Ythcoblmfmbmdkaa
set_option maxRecDepth 20000
open Go.RowKit
set_option linter.unusedVariables false
set_option linter.unusedSimpArgs false

/-- the versions of ops with their numbers; the spans -/
def verP : List (OpB × Nat) → List EnB
  | [] => []
  | z :: r => if z.1.1 = 3 then verP r else (z.1.2.1, z.2, z.1.1, z.1.2.2) :: verP r
def spnP : List (OpB × Nat) → List SpB
  | [] => []
  | z :: r => if z.1.1 = 3 then (z.1.2.1, z.1.2.2, z.2) :: spnP r else spnP r

/-- ops, from a number on -/
def zipS (ps : List OpB) (s : Nat) : List (OpB × Nat) := ps.zip (List.range' s ps.length)

theorem verP_app (a b : List (OpB × Nat)) : verP (a ++ b) = verP a ++ verP b := by
  induction a with
  | nil => rfl
  | cons z r ih => by_cases h : z.1.1 = 3 <;> simp [verP, h, ih]
theorem spnP_app (a b : List (OpB × Nat)) : spnP (a ++ b) = spnP a ++ spnP b := by
  induction a with
  | nil => rfl
  | cons z r ih => by_cases h : z.1.1 = 3 <;> simp [spnP, h, ih]
theorem zipS_cons (o : OpB) (r : List OpB) (s : Nat) : zipS (o :: r) s = (o, s) :: zipS r (s + 1) := by
  unfold zipS
  simp [List.range'_succ]
theorem verP_zip (ps : List OpB) (s : Nat) : verP (zipS ps s) = verO ps s := by
  induction ps generalizing s with
  | nil => rfl
  | cons o r ih => rw [zipS_cons]; by_cases h : o.1 = 3 <;> simp [verP, verO, h, ih]
theorem spnP_zip (ps : List OpB) (s : Nat) : spnP (zipS ps s) = spnO ps s := by
  induction ps generalizing s with
  | nil => rfl
  | cons o r ih => rw [zipS_cons]; by_cases h : o.1 = 3 <;> simp [spnP, spnO, h, ih]
theorem zipS_fst (ps : List OpB) (s : Nat) : (zipS ps s).map (·.1) = ps := by
  unfold zipS
  rw [List.map_fst_zip (by simp)]
theorem zipS_snd (ps : List OpB) (s : Nat) : (zipS ps s).map (·.2) = List.range' s ps.length := by
  unfold zipS
  rw [List.map_snd_zip (by simp)]
theorem zipS_mem {ps : List OpB} {s : Nat} {z : OpB × Nat} (h : z ∈ zipS ps s) : z.1 ∈ ps ∧ s ≤ z.2 ∧ z.2 < s + ps.length := by
  unfold zipS at h
  have h1 := List.of_mem_zip (a := z.1) (b := z.2) h
  have h2 := List.mem_range'_1.1 h1.2
  exact ⟨h1.1, h2⟩
theorem verP_len (Z : List (OpB × Nat)) : (verP Z).length + (spnP Z).length = Z.length := by
  induction Z with
  | nil => rfl
  | cons z r ih =>
    by_cases h : z.1.1 = 3
    · simp only [verP, spnP, if_pos h, List.length_cons]; omega
    · simp only [verP, spnP, if_neg h, List.length_cons]; omega
theorem verP_mem {Z : List (OpB × Nat)} {e : EnB} (h : e ∈ verP Z) : ∃ z ∈ Z, e.1 = z.1.2.1 ∧ e.2.1 = z.2 ∧ e.2.2.2 = z.1.2.2 := by
  induction Z with
  | nil => simp [verP] at h
  | cons x r ih =>
    unfold verP at h
    by_cases h3 : x.1.1 = 3
    · rw [if_pos h3] at h
      obtain ⟨o, ho, h1⟩ := ih h
      exact ⟨o, List.mem_cons_of_mem _ ho, h1⟩
    · rw [if_neg h3] at h
      rcases List.mem_cons.1 h with rfl | h
      · exact ⟨x, List.mem_cons_self, rfl, rfl, rfl⟩
      · obtain ⟨o, ho, h1⟩ := ih h
        exact ⟨o, List.mem_cons_of_mem _ ho, h1⟩
theorem spnP_mem {Z : List (OpB × Nat)} {e : SpB} (h : e ∈ spnP Z) : ∃ z ∈ Z, e.1 = z.1.2.1 ∧ e.2.1 = z.1.2.2 := by
  induction Z with
  | nil => simp [spnP] at h
  | cons x r ih =>
    unfold spnP at h
    by_cases h3 : x.1.1 = 3
    · rw [if_pos h3] at h
      rcases List.mem_cons.1 h with rfl | h
      · exact ⟨x, List.mem_cons_self, rfl, rfl⟩
      · obtain ⟨o, ho, h1⟩ := ih h
        exact ⟨o, List.mem_cons_of_mem _ ho, h1⟩
    · rw [if_neg h3] at h
      obtain ⟨o, ho, h1⟩ := ih h
      exact ⟨o, List.mem_cons_of_mem _ ho, h1⟩

theorem lastN_app (ns : List Nat) (s n : Nat) : lastN (ns ++ List.range' s n) = if n = 0 then lastN ns else s + n - 1 := by
  unfold lastN
  by_cases h : n = 0
  · subst h
    simp
  · rw [if_neg h, List.getLast?_append, List.getLast?_range']
    simp [h]

/-- ops of one's own stay, whatever is done elsewhere -/
theorem OwnO.keeps {B : Nat} {F : Nat → Prop} {w w' : World} {v : Value} {os : List OpB} (h : OwnO B w v os) (hk : Keeps F w w') (hF : ∀ q, B ≤ q → q < w.heap.size → ¬ F q) : OwnO B w' v os := by
  obtain ⟨cs, h1, h2⟩ := h
  have hs : ∀ q, B ≤ q ∧ q < w.heap.size → w'.heap[q]? = w.heap[q]? := fun q hq => hk.block q hq.2 (hF q hq.1 hq.2)
  refine ⟨cs, row_same9 h1 (fun q hq => hs q (h1.lt q hq)), fun j hj => ?_⟩
  obtain ⟨x, y, c0, c1, c2, ox, oy⟩ := h2 j hj
  exact ⟨x, y, c0, c1, c2, ownN_same9 ox (fun q hq => hs q (ownN_lt9 ox q hq)), ownN_same9 oy (fun q hq => hs q (ownN_lt9 oy q hq))⟩

/-- both memos, side by side -/
structure RunI (PM G : Nat → Prop) (W0 W : World) (m x : Nat) (Z : List (OpB × Nat)) (PM' G' : Nat → Prop) (L : List EnB) : Prop where
  mm : MmP PM' W m L (spnP Z) ((lastN (Z.map (·.2)) : Nat) : Int)
  rf : RefM G' W x (Z.map (·.1)) (Z.map (·.2))
  ap : ∀ q, PM' q → ¬ G' q
  pm : ∀ q, PM' q → PM q ∨ W0.heap.size ≤ q
  gg : ∀ q, G' q → G q ∨ W0.heap.size ≤ q
  lt : ∀ q, PM' q → q < W.heap.size
  kp : Keeps (fun q => PM q ∨ G q) W0 W
  pr : L.Perm (verP Z)
  ok : ∀ z ∈ Z, chkOp (z.1.1.toNat : Int) z.1.2.1 z.1.2.2 = 0
  up : ∀ z ∈ Z, z.2 ≤ lastN (Z.map (·.2))
  mx : lastN (Z.map (·.2)) ≤ 72057594037927935
  rs : (Z.map (·.2)).Pairwise (· < ·)
  lo : ∀ z ∈ Z, 1 ≤ z.2

theorem RunI.below {PM G PM' G' : Nat → Prop} {W0 W W' : World} {m x : Nat} {Z : List (OpB × Nat)} {L : List EnB} (h : RunI PM G W0 W m x Z PM' G' L) (hb : Below W.heap.size W W') : RunI PM G W0 W' m x Z PM' G' L :=
  ⟨h.mm.below hb, h.rf.below hb, h.ap, h.pm, h.gg, fun q hq => Nat.lt_of_lt_of_le (h.lt q hq) hb.size, h.kp.then (Below.keeps hb (fun _ => False)) (fun i hi => hi.elim), h.pr, h.ok, h.up, h.mx, h.rs, h.lo⟩

theorem RunI.keeps {PM G PM' G' F : Nat → Prop} {W0 W W' : World} {m x : Nat} {Z : List (OpB × Nat)} {L : List EnB} (h : RunI PM G W0 W m x Z PM' G' L) (hk : Keeps F W W') (hF : ∀ q, F q → ¬ PM' q ∧ ¬ G' q ∧ W0.heap.size ≤ q) : RunI PM G W0 W' m x Z PM' G' L :=
  ⟨h.mm.keeps hk (fun q _ hq hf => (hF q hf).1 hq), h.rf.keeps hk (fun q hq hf => (hF q hf).2.1 hq), h.ap, h.pm, h.gg, fun q hq => Nat.lt_of_lt_of_le (h.lt q hq) hk.size, h.kp.then hk (fun i hi => .inr (hF i hi).2.2), h.pr, h.ok, h.up, h.mx, h.rs, h.lo⟩

/-- both do the same -/
theorem RunI.step {PM G PM' G' : Nat → Prop} {W0 W W1 W2 : World} {m x s : Nat} {Z : List (OpB × Nat)} {L : List EnB} {ps : List OpB} {hs : List Int} {c : Int} {e1 e2 : Ending} (h : RunI PM G W0 W m x Z PM' G' L) (hc : batC ps (s : Int) hs ((lastN (Z.map (·.2)) : Nat) : Int) = c)
    (hq : BatQ PM' W m L (spnP Z) ((lastN (Z.map (·.2)) : Nat) : Int) ps s c e1 W1) (hr : R10Post G' W1 x (Z.map (·.1)) (Z.map (·.2)) ps s c e2 W2) :
    ∃ (PM2 G2 : Nat → Prop) (L2 : List EnB), RunI PM G W0 W2 m x (if c = 0 then Z ++ zipS ps s else Z) PM2 G2 L2 ∧ Keeps (fun q => PM' q ∨ G' q) W W2 ∧ ∀ q, PM2 q ∨ G2 q → (PM' q ∨ G' q) ∨ W.heap.size ≤ q := by
  obtain ⟨_, hk1, hn1, hy1⟩ := hq
  obtain ⟨_, hk2, hn2, hy2⟩ := hr
  have hkk : Keeps (fun q => PM' q ∨ G' q) W W2 := (hk1.mono (fun i hi => Or.inl hi)).then (hk2.mono (fun i hi => Or.inr hi)) (fun i hi => .inl hi)
  have hk02 : Keeps (fun q => PM q ∨ G q) W0 W2 := h.kp.then hkk (fun i hi => hi.elim (fun h9 => (h.pm i h9).imp Or.inl id) (fun h9 => (h.gg i h9).imp Or.inr id))
  by_cases h0 : c = 0
  · rw [if_pos h0]
    obtain ⟨L2, hp, hM⟩ := hy1 h0
    obtain ⟨G2, hR, hG2⟩ := hy2 h0
    have hz := batC_zero (hc.trans h0)
    have hs1 := hk1.size
    have hs0 := h.kp.size
    have hlt : ∀ q, G' q → q < W.heap.size := fun q hq => h.rf.lt hq
    have hlast : ((lastN ((Z ++ zipS ps s).map (·.2)) : Nat) : Int) = if ps.length = 0 then ((lastN (Z.map (·.2)) : Nat) : Int) else ((s + ps.length - 1 : Nat) : Int) := by
      rw [List.map_append, zipS_snd, lastN_app]
      by_cases h9 : ps.length = 0
      · rw [if_pos h9, if_pos h9]
      · rw [if_neg h9, if_neg h9]
    have hup : lastN (Z.map (·.2)) ≤ lastN ((Z ++ zipS ps s).map (·.2)) := by
      rw [List.map_append, zipS_snd, lastN_app]
      split
      · exact Nat.le_refl _
      · have := hz.2.2
        omega
    refine ⟨fun q => (PM' q ∨ W.heap.size ≤ q) ∧ q < W1.heap.size, G2, L2, ⟨?_, ?_, fun q hq hg => ?_, fun q hq => ?_, fun q hq => ?_, fun q hq => Nat.lt_of_lt_of_le hq.2 hk2.size, hk02, ?_, fun z hz9 => ?_, fun z hz9 => ?_, ?_, ?_, fun z hz9 => ?_⟩, hkk, fun q hq => ?_⟩
    · rw [spnP_app, spnP_zip, hlast]
      exact (hM.mono (Q := fun q => (PM' q ∨ W.heap.size ≤ q) ∧ q < W1.heap.size) (fun q h1 h2 => ⟨h2, h1⟩)).keeps hk2 (fun q _ hq hg => by
        rcases hq.1 with h9 | h9
        · exact h.ap q h9 hg
        · have := hlt q hg; omega)
    · rw [List.map_append, zipS_fst, List.map_append, zipS_snd]
      exact hR
    · rcases hG2 q hg with hg | hg
      · rcases hq.1 with h9 | h9
        · exact h.ap q h9 hg
        · have := hlt q hg; omega
      · have := hq.2; omega
    · rcases hq.1 with h9 | h9
      · exact h.pm q h9
      · exact .inr (by omega)
    · rcases hG2 q hq with h9 | h9
      · exact h.gg q h9
      · exact .inr (by omega)
    · rw [verP_app, verP_zip]
      exact hp.trans (h.pr.append_right _)
    · rcases List.mem_append.1 hz9 with h9 | h9
      · exact h.ok z h9
      · exact (chkL_mem hz.1).2 z.1 (zipS_mem h9).1
    · rcases List.mem_append.1 hz9 with h9 | h9
      · exact Nat.le_trans (h.up z h9) hup
      · have h8 := zipS_mem h9
        rw [List.map_append, zipS_snd, lastN_app, if_neg (by omega)]
        omega
    · rw [List.map_append, zipS_snd, lastN_app]
      have h9 := hz.2.1
      unfold hasN at h9
      have h8 := of_decide_eq_true h9
      have := h.mx
      split <;> omega
    · rw [List.map_append, List.pairwise_append]
      refine ⟨h.rs, by rw [zipS_snd]; exact List.pairwise_lt_range', fun a ha b hb => ?_⟩
      obtain ⟨z, hz8, rfl⟩ := List.mem_map.1 ha
      obtain ⟨y, hy8, rfl⟩ := List.mem_map.1 hb
      have h7 := h.up z hz8
      have h6 := (zipS_mem hy8).2.1
      have h5 := hz.2.2
      omega
    · rcases List.mem_append.1 hz9 with h9 | h9
      · exact h.lo z h9
      · have h6 := (zipS_mem h9).2.1
        have h5 := hz.2.2
        omega
    · rcases hq with hq | hq
      · exact hq.1.elim (fun h9 => .inl (.inl h9)) (fun h9 => .inr h9)
      · exact (hG2 q hq).elim (fun h9 => .inl (.inr h9)) (fun h9 => .inr (by omega))
  · rw [if_neg h0]
    have hb := bsplit (hn1 h0).2 (hn2 h0)
    exact ⟨PM', G', L, h.below hb, hkk, fun q hq => .inl hq⟩

end Go.Proofs.Ythcoblmfmbmdkaa

/- What is newest as of a number: the least of the key's versions that are seen. -/
namespace Go.Proofs.Ythcoblmfmbmdkaa
set_option maxRecDepth 20000
open Go.RowKit
set_option linter.unusedVariables false
set_option linter.unusedSimpArgs false

theorem cnt_lt : ∀ {es : List EnB} {K : EnB}, riseB es = true → ∀ i (h : i < es.length), ltE es[i] K = decide (i < cntE es K)
  | [], K, _, i, h => by simp at h
  | a :: r, K, hr, i, h => by
    have hr2 := (riseB_cons.1 hr).2
    cases ha : ltE a K with
    | true =>
      have hc : cntE (a :: r) K = cntE r K + 1 := by unfold cntE; rw [List.countP_cons, ha]; simp
      cases i with
      | zero => rw [hc]; simp [ha]
      | succ i =>
        have := cnt_lt (K := K) hr2 i (by simpa using h)
        rw [hc, List.getElem_cons_succ, this]
        simp
    | false =>
      have hall : ∀ x ∈ (a :: r), ltE x K = false := fun x hx => by
        obtain ⟨j, hj, rfl⟩ := List.getElem_of_mem hx
        exact behind_ge hr hj (Nat.zero_le j) (by simpa using ha)
      have hc : cntE (a :: r) K = 0 := by
        unfold cntE
        rw [List.countP_eq_zero]
        intro x hx
        simp [hall x hx]
      rw [hc, hall _ (List.getElem_mem h)]
      simp

theorem rise_inj {es : List EnB} (h : riseB es = true) {x y : EnB} (hx : x ∈ es) (hy : y ∈ es) (h0 : cmpE x y = 0) : x = y := by
  obtain ⟨i, hi, rfl⟩ := List.getElem_of_mem hx
  obtain ⟨j, hj, rfl⟩ := List.getElem_of_mem hy
  rcases Nat.lt_trichotomy i j with h1 | h1 | h1
  · have := rise_lt h i j hj h1; omega
  · subst h1; rfl
  · have h2 := rise_lt h j i hi h1
    have h3 := cmpE_neg es[i] es[j]
    omega

/-- of a key's own versions those that are seen don't stand ahead of where one looks -/
theorem lt_plc {x : EnB} {k : List UInt8} {s : Nat} (hk : x.1 = k) (h2 : x.2.2.1.toNat ≤ 2) (hm : x.2.1 ≤ 72057594037927935) : ltE x (plc k s) = false ↔ x.2.1 ≤ s := by
  have e0 : Lib.compareBytes x.1 k = 0 := Mth.cmp_zero.2 hk
  unfold ltE
  rw [decide_eq_false_iff_not]
  unfold cmpE plc
  simp only
  unfold Mth.cmpK
  rw [e0]
  have e2 : ((2 : UInt8).toNat : Int) = 2 := rfl
  simp only [e2, ne_eq, not_true_eq_false, if_false]
  constructor
  · intro h9
    by_cases h1 : ((min s 72057594037927935 : Nat) : Int) < (x.2.1 : Int)
    · rw [if_pos h1] at h9; omega
    · omega
  · intro h9
    rw [if_neg (by omega)]
    split
    · omega
    · rw [if_neg (by omega)]
      split <;> omega

/-- the least of those that are seen -/
def Newest (es : List EnB) (k : List UInt8) (s : Nat) (e : EnB) : Prop := e ∈ es ∧ e.1 = k ∧ e.2.1 ≤ s ∧ ∀ x ∈ es, x.1 = k → x.2.1 ≤ s → cmpE e x ≤ 0

theorem newE_some {es : List EnB} {k : List UInt8} {s : Nat} {e : EnB} (hr : riseB es = true) (hb : ∀ x ∈ es, x.2.2.1.toNat ≤ 2 ∧ x.2.1 ≤ 72057594037927935) (h : newE es k s = some e) : Newest es k s e := by
  unfold newE at h
  split at h
  · rename_i h9
    have hf : frmE es k s = some e := h
    rw [hf] at h9
    have hk : e.1 = k := by simpa [eQ] using h9
    unfold frmE at hf
    obtain ⟨hc, he⟩ := List.getElem?_eq_some_iff.1 hf
    have hm : e ∈ es := he ▸ List.getElem_mem hc
    have hl : ltE e (plc k s) = false := by rw [← he, cnt_lt hr _ hc]; simp
    refine ⟨hm, hk, (lt_plc hk (hb e hm).1 (hb e hm).2).1 hl, fun x hx hxk hxs => ?_⟩
    have hlx := (lt_plc (s := s) hxk (hb x hx).1 (hb x hx).2).2 hxs
    obtain ⟨j, hj, rfl⟩ := List.getElem_of_mem hx
    rw [cnt_lt hr j hj] at hlx
    have hjc : cntE es (plc k s) ≤ j := by simpa using hlx
    by_cases e9 : cntE es (plc k s) = j
    · have : e = es[j] := by rw [← he]; simp [e9]
      rw [this]
      have h0 : cmpE es[j] es[j] = 0 := Mth.cmpK_zero.2 ⟨rfl, rfl, rfl⟩
      omega
    · have := rise_lt hr _ j hj (by omega : cntE es (plc k s) < j)
      rw [he] at this
      omega
  · cases h

theorem newE_none {es : List EnB} {k : List UInt8} {s : Nat} (hr : riseB es = true) (hb : ∀ x ∈ es, x.2.2.1.toNat ≤ 2 ∧ x.2.1 ≤ 72057594037927935) (h : newE es k s = none) : ∀ x ∈ es, x.1 = k → ¬ x.2.1 ≤ s := by
  intro x hx hxk hxs
  have hlx := (lt_plc (s := s) hxk (hb x hx).1 (hb x hx).2).2 hxs
  obtain ⟨j, hj, rfl⟩ := List.getElem_of_mem hx
  have hlj := hlx
  rw [cnt_lt hr j hj] at hlx
  have hjc : cntE es (plc k s) ≤ j := by simpa using hlx
  have hc : cntE es (plc k s) < es.length := by omega
  have hle : ltE es[cntE es (plc k s)] (plc k s) = false := by rw [cnt_lt hr _ hc]; simp
  have hcx : cmpE es[cntE es (plc k s)] es[j] ≤ 0 := by
    by_cases e9 : cntE es (plc k s) = j
    · have h0 : cmpE es[j] es[j] = 0 := Mth.cmpK_zero.2 ⟨rfl, rfl, rfl⟩
      simp only [e9]
      omega
    · exact Int.le_of_lt (rise_lt hr _ j hj (by omega))
  have hk : es[cntE es (plc k s)].1 = k := by
    have h1 : ¬ cmpE es[cntE es (plc k s)] (plc k s) < 0 := of_decide_eq_false hle
    have v1 := Mth.cmp_vals es[cntE es (plc k s)].1 k
    have z1 := Mth.cmp_zero (l := es[cntE es (plc k s)].1) (m := k)
    unfold cmpE Mth.cmpK at h1 hcx
    rw [hxk] at hcx
    have e1 : (plc k s).1 = k := rfl
    rw [e1] at h1
    by_cases h0 : Lib.compareBytes es[cntE es (plc k s)].1 k = 0
    · exact z1.1 h0
    · rw [if_pos h0] at h1 hcx
      omega
  unfold newE at h
  have hf : frmE es k s = some es[cntE es (plc k s)] := by unfold frmE; exact List.getElem?_eq_getElem hc
  rw [hf] at h
  simp [eQ, hk] at h

theorem newest_unique {es fs : List EnB} {k : List UInt8} {s : Nat} {e f : EnB} (hr : riseB fs = true) (he : Newest es k s e) (hf : Newest fs k s f) (h1 : e ∈ fs) (h2 : f ∈ es) : e = f := by
  have a := he.2.2.2 f h2 hf.2.1 hf.2.2.1
  have b := hf.2.2.2 e h1 he.2.1 he.2.2.1
  have c := cmpE_neg e f
  exact rise_inj hr h1 hf.1 (by omega)

/-- what is newer than the number changes nothing -/
theorem newE_stays {L1 L2 : List EnB} {Z Y : List (OpB × Nat)} {k : List UInt8} {s : Nat} (hr1 : riseB L1 = true) (hr2 : riseB L2 = true) (hb2 : ∀ x ∈ L2, x.2.2.1.toNat ≤ 2 ∧ x.2.1 ≤ 72057594037927935) (p1 : L1.Perm (verP Z)) (p2 : L2.Perm (verP (Z ++ Y))) (hY : ∀ y ∈ Y, s < y.2) : newE L2 k s = newE L1 k s := by
  have hs : ∀ x, x ∈ L1 → x ∈ L2 := fun x hx => p2.mem_iff.2 (by rw [verP_app]; exact List.mem_append_left _ (p1.mem_iff.1 hx))
  have hb1 : ∀ x ∈ L1, x.2.2.1.toNat ≤ 2 ∧ x.2.1 ≤ 72057594037927935 := fun x hx => hb2 x (hs x hx)
  have ht : ∀ x, x ∈ L2 → x.2.1 ≤ s → x ∈ L1 := fun x hx hxs => by
    have h9 := p2.mem_iff.1 hx
    rw [verP_app] at h9
    rcases List.mem_append.1 h9 with h9 | h9
    · exact p1.mem_iff.2 h9
    · obtain ⟨z, hz, _, e2, _⟩ := verP_mem h9
      have := hY z hz
      omega
  cases h1 : newE L1 k s with
  | none =>
    cases h2 : newE L2 k s with
    | none => rfl
    | some f =>
      have hf := newE_some hr2 hb2 h2
      exact absurd hf.2.2.1 (newE_none hr1 hb1 h1 f (ht f hf.1 hf.2.2.1) hf.2.1)
  | some e =>
    have he := newE_some hr1 hb1 h1
    cases h2 : newE L2 k s with
    | none => exact absurd he.2.2.1 (newE_none hr2 hb2 h2 e (hs e he.1) he.2.1)
    | some f =>
      have hf := newE_some hr2 hb2 h2
      rw [newest_unique hr2 he hf (hs e he.1) (ht f hf.1 hf.2.2.1)]

theorem covN_stays {Z Y : List (OpB × Nat)} {k : List UInt8} {s : Nat} (hY : ∀ y ∈ Y, s < y.2) : covN (spnP (Z ++ Y)) k (s : Int) = covN (spnP Z) k (s : Int) := by
  have hno : ∀ (ss : List SpB) (m : Nat), (∀ x ∈ ss, s < x.2.2) → ss.foldl (covS k (s : Int)) m = m := by
    intro ss
    induction ss with
    | nil => intro m _; rfl
    | cons a r ih =>
      intro m hm
      have h1 := hm a List.mem_cons_self
      have e1 : covS k (s : Int) m a = m := by unfold covS; rw [if_neg (by omega)]
      rw [List.foldl_cons, e1]
      exact ih m (fun x hx => hm x (List.mem_cons_of_mem _ hx))
  unfold covN
  rw [spnP_app, List.foldl_append]
  refine hno _ _ (fun x hx => ?_)
  have hs : ∀ (Y : List (OpB × Nat)) (x : SpB), x ∈ spnP Y → ∃ y ∈ Y, y.2 = x.2.2 := by
    intro Y
    induction Y with
    | nil => intro x hx; simp [spnP] at hx
    | cons a r ih =>
      intro x hx
      unfold spnP at hx
      by_cases h3 : a.1.1 = 3
      · rw [if_pos h3] at hx
        rcases List.mem_cons.1 hx with rfl | hx
        · exact ⟨a, List.mem_cons_self, rfl⟩
        · obtain ⟨y, hy, e⟩ := ih x hx
          exact ⟨y, List.mem_cons_of_mem _ hy, e⟩
      · rw [if_neg h3] at hx
        obtain ⟨y, hy, e⟩ := ih x hx
        exact ⟨y, List.mem_cons_of_mem _ hy, e⟩
  obtain ⟨y, hy, e⟩ := hs Y x hx
  have := hY y hy
  omega

/-- the bounds that a run leaves -/
theorem runI_bounds {PM G PM' G' : Nat → Prop} {W0 W : World} {m x : Nat} {Z : List (OpB × Nat)} {L : List EnB} (h : RunI PM G W0 W m x Z PM' G' L) : ∀ e ∈ L, e.2.2.1.toNat ≤ 2 ∧ e.2.1 ≤ 72057594037927935 := by
  have hk : ∀ (Z : List (OpB × Nat)) (e : EnB), e ∈ verP Z → ∃ z ∈ Z, e.2.1 = z.2 ∧ e.2.2.1 = z.1.1 ∧ z.1.1 ≠ 3 := by
    intro Z
    induction Z with
    | nil => intro e he; simp [verP] at he
    | cons a r ih =>
      intro e he
      unfold verP at he
      by_cases h3 : a.1.1 = 3
      · rw [if_pos h3] at he
        obtain ⟨z, hz, h9⟩ := ih e he
        exact ⟨z, List.mem_cons_of_mem _ hz, h9⟩
      · rw [if_neg h3] at he
        rcases List.mem_cons.1 he with rfl | he
        · exact ⟨a, List.mem_cons_self, rfl, rfl, h3⟩
        · obtain ⟨z, hz, h9⟩ := ih e he
          exact ⟨z, List.mem_cons_of_mem _ hz, h9⟩
  intro e he
  obtain ⟨z, hz, e1, e2, e3⟩ := hk Z e (h.pr.mem_iff.1 he)
  have h1 := (chkOp_len (h.ok z hz)).1
  have h2 := h.up z hz
  have h3 := h.mx
  refine ⟨?_, by omega⟩
  rw [e2]
  have h4 : z.1.1.toNat ≠ 3 := fun h9 => e3 (UInt8.toNat_inj.1 (by rw [h9]; rfl))
  omega

end Go.Proofs.Ythcoblmfmbmdkaa

/- Is an op of a key: batch.of, and the document's own answer; an op, apart. -/
namespace Go.Proofs.Ythcoblmfmbmdkaa
open Go.RowKit

/-- is an op of a key -/
def cov (k : Int) (l m key : List UInt8) : Bool := if k = 3 then !decide (Lib.compareBytes key l < 0) && decide (Lib.compareBytes key m < 0) else l == key

set_option maxHeartbeats 2000000 in
theorem opcov_any (w : World) (x y z : Value) (l m key : List UInt8) (k : Int) (b : Bool) (hx : Rd w x l) (hy : Rd w y m) (hz : Rd w z key) (hb : cov k l m key = b) :
    Calls Try.prog 46 #[.agg #[.int .u8 k, x, y], z] w fun e w' => e = .returned (.bool b) ∧ Below w.heap.size w w' := by
  have hB := below_box w #[.int .u8 k, x, y] 63
  have rx := hx.below hB (Nat.le_refl _)
  have ry := hy.below hB (Nat.le_refl _)
  have rz := hz.below hB (Nat.le_refl _)
  obtain ⟨a1, a2, ea⟩ := hx.len
  obtain ⟨b1, b2, eb⟩ := hy.len
  subst ea eb
  have H : Hid _ := hb
  clear hx hy hz hb
  by_cases h3 : k = 3
  · subst h3
    obtain ⟨p, hp⟩ : ∃ p, decide (Lib.compareBytes key l < 0) = p := ⟨_, rfl⟩
    obtain ⟨q, hq⟩ : ∃ q, decide (Lib.compareBytes key m < 0) = q := ⟨_, rfl⟩
    have HP : Hid _ := hp
    have HQ : Hid _ := hq
    have fin : Hid (b = (!p && q)) := by show _ = _; rw [← H.out, ← hp, ← hq]; rfl
    clear hp hq H
    go_enter Try.func46, Try.ntmps46
    go_wp2_with fail
    refine (refless_any _ _ _ key l p rz rx HP.out).mono ?_
    rintro e w1 ⟨rfl, hw⟩
    subst hw
    cases p
    · go_wp2_with fail
      refine (refless_any _ _ _ key m q rz ry HQ.out).mono ?_
      rintro e w1 ⟨rfl, hw⟩
      subst hw
      go_wp2
      go_ret
      exact ⟨ret_bool (by rw [fin.out]; simp), hB⟩
    · go_wp2
      go_ret
      exact ⟨ret_bool (by rw [fin.out]; simp), hB⟩
  · have fin : Hid ((l == key) = b) := by show _ = _; rw [← H.out]; unfold cov; rw [if_neg h3]
    clear H
    go_enter Try.func46, Try.ntmps46
    go_wp2_with fail
    refine (same_b _ _ _ l key b rx rz fin.out).mono ?_
    rintro e w1 ⟨rfl, hw⟩
    subst hw
    go_wp2
    go_ret
    exact ⟨ret_bool (rfl), hB⟩

theorem OwnN.other {B : Nat} {w : World} {v : Value} {l : List UInt8} (h : OwnN B w v l) (p : Addr) (hp : p.block < B) (u : Value) : OwnN B (w.setCell p u) v l := by
  rcases h with h | h
  · exact .inl h
  · obtain ⟨g, c, rfl⟩ := h.shape
    have := h.lt.1
    exact .inr (h.other p (by omega) u)

theorem OwnN.store3 {B : Nat} {w : World} {v : Value} {l : List UInt8} (h : OwnN B w v l) {b : Nat} (hb : b < B) (u0 u1 u2 : Value) : OwnN B (((w.setCell ⟨b, 0, none⟩ u0).setCell ⟨b, 1, none⟩ u1).setCell ⟨b, 2, none⟩ u2) v l :=
  ((h.other ⟨b, 0, none⟩ hb u0).other ⟨b, 1, none⟩ hb u1).other ⟨b, 2, none⟩ hb u2

theorem OwnN.drew {B : Nat} {w : World} {v : Value} {l : List UInt8} (h : OwnN B w v l) : OwnN B w.drew v l := h

theorem OwnN.len {B : Nat} {w : World} {v : Value} {l : List UInt8} (h : OwnN B w v l) : ∃ ao cap, v = .slice ao l.length cap := h.rd.len

theorem arg_drew2 {w : World} {v : Value} {l : List UInt8} (h : Rd w v l) : Arg w.drew v l := Rd.arg (Rd.drew h)

end Go.Proofs.Ythcoblmfmbmdkaa

/- batch.Over. -/
namespace Go.Proofs.Ythcoblmfmbmdkaa
open Go.RowKit

def covO (o : OpB) (key : List UInt8) : Bool := cov (o.1.toNat : Int) o.2.1 o.2.2 key

/-- the last op of a key -/
def overO (os : List OpB) (key : List UInt8) : Option OpB := os.reverse.find? fun o => covO o key

/-- the answer -/
def resO : Option OpB → OpB × Bool
  | some o => (o, true)
  | none => ((0, [], []), false)

theorem find_drop {os : List OpB} {j : Nat} {i : Nat} (h : i + 1 + j = os.length) : os.reverse.drop j = (os[i]'(by omega)) :: os.reverse.drop (j + 1) := by
  have hj : j < os.reverse.length := by rw [List.length_reverse]; omega
  rw [List.drop_eq_getElem_cons hj, List.getElem_reverse]
  congr 2
  omega

end Go.Proofs.Ythcoblmfmbmdkaa

/- A slice of pairs; the map that ops make. -/
namespace Go.Proofs.Ythcoblmfmbmdkaa
open Go.RowKit

abbrev PrB := List UInt8 × List UInt8

/-- v is a slice of pairs -/
def RdP (w : World) (v : Value) (ps : List PrB) : Prop :=
  ∃ ao cap, v = .slice ao ps.length cap ∧ ps.length ≤ cap ∧ cap ≤ maxLen ∧ ∀ j (h : j < ps.length), ∃ b off, ao = some ⟨b, off, none⟩ ∧ ∃ x y, w.cell? ⟨b, off + j * 2, none⟩ = some x ∧ w.cell? ⟨b, off + j * 2 + 1, none⟩ = some y ∧ Rd w x ps[j].1 ∧ Rd w y ps[j].2

theorem RdP.below {B : Nat} {w w' : World} {v : Value} {ps : List PrB} (h : RdP w v ps) (hb : Below B w w') (hB : w.heap.size ≤ B) : RdP w' v ps := by
  obtain ⟨ao, cap, rfl, h1, h2, h3⟩ := h
  refine ⟨ao, cap, rfl, h1, h2, fun j hj => ?_⟩
  obtain ⟨b, off, e, x, y, c0, c1, r1, r2⟩ := h3 j hj
  have hl : b < B := Nat.lt_of_lt_of_le (World.block_lt_of_cell? w _ c0) hB
  exact ⟨b, off, e, x, y, by rw [hb.cell (p := ⟨b, off + j * 2, none⟩) hl]; exact c0, by rw [hb.cell (p := ⟨b, off + j * 2 + 1, none⟩) hl]; exact c1, r1.below hb hB, r2.below hb hB⟩

theorem RdP.nil (w : World) : RdP w (.slice none 0 0) [] := ⟨none, 0, rfl, Nat.le_refl _, Nat.zero_le _, fun _ h => absurd h (Nat.not_lt_zero _)⟩

theorem RdP.drew {w : World} {v : Value} {ps : List PrB} (h : RdP w v ps) : RdP w.drew v ps := h

/-- pairs in a row of the call's own, that hold what was there in w0 -/
def OwnP (w0 w : World) (v : Value) (ps : List PrB) : Prop :=
  ∃ cs, w.ownsRow w0.heap.size 61 2 v ps.length cs ∧ ∀ j (h : j < ps.length), ∃ x y, cs[j * 2]? = some x ∧ cs[j * 2 + 1]? = some y ∧ Rd w0 x ps[j].1 ∧ Rd w0 y ps[j].2

theorem OwnP.nil (w0 w : World) : OwnP w0 w (.slice none 0 0) [] := ⟨[], World.ownsRow_nil _ _ _ _, fun _ h => absurd h (Nat.not_lt_zero _)⟩

theorem OwnP.below {C : Nat} {w0 w w' : World} {v : Value} {ps : List PrB} (h : OwnP w0 w v ps) (hb : Below C w w') (hC : w.heap.size ≤ C) : OwnP w0 w' v ps := by
  obtain ⟨cs, hr, hj⟩ := h
  have hb' : Below w.heap.size w w' := ⟨hb.os, hb.tape, hb.output, hb.size, fun i hi => hb.block i (Nat.lt_of_lt_of_le hi hC)⟩
  exact ⟨cs, row_below hr hb', hj⟩

theorem OwnP.rd {w0 w : World} {v : Value} {ps : List PrB} (h : OwnP w0 w v ps) (hb : Below w0.heap.size w0 w) : RdP w v ps := by
  obtain ⟨cs, hr, hj⟩ := h
  have hr2 := hr
  rcases hr.2 with ⟨e, hn⟩ | ⟨g, cap, cur, e, _, hg, h1, h2, h3, h4⟩
  · refine ⟨none, 0, by rw [e, hn], by omega, Nat.zero_le _, fun j hj => by omega⟩
  · subst e
    refine ⟨_, cap, rfl, h1, h2, fun j h => ⟨g, 0, rfl, ?_⟩⟩
    obtain ⟨x, y, c0, c1, rx, ry⟩ := hj j h
    have hc := hr2.cells (g := g) rfl
    refine ⟨x, y, ?_, ?_, rx.below hb (Nat.le_refl _), ry.below hb (Nat.le_refl _)⟩
    · have := hc _ _ c0; rwa [Addr.add_lit] at this
    · have := hc _ _ c1; rwa [Addr.add_lit] at this

theorem OwnP.shape {w0 w : World} {v : Value} {ps : List PrB} (h : OwnP w0 w v ps) : ∃ a c, v = .slice a ps.length c := by
  obtain ⟨cs, hr, _⟩ := h
  rcases hr.2 with ⟨e, hn⟩ | ⟨g, cap, cur, e, _⟩
  · exact ⟨none, 0, by rw [e, hn]⟩
  · exact ⟨_, cap, e⟩

theorem own_pushP {w0 w' : World} {v' x y : Value} {ps : List PrB} {cs : List Value} (p : PrB) (hcl : cs.length = ps.length * 2)
    (hel : ∀ j (h : j < ps.length), ∃ x y, cs[j * 2]? = some x ∧ cs[j * 2 + 1]? = some y ∧ Rd w0 x ps[j].1 ∧ Rd w0 y ps[j].2)
    (hx : Rd w0 x p.1) (hy : Rd w0 y p.2) (hn : w'.ownsRow w0.heap.size 61 2 v' (ps.length + 1) (cs ++ [x, y])) : OwnP w0 w' v' (ps ++ [p]) := by
  refine ⟨_, by rw [List.length_append]; exact hn, fun j h => ?_⟩
  by_cases hj : j < ps.length
  · obtain ⟨x', y', c0, c1, ox, oy⟩ := hel j hj
    refine ⟨x', y', ?_, ?_, ?_, ?_⟩
    · rw [List.getElem?_append_left (by omega)]; exact c0
    · rw [List.getElem?_append_left (by omega)]; exact c1
    · rw [List.getElem_append_left hj]; exact ox
    · rw [List.getElem_append_left hj]; exact oy
  · have hje : j = ps.length := by rw [List.length_append] at h; simp at h; omega
    subst hje
    have e : (ps ++ [p])[ps.length]'h = p := by simp
    rw [e]
    refine ⟨x, y, ?_, ?_, hx, hy⟩
    · rw [List.getElem?_append_right (by omega), show ps.length * 2 - cs.length = 0 by omega]; rfl
    · rw [List.getElem?_append_right (by omega), show ps.length * 2 + 1 - cs.length = 1 by omega]; rfl

theorem laid2 (w : World) (v0 v1 : Value) (t : TypeId) : ∀ j u, [v0, v1][j]? = some u → (w.alloc (.cells #[v0, v1] t)).cell? ((⟨w.heap.size, 0, none⟩ : Addr).add j) = some u := by
  intro j u hj
  match j, hj with
  | 0, hj => simp at hj; subst hj; simp [Addr.add]
  | 1, hj => simp at hj; subst hj; simp [Addr.add]
  | (j + 2), hj => simp at hj

theorem one2 (a b : Option Addr) (n m c d : Nat) : ∀ u ∈ [Value.slice a n c, .slice b m d], u.oneCell' = true := by
  intro u hu
  simp at hu
  rcases hu with rfl | rfl <;> rfl

theorem infoPr : (Try.prog.info? 61).map (fun i => (i.zero, i.size, i.bytes)) = some (some (.agg #[.slice none 0 0, .slice none 0 0]), 2, 48) := by kernel_rfl

/-- is key a below key b -/
def ltB (a b : List UInt8) : Bool := decide (Lib.compareBytes a b < 0)

/-- what a map is behind an op; done: it isn't to be put any more -/
def applyS (o : OpB) : Bool → List PrB → List PrB
  | done, [] => if done then [] else [(o.2.1, o.2.2)]
  | done, x :: r => (if !done && ltB o.2.1 x.1 then [(o.2.1, o.2.2)] else []) ++ ((if covO o x.1 then [] else [x]) ++ applyS o (done || ltB o.2.1 x.1) r)

def applyO (m : List PrB) (o : OpB) : List PrB := applyS o (decide (¬ o.1.toNat = 2)) m

def applyAllO (m : List PrB) (os : List OpB) : List PrB := os.foldl applyO m

theorem applyS_len (o : OpB) (d : Bool) (m : List PrB) : (applyS o d m).length ≤ m.length + 1 ∧ (d = true → (applyS o d m).length ≤ m.length) := by
  induction m generalizing d with
  | nil => cases d <;> simp [applyS]
  | cons x r ih =>
    have h1 := ih (d || ltB o.2.1 x.1)
    unfold applyS
    cases d <;> cases hl : ltB o.2.1 x.1 <;> cases hc : covO o x.1 <;> simp_all <;> omega

theorem applyO_len (m : List PrB) (o : OpB) : (applyO m o).length ≤ m.length + 1 := (applyS_len o _ m).1

theorem applyAll_len (m : List PrB) (os : List OpB) : (applyAllO m os).length ≤ m.length + os.length := by
  induction os generalizing m with
  | nil => simp [applyAllO]
  | cons o os ih =>
    have h1 := ih (applyO m o)
    have h2 := applyO_len m o
    unfold applyAllO at h1 ⊢
    rw [List.foldl_cons, List.length_cons]
    omega

/-- a key's value -/
def getP (m : List PrB) (key : List UInt8) : Option (List UInt8) := (m.find? fun x => x.1 == key).map (·.2)

theorem getP_cons (x : PrB) (r : List PrB) (key : List UInt8) : getP (x :: r) key = if x.1 == key then some x.2 else getP r key := by
  unfold getP
  rw [List.find?_cons]
  cases x.1 == key <;> rfl

theorem getP_append (a b : List PrB) (key : List UInt8) : getP (a ++ b) key = (getP a key).or (getP b key) := by
  induction a with
  | nil => simp [getP]
  | cons x r ih =>
    rw [List.cons_append, getP_cons, getP_cons, ih]
    cases x.1 == key <;> simp

theorem cov_put {o : OpB} (h : o.1.toNat = 2) (key : List UInt8) : covO o key = (o.2.1 == key) := by
  unfold covO cov
  rw [h]
  simp

/-- what a key's value is behind an op that isn't to be put any more -/
theorem get_done (o : OpB) (m : List PrB) (key : List UInt8) : getP (applyS o true m) key = if covO o key = true then none else getP m key := by
  induction m with
  | nil => simp [applyS, getP]
  | cons x r ih =>
    unfold applyS
    simp only [Bool.not_true, Bool.false_and, Bool.false_eq_true, if_false, List.nil_append, Bool.true_or]
    rw [getP_append, ih, getP_cons]
    by_cases hk : x.1 = key
    · subst hk
      cases hc : covO o x.1 <;> simp [getP]
    · have hk' : (x.1 == key) = false := by simpa using hk
      cases hc : covO o x.1 <;> simp [getP, hk']

theorem get_put (o : OpB) (h2 : o.1.toNat = 2) (m : List PrB) (key : List UInt8) : getP (applyS o false m) key = if covO o key = true then some o.2.2 else getP m key := by
  induction m with
  | nil =>
    unfold applyS
    simp only [Bool.false_eq_true, if_false]
    rw [getP_cons, cov_put h2]
  | cons x r ih =>
    unfold applyS
    simp only [Bool.not_false, Bool.true_and, Bool.false_or]
    cases hl : ltB o.2.1 x.1
    · simp only [Bool.false_eq_true, if_false, List.nil_append]
      rw [getP_append, ih, getP_cons]
      by_cases hk : x.1 = key
      · subst hk
        cases hc : covO o x.1 <;> simp [getP]
      · have hk' : (x.1 == key) = false := by simpa using hk
        cases hc : covO o x.1 <;> simp [getP, hk']
    · simp only [if_true]
      rw [getP_append, getP_append, get_done, getP_cons, getP_cons]
      by_cases hk : o.2.1 = key
      · have h1 : covO o key = true := by rw [cov_put h2]; simpa using hk
        have h3 : (o.2.1 == key) = true := by simpa using hk
        simp [h1, h3]
      · have h1 : covO o key = false := by rw [cov_put h2]; simpa using hk
        have h3 : (o.2.1 == key) = false := by simpa using hk
        by_cases hk2 : x.1 = key
        · subst hk2
          simp [h1, h3, getP]
        · have hk' : (x.1 == key) = false := by simpa using hk2
          cases hc : covO o x.1 <;> simp [h1, h3, getP, hk']

theorem get_apply (m : List PrB) (o : OpB) (key : List UInt8) : getP (applyO m o) key = if covO o key = true then (if o.1.toNat = 2 then some o.2.2 else none) else getP m key := by
  unfold applyO
  by_cases h : o.1.toNat = 2
  · rw [show decide (¬ o.1.toNat = 2) = false by simp [h], get_put o h, if_pos h]
  · rw [show decide (¬ o.1.toNat = 2) = true by simp [h], get_done, if_neg h]

theorem overO_append (os : List OpB) (o : OpB) (key : List UInt8) : overO (os ++ [o]) key = if covO o key = true then some o else overO os key := by
  unfold overO
  rw [List.reverse_append, List.reverse_singleton, List.singleton_append, List.find?_cons]
  cases covO o key <;> rfl

theorem get_all (os : List OpB) (key : List UInt8) : getP (applyAllO [] os) key = match overO os key with | some o => if o.1.toNat = 2 then some o.2.2 else none | none => none := by
  obtain ⟨rs, rfl⟩ : ∃ rs, os = rs.reverse := ⟨os.reverse, by simp⟩
  induction rs with
  | nil => simp [applyAllO, getP, overO]
  | cons o rs ih =>
    rw [List.reverse_cons]
    generalize rs.reverse = os at *
    have e : applyAllO [] (os ++ [o]) = applyO (applyAllO [] os) o := by unfold applyAllO; rw [List.foldl_append]; rfl
    rw [e, get_apply, ih, overO_append]
    cases covO o key <;> simp

end Go.Proofs.Ythcoblmfmbmdkaa

/- bartizanref04's Apply. -/
namespace Go.Proofs.Ythcoblmfmbmdkaa
open Go.RowKit

theorem cell_grown {w w' : World} {p : Addr} {u : Value} {row : Option Nat} (h : w.cell? p = some u) (hg : w.grownBy w' row) (hne : some p.block ≠ row) : w'.cell? p = some u := hg.cell h hne

theorem cell_below {B : Nat} {w w' : World} {p : Addr} {u : Value} (h : w.cell? p = some u) (hb : Below B w w') (hB : w.heap.size ≤ B) : w'.cell? p = some u := by
  rw [hb.cell (Nat.lt_of_lt_of_le (World.block_lt_of_cell? w _ h) hB)]
  exact h

theorem applyS_cons (o : OpB) (d : Bool) (x : PrB) (r : List PrB) : applyS o d (x :: r) = (if !d && ltB o.2.1 x.1 then [(o.2.1, o.2.2)] else []) ++ ((if covO o x.1 then [] else [x]) ++ applyS o (d || ltB o.2.1 x.1) r) := rfl

set_option maxHeartbeats 8000000 in
set_option maxRecDepth 20000 in
theorem apply_any (w : World) (vm x y : Value) (ps res : List PrB) (ok : UInt8) (ol om : List UInt8) (hm : RdP w vm ps) (hx : Rd w x ol) (hy : Rd w y om) (hn : ps.length ≤ 4000) (hres : applyO ps (ok, ol, om) = res) :
    Calls Try.prog 48 #[vm, .agg #[.int .u8 (ok.toNat : Int), x, y]] w fun e w' => ∃ z, e = .returned z ∧ RdP w' z res ∧ Below w.heap.size w w' := by
  obtain ⟨i0, hi, hz0, hz1, hz2⟩ := info_parts infoPr
  obtain ⟨x1, x2, ex⟩ := hx.len
  obtain ⟨y1, y2, ey⟩ := hy.len
  subst ex ey
  have hB0 := below_box w #[.int .u8 (ok.toNat : Int), .slice x1 ol.length x2, .slice y1 om.length y2] 63
  have b0 := box_new w (.int .u8 (ok.toNat : Int)) (.slice x1 ol.length x2) (.slice y1 om.length y2) 63
  have hm0 := hm.below hB0 (Nat.le_refl _)
  have hx0 := hx.below hB0 (Nat.le_refl _)
  have hy0 := hy.below hB0 (Nat.le_refl _)
  obtain ⟨w0, hw0⟩ : ∃ w0, w.alloc (.cells #[.int .u8 (ok.toNat : Int), .slice x1 ol.length x2, .slice y1 om.length y2] 63) = w0 := ⟨_, rfl⟩
  have hs0 : w0.heap.size = w.heap.size + 1 := by rw [← hw0]; simp
  rw [hw0] at hB0 b0 hm0 hx0 hy0
  have HM : Hid _ := hm0
  have HX : Hid _ := hx0
  have HY : Hid _ := hy0
  obtain ⟨ao, cap, rfl, h1, h2, _⟩ := hm
  unfold maxLen at h2
  have HRES : Hid (applyS (ok, ol, om) (decide (¬ ok.toNat = 2)) ps = res) := hres
  have hrl : res.length ≤ 4001 := by rw [← hres]; have := applyO_len ps (ok, ol, om); omega
  clear hm0 hx0 hy0 hx hy hres
  obtain ⟨d0, hd0⟩ : ∃ d, decide (¬ ok.toNat = 2) = d := ⟨_, rfl⟩
  rw [hd0] at HRES
  have hdk : ((ok.toNat : Int) != 2) = d0 := by
    rw [← hd0]
    by_cases h : ok.toNat = 2
    · rw [h]; rfl
    · have : ¬ (ok.toNat : Int) = 2 := by omega
      simp [h, this]
  clear hd0
  have b0c0 := b0.c0
  go_enter Try.func48, Try.ntmps48
  go_wp2_with fail
  clear b0c0
  go_loopg [5, 6, 14] ps.length (fun gk pv dv iv wr => ∃ (j : Nat) (d : Bool) (out : List PrB) (a' : Option Addr) (c' : Nat), gk + j = ps.length ∧ iv = .int .i64 (j : Int) ∧ dv = .bool d ∧ pv = .slice a' out.length c' ∧ OwnP w0 wr pv out ∧ out ++ applyS (ok, ol, om) d (ps.drop j) = res ∧ Box wr w.heap.size (.int .u8 (ok.toNat : Int)) (.slice x1 ol.length x2) (.slice y1 om.length y2) ∧ Below w0.heap.size w0 wr)
  case atStart => exact ⟨0, d0, [], none, 0, rfl, rfl, rfl, rfl, OwnP.nil _ _, HRES.out, b0, Below.refl _ _⟩
  case round =>
    clear b0 hdk
    obtain ⟨j, d, out, a', c', hj, rfl, rfl, rfl, hO, hS, hbx, hB⟩ := hrel
    have hol : out.length ≤ 4001 := by have := congrArg List.length hS; rw [List.length_append] at this; omega
    have HS : Hid _ := hS
    clear hS
    by_cases hlt : j < ps.length
    · obtain ⟨_, _, e, _, _, h3⟩ := (show RdP w0 (.slice ao ps.length cap) ps from HM.out)
      cases e
      obtain ⟨b, off, rfl, xk, xv, k0, k1, rk, rv⟩ := h3 j hlt
      have hbw := World.block_lt_of_cell? w0 _ k0
      have c0 := (hB.cell (p := ⟨b, off + j * 2, none⟩) hbw).trans k0
      have c1 := (hB.cell (p := ⟨b, off + j * 2 + 1, none⟩) hbw).trans k1
      obtain ⟨k1', k2', ek⟩ := rk.len
      obtain ⟨v1', v2', ev⟩ := rv.len
      subst ek ev
      obtain ⟨⟨pk, pv⟩, hp⟩ : ∃ p, ps[j] = p := ⟨_, rfl⟩
      rw [hp] at c0 c1 rk rv
      obtain ⟨q, hq⟩ : ∃ q, ltB ol pk = q := ⟨_, rfl⟩
      obtain ⟨cv, hcv⟩ : ∃ c, cov (ok.toNat : Int) ol om pk = c := ⟨_, rfl⟩
      have HQ : Hid _ := hq
      have HCV : Hid _ := hcv
      have HS2 : Hid (out ++ ((if !d && q then [(ol, om)] else []) ++ ((if cv then [] else [(pk, pv)]) ++ applyS (ok, ol, om) (d || q) (ps.drop (j + 1)))) = res) := by
        show _ = _
        rw [← HS.out, List.drop_eq_getElem_cons hlt, hp, applyS_cons, ← hq, ← hcv]
        rfl
      have HRK : Hid _ := rk
      have HRV : Hid _ := rv
      clear h3 k0 k1 hbw hp hq hcv HS rk rv
      have hsw : w0.heap.size ≤ wr.heap.size := hB.size
      have hwr2 : w.heap.size < wr.heap.size := by omega
      have hba := below_box wr #[.slice k1' pk.length k2', .slice v1' pv.length v2'] 61
      have t0 : (wr.alloc (.cells #[.slice k1' pk.length k2', .slice v1' pv.length v2'] 61)).cell? ⟨wr.heap.size, 0, none⟩ = some (.slice k1' pk.length k2') := by simp
      have t1 : (wr.alloc (.cells #[.slice k1' pk.length k2', .slice v1' pv.length v2'] 61)).cell? ⟨wr.heap.size, 1, none⟩ = some (.slice v1' pv.length v2') := by simp
      have bx1 := hbx.below hba (Nat.le_refl _)
      have hO1 := hO.below hba (Nat.le_refl _)
      have hB1 := hB.trans (hba.mono hB.size)
      have hne8 : some wr.heap.size ≠ (Value.slice a' out.length c').ownBlock := by
        obtain ⟨cs, hrow, _⟩ := hO
        intro e
        have := (hrow.lt _ e.symm).2
        omega
      have hlow : ∀ k, (Value.slice a' out.length c').ownBlock = some k → w0.heap.size ≤ k ∧ k < wr.heap.size := by
        obtain ⟨cs, hrow, _⟩ := hO
        exact fun k e => hrow.lt k e
      have hkd : ∀ W, Below w0.heap.size w0 W → Rd W (.slice k1' pk.length k2') pk := fun W hW => Rd.below (show Rd w0 (.slice k1' pk.length k2') pk from HRK.out) hW (Nat.le_refl _)
      have hxd : ∀ W, Below w0.heap.size w0 W → Rd W (.slice x1 ol.length x2) ol := fun W hW => Rd.below (show Rd w0 (.slice x1 ol.length x2) ol from HX.out) hW (Nat.le_refl _)
      have hyd : ∀ W, Below w0.heap.size w0 W → Rd W (.slice y1 om.length y2) om := fun W hW => Rd.below (show Rd w0 (.slice y1 om.length y2) om from HY.out) hW (Nat.le_refl _)
      have HKD : Hid _ := hkd
      have HXD : Hid _ := hxd
      have HYD : Hid _ := hyd
      clear hO hB hba hbx hkd hxd hyd
      generalize hwa : wr.alloc (.cells #[.slice k1' pk.length k2', .slice v1' pv.length v2'] 61) = wa at *
      have hsa : wa.heap.size = wr.heap.size + 1 := by rw [← hwa]; simp
      obtain ⟨bc0, bc1, bc2, _, _, _⟩ := bx1
      have bx1 : Box wa w.heap.size (.int .u8 (ok.toNat : Int)) (.slice x1 ol.length x2) (.slice y1 om.length y2) := ⟨bc0, bc1, bc2, by assumption, by assumption, by assumption⟩
      cases d
      · cases q
        · cases cv
          · go_wp2_with fail
            refine (refless_any _ _ _ ol pk false (HXD.out _ hB1) (HKD.out _ hB1) HQ.out).mono ?_
            rintro e wl ⟨rfl, hw⟩
            subst hw
            go_wp2_with fail
            refine (opcov_any _ _ _ _ ol om pk ok.toNat false (HXD.out _ hB1) (HYD.out _ hB1) (HKD.out _ hB1) HCV.out).mono ?_
            rintro e w5 ⟨rfl, hb5⟩
            have hB5 := hB1.trans (hb5.mono hB1.size)
            have t05 := cell_below t0 hb5 (Nat.le_refl _)
            have t15 := cell_below t1 hb5 (Nat.le_refl _)
            have bx5 := bx1.below hb5 (Nat.le_refl _)
            have hO5 := hO1.below hb5 (Nat.le_refl _)
            have hlit2 := laid2 w5 (.slice k1' pk.length k2') (.slice v1' pv.length v2') 61
            have hbl2 := below_box w5 #[.slice k1' pk.length k2', .slice v1' pv.length v2'] 61
            have hOl2 := hO5.below hbl2 (Nat.le_refl _)
            have hBl2 := hB5.trans (hbl2.mono hB5.size)
            have bxl2 := bx5.below hbl2 (Nat.le_refl _)
            obtain ⟨cs2, hrow2, hel2⟩ := hOl2
            have hBls2 := hBl2.size
            have hlow2 : ∀ k, (Value.slice a' out.length c').ownBlock = some k → w0.heap.size ≤ k := fun k e => (hrow2.lt k e).1
            clear hO5
            go_wp2_with (first | (at_builtin; refine wpList_append_lies _ rfl (.tmp 40) (.tmp 42) 58 rfl w0.heap.size 61 i0 (.agg #[.slice none 0 0, .slice none 0 0]) 2 48 Try.underlying58 hi hz0 hz1 hz2 rfl (by decide) (.slice a' out.length c') out.length cs2 rfl hrow2 ⟨w5.heap.size, 0, none⟩ 1 1 [.slice k1' pk.length k2', .slice v1' pv.length v2'] rfl rfl hlit2 (one2 _ _ _ _ _ _) (by decide) (by simp only [maxLen]; omega) (by omega) hBls2 _ rfl ?_; intro g6 c6 w6 hown2 hgrow2 hat2 hlt6) | fail)
            have hpush2 := own_pushP (pk, pv) hrow2.1 hel2 (show Rd w0 _ pk from HRK.out) (show Rd w0 _ pv from HRV.out) hown2
            have hB6 := hBl2.grown hgrow2 hBls2 (fun k e => (hrow2.lt k e).1)
            have bx6 := bxl2.grown hgrow2 (fun e => by have := hlow2 _ e.symm; omega)
            go_roundg (gk - 1)
            case measure => omega
            case rel => exact ⟨j + 1, false, out ++ [(pk, pv)], (some ⟨g6, 0, none⟩), c6, by omega, by go_num, rfl, by simp, hpush2, by rw [← HS2.out]; simp, bx6, hB6⟩
          · go_wp2_with fail
            refine (refless_any _ _ _ ol pk false (HXD.out _ hB1) (HKD.out _ hB1) HQ.out).mono ?_
            rintro e wl ⟨rfl, hw⟩
            subst hw
            go_wp2_with fail
            refine (opcov_any _ _ _ _ ol om pk ok.toNat true (HXD.out _ hB1) (HYD.out _ hB1) (HKD.out _ hB1) HCV.out).mono ?_
            rintro e w5 ⟨rfl, hb5⟩
            have hB5 := hB1.trans (hb5.mono hB1.size)
            have t05 := cell_below t0 hb5 (Nat.le_refl _)
            have t15 := cell_below t1 hb5 (Nat.le_refl _)
            have bx5 := bx1.below hb5 (Nat.le_refl _)
            have hO5 := hO1.below hb5 (Nat.le_refl _)
            go_wp2
            go_roundg (gk - 1)
            case measure => omega
            case rel => exact ⟨j + 1, false, out, a', c', by omega, by go_num, rfl, rfl, hO5, by rw [← HS2.out]; simp, bx5, hB5⟩
        · cases cv
          · go_wp2_with fail
            refine (refless_any _ _ _ ol pk true (HXD.out _ hB1) (HKD.out _ hB1) HQ.out).mono ?_
            rintro e wl ⟨rfl, hw⟩
            subst hw
            have hlit := laid2 wl (.slice x1 ol.length x2) (.slice y1 om.length y2) 61
            rw [hsa] at hlit
            have hbl := below_box wl #[.slice x1 ol.length x2, .slice y1 om.length y2] 61
            have hOl := hO1.below hbl (Nat.le_refl _)
            have hBl := hB1.trans (hbl.mono hB1.size)
            have t0l := cell_below t0 hbl (Nat.le_refl _)
            have t1l := cell_below t1 hbl (Nat.le_refl _)
            have bxl := bx1.below hbl (Nat.le_refl _)
            obtain ⟨cs, hrow, hel⟩ := hOl
            have hBls := hBl.size
            clear hO1
            go_wp2_with (first | (at_builtin; refine wpList_append_lies _ rfl (.tmp 27) (.tmp 33) 58 rfl w0.heap.size 61 i0 (.agg #[.slice none 0 0, .slice none 0 0]) 2 48 Try.underlying58 hi hz0 hz1 hz2 rfl (by decide) (.slice a' out.length c') out.length cs rfl hrow ⟨wr.heap.size + 1, 0, none⟩ 1 1 [.slice x1 ol.length x2, .slice y1 om.length y2] rfl rfl hlit (one2 _ _ _ _ _ _) (by decide) (by simp only [maxLen]; omega) (by omega) hBls _ rfl ?_; intro g4 c4 w4 hown hgrow hat hlt4; have t04 := cell_grown t0l hgrow hne8; have t14 := cell_grown t1l hgrow hne8; have bx4 := bxl.grown hgrow (fun e => by have := (hlow _ e.symm).1; omega); have bx4c0 := bx4.c0; have bx4c1 := bx4.c1; have bx4c2 := bx4.c2) | fail)
            have hpush := own_pushP (ol, om) hrow.1 hel (show Rd w0 _ ol from HX.out) (show Rd w0 _ om from HY.out) hown
            have hB4 := hBl.grown hgrow hBls (fun k e => (hrow.lt k e).1)
            have hg4 : g4 ≠ w.heap.size ∧ g4 ≠ wr.heap.size := by
              rcases hat with h | h
              · have := hlow _ h; omega
              · have : (wl.alloc (.cells #[.slice x1 ol.length x2, .slice y1 om.length y2] 61)).heap.size = wl.heap.size + 1 := by simp
                omega
            clear hlit hbl t0l t1l bxl hgrow hown hel hBl hBls hat hrow
            refine (opcov_any _ _ _ _ ol om pk ok.toNat false (HXD.out _ hB4) (HYD.out _ hB4) (HKD.out _ hB4) HCV.out).mono ?_
            rintro e w5 ⟨rfl, hb5⟩
            have hB5 := hB4.trans (hb5.mono hB4.size)
            have t05 := cell_below t04 hb5 (Nat.le_refl _)
            have t15 := cell_below t14 hb5 (Nat.le_refl _)
            have bx5 := bx4.below hb5 (Nat.le_refl _)
            have hO5 := hpush.below hb5 (Nat.le_refl _)
            have hlit2 := laid2 w5 (.slice k1' pk.length k2') (.slice v1' pv.length v2') 61
            have hbl2 := below_box w5 #[.slice k1' pk.length k2', .slice v1' pv.length v2'] 61
            have hOl2 := hO5.below hbl2 (Nat.le_refl _)
            have hBl2 := hB5.trans (hbl2.mono hB5.size)
            have bxl2 := bx5.below hbl2 (Nat.le_refl _)
            obtain ⟨cs2, hrow2, hel2⟩ := hOl2
            have hrow2l := hrow2
            rw [show (out ++ [(ol, om)]).length = out.length + 1 by simp] at hrow2
            have hBls2 := hBl2.size
            have hlow2 : ∀ k, (Value.slice (some ⟨g4, 0, none⟩) (out.length + 1) c4).ownBlock = some k → w0.heap.size ≤ k := fun k e => (hrow2.lt k e).1
            clear hO5
            go_wp2_with (first | (at_builtin; refine wpList_append_lies _ rfl (.tmp 40) (.tmp 42) 58 rfl w0.heap.size 61 i0 (.agg #[.slice none 0 0, .slice none 0 0]) 2 48 Try.underlying58 hi hz0 hz1 hz2 rfl (by decide) (.slice (some ⟨g4, 0, none⟩) (out.length + 1) c4) (out.length + 1) cs2 rfl hrow2 ⟨w5.heap.size, 0, none⟩ 1 1 [.slice k1' pk.length k2', .slice v1' pv.length v2'] rfl rfl hlit2 (one2 _ _ _ _ _ _) (by decide) (by simp only [maxLen]; omega) (by omega) hBls2 _ rfl ?_; intro g6 c6 w6 hown2 hgrow2 hat2 hlt6) | fail)
            have hpush2 := own_pushP (ps := out ++ [(ol, om)]) (pk, pv) hrow2l.1 hel2 (show Rd w0 _ pk from HRK.out) (show Rd w0 _ pv from HRV.out) (by rw [show (out ++ [(ol, om)]).length = out.length + 1 by simp]; exact hown2)
            have hB6 := hBl2.grown hgrow2 hBls2 (fun k e => (hrow2.lt k e).1)
            have bx6 := bxl2.grown hgrow2 (fun e => by have := hlow2 _ e.symm; omega)
            go_roundg (gk - 1)
            case measure => omega
            case rel => exact ⟨j + 1, true, (out ++ [(ol, om)]) ++ [(pk, pv)], (some ⟨g6, 0, none⟩), c6, by omega, by go_num, rfl, by simp, hpush2, by rw [← HS2.out]; simp, bx6, hB6⟩
          · go_wp2_with fail
            refine (refless_any _ _ _ ol pk true (HXD.out _ hB1) (HKD.out _ hB1) HQ.out).mono ?_
            rintro e wl ⟨rfl, hw⟩
            subst hw
            have hlit := laid2 wl (.slice x1 ol.length x2) (.slice y1 om.length y2) 61
            rw [hsa] at hlit
            have hbl := below_box wl #[.slice x1 ol.length x2, .slice y1 om.length y2] 61
            have hOl := hO1.below hbl (Nat.le_refl _)
            have hBl := hB1.trans (hbl.mono hB1.size)
            have t0l := cell_below t0 hbl (Nat.le_refl _)
            have t1l := cell_below t1 hbl (Nat.le_refl _)
            have bxl := bx1.below hbl (Nat.le_refl _)
            obtain ⟨cs, hrow, hel⟩ := hOl
            have hBls := hBl.size
            clear hO1
            go_wp2_with (first | (at_builtin; refine wpList_append_lies _ rfl (.tmp 27) (.tmp 33) 58 rfl w0.heap.size 61 i0 (.agg #[.slice none 0 0, .slice none 0 0]) 2 48 Try.underlying58 hi hz0 hz1 hz2 rfl (by decide) (.slice a' out.length c') out.length cs rfl hrow ⟨wr.heap.size + 1, 0, none⟩ 1 1 [.slice x1 ol.length x2, .slice y1 om.length y2] rfl rfl hlit (one2 _ _ _ _ _ _) (by decide) (by simp only [maxLen]; omega) (by omega) hBls _ rfl ?_; intro g4 c4 w4 hown hgrow hat hlt4; have t04 := cell_grown t0l hgrow hne8; have t14 := cell_grown t1l hgrow hne8; have bx4 := bxl.grown hgrow (fun e => by have := (hlow _ e.symm).1; omega); have bx4c0 := bx4.c0; have bx4c1 := bx4.c1; have bx4c2 := bx4.c2) | fail)
            have hpush := own_pushP (ol, om) hrow.1 hel (show Rd w0 _ ol from HX.out) (show Rd w0 _ om from HY.out) hown
            have hB4 := hBl.grown hgrow hBls (fun k e => (hrow.lt k e).1)
            have hg4 : g4 ≠ w.heap.size ∧ g4 ≠ wr.heap.size := by
              rcases hat with h | h
              · have := hlow _ h; omega
              · have : (wl.alloc (.cells #[.slice x1 ol.length x2, .slice y1 om.length y2] 61)).heap.size = wl.heap.size + 1 := by simp
                omega
            clear hlit hbl t0l t1l bxl hgrow hown hel hBl hBls hat hrow
            refine (opcov_any _ _ _ _ ol om pk ok.toNat true (HXD.out _ hB4) (HYD.out _ hB4) (HKD.out _ hB4) HCV.out).mono ?_
            rintro e w5 ⟨rfl, hb5⟩
            have hB5 := hB4.trans (hb5.mono hB4.size)
            have t05 := cell_below t04 hb5 (Nat.le_refl _)
            have t15 := cell_below t14 hb5 (Nat.le_refl _)
            have bx5 := bx4.below hb5 (Nat.le_refl _)
            have hO5 := hpush.below hb5 (Nat.le_refl _)
            go_wp2
            go_roundg (gk - 1)
            case measure => omega
            case rel => exact ⟨j + 1, true, (out ++ [(ol, om)]), (some ⟨g4, 0, none⟩), c4, by omega, by go_num, rfl, by simp, hO5, by rw [← HS2.out]; simp, bx5, hB5⟩
      · cases cv
        · go_wp2_with fail
          refine (opcov_any _ _ _ _ ol om pk ok.toNat false (HXD.out _ hB1) (HYD.out _ hB1) (HKD.out _ hB1) HCV.out).mono ?_
          rintro e w5 ⟨rfl, hb5⟩
          have hB5 := hB1.trans (hb5.mono hB1.size)
          have t05 := cell_below t0 hb5 (Nat.le_refl _)
          have t15 := cell_below t1 hb5 (Nat.le_refl _)
          have bx5 := bx1.below hb5 (Nat.le_refl _)
          have hO5 := hO1.below hb5 (Nat.le_refl _)
          have hlit2 := laid2 w5 (.slice k1' pk.length k2') (.slice v1' pv.length v2') 61
          have hbl2 := below_box w5 #[.slice k1' pk.length k2', .slice v1' pv.length v2'] 61
          have hOl2 := hO5.below hbl2 (Nat.le_refl _)
          have hBl2 := hB5.trans (hbl2.mono hB5.size)
          have bxl2 := bx5.below hbl2 (Nat.le_refl _)
          obtain ⟨cs2, hrow2, hel2⟩ := hOl2
          have hBls2 := hBl2.size
          have hlow2 : ∀ k, (Value.slice a' out.length c').ownBlock = some k → w0.heap.size ≤ k := fun k e => (hrow2.lt k e).1
          clear hO5
          go_wp2_with (first | (at_builtin; refine wpList_append_lies _ rfl (.tmp 40) (.tmp 42) 58 rfl w0.heap.size 61 i0 (.agg #[.slice none 0 0, .slice none 0 0]) 2 48 Try.underlying58 hi hz0 hz1 hz2 rfl (by decide) (.slice a' out.length c') out.length cs2 rfl hrow2 ⟨w5.heap.size, 0, none⟩ 1 1 [.slice k1' pk.length k2', .slice v1' pv.length v2'] rfl rfl hlit2 (one2 _ _ _ _ _ _) (by decide) (by simp only [maxLen]; omega) (by omega) hBls2 _ rfl ?_; intro g6 c6 w6 hown2 hgrow2 hat2 hlt6) | fail)
          have hpush2 := own_pushP (pk, pv) hrow2.1 hel2 (show Rd w0 _ pk from HRK.out) (show Rd w0 _ pv from HRV.out) hown2
          have hB6 := hBl2.grown hgrow2 hBls2 (fun k e => (hrow2.lt k e).1)
          have bx6 := bxl2.grown hgrow2 (fun e => by have := hlow2 _ e.symm; omega)
          go_roundg (gk - 1)
          case measure => omega
          case rel => exact ⟨j + 1, true, out ++ [(pk, pv)], (some ⟨g6, 0, none⟩), c6, by omega, by go_num, rfl, by simp, hpush2, by rw [← HS2.out]; simp, bx6, hB6⟩
        · go_wp2_with fail
          refine (opcov_any _ _ _ _ ol om pk ok.toNat true (HXD.out _ hB1) (HYD.out _ hB1) (HKD.out _ hB1) HCV.out).mono ?_
          rintro e w5 ⟨rfl, hb5⟩
          have hB5 := hB1.trans (hb5.mono hB1.size)
          have t05 := cell_below t0 hb5 (Nat.le_refl _)
          have t15 := cell_below t1 hb5 (Nat.le_refl _)
          have bx5 := bx1.below hb5 (Nat.le_refl _)
          have hO5 := hO1.below hb5 (Nat.le_refl _)
          go_wp2
          go_roundg (gk - 1)
          case measure => omega
          case rel => exact ⟨j + 1, true, out, a', c', by omega, by go_num, rfl, rfl, hO5, by rw [← HS2.out]; simp, bx5, hB5⟩
    · obtain rfl : j = ps.length := by omega
      rw [List.drop_length] at HS
      cases d
      · have HF : Hid (out ++ [(ol, om)] = res) := HS.out
        have hlit := laid2 wr (.slice x1 ol.length x2) (.slice y1 om.length y2) 61
        have hbl := below_box wr #[.slice x1 ol.length x2, .slice y1 om.length y2] 61
        have hOl := hO.below hbl (Nat.le_refl _)
        have hBl := hB.trans (hbl.mono hB.size)
        obtain ⟨cs, hrow, hel⟩ := hOl
        have hBls := hBl.size
        have bc0 := hbx.c0; have bc1 := hbx.c1; have bc2 := hbx.c2
        clear hO HS
        go_wp2_with (first | (at_builtin; refine wpList_append_lies _ rfl (.tmp 47) (.tmp 53) 58 rfl w0.heap.size 61 i0 (.agg #[.slice none 0 0, .slice none 0 0]) 2 48 Try.underlying58 hi hz0 hz1 hz2 rfl (by decide) (.slice a' out.length c') out.length cs rfl hrow ⟨wr.heap.size, 0, none⟩ 1 1 [.slice x1 ol.length x2, .slice y1 om.length y2] rfl rfl hlit (one2 _ _ _ _ _ _) (by decide) (by simp only [maxLen]; omega) (by omega) hBls _ rfl ?_; intro g4 c4 w4 hown hgrow hat hlt4) | fail)
        have hpush := own_pushP (ol, om) hrow.1 hel (show Rd w0 _ ol from HX.out) (show Rd w0 _ om from HY.out) hown
        have hB4 := hBl.grown hgrow hBls (fun k e => (hrow.lt k e).1)
        go_ret
        exact ⟨_, rfl, by rw [← HF.out]; exact hpush.rd hB4, hB0.trans (hB4.mono hB0.size)⟩
      · have HF : Hid (out = res) := by have := HS.out; simp [applyS] at this; exact this
        clear HS
        go_wp2
        go_ret
        exact ⟨_, rfl, by rw [← HF.out]; exact hO.rd hB, hB0.trans (hB.mono hB0.size)⟩

end Go.Proofs.Ythcoblmfmbmdkaa

/- bartizanref04's ApplyAll and Get. -/
namespace Go.Proofs.Ythcoblmfmbmdkaa
open Go.RowKit

theorem all_take {ps : List PrB} {os : List OpB} {j : Nat} (h : j < os.length) : applyAllO ps (os.take (j + 1)) = applyO (applyAllO ps (os.take j)) os[j] := by
  unfold applyAllO
  rw [List.take_succ_eq_append_getElem h, List.foldl_append]
  rfl

set_option maxHeartbeats 4000000 in
theorem applyall_any (w : World) (vm vl : Value) (ps res : List PrB) (os : List OpB) (hm : RdP w vm ps) (hl : RdO w vl os) (hn : os.length ≤ 2000) (hp : ps.length ≤ 500) (hbd : ∀ o ∈ os, o.2.1.length ≤ 1000000 ∧ o.2.2.length ≤ 1000000) (hres : applyAllO ps os = res) :
    Calls Try.prog 25 #[vm, vl] w fun e w' => ∃ z, e = .returned z ∧ RdP w' z res ∧ Below w.heap.size w w' := by
  have HR : Hid _ := hres
  clear hres
  go_enter Try.func25, Try.ntmps25
  go_wp2_with fail
  refine (opcopy_any _ _ os hl.arg (by omega) hbd).mono ?_
  rintro e w1 ⟨vc, rfl, oc, hb1⟩
  have hm1 := hm.below hb1 (Nat.le_refl _)
  have HC : Hid _ := oc.rd
  obtain ⟨ca, cc, e, hc1, hc2, _⟩ := oc.rd
  subst e
  unfold maxLen at hc2
  clear hl hm oc hbd
  go_wp2_with fail
  go_loopg [0, 10] os.length (fun gk mv iv wr => ∃ j : Nat, gk + j = os.length ∧ iv = .int .i64 (j : Int) ∧ RdP wr mv (applyAllO ps (os.take j)) ∧ Below w1.heap.size w1 wr)
  case atStart => exact ⟨0, rfl, rfl, by rw [List.take_zero]; exact hm1, Below.refl _ _⟩
  case round =>
    clear hm1
    obtain ⟨j, hj, rfl, hP, hB⟩ := hrel
    have hrd : RdO wr (.slice ca os.length cc) os := LsO.below (show RdO w1 (.slice ca os.length cc) os from HC.out) hB (Nat.le_refl _)
    by_cases hlt : j < os.length
    · obtain ⟨_, _, e, _, _, h3⟩ := hrd
      cases e
      obtain ⟨b, off, rfl, xv, yv, c0, c1, c2, rx, ry⟩ := h3 j hlt
      obtain ⟨x1, x2, ex⟩ := rx.len
      obtain ⟨y1, y2, ey⟩ := ry.len
      subst ex ey
      obtain ⟨⟨ok, ol, om⟩, ho⟩ : ∃ o, os[j] = o := ⟨_, rfl⟩
      rw [ho] at c0 c1 c2 rx ry
      obtain ⟨m, hm⟩ : ∃ m, applyAllO ps (os.take j) = m := ⟨_, rfl⟩
      have hml : m.length ≤ 4000 := by rw [← hm]; have := applyAll_len ps (os.take j); rw [List.length_take] at this; omega
      have HS : Hid (applyAllO ps (os.take (j + 1)) = applyO m (ok, ol, om)) := by show _ = _; rw [all_take hlt, ho, hm]
      rw [hm] at hP
      have hba := below_box wr #[.int .u8 (ok.toNat : Int), .slice x1 ol.length x2, .slice y1 om.length y2] 63
      have rx2 := rx.below hba (Nat.le_refl _)
      have ry2 := ry.below hba (Nat.le_refl _)
      have hP2 := hP.below hba (Nat.le_refl _)
      have hB2 := hB.trans (hba.mono hB.size)
      clear h3 rx ry ho hm hP hB hba
      go_wp2_with fail
      refine (apply_any _ _ _ _ m _ ok ol om hP2 rx2 ry2 hml rfl).mono ?_
      rintro e w2 ⟨z, rfl, hz, hb⟩
      have hB3 := hB2.trans (hb.mono hB2.size)
      clear hP2 rx2 ry2 hB2 hb c0 c1 c2
      go_wp2
      go_roundg (gk - 1)
      case measure => omega
      case rel => exact ⟨j + 1, by omega, by go_num, by rw [HS.out]; exact hz, hB3⟩
    · obtain rfl : j = os.length := by omega
      rw [List.take_length, HR.out] at hP
      clear hrd
      go_wp2
      go_ret
      exact ⟨_, rfl, hP, hb1.trans (hB.mono hb1.size)⟩

/-- a key's value, and whether it has one -/
def getV : Option (List UInt8) → List UInt8 × Bool
  | some v => (v, true)
  | none => ([], false)

theorem getP_drop {ps : List PrB} {j : Nat} (h : j < ps.length) (key : List UInt8) : getP (ps.drop j) key = if ps[j].1 == key then some ps[j].2 else getP (ps.drop (j + 1)) key := by
  rw [List.drop_eq_getElem_cons h, getP_cons]

set_option maxHeartbeats 4000000 in
theorem get_any (w : World) (vm vk : Value) (ps : List PrB) (key : List UInt8) (r : List UInt8 × Bool) (hm : RdP w vm ps) (hk : Rd w vk key) (hr : getV (getP ps key) = r) (hbd : ∀ p ∈ ps, p.2.length ≤ 1000000) :
    Calls Try.prog 26 #[vm, vk] w fun e w' => ∃ z, e = .returned (.tuple #[z, .bool r.2]) ∧ Rd w' z r.1 ∧ Below w.heap.size w w' := by
  have HM : Hid _ := hm
  have HK : Hid _ := hk
  have HR : Hid _ := hr
  have HBD : Hid _ := hbd
  obtain ⟨ma, mc, rfl, h1, h2, _⟩ := hm
  unfold maxLen at h2
  clear hk hr hbd
  go_enter Try.func26, Try.ntmps26
  go_wp2_with fail
  go_loopg [10] ps.length (fun gk iv wr => ∃ j : Nat, gk + j = ps.length ∧ iv = .int .i64 (j : Int) ∧ getV (getP (ps.drop j) key) = r ∧ Below w.heap.size w wr)
  case atStart => exact ⟨0, rfl, rfl, HR.out, Below.refl _ _⟩
  case round =>
    obtain ⟨j, hj, rfl, hG, hB⟩ := hrel
    have HG : Hid _ := hG
    clear hG
    have hrd : RdP wr (.slice ma ps.length mc) ps := RdP.below (show RdP w (.slice ma ps.length mc) ps from HM.out) hB (Nat.le_refl _)
    have hkr : Rd wr vk key := Rd.below (show Rd w vk key from HK.out) hB (Nat.le_refl _)
    by_cases hlt : j < ps.length
    · obtain ⟨_, _, e, _, _, h3⟩ := hrd
      cases e
      obtain ⟨b, off, rfl, xv, yv, c0, c1, rx, ry⟩ := h3 j hlt
      obtain ⟨x1, x2, ex⟩ := rx.len
      obtain ⟨y1, y2, ey⟩ := ry.len
      subst ex ey
      obtain ⟨⟨pk, pv⟩, hp⟩ : ∃ p, ps[j] = p := ⟨_, rfl⟩
      have hpv : pv.length ≤ 1000000 := by have := HBD.out _ (List.getElem_mem hlt); rw [hp] at this; exact this
      rw [hp] at c0 c1 rx ry
      obtain ⟨q, hq⟩ : ∃ q, (pk == key) = q := ⟨_, rfl⟩
      have HQ : Hid _ := hq
      have HS : Hid (r = if q = true then (pv, true) else getV (getP (ps.drop (j + 1)) key)) := by
        show _ = _
        rw [← HG.out, getP_drop hlt, hp, hq]
        cases q <;> rfl
      have hba := below_box wr #[.slice x1 pk.length x2, .slice y1 pv.length y2] 61
      have rx2 := rx.below hba (Nat.le_refl _)
      have ry2 := ry.below hba (Nat.le_refl _)
      have hk2 := hkr.below hba (Nat.le_refl _)
      have hB2 := hB.trans (hba.mono hB.size)
      clear h3 rx ry hp hq HG hB hba hkr
      go_wp2_with fail
      refine (same_b _ _ _ pk key q rx2 hk2 HQ.out).mono ?_
      rintro e w2 ⟨rfl, hw⟩
      subst hw
      cases q
      · go_wp2
        go_roundg (gk - 1)
        case measure => omega
        case rel => exact ⟨j + 1, by omega, by go_num, by rw [HS.out]; simp, hB2⟩
      · go_wp2_with fail
        refine (copy_any _ _ pv ry2.arg (by omega)).mono ?_
        rintro e w3 ⟨z, rfl, oz, hb⟩
        have hB3 := hB2.trans (hb.mono hB2.size)
        have h0 : Hid (r = (pv, true)) := by show _ = _; rw [HS.out]; simp
        clear rx2 ry2 hk2 hB2 hb
        go_wp2
        go_ret2
        exact ⟨_, by rw [h0.out]; rfl, by rw [h0.out]; exact oz.rd, hB3⟩
    · obtain rfl : j = ps.length := by omega
      have h0 : Hid (r = ([], false)) := by show _ = _; rw [← HG.out, List.drop_length]; rfl
      clear hrd hkr
      go_wp2
      go_ret2
      exact ⟨_, by rw [h0.out]; rfl, by rw [h0.out]; exact .inl ⟨rfl, rfl⟩, hB⟩

end Go.Proofs.Ythcoblmfmbmdkaa

/- As of the greatest number: what a memo finds is what the last op that covers a key makes of it. -/
namespace Go.Proofs.Ythcoblmfmbmdkaa
set_option maxRecDepth 20000
open Go.RowKit
set_option linter.unusedVariables false
set_option linter.unusedSimpArgs false

/-- the last op with its number that covers a key -/
def lastC (Z : List (OpB × Nat)) (k : List UInt8) : Option (OpB × Nat) := Z.reverse.find? fun z => covO z.1 k

theorem lastC_app (Z : List (OpB × Nat)) (z : OpB × Nat) (k : List UInt8) : lastC (Z ++ [z]) k = if covO z.1 k = true then some z else lastC Z k := by
  unfold lastC
  rw [List.reverse_append, List.reverse_singleton, List.singleton_append, List.find?_cons]
  cases covO z.1 k <;> simp

theorem lastC_over (Z : List (OpB × Nat)) (k : List UInt8) : overO (Z.map (·.1)) k = (lastC Z k).map (·.1) := by
  unfold overO lastC
  rw [← List.map_reverse, List.find?_map]
  rfl

theorem covO_three {o : OpB} (h : o.1 = 3) (k : List UInt8) : covO o k = covB o.2.1 o.2.2 k := by
  unfold covO cov covB
  rw [h]
  rfl

theorem covO_else {o : OpB} (h : ¬ o.1 = 3) (k : List UInt8) : covO o k = (o.2.1 == k) := by
  unfold covO cov
  rw [if_neg]
  intro h9
  exact h (UInt8.toNat_inj.1 (by have : (3 : UInt8).toNat = 3 := rfl; omega))

theorem lastC_none {Z : List (OpB × Nat)} {k : List UInt8} (h : lastC Z k = none) : ∀ z ∈ Z, covO z.1 k = false := by
  intro z hz
  unfold lastC at h
  have := List.find?_eq_none.1 h z (List.mem_reverse.2 hz)
  simpa using this

theorem lastC_some {Z : List (OpB × Nat)} {k : List UInt8} {z : OpB × Nat} (hr : (Z.map (·.2)).Pairwise (· < ·)) (h : lastC Z k = some z) : z ∈ Z ∧ covO z.1 k = true ∧ ∀ y ∈ Z, covO y.1 k = true → y = z ∨ y.2 < z.2 := by
  unfold lastC at h
  obtain ⟨h1, ys, bs, h2, h3⟩ := List.find?_eq_some_iff_append.1 h
  have h4 : Z = bs.reverse ++ z :: ys.reverse := by
    have := congrArg List.reverse h2
    simpa using this
  subst h4
  refine ⟨by simp, h1, fun y hy hc => ?_⟩
  rw [List.map_append, List.pairwise_append] at hr
  rcases List.mem_append.1 hy with h9 | h9
  · exact .inr (hr.2.2 y.2 (List.mem_map_of_mem h9) z.2 (by simp))
  · rcases List.mem_cons.1 h9 with h9 | h9
    · exact .inl h9
    · have := h3 y (List.mem_reverse.1 h9)
      rw [hc] at this
      cases this

theorem verP_iff {Z : List (OpB × Nat)} {e : EnB} : e ∈ verP Z ↔ ∃ z ∈ Z, z.1.1 ≠ 3 ∧ e = (z.1.2.1, z.2, z.1.1, z.1.2.2) := by
  induction Z with
  | nil => simp [verP]
  | cons a r ih =>
    unfold verP
    by_cases h3 : a.1.1 = 3
    · rw [if_pos h3, ih]
      constructor
      · rintro ⟨z, hz, h9⟩
        exact ⟨z, List.mem_cons_of_mem _ hz, h9⟩
      · rintro ⟨z, hz, h9, h8⟩
        rcases List.mem_cons.1 hz with rfl | hz
        · exact absurd h3 h9
        · exact ⟨z, hz, h9, h8⟩
    · rw [if_neg h3, List.mem_cons, ih]
      constructor
      · rintro (h9 | ⟨z, hz, h9⟩)
        · exact ⟨a, List.mem_cons_self, h3, h9⟩
        · exact ⟨z, List.mem_cons_of_mem _ hz, h9⟩
      · rintro ⟨z, hz, h9, h8⟩
        rcases List.mem_cons.1 hz with rfl | hz
        · exact .inl h8
        · exact .inr ⟨z, hz, h9, h8⟩

theorem spnP_iff {Z : List (OpB × Nat)} {e : SpB} : e ∈ spnP Z ↔ ∃ z ∈ Z, z.1.1 = 3 ∧ e = (z.1.2.1, z.1.2.2, z.2) := by
  induction Z with
  | nil => simp [spnP]
  | cons a r ih =>
    unfold spnP
    by_cases h3 : a.1.1 = 3
    · rw [if_pos h3, List.mem_cons, ih]
      constructor
      · rintro (h9 | ⟨z, hz, h9⟩)
        · exact ⟨a, List.mem_cons_self, h3, h9⟩
        · exact ⟨z, List.mem_cons_of_mem _ hz, h9⟩
      · rintro ⟨z, hz, h9, h8⟩
        rcases List.mem_cons.1 hz with rfl | hz
        · exact .inl h8
        · exact .inr ⟨z, hz, h9, h8⟩
    · rw [if_neg h3, ih]
      constructor
      · rintro ⟨z, hz, h9⟩
        exact ⟨z, List.mem_cons_of_mem _ hz, h9⟩
      · rintro ⟨z, hz, h9, h8⟩
        rcases List.mem_cons.1 hz with rfl | hz
        · exact absurd h9 h3
        · exact ⟨z, hz, h9, h8⟩

theorem covS_max (k : List UInt8) (s : Nat) (ss : List SpB) : ∀ m, m ≤ ss.foldl (covS k (s : Int)) m ∧ (∀ n, m ≤ n → (∀ x ∈ ss, covB x.1 x.2.1 k = true → x.2.2 ≤ n) → ss.foldl (covS k (s : Int)) m ≤ n) ∧ (∀ x ∈ ss, covB x.1 x.2.1 k = true → x.2.2 ≤ s → x.2.2 ≤ ss.foldl (covS k (s : Int)) m) := by
  induction ss with
  | nil => intro m; exact ⟨Nat.le_refl _, fun n h _ => h, fun x hx => by simp at hx⟩
  | cons a r ih =>
    intro m
    rw [List.foldl_cons]
    obtain ⟨i1, i2, i3⟩ := ih (covS k (s : Int) m a)
    have h1 : m ≤ covS k (s : Int) m a := by unfold covS; split <;> omega
    refine ⟨Nat.le_trans h1 i1, fun n hm hn => i2 n ?_ (fun x hx => hn x (List.mem_cons_of_mem _ hx)), fun x hx hc hs => ?_⟩
    · unfold covS
      split
      · rename_i h9
        have := hn a List.mem_cons_self h9.2
        omega
      · exact hm
    · rcases List.mem_cons.1 hx with rfl | hx
      · refine Nat.le_trans ?_ i1
        unfold covS
        rw [if_pos ⟨by omega, hc⟩]
        omega
      · exact i3 x hx hc hs

/-- the state and the value that the last op makes -/
def stC : Option (OpB × Nat) → Int
  | none => 0
  | some z => if z.1.1.toNat = 2 then 1 else 2
def valC : Option (OpB × Nat) → List UInt8
  | none => []
  | some z => if z.1.1.toNat = 2 then z.1.2.2 else []

theorem three_iff (b : UInt8) : b = 3 ↔ b.toNat = 3 := ⟨fun h => by rw [h]; rfl, fun h => UInt8.toNat_inj.1 (by rw [h]; rfl)⟩

theorem find_last {Z : List (OpB × Nat)} {L : List EnB} {k : List UInt8} {s : Nat} (hr : riseB L = true) (hb : ∀ e ∈ L, e.2.2.1.toNat ≤ 2 ∧ e.2.1 ≤ 72057594037927935) (hp : L.Perm (verP Z)) (rs : (Z.map (·.2)).Pairwise (· < ·)) (lo : ∀ z ∈ Z, 1 ≤ z.2) (hs : ∀ z ∈ Z, z.2 ≤ s) (ok : ∀ z ∈ Z, 1 ≤ z.1.1.toNat ∧ z.1.1.toNat ≤ 3) :
    stM (newE L k s) (covN (spnP Z) k (s : Int)) = stC (lastC Z k) ∧ valM (newE L k s) (covN (spnP Z) k (s : Int)) = valC (lastC Z k) := by
  have hmem : ∀ e, e ∈ L → e.1 = k → ∃ z ∈ Z, z.1.1 ≠ 3 ∧ e = (z.1.2.1, z.2, z.1.1, z.1.2.2) ∧ covO z.1 k = true := fun e he hk => by
    obtain ⟨z, hz, h3, rfl⟩ := verP_iff.1 (hp.mem_iff.1 he)
    exact ⟨z, hz, h3, rfl, by rw [covO_else h3]; simpa using hk⟩
  obtain ⟨_, cle, cge⟩ := covS_max k s (spnP Z) 0
  have hsp : ∀ x ∈ spnP Z, covB x.1 x.2.1 k = true → ∃ z ∈ Z, z.1.1 = 3 ∧ x = (z.1.2.1, z.1.2.2, z.2) ∧ covO z.1 k = true := fun x hx hc => by
    obtain ⟨z, hz, h3, rfl⟩ := spnP_iff.1 hx
    exact ⟨z, hz, h3, rfl, by rw [covO_three h3]; exact hc⟩
  cases hl : lastC Z k with
  | none =>
    have hn := lastC_none hl
    have h1 : newE L k s = none := by
      cases h : newE L k s with
      | none => rfl
      | some e =>
        have he := newE_some hr hb h
        obtain ⟨z, hz, _, _, hc⟩ := hmem e he.1 he.2.1
        rw [hn z hz] at hc
        cases hc
    have h2 : covN (spnP Z) k (s : Int) = 0 := by
      have : covN (spnP Z) k (s : Int) ≤ 0 := cle 0 (Nat.le_refl _) (fun x hx hc => by
        obtain ⟨z, hz, _, _, hc⟩ := hsp x hx hc
        rw [hn z hz] at hc
        cases hc)
      omega
    rw [h1, h2]
    exact ⟨rfl, rfl⟩
  | some z =>
    obtain ⟨hz, hzc, hzl⟩ := lastC_some rs hl
    by_cases h3 : z.1.1 = 3
    · have h3n := (three_iff _).1 h3
      have hc1 : z.2 ≤ covN (spnP Z) k (s : Int) := cge (z.1.2.1, z.1.2.2, z.2) (spnP_iff.2 ⟨z, hz, h3, rfl⟩) (by rw [← covO_three h3]; exact hzc) (hs z hz)
      have hz1 := lo z hz
      have h2 : stM (newE L k s) (covN (spnP Z) k (s : Int)) = 2 := by
        unfold stM
        cases h : newE L k s with
        | none => rw [if_pos (show (none : Option EnB).isSome = false from rfl), if_neg (by omega)]
        | some e =>
          have he := newE_some hr hb h
          obtain ⟨y, hy, hy3, rfl, hyc⟩ := hmem e he.1 he.2.1
          rw [if_neg (by simp), if_pos]
          rcases hzl y hy hyc with rfl | h9
          · exact absurd h3 hy3
          · show y.2 < _
            omega
      refine ⟨by rw [h2]; unfold stC; simp [h3n], ?_⟩
      unfold valM
      rw [h2, if_neg (by decide)]
      unfold valC
      simp [h3n]
    · have hzv : (z.1.2.1, z.2, z.1.1, z.1.2.2) ∈ L := hp.mem_iff.2 (verP_iff.2 ⟨z, hz, h3, rfl⟩)
      have hzk : z.1.2.1 = k := by rw [covO_else h3] at hzc; simpa using hzc
      have h1 : newE L k s = some (z.1.2.1, z.2, z.1.1, z.1.2.2) := by
        cases h : newE L k s with
        | none => exact absurd (hs z hz) (newE_none hr hb h _ hzv hzk)
        | some e =>
          have he := newE_some hr hb h
          obtain ⟨y, hy, hy3, rfl, hyc⟩ := hmem e he.1 he.2.1
          rcases hzl y hy hyc with rfl | h9
          · rfl
          · exfalso
            have h8 := he.2.2.2 _ hzv hzk (hs z hz)
            have e0 : Lib.compareBytes y.1.2.1 z.1.2.1 = 0 := Mth.cmp_zero.2 (by rw [hzk]; exact he.2.1)
            unfold cmpE Mth.cmpK at h8
            simp only at h8
            rw [e0] at h8
            simp only [ne_eq, not_true_eq_false, if_false] at h8
            rw [if_neg (by omega), if_pos (by omega)] at h8
            omega
      have h2 : covN (spnP Z) k (s : Int) ≤ z.2 := cle z.2 (Nat.zero_le _) (fun x hx hc => by
        obtain ⟨y, hy, _, rfl, hyc⟩ := hsp x hx hc
        rcases hzl y hy hyc with rfl | h9
        · exact Nat.le_refl _
        · exact Nat.le_of_lt h9)
      have h3n : ¬ z.1.1.toNat = 3 := fun h9 => h3 ((three_iff _).2 h9)
      have hok := ok z hz
      have h4 : stM (newE L k s) (covN (spnP Z) k (s : Int)) = if z.1.1.toNat = 2 then 1 else 2 := by
        rw [h1]
        unfold stM
        rw [if_neg (by simp), if_neg (by show ¬ z.2 < _; omega)]
        show (if z.1.1.toNat = 1 then (2 : Int) else 1) = _
        by_cases h9 : z.1.1.toNat = 2
        · rw [if_pos h9, if_neg (by omega)]
        · rw [if_neg h9, if_pos (by omega)]
      refine ⟨h4, ?_⟩
      unfold valM
      rw [h4, h1]
      unfold valC
      by_cases h9 : z.1.1.toNat = 2
      · simp [h9, eQ]
      · simp [h9]

/-- keys stand in a map once -/
def OnceP (m : List PrB) : Prop := m.Pairwise fun a b => a.1 ≠ b.1

theorem applyS_mem {o : OpB} {d : Bool} {m : List PrB} {x : PrB} (h : x ∈ applyS o d m) : (x ∈ m ∧ covO o x.1 = false) ∨ (d = false ∧ x = (o.2.1, o.2.2)) := by
  induction m generalizing d with
  | nil => cases d <;> simp [applyS] at h; exact .inr ⟨rfl, h⟩
  | cons y r ih =>
    unfold applyS at h
    rcases List.mem_append.1 h with h | h
    · cases d <;> cases hl : ltB o.2.1 y.1 <;> simp [hl] at h
      exact .inr ⟨rfl, h⟩
    · rcases List.mem_append.1 h with h | h
      · cases hc : covO o y.1 <;> simp [hc] at h
        subst h
        exact .inl ⟨List.mem_cons_self, hc⟩
      · rcases ih h with ⟨h1, h2⟩ | ⟨h1, h2⟩
        · exact .inl ⟨List.mem_cons_of_mem _ h1, h2⟩
        · exact .inr ⟨by cases d <;> simp_all, h2⟩

theorem applyS_once {o : OpB} {d : Bool} {m : List PrB} (hd : d = false → o.1.toNat = 2) (h : OnceP m) : OnceP (applyS o d m) := by
  induction m generalizing d with
  | nil => cases d <;> simp [applyS, OnceP]
  | cons y r ih =>
    have h1 := List.pairwise_cons.1 h
    have h2 := ih (d := d || ltB o.2.1 y.1) (fun h9 => hd (by cases d <;> simp_all)) h1.2
    unfold applyS
    have h3 : OnceP ((if covO o y.1 = true then [] else [y]) ++ applyS o (d || ltB o.2.1 y.1) r) := by
      cases hc : covO o y.1
      · refine List.pairwise_cons.2 ⟨fun x hx => ?_, h2⟩
        rcases applyS_mem hx with ⟨h9, _⟩ | ⟨h9, rfl⟩
        · exact h1.1 x h9
        · have hd2 : d = false := by cases d <;> simp_all
          rw [cov_put (hd hd2)] at hc
          intro h8
          have : o.2.1 = y.1 := h8.symm
          simp [this] at hc
      · exact h2
    cases d with
    | true => simpa using h3
    | false =>
      cases hl : ltB o.2.1 y.1 with
      | false => simpa [hl] using h3
      | true =>
        rw [hl] at h3
        show OnceP (((o.2.1, o.2.2) : PrB) :: ((if covO o y.1 = true then [] else [y]) ++ applyS o true r))
        refine List.pairwise_cons.2 ⟨fun x hx => ?_, h3⟩
        have hcx : covO o x.1 = false := by
          rcases List.mem_append.1 hx with h | h
          · cases hc : covO o y.1 <;> simp [hc] at h
            subst h
            exact hc
          · rcases applyS_mem h with ⟨_, h9⟩ | ⟨h9, _⟩
            · exact h9
            · cases h9
        rw [cov_put (hd rfl)] at hcx
        intro h8
        have : o.2.1 = x.1 := h8
        simp [this] at hcx

theorem applyAll_once (os : List OpB) : ∀ m, OnceP m → OnceP (applyAllO m os) := by
  induction os with
  | nil => intro m h; exact h
  | cons o r ih =>
    intro m h
    unfold applyAllO
    rw [List.foldl_cons]
    refine ih _ ?_
    unfold applyO
    exact applyS_once (fun h9 => by simpa using h9) h

theorem once_get {m : List PrB} (h : OnceP m) : ∀ p ∈ m, getP m p.1 = some p.2 := by
  induction m with
  | nil => intro p hp; simp at hp
  | cons x r ih =>
    intro p hp
    have h1 := List.pairwise_cons.1 h
    rw [getP_cons]
    rcases List.mem_cons.1 hp with rfl | hp
    · simp
    · have h9 := h1.1 p hp
      rw [if_neg (by simpa using h9)]
      exact ih h1.2 p hp

/-- a pair of the map is found -/
theorem map_found {Z : List (OpB × Nat)} {p : PrB} (hp : p ∈ applyAllO [] (Z.map (·.1))) : stC (lastC Z p.1) = 1 ∧ valC (lastC Z p.1) = p.2 := by
  have h := once_get (applyAll_once (Z.map (·.1)) [] List.Pairwise.nil) p hp
  rw [get_all, lastC_over] at h
  cases hl : lastC Z p.1 with
  | none => rw [hl] at h; simp at h
  | some z =>
    rw [hl] at h
    simp only [Option.map_some] at h
    by_cases h2 : z.1.1.toNat = 2
    · rw [if_pos h2] at h
      unfold stC valC
      simp only [if_pos h2, true_and]
      exact Option.some.inj h
    · rw [if_neg h2] at h
      cases h

/-- what is found of an op's key is in the map, and it is known -/
theorem map_has {Z : List (OpB × Nat)} {k : List UInt8} : (getV (getP (applyAllO [] (Z.map (·.1))) k)).2 = decide (stC (lastC Z k) = 1) := by
  rw [get_all, lastC_over]
  cases hl : lastC Z k with
  | none => rfl
  | some z =>
    simp only [Option.map_some]
    unfold stC
    by_cases h2 : z.1.1.toNat = 2
    · simp [h2, getV]
    · simp [h2, getV]

theorem map_known {Z : List (OpB × Nat)} {z : OpB × Nat} (hz : z ∈ Z) (ok : chkOp (z.1.1.toNat : Int) z.1.2.1 z.1.2.2 = 0) : stC (lastC Z z.1.2.1) ≠ 0 := by
  have hc : covO z.1 z.1.2.1 = true := by
    by_cases h3 : z.1.1 = 3
    · rw [covO_three h3]
      have h4 := (chkOp_len ok).2.2.2.2 (by rw [(three_iff _).1 h3]; rfl)
      have h0 : Lib.compareBytes z.1.2.1 z.1.2.1 = 0 := Mth.cmp_zero.2 rfl
      unfold covB
      rw [h0]
      simp [h4.2]
    · rw [covO_else h3]; simp
  cases hl : lastC Z z.1.2.1 with
  | none => rw [lastC_none hl z hz] at hc; cases hc
  | some y => unfold stC; simp only; split <;> decide

end Go.Proofs.Ythcoblmfmbmdkaa

/- What the document's memo tells: as of any number, and its versions in order. -/
namespace Go.Proofs.Ythcoblmfmbmdkaa
set_option maxRecDepth 20000
open Go.RowKit
set_option linter.unusedVariables false
set_option linter.unusedSimpArgs false

/-- the last op with a number of at most s that covers a key -/
def lastS (Z : List (OpB × Nat)) (k : List UInt8) (s : Nat) : Option (OpB × Nat) := Z.reverse.find? fun z => decide (z.2 ≤ s) && covO z.1 k

theorem lastS_none {Z : List (OpB × Nat)} {k : List UInt8} {s : Nat} (h : lastS Z k s = none) : ∀ z ∈ Z, z.2 ≤ s → covO z.1 k = false := by
  intro z hz hs
  unfold lastS at h
  have := List.find?_eq_none.1 h z (List.mem_reverse.2 hz)
  simpa [hs] using this

theorem lastS_some {Z : List (OpB × Nat)} {k : List UInt8} {s : Nat} {z : OpB × Nat} (hr : (Z.map (·.2)).Pairwise (· < ·)) (h : lastS Z k s = some z) : z ∈ Z ∧ (z.2 ≤ s ∧ covO z.1 k = true) ∧ ∀ y ∈ Z, y.2 ≤ s → covO y.1 k = true → y = z ∨ y.2 < z.2 := by
  unfold lastS at h
  obtain ⟨h1, ys, bs, h2, h3⟩ := List.find?_eq_some_iff_append.1 h
  have h4 : Z = bs.reverse ++ z :: ys.reverse := by
    have := congrArg List.reverse h2
    simpa using this
  subst h4
  refine ⟨by simp, by simpa using h1, fun y hy hs hc => ?_⟩
  rw [List.map_append, List.pairwise_append] at hr
  rcases List.mem_append.1 hy with h9 | h9
  · exact .inr (hr.2.2 y.2 (List.mem_map_of_mem h9) z.2 (by simp))
  · rcases List.mem_cons.1 h9 with h9 | h9
    · exact .inl h9
    · have := h3 y (List.mem_reverse.1 h9)
      rw [hc] at this
      simp [hs] at this

theorem covS_maxS (k : List UInt8) (s : Nat) (ss : List SpB) : ∀ m n, m ≤ n → (∀ x ∈ ss, covB x.1 x.2.1 k = true → x.2.2 ≤ s → x.2.2 ≤ n) → ss.foldl (covS k (s : Int)) m ≤ n := by
  induction ss with
  | nil => intro m n h _; exact h
  | cons a r ih =>
    intro m n hm hn
    rw [List.foldl_cons]
    refine ih _ _ ?_ (fun x hx => hn x (List.mem_cons_of_mem _ hx))
    unfold covS
    split
    · rename_i h9
      have := hn a List.mem_cons_self h9.2 (by omega)
      omega
    · exact hm

theorem find_lastS {Z : List (OpB × Nat)} {L : List EnB} {k : List UInt8} {s : Nat} (hr : riseB L = true) (hb : ∀ e ∈ L, e.2.2.1.toNat ≤ 2 ∧ e.2.1 ≤ 72057594037927935) (hp : L.Perm (verP Z)) (rs : (Z.map (·.2)).Pairwise (· < ·)) (lo : ∀ z ∈ Z, 1 ≤ z.2) (ok : ∀ z ∈ Z, 1 ≤ z.1.1.toNat ∧ z.1.1.toNat ≤ 3) :
    stM (newE L k s) (covN (spnP Z) k (s : Int)) = stC (lastS Z k s) ∧ valM (newE L k s) (covN (spnP Z) k (s : Int)) = valC (lastS Z k s) := by
  have hmem : ∀ e, e ∈ L → e.1 = k → ∃ z ∈ Z, z.1.1 ≠ 3 ∧ e = (z.1.2.1, z.2, z.1.1, z.1.2.2) ∧ covO z.1 k = true := fun e he hk => by
    obtain ⟨z, hz, h3, rfl⟩ := verP_iff.1 (hp.mem_iff.1 he)
    exact ⟨z, hz, h3, rfl, by rw [covO_else h3]; simpa using hk⟩
  obtain ⟨_, _, cge⟩ := covS_max k s (spnP Z) 0
  have cle := covS_maxS k s (spnP Z) 0
  have hsp : ∀ x ∈ spnP Z, covB x.1 x.2.1 k = true → ∃ z ∈ Z, z.1.1 = 3 ∧ x = (z.1.2.1, z.1.2.2, z.2) ∧ covO z.1 k = true := fun x hx hc => by
    obtain ⟨z, hz, h3, rfl⟩ := spnP_iff.1 hx
    exact ⟨z, hz, h3, rfl, by rw [covO_three h3]; exact hc⟩
  cases hl : lastS Z k s with
  | none =>
    have hn := lastS_none hl
    have h1 : newE L k s = none := by
      cases h : newE L k s with
      | none => rfl
      | some e =>
        have he := newE_some hr hb h
        obtain ⟨z, hz, _, rfl, hc⟩ := hmem e he.1 he.2.1
        rw [hn z hz he.2.2.1] at hc
        cases hc
    have h2 : covN (spnP Z) k (s : Int) = 0 := by
      have : covN (spnP Z) k (s : Int) ≤ 0 := cle 0 (Nat.le_refl _) (fun x hx hc hs => by
        obtain ⟨z, hz, _, rfl, hc2⟩ := hsp x hx hc
        rw [hn z hz hs] at hc2
        cases hc2)
      omega
    rw [h1, h2]
    exact ⟨rfl, rfl⟩
  | some z =>
    obtain ⟨hz, ⟨hzs, hzc⟩, hzl⟩ := lastS_some rs hl
    by_cases h3 : z.1.1 = 3
    · have h3n := (three_iff _).1 h3
      have hc1 : z.2 ≤ covN (spnP Z) k (s : Int) := cge (z.1.2.1, z.1.2.2, z.2) (spnP_iff.2 ⟨z, hz, h3, rfl⟩) (by rw [← covO_three h3]; exact hzc) hzs
      have hz1 := lo z hz
      have h2 : stM (newE L k s) (covN (spnP Z) k (s : Int)) = 2 := by
        unfold stM
        cases h : newE L k s with
        | none => rw [if_pos (show (none : Option EnB).isSome = false from rfl), if_neg (by omega)]
        | some e =>
          have he := newE_some hr hb h
          obtain ⟨y, hy, hy3, rfl, hyc⟩ := hmem e he.1 he.2.1
          rw [if_neg (by simp), if_pos]
          rcases hzl y hy he.2.2.1 hyc with rfl | h9
          · exact absurd h3 hy3
          · show y.2 < _
            omega
      refine ⟨by rw [h2]; unfold stC; simp [h3n], ?_⟩
      unfold valM
      rw [h2, if_neg (by decide)]
      unfold valC
      simp [h3n]
    · have hzv : (z.1.2.1, z.2, z.1.1, z.1.2.2) ∈ L := hp.mem_iff.2 (verP_iff.2 ⟨z, hz, h3, rfl⟩)
      have hzk : z.1.2.1 = k := by rw [covO_else h3] at hzc; simpa using hzc
      have h1 : newE L k s = some (z.1.2.1, z.2, z.1.1, z.1.2.2) := by
        cases h : newE L k s with
        | none => exact absurd hzs (newE_none hr hb h _ hzv hzk)
        | some e =>
          have he := newE_some hr hb h
          obtain ⟨y, hy, hy3, rfl, hyc⟩ := hmem e he.1 he.2.1
          rcases hzl y hy he.2.2.1 hyc with rfl | h9
          · rfl
          · exfalso
            have h8 := he.2.2.2 _ hzv hzk hzs
            have e0 : Lib.compareBytes y.1.2.1 z.1.2.1 = 0 := Mth.cmp_zero.2 (by rw [hzk]; exact he.2.1)
            unfold cmpE Mth.cmpK at h8
            simp only at h8
            rw [e0] at h8
            simp only [ne_eq, not_true_eq_false, if_false] at h8
            rw [if_neg (by omega), if_pos (by omega)] at h8
            omega
      have h2 : covN (spnP Z) k (s : Int) ≤ z.2 := cle z.2 (Nat.zero_le _) (fun x hx hc hs => by
        obtain ⟨y, hy, _, rfl, hyc⟩ := hsp x hx hc
        rcases hzl y hy hs hyc with rfl | h9
        · exact Nat.le_refl _
        · exact Nat.le_of_lt h9)
      have h3n : ¬ z.1.1.toNat = 3 := fun h9 => h3 ((three_iff _).2 h9)
      have hok := ok z hz
      have h4 : stM (newE L k s) (covN (spnP Z) k (s : Int)) = if z.1.1.toNat = 2 then 1 else 2 := by
        rw [h1]
        unfold stM
        rw [if_neg (by simp), if_neg (by show ¬ z.2 < _; omega)]
        show (if z.1.1.toNat = 1 then (2 : Int) else 1) = _
        by_cases h9 : z.1.1.toNat = 2
        · rw [if_pos h9, if_neg (by omega)]
        · rw [if_neg h9, if_pos (by omega)]
      refine ⟨h4, ?_⟩
      unfold valM
      rw [h4, h1]
      unfold valC
      by_cases h9 : z.1.1.toNat = 2
      · simp [h9, eQ]
      · simp [h9]

/-- a version more, at its place -/
def insR (out : List EnB) (e : EnB) : List EnB := (out.take (cntE out e) ++ [e]) ++ out.drop (cntE out e)
/-- the versions, in order -/
def entsP (Z : List (OpB × Nat)) : List EnB := (verP Z).foldl insR []

theorem entsP_next {Z : List (OpB × Nat)} {j : Nat} (h : j < Z.length) : entsP (Z.take (j + 1)) = if Z[j].1.1 = 3 then entsP (Z.take j) else insR (entsP (Z.take j)) (Z[j].1.2.1, Z[j].2, Z[j].1.1, Z[j].1.2.2) := by
  unfold entsP
  rw [List.take_succ_eq_append_getElem h, verP_app]
  by_cases h3 : Z[j].1.1 = 3
  · rw [if_pos h3]
    simp [verP, h3]
  · rw [if_neg h3, List.foldl_append]
    simp [verP, h3]

theorem insR_perm (out : List EnB) (e : EnB) : (insR out e).Perm (e :: out) := by
  unfold insR
  have h1 : ((out.take (cntE out e) ++ [e]) ++ out.drop (cntE out e)).Perm (([e] ++ out.take (cntE out e)) ++ out.drop (cntE out e)) := List.Perm.append_right _ List.perm_append_comm
  refine h1.trans ?_
  rw [List.append_assoc, List.take_append_drop]
  exact List.Perm.refl _

theorem insR_len (out : List EnB) (e : EnB) : (insR out e).length = out.length + 1 := (insR_perm out e).length_eq

theorem foldR_perm (vs : List EnB) : ∀ out, (vs.foldl insR out).Perm (vs ++ out) := by
  induction vs with
  | nil => intro out; exact List.Perm.refl _
  | cons e r ih =>
    intro out
    rw [List.foldl_cons]
    refine (ih _).trans ?_
    refine (List.Perm.append_left r (insR_perm out e)).trans ?_
    exact List.perm_middle

theorem entsP_perm (Z : List (OpB × Nat)) : (entsP Z).Perm (verP Z) := by
  have := foldR_perm (verP Z) []
  rw [List.append_nil] at this
  exact this

theorem entsP_len (Z : List (OpB × Nat)) : (entsP Z).length ≤ Z.length := by
  have h1 := (entsP_perm Z).length_eq
  have h2 := verP_len Z
  omega

theorem foldR_rise (vs : List EnB) : ∀ out, riseB out = true → (∀ e ∈ vs, ∀ x ∈ out, x.2.1 ≠ e.2.1) → vs.Pairwise (fun a b => a.2.1 ≠ b.2.1) → riseB (vs.foldl insR out) = true := by
  induction vs with
  | nil => intro out h _ _; exact h
  | cons e r ih =>
    intro out h hd hw
    have hw2 := List.pairwise_cons.1 hw
    rw [List.foldl_cons]
    refine ih _ ?_ ?_ hw2.2
    · have hany : anyE out e = false := by
        unfold anyE
        rw [List.any_eq_false]
        intro x hx
        unfold sameE
        have := hd e List.mem_cons_self x hx
        simp only [decide_eq_true_eq]
        rintro ⟨_, h9, _⟩
        omega
      have := ins_rises out e h hany
      unfold insR
      rw [List.append_assoc]
      exact this
    · intro f hf x hx
      rcases List.mem_cons.1 ((insR_perm out e).mem_iff.1 hx) with rfl | hx
      · exact hw2.1 f hf
      · exact hd f (List.mem_cons_of_mem _ hf) x hx

theorem verP_seqs {Z : List (OpB × Nat)} (rs : (Z.map (·.2)).Pairwise (· < ·)) : (verP Z).Pairwise (fun a b => a.2.1 ≠ b.2.1) := by
  induction Z with
  | nil => simp [verP]
  | cons z r ih =>
    rw [List.map_cons, List.pairwise_cons] at rs
    unfold verP
    split
    · exact ih rs.2
    · refine List.pairwise_cons.2 ⟨fun e he => ?_, ih rs.2⟩
      obtain ⟨y, hy, _, rfl⟩ := verP_iff.1 he
      have := rs.1 y.2 (List.mem_map_of_mem hy)
      show z.2 ≠ y.2
      omega

/-- the document's versions are the memo's -/
theorem entsP_is {Z : List (OpB × Nat)} {L : List EnB} (hr : riseB L = true) (hp : L.Perm (verP Z)) (rs : (Z.map (·.2)).Pairwise (· < ·)) : entsP Z = L :=
  rise_unique (foldR_rise (verP Z) [] rfl (fun e _ x hx => by simp at hx) (verP_seqs rs)) hr ((entsP_perm Z).trans hp.symm)

end Go.Proofs.Ythcoblmfmbmdkaa

/- bartizanref10.Spans. -/
namespace Go.Proofs.Ythcoblmfmbmdkaa
set_option maxRecDepth 100000
open Go.RowKit
set_option linter.unusedVariables false
set_option linter.unusedSimpArgs false

/-- the cells of spans whose texts are read in w -/
def CellsS (w : World) (cs : List Value) (ss : List SpB) : Prop :=
  cs.length = ss.length * 3 ∧ ∀ j (h : j < ss.length), ∃ x y, cs[j * 3]? = some x ∧ cs[j * 3 + 1]? = some y ∧ cs[j * 3 + 2]? = some (.int .u64 (ss[j].2.2 : Int)) ∧ Rd w x ss[j].1 ∧ Rd w y ss[j].2.1

theorem CellsS.nil (w : World) : CellsS w [] [] := ⟨rfl, fun j h => absurd h (Nat.not_lt_zero _)⟩

theorem CellsS.snoc {w : World} {cs : List Value} {ss : List SpB} {x y : Value} (o : SpB) (h : CellsS w cs ss) (hx : Rd w x o.1) (hy : Rd w y o.2.1) : CellsS w (cs ++ [x, y, .int .u64 (o.2.2 : Int)]) (ss ++ [o]) := by
  obtain ⟨hl, hj⟩ := h
  refine ⟨by rw [List.length_append, List.length_append, hl]; simp; omega, fun j hjl => ?_⟩
  by_cases hh : j < ss.length
  · obtain ⟨x', y', c0, c1, c2, rx, ry⟩ := hj j hh
    refine ⟨x', y', ?_, ?_, ?_, ?_, ?_⟩
    · rw [List.getElem?_append_left (by omega)]; exact c0
    · rw [List.getElem?_append_left (by omega)]; exact c1
    · rw [List.getElem?_append_left (by omega), List.getElem_append_left hh]; exact c2
    · rw [List.getElem_append_left hh]; exact rx
    · rw [List.getElem_append_left hh]; exact ry
  · have hje : j = ss.length := by rw [List.length_append] at hjl; simp at hjl; omega
    subst hje
    have e : (ss ++ [o])[ss.length]'hjl = o := by simp
    rw [e]
    refine ⟨x, y, ?_, ?_, ?_, hx, hy⟩
    · rw [List.getElem?_append_right (by omega), show ss.length * 3 - cs.length = 0 by omega]; rfl
    · rw [List.getElem?_append_right (by omega), show ss.length * 3 + 1 - cs.length = 1 by omega]; rfl
    · rw [List.getElem?_append_right (by omega), show ss.length * 3 + 2 - cs.length = 2 by omega]; rfl

/-- spans in a row of one's own; their texts are read in w -/
def RowS (w wr : World) (v : Value) (ss : List SpB) : Prop := ∃ cs, wr.ownsRow w.heap.size 46 3 v ss.length cs ∧ CellsS w cs ss

theorem RowS.below {w wr w2 : World} {v : Value} {ss : List SpB} (h : RowS w wr v ss) (hb : Below wr.heap.size wr w2) : RowS w w2 v ss := by
  obtain ⟨cs, hr, hc⟩ := h
  exact ⟨cs, row_below hr hb, hc⟩

theorem RowS.nil (w wr : World) : RowS w wr (.slice none 0 0) [] := ⟨[], World.ownsRow_nil _ _ _ _, CellsS.nil w⟩

theorem RowS.rd {w wr : World} {v : Value} {ss : List SpB} (h : RowS w wr v ss) (hb : Below w.heap.size w wr) : RdS wr v ss := by
  obtain ⟨cs, hr, hj⟩ := h
  have hr2 := hr
  rcases hr.2 with ⟨e, hn⟩ | ⟨g, cap, cur, e, hb', hg, h1, h2, h3, h4⟩
  · exact ⟨none, 0, by rw [e, hn], by omega, Nat.zero_le _, fun j hj => by omega⟩
  · subst e
    refine ⟨_, cap, rfl, h1, h2, fun j h => ⟨g, 0, rfl, ?_⟩⟩
    obtain ⟨x, y, c0, c1, c2, ox, oy⟩ := hj.2 j h
    have hc := hr2.cells (g := g) rfl
    refine ⟨x, y, ?_, ?_, ?_, ox.below hb (Nat.le_refl _), oy.below hb (Nat.le_refl _)⟩
    · have := hc _ _ c0; rwa [Addr.add_lit] at this
    · have := hc _ _ c1; rwa [Addr.add_lit] at this
    · have := hc _ _ c2; rwa [Addr.add_lit] at this

theorem RowS.lt {w wr : World} {v : Value} {ss : List SpB} (h : RowS w wr v ss) : ∀ q, v.ownBlock = some q → w.heap.size ≤ q ∧ q < wr.heap.size := by
  obtain ⟨cs, hr, _⟩ := h
  exact fun q hq => hr.lt q hq

theorem spnP_next {Z : List (OpB × Nat)} {j : Nat} (h : j < Z.length) : spnP (Z.take (j + 1)) = if Z[j].1.1 = 3 then spnP (Z.take j) ++ [(Z[j].1.2.1, Z[j].1.2.2, Z[j].2)] else spnP (Z.take j) := by
  rw [List.take_succ_eq_append_getElem h, spnP_app]
  by_cases h3 : Z[j].1.1 = 3
  · rw [if_pos h3]
    simp [spnP, h3]
  · rw [if_neg h3]
    simp [spnP, h3]

theorem spnP_len (Z : List (OpB × Nat)) : (spnP Z).length ≤ Z.length := by have := verP_len Z; omega

theorem Bx2.same3 {w wr : World} {x : Nat} {v u : Value} (h : Bx2 w x v u) (hb : Below w.heap.size w wr) : Bx2 wr x v u := (hb.block x h.lt).trans h
theorem Bx2.grown3 {w w' : World} {x : Nat} {v u : Value} {row : Option Nat} (h : Bx2 w x v u) (hg : w.grownBy w' row) (hne : some x ≠ row) : Bx2 w' x v u := (hg.block x h.lt hne).trans h

set_option maxHeartbeats 8000000 in
theorem r10spans_any (G : Nat → Prop) (w : World) (x : Nat) (Z : List (OpB × Nat)) (h : RefM G w x (Z.map (·.1)) (Z.map (·.2))) (hn : Z.length ≤ 100000) :
    Calls Try.prog 15 #[.pointer (some ⟨x, 0, none⟩)] w fun e w' => ∃ v, e = .returned v ∧ RowS w w' v (spnP Z) ∧ Below w.heap.size w w' := by
  obtain ⟨i0, hi, hz0, hz1, hz2⟩ := info_parts infoSp
  have he : ∀ w : World, (binOp .neq 28 (.pointer (some ⟨x, 0, none⟩)) (.pointer none)).run Try.prog w = .ok (.bool true) w := fun _ => rfl
  obtain ⟨v, u, hbx, hro, hru⟩ := h.rd
  have HBX : Hid (Bx2 w x v u) := hbx
  have HRO : Hid (RdO w v (Z.map (·.1))) := hro
  have hro2 := hro
  obtain ⟨oa, oc, eo, _, h2, _⟩ := hro2
  subst eo
  obtain ⟨N, hN⟩ : ∃ N, Z.length = N := ⟨_, rfl⟩
  rw [List.length_map, hN] at HRO HBX
  have HN : Hid (Z.length = N) := hN
  have HRU : Hid (w.ownsRow 0 33 1 u (Z.map (·.2)).length ((Z.map (·.2)).map encU)) := hru
  have c0 := HBX.out.c0
  have hN2 : N ≤ 100000 := by rw [← hN]; exact hn
  clear hbx hro hru h hN hn
  go_enter Try.func15, Try.ntmps15
  go_wp2_with fail
  go_loopg [3, 13] N (fun gk pv iv wr => ∃ (j n' c' : Nat) (a' : Option Addr), gk + j = N ∧ iv = .int .i64 (j : Int) ∧ pv = .slice a' n' c' ∧ Hid (RowS w wr pv (spnP (Z.take j))) ∧ Hid (Below w.heap.size w wr))
  case atStart => exact ⟨0, 0, 0, none, by omega, rfl, rfl, RowS.nil _ _, Below.refl _ _⟩
  case round =>
    obtain ⟨j, n', c', a', hj, rfl, rfl, HO, HB⟩ := hrel
    by_cases hlt : j < N
    · have hlt2 : j < Z.length := by rw [HN.out]; exact hlt
      have hlt3 : j < (Z.map (·.1)).length := by rw [List.length_map]; exact hlt2
      obtain ⟨_, _, e, _, _, h3⟩ := HRO.out
      rw [List.length_map, HN.out] at e
      cases e
      obtain ⟨b, off, rfl, xv, yv, d0', d1', d2', rx, ry⟩ := h3 j hlt3
      have hbl := World.block_lt_of_cell? w _ d0'
      have d0 := (HB.out.cell (p := ⟨b, off + j * 3, none⟩) hbl).trans d0'
      have d1 := (HB.out.cell (p := ⟨b, off + j * 3 + 1, none⟩) hbl).trans d1'
      have d2 := (HB.out.cell (p := ⟨b, off + j * 3 + 2, none⟩) hbl).trans d2'
      clear d0' d1' d2' hbl
      obtain ⟨x1, x2, ex⟩ := rx.len
      obtain ⟨y1, y2, ey⟩ := ry.len
      subst ex ey
      obtain ⟨q1, q2⟩ := gk_nxt hj hlt
      have hst := spnP_next hlt2
      obtain ⟨z, ho⟩ : ∃ z, Z[j] = z := ⟨_, rfl⟩
      have ho2 : (Z.map (·.1))[j] = z.1 := by rw [List.getElem_map, ho]
      rw [ho2] at d0 d1 d2 rx ry
      rw [ho] at hst
      obtain ⟨nl, hnlq⟩ : ∃ nl, z.1.2.1.length = nl := ⟨_, rfl⟩
      obtain ⟨oln, holn⟩ : ∃ oln, z.1.2.2.length = oln := ⟨_, rfl⟩
      obtain ⟨sq, hsq⟩ : ∃ q : Int, (z.2 : Int) = q := ⟨_, rfl⟩
      obtain ⟨kk, hkk⟩ : ∃ q : Int, (z.1.1.toNat : Int) = q := ⟨_, rfl⟩
      rw [hnlq] at d1 rx
      rw [holn] at d2 ry
      rw [hkk] at d0
      have HK3 : Hid (z.1.1 = 3 ↔ kk = 3) := by
        show _ ↔ _
        rw [three_iff, ← hkk]
        omega
      have c0r := (HBX.out.same3 (wr := wr) HB.out).c0
      obtain ⟨g, uc, eu, hug⟩ : ∃ g uc, u = .slice (some ⟨g, 0, none⟩) N uc ∧ w.cell? ⟨g, j, none⟩ = some (.int .u64 sq) := by
        have hr := HRU.out
        rw [List.length_map, HN.out] at hr
        obtain ⟨g, c, e, _⟩ := hr.form (by omega)
        subst e
        refine ⟨g, c, rfl, ?_⟩
        rw [World.ownsRow.cellAt hr j (by omega), List.getElem?_map, List.getElem?_map, List.getElem?_eq_getElem hlt2, ho]
        show some (Value.int .u64 (z.2 : Int)) = _
        rw [hsq]
      subst eu
      have c1r := (HBX.out.same3 (wr := wr) HB.out).c1
      have HUG : Hid (w.cell? ⟨g, j, none⟩ = some (.int .u64 sq)) := hug
      clear hug
      by_cases hk3 : kk = 3
      · have HS9 : Hid (spnP (Z.take (j + 1)) = spnP (Z.take j) ++ [(z.1.2.1, z.1.2.2, z.2)]) := by show _ = _; rw [hst, if_pos (HK3.out.2 hk3)]
        have hb0 := below_box wr #[.int .u8 3, .slice x1 nl x2, .slice y1 oln y2] 63
        have HRX : Hid (Rd w (.slice x1 nl x2) z.1.2.1 ∧ Rd w (.slice y1 oln y2) z.1.2.2 ∧ (z.2 : Int) = sq) := ⟨rx, ry, hsq⟩
        have BB := box_new wr (.int .u8 3) (.slice x1 nl x2) (.slice y1 oln y2) 63
        have HO0 : Hid (RowS w (wr.alloc (.cells #[.int .u8 3, .slice x1 nl x2, .slice y1 oln y2] 63)) (.slice a' n' c') (spnP (Z.take j))) := HO.out.below hb0
        have HB0 : Hid (Below w.heap.size w (wr.alloc (.cells #[.int .u8 3, .slice x1 nl x2, .slice y1 oln y2] 63))) := bsplit HB.out hb0
        obtain ⟨SS, hSS⟩ : ∃ S, spnP (Z.take j) = S := ⟨_, rfl⟩
        have HNP : Hid (SS.length = n') := by
          show _ = _
          have h9 := HO.out
          rw [hSS] at h9
          obtain ⟨cs, hr, _⟩ := h9
          rcases hr.2 with ⟨e, hn⟩ | ⟨g, cap, cur, e, _⟩
          · cases e; exact hn
          · cases e; rfl
        have hnI : n' ≤ 100000 := by
          rw [← HNP.out, ← hSS]
          have := spnP_len (Z.take j)
          rw [List.length_take] at this
          omega
        rw [hSS] at HO0 HS9
        clear hst ho ho2 rx ry h3 hb0 hnlq holn hsq hkk hSS
        subst hk3
        go_wp2_with fail
        obtain ⟨wa, hwa⟩ : ∃ wa, wr.alloc (.cells #[.int .u8 3, .slice x1 nl x2, .slice y1 oln y2] 63) = wa := ⟨_, rfl⟩
        obtain ⟨bo, hbo⟩ : ∃ bo, wr.heap.size = bo := ⟨_, rfl⟩
        rw [hwa] at HO0 HB0 BB ⊢
        rw [hbo] at BB ⊢
        have bM := HBX.out.same3 HB0.out
        have bU := (HB0.out.cell (p := ⟨g, j, none⟩) (World.block_lt_of_cell? w _ HUG.out)).trans HUG.out
        have hbz := (below_box4 wa (.cells #[.slice x1 nl x2, .slice y1 oln y2, .int .u64 sq] 46)).drew
        have BBz := BB.below hbz (Nat.le_refl _)
        have bMz := bM.same3 hbz
        have bUz := (hbz.cell (p := ⟨g, j, none⟩) (World.block_lt_of_cell? _ _ bU)).trans bU
        have hOz := HO0.out.below hbz
        have hBz := bsplit HB0.out hbz
        have hlz : ∀ j u, [Value.slice x1 nl x2, .slice y1 oln y2, .int .u64 sq][j]? = some u → (wa.alloc (.cells #[.slice x1 nl x2, .slice y1 oln y2, .int .u64 sq] 46)).drew.cell? ((⟨wa.heap.size, 0, none⟩ : Addr).add j) = some u := laidT3 wa (.slice x1 nl x2) (.slice y1 oln y2) (.int .u64 sq) 46
        have HWZ : Hid (w.heap.size ≤ wa.heap.size) := HB0.out.size
        have HBO : Hid (bo < wa.heap.size ∧ w.heap.size ≤ bo) := ⟨BB.lt, by rw [← hbo]; exact HB.out.size⟩
        have HNE : Hid (some bo ≠ (Value.slice a' n' c').ownBlock) := fun e => by have := (HO.out.lt _ e.symm).2; omega
        have HNX : Hid (some x ≠ (Value.slice a' n' c').ownBlock) := fun e => by have := (HO.out.lt _ e.symm).1; have := HBX.out.lt; omega
        have HNG : Hid (some g ≠ (Value.slice a' n' c').ownBlock) := fun e => by have := (HO.out.lt _ e.symm).1; have := World.block_lt_of_cell? w _ HUG.out; simp only at this; omega
        obtain ⟨cs, hrow, hcs⟩ := hOz
        rw [HNP.out] at hrow
        have HCS : Hid (CellsS w cs SS) := hcs
        clear hcs hbo hwa d0 d1 d2 c0r c1r
        go_region_held3 (fun w' => w'.cell? ⟨bo, 1, none⟩ = some (.slice x1 nl x2) ∧ w'.cell? ⟨bo, 2, none⟩ = some (.slice y1 oln y2) ∧ w'.cell? ⟨x, 1, none⟩ = some (.slice (some ⟨g, 0, none⟩) N uc) ∧ w'.cell? ⟨g, j, none⟩ = some (.int .u64 sq))
          (first | with_reducible exact ⟨b4.c1, b4.c2, bM4.c1, bU4⟩ | with_reducible exact ⟨BBz.c1, BBz.c2, bMz.c1, bUz⟩ | exact ⟨BB.c1, BB.c2, bM.c1, bU⟩)
          (first
            | (refine step_append_lies _ rfl (.tmp 21) (.tmp 34) 38 rfl w.heap.size 46 i0 (.agg #[.slice none 0 0, .slice none 0 0, .int .u64 0]) 3 56 Try.underlying38 hi hz0 hz1 hz2 rfl (by decide) (.slice a' n' c') n' cs rfl hrow ⟨wa.heap.size, 0, none⟩ 1 1 [.slice x1 nl x2, .slice y1 oln y2, .int .u64 sq] rfl rfl hlz (oneS _ _ _ _ _ _ _) (by decide) (by simp only [maxLen]; omega) (by omega) hBz.size _ rfl ?_
               intro g4 c4 w4 hown hgrow hat hlt4
               have b4 := BBz.grown hgrow HNE.out
               have bM4 := bMz.grown3 hgrow HNX.out
               have bU4 := (hgrow.cell_far ⟨g, j, none⟩ (World.block_lt_of_cell? _ _ bUz) HNG.out).trans bUz
               have HPU : Hid (RowS w w4 (.slice (some ⟨g4, 0, none⟩) (n' + 1) c4) (spnP (Z.take (j + 1)))) := by
                 show RowS _ _ _ _
                 rw [HS9.out]
                 refine ⟨cs ++ [.slice x1 nl x2, .slice y1 oln y2, .int .u64 sq], ?_, ?_⟩
                 · rw [List.length_append, HNP.out]; exact hown
                 · rw [← HRX.out.2.2]; exact HCS.out.snoc (z.1.2.1, z.1.2.2, z.2) HRX.out.1 HRX.out.2.1
               have HB4 : Hid (Below w.heap.size w w4) := hBz.grown hgrow hBz.size (fun k' e => (hrow.lt k' e).1))
            | fail)
        clear hrow hlz hBz
        go_wp2_with fail
        go_roundg (gk - 1)
        case measure => exact q1
        case rel => exact ⟨j + 1, _, _, _, q2, by go_num, rfl, HPU.out, HB4.out⟩
      · have hkb : (kk == 3) = false := by simpa using hk3
        have HS9 : Hid (spnP (Z.take (j + 1)) = spnP (Z.take j)) := by show _ = _; rw [hst, if_neg (fun h9 => hk3 (HK3.out.1 h9))]
        have hb0 := below_box wr #[.int .u8 kk, .slice x1 nl x2, .slice y1 oln y2] 63
        have HF : Hid (RowS w (wr.alloc (.cells #[.int .u8 kk, .slice x1 nl x2, .slice y1 oln y2] 63)) (.slice a' n' c') (spnP (Z.take (j + 1))) ∧ Below w.heap.size w (wr.alloc (.cells #[.int .u8 kk, .slice x1 nl x2, .slice y1 oln y2] 63))) := by
          refine ⟨?_, bsplit HB.out hb0⟩
          rw [HS9.out]
          exact HO.out.below hb0
        clear hst ho ho2 rx ry h3 hb0
        go_wp2_with fail
        go_roundg (gk - 1)
        case measure => exact q1
        case rel => exact ⟨j + 1, _, _, _, q2, by go_num, rfl, HF.out.1, HF.out.2⟩
    · have hjN : j = N := by omega
      subst hjN
      have HE9 : Hid (spnP (Z.take j) = spnP Z) := by show _ = _; rw [← HN.out, List.take_length]
      go_wp2
      go_ret
      exact ⟨_, rfl, by rw [← HE9.out]; exact HO.out, HB.out⟩

end Go.Proofs.Ythcoblmfmbmdkaa
