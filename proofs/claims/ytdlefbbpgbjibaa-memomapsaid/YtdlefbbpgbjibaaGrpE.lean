/- Several texts in one. -/
import Derived.Test.YtdlefbbpgbjibaaEnFew
import Derived.Test.YtdlefbbpgbjibaaKeyCmp
import Derived.Test.YtdlefbbpgbjibaaTbCover
import Derived.Test.YtdlefbbpgbjibaaTbNew
import Derived.BigQuiet
import Derived.Test.YtdlefbbpgbjibaaGrpC
import Derived.Test.YtdlefbbpgbjibaaKeyCheck
import Derived.Test.YtdlefbbpgbjibaaLists
import Derived.Deep.RegionHeld3
import Derived.Deep.DeepCutAuto
import Derived.Deep.CutRange
import Derived.Deep.LoopGhost
import Derived.Deep.AppendLies
import Derived.Test.YtdlefbbpgbjibaaKeyArg
import Derived.Lib.SmallJoins
import Derived.Test.YtdlefbbpgbjibaaGrpA
import Derived.Test.YtdlefbbpgbjibaaSmall

/- bartizanref03.SameEntry, SameEntries. -/
namespace Go.Proofs.Ytdlefbbpgbjibaa
open Go.RowKit
set_option linter.unusedVariables false

set_option maxRecDepth 20000 in
set_option maxHeartbeats 4000000 in
theorem sameen_any (w : World) (xa ya xb yb : Value) (la ma lb mb : List UInt8) (s k t j : Int) (r : Bool) (hxa : Rd w xa la) (hya : Rd w ya ma) (hxb : Rd w xb lb) (hyb : Rd w yb mb) (hr : decide ((la = lb ∧ s = t ∧ k = j) ∧ ma = mb) = r) :
    Calls Try.prog 40 #[.agg #[xa, .int .u64 s, .int .u8 k, ya], .agg #[xb, .int .u64 t, .int .u8 j, yb]] w fun e w' => e = .returned (.bool r) ∧ Below w.heap.size w w' := by
  obtain ⟨a1, a2, rfl⟩ := hxa.len
  obtain ⟨a3, a4, rfl⟩ := hya.len
  obtain ⟨b1, b2, rfl⟩ := hxb.len
  obtain ⟨b3, b4, rfl⟩ := hyb.len
  obtain ⟨n1, h1⟩ : ∃ n, la.length = n := ⟨_, rfl⟩
  obtain ⟨n2, h2⟩ : ∃ n, ma.length = n := ⟨_, rfl⟩
  obtain ⟨n3, h3⟩ : ∃ n, lb.length = n := ⟨_, rfl⟩
  obtain ⟨n4, h4⟩ : ∃ n, mb.length = n := ⟨_, rfl⟩
  rw [h1] at hxa ⊢
  rw [h2] at hya ⊢
  rw [h3] at hxb ⊢
  rw [h4] at hyb ⊢
  have hb0 := below_box4 w (.cells #[.slice a1 n1 a2, .int .u64 s, .int .u8 k, .slice a3 n2 a4] 44)
  have hb1 := below_box4 (w.alloc (.cells #[.slice a1 n1 a2, .int .u64 s, .int .u8 k, .slice a3 n2 a4] 44)) (.cells #[.slice b1 n3 b2, .int .u64 t, .int .u8 j, .slice b3 n4 b4] 44)
  have BA := (box4_new w (.slice a1 n1 a2) (.int .u64 s) (.int .u8 k) (.slice a3 n2 a4) 44).below hb1 (Nat.le_refl _)
  have BB := box4_new (w.alloc (.cells #[.slice a1 n1 a2, .int .u64 s, .int .u8 k, .slice a3 n2 a4] 44)) (.slice b1 n3 b2) (.int .u64 t) (.int .u8 j) (.slice b3 n4 b4) 44
  rw [show (w.alloc (.cells #[.slice a1 n1 a2, .int .u64 s, .int .u8 k, .slice a3 n2 a4] 44)).heap.size = w.heap.size + 1 by simp] at BB
  have hB1 := bsplit hb0 hb1
  have hks := keysame_any ((w.alloc (.cells #[.slice a1 n1 a2, .int .u64 s, .int .u8 k, .slice a3 n2 a4] 44)).alloc (.cells #[.slice b1 n3 b2, .int .u64 t, .int .u8 j, .slice b3 n4 b4] 44)) _ _ la lb s k t j (decide (la = lb ∧ s = t ∧ k = j)) (hxa.below hB1 (Nat.le_refl _)) (hxb.below hB1 (Nat.le_refl _)) rfl
  have HY : Hid (Rd w (.slice a3 n2 a4) ma ∧ Rd w (.slice b3 n4 b4) mb) := ⟨hya, hyb⟩
  have HB1 : Hid _ := hB1
  have HR : Hid (decide ((la = lb ∧ s = t ∧ k = j) ∧ ma = mb) = r) := hr
  obtain ⟨q, hq⟩ : ∃ q, decide (la = lb ∧ s = t ∧ k = j) = q := ⟨_, rfl⟩
  have HQ : Hid (decide (la = lb ∧ s = t ∧ k = j) = q) := hq
  rw [hq] at hks
  clear hxa hya hxb hyb hr h1 h2 h3 h4 hb0 hb1 hB1 hq
  go_enter Try.func40, Try.ntmps40
  cases q with
  | false =>
    have HF : Hid (r = false) := by
      show r = false
      rw [← HR.out]
      have := of_decide_eq_false HQ.out
      simp only [decide_eq_false_iff_not]
      exact fun h => this h.1
    obtain ⟨c0, c1, c2, c3⟩ := BA
    obtain ⟨d0, d1, d2, d3⟩ := BB
    go_wp2_with fail
    refine hks.mono ?_
    rintro e w1 ⟨rfl, hb⟩
    have HB2 : Hid (Below w.heap.size w w1) := bsplit HB1.out hb
    clear hks hb
    go_wp2
    go_ret
    exact ⟨ret_bool (by rw [HF.out]), HB2.out⟩
  | true =>
    have HT : Hid ((ma == mb) = r) := by
      show (ma == mb) = r
      rw [← HR.out]
      have := of_decide_eq_true HQ.out
      rw [Bool.eq_iff_iff]
      simp only [beq_iff_eq, decide_eq_true_eq]
      exact ⟨fun h => ⟨this, h⟩, fun h => h.2⟩
    have BA' := BA
    have BB' := BB
    obtain ⟨c0, c1, c2, c3⟩ := BA'
    obtain ⟨d0, d1, d2, d3⟩ := BB'
    go_wp2_with fail
    refine hks.mono ?_
    rintro e w1 ⟨rfl, hb⟩
    have HB2 : Hid (Below w.heap.size w w1) := bsplit HB1.out hb
    clear c0 c1 c2 c3 d0 d1 d2 d3
    obtain ⟨c0, c1, c2, c3⟩ := BA.below hb (Nat.le_refl _)
    obtain ⟨d0, d1, d2, d3⟩ := BB.below hb (Nat.le_refl _)
    have hsb := same_b w1 _ _ ma mb r (HY.out.1.below HB2.out (Nat.le_refl _)) (HY.out.2.below HB2.out (Nat.le_refl _)) HT.out
    clear hks hb BA BB
    go_wp2_with fail
    refine hsb.mono ?_
    rintro e w2 ⟨rfl, rfl⟩
    clear hsb
    go_wp2
    go_ret
    exact ⟨rfl, HB2.out⟩

set_option maxRecDepth 20000 in
set_option maxHeartbeats 4000000 in
theorem sameens_any (w : World) (va vb : Value) (us bs : List EnB) (r : Bool) (ha : RdE w va us) (hb : RdE w vb bs) (hr : us = bs ↔ r = true) :
    Calls Try.prog 16 #[va, vb] w fun e w' => e = .returned (.bool r) ∧ Below w.heap.size w w' := by
  have HA : Hid (RdE w va us) := ha
  have HBb : Hid (RdE w vb bs) := hb
  obtain ⟨a1, a2, rfl, ha1, ha2, _⟩ := ha
  obtain ⟨b1, b2, rfl, hb1, hb2, _⟩ := hb
  unfold maxLen at ha2 hb2
  obtain ⟨N, hN⟩ : ∃ n, us.length = n := ⟨_, rfl⟩
  obtain ⟨M, hM⟩ : ∃ n, bs.length = n := ⟨_, rfl⟩
  rw [hN] at ha1 HA ⊢
  rw [hM] at hb1 HBb ⊢
  have HNM : Hid (us.length = N ∧ bs.length = M) := ⟨hN, hM⟩
  have HR : Hid (us = bs ↔ r = true) := hr
  clear hN hM hr
  go_enter Try.func16, Try.ntmps16
  by_cases hnm : N = M
  · subst hnm
    go_wp2_with fail
    go_loopg [13] N (fun gk iv wr => ∃ j : Nat, gk + j = N ∧ iv = .int .i64 (j : Int) ∧ Hid (∀ i, i < j → us[i]? = bs[i]?) ∧ Hid (Below w.heap.size w wr))
    case atStart => exact ⟨0, by omega, rfl, fun i hi => absurd hi (Nat.not_lt_zero _), Below.refl _ _⟩
    case round =>
      obtain ⟨j, hj, rfl, HS, HB⟩ := hrel
      by_cases hlt : j < N
      · have l1 : j < us.length := by rw [HNM.out.1]; exact hlt
        have l2 : j < bs.length := by rw [HNM.out.2]; exact hlt
        obtain ⟨_, _, e, _, _, h3⟩ := rdE_below HA.out HB.out (Nat.le_refl _)
        rw [HNM.out.1] at e
        cases e
        obtain ⟨_, _, e, _, _, h4⟩ := rdE_below HBb.out HB.out (Nat.le_refl _)
        rw [HNM.out.2] at e
        cases e
        obtain ⟨p1, o1, rfl, x1, y1, c0, c1, c2, c3, rx1, ry1⟩ := h3 j l1
        obtain ⟨p2, o2, rfl, x2, y2, d0, d1, d2, d3, rx2, ry2⟩ := h4 j l2
        obtain ⟨q1, q2⟩ := gk_nxt hj hlt
        obtain ⟨t1, t2, hx1⟩ := rx1.len
        obtain ⟨t3, t4, hy1⟩ := ry1.len
        obtain ⟨t5, t6, hx2⟩ := rx2.len
        obtain ⟨t7, t8, hy2⟩ := ry2.len
        have hsm := sameen_any wr.drew x1 y1 x2 y2 us[j].1 us[j].2.2.2 bs[j].1 bs[j].2.2.2 (us[j].2.1 : Int) (us[j].2.2.1.toNat : Int) (bs[j].2.1 : Int) (bs[j].2.2.1.toNat : Int) (decide (us[j] = bs[j])) rx1.drew ry1.drew rx2.drew ry2.drew (by
          rw [decide_eq_decide]
          constructor
          · rintro ⟨⟨e1, e2, e3⟩, e4⟩
            have e2' : us[j].2.1 = bs[j].2.1 := by omega
            have e3' : us[j].2.2.1 = bs[j].2.2.1 := UInt8.toNat_inj.1 (by omega)
            exact Prod.ext e1 (Prod.ext e2' (Prod.ext e3' e4))
          · intro e
            rw [e]
            exact ⟨⟨rfl, rfl, rfl⟩, rfl⟩)
        have h1I : (j : Int) < (a2 : Int) := by omega
        have h2I : (j : Int) < (b2 : Int) := by omega
        rw [hx1] at c0 hsm
        rw [hy1] at c3 hsm
        rw [hx2] at d0 hsm
        rw [hy2] at d3 hsm
        obtain ⟨z1, hz1⟩ : ∃ z, (us[j].2.1 : Int) = z := ⟨_, rfl⟩
        obtain ⟨z2, hz2⟩ : ∃ z, (us[j].2.2.1.toNat : Int) = z := ⟨_, rfl⟩
        obtain ⟨z3, hz3⟩ : ∃ z, (bs[j].2.1 : Int) = z := ⟨_, rfl⟩
        obtain ⟨z4, hz4⟩ : ∃ z, (bs[j].2.2.1.toNat : Int) = z := ⟨_, rfl⟩
        obtain ⟨m1, hm1⟩ : ∃ z, us[j].1.length = z := ⟨_, rfl⟩
        obtain ⟨m2, hm2⟩ : ∃ z, us[j].2.2.2.length = z := ⟨_, rfl⟩
        obtain ⟨m3, hm3⟩ : ∃ z, bs[j].1.length = z := ⟨_, rfl⟩
        obtain ⟨m4, hm4⟩ : ∃ z, bs[j].2.2.2.length = z := ⟨_, rfl⟩
        rw [hz1] at c1 hsm
        rw [hz2] at c2 hsm
        rw [hz3] at d1 hsm
        rw [hz4] at d2 hsm
        rw [hm1] at c0 hsm
        rw [hm2] at c3 hsm
        rw [hm3] at d0 hsm
        rw [hm4] at d3 hsm
        obtain ⟨q, hq⟩ : ∃ q, decide (us[j] = bs[j]) = q := ⟨_, rfl⟩
        have HQ : Hid (decide (us[j] = bs[j]) = q) := hq
        rw [hq] at hsm
        have c0' := c0; have c1' := c1; have c2' := c2; have c3' := c3; have d0' := d0; have d1' := d1; have d2' := d2; have d3' := d3
        clear h3 h4 rx1 ry1 rx2 ry2 hx1 hy1 hx2 hy2 hz1 hz2 hz3 hz4 hm1 hm2 hm3 hm4 hq
        cases q with
        | true =>
          go_wp2_with fail
          go_region_held3 (fun w' => (w'.cell? ⟨p1, o1 + j * 4, none⟩ = some (.slice t1 m1 t2) ∧ w'.cell? ⟨p1, o1 + j * 4 + 1, none⟩ = some (.int .u64 z1) ∧ w'.cell? ⟨p1, o1 + j * 4 + 2, none⟩ = some (.int .u8 z2) ∧ w'.cell? ⟨p1, o1 + j * 4 + 3, none⟩ = some (.slice t3 m2 t4)) ∧ (w'.cell? ⟨p2, o2 + j * 4, none⟩ = some (.slice t5 m3 t6) ∧ w'.cell? ⟨p2, o2 + j * 4 + 1, none⟩ = some (.int .u64 z3) ∧ w'.cell? ⟨p2, o2 + j * 4 + 2, none⟩ = some (.int .u8 z4) ∧ w'.cell? ⟨p2, o2 + j * 4 + 3, none⟩ = some (.slice t7 m4 t8)))
            (first | with_reducible exact ⟨⟨e0, e1, e2, e3⟩, ⟨e4, e5, e6, e7⟩⟩ | exact ⟨⟨c0', c1', c2', c3'⟩, ⟨d0', d1', d2', d3'⟩⟩)
            (first
              | (go_at_call 40; refine hsm.mono ?_; rintro e w5 ⟨rfl, hb5⟩
                 have HB5 : Hid (Below w.heap.size w w5) := bsplit HB.out.drew hb5
                 have b1 := World.block_lt_of_cell? wr _ c0'
                 have b2 := World.block_lt_of_cell? wr _ d0'
                 have e0 := (hb5.cell (p := ⟨p1, o1 + j * 4, none⟩) b1).trans c0'
                 have e1 := (hb5.cell (p := ⟨p1, o1 + j * 4 + 1, none⟩) b1).trans c1'
                 have e2 := (hb5.cell (p := ⟨p1, o1 + j * 4 + 2, none⟩) b1).trans c2'
                 have e3 := (hb5.cell (p := ⟨p1, o1 + j * 4 + 3, none⟩) b1).trans c3'
                 have e4 := (hb5.cell (p := ⟨p2, o2 + j * 4, none⟩) b2).trans d0'
                 have e5 := (hb5.cell (p := ⟨p2, o2 + j * 4 + 1, none⟩) b2).trans d1'
                 have e6 := (hb5.cell (p := ⟨p2, o2 + j * 4 + 2, none⟩) b2).trans d2'
                 have e7 := (hb5.cell (p := ⟨p2, o2 + j * 4 + 3, none⟩) b2).trans d3')
              | fail)
          go_wp2_with fail
          go_roundg (gk - 1)
          case measure => exact q1
          case rel => exact ⟨j + 1, q2, by go_num, fun i hi => by
            by_cases e : i = j
            · subst e; rw [List.getElem?_eq_getElem l1, List.getElem?_eq_getElem l2, of_decide_eq_true HQ.out]
            · exact HS.out i (by omega), HB5⟩
        | false =>
          go_wp2_with fail
          go_region_held3 (fun w' => (w'.cell? ⟨p1, o1 + j * 4, none⟩ = some (.slice t1 m1 t2) ∧ w'.cell? ⟨p1, o1 + j * 4 + 1, none⟩ = some (.int .u64 z1) ∧ w'.cell? ⟨p1, o1 + j * 4 + 2, none⟩ = some (.int .u8 z2) ∧ w'.cell? ⟨p1, o1 + j * 4 + 3, none⟩ = some (.slice t3 m2 t4)) ∧ (w'.cell? ⟨p2, o2 + j * 4, none⟩ = some (.slice t5 m3 t6) ∧ w'.cell? ⟨p2, o2 + j * 4 + 1, none⟩ = some (.int .u64 z3) ∧ w'.cell? ⟨p2, o2 + j * 4 + 2, none⟩ = some (.int .u8 z4) ∧ w'.cell? ⟨p2, o2 + j * 4 + 3, none⟩ = some (.slice t7 m4 t8)))
            (first | with_reducible exact ⟨⟨e0, e1, e2, e3⟩, ⟨e4, e5, e6, e7⟩⟩ | exact ⟨⟨c0', c1', c2', c3'⟩, ⟨d0', d1', d2', d3'⟩⟩)
            (first
              | (go_at_call 40; refine hsm.mono ?_; rintro e w5 ⟨rfl, hb5⟩
                 have HB5 : Hid (Below w.heap.size w w5) := bsplit HB.out.drew hb5
                 have b1 := World.block_lt_of_cell? wr _ c0'
                 have b2 := World.block_lt_of_cell? wr _ d0'
                 have e0 := (hb5.cell (p := ⟨p1, o1 + j * 4, none⟩) b1).trans c0'
                 have e1 := (hb5.cell (p := ⟨p1, o1 + j * 4 + 1, none⟩) b1).trans c1'
                 have e2 := (hb5.cell (p := ⟨p1, o1 + j * 4 + 2, none⟩) b1).trans c2'
                 have e3 := (hb5.cell (p := ⟨p1, o1 + j * 4 + 3, none⟩) b1).trans c3'
                 have e4 := (hb5.cell (p := ⟨p2, o2 + j * 4, none⟩) b2).trans d0'
                 have e5 := (hb5.cell (p := ⟨p2, o2 + j * 4 + 1, none⟩) b2).trans d1'
                 have e6 := (hb5.cell (p := ⟨p2, o2 + j * 4 + 2, none⟩) b2).trans d2'
                 have e7 := (hb5.cell (p := ⟨p2, o2 + j * 4 + 3, none⟩) b2).trans d3')
              | fail)
          have HF : Hid (r = false) := by
            show r = false
            cases hrr : r with
            | false => rfl
            | true =>
              have h9 := HR.out.2 hrr
              subst h9
              exact absurd rfl (of_decide_eq_false HQ.out)
          go_wp2
          go_ret
          exact ⟨ret_bool (by rw [HF.out]), HB5.out⟩
      · have hjN : j = N := by omega
        subst hjN
        have HT : Hid (r = true) := HR.out.1 (List.ext_getElem? (fun i => by
          by_cases hi : i < j
          · exact HS.out i hi
          · rw [List.getElem?_eq_none (by rw [HNM.out.1]; omega), List.getElem?_eq_none (by rw [HNM.out.2]; omega)]))
        go_wp2
        go_ret
        exact ⟨ret_bool (by rw [HT.out]), HB.out⟩
  · have hnmI : ¬ (N : Int) = (M : Int) := by omega
    have HF : Hid (r = false) := by
      show r = false
      cases hrr : r with
      | false => rfl
      | true =>
        have h9 := HR.out.2 hrr
        exact absurd (by rw [← HNM.out.1, ← HNM.out.2, h9]) hnm
    go_wp2
    go_ret
    exact ⟨ret_bool (by rw [HF.out]), Below.refl _ _⟩

end Go.Proofs.Ytdlefbbpgbjibaa

/- The document's answer for tomb: Check, Covers, Cover. -/
namespace Go.Proofs.Ytdlefbbpgbjibaa
set_option maxRecDepth 20000
open Go.RowKit
set_option linter.unusedVariables false
set_option linter.unusedSimpArgs false

set_option maxHeartbeats 2000000 in
theorem rtcovers_any (w : World) (x y kv : Value) (l m k : List UInt8) (s : Int) (r : Bool) (hx : Rd w x l) (hy : Rd w y m) (hk : Rd w kv k) (hr : covB l m k = r) :
    Calls Try.prog 67 #[spV x y s, kv] w fun e w' => e = .returned (.bool r) ∧ Below w.heap.size w w' := by
  obtain ⟨xa, xc, rfl⟩ := hx.len
  obtain ⟨ya, yc, rfl⟩ := hy.len
  obtain ⟨ka, kc, rfl⟩ := hk.len
  have hb0 := below_box w #[.slice xa l.length xc, .slice ya m.length yc, .int .u64 s] 46
  have HB0 : Hid (Below w.heap.size w (w.alloc (.cells #[.slice xa l.length xc, .slice ya m.length yc, .int .u64 s] 46))) := hb0
  obtain ⟨r1, hr1⟩ : ∃ r, decide (Lib.compareBytes k l < 0) = r := ⟨_, rfl⟩
  obtain ⟨r2, hr2⟩ : ∃ r, decide (Lib.compareBytes k m < 0) = r := ⟨_, rfl⟩
  have HC : Hid (r = (!r1 && r2)) := by show r = _; rw [← hr, ← hr1, ← hr2]; rfl
  have e1 := refless_any (w.alloc (.cells #[.slice xa l.length xc, .slice ya m.length yc, .int .u64 s] 46)) _ _ k l r1 (hk.below hb0 (Nat.le_refl _)) (hx.below hb0 (Nat.le_refl _)) hr1
  have e2 := refless_any (w.alloc (.cells #[.slice xa l.length xc, .slice ya m.length yc, .int .u64 s] 46)) _ _ k m r2 (hk.below hb0 (Nat.le_refl _)) (hy.below hb0 (Nat.le_refl _)) hr2
  obtain ⟨c0, c1, c2, _, _, _⟩ := box_new w (.slice xa l.length xc) (.slice ya m.length yc) (.int .u64 s) 46
  clear hr hr1 hr2 hx hy hk hb0
  go_enter Try.func67, Try.ntmps67
  go_wp2_with fail
  refine e1.mono ?_
  rintro o w1 ⟨rfl, rfl⟩
  cases r1
  · go_wp2_with fail
    refine e2.mono ?_
    rintro o w1 ⟨rfl, rfl⟩
    go_wp2
    go_ret
    exact ⟨ret_bool (by rw [HC.out]; simp), HB0.out⟩
  · go_wp2
    go_ret
    exact ⟨ret_bool (by rw [HC.out]; rfl), HB0.out⟩

set_option maxHeartbeats 4000000 in
theorem rtcover_any (w : World) (v : Value) (ss : List SpB) (kv : Value) (k : List UInt8) (seq : Int) (hv : RdS w v ss) (hk : Rd w kv k) :
    Calls Try.prog 49 #[v, kv, .int .u64 seq] w fun e w' => e = .returned (.int .u64 (covN ss k seq : Int)) ∧ Below w.heap.size w w' := by
  obtain ⟨ka, kc, rfl⟩ := hk.len
  obtain ⟨kl, hkl⟩ : ∃ z, k.length = z := ⟨_, rfl⟩
  rw [hkl] at hk ⊢
  have HK : Hid (Rd w (.slice ka kl kc) k) := hk
  have HV : Hid (RdS w v ss) := hv
  obtain ⟨ao, cap, rfl, h1, h2, _⟩ := hv
  unfold maxLen at h2
  obtain ⟨N, hN⟩ : ∃ N, ss.length = N := ⟨_, rfl⟩
  rw [hN] at h1 HV ⊢
  have HN : Hid (ss.length = N) := hN
  clear hN hk hkl
  go_enter Try.func49, Try.ntmps49
  go_wp2_with fail
  go_loopg [12, 7] N (fun gk iv mv wr => ∃ j m : Nat, gk + j = N ∧ iv = .int .i64 (j : Int) ∧ mv = .int .u64 (m : Int) ∧ Hid (m = covN (ss.take j) k seq) ∧ Hid (Below w.heap.size w wr))
  case atStart => exact ⟨0, 0, by omega, rfl, rfl, rfl, Below.refl _ _⟩
  case round =>
    obtain ⟨j, m, hj, rfl, rfl, HS, HB⟩ := hrel
    by_cases hlt : j < N
    · have hlt2 : j < ss.length := by rw [HN.out]; exact hlt
      obtain ⟨_, _, e, _, _, h3⟩ := rdS_below HV.out HB.out (Nat.le_refl _)
      rw [HN.out] at e
      cases e
      obtain ⟨b, off, rfl, xv, yv, c0, c1, c2, rx, ry⟩ := h3 j hlt2
      obtain ⟨x1, x2, ex⟩ := rx.len
      obtain ⟨y1, y2, ey⟩ := ry.len
      subst ex ey
      obtain ⟨⟨sl, sm, sq⟩, ho⟩ : ∃ o, ss[j] = o := ⟨_, rfl⟩
      rw [ho] at c0 c1 c2 rx ry
      obtain ⟨q1, q2⟩ := gk_nxt hj hlt
      simp only at c0 c1 c2 rx ry
      obtain ⟨nl, hnl⟩ : ∃ nl, sl.length = nl := ⟨_, rfl⟩
      obtain ⟨ml, hml⟩ : ∃ ml, sm.length = ml := ⟨_, rfl⟩
      rw [hnl] at c0 rx
      rw [hml] at c1 ry
      have hb0 := below_box wr #[.slice x1 nl x2, .slice y1 ml y2, .int .u64 (sq : Int)] 46
      have HB0 : Hid (Below w.heap.size w (wr.alloc (.cells #[.slice x1 nl x2, .slice y1 ml y2, .int .u64 (sq : Int)] 46))) := bsplit HB.out hb0
      have BX := box_new wr (.slice x1 nl x2) (.slice y1 ml y2) (.int .u64 (sq : Int)) 46
      obtain ⟨r, hr⟩ : ∃ r, covB sl sm k = r := ⟨_, rfl⟩
      have hcv := rtcovers_any (wr.alloc (.cells #[.slice x1 nl x2, .slice y1 ml y2, .int .u64 (sq : Int)] 46)) (.slice x1 nl x2) (.slice y1 ml y2) (.slice ka kl kc) sl sm k (sq : Int) r (rx.below hb0 (Nat.le_refl _)) (ry.below hb0 (Nat.le_refl _)) ((HK.out.below HB.out (Nat.le_refl _)).below hb0 (Nat.le_refl _)) hr
      have HX : Hid (covN (ss.take (j + 1)) k seq = if (sq : Int) ≤ seq ∧ r = true then max m sq else m) := by
        show _ = _
        rw [covN_next ss k seq j hlt2, ho, ← HS.out, ← hr]
        rfl
      have BX' := BX
      obtain ⟨z0, z1, z2, _, _, _⟩ := BX'
      clear ho hb0 h3 rx ry hnl hml hr
      by_cases hle : (sq : Int) ≤ seq
      · by_cases hgt : (m : Int) < (sq : Int)
        · have hmx : max m sq = sq := by omega
          rw [hmx] at HX
          go_wp2_with fail
          refine hcv.mono ?_
          rintro e w2 ⟨rfl, hb2⟩
          have HB2 : Hid (Below w.heap.size w w2) := bsplit HB0.out hb2
          clear z0 z1 z2
          obtain ⟨z0, z1, z2, _, _, _⟩ := BX.below hb2 (Nat.le_refl _)
          clear hcv hb2 BX hmx
          cases r
          · go_wp2_with fail
            go_roundg (gk - 1)
            case measure => exact q1
            case rel => exact ⟨j + 1, m, q2, by go_num, rfl, by show _ = _; rw [HX.out, if_neg (by simp)], HB2⟩
          · go_wp2_with fail
            go_roundg (gk - 1)
            case measure => exact q1
            case rel => exact ⟨j + 1, sq, q2, by go_num, rfl, by show _ = _; rw [HX.out, if_pos (by simp [hle])], HB2⟩
        · have hmx : max m sq = m := by omega
          rw [hmx] at HX
          go_wp2_with fail
          refine hcv.mono ?_
          rintro e w2 ⟨rfl, hb2⟩
          have HB2 : Hid (Below w.heap.size w w2) := bsplit HB0.out hb2
          clear z0 z1 z2
          obtain ⟨z0, z1, z2, _, _, _⟩ := BX.below hb2 (Nat.le_refl _)
          clear hcv hb2 BX hmx
          cases r
          all_goals
            go_wp2_with fail
            go_roundg (gk - 1)
            case measure => exact q1
            case rel => exact ⟨j + 1, m, q2, by go_num, rfl, by show _ = _; rw [HX.out, ite_self], HB2⟩
      · go_wp2_with fail
        refine hcv.mono ?_
        rintro e w2 ⟨rfl, hb2⟩
        have HB2 : Hid (Below w.heap.size w w2) := bsplit HB0.out hb2
        clear z0 z1 z2
        obtain ⟨z0, z1, z2, _, _, _⟩ := BX.below hb2 (Nat.le_refl _)
        clear hcv hb2 BX
        cases r
        all_goals
          go_wp2_with fail
          go_roundg (gk - 1)
          case measure => exact q1
          case rel => exact ⟨j + 1, m, q2, by go_num, rfl, by show _ = _; rw [HX.out, if_neg (fun h => by have := h.1; omega)], HB2⟩
    · have hjN : j = N := by omega
      subst hjN
      go_wp2_with fail
      go_wp2
      go_ret
      exact ⟨ret_int (by rw [HS.out, ← HN.out, List.take_length]), HB.out⟩

end Go.Proofs.Ytdlefbbpgbjibaa

/- bartizanref09.Same. -/
namespace Go.Proofs.Ytdlefbbpgbjibaa
open Go.RowKit
set_option linter.unusedVariables false
set_option linter.unusedSimpArgs false

theorem sameq9 (w : World) (a b : Value) (l l' : List UInt8) (x : Bool) (ha : Rd w a l) (hb : Rd w b l') (hx : (l == l') = x) :
    Calls Try.prog 24 #[a, b] w fun e w' => e = .returned (.bool x) ∧ ∃ n, w' = w.drewN n :=
  (same_b w a b l l' x ha hb hx).mono (fun e w' h => ⟨h.1, 0, h.2⟩)

theorem retB9 {a b : Bool} (h : a = b) : Ending.returned (.bool a) = .returned (.bool b) := by rw [h]

set_option maxHeartbeats 16000000 in
set_option maxRecDepth 20000 in
theorem samesp_any (w : World) (va vb : Value) (os ps : List SpB) (r : Bool) (ha : RdS w va os) (hb : RdS w vb ps) (hr : os = ps ↔ r = true) :
    Calls Try.prog 18 #[va, vb] w fun e w' => e = .returned (.bool r) ∧ ∃ n, w' = w.drewN n := by
  obtain ⟨ao, ac, rfl, h1, h2, h3⟩ := ha
  obtain ⟨bo, bc, rfl, g1, g2, g3⟩ := hb
  unfold maxLen at h2 g2
  have H3 : Hid _ := h3
  have G3 : Hid _ := g3
  have HR : Hid _ := hr
  clear h3 g3 hr
  by_cases hl : os.length = ps.length
  · have HL : Hid _ := hl
    obtain ⟨n, hn⟩ : ∃ n, os.length = n := ⟨_, rfl⟩
    rw [hn] at hl h1 ⊢
    rw [← hl] at g1 ⊢
    have HN : Hid _ := hn
    clear hn hl
    go_enter Try.func18, Try.ntmps18
    go_wp2_with fail
    go_loopg [13] n (fun gk iv wr => ∃ j m : Nat, gk + j = n ∧ iv = .int .i64 (j : Int) ∧ wr = w.drewN m ∧ os.take j = ps.take j)
    case atStart => exact ⟨0, 0, rfl, rfl, rfl, by simp⟩
    case round =>
      obtain ⟨j, m, hj, rfl, hwr, ht⟩ := hrel
      have HW : Hid (∀ n, wr.drewN n = w.drewN (m + n)) := by intro n; rw [hwr]; exact World.drewN_drewN _ _ _
      have HW0 : Hid _ := hwr
      have HT : Hid _ := ht
      clear ht
      by_cases hlt : j < n
      · have hlo : j < os.length := by rw [HN.out]; exact hlt
        have hlp : j < ps.length := by rw [← HL.out, HN.out]; exact hlt
        obtain ⟨b, off, rfl, xv, yv, c0, c1, c2, rx, ry⟩ := H3.out j hlo
        obtain ⟨b', off', rfl, xv', yv', d0, d1, d2, rx', ry'⟩ := G3.out j hlp
        obtain ⟨⟨ol, oo, osq⟩, ho⟩ : ∃ o, os[j] = o := ⟨_, rfl⟩
        obtain ⟨⟨pl, po, psq⟩, hp⟩ : ∃ o, ps[j] = o := ⟨_, rfl⟩
        rw [ho] at c2 rx ry
        rw [hp] at d2 rx' ry'
        simp only at c2 rx ry d2 rx' ry'
        have e0 : ∀ p, w.cell? p = wr.cell? p := by intro p; rw [hwr]; rfl
        have e1 : ∀ v l, Rd w v l → Rd wr v l := by rw [hwr]; exact fun _ _ h => h
        rw [e0] at c0 c1 c2 d0 d1 d2
        replace rx := e1 _ _ rx
        replace rx' := e1 _ _ rx'
        replace ry := e1 _ _ ry
        replace ry' := e1 _ _ ry'
        clear e0 e1
        clear hwr
        have HO : Hid (os[j] = (ol, oo, osq)) := ho
        have HP : Hid (ps[j] = (pl, po, psq)) := hp
        clear ho hp
        obtain ⟨q, hq⟩ : ∃ q, (ol == pl) = q := ⟨_, rfl⟩
        have HQ : Hid _ := hq
        obtain ⟨q2, hq2⟩ : ∃ q2, (oo == po) = q2 := ⟨_, rfl⟩
        have HQ2 : Hid _ := hq2
        clear hq hq2
        cases q
        · have hno : Hid (r = false) := by
            show _ = _
            rw [← Bool.not_eq_true]
            intro hrt
            have heq := HR.out.2 hrt
            subst heq
            have e := HO.out.symm.trans HP.out
            simp only [Prod.mk.injEq] at e
            have := HQ.out
            rw [e.1] at this
            simp at this
          go_wp2_with fail
          go_quiet (first
            | (go_at_call 24; refine Calls.quiet_of (sameq9 _ _ _ ol pl false (by exact rx) (by exact rx') HQ.out)))
          go_wp2
          go_ret
          exact ⟨retB9 (by rw [hno.out]), _, HW.out _⟩
        · cases q2
          · have hno : Hid (r = false) := by
              show _ = _
              rw [← Bool.not_eq_true]
              intro hrt
              have heq := HR.out.2 hrt
              subst heq
              have e := HO.out.symm.trans HP.out
              simp only [Prod.mk.injEq] at e
              have := HQ2.out
              rw [e.2.1] at this
              simp at this
            go_wp2_with fail
            go_quiet (first
              | (go_at_call 24; refine Calls.quiet_of (sameq9 _ _ _ ol pl true (by exact rx) (by exact rx') HQ.out))
              | (go_at_call 24; refine Calls.quiet_of (sameq9 _ _ _ oo po false (by exact ry) (by exact ry') HQ2.out)))
            go_wp2
            go_ret
            exact ⟨retB9 (by rw [hno.out]), _, HW.out _⟩
          · by_cases hs : osq = psq
            · subst hs
              have hyes : Hid (os.take (j + 1) = ps.take (j + 1)) := by
                show _ = _
                rw [List.take_succ_eq_append_getElem hlo, List.take_succ_eq_append_getElem hlp, HT.out, HO.out, HP.out, eq_of_beq HQ.out, eq_of_beq HQ2.out]
              go_wp2_with fail
              go_quiet (first
                | (go_at_call 24; refine Calls.quiet_of (sameq9 _ _ _ ol pl true (by exact rx) (by exact rx') HQ.out))
                | (go_at_call 24; refine Calls.quiet_of (sameq9 _ _ _ oo po true (by exact ry) (by exact ry') HQ2.out)))
              go_wp2
              go_roundg (gk - 1)
              case measure => omega
              case rel => exact ⟨j + 1, _, by omega, by go_num, HW.out _, hyes.out⟩
            · have hsI : ¬ (osq : Int) = (psq : Int) := by omega
              have hsq : decide ((osq : Int) = (psq : Int)) = false := decide_eq_false hsI
              have hsq2 : ((osq : Int) != (psq : Int)) = true := by simp [hsI]
              have hno : Hid (r = false) := by
                show _ = _
                rw [← Bool.not_eq_true]
                intro hrt
                have heq := HR.out.2 hrt
                subst heq
                have e := HO.out.symm.trans HP.out
                simp only [Prod.mk.injEq] at e
                exact hs e.2.2
              go_wp2_with fail
              go_quiet (first
                | (go_at_call 24; refine Calls.quiet_of (sameq9 _ _ _ ol pl true (by exact rx) (by exact rx') HQ.out))
                | (go_at_call 24; refine Calls.quiet_of (sameq9 _ _ _ oo po true (by exact ry) (by exact ry') HQ2.out)))
              go_wp2
              go_ret
              exact ⟨retB9 (by rw [hno.out]), _, HW.out _⟩
      · obtain rfl : j = n := by omega
        have hyes : Hid (r = true) := by
          show _ = _
          apply HR.out.1
          have e := HT.out
          rw [List.take_of_length_le (by rw [HN.out]; omega), List.take_of_length_le (by rw [← HL.out, HN.out]; omega)] at e
          exact e
        clear hwr
        go_wp2
        go_ret
        exact ⟨retB9 (by rw [hyes.out]), _, HW0.out⟩
  · have hno : Hid (r = false) := by
      show _ = _
      rw [← Bool.not_eq_true]
      intro hrt
      exact hl (by rw [HR.out.2 hrt])
    obtain ⟨n, hn⟩ : ∃ n, os.length = n := ⟨_, rfl⟩
    obtain ⟨m, hm⟩ : ∃ n, ps.length = n := ⟨_, rfl⟩
    rw [hn, hm] at hl ⊢
    have hI : ¬ (n : Int) = (m : Int) := by omega
    have hbq : ((n : Int) == (m : Int)) = false := by simpa using hI
    clear hn hm hl h1 h2 g1 g2
    go_enter Try.func18, Try.ntmps18
    go_wp2
    go_ret
    exact ⟨retB9 (by rw [hno.out]), 0, rfl⟩

end Go.Proofs.Ytdlefbbpgbjibaa

/- bartizanref04's Few. -/
namespace Go.Proofs.Ytdlefbbpgbjibaa
open Go.RowKit

theorem few_take {n : Nat} {os : List OpB} {j : Nat} (h : j < os.length) (hn : j < n) : fewO n (os.take (j + 1)) = fewO n (os.take j) ++ [cutOp os[j]] := by
  unfold fewO
  rw [List.take_take, List.take_take, Nat.min_eq_right (by omega), Nat.min_eq_right (by omega), List.take_succ_eq_append_getElem h, List.map_append]
  rfl

theorem few_stay {n : Nat} {os : List OpB} {j : Nat} (hn : ¬ j < n) : fewO n (os.take (j + 1)) = fewO n (os.take j) := by
  unfold fewO
  rw [List.take_take, List.take_take, Nat.min_eq_left (by omega), Nat.min_eq_left (by omega)]

set_option maxHeartbeats 4000000 in
theorem fewop_any (w : World) (v : Value) (os : List OpB) (n : Nat) (hv : ArgO w v os) (hn : n ≤ 1000) :
    Calls Try.prog 28 #[v, .int .i64 (n : Int)] w fun e w' => ∃ x, e = .returned x ∧ OwnO w.heap.size w' x (fewO n os) ∧ Below w.heap.size w w' := by
  obtain ⟨i0, hi, hz0, hz1, hz2⟩ := info_parts infoOp
  have hv0 := hv
  obtain ⟨ao, cap, rfl, h1, h2, h3⟩ := hv
  unfold maxLen at h2
  have H3 : Hid _ := hv0
  clear hv0 h3
  go_enter Try.func28, Try.ntmps28
  go_wp2_with fail
  go_loopg [5, 10] os.length (fun gk pv iv wr => ∃ j n' c' : Nat, ∃ a' : Option Addr, gk + j = os.length ∧ iv = .int .i64 (j : Int) ∧ pv = .slice a' n' c' ∧ OwnO w.heap.size wr pv (fewO n (os.take j)) ∧ Below w.heap.size w wr)
  case atStart => exact ⟨0, 0, 0, none, rfl, rfl, rfl, by rw [List.take_zero, show fewO n [] = [] by simp [fewO]]; exact OwnO.nil _ _, Below.refl _ _⟩
  case round =>
    obtain ⟨j, n', c', a', hj, rfl, rfl, hO, hB⟩ := hrel
    have hrd : ArgO wr _ os := LsO.belowA (show ArgO w _ os from H3.out) hB (Nat.le_refl _)
    by_cases hlt : j < os.length
    · obtain ⟨_, _, e, _, _, h3⟩ := hrd
      cases e
      obtain ⟨b, off, rfl, xv, yv, c0, c1, c2, rx, ry⟩ := h3 j hlt
      obtain ⟨x1, x2, ex⟩ := Arg.shape rx
      obtain ⟨y1, y2, ey⟩ := Arg.shape ry
      subst ex ey
      obtain ⟨⟨ok, ol, om⟩, ho⟩ : ∃ o, os[j] = o := ⟨_, rfl⟩
      rw [ho] at c0 c1 c2 rx ry
      obtain ⟨ck, hck⟩ : ∃ ck, ol.take 80 = ck := ⟨_, rfl⟩
      obtain ⟨cv, hcv⟩ : ∃ cv, om.take 600 = cv := ⟨_, rfl⟩
      have HCK : Hid _ := hck
      have HCV : Hid _ := hcv
      have HR : Hid (j < n → fewO n (os.take (j + 1)) = fewO n (os.take j) ++ [(ok, ck, cv)]) := by intro h; rw [few_take hlt h, ho, ← hck, ← hcv]; rfl
      have hnl : (fewO n (os.take j)).length = min n j := by unfold fewO; rw [List.length_map, List.length_take, List.length_take, Nat.min_eq_left (show j ≤ os.length by omega)]
      clear hck hcv
      clear h3 ho
      have hlow := hB.size
      have hb0 := below_box wr #[.int .u8 (ok.toNat : Int), .slice x1 ol.length x2, .slice y1 om.length y2] 63
      have bx := (box_new wr (.int .u8 (ok.toNat : Int)) (.slice x1 ol.length x2) (.slice y1 om.length y2) 63).drew
      have rx0 := arg_drew (rx.below hb0 (Nat.le_refl _))
      have ry0 := arg_drew (ry.below hb0 (Nat.le_refl _))
      have hO0 := (hO.below hb0 (Nat.le_refl _)).drew
      have hB9 := hB.alloc hB.size (.cells #[.int .u8 (ok.toNat : Int), .slice x1 ol.length x2, .slice y1 om.length y2] 63)
      have hB0 := (hB.alloc hB.size (.cells #[.int .u8 (ok.toNat : Int), .slice x1 ol.length x2, .slice y1 om.length y2] 63)).drew
      have hne : some wr.heap.size ≠ (Value.slice a' n' c').ownBlock := by
        obtain ⟨cs, hrow, _⟩ := hO
        intro e
        have := (hrow.lt _ e.symm).2
        omega
      have hlen : n' = (fewO n (os.take j)).length := by
        obtain ⟨cs, hrow, _⟩ := hO
        rcases hrow.2 with ⟨e, e2⟩ | ⟨g, cap', cur, e, _⟩
        · cases e; exact e2.symm
        · cases e; rfl
      have hmm : n' = min n j := by omega
      clear rx ry hO hB hb0
      have htl : (fewO n (os.take j)).length = n' := hlen.symm
      have hnb : n' ≤ 1000 := by omega
      clear hlen hnl hmm

      by_cases hjn : j < n
      · go_wp2_with fail
        go_region_held3 (fun w' => w'.cell? ⟨wr.heap.size, 0, none⟩ = some (.int .u8 (ok.toNat : Int)) ∧ w'.cell? ⟨wr.heap.size, 1, none⟩ = some (.slice x1 ol.length x2) ∧ w'.cell? ⟨wr.heap.size, 2, none⟩ = some (.slice y1 om.length y2))
          (first | exact ⟨b4.c0, b4.c1, b4.c2⟩ | exact ⟨be.c0, be.c1, be.c2⟩ | exact ⟨by2.c0, by2.c1, by2.c2⟩ | exact ⟨bx2.c0, bx2.c1, bx2.c2⟩ | exact ⟨bx.c0, bx.c1, bx.c2⟩)
          (first
            | (go_at_call_of 21 (Value.slice x1 ol.length x2); refine (cut_any _ _ ol 80 rx0 (by omega)).mono ?_; rintro e wx ⟨x, rfl, ox, hbx⟩; rw [HCK.out] at ox; obtain ⟨gx, kx, hx⟩ := ox.shape; subst hx; have bx2 := bx.below hbx (Nat.le_refl _))
            | (go_at_call_of 21 (Value.slice y1 om.length y2); refine (cut_any _ _ om 600 (ry0.below hbx (Nat.le_refl _)) (by omega)).mono ?_; rintro e wy ⟨y, rfl, oy, hby⟩; rw [HCV.out] at oy; obtain ⟨gy, ky, hy⟩ := oy.shape; subst hy; have by2 := bx2.below hby (Nat.le_refl _); have be := by2.alloc (.cells #[.int .u8 (ok.toNat : Int), .slice (some ⟨gx, 0, none⟩) ck.length kx, .slice (some ⟨gy, 0, none⟩) cv.length ky] 63))
            | (have hbe := below_box wy #[.int .u8 (ok.toNat : Int), .slice (some ⟨gx, 0, none⟩) ck.length kx, .slice (some ⟨gy, 0, none⟩) cv.length ky] 63
               have hOe := ((hO0.below hbx (Nat.le_refl _)).below hby (Nat.le_refl _)).below hbe (Nat.le_refl _)
               have oxe := ((ox.below hby (Nat.le_refl _)).below hbe (Nat.le_refl _)).mono (C := w.heap.size) (by simp; omega)
               have oye := (oy.below hbe (Nat.le_refl _)).mono (C := w.heap.size) (by have := hbx.size; simp at this; omega)
               have hBx := hB0.trans (hbx.mono hB0.size)
               have hBy := hBx.trans (hby.mono hBx.size)
               have hBe := hBy.trans (hbe.mono hBy.size)
               obtain ⟨cs, hrow, hel⟩ := hOe
               have hsz : w.heap.size ≤ wy.heap.size := hBy.size
               refine step_append_lies _ rfl (.tmp 18) (.tmp 28) 29 rfl w.heap.size 63 i0 (.agg #[.int .u8 0, .slice none 0 0, .slice none 0 0]) 3 56 Try.underlying29 hi hz0 hz1 hz2 rfl (by decide) (.slice a' n' c') (fewO n (os.take j)).length cs rfl hrow ⟨wy.heap.size, 0, none⟩ 1 1 [.int .u8 (ok.toNat : Int), .slice (some ⟨gx, 0, none⟩) ck.length kx, .slice (some ⟨gy, 0, none⟩) cv.length ky] rfl rfl (laid3 _ _ _ _ _) (one3 _ _ _ _ _ _ _) (by decide) (by simp only [maxLen]; omega) (by omega) (by simp; omega) _ rfl ?_
               intro g4 c4 w4 hown hgrow hat hlt4
               have b4 := be.grown hgrow hne
               have hpush := own_push (ok, ck, cv) hrow hel (.inr oxe) (.inr oye) hown hgrow
               rw [htl] at hpush
               have hB4 := hBe.grown hgrow (Nat.le_trans hsz (by simp)) (fun k' e => (hrow.lt k' e).1))
            | fail)
        all_goals
          clear hO0 hB0 bx rx0 ry0 hB9
          go_wp2
          go_roundg (gk - 1)
          case measure => omega
          case rel => exact ⟨j + 1, _, c4, _, by omega, by go_num, rfl, by rw [HR.out hjn]; exact hpush, hB4⟩
      · have HN : Hid (fewO n (os.take (j + 1)) = fewO n (os.take j)) := few_stay hjn
        go_wp2
        go_roundg (gk - 1)
        case measure => omega
        case rel => exact ⟨j + 1, n', c', a', by omega, by go_num, rfl, by rw [HN.out]; exact hO0, hB9⟩
    · obtain rfl : j = os.length := by omega
      clear hrd
      go_wp2
      go_ret
      exact ⟨_, rfl, by rw [List.take_length] at hO; exact hO, hB⟩

end Go.Proofs.Ytdlefbbpgbjibaa

/- For MemoBatches: heights, a batch's ops one by one. -/
namespace Go.Proofs.Ytdlefbbpgbjibaa
set_option maxRecDepth 20000
open Go.RowKit
set_option linter.unusedVariables false
set_option linter.unusedSimpArgs false

/-- heights out of bytes -/
def hgt (l : List UInt8) (j : Nat) : List Int := ((l.take j).take 66).map fun x => 1 + ((x.toNat % 8 : Nat) : Int)

theorem hgt_next {l : List UInt8} {j : Nat} (h : j < l.length) (h2 : j < 66) : hgt l (j + 1) = hgt l j ++ [1 + ((l[j].toNat % 8 : Nat) : Int)] := by
  unfold hgt
  rw [List.take_succ_eq_append_getElem h, List.take_append, List.map_append]
  have e1 : (l.take j).length = j := by rw [List.length_take]; omega
  rw [e1, List.take_of_length_le (l := [l[j]]) (by simp; omega)]
  rfl

theorem hgt_stay {l : List UInt8} {j : Nat} (h : j < l.length) (h2 : ¬ j < 66) : hgt l (j + 1) = hgt l j := by
  unfold hgt
  rw [List.take_take, List.take_take, Nat.min_eq_left (by omega), Nat.min_eq_left (by omega)]

theorem hgt_len (l : List UInt8) (j : Nat) : (hgt l j).length ≤ 66 := by
  unfold hgt
  rw [List.length_map, List.length_take]
  omega

/-- a row of heights -/
def RowI (B : Nat) (w : World) (v : Value) (hs : List Int) : Prop := w.ownsRow B 3 1 v hs.length (hs.map fun h => Value.int .i64 h)

theorem RowI.below {B : Nat} {w w' : World} {v : Value} {hs : List Int} (h : RowI B w v hs) (hb : Below w.heap.size w w') : RowI B w' v hs := row_below h hb

/-- it is read, whatever is done elsewhere -/
theorem RowI.rdi {B : Nat} {w : World} {v : Value} {hs : List Int} (h : RowI B w v hs) : ∃ a c, v = .slice a hs.length c ∧ ((a = none ∧ c = 0) ∨ ∃ b off, a = some ⟨b, off, none⟩) ∧ hs.length ≤ c ∧ ∀ (F : Nat → Prop) (W : World), Keeps F w W → (∀ q, B ≤ q → ¬ F q) → RdI W a hs.length hs := by
  have h0 := h
  rcases h.2 with ⟨e, hn⟩ | ⟨g, cap, cur, e, hg, _, h1, h2, _⟩
  · exact ⟨none, 0, by rw [e, hn], .inl ⟨rfl, rfl⟩, by omega, fun F W _ _ => ⟨rfl, fun j hj => absurd hj (by omega)⟩⟩
  · subst e
    refine ⟨_, cap, rfl, .inr ⟨g, 0, rfl⟩, h1, fun F W hk hF => ⟨rfl, fun j hj => ⟨g, 0, rfl, ?_⟩⟩⟩
    rw [Nat.zero_add]
    refine hk.cell (p := ⟨g, j, none⟩) (hF g hg) ?_
    rw [World.ownsRow.cellAt h0 j (by omega)]
    rw [List.getElem?_map, List.getElem?_eq_getElem hj]
    simp [List.getD_eq_getElem?_getD, List.getElem?_eq_getElem hj]

theorem infoI : (Try.prog.info? 3).map (fun i => (i.zero, i.size, i.bytes)) = some (some (.int .i64 0), 1, 8) := by kernel_rfl

theorem laidI1 (w : World) (v0 : Value) (t : TypeId) : ∀ j u, [v0][j]? = some u → (w.alloc (.cells #[v0] t)).cell? ((⟨w.heap.size, 0, none⟩ : Addr).add j) = some u := by
  intro j u hu
  rw [Addr.add_lit, Nat.zero_add]
  have hg : (w.alloc (.cells #[v0] t)).heap[w.heap.size]? = some (.cells #[v0] t) := heap_alloc_new w _
  rw [cell_of_row _ _ j _ _ _ hg]
  simpa using hu

/-- the ops' numbers are right one by one -/
theorem batC_one {fs : List OpB} {o : OpB} {s j : Nat} {last : Int} (hc : chkL fs = 0) (ho : o ∈ fs) (hn : hasN (s : Int) (fs.length : Int) = true) (hj : j < fs.length) (hl : last < ((s + j : Nat) : Int)) : batC [o] ((s + j : Nat) : Int) [1] last = 0 := by
  obtain ⟨_, h2⟩ := chkL_mem hc
  have h3 : chkL [o] = 0 := by
    unfold chkL
    rw [if_neg (by simp)]
    unfold chkOps
    rw [if_pos (h2 o ho)]
    rfl
  unfold hasN at hn
  have h4 := of_decide_eq_true hn
  have h5 : hasN ((s + j : Nat) : Int) (([o].length : Nat) : Int) = true := by
    unfold hasN
    refine decide_eq_true ⟨by omega, by omega, ?_⟩
    simp
    omega
  unfold batC
  rw [if_pos h3, if_pos h5, if_neg (by simp [noHt]), if_neg (by omega)]

theorem batC_zero {os : List OpB} {s : Int} {hs : List Int} {last : Int} (h : batC os s hs last = 0) : chkL os = 0 ∧ hasN s os.length = true ∧ last < s := by
  unfold batC at h
  by_cases h1 : chkL os = 0
  · rw [if_pos h1] at h
    by_cases h2 : hasN s os.length = true
    · rw [if_pos h2] at h
      by_cases h3 : (hs.take os.length).any noHt = true
      · rw [if_pos h3] at h; cases h
      · rw [if_neg h3] at h
        by_cases h4 : s ≤ last
        · rw [if_pos h4] at h; cases h
        · exact ⟨h1, h2, by omega⟩
    · rw [if_neg h2] at h; cases h
  · rw [if_neg h1] at h; exact absurd h h1

theorem verO_lens {fs : List OpB} {s : Nat} (h : chkL fs = 0) : ∀ e ∈ verO fs s, e.1.length ≤ 1000 ∧ e.2.2.2.length ≤ 1000 := by
  intro e he
  obtain ⟨o, ho, e1, e2⟩ := verO_mem he
  obtain ⟨_, h1, h2, h3, _⟩ := chkOp_len ((chkL_mem h).2 o ho)
  rw [e1, e2]
  omega

theorem spnO_lens {fs : List OpB} {s : Nat} (h : chkL fs = 0) : ∀ e ∈ spnO fs s, e.1.length ≤ 1000 ∧ e.2.1.length ≤ 1000 := by
  intro e he
  obtain ⟨o, ho, e1, e2⟩ := spnO_mem he
  obtain ⟨_, h1, h2, h3, _⟩ := chkOp_len ((chkL_mem h).2 o ho)
  rw [e1, e2]
  omega

/-- b, behind j of the ops -/
def BatB (PB : Nat → Prop) (W6 wr : World) (b : Nat) (fs : List OpB) (s j : Nat) : Prop :=
  Keeps PB W6 wr ∧ ∃ LB : List EnB, LB.Perm (verO (fs.take j) s) ∧ MmP (fun q => PB q ∨ W6.heap.size ≤ q) wr b LB (spnO (fs.take j) s) (if j = 0 then 0 else ((s + j - 1 : Nat) : Int))

theorem BatB.next {PB : Nat → Prop} {W6 wr W W' : World} {b : Nat} {fs : List OpB} {s j : Nat} {LB : List EnB} {e : Ending} {last : Int} (h1 : Keeps PB W6 wr) (h2 : LB.Perm (verO (fs.take j) s)) (hj : j < fs.length) (hb : Below wr.heap.size wr W)
    (hq : BatQ (fun q => PB q ∨ W6.heap.size ≤ q) W b LB (spnO (fs.take j) s) last [fs[j]] (s + j) 0 e W') : BatB PB W6 W' b fs s (j + 1) := by
  obtain ⟨_, hk, _, h4⟩ := hq
  obtain ⟨L2, hp, hM⟩ := h4 rfl
  have hjl : (fs.take j).length = j := by rw [List.length_take]; omega
  have htk : fs.take (j + 1) = fs.take j ++ [fs[j]] := List.take_succ_eq_append_getElem hj
  have hk2 : Keeps PB W6 W' := (h1.then (Below.keeps hb (fun _ => False)) (fun i hi => hi.elim)).then hk (fun i hi => hi)
  have hs : W6.heap.size ≤ W.heap.size := Nat.le_trans h1.size hb.size
  refine ⟨hk2, L2, ?_, ?_⟩
  · rw [htk, verO_snoc, hjl]
    have e1 : verO [fs[j]] (s + j) = if fs[j].1 = 3 then [] else [(fs[j].2.1, s + j, fs[j].1, fs[j].2.2)] := by
      by_cases h : fs[j].1 = 3 <;> simp [verO, h]
    rw [← e1]
    exact hp.trans (h2.append_right _)
  · rw [htk, spnO_snoc, hjl]
    have e1 : spnO [fs[j]] (s + j) = if fs[j].1 = 3 then [(fs[j].2.1, fs[j].2.2, s + j)] else [] := by
      by_cases h : fs[j].1 = 3 <;> simp [spnO, h]
    rw [← e1, if_neg (by omega)]
    have h9 := hM.mono (Q := fun q => PB q ∨ W6.heap.size ≤ q) (fun q _ hq => hq.elim id (fun h8 => .inr (Nat.le_trans hs h8)))
    simpa using h9

/-- what came in, by places that are told -/
theorem Arg.lit10 {w : World} {v : Value} {l : List UInt8} (h : Arg w v l) : ∃ a c, v = .slice a l.length c ∧ l.length ≤ c ∧ c ≤ 9223372036854775807 ∧ ∀ j (hj : j < l.length), ∃ b off, a = some ⟨b, off, none⟩ ∧ w.cell? ⟨b, off + j, none⟩ = some (.int .u8 (l[j].toNat : Int)) := by
  rcases h with ⟨rfl, rfl⟩ | ⟨a, cap, rfl, h1, h2, h3⟩
  · exact ⟨none, 0, rfl, by simp, by omega, fun j hj => by simp at hj⟩
  · refine ⟨some a, cap, rfl, h1, by unfold maxLen at h2; omega, fun j hj => ?_⟩
    have hc := h3 j _ (bv_get l j hj)
    have hc0 := h3 0 _ (bv_get l 0 (by omega))
    have hs : a.spot = none := by simpa [Addr.add] using World.cell?_spot hc0
    obtain ⟨b, off, sp⟩ := a
    simp only at hs
    subst hs
    exact ⟨b, off, rfl, by rw [Addr.add_lit] at hc; exact hc⟩

end Go.Proofs.Ytdlefbbpgbjibaa

/- bartizanref10.Do. -/
namespace Go.Proofs.Ytdlefbbpgbjibaa
set_option maxRecDepth 100000
open Go.RowKit
set_option linter.unusedVariables false
set_option linter.unusedSimpArgs false

/-- what the document's Do and Batch leave -/
def R10Post (G : Nat → Prop) (w : World) (x : Nat) (os : List OpB) (ns : List Nat) (ps : List OpB) (s : Nat) (c : Int) (e : Ending) (w' : World) : Prop :=
  e = .returned (.int .i64 c) ∧ Keeps G w w' ∧ (c ≠ 0 → Below w.heap.size w w') ∧ (c = 0 → ∃ G' : Nat → Prop, RefM G' w' x (os ++ ps) (ns ++ List.range' s ps.length) ∧ ∀ q, G' q → G q ∨ w.heap.size ≤ q)

theorem r10Post_no {G : Nat → Prop} {w w' : World} {x s : Nat} {os ps : List OpB} {ns : List Nat} {c d : Int} (hb : Below w.heap.size w w') (hd : d = c) (hc : c ≠ 0) : R10Post G w x os ns ps s c (.returned (.int .i64 d)) w' :=
  ⟨by rw [hd], Below.keeps hb _, fun _ => hb, fun h => absurd h hc⟩

theorem chkL_one (o : OpB) : chkL [o] = chkOp (o.1.toNat : Int) o.2.1 o.2.2 := by
  unfold chkL
  rw [if_neg (by simp)]
  unfold chkOps
  by_cases h : chkOp (o.1.toNat : Int) o.2.1 o.2.2 = 0
  · rw [if_pos h, h]; rfl
  · rw [if_neg h]

theorem infoU10 : (Try.prog.info? 33).map (fun i => (i.zero, i.size, i.bytes)) = some (some (.int .u64 0), 1, 8) := by kernel_rfl

theorem Box.drewN {w : World} {b : Nat} {v0 v1 v2 : Value} (h : Box w b v0 v1 v2) (n : Nat) : Box (w.drewN n) b v0 v1 v2 := ⟨h.c0, h.c1, h.c2, h.f0, h.f1, h.f2⟩

theorem argo_lit10 (w : World) (x y : Value) (l m : List UInt8) (k : UInt8) (i : Int) (hi : (k.toNat : Int) = i) (hx : Rd w x l) (hy : Rd w y m) :
    ArgO (w.alloc (.cells #[.int .u8 i, x, y] 63)) (.slice (some ⟨w.heap.size, 0, none⟩) 1 1) [(k, l, m)] := by
  have hb := below_box w #[.int .u8 i, x, y] 63
  have b := box_new w (.int .u8 i) x y 63
  refine ⟨_, 1, rfl, by simp, by simp [maxLen], fun j h => ?_⟩
  have hj : j = 0 := by simp at h; omega
  subst hj
  exact ⟨w.heap.size, 0, rfl, x, y, by rw [← hi] at b; rw [← hi]; exact b.c0, b.c1, b.c2, (hx.below hb (Nat.le_refl _)).arg, (hy.below hb (Nat.le_refl _)).arg⟩

theorem row_slice10 {w : World} {B n s : Nat} {e : TypeId} {v : Value} {cs : List Value} (h : w.ownsRow B e s v n cs) : ∃ a c, v = .slice a n c := by
  rcases h.2 with ⟨e, hn⟩ | ⟨g, cap, cur, e, _⟩
  · exact ⟨_, _, by rw [e, hn]⟩
  · exact ⟨_, _, e⟩

theorem own_one10 {B : Nat} {w : World} {y : Value} {k : UInt8} {l m : List UInt8} (h : OwnO B w y [(k, l, m)]) : ∃ g c a1 a2 b1 b2, y = .slice (some ⟨g, 0, none⟩) 1 c ∧ w.ownsRow B 63 3 (.slice (some ⟨g, 0, none⟩) 1 c) 1 [.int .u8 (k.toNat : Int), .slice a1 l.length a2, .slice b1 m.length b2] ∧ OwnN B w (.slice a1 l.length a2) l ∧ OwnN B w (.slice b1 m.length b2) m ∧ 1 ≤ c := by
  obtain ⟨cs, hr, he⟩ := h
  obtain ⟨x, y', c0, c1, c2, ox, oy⟩ := he 0 (by simp)
  simp only [Nat.zero_mul, Nat.zero_add, List.getElem_cons_zero] at c0 c1 c2 ox oy
  obtain ⟨a1, a2, ea⟩ := ox.rd.len
  obtain ⟨b1, b2, eb⟩ := oy.rd.len
  subst ea eb
  have hl : cs.length = 3 := hr.1
  have hcs : cs = [.int .u8 (k.toNat : Int), .slice a1 l.length a2, .slice b1 m.length b2] := by
    match cs, hl with
    | [p, q, r], _ =>
      simp at c0 c1 c2
      rw [c0, c1, c2]
  subst hcs
  rcases hr.2 with ⟨_, hn⟩ | ⟨g, cap, cur, e, _, _, h1, _⟩
  · simp at hn
  · subst e
    exact ⟨g, cap, a1, a2, b1, b2, rfl, hr, ox, oy, h1⟩

/-- one op, as the document asks of it -/
theorem batC_do (o : OpB) (s hh last : Int) : batC [o] s [hh] last = if chkOp (o.1.toNat : Int) o.2.1 o.2.2 = 0 then (if 1 ≤ s ∧ s ≤ 72057594037927935 then (if hh < 1 ∨ 8 < hh then 1 else if s ≤ last then 10 else 0) else 13) else chkOp (o.1.toNat : Int) o.2.1 o.2.2 := by
  unfold batC
  rw [chkL_one]
  have e1 : (hasN s (([o].length : Nat) : Int) = true) = (1 ≤ s ∧ s ≤ 72057594037927935) := by
    unfold hasN
    rw [decide_eq_true_eq]
    simp
  have e2 : ((List.take [o].length [hh]).any noHt = true) = (hh < 1 ∨ 8 < hh) := by
    simp [noHt]
  simp only [e1, e2]

set_option maxHeartbeats 4000000 in
theorem r10do_any (G : Nat → Prop) (w : World) (x : Nat) (os : List OpB) (ns : List Nat) (k : UInt8) (xv yv : Value) (kl vl : List UInt8) (s : Nat) (hh : Int) (h : RefM G w x os ns) (hx : Rd w xv kl) (hy : Rd w yv vl) (hkl : kl.length ≤ 1000000) (hvl : vl.length ≤ 1000000) (hn : os.length ≤ 100000) (hn2 : ns.length ≤ 100000) (hs64 : s < 18446744073709551616) :
    Calls Try.prog 36 #[.pointer (some ⟨x, 0, none⟩), .agg #[.int .u8 (k.toNat : Int), xv, yv], .int .u64 (s : Int), .int .i64 hh] w (R10Post G w x os ns [(k, kl, vl)] s (batC [(k, kl, vl)] (s : Int) [hh] (lastN ns : Int))) := by
  have he := eqRm x
  obtain ⟨i0, hi, hz0, hz1, hz2⟩ := info_parts infoOp
  obtain ⟨j0, hj, hy0, hy1, hy2⟩ := info_parts infoU10
  obtain ⟨xa, xc, rfl⟩ := hx.len
  obtain ⟨ya, yc, rfl⟩ := hy.len
  obtain ⟨nl, hnl⟩ : ∃ nl, kl.length = nl := ⟨_, rfl⟩
  obtain ⟨ml, hml⟩ : ∃ ml, vl.length = ml := ⟨_, rfl⟩
  obtain ⟨kk, hkk⟩ : ∃ kk : Int, (k.toNat : Int) = kk := ⟨_, rfl⟩
  obtain ⟨LA, hla⟩ : ∃ LA : Int, (lastN ns : Int) = LA := ⟨_, rfl⟩
  obtain ⟨S, hS⟩ : ∃ S : Int, (s : Int) = S := ⟨_, rfl⟩
  have HSN : Hid ((s : Int) = S) := hS
  obtain ⟨c, hc⟩ : ∃ c, batC [(k, kl, vl)] (s : Int) [hh] (lastN ns : Int) = c := ⟨_, rfl⟩
  rw [hc, hS]
  rw [hnl] at hx ⊢
  rw [hml] at hy ⊢
  have hb0 := below_box w #[.int .u8 kk, .slice xa nl xc, .slice ya ml yc] 63
  have HB0 : Hid (Below w.heap.size w (w.alloc (.cells #[.int .u8 kk, .slice xa nl xc, .slice ya ml yc] 63))) := hb0
  have BX := box_new w (.int .u8 kk) (.slice xa nl xc) (.slice ya ml yc) 63
  obtain ⟨d, hd⟩ : ∃ d, chkOp (k.toNat : Int) kl vl = d := ⟨_, rfl⟩
  have hck := refcheckop_any (w.alloc (.cells #[.int .u8 kk, .slice xa nl xc, .slice ya ml yc] 63)) (.slice xa nl xc) (.slice ya ml yc) kl vl kk d (by omega) (hx.below hb0 (Nat.le_refl _)) (hy.below hb0 (Nat.le_refl _)) (by rw [← hkk]; exact hd)
  have HC : Hid (c = if d = 0 then (if 1 ≤ S ∧ S ≤ 72057594037927935 then (if hh < 1 ∨ 8 < hh then 1 else if S ≤ LA then 10 else 0) else 13) else d) := by
    show _ = _
    rw [← hc, batC_do, hla, hS]
    simp only [hd]
  have HX : Hid (∀ W, Below w.heap.size w W → Rd W (.slice xa nl xc) kl ∧ Rd W (.slice ya ml yc) vl ∧ RefM G W x os ns) := fun W hW => ⟨hx.below hW (Nat.le_refl _), hy.below hW (Nat.le_refl _), h.below hW⟩
  have HD : Hid (chkOp (k.toNat : Int) kl vl = d) := hd
  have HLA : Hid ((lastN ns : Int) = LA) := hla
  rw [hkk]
  have HKK : Hid ((k.toNat : Int) = kk ∧ kl.length = nl ∧ vl.length = ml) := ⟨hkk, hnl, hml⟩
  have BX' := BX
  obtain ⟨z0, z1, z2, _, _, _⟩ := BX'
  clear hc hd hla hx hy h hb0 hnl hml hkk hS
  go_enter Try.func36, Try.ntmps36
  go_wp2_with fail
  refine hck.mono ?_
  rintro e w1 ⟨rfl, hb1⟩
  have HB1 : Hid (Below w.heap.size w w1) := bsplit HB0.out hb1
  have B1 := BX.below hb1 (Nat.le_refl _)
  clear hck BX z0 z1 z2 hb1
  by_cases h0 : d = 0
  · subst h0
    by_cases hs1 : 1 ≤ S ∧ S ≤ 72057594037927935
    · have hs1a : ¬ S < 1 := by omega
      have hs1b : S < 72057594037927936 := by omega
      have hs1c : ¬ (72057594037927936 : Int) ≤ S := by omega
      by_cases hh1 : hh < 1 ∨ 8 < hh
      · have hc1 : c = 1 := by rw [HC.out, if_pos rfl, if_pos hs1, if_pos hh1]
        rcases hh1 with hh1 | hh1
        · go_wp2
          go_ret
          exact r10Post_no HB1.out hc1.symm (by rw [hc1]; omega)
        · have hh2 : ¬ hh < 1 := by omega
          go_wp2
          go_ret
          exact r10Post_no HB1.out hc1.symm (by rw [hc1]; omega)
      · have hh1a : ¬ hh < 1 := by omega
        have hh1b : ¬ 8 < hh := by omega
        have HC2 : Hid (c = if S ≤ LA then 10 else 0) := by show _ = _; rw [HC.out, if_pos rfl, if_pos hs1, if_neg hh1]
        have hla := rlast_any G w1 x os ns (HX.out w1 HB1.out).2.2 (by omega)
        rw [HLA.out] at hla
        go_wp2_with fail
        refine hla.mono ?_
        rintro e w2 ⟨rfl, nn, hw2⟩
        have HB2 : Hid (Below w.heap.size w w2) := by rw [hw2]; exact below_drewN HB1.out _
        have B2 : Box w2 w.heap.size (.int .u8 kk) (.slice xa nl xc) (.slice ya ml yc) := by rw [hw2]; exact B1.drewN nn
        clear hla hw2 B1
        by_cases hle : S ≤ LA
        · have hc1 : c = 10 := by rw [HC2.out, if_pos hle]
          go_wp2
          go_ret
          exact r10Post_no HB2.out hc1.symm (by rw [hc1]; omega)
        · have hc1 : c = 0 := by rw [HC2.out, if_neg hle]
          have HCZ : Hid (c = 0) := hc1
          have HBD : Hid (Below w.heap.size w w2.drew) := HB2.out.drew
          have hlb := (below_box4 w2 (.cells #[.int .u8 kk, .slice xa nl xc, .slice ya ml yc] 63)).drew
          have hcp := opcopy_any (w2.alloc (.cells #[.int .u8 kk, .slice xa nl xc, .slice ya ml yc] 63)).drew (.slice (some ⟨w2.heap.size, 0, none⟩) 1 1) [(k, kl, vl)] (show ArgO (w2.alloc (.cells #[.int .u8 kk, .slice xa nl xc, .slice ya ml yc] 63)).drew _ _ from argo_lit10 w2 (.slice xa nl xc) (.slice ya ml yc) kl vl k kk HKK.out.1 (HX.out _ HB2.out).1 (HX.out _ HB2.out).2.1) (by simp) (by intro o ho; simp at ho; subst ho; exact ⟨hkl, hvl⟩)
          obtain ⟨v, u, cs, hbx, hrow, hel, hu, g0, g1, g2, g3, g4'⟩ := (HX.out _ HB2.out).2.2
          obtain ⟨va, vc, ev⟩ := row_slice10 hrow
          subst ev
          obtain ⟨N, hN⟩ : ∃ N, os.length = N := ⟨_, rfl⟩
          rw [hN] at hbx hrow g1 hn
          have HN : Hid (os.length = N) := hN
          have tb : w2.drew.cell? ⟨x, 0, none⟩ = some (.slice va N vc) := hbx.c0
          have tc := (hlb.cell (p := ⟨x, 0, none⟩) hbx.lt).trans hbx.c0
          have HRF : Hid (Bx2 w2 x (.slice va N vc) u ∧ w2.ownsRow 0 63 3 (.slice va N vc) N cs ∧ ElO w2 os cs ∧ w2.ownsRow 0 33 1 u ns.length (ns.map encU)) := ⟨hbx, hrow, hel, hu⟩
          have HGS : Hid (G x ∧ (∀ q, (Value.slice va N vc).ownBlock = some q → G q) ∧ (∀ z ∈ cs, ∀ q, z.ownBlock = some q → G q) ∧ (∀ q, u.ownBlock = some q → G q) ∧ ∀ q, G q → q < w2.heap.size) := ⟨g0, g1, g2, g3, g4'⟩
          have HLB : Hid (Below w2.heap.size w2 (w2.alloc (.cells #[.int .u8 kk, .slice xa nl xc, .slice ya ml yc] 63)).drew) := hlb
          have HL1 : Hid ((w2.alloc (.cells #[.int .u8 kk, .slice xa nl xc, .slice ya ml yc] 63)).drew.heap.size = w2.heap.size + 1) := by show _ = _; simp
          have bs := B2.drew
          obtain ⟨z0, z1, z2, _, _, _⟩ := bs
          clear hN hbx hrow hel hu g0 g1 g2 g3 g4' B2 hc1 HC HC2 hlb
          go_wp2_with fail
          go_region_law
            (first
              | (go_simp
                 go_at_call 35
                 refine Calls.mono hcp ?_
                 rintro e w3 ⟨y, rfl, oy, hb3⟩
                 obtain ⟨gy, cy, a1, a2, b1, b2, rfl, ry, ra, rb, hcy⟩ := own_one10 oy
                 rw [HKK.out.2.1] at ry ra
                 rw [HKK.out.2.2] at ry rb
                 simp only [HKK.out.1] at ry
                 have HB3 : Hid (Below w2.heap.size w2 w3) := bsplit HLB.out hb3
                 have t3 : w3.cell? ⟨x, 0, none⟩ = some (.slice va N vc) := (HB3.out.cell (p := ⟨x, 0, none⟩) HRF.out.1.lt).trans HRF.out.1.c0
                 clear hcp)
              | (have hrow3 := row_below HRF.out.2.1 HB3.out
                 have hB3s := HB3.out.size
                 refine step_append_lies _ rfl (.tmp 37) (.tmp 40) 29 rfl 0 63 i0 (.agg #[.int .u8 0, .slice none 0 0, .slice none 0 0]) 3 56 Try.underlying29 hi hz0 hz1 hz2 rfl (by decide) (.slice va N vc) N cs rfl hrow3 ⟨gy, 0, none⟩ 1 cy [.int .u8 kk, .slice a1 nl a2, .slice b1 ml b2] rfl rfl (ry.cells rfl) (one3 _ _ _ _ _ _ _) (by decide) (by simp only [maxLen]; omega) (by omega) (Nat.zero_le _) _ rfl ?_
                 intro g4 c4 w4 hown hgrow hat hlt4
                 have HP4 : Hid (RefM (fun q => (G q ∨ w2.heap.size ≤ q) ∧ q < w4.heap.size) (w4.setCell ⟨x, 0, none⟩ (.slice (some ⟨g4, 0, none⟩) (N + 1) c4)) x (os ++ [(k, kl, vl)]) ns ∧ Keeps G w2 (w4.setCell ⟨x, 0, none⟩ (.slice (some ⟨g4, 0, none⟩) (N + 1) c4))) := by
                   have e9 := HN.out
                   subst e9
                   have hbx3 : Bx2 w3 x (.slice va os.length vc) u := (HB3.out.block x HRF.out.1.lt).trans HRF.out.1
                   have hel3 : ElO w3 os cs := HRF.out.2.2.1.same (fun z hz q hq => HB3.out.block q (HGS.out.2.2.2.2 q (HGS.out.2.2.1 z hz q hq)))
                   have hu3 := row_below HRF.out.2.2.2 HB3.out
                   have hsL : w2.heap.size ≤ (w2.alloc (.cells #[.int .u8 kk, .slice xa nl xc, .slice ya ml yc] 63)).drew.heap.size := by rw [HL1.out]; omega
                   have hown9 := hown
                   rw [← HKK.out.1] at hown9
                   refine ⟨refM_op (o := (k, kl, vl)) hB3s hbx3 hrow3 hel3 hu3 HGS.out.1 HGS.out.2.2.1 HGS.out.2.2.2.1 (fun q hq => Nat.lt_of_lt_of_le (HGS.out.2.2.2.2 q hq) hB3s) (ra.mono hsL) (rb.mono hsL) hown9 hgrow ⟨?_, hlt4⟩, (keeps_of (t := x) HB3.out hgrow HGS.out.2.1).setCell (p := ⟨x, 0, none⟩) HGS.out.1 _⟩
                   rcases hat with h9 | h9
                   · exact .inl (HGS.out.2.1 _ h9)
                   · exact .inr (by rw [h9]; exact hB3s)
                 have hx4 : Bx2 w4 x (.slice va N vc) u := (hgrow.block x (Nat.lt_of_lt_of_le HRF.out.1.lt HB3.out.size) (Bx2.not_row (w := w3) ((HB3.out.block x HRF.out.1.lt).trans HRF.out.1) (by decide) hrow3)).trans ((HB3.out.block x HRF.out.1.lt).trans HRF.out.1)
                 have t4 := hx4.c0
                 have f4 := hx4.f0
                 clear hown hgrow hat hlt4 hrow3 hx4 ry ra rb oy)
              | fail)
          all_goals
            obtain ⟨v5, u5, cs5, hbx5, hrow5, hel5, hu5, k0, k1, k2, k3, k4⟩ := HP4.out.1
            obtain ⟨ua, uc, eu⟩ := row_slice10 hu5
            subst eu
            obtain ⟨M, hM⟩ : ∃ M, ns.length = M := ⟨_, rfl⟩
            obtain ⟨w5, hw5⟩ : ∃ w5, w4.setCell ⟨x, 0, none⟩ (.slice (some ⟨g4, 0, none⟩) (N + 1) c4) = w5 := ⟨_, rfl⟩
            rw [hw5] at HP4 hbx5 hrow5 hel5 hu5 k4
            rw [hM] at hbx5 hu5 hn2 k3
            have HMM : Hid (ns.length = M) := hM
            have hle5 := below_box4 w5 (.cells #[.int .u64 S] 33)
            have hlit := laidI1 w5 (.int .u64 S) 33
            have hrow6 := row_below hu5 hle5
            have x1 := hbx5.c1
            have hx6 : Bx2 (w5.alloc (.cells #[.int .u64 S] 33)) x v5 (.slice ua M uc) := (hle5.block x hbx5.lt).trans hbx5
            have HK5 : Hid (Keeps G w w5) := (Below.keeps HB2.out G).trans HP4.out.2
            have HPS : Hid (∀ g6 c6 w6, w6.ownsRow 0 33 1 (.slice (some ⟨g6, 0, none⟩) (M + 1) c6) (M + 1) (ns.map encU ++ [.int .u64 S]) → (w5.alloc (.cells #[.int .u64 S] 33)).grownBy w6 (Value.slice ua M uc).ownBlock → ((Value.slice ua M uc).ownBlock = some g6 ∨ g6 = (w5.alloc (.cells #[.int .u64 S] 33)).heap.size) → g6 < w6.heap.size → (Bx2 w6 x v5 (.slice ua M uc)) ∧ R10Post G w x os ns [(k, kl, vl)] s c (.returned (.int .i64 0)) (w6.setCell ⟨x, 1, none⟩ (.slice (some ⟨g6, 0, none⟩) (M + 1) c6))) := by
              intro g6 c6 w6 hown hgrow hat hlt6
              have hx66 : Bx2 w6 x v5 (.slice ua M uc) := (hgrow.block x hx6.lt (hx6.not_row (by decide) hrow6)).trans hx6
              refine ⟨hx66, ?_⟩
              have e9 := HMM.out
              subst e9
              have hs5 : w2.heap.size ≤ w5.heap.size := HP4.out.2.size
              have hs6 := hle5.size
              have hsw := HB2.out.size
              have hown9 := hown
              rw [← HSN.out] at hown9
              have hkk : Keeps G w (w6.setCell ⟨x, 1, none⟩ (.slice (some ⟨g6, 0, none⟩) (ns.length + 1) c6)) := (HK5.out.then (keeps_of (G := fun q => (G q ∨ w2.heap.size ≤ q) ∧ q < w4.heap.size) (t := x) hle5 hgrow k3) (fun i hi => hi.1.imp id (fun h9 => Nat.le_trans hsw h9))).setCell (p := ⟨x, 1, none⟩) HGS.out.1 _
              refine ⟨by rw [HCZ.out], hkk, fun h9 => absurd HCZ.out h9, fun _ => ⟨_, refM_seq (B := w2.heap.size) (s := s) (Nat.le_trans hs5 hs6) hx6 (row_below hrow5 hle5) (hel5.same (fun z hz q hq => hle5.block q (k4 q (k2 z hz q hq)))) hrow6 k0 k1 k2 (fun q hq => Nat.lt_of_lt_of_le (k4 q hq) hs6) hown9 hgrow ⟨?_, hlt6⟩, fun q hq => ?_⟩⟩
              · rcases hat with h9 | h9
                · exact .inl (k3 _ h9)
                · exact .inr (by rw [h9]; omega)
              · rcases hq.1 with h9 | h9
                · exact h9.1.imp id (fun h8 => Nat.le_trans hsw h8)
                · exact .inr (Nat.le_trans hsw h9)
            have HX6 : Hid (w5.heap.size ≤ (w5.alloc (.cells #[.int .u64 S] 33)).heap.size) := hle5.size
            clear hbx5 hrow5 hel5 hu5 k0 k1 k2 k3 k4 hM hle5 HP4 HK5
            go_wp2_with (first | (at_builtin; refine wpList_append_lies _ rfl (.tmp 48) (.tmp 50) 24 rfl 0 33 j0 (.int .u64 0) 1 8 Try.underlying24 hj hy0 hy1 hy2 rfl (by decide) (.slice ua M uc) M (ns.map encU) rfl hrow6 ⟨w5.heap.size, 0, none⟩ 1 1 [.int .u64 S] rfl rfl hlit (by intro u hu; simp at hu; rw [hu]; rfl) (by decide) (by simp only [maxLen]; omega) (by omega) (Nat.zero_le _) _ rfl ?_; intro g6 c6 w6 hown hgrow hat hlt6; have HP6 : Hid _ := HPS.out g6 c6 w6 hown hgrow hat hlt6; have y1 := HP6.out.1.c1; have y2 := HP6.out.1.f1; clear hown hgrow hat hlt6) | fail)
            go_wp2
            go_ret
            exact HP6.out.2
    · have hc1 : c = 13 := by rw [HC.out, if_pos rfl, if_neg hs1]
      by_cases hs2 : S < 1
      · go_wp2
        go_ret
        exact r10Post_no HB1.out hc1.symm (by rw [hc1]; omega)
      · have hs3 : (72057594037927936 : Int) ≤ S := by omega
        go_wp2
        go_ret
        exact r10Post_no HB1.out hc1.symm (by rw [hc1]; omega)
  · have hc1 : c = d := by rw [HC.out, if_neg h0]
    have hdb : (d != 0) = true := by simp [h0]
    have hdb2 : (d == 0) = false := by simp [h0]
    go_wp2
    go_ret
    exact r10Post_no HB1.out hc1.symm (by rw [hc1]; exact h0)

end Go.Proofs.Ytdlefbbpgbjibaa

/- bartizanref10.Batch. -/
namespace Go.Proofs.Ytdlefbbpgbjibaa
set_option maxRecDepth 100000
open Go.RowKit
set_option linter.unusedVariables false
set_option linter.unusedSimpArgs false

/-- behind j of the ops -/
def R10I (G : Nat → Prop) (w : World) (x : Nat) (os : List OpB) (ns : List Nat) (ps : List OpB) (s j : Nat) (wr : World) : Prop :=
  Keeps G w wr ∧ ∃ G1 : Nat → Prop, RefM G1 wr x (os ++ ps.take j) (ns ++ List.range' s j) ∧ ∀ q, G1 q → G q ∨ w.heap.size ≤ q

theorem R10I.next {G G1 : Nat → Prop} {w wr w' : World} {x s j : Nat} {os ps : List OpB} {ns : List Nat} {e : Ending} (hk : Keeps G w wr) (hG : ∀ q, G1 q → G q ∨ w.heap.size ≤ q) (hj : j < ps.length) (h : R10Post G1 wr x (os ++ ps.take j) (ns ++ List.range' s j) [ps[j]] (s + j) 0 e w') : R10I G w x os ns ps s (j + 1) w' := by
  obtain ⟨_, hk2, _, h4⟩ := h
  obtain ⟨G2, h5, h6⟩ := h4 rfl
  refine ⟨hk.then hk2 hG, G2, ?_, fun q hq => (h6 q hq).elim (hG q) (fun h9 => .inr (Nat.le_trans hk.size h9))⟩
  have e1 : ps.take (j + 1) = ps.take j ++ [ps[j]] := List.take_succ_eq_append_getElem hj
  have e2 : List.range' s (j + 1) = List.range' s j ++ [s + j] := by rw [List.range'_concat]; simp
  rw [e1, e2, ← List.append_assoc, ← List.append_assoc]
  exact h5

theorem any_take_over {hs : List Int} {j : Nat} (h : hs.length ≤ j) : (hs.take (j + 1)).any noHt = (hs.take j).any noHt := by
  rw [List.take_of_length_le h, List.take_of_length_le (by omega)]

theorem any_take_true {hs : List Int} {j K : Nat} (h : j < hs.length) (hK : j < K) (hz : noHt (hs.getD j 0) = true) : (hs.take K).any noHt = true := by
  rw [List.any_eq_true]
  refine ⟨hs[j], ?_, ?_⟩
  · rw [List.mem_take_iff_getElem]
    exact ⟨j, by omega, rfl⟩
  · rw [← hz]
    simp [List.getD_eq_getElem?_getD, List.getElem?_eq_getElem h]

set_option maxHeartbeats 8000000 in
theorem r10batch_any (G : Nat → Prop) (w : World) (x : Nat) (os : List OpB) (ns : List Nat) (pv : Value) (ps : List OpB) (s : Nat) (a : Option Addr) (n cap : Nat) (hs : List Int) (h : RefM G w x os ns) (hv : ∀ W, Keeps G w W → RdO W pv ps) (hh : RdI w a n hs) (hnc : n ≤ cap) (hn0 : n ≤ 1000000)
    (hbd : ∀ o ∈ ps, o.2.1.length ≤ 1000000 ∧ o.2.2.length ≤ 1000000) (hlen : os.length + ps.length ≤ 100000) (hlen2 : ns.length + ps.length ≤ 100000) (hs64 : s < 18446744073709551616) :
    Calls Try.prog 37 #[.pointer (some ⟨x, 0, none⟩), pv, .int .u64 (s : Int), .slice a n cap] w (R10Post G w x os ns ps s (batC ps (s : Int) hs (lastN ns : Int))) := by
  have he := eqRm x
  obtain ⟨i0, hi, hz0, hz1, hz2⟩ := info_parts infoOp
  obtain ⟨j0, hj0, hy0, hy1, hy2⟩ := info_parts infoU10
  obtain ⟨LA, hla⟩ : ∃ LA : Int, (lastN ns : Int) = LA := ⟨_, rfl⟩
  obtain ⟨S, hS⟩ : ∃ S : Int, (s : Int) = S := ⟨_, rfl⟩
  obtain ⟨c, hc⟩ : ∃ c, batC ps (s : Int) hs (lastN ns : Int) = c := ⟨_, rfl⟩
  obtain ⟨d, hd⟩ : ∃ d, chkL ps = d := ⟨_, rfl⟩
  have hr0 := hv w (Keeps.refl _ _)
  have hck := rcheck_any w pv ps d hr0 hd
  have HV : Hid (∀ W, Keeps G w W → RdO W pv ps) := hv
  obtain ⟨pa, pc, rfl, ho1, ho2, _⟩ := hr0
  obtain ⟨K, hK⟩ : ∃ K, ps.length = K := ⟨_, rfl⟩
  have HC : Hid (c = if d = 0 then (if hasN S K = true then (if (hs.take K).any noHt = true then 1 else if S ≤ LA then 10 else 0) else 13) else d) := by
    show _ = _
    rw [← hc]
    unfold batC
    rw [hd, hK, hS, hla]
  rw [hc, hS]
  rw [hK] at hck ho1 HV hlen hlen2 ⊢
  have HK : Hid (ps.length = K) := hK
  have HSN : Hid ((s : Int) = S) := hS
  have HLA : Hid ((lastN ns : Int) = LA) := hla
  have HD : Hid (chkL ps = d) := hd
  have HRM : Hid (RefM G w x os ns) := h
  have HRI : Hid (RdI w a n hs) := hh
  have HBD : Hid (∀ o ∈ ps, o.2.1.length ≤ 1000000 ∧ o.2.2.length ≤ 1000000) := hbd
  have HLN : Hid (os.length + K ≤ 100000 ∧ ns.length + K ≤ 100000) := ⟨hlen, hlen2⟩
  unfold maxLen at ho2
  clear hla hS hc hd hv hK h hh hbd hs64
  go_enter Try.func37, Try.ntmps37
  go_wp2_with fail
  refine hck.mono ?_
  rintro e w1 ⟨rfl, hb1⟩
  have HB1 : Hid (Below w.heap.size w w1) := hb1
  clear hck hb1
  by_cases h0 : d = 0
  · subst h0
    have hK64 : K ≤ 64 := by have := (chkL_mem HD.out).1; rw [HK.out] at this; exact this
    by_cases hs1 : 1 ≤ S ∧ S < 72057594037927936
    · obtain ⟨T, hT⟩ : ∃ T : Int, S + (K : Int) - 1 = T := ⟨_, rfl⟩
      have hs1a : ¬ S < 1 := by omega
      have hs1c : ¬ (72057594037927936 : Int) ≤ S := by omega
      have u1 : IntKind.u64.wrap (K : Int) = (K : Int) := by rw [IntKind.wrap_u64]; omega
      have u2 : IntKind.u64.wrap (S + (K : Int)) = S + (K : Int) := by rw [IntKind.wrap_u64]; omega
      have u3 : IntKind.u64.wrap (S + (K : Int) - 1) = T := by rw [IntKind.wrap_u64]; omega
      by_cases hbad : 0 < K ∧ (72057594037927936 : Int) ≤ T
      · have hc1 : c = 13 := by
          rw [HC.out, if_pos rfl, if_neg]
          intro h9
          unfold hasN at h9
          have := of_decide_eq_true h9
          omega
        obtain ⟨hbad1, hbad2⟩ := hbad
        have hb3 : (0 : Int) < (K : Int) := by omega
        clear hT
        go_wp2
        go_ret
        exact r10Post_no HB1.out hc1.symm (by rw [hc1]; omega)
      · have HCH : Hid (c = if (hs.take K).any noHt = true then 1 else if S ≤ LA then 10 else 0) := by
          show _ = _
          rw [HC.out, if_pos rfl, if_pos]
          unfold hasN
          exact decide_eq_true (by omega)
        have hbad2 : ¬ (0 < K ∧ 72057594037927936 ≤ T) := hbad
        clear hT hbad HC
        go_wp2_with fail
        · go_loopg [42] K (fun gk iv wq => ∃ j : Nat, gk + j = K ∧ iv = .int .i64 (j : Int) ∧ Hid ((hs.take j).any noHt = false) ∧ wq = w1)
          case atStart => exact ⟨0, by omega, rfl, by show _ = _; simp, rfl⟩
          case round =>
            obtain ⟨j, hj, rfl, HA, rfl⟩ := hrel
            by_cases hlt : j < K
            · obtain ⟨q1, q2⟩ := gk_nxt hj hlt
              have hltI : (j : Int) < (K : Int) := by omega
              by_cases hjn : j < n
              · have hjl : j < hs.length := by rw [HRI.out.1]; exact hjn
                obtain ⟨hb, ho, rfl, hcell⟩ := (HRI.out.below HB1.out).2 j hjn
                obtain ⟨z, hz⟩ : ∃ z, hs.getD j 0 = z := ⟨_, rfl⟩
                rw [hz] at hcell
                have hjnI : (j : Int) < (n : Int) := by omega
                by_cases hno : z < 1 ∨ 8 < z
                · have HC1 : Hid (c = 1) := by
                    show _ = _
                    rw [HCH.out, if_pos]
                    exact any_take_true hjl hlt (by rw [hz]; unfold noHt; exact decide_eq_true hno)
                  rcases hno with hno | hno
                  · clear hz
                    go_wp2
                    go_ret
                    exact r10Post_no HB1.out HC1.out.symm (by rw [HC1.out]; omega)
                  · have hno2 : ¬ z < 1 := by omega
                    clear hz
                    go_wp2
                    go_ret
                    exact r10Post_no HB1.out HC1.out.symm (by rw [HC1.out]; omega)
                · have HA2 : Hid ((hs.take (j + 1)).any noHt = false) := by
                    show _ = _
                    rw [any_take_get hjl, HA.out, hz]
                    unfold noHt
                    simp
                    omega
                  have hno1 : ¬ z < 1 := by omega
                  have hno2 : ¬ 8 < z := by omega
                  clear hz hno
                  go_wp2_with fail
                  go_roundg (gk - 1)
                  case measure => exact q1
                  case rel => exact ⟨j + 1, q2, by go_num, HA2, rfl⟩
              · have HA2 : Hid ((hs.take (j + 1)).any noHt = false) := by
                  show _ = _
                  rw [any_take_over (by rw [HRI.out.1]; omega)]
                  exact HA.out
                have hjnI : ¬ (j : Int) < (n : Int) := by omega
                go_wp2_with fail
                go_roundg (gk - 1)
                case measure => exact q1
                case rel => exact ⟨j + 1, q2, by go_num, HA2, rfl⟩
            · have hjK : j = K := by omega
              subst hjK
              have HC3 : Hid (c = if S ≤ LA then 10 else 0) := by show _ = _; rw [HCH.out, if_neg (by rw [HA.out]; simp)]
              have hla := rlast_any G wr x os ns (HRM.out.below HB1.out) (by omega)
              rw [HLA.out] at hla
              clear HA HCH
              go_wp2_with fail
              refine hla.mono ?_
              rintro e w2 ⟨rfl, nn, hw2⟩
              have HB2 : Hid (Below w.heap.size w w2) := by rw [hw2]; exact below_drewN HB1.out _
              clear hla hw2
              by_cases hle : S ≤ LA
              · have hc1 : c = 10 := by rw [HC3.out, if_pos hle]
                go_wp2
                go_ret
                exact r10Post_no HB2.out hc1.symm (by rw [hc1]; omega)
              · have HC0 : Hid (c = 0) := by show _ = _; rw [HC3.out, if_neg hle]
                obtain ⟨K, rfl⟩ : ∃ K, K = j := ⟨_, rfl⟩
                go_wp2_with fail
                go_loopg [70] K (fun gk iv wq => ∃ j : Nat, gk + j = K ∧ iv = .int .i64 (j : Int) ∧ Hid (R10I G w x os ns ps s j wq))
                case atStart => exact ⟨0, by omega, rfl, ⟨Below.keeps HB2.out _, G, by simpa using HRM.out.below HB2.out, fun q hq => .inl hq⟩⟩
                case round =>
                  obtain ⟨j, hj, rfl, HI⟩ := hrel
                  by_cases hlt : j < K
                  · obtain ⟨q1, q2⟩ := gk_nxt hj hlt
                    have hlt2 : j < ps.length := by rw [HK.out]; exact hlt
                    obtain ⟨hk1, G1, hR1, hG1⟩ := HI.out
                    have HKK1 : Hid (Keeps G w wr ∧ ∀ q, G1 q → G q ∨ w.heap.size ≤ q) := ⟨hk1, hG1⟩
                    obtain ⟨_, _, e9, _, _, h3⟩ := HV.out wr hk1
                    rw [HK.out] at e9
                    cases e9
                    obtain ⟨gb, off, rfl, xv, yv, d0, d1, d2, rx, ry⟩ := h3 j hlt2
                    obtain ⟨xa, xc, ex⟩ := rx.len
                    obtain ⟨ya, yc, ey⟩ := ry.len
                    subst ex ey
                    obtain ⟨⟨k, kl, vl⟩, ho⟩ : ∃ o, ps[j] = o := ⟨_, rfl⟩
                    have hbo := HBD.out _ (List.getElem_mem hlt2)
                    rw [ho] at d0 d1 d2 rx ry hbo
                    simp only at d0 d1 d2 rx ry hbo
                    obtain ⟨hkl, hvl⟩ := hbo
                    obtain ⟨nl, hnl⟩ : ∃ nl, kl.length = nl := ⟨_, rfl⟩
                    obtain ⟨ml, hml⟩ : ∃ ml, vl.length = ml := ⟨_, rfl⟩
                    obtain ⟨kk, hkk⟩ : ∃ kk : Int, (k.toNat : Int) = kk := ⟨_, rfl⟩
                    rw [hkk] at d0
                    rw [hnl] at d1 rx
                    rw [hml] at d2 ry
                    have HKK : Hid ((k.toNat : Int) = kk ∧ kl.length = nl ∧ vl.length = ml) := ⟨hkk, hnl, hml⟩
                    have hO1L : (os ++ ps.take j).length ≤ 100000 := by rw [List.length_append, List.length_take]; have := HLN.out; omega
                    have hN1L : (ns ++ List.range' s j).length ≤ 100000 := by rw [List.length_append, List.length_range']; have := HLN.out; omega
                    obtain ⟨O1, hO1⟩ : ∃ O1, os ++ ps.take j = O1 := ⟨_, rfl⟩
                    obtain ⟨N1, hN1⟩ : ∃ N1, ns ++ List.range' s j = N1 := ⟨_, rfl⟩
                    obtain ⟨sj, hsj⟩ : ∃ sj, s + j = sj := ⟨_, rfl⟩
                    obtain ⟨S0, hS0⟩ : ∃ S0 : Int, S = S0 := ⟨_, rfl⟩
                    obtain ⟨Z, hZ⟩ : ∃ Z : Int, S + (j : Int) = Z := ⟨_, rfl⟩
                    have v1 : IntKind.u64.wrap (j : Int) = (j : Int) := by rw [IntKind.wrap_u64]; omega
                    have v2 : IntKind.u64.wrap (S + (j : Int)) = Z := by rw [IntKind.wrap_u64]; omega
                    have HNXT : Hid (∀ W', R10Post G1 wr x O1 N1 [(k, kl, vl)] sj 0 (.returned (.int .i64 0)) W' → R10I G w x os ns ps s (j + 1) W') := fun W' h9 => by
                      rw [← hO1, ← hN1, ← hsj, ← ho] at h9
                      exact R10I.next hk1 hG1 hlt2 h9
                    rw [hO1, hN1] at hR1
                    rw [hO1] at hO1L
                    rw [hN1] at hN1L
                    have hn := hO1L
                    have hn2 := hN1L
                    have HSN2 : Hid ((sj : Int) = Z) := by show _ = _; rw [← hsj, ← hZ, ← HSN.out]; omega
                    have hb0 := below_box4 wr (.cells #[.int .u8 kk, .slice xa nl xc, .slice ya ml yc] 63)
                    have HX : Hid (∀ W, Below wr.heap.size wr W → Rd W (.slice xa nl xc) kl ∧ Rd W (.slice ya ml yc) vl ∧ RefM G1 W x O1 N1) := fun W hW => ⟨rx.below hW (Nat.le_refl _), ry.below hW (Nat.le_refl _), hR1.below hW⟩
                    have B2 := box_new wr (.int .u8 kk) (.slice xa nl xc) (.slice ya ml yc) 63
                    obtain ⟨w0, hw0⟩ : ∃ w0, wr.alloc (.cells #[.int .u8 kk, .slice xa nl xc, .slice ya ml yc] 63) = w0 := ⟨_, rfl⟩
                    rw [hw0] at hb0 B2
                    have HB2 : Hid (Below wr.heap.size wr w0) := hb0
                    clear hk1 hG1 hR1 rx ry h3 ho hnl hml hkk hO1 hN1 hsj hZ hO1L hN1L hb0 HI hS0
                    have HBD : Hid (Below wr.heap.size wr w0.drew) := HB2.out.drew
                    have hlb := (below_box4 w0 (.cells #[.int .u8 kk, .slice xa nl xc, .slice ya ml yc] 63)).drew
                    have hcp := opcopy_any (w0.alloc (.cells #[.int .u8 kk, .slice xa nl xc, .slice ya ml yc] 63)).drew (.slice (some ⟨w0.heap.size, 0, none⟩) 1 1) [(k, kl, vl)] (show ArgO (w0.alloc (.cells #[.int .u8 kk, .slice xa nl xc, .slice ya ml yc] 63)).drew _ _ from argo_lit10 w0 (.slice xa nl xc) (.slice ya ml yc) kl vl k kk HKK.out.1 (HX.out _ HB2.out).1 (HX.out _ HB2.out).2.1) (by simp) (by intro o ho; simp at ho; subst ho; exact ⟨hkl, hvl⟩)
                    obtain ⟨v, u, cs, hbx, hrow, hel, hu, g0, g1, g2, g3, g4'⟩ := (HX.out _ HB2.out).2.2
                    obtain ⟨va, vc, ev⟩ := row_slice10 hrow
                    subst ev
                    obtain ⟨N, hN⟩ : ∃ N, O1.length = N := ⟨_, rfl⟩
                    rw [hN] at hbx hrow g1 hn
                    have HN : Hid (O1.length = N) := hN
                    have tb : w0.drew.cell? ⟨x, 0, none⟩ = some (.slice va N vc) := hbx.c0
                    have tc := (hlb.cell (p := ⟨x, 0, none⟩) hbx.lt).trans hbx.c0
                    have HRF : Hid (Bx2 w0 x (.slice va N vc) u ∧ w0.ownsRow 0 63 3 (.slice va N vc) N cs ∧ ElO w0 O1 cs ∧ w0.ownsRow 0 33 1 u N1.length (N1.map encU)) := ⟨hbx, hrow, hel, hu⟩
                    have HGS : Hid (G1 x ∧ (∀ q, (Value.slice va N vc).ownBlock = some q → G1 q) ∧ (∀ z ∈ cs, ∀ q, z.ownBlock = some q → G1 q) ∧ (∀ q, u.ownBlock = some q → G1 q) ∧ ∀ q, G1 q → q < w0.heap.size) := ⟨g0, g1, g2, g3, g4'⟩
                    have HLB : Hid (Below w0.heap.size w0 (w0.alloc (.cells #[.int .u8 kk, .slice xa nl xc, .slice ya ml yc] 63)).drew) := hlb
                    have HL1 : Hid ((w0.alloc (.cells #[.int .u8 kk, .slice xa nl xc, .slice ya ml yc] 63)).drew.heap.size = w0.heap.size + 1) := by show _ = _; simp
                    have bs := B2.drew
                    obtain ⟨z0, z1, z2, _, _, _⟩ := bs
                    clear hN hbx hrow hel hu g0 g1 g2 g3 g4' B2 hlb
                    go_wp2_with fail
                    go_region_law
                      (first
                        | (go_simp
                           go_at_call 35
                           refine Calls.mono hcp ?_
                           rintro e w3 ⟨y, rfl, oy, hb3⟩
                           obtain ⟨gy, cy, a1, a2, b1, b2, rfl, ry, ra, rb, hcy⟩ := own_one10 oy
                           rw [HKK.out.2.1] at ry ra
                           rw [HKK.out.2.2] at ry rb
                           simp only [HKK.out.1] at ry
                           have HB3 : Hid (Below w0.heap.size w0 w3) := bsplit HLB.out hb3
                           have t3 : w3.cell? ⟨x, 0, none⟩ = some (.slice va N vc) := (HB3.out.cell (p := ⟨x, 0, none⟩) HRF.out.1.lt).trans HRF.out.1.c0
                           clear hcp)
                        | (have hrow3 := row_below HRF.out.2.1 HB3.out
                           have hB3s := HB3.out.size
                           refine step_append_lies _ rfl (.tmp 79) (.tmp 82) 29 rfl 0 63 i0 (.agg #[.int .u8 0, .slice none 0 0, .slice none 0 0]) 3 56 Try.underlying29 hi hz0 hz1 hz2 rfl (by decide) (.slice va N vc) N cs rfl hrow3 ⟨gy, 0, none⟩ 1 cy [.int .u8 kk, .slice a1 nl a2, .slice b1 ml b2] rfl rfl (ry.cells rfl) (one3 _ _ _ _ _ _ _) (by decide) (by simp only [maxLen]; omega) (by omega) (Nat.zero_le _) _ rfl ?_
                           intro g4 c4 w4 hown hgrow hat hlt4
                           have HP4 : Hid (RefM (fun q => (G1 q ∨ w0.heap.size ≤ q) ∧ q < w4.heap.size) (w4.setCell ⟨x, 0, none⟩ (.slice (some ⟨g4, 0, none⟩) (N + 1) c4)) x (O1 ++ [(k, kl, vl)]) N1 ∧ Keeps G1 w0 (w4.setCell ⟨x, 0, none⟩ (.slice (some ⟨g4, 0, none⟩) (N + 1) c4))) := by
                             have e9 := HN.out
                             subst e9
                             have hbx3 : Bx2 w3 x (.slice va O1.length vc) u := (HB3.out.block x HRF.out.1.lt).trans HRF.out.1
                             have hel3 : ElO w3 O1 cs := HRF.out.2.2.1.same (fun z hz q hq => HB3.out.block q (HGS.out.2.2.2.2 q (HGS.out.2.2.1 z hz q hq)))
                             have hu3 := row_below HRF.out.2.2.2 HB3.out
                             have hsL : w0.heap.size ≤ (w0.alloc (.cells #[.int .u8 kk, .slice xa nl xc, .slice ya ml yc] 63)).drew.heap.size := by rw [HL1.out]; omega
                             have hown9 := hown
                             rw [← HKK.out.1] at hown9
                             refine ⟨refM_op (o := (k, kl, vl)) hB3s hbx3 hrow3 hel3 hu3 HGS.out.1 HGS.out.2.2.1 HGS.out.2.2.2.1 (fun q hq => Nat.lt_of_lt_of_le (HGS.out.2.2.2.2 q hq) hB3s) (ra.mono hsL) (rb.mono hsL) hown9 hgrow ⟨?_, hlt4⟩, (keeps_of (t := x) HB3.out hgrow HGS.out.2.1).setCell (p := ⟨x, 0, none⟩) HGS.out.1 _⟩
                             rcases hat with h9 | h9
                             · exact .inl (HGS.out.2.1 _ h9)
                             · exact .inr (by rw [h9]; exact hB3s)
                           have hx4 : Bx2 w4 x (.slice va N vc) u := (hgrow.block x (Nat.lt_of_lt_of_le HRF.out.1.lt HB3.out.size) (Bx2.not_row (w := w3) ((HB3.out.block x HRF.out.1.lt).trans HRF.out.1) (by decide) hrow3)).trans ((HB3.out.block x HRF.out.1.lt).trans HRF.out.1)
                           have t4 := hx4.c0
                           have f4 := hx4.f0
                           clear hown hgrow hat hlt4 hrow3 hx4 ry ra rb oy)
                        | fail)
                    all_goals
                      obtain ⟨v5, u5, cs5, hbx5, hrow5, hel5, hu5, k0, k1, k2, k3, k4⟩ := HP4.out.1
                      obtain ⟨ua, uc, eu⟩ := row_slice10 hu5
                      subst eu
                      obtain ⟨M, hM⟩ : ∃ M, N1.length = M := ⟨_, rfl⟩
                      obtain ⟨w5, hw5⟩ : ∃ w5, w4.setCell ⟨x, 0, none⟩ (.slice (some ⟨g4, 0, none⟩) (N + 1) c4) = w5 := ⟨_, rfl⟩
                      rw [hw5] at HP4 hbx5 hrow5 hel5 hu5 k4
                      rw [hM] at hbx5 hu5 hn2 k3
                      have HMM : Hid (N1.length = M) := hM
                      have hle5 := below_box4 w5 (.cells #[.int .u64 Z] 33)
                      have hlit := laidI1 w5 (.int .u64 Z) 33
                      have hrow6 := row_below hu5 hle5
                      have x1 := hbx5.c1
                      have hx6 : Bx2 (w5.alloc (.cells #[.int .u64 Z] 33)) x v5 (.slice ua M uc) := (hle5.block x hbx5.lt).trans hbx5
                      have HK5 : Hid (Keeps G1 wr w5) := (Below.keeps HB2.out G1).trans HP4.out.2
                      have HPS : Hid (∀ g6 c6 w6, w6.ownsRow 0 33 1 (.slice (some ⟨g6, 0, none⟩) (M + 1) c6) (M + 1) (N1.map encU ++ [.int .u64 Z]) → (w5.alloc (.cells #[.int .u64 Z] 33)).grownBy w6 (Value.slice ua M uc).ownBlock → ((Value.slice ua M uc).ownBlock = some g6 ∨ g6 = (w5.alloc (.cells #[.int .u64 Z] 33)).heap.size) → g6 < w6.heap.size → (Bx2 w6 x v5 (.slice ua M uc)) ∧ R10Post G1 wr x O1 N1 [(k, kl, vl)] sj 0 (.returned (.int .i64 0)) (w6.setCell ⟨x, 1, none⟩ (.slice (some ⟨g6, 0, none⟩) (M + 1) c6))) := by
                        intro g6 c6 w6 hown hgrow hat hlt6
                        have hx66 : Bx2 w6 x v5 (.slice ua M uc) := (hgrow.block x hx6.lt (hx6.not_row (by decide) hrow6)).trans hx6
                        refine ⟨hx66, ?_⟩
                        have e9 := HMM.out
                        subst e9
                        have hs5 : w0.heap.size ≤ w5.heap.size := HP4.out.2.size
                        have hs6 := hle5.size
                        have hsw := HB2.out.size
                        have hown9 := hown
                        rw [← HSN2.out] at hown9
                        have hkk : Keeps G1 wr (w6.setCell ⟨x, 1, none⟩ (.slice (some ⟨g6, 0, none⟩) (N1.length + 1) c6)) := (HK5.out.then (keeps_of (G := fun q => (G1 q ∨ w0.heap.size ≤ q) ∧ q < w4.heap.size) (t := x) hle5 hgrow k3) (fun i hi => hi.1.imp id (fun h9 => Nat.le_trans hsw h9))).setCell (p := ⟨x, 1, none⟩) HGS.out.1 _
                        refine ⟨rfl, hkk, fun h9 => absurd rfl h9, fun _ => ⟨_, refM_seq (B := w0.heap.size) (s := sj) (Nat.le_trans hs5 hs6) hx6 (row_below hrow5 hle5) (hel5.same (fun z hz q hq => hle5.block q (k4 q (k2 z hz q hq)))) hrow6 k0 k1 k2 (fun q hq => Nat.lt_of_lt_of_le (k4 q hq) hs6) hown9 hgrow ⟨?_, hlt6⟩, fun q hq => ?_⟩⟩
                        · rcases hat with h9 | h9
                          · exact .inl (k3 _ h9)
                          · exact .inr (by rw [h9]; omega)
                        · rcases hq.1 with h9 | h9
                          · exact h9.1.imp id (fun h8 => Nat.le_trans hsw h8)
                          · exact .inr (Nat.le_trans hsw h9)
                      have HX6 : Hid (w5.heap.size ≤ (w5.alloc (.cells #[.int .u64 Z] 33)).heap.size) := hle5.size
                      clear hbx5 hrow5 hel5 hu5 k0 k1 k2 k3 k4 hM hle5 HP4 HK5
                      go_wp2_with (first | (at_builtin; refine wpList_append_lies _ rfl (.tmp 90) (.tmp 95) 24 rfl 0 33 j0 (.int .u64 0) 1 8 Try.underlying24 hj0 hy0 hy1 hy2 rfl (by decide) (.slice ua M uc) M (N1.map encU) rfl hrow6 ⟨w5.heap.size, 0, none⟩ 1 1 [.int .u64 Z] rfl rfl hlit (by intro u hu; simp at hu; rw [hu]; rfl) (by decide) (by simp only [maxLen]; omega) (by omega) (Nat.zero_le _) _ rfl ?_; intro g6 c6 w6 hown hgrow hat hlt6; have HP6 : Hid _ := HPS.out g6 c6 w6 hown hgrow hat hlt6; have y1 := HP6.out.1.c1; have y2 := HP6.out.1.f1; clear hown hgrow hat hlt6) | fail)
                      have HNX9 : Hid (R10I G w x os ns ps s (j + 1) (w6.setCell ⟨x, 1, none⟩ (.slice (some ⟨g6, 0, none⟩) (M + 1) c6))) := HNXT.out _ HP6.out.2
                      go_wp2_with fail
                      go_roundg (gk - 1)
                      case measure => exact q1
                      case rel => exact ⟨j + 1, q2, by go_num, HNX9⟩
                  · have hjK : j = K := by omega
                    subst hjK
                    go_wp2
                    go_ret
                    obtain ⟨hk1, G1, hR1, hG1⟩ := HI.out
                    have h9 : ps.take j = ps := by rw [← HK.out, List.take_length]
                    rw [h9] at hR1
                    refine ⟨by rw [HC0.out]; rfl, hk1, fun h8 => absurd HC0.out h8, fun _ => ⟨G1, ?_, hG1⟩⟩
                    rw [HK.out]
                    exact hR1
        · go_loopg [42] K (fun gk iv wq => ∃ j : Nat, gk + j = K ∧ iv = .int .i64 (j : Int) ∧ Hid ((hs.take j).any noHt = false) ∧ wq = w1)
          case atStart => exact ⟨0, by omega, rfl, by show _ = _; simp, rfl⟩
          case round =>
            obtain ⟨j, hj, rfl, HA, rfl⟩ := hrel
            by_cases hlt : j < K
            · exfalso
              omega
            · have hjK : j = K := by omega
              subst hjK
              have HC3 : Hid (c = if S ≤ LA then 10 else 0) := by show _ = _; rw [HCH.out, if_neg (by rw [HA.out]; simp)]
              have hla := rlast_any G wr x os ns (HRM.out.below HB1.out) (by omega)
              rw [HLA.out] at hla
              clear HA HCH
              go_wp2_with fail
              refine hla.mono ?_
              rintro e w2 ⟨rfl, nn, hw2⟩
              have HB2 : Hid (Below w.heap.size w w2) := by rw [hw2]; exact below_drewN HB1.out _
              clear hla hw2
              by_cases hle : S ≤ LA
              · have hc1 : c = 10 := by rw [HC3.out, if_pos hle]
                go_wp2
                go_ret
                exact r10Post_no HB2.out hc1.symm (by rw [hc1]; omega)
              · have HC0 : Hid (c = 0) := by show _ = _; rw [HC3.out, if_neg hle]
                obtain ⟨K, rfl⟩ : ∃ K, K = j := ⟨_, rfl⟩
                go_wp2_with fail
                go_loopg [70] K (fun gk iv wq => ∃ j : Nat, gk + j = K ∧ iv = .int .i64 (j : Int) ∧ Hid (R10I G w x os ns ps s j wq))
                case atStart => exact ⟨0, by omega, rfl, ⟨Below.keeps HB2.out _, G, by simpa using HRM.out.below HB2.out, fun q hq => .inl hq⟩⟩
                case round =>
                  obtain ⟨j, hj, rfl, HI⟩ := hrel
                  by_cases hlt : j < K
                  · exfalso
                    omega
                  · have hjK : j = K := by omega
                    subst hjK
                    go_wp2
                    go_ret
                    obtain ⟨hk1, G1, hR1, hG1⟩ := HI.out
                    have h9 : ps.take j = ps := by rw [← HK.out, List.take_length]
                    rw [h9] at hR1
                    refine ⟨by rw [HC0.out]; rfl, hk1, fun h8 => absurd HC0.out h8, fun _ => ⟨G1, ?_, hG1⟩⟩
                    rw [HK.out]
                    exact hR1
    · have hc1 : c = 13 := by
        rw [HC.out, if_pos rfl, if_neg]
        intro h9
        unfold hasN at h9
        have := of_decide_eq_true h9
        omega
      by_cases hs2 : S < 1
      · go_wp2
        go_ret
        exact r10Post_no HB1.out hc1.symm (by rw [hc1]; omega)
      · have hs3 : (72057594037927936 : Int) ≤ S := by omega
        go_wp2
        go_ret
        exact r10Post_no HB1.out hc1.symm (by rw [hc1]; omega)
  · have hc1 : c = d := by rw [HC.out, if_neg h0]
    have hdb : (d != 0) = true := by simp [h0]
    have hdb2 : (d == 0) = false := by simp [h0]
    go_wp2
    go_ret
    exact r10Post_no HB1.out hc1.symm (by rw [hc1]; exact h0)

end Go.Proofs.Ytdlefbbpgbjibaa

/- What a law is told of ops that came in. -/
namespace Go.Proofs.Ytdlefbbpgbjibaa
set_option maxRecDepth 20000
open Go.ChangeShapes Go.WideShapes Go.ChangeAt Go.RowKit

theorem u8_byte {k : Int} (h : (Lit.int .u8 k).wf = true) : k = ((UInt8.ofNat k.toNat).toNat : Int) := by
  have := bounds_u8 h
  simp
  omega

theorem op_of {H : Type} {enc : TypeId × Value → H} {w : World} {n : Nat} {v0 v1 v2 : Value} {y : DataW H × List MemPlace}
    (h : DataW.trod enc Try.prog w 0 (fun _ => true) true n 63 [v0, v1, v2] = some y) : ∃ o : OpB, v0 = .int .u8 (o.1.toNat : Int) ∧ Arg w v1 o.2.1 ∧ Arg w v2 o.2.2 := by
  obtain ⟨y0, y1, y2, n', _, _, h0, h1, h2⟩ := Deep.trod_struct3 Try.underlying63 h
  simp at h0 h1 h2
  have c5 : Try.prog.cellsOf 5 = 1 := by kernel_rfl
  have c25 : Try.prog.cellsOf 40 = 1 := by kernel_rfl
  rw [c5] at h0
  rw [c25] at h1 h2
  simp at h0 h1 h2
  obtain ⟨k, e0, _, wk⟩ := DataW.trod_int Try.underlying5 h0
  obtain ⟨a1, l1, q1, z1, rfl, r1⟩ := row_of_trod h1
  obtain ⟨a2, l2, q2, z2, rfl, r2⟩ := row_of_trod h2
  simp at e0
  subst e0
  exact ⟨(UInt8.ofNat k.toNat, _, _), congrArg _ (u8_byte wk), arg_of r1, arg_of r2⟩

theorem opArg_of {H : Type} {enc : TypeId × Value → H} {w : World} {r : Reach} {base : Nat} {v : Value} {d : DataW H} {ps : List MemPlace}
    (hv : Value.okWide Try.prog w r base 63 v) (h : DataW.Trod enc Try.prog w 0 (fun _ => true) true 63 v d ps) :
    ∃ o : OpB, ∃ x y, v = .agg #[.int .u8 (o.1.toNat : Int), x, y] ∧ Arg w x o.2.1 ∧ Arg w y o.2.2 := by
  obtain ⟨v0, v1, v2, y0, y1, y2, n, rfl, _, _, h0, h1, h2⟩ := Joins.open_agg3 Try.underlying63 (by kernel_rfl) (by kernel_rfl) hv h
  obtain ⟨k, e0, _, wk⟩ := DataW.trod_int Try.underlying5 h0
  obtain ⟨a1, l1, q1, z1, rfl, r1⟩ := row_of_trod h1
  obtain ⟨a2, l2, q2, z2, rfl, r2⟩ := row_of_trod h2
  simp at e0
  subst e0
  refine ⟨(UInt8.ofNat k.toNat, _, _), _, _, ?_, arg_of r1, arg_of r2⟩
  rw [← u8_byte wk]

theorem opsArg_of {H : Type} {enc : TypeId × Value → H} {w : World} {a : Option Addr} {len cap : Nat} {d : DataW H} {ps : List MemPlace}
    (h : DataW.Trod enc Try.prog w 0 (fun _ => true) true 29 (.slice a len cap) d ps) : ∃ os, ArgO w (.slice a len cap) os := by
  obtain ⟨fuel, hf⟩ := h
  rcases Deep.open_slice Try.underlying29 hf with ⟨hcs, _⟩ | ⟨x, len', cap', m, n, D, Pl, hcs, _, hl, hm, hmm, _, hall⟩
  · simp [Value.cells] at hcs
    obtain ⟨rfl, rfl, rfl⟩ := hcs
    exact ⟨[], LsO.nil w⟩
  · simp [Value.cells] at hcs
    obtain ⟨rfl, rfl, rfl⟩ := hcs
    simp only [if_true] at hmm
    subst hmm
    have c3 : Try.prog.cellsOf 63 = 3 := by kernel_rfl
    rw [c3] at hall
    have hsp : 0 < len → x.spot = none := by
      intro h0
      obtain ⟨cs', h1, _⟩ := hall 0 (by omega)
      obtain ⟨_, hlen, hcell⟩ := World.cells?_some h1
      match cs', hlen with
      | [v0, v1, v2], _ =>
        have k0 : w.cell? ((x.add (0 * 3)).add 0) = some v0 := hcell 0 (by decide)
        simpa [Addr.add] using World.cell?_spot k0
    have hex : ∀ i, i < len → ∃ o : OpB, ∃ b off, x = ⟨b, off, none⟩ ∧ OpAt Arg w b (off + i * 3) o := by
      intro i hi
      obtain ⟨cs', h1, h2⟩ := hall i (by omega)
      obtain ⟨_, hlen, hcell⟩ := World.cells?_some h1
      match cs', hlen with
      | [v0, v1, v2], _ =>
        obtain ⟨o, rfl, r1, r2⟩ := op_of h2
        have k0 : w.cell? ((x.add (i * 3)).add 0) = some (.int .u8 (o.1.toNat : Int)) := hcell 0 (by decide)
        have k1 : w.cell? ((x.add (i * 3)).add 1) = some v1 := hcell 1 (by decide)
        have k2 : w.cell? ((x.add (i * 3)).add 2) = some v2 := hcell 2 (by decide)
        have hspot := hsp (by omega)
        obtain ⟨b, off, spot⟩ := x
        simp only at hspot
        subst hspot
        simp only [Addr.add_lit] at k0 k1 k2
        exact ⟨o, b, off, rfl, v1, v2, k0, k1, k2, r1, r2⟩
    obtain ⟨L, hL⟩ := Deep.choose_lt hex
    refine ⟨(List.range len).map L, some x, m, by simp, by simp; omega, hm, fun j hj => ?_⟩
    have hj' : j < len := by simpa using hj
    obtain ⟨b, off, rfl, ho⟩ := hL j hj'
    exact ⟨b, off, rfl, by simpa using ho⟩

end Go.Proofs.Ytdlefbbpgbjibaa

/- What a law of memo is told of steps that came in. -/
namespace Go.Proofs.Ytdlefbbpgbjibaa
open Go.ChangeShapes Go.WideShapes Go.ChangeAt Go.RowKit
set_option linter.unusedVariables false
set_option maxRecDepth 20000

structure MSt where
  alone : Bool
  ops : List OpB
  seq : Nat
  hts : List Int

/-- heights that came in -/
def ArgH (w : World) (v : Value) (hs : List Int) : Prop := ∃ a len cap zs, v = .slice a len cap ∧ IsRow .i64 w a len cap zs ∧ hs = zs.take len

theorem isRow_below {k : IntKind} {B : Nat} {w w' : World} {a : Option Addr} {len cap : Nat} {zs : List Int} (h : IsRow k w a len cap zs) (hb : Below B w w') (hB : w.heap.size ≤ B) : IsRow k w' a len cap zs := by
  rcases h with h | ⟨x, e, h1, h2, h3, h4, h5⟩
  · exact .inl h
  · exact .inr ⟨x, e, h1, h2, h3, fun i hi => by
      have h9 := h4 i hi
      rw [hb.cell (Nat.lt_of_lt_of_le (World.block_lt_of_cell? w _ h9) hB)]
      exact h9, h5⟩

theorem ArgH.below {B : Nat} {w w' : World} {v : Value} {hs : List Int} (h : ArgH w v hs) (hb : Below B w w') (hB : w.heap.size ≤ B) : ArgH w' v hs := by
  obtain ⟨a, len, cap, zs, e, h1, h2⟩ := h
  exact ⟨a, len, cap, zs, e, isRow_below h1 hb hB, h2⟩

structure MStAt (w : World) (b off : Nat) (o : MSt) (v1 v3 : Value) : Prop where
  c0 : w.cell? ⟨b, off, none⟩ = some (.bool o.alone)
  c1 : w.cell? ⟨b, off + 1, none⟩ = some v1
  c2 : w.cell? ⟨b, off + 2, none⟩ = some (.int .u64 (o.seq : Int))
  c3 : w.cell? ⟨b, off + 3, none⟩ = some v3
  a1 : ArgO w v1 o.ops
  a3 : ArgH w v3 o.hts
  s2 : o.seq < 18446744073709551616

def ArgM (w : World) (v : Value) (os : List MSt) : Prop :=
  ∃ a cap, v = .slice a os.length cap ∧ os.length ≤ cap ∧ cap ≤ 9223372036854775807 ∧ ∀ j (hj : j < os.length), ∃ b off, a = some ⟨b, off, none⟩ ∧ ∃ v1 v3, MStAt w b (off + j * 4) os[j] v1 v3

theorem cell_belowM {B : Nat} {w w' : World} {p : Addr} {v : Value} (hb : Below B w w') (hB : w.heap.size ≤ B) (h : w.cell? p = some v) : w'.cell? p = some v :=
  (hb.cell (Nat.lt_of_lt_of_le (World.block_lt_of_cell? w _ h) hB)).trans h

theorem MStAt.below {B : Nat} {w w' : World} {b off : Nat} {o : MSt} {v1 v3 : Value} (h : MStAt w b off o v1 v3) (hb : Below B w w') (hB : w.heap.size ≤ B) : MStAt w' b off o v1 v3 :=
  ⟨cell_belowM hb hB h.c0, cell_belowM hb hB h.c1, cell_belowM hb hB h.c2, cell_belowM hb hB h.c3, LsO.belowA h.a1 hb hB, h.a3.below hb hB, h.s2⟩

theorem ArgM.below {B : Nat} {w w' : World} {v : Value} {os : List MSt} (h : ArgM w v os) (hb : Below B w w') (hB : w.heap.size ≤ B) : ArgM w' v os := by
  obtain ⟨a, cap, e, h1, h2, h3⟩ := h
  refine ⟨a, cap, e, h1, h2, fun j hj => ?_⟩
  obtain ⟨b, off, e2, v1, v3, h4⟩ := h3 j hj
  exact ⟨b, off, e2, v1, v3, h4.below hb hB⟩

theorem intsM_of_trod {H : Type} {enc : TypeId × Value → H} {w : World} {n : Nat} {v : Value} {y : DataW H × List MemPlace}
    (h : DataW.trod enc Try.prog w 0 (fun _ => true) true n 67 [v] = some y) : ∃ a len cap zs, v = .slice a len cap ∧ IsRow .i64 w a len cap zs := by
  rcases open_ints Try.underlying67 Try.underlying3 (by kernel_rfl) h with ⟨hcs, _⟩ | ⟨x, l, c, zs, hcs, _, hl, hm, hz, _, hcell, hwz⟩
  · simp at hcs
    exact ⟨none, 0, 0, [], hcs, .inl ⟨rfl, rfl, rfl, rfl⟩⟩
  · simp at hcs
    exact ⟨some x, l, c, zs, hcs, .inr ⟨_, rfl, hl, hm, by simpa using hz, hcell, hwz⟩⟩

theorem mst_of {H : Type} {enc : TypeId × Value → H} {w : World} {n : Nat} {v0 v1 v2 v3 : Value} {y : DataW H × List MemPlace}
    (h : DataW.trod enc Try.prog w 0 (fun _ => true) true n 86 [v0, v1, v2, v3] = some y) : ∃ o : MSt, v0 = .bool o.alone ∧ ArgO w v1 o.ops ∧ v2 = .int .u64 (o.seq : Int) ∧ ArgH w v3 o.hts ∧ o.seq < 18446744073709551616 := by
  obtain ⟨y0, y1, y2, y3, n', _, _, h0, h1, h2, h3⟩ := Joins.trod_struct4 Try.underlying86 h
  have c8 : Try.prog.cellsOf 33 = 1 := by kernel_rfl
  have c4 : Try.prog.cellsOf 4 = 1 := by kernel_rfl
  have c25 : Try.prog.cellsOf 67 = 1 := by kernel_rfl
  have co : Try.prog.cellsOf 29 = 1 := by kernel_rfl
  simp only [c8, c4, c25, co] at h0 h1 h2 h3
  simp at h0 h1 h2 h3
  obtain ⟨k, e0, _⟩ := DataW.trod_bool Try.underlying4 h0
  obtain ⟨s, e2, _, ws⟩ := DataW.trod_int Try.underlying33 h2
  obtain ⟨a3, l3, q3, z3, rfl, r3⟩ := intsM_of_trod h3
  obtain ⟨a1, l1, q1, rfl⟩ : ∃ a l q, v1 = .slice a l q := by
    rcases Deep.open_slice Try.underlying29 h1 with ⟨hcs, _⟩ | ⟨x, len', cap', m, n', D, Pl, hcs, _⟩
    · simp at hcs; exact ⟨_, _, _, hcs⟩
    · simp at hcs; exact ⟨_, _, _, hcs⟩
  obtain ⟨os, ho⟩ := opsArg_of (H := H) (enc := enc) (w := w) (a := a1) (len := l1) (cap := q1) (d := y1.1) (ps := y1.2) ⟨n', by simpa [Value.cells] using h1⟩
  simp at e0 e2
  subst e0 e2
  have hs := bounds_u64 ws
  refine ⟨⟨k, os, s.toNat, _⟩, rfl, ho, ?_, ⟨_, _, _, _, rfl, r3, rfl⟩, by show s.toNat < _; omega⟩
  rw [show ((s.toNat : Nat) : Int) = s by omega]

theorem stepsArg_of {H : Type} {enc : TypeId × Value → H} {w : World} {a : Option Addr} {len cap : Nat} {d : DataW H} {ps : List MemPlace}
    (h : DataW.Trod enc Try.prog w 0 (fun _ => true) true 22 (.slice a len cap) d ps) : ∃ os, ArgM w (.slice a len cap) os := by
  obtain ⟨fuel, hf⟩ := h
  rcases Deep.open_slice Try.underlying22 hf with ⟨hcs, _⟩ | ⟨x, len', cap', m, n, D, Pl, hcs, _, hl, hm, hmm, _, hall⟩
  · simp [Value.cells] at hcs
    obtain ⟨rfl, rfl, rfl⟩ := hcs
    exact ⟨[], none, 0, rfl, by simp, by omega, fun j hj => by simp at hj⟩
  · simp [Value.cells] at hcs
    obtain ⟨rfl, rfl, rfl⟩ := hcs
    simp only [if_true] at hmm
    subst hmm
    have c6 : Try.prog.cellsOf 86 = 4 := by kernel_rfl
    rw [c6] at hall
    have hsp : 0 < len → x.spot = none := by
      intro h0
      obtain ⟨cs', h1, _⟩ := hall 0 (by omega)
      obtain ⟨_, hlen, hcell⟩ := World.cells?_some h1
      match cs', hlen with
      | [v0, v1, v2, v3], _ =>
        have k0 : w.cell? ((x.add (0 * 4)).add 0) = some v0 := hcell 0 (by decide)
        simpa [Addr.add] using World.cell?_spot k0
    have hex : ∀ i, i < len → ∃ o : MSt, ∃ b off, x = ⟨b, off, none⟩ ∧ ∃ v1 v3, MStAt w b (off + i * 4) o v1 v3 := by
      intro i hi
      obtain ⟨cs', h1, h2⟩ := hall i (by omega)
      obtain ⟨_, hlen, hcell⟩ := World.cells?_some h1
      match cs', hlen with
      | [v0, v1, v2, v3], _ =>
        obtain ⟨o, rfl, r1, rfl, r3, s2⟩ := mst_of h2
        have k0 := hcell 0 (by decide)
        have k1 := hcell 1 (by decide)
        have k2 := hcell 2 (by decide)
        have k3 := hcell 3 (by decide)
        have hspot := hsp (by omega)
        obtain ⟨b, off, spot⟩ := x
        simp only at hspot
        subst hspot
        simp only [Addr.add_lit] at k0 k1 k2 k3
        exact ⟨o, b, off, rfl, v1, v3, k0, k1, k2, k3, r1, r3, s2⟩
    have hI : Inhabited MSt := ⟨⟨false, [], 0, []⟩⟩
    obtain ⟨L, hL⟩ := Deep.choose_lt hex
    refine ⟨(List.range len).map L, some x, m, by simp, by simp; omega, by unfold maxLen at hm; omega, fun j hj => ?_⟩
    have hj' : j < len := by simpa using hj
    obtain ⟨b, off, rfl, v1, v3, hD⟩ := hL j hj'
    exact ⟨b, off, rfl, v1, v3, by simpa using hD⟩

end Go.Proofs.Ytdlefbbpgbjibaa

/- A memo and the document's own, side by side. -/
namespace Go.Proofs.Ytdlefbbpgbjibaa
set_option maxRecDepth 20000
open Go.RowKit
set_option linter.unusedVariables false
set_option linter.unusedSimpArgs false

/-- the versions of ops with their numbers; the spans -/
def verP : List (OpB × Nat) → List EnB
  | [] => []
  | z :: r => if z.1.1 = 3 then verP r else (z.1.2.1, z.2, z.1.1, z.1.2.2) :: verP r
def spnP : List (OpB × Nat) → List SpB
  | [] => []
  | z :: r => if z.1.1 = 3 then (z.1.2.1, z.1.2.2, z.2) :: spnP r else spnP r

/-- ops, from a number on -/
def zipS (ps : List OpB) (s : Nat) : List (OpB × Nat) := ps.zip (List.range' s ps.length)

theorem verP_app (a b : List (OpB × Nat)) : verP (a ++ b) = verP a ++ verP b := by
  induction a with
  | nil => rfl
  | cons z r ih => by_cases h : z.1.1 = 3 <;> simp [verP, h, ih]
theorem spnP_app (a b : List (OpB × Nat)) : spnP (a ++ b) = spnP a ++ spnP b := by
  induction a with
  | nil => rfl
  | cons z r ih => by_cases h : z.1.1 = 3 <;> simp [spnP, h, ih]
theorem zipS_cons (o : OpB) (r : List OpB) (s : Nat) : zipS (o :: r) s = (o, s) :: zipS r (s + 1) := by
  unfold zipS
  simp [List.range'_succ]
theorem verP_zip (ps : List OpB) (s : Nat) : verP (zipS ps s) = verO ps s := by
  induction ps generalizing s with
  | nil => rfl
  | cons o r ih => rw [zipS_cons]; by_cases h : o.1 = 3 <;> simp [verP, verO, h, ih]
theorem spnP_zip (ps : List OpB) (s : Nat) : spnP (zipS ps s) = spnO ps s := by
  induction ps generalizing s with
  | nil => rfl
  | cons o r ih => rw [zipS_cons]; by_cases h : o.1 = 3 <;> simp [spnP, spnO, h, ih]
theorem zipS_fst (ps : List OpB) (s : Nat) : (zipS ps s).map (·.1) = ps := by
  unfold zipS
  rw [List.map_fst_zip (by simp)]
theorem zipS_snd (ps : List OpB) (s : Nat) : (zipS ps s).map (·.2) = List.range' s ps.length := by
  unfold zipS
  rw [List.map_snd_zip (by simp)]
theorem zipS_mem {ps : List OpB} {s : Nat} {z : OpB × Nat} (h : z ∈ zipS ps s) : z.1 ∈ ps ∧ s ≤ z.2 ∧ z.2 < s + ps.length := by
  unfold zipS at h
  have h1 := List.of_mem_zip (a := z.1) (b := z.2) h
  have h2 := List.mem_range'_1.1 h1.2
  exact ⟨h1.1, h2⟩
theorem verP_len (Z : List (OpB × Nat)) : (verP Z).length + (spnP Z).length = Z.length := by
  induction Z with
  | nil => rfl
  | cons z r ih =>
    by_cases h : z.1.1 = 3
    · simp only [verP, spnP, if_pos h, List.length_cons]; omega
    · simp only [verP, spnP, if_neg h, List.length_cons]; omega
theorem verP_mem {Z : List (OpB × Nat)} {e : EnB} (h : e ∈ verP Z) : ∃ z ∈ Z, e.1 = z.1.2.1 ∧ e.2.1 = z.2 ∧ e.2.2.2 = z.1.2.2 := by
  induction Z with
  | nil => simp [verP] at h
  | cons x r ih =>
    unfold verP at h
    by_cases h3 : x.1.1 = 3
    · rw [if_pos h3] at h
      obtain ⟨o, ho, h1⟩ := ih h
      exact ⟨o, List.mem_cons_of_mem _ ho, h1⟩
    · rw [if_neg h3] at h
      rcases List.mem_cons.1 h with rfl | h
      · exact ⟨x, List.mem_cons_self, rfl, rfl, rfl⟩
      · obtain ⟨o, ho, h1⟩ := ih h
        exact ⟨o, List.mem_cons_of_mem _ ho, h1⟩
theorem spnP_mem {Z : List (OpB × Nat)} {e : SpB} (h : e ∈ spnP Z) : ∃ z ∈ Z, e.1 = z.1.2.1 ∧ e.2.1 = z.1.2.2 := by
  induction Z with
  | nil => simp [spnP] at h
  | cons x r ih =>
    unfold spnP at h
    by_cases h3 : x.1.1 = 3
    · rw [if_pos h3] at h
      rcases List.mem_cons.1 h with rfl | h
      · exact ⟨x, List.mem_cons_self, rfl, rfl⟩
      · obtain ⟨o, ho, h1⟩ := ih h
        exact ⟨o, List.mem_cons_of_mem _ ho, h1⟩
    · rw [if_neg h3] at h
      obtain ⟨o, ho, h1⟩ := ih h
      exact ⟨o, List.mem_cons_of_mem _ ho, h1⟩

theorem lastN_app (ns : List Nat) (s n : Nat) : lastN (ns ++ List.range' s n) = if n = 0 then lastN ns else s + n - 1 := by
  unfold lastN
  by_cases h : n = 0
  · subst h
    simp
  · rw [if_neg h, List.getLast?_append, List.getLast?_range']
    simp [h]

/-- ops of one's own stay, whatever is done elsewhere -/
theorem OwnO.keeps {B : Nat} {F : Nat → Prop} {w w' : World} {v : Value} {os : List OpB} (h : OwnO B w v os) (hk : Keeps F w w') (hF : ∀ q, B ≤ q → q < w.heap.size → ¬ F q) : OwnO B w' v os := by
  obtain ⟨cs, h1, h2⟩ := h
  have hs : ∀ q, B ≤ q ∧ q < w.heap.size → w'.heap[q]? = w.heap[q]? := fun q hq => hk.block q hq.2 (hF q hq.1 hq.2)
  refine ⟨cs, row_same9 h1 (fun q hq => hs q (h1.lt q hq)), fun j hj => ?_⟩
  obtain ⟨x, y, c0, c1, c2, ox, oy⟩ := h2 j hj
  exact ⟨x, y, c0, c1, c2, ownN_same9 ox (fun q hq => hs q (ownN_lt9 ox q hq)), ownN_same9 oy (fun q hq => hs q (ownN_lt9 oy q hq))⟩

/-- both memos, side by side -/
structure RunI (PM G : Nat → Prop) (W0 W : World) (m x : Nat) (Z : List (OpB × Nat)) (PM' G' : Nat → Prop) (L : List EnB) : Prop where
  mm : MmP PM' W m L (spnP Z) ((lastN (Z.map (·.2)) : Nat) : Int)
  rf : RefM G' W x (Z.map (·.1)) (Z.map (·.2))
  ap : ∀ q, PM' q → ¬ G' q
  pm : ∀ q, PM' q → PM q ∨ W0.heap.size ≤ q
  gg : ∀ q, G' q → G q ∨ W0.heap.size ≤ q
  lt : ∀ q, PM' q → q < W.heap.size
  kp : Keeps (fun q => PM q ∨ G q) W0 W
  pr : L.Perm (verP Z)
  ok : ∀ z ∈ Z, chkOp (z.1.1.toNat : Int) z.1.2.1 z.1.2.2 = 0
  up : ∀ z ∈ Z, z.2 ≤ lastN (Z.map (·.2))
  mx : lastN (Z.map (·.2)) ≤ 72057594037927935
  rs : (Z.map (·.2)).Pairwise (· < ·)
  lo : ∀ z ∈ Z, 1 ≤ z.2

theorem RunI.below {PM G PM' G' : Nat → Prop} {W0 W W' : World} {m x : Nat} {Z : List (OpB × Nat)} {L : List EnB} (h : RunI PM G W0 W m x Z PM' G' L) (hb : Below W.heap.size W W') : RunI PM G W0 W' m x Z PM' G' L :=
  ⟨h.mm.below hb, h.rf.below hb, h.ap, h.pm, h.gg, fun q hq => Nat.lt_of_lt_of_le (h.lt q hq) hb.size, h.kp.then (Below.keeps hb (fun _ => False)) (fun i hi => hi.elim), h.pr, h.ok, h.up, h.mx, h.rs, h.lo⟩

theorem RunI.keeps {PM G PM' G' F : Nat → Prop} {W0 W W' : World} {m x : Nat} {Z : List (OpB × Nat)} {L : List EnB} (h : RunI PM G W0 W m x Z PM' G' L) (hk : Keeps F W W') (hF : ∀ q, F q → ¬ PM' q ∧ ¬ G' q ∧ W0.heap.size ≤ q) : RunI PM G W0 W' m x Z PM' G' L :=
  ⟨h.mm.keeps hk (fun q _ hq hf => (hF q hf).1 hq), h.rf.keeps hk (fun q hq hf => (hF q hf).2.1 hq), h.ap, h.pm, h.gg, fun q hq => Nat.lt_of_lt_of_le (h.lt q hq) hk.size, h.kp.then hk (fun i hi => .inr (hF i hi).2.2), h.pr, h.ok, h.up, h.mx, h.rs, h.lo⟩

/-- both do the same -/
theorem RunI.step {PM G PM' G' : Nat → Prop} {W0 W W1 W2 : World} {m x s : Nat} {Z : List (OpB × Nat)} {L : List EnB} {ps : List OpB} {hs : List Int} {c : Int} {e1 e2 : Ending} (h : RunI PM G W0 W m x Z PM' G' L) (hc : batC ps (s : Int) hs ((lastN (Z.map (·.2)) : Nat) : Int) = c)
    (hq : BatQ PM' W m L (spnP Z) ((lastN (Z.map (·.2)) : Nat) : Int) ps s c e1 W1) (hr : R10Post G' W1 x (Z.map (·.1)) (Z.map (·.2)) ps s c e2 W2) :
    ∃ (PM2 G2 : Nat → Prop) (L2 : List EnB), RunI PM G W0 W2 m x (if c = 0 then Z ++ zipS ps s else Z) PM2 G2 L2 ∧ Keeps (fun q => PM' q ∨ G' q) W W2 ∧ ∀ q, PM2 q ∨ G2 q → (PM' q ∨ G' q) ∨ W.heap.size ≤ q := by
  obtain ⟨_, hk1, hn1, hy1⟩ := hq
  obtain ⟨_, hk2, hn2, hy2⟩ := hr
  have hkk : Keeps (fun q => PM' q ∨ G' q) W W2 := (hk1.mono (fun i hi => Or.inl hi)).then (hk2.mono (fun i hi => Or.inr hi)) (fun i hi => .inl hi)
  have hk02 : Keeps (fun q => PM q ∨ G q) W0 W2 := h.kp.then hkk (fun i hi => hi.elim (fun h9 => (h.pm i h9).imp Or.inl id) (fun h9 => (h.gg i h9).imp Or.inr id))
  by_cases h0 : c = 0
  · rw [if_pos h0]
    obtain ⟨L2, hp, hM⟩ := hy1 h0
    obtain ⟨G2, hR, hG2⟩ := hy2 h0
    have hz := batC_zero (hc.trans h0)
    have hs1 := hk1.size
    have hs0 := h.kp.size
    have hlt : ∀ q, G' q → q < W.heap.size := fun q hq => h.rf.lt hq
    have hlast : ((lastN ((Z ++ zipS ps s).map (·.2)) : Nat) : Int) = if ps.length = 0 then ((lastN (Z.map (·.2)) : Nat) : Int) else ((s + ps.length - 1 : Nat) : Int) := by
      rw [List.map_append, zipS_snd, lastN_app]
      by_cases h9 : ps.length = 0
      · rw [if_pos h9, if_pos h9]
      · rw [if_neg h9, if_neg h9]
    have hup : lastN (Z.map (·.2)) ≤ lastN ((Z ++ zipS ps s).map (·.2)) := by
      rw [List.map_append, zipS_snd, lastN_app]
      split
      · exact Nat.le_refl _
      · have := hz.2.2
        omega
    refine ⟨fun q => (PM' q ∨ W.heap.size ≤ q) ∧ q < W1.heap.size, G2, L2, ⟨?_, ?_, fun q hq hg => ?_, fun q hq => ?_, fun q hq => ?_, fun q hq => Nat.lt_of_lt_of_le hq.2 hk2.size, hk02, ?_, fun z hz9 => ?_, fun z hz9 => ?_, ?_, ?_, fun z hz9 => ?_⟩, hkk, fun q hq => ?_⟩
    · rw [spnP_app, spnP_zip, hlast]
      exact (hM.mono (Q := fun q => (PM' q ∨ W.heap.size ≤ q) ∧ q < W1.heap.size) (fun q h1 h2 => ⟨h2, h1⟩)).keeps hk2 (fun q _ hq hg => by
        rcases hq.1 with h9 | h9
        · exact h.ap q h9 hg
        · have := hlt q hg; omega)
    · rw [List.map_append, zipS_fst, List.map_append, zipS_snd]
      exact hR
    · rcases hG2 q hg with hg | hg
      · rcases hq.1 with h9 | h9
        · exact h.ap q h9 hg
        · have := hlt q hg; omega
      · have := hq.2; omega
    · rcases hq.1 with h9 | h9
      · exact h.pm q h9
      · exact .inr (by omega)
    · rcases hG2 q hq with h9 | h9
      · exact h.gg q h9
      · exact .inr (by omega)
    · rw [verP_app, verP_zip]
      exact hp.trans (h.pr.append_right _)
    · rcases List.mem_append.1 hz9 with h9 | h9
      · exact h.ok z h9
      · exact (chkL_mem hz.1).2 z.1 (zipS_mem h9).1
    · rcases List.mem_append.1 hz9 with h9 | h9
      · exact Nat.le_trans (h.up z h9) hup
      · have h8 := zipS_mem h9
        rw [List.map_append, zipS_snd, lastN_app, if_neg (by omega)]
        omega
    · rw [List.map_append, zipS_snd, lastN_app]
      have h9 := hz.2.1
      unfold hasN at h9
      have h8 := of_decide_eq_true h9
      have := h.mx
      split <;> omega
    · rw [List.map_append, List.pairwise_append]
      refine ⟨h.rs, by rw [zipS_snd]; exact List.pairwise_lt_range', fun a ha b hb => ?_⟩
      obtain ⟨z, hz8, rfl⟩ := List.mem_map.1 ha
      obtain ⟨y, hy8, rfl⟩ := List.mem_map.1 hb
      have h7 := h.up z hz8
      have h6 := (zipS_mem hy8).2.1
      have h5 := hz.2.2
      omega
    · rcases List.mem_append.1 hz9 with h9 | h9
      · exact h.lo z h9
      · have h6 := (zipS_mem h9).2.1
        have h5 := hz.2.2
        omega
    · rcases hq with hq | hq
      · exact hq.1.elim (fun h9 => .inl (.inl h9)) (fun h9 => .inr h9)
      · exact (hG2 q hq).elim (fun h9 => .inl (.inr h9)) (fun h9 => .inr (by omega))
  · rw [if_neg h0]
    have hb := bsplit (hn1 h0).2 (hn2 h0)
    exact ⟨PM', G', L, h.below hb, hkk, fun q hq => .inl hq⟩

end Go.Proofs.Ytdlefbbpgbjibaa

/- What is newest as of a number: the least of the key's versions that are seen. -/
namespace Go.Proofs.Ytdlefbbpgbjibaa
set_option maxRecDepth 20000
open Go.RowKit
set_option linter.unusedVariables false
set_option linter.unusedSimpArgs false

theorem cnt_lt : ∀ {es : List EnB} {K : EnB}, riseB es = true → ∀ i (h : i < es.length), ltE es[i] K = decide (i < cntE es K)
  | [], K, _, i, h => by simp at h
  | a :: r, K, hr, i, h => by
    have hr2 := (riseB_cons.1 hr).2
    cases ha : ltE a K with
    | true =>
      have hc : cntE (a :: r) K = cntE r K + 1 := by unfold cntE; rw [List.countP_cons, ha]; simp
      cases i with
      | zero => rw [hc]; simp [ha]
      | succ i =>
        have := cnt_lt (K := K) hr2 i (by simpa using h)
        rw [hc, List.getElem_cons_succ, this]
        simp
    | false =>
      have hall : ∀ x ∈ (a :: r), ltE x K = false := fun x hx => by
        obtain ⟨j, hj, rfl⟩ := List.getElem_of_mem hx
        exact behind_ge hr hj (Nat.zero_le j) (by simpa using ha)
      have hc : cntE (a :: r) K = 0 := by
        unfold cntE
        rw [List.countP_eq_zero]
        intro x hx
        simp [hall x hx]
      rw [hc, hall _ (List.getElem_mem h)]
      simp

theorem rise_inj {es : List EnB} (h : riseB es = true) {x y : EnB} (hx : x ∈ es) (hy : y ∈ es) (h0 : cmpE x y = 0) : x = y := by
  obtain ⟨i, hi, rfl⟩ := List.getElem_of_mem hx
  obtain ⟨j, hj, rfl⟩ := List.getElem_of_mem hy
  rcases Nat.lt_trichotomy i j with h1 | h1 | h1
  · have := rise_lt h i j hj h1; omega
  · subst h1; rfl
  · have h2 := rise_lt h j i hi h1
    have h3 := cmpE_neg es[i] es[j]
    omega

/-- of a key's own versions those that are seen don't stand ahead of where one looks -/
theorem lt_plc {x : EnB} {k : List UInt8} {s : Nat} (hk : x.1 = k) (h2 : x.2.2.1.toNat ≤ 2) (hm : x.2.1 ≤ 72057594037927935) : ltE x (plc k s) = false ↔ x.2.1 ≤ s := by
  have e0 : Lib.compareBytes x.1 k = 0 := Mth.cmp_zero.2 hk
  unfold ltE
  rw [decide_eq_false_iff_not]
  unfold cmpE plc
  simp only
  unfold Mth.cmpK
  rw [e0]
  have e2 : ((2 : UInt8).toNat : Int) = 2 := rfl
  simp only [e2, ne_eq, not_true_eq_false, if_false]
  constructor
  · intro h9
    by_cases h1 : ((min s 72057594037927935 : Nat) : Int) < (x.2.1 : Int)
    · rw [if_pos h1] at h9; omega
    · omega
  · intro h9
    rw [if_neg (by omega)]
    split
    · omega
    · rw [if_neg (by omega)]
      split <;> omega

/-- the least of those that are seen -/
def Newest (es : List EnB) (k : List UInt8) (s : Nat) (e : EnB) : Prop := e ∈ es ∧ e.1 = k ∧ e.2.1 ≤ s ∧ ∀ x ∈ es, x.1 = k → x.2.1 ≤ s → cmpE e x ≤ 0

theorem newE_some {es : List EnB} {k : List UInt8} {s : Nat} {e : EnB} (hr : riseB es = true) (hb : ∀ x ∈ es, x.2.2.1.toNat ≤ 2 ∧ x.2.1 ≤ 72057594037927935) (h : newE es k s = some e) : Newest es k s e := by
  unfold newE at h
  split at h
  · rename_i h9
    have hf : frmE es k s = some e := h
    rw [hf] at h9
    have hk : e.1 = k := by simpa [eQ] using h9
    unfold frmE at hf
    obtain ⟨hc, he⟩ := List.getElem?_eq_some_iff.1 hf
    have hm : e ∈ es := he ▸ List.getElem_mem hc
    have hl : ltE e (plc k s) = false := by rw [← he, cnt_lt hr _ hc]; simp
    refine ⟨hm, hk, (lt_plc hk (hb e hm).1 (hb e hm).2).1 hl, fun x hx hxk hxs => ?_⟩
    have hlx := (lt_plc (s := s) hxk (hb x hx).1 (hb x hx).2).2 hxs
    obtain ⟨j, hj, rfl⟩ := List.getElem_of_mem hx
    rw [cnt_lt hr j hj] at hlx
    have hjc : cntE es (plc k s) ≤ j := by simpa using hlx
    by_cases e9 : cntE es (plc k s) = j
    · have : e = es[j] := by rw [← he]; simp [e9]
      rw [this]
      have h0 : cmpE es[j] es[j] = 0 := Mth.cmpK_zero.2 ⟨rfl, rfl, rfl⟩
      omega
    · have := rise_lt hr _ j hj (by omega : cntE es (plc k s) < j)
      rw [he] at this
      omega
  · cases h

theorem newE_none {es : List EnB} {k : List UInt8} {s : Nat} (hr : riseB es = true) (hb : ∀ x ∈ es, x.2.2.1.toNat ≤ 2 ∧ x.2.1 ≤ 72057594037927935) (h : newE es k s = none) : ∀ x ∈ es, x.1 = k → ¬ x.2.1 ≤ s := by
  intro x hx hxk hxs
  have hlx := (lt_plc (s := s) hxk (hb x hx).1 (hb x hx).2).2 hxs
  obtain ⟨j, hj, rfl⟩ := List.getElem_of_mem hx
  have hlj := hlx
  rw [cnt_lt hr j hj] at hlx
  have hjc : cntE es (plc k s) ≤ j := by simpa using hlx
  have hc : cntE es (plc k s) < es.length := by omega
  have hle : ltE es[cntE es (plc k s)] (plc k s) = false := by rw [cnt_lt hr _ hc]; simp
  have hcx : cmpE es[cntE es (plc k s)] es[j] ≤ 0 := by
    by_cases e9 : cntE es (plc k s) = j
    · have h0 : cmpE es[j] es[j] = 0 := Mth.cmpK_zero.2 ⟨rfl, rfl, rfl⟩
      simp only [e9]
      omega
    · exact Int.le_of_lt (rise_lt hr _ j hj (by omega))
  have hk : es[cntE es (plc k s)].1 = k := by
    have h1 : ¬ cmpE es[cntE es (plc k s)] (plc k s) < 0 := of_decide_eq_false hle
    have v1 := Mth.cmp_vals es[cntE es (plc k s)].1 k
    have z1 := Mth.cmp_zero (l := es[cntE es (plc k s)].1) (m := k)
    unfold cmpE Mth.cmpK at h1 hcx
    rw [hxk] at hcx
    have e1 : (plc k s).1 = k := rfl
    rw [e1] at h1
    by_cases h0 : Lib.compareBytes es[cntE es (plc k s)].1 k = 0
    · exact z1.1 h0
    · rw [if_pos h0] at h1 hcx
      omega
  unfold newE at h
  have hf : frmE es k s = some es[cntE es (plc k s)] := by unfold frmE; exact List.getElem?_eq_getElem hc
  rw [hf] at h
  simp [eQ, hk] at h

theorem newest_unique {es fs : List EnB} {k : List UInt8} {s : Nat} {e f : EnB} (hr : riseB fs = true) (he : Newest es k s e) (hf : Newest fs k s f) (h1 : e ∈ fs) (h2 : f ∈ es) : e = f := by
  have a := he.2.2.2 f h2 hf.2.1 hf.2.2.1
  have b := hf.2.2.2 e h1 he.2.1 he.2.2.1
  have c := cmpE_neg e f
  exact rise_inj hr h1 hf.1 (by omega)

/-- what is newer than the number changes nothing -/
theorem newE_stays {L1 L2 : List EnB} {Z Y : List (OpB × Nat)} {k : List UInt8} {s : Nat} (hr1 : riseB L1 = true) (hr2 : riseB L2 = true) (hb2 : ∀ x ∈ L2, x.2.2.1.toNat ≤ 2 ∧ x.2.1 ≤ 72057594037927935) (p1 : L1.Perm (verP Z)) (p2 : L2.Perm (verP (Z ++ Y))) (hY : ∀ y ∈ Y, s < y.2) : newE L2 k s = newE L1 k s := by
  have hs : ∀ x, x ∈ L1 → x ∈ L2 := fun x hx => p2.mem_iff.2 (by rw [verP_app]; exact List.mem_append_left _ (p1.mem_iff.1 hx))
  have hb1 : ∀ x ∈ L1, x.2.2.1.toNat ≤ 2 ∧ x.2.1 ≤ 72057594037927935 := fun x hx => hb2 x (hs x hx)
  have ht : ∀ x, x ∈ L2 → x.2.1 ≤ s → x ∈ L1 := fun x hx hxs => by
    have h9 := p2.mem_iff.1 hx
    rw [verP_app] at h9
    rcases List.mem_append.1 h9 with h9 | h9
    · exact p1.mem_iff.2 h9
    · obtain ⟨z, hz, _, e2, _⟩ := verP_mem h9
      have := hY z hz
      omega
  cases h1 : newE L1 k s with
  | none =>
    cases h2 : newE L2 k s with
    | none => rfl
    | some f =>
      have hf := newE_some hr2 hb2 h2
      exact absurd hf.2.2.1 (newE_none hr1 hb1 h1 f (ht f hf.1 hf.2.2.1) hf.2.1)
  | some e =>
    have he := newE_some hr1 hb1 h1
    cases h2 : newE L2 k s with
    | none => exact absurd he.2.2.1 (newE_none hr2 hb2 h2 e (hs e he.1) he.2.1)
    | some f =>
      have hf := newE_some hr2 hb2 h2
      rw [newest_unique hr2 he hf (hs e he.1) (ht f hf.1 hf.2.2.1)]

theorem covN_stays {Z Y : List (OpB × Nat)} {k : List UInt8} {s : Nat} (hY : ∀ y ∈ Y, s < y.2) : covN (spnP (Z ++ Y)) k (s : Int) = covN (spnP Z) k (s : Int) := by
  have hno : ∀ (ss : List SpB) (m : Nat), (∀ x ∈ ss, s < x.2.2) → ss.foldl (covS k (s : Int)) m = m := by
    intro ss
    induction ss with
    | nil => intro m _; rfl
    | cons a r ih =>
      intro m hm
      have h1 := hm a List.mem_cons_self
      have e1 : covS k (s : Int) m a = m := by unfold covS; rw [if_neg (by omega)]
      rw [List.foldl_cons, e1]
      exact ih m (fun x hx => hm x (List.mem_cons_of_mem _ hx))
  unfold covN
  rw [spnP_app, List.foldl_append]
  refine hno _ _ (fun x hx => ?_)
  have hs : ∀ (Y : List (OpB × Nat)) (x : SpB), x ∈ spnP Y → ∃ y ∈ Y, y.2 = x.2.2 := by
    intro Y
    induction Y with
    | nil => intro x hx; simp [spnP] at hx
    | cons a r ih =>
      intro x hx
      unfold spnP at hx
      by_cases h3 : a.1.1 = 3
      · rw [if_pos h3] at hx
        rcases List.mem_cons.1 hx with rfl | hx
        · exact ⟨a, List.mem_cons_self, rfl⟩
        · obtain ⟨y, hy, e⟩ := ih x hx
          exact ⟨y, List.mem_cons_of_mem _ hy, e⟩
      · rw [if_neg h3] at hx
        obtain ⟨y, hy, e⟩ := ih x hx
        exact ⟨y, List.mem_cons_of_mem _ hy, e⟩
  obtain ⟨y, hy, e⟩ := hs Y x hx
  have := hY y hy
  omega

/-- the bounds that a run leaves -/
theorem runI_bounds {PM G PM' G' : Nat → Prop} {W0 W : World} {m x : Nat} {Z : List (OpB × Nat)} {L : List EnB} (h : RunI PM G W0 W m x Z PM' G' L) : ∀ e ∈ L, e.2.2.1.toNat ≤ 2 ∧ e.2.1 ≤ 72057594037927935 := by
  have hk : ∀ (Z : List (OpB × Nat)) (e : EnB), e ∈ verP Z → ∃ z ∈ Z, e.2.1 = z.2 ∧ e.2.2.1 = z.1.1 ∧ z.1.1 ≠ 3 := by
    intro Z
    induction Z with
    | nil => intro e he; simp [verP] at he
    | cons a r ih =>
      intro e he
      unfold verP at he
      by_cases h3 : a.1.1 = 3
      · rw [if_pos h3] at he
        obtain ⟨z, hz, h9⟩ := ih e he
        exact ⟨z, List.mem_cons_of_mem _ hz, h9⟩
      · rw [if_neg h3] at he
        rcases List.mem_cons.1 he with rfl | he
        · exact ⟨a, List.mem_cons_self, rfl, rfl, h3⟩
        · obtain ⟨z, hz, h9⟩ := ih e he
          exact ⟨z, List.mem_cons_of_mem _ hz, h9⟩
  intro e he
  obtain ⟨z, hz, e1, e2, e3⟩ := hk Z e (h.pr.mem_iff.1 he)
  have h1 := (chkOp_len (h.ok z hz)).1
  have h2 := h.up z hz
  have h3 := h.mx
  refine ⟨?_, by omega⟩
  rw [e2]
  have h4 : z.1.1.toNat ≠ 3 := fun h9 => e3 (UInt8.toNat_inj.1 (by rw [h9]; rfl))
  omega

end Go.Proofs.Ytdlefbbpgbjibaa

/- Is an op of a key: batch.of, and the document's own answer; an op, apart. -/
namespace Go.Proofs.Ytdlefbbpgbjibaa
open Go.RowKit

/-- is an op of a key -/
def cov (k : Int) (l m key : List UInt8) : Bool := if k = 3 then !decide (Lib.compareBytes key l < 0) && decide (Lib.compareBytes key m < 0) else l == key

set_option maxHeartbeats 2000000 in
theorem opcov_any (w : World) (x y z : Value) (l m key : List UInt8) (k : Int) (b : Bool) (hx : Rd w x l) (hy : Rd w y m) (hz : Rd w z key) (hb : cov k l m key = b) :
    Calls Try.prog 46 #[.agg #[.int .u8 k, x, y], z] w fun e w' => e = .returned (.bool b) ∧ Below w.heap.size w w' := by
  have hB := below_box w #[.int .u8 k, x, y] 63
  have rx := hx.below hB (Nat.le_refl _)
  have ry := hy.below hB (Nat.le_refl _)
  have rz := hz.below hB (Nat.le_refl _)
  obtain ⟨a1, a2, ea⟩ := hx.len
  obtain ⟨b1, b2, eb⟩ := hy.len
  subst ea eb
  have H : Hid _ := hb
  clear hx hy hz hb
  by_cases h3 : k = 3
  · subst h3
    obtain ⟨p, hp⟩ : ∃ p, decide (Lib.compareBytes key l < 0) = p := ⟨_, rfl⟩
    obtain ⟨q, hq⟩ : ∃ q, decide (Lib.compareBytes key m < 0) = q := ⟨_, rfl⟩
    have HP : Hid _ := hp
    have HQ : Hid _ := hq
    have fin : Hid (b = (!p && q)) := by show _ = _; rw [← H.out, ← hp, ← hq]; rfl
    clear hp hq H
    go_enter Try.func46, Try.ntmps46
    go_wp2_with fail
    refine (refless_any _ _ _ key l p rz rx HP.out).mono ?_
    rintro e w1 ⟨rfl, hw⟩
    subst hw
    cases p
    · go_wp2_with fail
      refine (refless_any _ _ _ key m q rz ry HQ.out).mono ?_
      rintro e w1 ⟨rfl, hw⟩
      subst hw
      go_wp2
      go_ret
      exact ⟨ret_bool (by rw [fin.out]; simp), hB⟩
    · go_wp2
      go_ret
      exact ⟨ret_bool (by rw [fin.out]; simp), hB⟩
  · have fin : Hid ((l == key) = b) := by show _ = _; rw [← H.out]; unfold cov; rw [if_neg h3]
    clear H
    go_enter Try.func46, Try.ntmps46
    go_wp2_with fail
    refine (same_b _ _ _ l key b rx rz fin.out).mono ?_
    rintro e w1 ⟨rfl, hw⟩
    subst hw
    go_wp2
    go_ret
    exact ⟨ret_bool (rfl), hB⟩

theorem OwnN.other {B : Nat} {w : World} {v : Value} {l : List UInt8} (h : OwnN B w v l) (p : Addr) (hp : p.block < B) (u : Value) : OwnN B (w.setCell p u) v l := by
  rcases h with h | h
  · exact .inl h
  · obtain ⟨g, c, rfl⟩ := h.shape
    have := h.lt.1
    exact .inr (h.other p (by omega) u)

theorem OwnN.store3 {B : Nat} {w : World} {v : Value} {l : List UInt8} (h : OwnN B w v l) {b : Nat} (hb : b < B) (u0 u1 u2 : Value) : OwnN B (((w.setCell ⟨b, 0, none⟩ u0).setCell ⟨b, 1, none⟩ u1).setCell ⟨b, 2, none⟩ u2) v l :=
  ((h.other ⟨b, 0, none⟩ hb u0).other ⟨b, 1, none⟩ hb u1).other ⟨b, 2, none⟩ hb u2

theorem OwnN.drew {B : Nat} {w : World} {v : Value} {l : List UInt8} (h : OwnN B w v l) : OwnN B w.drew v l := h

theorem OwnN.len {B : Nat} {w : World} {v : Value} {l : List UInt8} (h : OwnN B w v l) : ∃ ao cap, v = .slice ao l.length cap := h.rd.len

theorem arg_drew2 {w : World} {v : Value} {l : List UInt8} (h : Rd w v l) : Arg w.drew v l := Rd.arg (Rd.drew h)

end Go.Proofs.Ytdlefbbpgbjibaa

/- batch.Over. -/
namespace Go.Proofs.Ytdlefbbpgbjibaa
open Go.RowKit

def covO (o : OpB) (key : List UInt8) : Bool := cov (o.1.toNat : Int) o.2.1 o.2.2 key

/-- the last op of a key -/
def overO (os : List OpB) (key : List UInt8) : Option OpB := os.reverse.find? fun o => covO o key

/-- the answer -/
def resO : Option OpB → OpB × Bool
  | some o => (o, true)
  | none => ((0, [], []), false)

theorem find_drop {os : List OpB} {j : Nat} {i : Nat} (h : i + 1 + j = os.length) : os.reverse.drop j = (os[i]'(by omega)) :: os.reverse.drop (j + 1) := by
  have hj : j < os.reverse.length := by rw [List.length_reverse]; omega
  rw [List.drop_eq_getElem_cons hj, List.getElem_reverse]
  congr 2
  omega

end Go.Proofs.Ytdlefbbpgbjibaa

/- A slice of pairs; the map that ops make. -/
namespace Go.Proofs.Ytdlefbbpgbjibaa
open Go.RowKit

abbrev PrB := List UInt8 × List UInt8

/-- v is a slice of pairs -/
def RdP (w : World) (v : Value) (ps : List PrB) : Prop :=
  ∃ ao cap, v = .slice ao ps.length cap ∧ ps.length ≤ cap ∧ cap ≤ maxLen ∧ ∀ j (h : j < ps.length), ∃ b off, ao = some ⟨b, off, none⟩ ∧ ∃ x y, w.cell? ⟨b, off + j * 2, none⟩ = some x ∧ w.cell? ⟨b, off + j * 2 + 1, none⟩ = some y ∧ Rd w x ps[j].1 ∧ Rd w y ps[j].2

theorem RdP.below {B : Nat} {w w' : World} {v : Value} {ps : List PrB} (h : RdP w v ps) (hb : Below B w w') (hB : w.heap.size ≤ B) : RdP w' v ps := by
  obtain ⟨ao, cap, rfl, h1, h2, h3⟩ := h
  refine ⟨ao, cap, rfl, h1, h2, fun j hj => ?_⟩
  obtain ⟨b, off, e, x, y, c0, c1, r1, r2⟩ := h3 j hj
  have hl : b < B := Nat.lt_of_lt_of_le (World.block_lt_of_cell? w _ c0) hB
  exact ⟨b, off, e, x, y, by rw [hb.cell (p := ⟨b, off + j * 2, none⟩) hl]; exact c0, by rw [hb.cell (p := ⟨b, off + j * 2 + 1, none⟩) hl]; exact c1, r1.below hb hB, r2.below hb hB⟩

theorem RdP.nil (w : World) : RdP w (.slice none 0 0) [] := ⟨none, 0, rfl, Nat.le_refl _, Nat.zero_le _, fun _ h => absurd h (Nat.not_lt_zero _)⟩

theorem RdP.drew {w : World} {v : Value} {ps : List PrB} (h : RdP w v ps) : RdP w.drew v ps := h

/-- pairs in a row of the call's own, that hold what was there in w0 -/
def OwnP (w0 w : World) (v : Value) (ps : List PrB) : Prop :=
  ∃ cs, w.ownsRow w0.heap.size 61 2 v ps.length cs ∧ ∀ j (h : j < ps.length), ∃ x y, cs[j * 2]? = some x ∧ cs[j * 2 + 1]? = some y ∧ Rd w0 x ps[j].1 ∧ Rd w0 y ps[j].2

theorem OwnP.nil (w0 w : World) : OwnP w0 w (.slice none 0 0) [] := ⟨[], World.ownsRow_nil _ _ _ _, fun _ h => absurd h (Nat.not_lt_zero _)⟩

theorem OwnP.below {C : Nat} {w0 w w' : World} {v : Value} {ps : List PrB} (h : OwnP w0 w v ps) (hb : Below C w w') (hC : w.heap.size ≤ C) : OwnP w0 w' v ps := by
  obtain ⟨cs, hr, hj⟩ := h
  have hb' : Below w.heap.size w w' := ⟨hb.os, hb.tape, hb.output, hb.size, fun i hi => hb.block i (Nat.lt_of_lt_of_le hi hC)⟩
  exact ⟨cs, row_below hr hb', hj⟩

theorem OwnP.rd {w0 w : World} {v : Value} {ps : List PrB} (h : OwnP w0 w v ps) (hb : Below w0.heap.size w0 w) : RdP w v ps := by
  obtain ⟨cs, hr, hj⟩ := h
  have hr2 := hr
  rcases hr.2 with ⟨e, hn⟩ | ⟨g, cap, cur, e, _, hg, h1, h2, h3, h4⟩
  · refine ⟨none, 0, by rw [e, hn], by omega, Nat.zero_le _, fun j hj => by omega⟩
  · subst e
    refine ⟨_, cap, rfl, h1, h2, fun j h => ⟨g, 0, rfl, ?_⟩⟩
    obtain ⟨x, y, c0, c1, rx, ry⟩ := hj j h
    have hc := hr2.cells (g := g) rfl
    refine ⟨x, y, ?_, ?_, rx.below hb (Nat.le_refl _), ry.below hb (Nat.le_refl _)⟩
    · have := hc _ _ c0; rwa [Addr.add_lit] at this
    · have := hc _ _ c1; rwa [Addr.add_lit] at this

theorem OwnP.shape {w0 w : World} {v : Value} {ps : List PrB} (h : OwnP w0 w v ps) : ∃ a c, v = .slice a ps.length c := by
  obtain ⟨cs, hr, _⟩ := h
  rcases hr.2 with ⟨e, hn⟩ | ⟨g, cap, cur, e, _⟩
  · exact ⟨none, 0, by rw [e, hn]⟩
  · exact ⟨_, cap, e⟩

theorem own_pushP {w0 w' : World} {v' x y : Value} {ps : List PrB} {cs : List Value} (p : PrB) (hcl : cs.length = ps.length * 2)
    (hel : ∀ j (h : j < ps.length), ∃ x y, cs[j * 2]? = some x ∧ cs[j * 2 + 1]? = some y ∧ Rd w0 x ps[j].1 ∧ Rd w0 y ps[j].2)
    (hx : Rd w0 x p.1) (hy : Rd w0 y p.2) (hn : w'.ownsRow w0.heap.size 61 2 v' (ps.length + 1) (cs ++ [x, y])) : OwnP w0 w' v' (ps ++ [p]) := by
  refine ⟨_, by rw [List.length_append]; exact hn, fun j h => ?_⟩
  by_cases hj : j < ps.length
  · obtain ⟨x', y', c0, c1, ox, oy⟩ := hel j hj
    refine ⟨x', y', ?_, ?_, ?_, ?_⟩
    · rw [List.getElem?_append_left (by omega)]; exact c0
    · rw [List.getElem?_append_left (by omega)]; exact c1
    · rw [List.getElem_append_left hj]; exact ox
    · rw [List.getElem_append_left hj]; exact oy
  · have hje : j = ps.length := by rw [List.length_append] at h; simp at h; omega
    subst hje
    have e : (ps ++ [p])[ps.length]'h = p := by simp
    rw [e]
    refine ⟨x, y, ?_, ?_, hx, hy⟩
    · rw [List.getElem?_append_right (by omega), show ps.length * 2 - cs.length = 0 by omega]; rfl
    · rw [List.getElem?_append_right (by omega), show ps.length * 2 + 1 - cs.length = 1 by omega]; rfl

theorem laid2 (w : World) (v0 v1 : Value) (t : TypeId) : ∀ j u, [v0, v1][j]? = some u → (w.alloc (.cells #[v0, v1] t)).cell? ((⟨w.heap.size, 0, none⟩ : Addr).add j) = some u := by
  intro j u hj
  match j, hj with
  | 0, hj => simp at hj; subst hj; simp [Addr.add]
  | 1, hj => simp at hj; subst hj; simp [Addr.add]
  | (j + 2), hj => simp at hj

theorem one2 (a b : Option Addr) (n m c d : Nat) : ∀ u ∈ [Value.slice a n c, .slice b m d], u.oneCell' = true := by
  intro u hu
  simp at hu
  rcases hu with rfl | rfl <;> rfl

theorem infoPr : (Try.prog.info? 61).map (fun i => (i.zero, i.size, i.bytes)) = some (some (.agg #[.slice none 0 0, .slice none 0 0]), 2, 48) := by kernel_rfl

/-- is key a below key b -/
def ltB (a b : List UInt8) : Bool := decide (Lib.compareBytes a b < 0)

/-- what a map is behind an op; done: it isn't to be put any more -/
def applyS (o : OpB) : Bool → List PrB → List PrB
  | done, [] => if done then [] else [(o.2.1, o.2.2)]
  | done, x :: r => (if !done && ltB o.2.1 x.1 then [(o.2.1, o.2.2)] else []) ++ ((if covO o x.1 then [] else [x]) ++ applyS o (done || ltB o.2.1 x.1) r)

def applyO (m : List PrB) (o : OpB) : List PrB := applyS o (decide (¬ o.1.toNat = 2)) m

def applyAllO (m : List PrB) (os : List OpB) : List PrB := os.foldl applyO m

theorem applyS_len (o : OpB) (d : Bool) (m : List PrB) : (applyS o d m).length ≤ m.length + 1 ∧ (d = true → (applyS o d m).length ≤ m.length) := by
  induction m generalizing d with
  | nil => cases d <;> simp [applyS]
  | cons x r ih =>
    have h1 := ih (d || ltB o.2.1 x.1)
    unfold applyS
    cases d <;> cases hl : ltB o.2.1 x.1 <;> cases hc : covO o x.1 <;> simp_all <;> omega

theorem applyO_len (m : List PrB) (o : OpB) : (applyO m o).length ≤ m.length + 1 := (applyS_len o _ m).1

theorem applyAll_len (m : List PrB) (os : List OpB) : (applyAllO m os).length ≤ m.length + os.length := by
  induction os generalizing m with
  | nil => simp [applyAllO]
  | cons o os ih =>
    have h1 := ih (applyO m o)
    have h2 := applyO_len m o
    unfold applyAllO at h1 ⊢
    rw [List.foldl_cons, List.length_cons]
    omega

/-- a key's value -/
def getP (m : List PrB) (key : List UInt8) : Option (List UInt8) := (m.find? fun x => x.1 == key).map (·.2)

theorem getP_cons (x : PrB) (r : List PrB) (key : List UInt8) : getP (x :: r) key = if x.1 == key then some x.2 else getP r key := by
  unfold getP
  rw [List.find?_cons]
  cases x.1 == key <;> rfl

theorem getP_append (a b : List PrB) (key : List UInt8) : getP (a ++ b) key = (getP a key).or (getP b key) := by
  induction a with
  | nil => simp [getP]
  | cons x r ih =>
    rw [List.cons_append, getP_cons, getP_cons, ih]
    cases x.1 == key <;> simp

theorem cov_put {o : OpB} (h : o.1.toNat = 2) (key : List UInt8) : covO o key = (o.2.1 == key) := by
  unfold covO cov
  rw [h]
  simp

/-- what a key's value is behind an op that isn't to be put any more -/
theorem get_done (o : OpB) (m : List PrB) (key : List UInt8) : getP (applyS o true m) key = if covO o key = true then none else getP m key := by
  induction m with
  | nil => simp [applyS, getP]
  | cons x r ih =>
    unfold applyS
    simp only [Bool.not_true, Bool.false_and, Bool.false_eq_true, if_false, List.nil_append, Bool.true_or]
    rw [getP_append, ih, getP_cons]
    by_cases hk : x.1 = key
    · subst hk
      cases hc : covO o x.1 <;> simp [getP]
    · have hk' : (x.1 == key) = false := by simpa using hk
      cases hc : covO o x.1 <;> simp [getP, hk']

theorem get_put (o : OpB) (h2 : o.1.toNat = 2) (m : List PrB) (key : List UInt8) : getP (applyS o false m) key = if covO o key = true then some o.2.2 else getP m key := by
  induction m with
  | nil =>
    unfold applyS
    simp only [Bool.false_eq_true, if_false]
    rw [getP_cons, cov_put h2]
  | cons x r ih =>
    unfold applyS
    simp only [Bool.not_false, Bool.true_and, Bool.false_or]
    cases hl : ltB o.2.1 x.1
    · simp only [Bool.false_eq_true, if_false, List.nil_append]
      rw [getP_append, ih, getP_cons]
      by_cases hk : x.1 = key
      · subst hk
        cases hc : covO o x.1 <;> simp [getP]
      · have hk' : (x.1 == key) = false := by simpa using hk
        cases hc : covO o x.1 <;> simp [getP, hk']
    · simp only [if_true]
      rw [getP_append, getP_append, get_done, getP_cons, getP_cons]
      by_cases hk : o.2.1 = key
      · have h1 : covO o key = true := by rw [cov_put h2]; simpa using hk
        have h3 : (o.2.1 == key) = true := by simpa using hk
        simp [h1, h3]
      · have h1 : covO o key = false := by rw [cov_put h2]; simpa using hk
        have h3 : (o.2.1 == key) = false := by simpa using hk
        by_cases hk2 : x.1 = key
        · subst hk2
          simp [h1, h3, getP]
        · have hk' : (x.1 == key) = false := by simpa using hk2
          cases hc : covO o x.1 <;> simp [h1, h3, getP, hk']

theorem get_apply (m : List PrB) (o : OpB) (key : List UInt8) : getP (applyO m o) key = if covO o key = true then (if o.1.toNat = 2 then some o.2.2 else none) else getP m key := by
  unfold applyO
  by_cases h : o.1.toNat = 2
  · rw [show decide (¬ o.1.toNat = 2) = false by simp [h], get_put o h, if_pos h]
  · rw [show decide (¬ o.1.toNat = 2) = true by simp [h], get_done, if_neg h]

theorem overO_append (os : List OpB) (o : OpB) (key : List UInt8) : overO (os ++ [o]) key = if covO o key = true then some o else overO os key := by
  unfold overO
  rw [List.reverse_append, List.reverse_singleton, List.singleton_append, List.find?_cons]
  cases covO o key <;> rfl

theorem get_all (os : List OpB) (key : List UInt8) : getP (applyAllO [] os) key = match overO os key with | some o => if o.1.toNat = 2 then some o.2.2 else none | none => none := by
  obtain ⟨rs, rfl⟩ : ∃ rs, os = rs.reverse := ⟨os.reverse, by simp⟩
  induction rs with
  | nil => simp [applyAllO, getP, overO]
  | cons o rs ih =>
    rw [List.reverse_cons]
    generalize rs.reverse = os at *
    have e : applyAllO [] (os ++ [o]) = applyO (applyAllO [] os) o := by unfold applyAllO; rw [List.foldl_append]; rfl
    rw [e, get_apply, ih, overO_append]
    cases covO o key <;> simp

end Go.Proofs.Ytdlefbbpgbjibaa

/- bartizanref04's Apply. -/
namespace Go.Proofs.Ytdlefbbpgbjibaa
open Go.RowKit

theorem cell_grown {w w' : World} {p : Addr} {u : Value} {row : Option Nat} (h : w.cell? p = some u) (hg : w.grownBy w' row) (hne : some p.block ≠ row) : w'.cell? p = some u := hg.cell h hne

theorem cell_below {B : Nat} {w w' : World} {p : Addr} {u : Value} (h : w.cell? p = some u) (hb : Below B w w') (hB : w.heap.size ≤ B) : w'.cell? p = some u := by
  rw [hb.cell (Nat.lt_of_lt_of_le (World.block_lt_of_cell? w _ h) hB)]
  exact h

theorem applyS_cons (o : OpB) (d : Bool) (x : PrB) (r : List PrB) : applyS o d (x :: r) = (if !d && ltB o.2.1 x.1 then [(o.2.1, o.2.2)] else []) ++ ((if covO o x.1 then [] else [x]) ++ applyS o (d || ltB o.2.1 x.1) r) := rfl

set_option maxHeartbeats 8000000 in
set_option maxRecDepth 20000 in
theorem apply_any (w : World) (vm x y : Value) (ps res : List PrB) (ok : UInt8) (ol om : List UInt8) (hm : RdP w vm ps) (hx : Rd w x ol) (hy : Rd w y om) (hn : ps.length ≤ 4000) (hres : applyO ps (ok, ol, om) = res) :
    Calls Try.prog 48 #[vm, .agg #[.int .u8 (ok.toNat : Int), x, y]] w fun e w' => ∃ z, e = .returned z ∧ RdP w' z res ∧ Below w.heap.size w w' := by
  obtain ⟨i0, hi, hz0, hz1, hz2⟩ := info_parts infoPr
  obtain ⟨x1, x2, ex⟩ := hx.len
  obtain ⟨y1, y2, ey⟩ := hy.len
  subst ex ey
  have hB0 := below_box w #[.int .u8 (ok.toNat : Int), .slice x1 ol.length x2, .slice y1 om.length y2] 63
  have b0 := box_new w (.int .u8 (ok.toNat : Int)) (.slice x1 ol.length x2) (.slice y1 om.length y2) 63
  have hm0 := hm.below hB0 (Nat.le_refl _)
  have hx0 := hx.below hB0 (Nat.le_refl _)
  have hy0 := hy.below hB0 (Nat.le_refl _)
  obtain ⟨w0, hw0⟩ : ∃ w0, w.alloc (.cells #[.int .u8 (ok.toNat : Int), .slice x1 ol.length x2, .slice y1 om.length y2] 63) = w0 := ⟨_, rfl⟩
  have hs0 : w0.heap.size = w.heap.size + 1 := by rw [← hw0]; simp
  rw [hw0] at hB0 b0 hm0 hx0 hy0
  have HM : Hid _ := hm0
  have HX : Hid _ := hx0
  have HY : Hid _ := hy0
  obtain ⟨ao, cap, rfl, h1, h2, _⟩ := hm
  unfold maxLen at h2
  have HRES : Hid (applyS (ok, ol, om) (decide (¬ ok.toNat = 2)) ps = res) := hres
  have hrl : res.length ≤ 4001 := by rw [← hres]; have := applyO_len ps (ok, ol, om); omega
  clear hm0 hx0 hy0 hx hy hres
  obtain ⟨d0, hd0⟩ : ∃ d, decide (¬ ok.toNat = 2) = d := ⟨_, rfl⟩
  rw [hd0] at HRES
  have hdk : ((ok.toNat : Int) != 2) = d0 := by
    rw [← hd0]
    by_cases h : ok.toNat = 2
    · rw [h]; rfl
    · have : ¬ (ok.toNat : Int) = 2 := by omega
      simp [h, this]
  clear hd0
  have b0c0 := b0.c0
  go_enter Try.func48, Try.ntmps48
  go_wp2_with fail
  clear b0c0
  go_loopg [5, 6, 14] ps.length (fun gk pv dv iv wr => ∃ (j : Nat) (d : Bool) (out : List PrB) (a' : Option Addr) (c' : Nat), gk + j = ps.length ∧ iv = .int .i64 (j : Int) ∧ dv = .bool d ∧ pv = .slice a' out.length c' ∧ OwnP w0 wr pv out ∧ out ++ applyS (ok, ol, om) d (ps.drop j) = res ∧ Box wr w.heap.size (.int .u8 (ok.toNat : Int)) (.slice x1 ol.length x2) (.slice y1 om.length y2) ∧ Below w0.heap.size w0 wr)
  case atStart => exact ⟨0, d0, [], none, 0, rfl, rfl, rfl, rfl, OwnP.nil _ _, HRES.out, b0, Below.refl _ _⟩
  case round =>
    clear b0 hdk
    obtain ⟨j, d, out, a', c', hj, rfl, rfl, rfl, hO, hS, hbx, hB⟩ := hrel
    have hol : out.length ≤ 4001 := by have := congrArg List.length hS; rw [List.length_append] at this; omega
    have HS : Hid _ := hS
    clear hS
    by_cases hlt : j < ps.length
    · obtain ⟨_, _, e, _, _, h3⟩ := (show RdP w0 (.slice ao ps.length cap) ps from HM.out)
      cases e
      obtain ⟨b, off, rfl, xk, xv, k0, k1, rk, rv⟩ := h3 j hlt
      have hbw := World.block_lt_of_cell? w0 _ k0
      have c0 := (hB.cell (p := ⟨b, off + j * 2, none⟩) hbw).trans k0
      have c1 := (hB.cell (p := ⟨b, off + j * 2 + 1, none⟩) hbw).trans k1
      obtain ⟨k1', k2', ek⟩ := rk.len
      obtain ⟨v1', v2', ev⟩ := rv.len
      subst ek ev
      obtain ⟨⟨pk, pv⟩, hp⟩ : ∃ p, ps[j] = p := ⟨_, rfl⟩
      rw [hp] at c0 c1 rk rv
      obtain ⟨q, hq⟩ : ∃ q, ltB ol pk = q := ⟨_, rfl⟩
      obtain ⟨cv, hcv⟩ : ∃ c, cov (ok.toNat : Int) ol om pk = c := ⟨_, rfl⟩
      have HQ : Hid _ := hq
      have HCV : Hid _ := hcv
      have HS2 : Hid (out ++ ((if !d && q then [(ol, om)] else []) ++ ((if cv then [] else [(pk, pv)]) ++ applyS (ok, ol, om) (d || q) (ps.drop (j + 1)))) = res) := by
        show _ = _
        rw [← HS.out, List.drop_eq_getElem_cons hlt, hp, applyS_cons, ← hq, ← hcv]
        rfl
      have HRK : Hid _ := rk
      have HRV : Hid _ := rv
      clear h3 k0 k1 hbw hp hq hcv HS rk rv
      have hsw : w0.heap.size ≤ wr.heap.size := hB.size
      have hwr2 : w.heap.size < wr.heap.size := by omega
      have hba := below_box wr #[.slice k1' pk.length k2', .slice v1' pv.length v2'] 61
      have t0 : (wr.alloc (.cells #[.slice k1' pk.length k2', .slice v1' pv.length v2'] 61)).cell? ⟨wr.heap.size, 0, none⟩ = some (.slice k1' pk.length k2') := by simp
      have t1 : (wr.alloc (.cells #[.slice k1' pk.length k2', .slice v1' pv.length v2'] 61)).cell? ⟨wr.heap.size, 1, none⟩ = some (.slice v1' pv.length v2') := by simp
      have bx1 := hbx.below hba (Nat.le_refl _)
      have hO1 := hO.below hba (Nat.le_refl _)
      have hB1 := hB.trans (hba.mono hB.size)
      have hne8 : some wr.heap.size ≠ (Value.slice a' out.length c').ownBlock := by
        obtain ⟨cs, hrow, _⟩ := hO
        intro e
        have := (hrow.lt _ e.symm).2
        omega
      have hlow : ∀ k, (Value.slice a' out.length c').ownBlock = some k → w0.heap.size ≤ k ∧ k < wr.heap.size := by
        obtain ⟨cs, hrow, _⟩ := hO
        exact fun k e => hrow.lt k e
      have hkd : ∀ W, Below w0.heap.size w0 W → Rd W (.slice k1' pk.length k2') pk := fun W hW => Rd.below (show Rd w0 (.slice k1' pk.length k2') pk from HRK.out) hW (Nat.le_refl _)
      have hxd : ∀ W, Below w0.heap.size w0 W → Rd W (.slice x1 ol.length x2) ol := fun W hW => Rd.below (show Rd w0 (.slice x1 ol.length x2) ol from HX.out) hW (Nat.le_refl _)
      have hyd : ∀ W, Below w0.heap.size w0 W → Rd W (.slice y1 om.length y2) om := fun W hW => Rd.below (show Rd w0 (.slice y1 om.length y2) om from HY.out) hW (Nat.le_refl _)
      have HKD : Hid _ := hkd
      have HXD : Hid _ := hxd
      have HYD : Hid _ := hyd
      clear hO hB hba hbx hkd hxd hyd
      generalize hwa : wr.alloc (.cells #[.slice k1' pk.length k2', .slice v1' pv.length v2'] 61) = wa at *
      have hsa : wa.heap.size = wr.heap.size + 1 := by rw [← hwa]; simp
      obtain ⟨bc0, bc1, bc2, _, _, _⟩ := bx1
      have bx1 : Box wa w.heap.size (.int .u8 (ok.toNat : Int)) (.slice x1 ol.length x2) (.slice y1 om.length y2) := ⟨bc0, bc1, bc2, by assumption, by assumption, by assumption⟩
      cases d
      · cases q
        · cases cv
          · go_wp2_with fail
            refine (refless_any _ _ _ ol pk false (HXD.out _ hB1) (HKD.out _ hB1) HQ.out).mono ?_
            rintro e wl ⟨rfl, hw⟩
            subst hw
            go_wp2_with fail
            refine (opcov_any _ _ _ _ ol om pk ok.toNat false (HXD.out _ hB1) (HYD.out _ hB1) (HKD.out _ hB1) HCV.out).mono ?_
            rintro e w5 ⟨rfl, hb5⟩
            have hB5 := hB1.trans (hb5.mono hB1.size)
            have t05 := cell_below t0 hb5 (Nat.le_refl _)
            have t15 := cell_below t1 hb5 (Nat.le_refl _)
            have bx5 := bx1.below hb5 (Nat.le_refl _)
            have hO5 := hO1.below hb5 (Nat.le_refl _)
            have hlit2 := laid2 w5 (.slice k1' pk.length k2') (.slice v1' pv.length v2') 61
            have hbl2 := below_box w5 #[.slice k1' pk.length k2', .slice v1' pv.length v2'] 61
            have hOl2 := hO5.below hbl2 (Nat.le_refl _)
            have hBl2 := hB5.trans (hbl2.mono hB5.size)
            have bxl2 := bx5.below hbl2 (Nat.le_refl _)
            obtain ⟨cs2, hrow2, hel2⟩ := hOl2
            have hBls2 := hBl2.size
            have hlow2 : ∀ k, (Value.slice a' out.length c').ownBlock = some k → w0.heap.size ≤ k := fun k e => (hrow2.lt k e).1
            clear hO5
            go_wp2_with (first | (at_builtin; refine wpList_append_lies _ rfl (.tmp 40) (.tmp 42) 58 rfl w0.heap.size 61 i0 (.agg #[.slice none 0 0, .slice none 0 0]) 2 48 Try.underlying58 hi hz0 hz1 hz2 rfl (by decide) (.slice a' out.length c') out.length cs2 rfl hrow2 ⟨w5.heap.size, 0, none⟩ 1 1 [.slice k1' pk.length k2', .slice v1' pv.length v2'] rfl rfl hlit2 (one2 _ _ _ _ _ _) (by decide) (by simp only [maxLen]; omega) (by omega) hBls2 _ rfl ?_; intro g6 c6 w6 hown2 hgrow2 hat2 hlt6) | fail)
            have hpush2 := own_pushP (pk, pv) hrow2.1 hel2 (show Rd w0 _ pk from HRK.out) (show Rd w0 _ pv from HRV.out) hown2
            have hB6 := hBl2.grown hgrow2 hBls2 (fun k e => (hrow2.lt k e).1)
            have bx6 := bxl2.grown hgrow2 (fun e => by have := hlow2 _ e.symm; omega)
            go_roundg (gk - 1)
            case measure => omega
            case rel => exact ⟨j + 1, false, out ++ [(pk, pv)], (some ⟨g6, 0, none⟩), c6, by omega, by go_num, rfl, by simp, hpush2, by rw [← HS2.out]; simp, bx6, hB6⟩
          · go_wp2_with fail
            refine (refless_any _ _ _ ol pk false (HXD.out _ hB1) (HKD.out _ hB1) HQ.out).mono ?_
            rintro e wl ⟨rfl, hw⟩
            subst hw
            go_wp2_with fail
            refine (opcov_any _ _ _ _ ol om pk ok.toNat true (HXD.out _ hB1) (HYD.out _ hB1) (HKD.out _ hB1) HCV.out).mono ?_
            rintro e w5 ⟨rfl, hb5⟩
            have hB5 := hB1.trans (hb5.mono hB1.size)
            have t05 := cell_below t0 hb5 (Nat.le_refl _)
            have t15 := cell_below t1 hb5 (Nat.le_refl _)
            have bx5 := bx1.below hb5 (Nat.le_refl _)
            have hO5 := hO1.below hb5 (Nat.le_refl _)
            go_wp2
            go_roundg (gk - 1)
            case measure => omega
            case rel => exact ⟨j + 1, false, out, a', c', by omega, by go_num, rfl, rfl, hO5, by rw [← HS2.out]; simp, bx5, hB5⟩
        · cases cv
          · go_wp2_with fail
            refine (refless_any _ _ _ ol pk true (HXD.out _ hB1) (HKD.out _ hB1) HQ.out).mono ?_
            rintro e wl ⟨rfl, hw⟩
            subst hw
            have hlit := laid2 wl (.slice x1 ol.length x2) (.slice y1 om.length y2) 61
            rw [hsa] at hlit
            have hbl := below_box wl #[.slice x1 ol.length x2, .slice y1 om.length y2] 61
            have hOl := hO1.below hbl (Nat.le_refl _)
            have hBl := hB1.trans (hbl.mono hB1.size)
            have t0l := cell_below t0 hbl (Nat.le_refl _)
            have t1l := cell_below t1 hbl (Nat.le_refl _)
            have bxl := bx1.below hbl (Nat.le_refl _)
            obtain ⟨cs, hrow, hel⟩ := hOl
            have hBls := hBl.size
            clear hO1
            go_wp2_with (first | (at_builtin; refine wpList_append_lies _ rfl (.tmp 27) (.tmp 33) 58 rfl w0.heap.size 61 i0 (.agg #[.slice none 0 0, .slice none 0 0]) 2 48 Try.underlying58 hi hz0 hz1 hz2 rfl (by decide) (.slice a' out.length c') out.length cs rfl hrow ⟨wr.heap.size + 1, 0, none⟩ 1 1 [.slice x1 ol.length x2, .slice y1 om.length y2] rfl rfl hlit (one2 _ _ _ _ _ _) (by decide) (by simp only [maxLen]; omega) (by omega) hBls _ rfl ?_; intro g4 c4 w4 hown hgrow hat hlt4; have t04 := cell_grown t0l hgrow hne8; have t14 := cell_grown t1l hgrow hne8; have bx4 := bxl.grown hgrow (fun e => by have := (hlow _ e.symm).1; omega); have bx4c0 := bx4.c0; have bx4c1 := bx4.c1; have bx4c2 := bx4.c2) | fail)
            have hpush := own_pushP (ol, om) hrow.1 hel (show Rd w0 _ ol from HX.out) (show Rd w0 _ om from HY.out) hown
            have hB4 := hBl.grown hgrow hBls (fun k e => (hrow.lt k e).1)
            have hg4 : g4 ≠ w.heap.size ∧ g4 ≠ wr.heap.size := by
              rcases hat with h | h
              · have := hlow _ h; omega
              · have : (wl.alloc (.cells #[.slice x1 ol.length x2, .slice y1 om.length y2] 61)).heap.size = wl.heap.size + 1 := by simp
                omega
            clear hlit hbl t0l t1l bxl hgrow hown hel hBl hBls hat hrow
            refine (opcov_any _ _ _ _ ol om pk ok.toNat false (HXD.out _ hB4) (HYD.out _ hB4) (HKD.out _ hB4) HCV.out).mono ?_
            rintro e w5 ⟨rfl, hb5⟩
            have hB5 := hB4.trans (hb5.mono hB4.size)
            have t05 := cell_below t04 hb5 (Nat.le_refl _)
            have t15 := cell_below t14 hb5 (Nat.le_refl _)
            have bx5 := bx4.below hb5 (Nat.le_refl _)
            have hO5 := hpush.below hb5 (Nat.le_refl _)
            have hlit2 := laid2 w5 (.slice k1' pk.length k2') (.slice v1' pv.length v2') 61
            have hbl2 := below_box w5 #[.slice k1' pk.length k2', .slice v1' pv.length v2'] 61
            have hOl2 := hO5.below hbl2 (Nat.le_refl _)
            have hBl2 := hB5.trans (hbl2.mono hB5.size)
            have bxl2 := bx5.below hbl2 (Nat.le_refl _)
            obtain ⟨cs2, hrow2, hel2⟩ := hOl2
            have hrow2l := hrow2
            rw [show (out ++ [(ol, om)]).length = out.length + 1 by simp] at hrow2
            have hBls2 := hBl2.size
            have hlow2 : ∀ k, (Value.slice (some ⟨g4, 0, none⟩) (out.length + 1) c4).ownBlock = some k → w0.heap.size ≤ k := fun k e => (hrow2.lt k e).1
            clear hO5
            go_wp2_with (first | (at_builtin; refine wpList_append_lies _ rfl (.tmp 40) (.tmp 42) 58 rfl w0.heap.size 61 i0 (.agg #[.slice none 0 0, .slice none 0 0]) 2 48 Try.underlying58 hi hz0 hz1 hz2 rfl (by decide) (.slice (some ⟨g4, 0, none⟩) (out.length + 1) c4) (out.length + 1) cs2 rfl hrow2 ⟨w5.heap.size, 0, none⟩ 1 1 [.slice k1' pk.length k2', .slice v1' pv.length v2'] rfl rfl hlit2 (one2 _ _ _ _ _ _) (by decide) (by simp only [maxLen]; omega) (by omega) hBls2 _ rfl ?_; intro g6 c6 w6 hown2 hgrow2 hat2 hlt6) | fail)
            have hpush2 := own_pushP (ps := out ++ [(ol, om)]) (pk, pv) hrow2l.1 hel2 (show Rd w0 _ pk from HRK.out) (show Rd w0 _ pv from HRV.out) (by rw [show (out ++ [(ol, om)]).length = out.length + 1 by simp]; exact hown2)
            have hB6 := hBl2.grown hgrow2 hBls2 (fun k e => (hrow2.lt k e).1)
            have bx6 := bxl2.grown hgrow2 (fun e => by have := hlow2 _ e.symm; omega)
            go_roundg (gk - 1)
            case measure => omega
            case rel => exact ⟨j + 1, true, (out ++ [(ol, om)]) ++ [(pk, pv)], (some ⟨g6, 0, none⟩), c6, by omega, by go_num, rfl, by simp, hpush2, by rw [← HS2.out]; simp, bx6, hB6⟩
          · go_wp2_with fail
            refine (refless_any _ _ _ ol pk true (HXD.out _ hB1) (HKD.out _ hB1) HQ.out).mono ?_
            rintro e wl ⟨rfl, hw⟩
            subst hw
            have hlit := laid2 wl (.slice x1 ol.length x2) (.slice y1 om.length y2) 61
            rw [hsa] at hlit
            have hbl := below_box wl #[.slice x1 ol.length x2, .slice y1 om.length y2] 61
            have hOl := hO1.below hbl (Nat.le_refl _)
            have hBl := hB1.trans (hbl.mono hB1.size)
            have t0l := cell_below t0 hbl (Nat.le_refl _)
            have t1l := cell_below t1 hbl (Nat.le_refl _)
            have bxl := bx1.below hbl (Nat.le_refl _)
            obtain ⟨cs, hrow, hel⟩ := hOl
            have hBls := hBl.size
            clear hO1
            go_wp2_with (first | (at_builtin; refine wpList_append_lies _ rfl (.tmp 27) (.tmp 33) 58 rfl w0.heap.size 61 i0 (.agg #[.slice none 0 0, .slice none 0 0]) 2 48 Try.underlying58 hi hz0 hz1 hz2 rfl (by decide) (.slice a' out.length c') out.length cs rfl hrow ⟨wr.heap.size + 1, 0, none⟩ 1 1 [.slice x1 ol.length x2, .slice y1 om.length y2] rfl rfl hlit (one2 _ _ _ _ _ _) (by decide) (by simp only [maxLen]; omega) (by omega) hBls _ rfl ?_; intro g4 c4 w4 hown hgrow hat hlt4; have t04 := cell_grown t0l hgrow hne8; have t14 := cell_grown t1l hgrow hne8; have bx4 := bxl.grown hgrow (fun e => by have := (hlow _ e.symm).1; omega); have bx4c0 := bx4.c0; have bx4c1 := bx4.c1; have bx4c2 := bx4.c2) | fail)
            have hpush := own_pushP (ol, om) hrow.1 hel (show Rd w0 _ ol from HX.out) (show Rd w0 _ om from HY.out) hown
            have hB4 := hBl.grown hgrow hBls (fun k e => (hrow.lt k e).1)
            have hg4 : g4 ≠ w.heap.size ∧ g4 ≠ wr.heap.size := by
              rcases hat with h | h
              · have := hlow _ h; omega
              · have : (wl.alloc (.cells #[.slice x1 ol.length x2, .slice y1 om.length y2] 61)).heap.size = wl.heap.size + 1 := by simp
                omega
            clear hlit hbl t0l t1l bxl hgrow hown hel hBl hBls hat hrow
            refine (opcov_any _ _ _ _ ol om pk ok.toNat true (HXD.out _ hB4) (HYD.out _ hB4) (HKD.out _ hB4) HCV.out).mono ?_
            rintro e w5 ⟨rfl, hb5⟩
            have hB5 := hB4.trans (hb5.mono hB4.size)
            have t05 := cell_below t04 hb5 (Nat.le_refl _)
            have t15 := cell_below t14 hb5 (Nat.le_refl _)
            have bx5 := bx4.below hb5 (Nat.le_refl _)
            have hO5 := hpush.below hb5 (Nat.le_refl _)
            go_wp2
            go_roundg (gk - 1)
            case measure => omega
            case rel => exact ⟨j + 1, true, (out ++ [(ol, om)]), (some ⟨g4, 0, none⟩), c4, by omega, by go_num, rfl, by simp, hO5, by rw [← HS2.out]; simp, bx5, hB5⟩
      · cases cv
        · go_wp2_with fail
          refine (opcov_any _ _ _ _ ol om pk ok.toNat false (HXD.out _ hB1) (HYD.out _ hB1) (HKD.out _ hB1) HCV.out).mono ?_
          rintro e w5 ⟨rfl, hb5⟩
          have hB5 := hB1.trans (hb5.mono hB1.size)
          have t05 := cell_below t0 hb5 (Nat.le_refl _)
          have t15 := cell_below t1 hb5 (Nat.le_refl _)
          have bx5 := bx1.below hb5 (Nat.le_refl _)
          have hO5 := hO1.below hb5 (Nat.le_refl _)
          have hlit2 := laid2 w5 (.slice k1' pk.length k2') (.slice v1' pv.length v2') 61
          have hbl2 := below_box w5 #[.slice k1' pk.length k2', .slice v1' pv.length v2'] 61
          have hOl2 := hO5.below hbl2 (Nat.le_refl _)
          have hBl2 := hB5.trans (hbl2.mono hB5.size)
          have bxl2 := bx5.below hbl2 (Nat.le_refl _)
          obtain ⟨cs2, hrow2, hel2⟩ := hOl2
          have hBls2 := hBl2.size
          have hlow2 : ∀ k, (Value.slice a' out.length c').ownBlock = some k → w0.heap.size ≤ k := fun k e => (hrow2.lt k e).1
          clear hO5
          go_wp2_with (first | (at_builtin; refine wpList_append_lies _ rfl (.tmp 40) (.tmp 42) 58 rfl w0.heap.size 61 i0 (.agg #[.slice none 0 0, .slice none 0 0]) 2 48 Try.underlying58 hi hz0 hz1 hz2 rfl (by decide) (.slice a' out.length c') out.length cs2 rfl hrow2 ⟨w5.heap.size, 0, none⟩ 1 1 [.slice k1' pk.length k2', .slice v1' pv.length v2'] rfl rfl hlit2 (one2 _ _ _ _ _ _) (by decide) (by simp only [maxLen]; omega) (by omega) hBls2 _ rfl ?_; intro g6 c6 w6 hown2 hgrow2 hat2 hlt6) | fail)
          have hpush2 := own_pushP (pk, pv) hrow2.1 hel2 (show Rd w0 _ pk from HRK.out) (show Rd w0 _ pv from HRV.out) hown2
          have hB6 := hBl2.grown hgrow2 hBls2 (fun k e => (hrow2.lt k e).1)
          have bx6 := bxl2.grown hgrow2 (fun e => by have := hlow2 _ e.symm; omega)
          go_roundg (gk - 1)
          case measure => omega
          case rel => exact ⟨j + 1, true, out ++ [(pk, pv)], (some ⟨g6, 0, none⟩), c6, by omega, by go_num, rfl, by simp, hpush2, by rw [← HS2.out]; simp, bx6, hB6⟩
        · go_wp2_with fail
          refine (opcov_any _ _ _ _ ol om pk ok.toNat true (HXD.out _ hB1) (HYD.out _ hB1) (HKD.out _ hB1) HCV.out).mono ?_
          rintro e w5 ⟨rfl, hb5⟩
          have hB5 := hB1.trans (hb5.mono hB1.size)
          have t05 := cell_below t0 hb5 (Nat.le_refl _)
          have t15 := cell_below t1 hb5 (Nat.le_refl _)
          have bx5 := bx1.below hb5 (Nat.le_refl _)
          have hO5 := hO1.below hb5 (Nat.le_refl _)
          go_wp2
          go_roundg (gk - 1)
          case measure => omega
          case rel => exact ⟨j + 1, true, out, a', c', by omega, by go_num, rfl, rfl, hO5, by rw [← HS2.out]; simp, bx5, hB5⟩
    · obtain rfl : j = ps.length := by omega
      rw [List.drop_length] at HS
      cases d
      · have HF : Hid (out ++ [(ol, om)] = res) := HS.out
        have hlit := laid2 wr (.slice x1 ol.length x2) (.slice y1 om.length y2) 61
        have hbl := below_box wr #[.slice x1 ol.length x2, .slice y1 om.length y2] 61
        have hOl := hO.below hbl (Nat.le_refl _)
        have hBl := hB.trans (hbl.mono hB.size)
        obtain ⟨cs, hrow, hel⟩ := hOl
        have hBls := hBl.size
        have bc0 := hbx.c0; have bc1 := hbx.c1; have bc2 := hbx.c2
        clear hO HS
        go_wp2_with (first | (at_builtin; refine wpList_append_lies _ rfl (.tmp 47) (.tmp 53) 58 rfl w0.heap.size 61 i0 (.agg #[.slice none 0 0, .slice none 0 0]) 2 48 Try.underlying58 hi hz0 hz1 hz2 rfl (by decide) (.slice a' out.length c') out.length cs rfl hrow ⟨wr.heap.size, 0, none⟩ 1 1 [.slice x1 ol.length x2, .slice y1 om.length y2] rfl rfl hlit (one2 _ _ _ _ _ _) (by decide) (by simp only [maxLen]; omega) (by omega) hBls _ rfl ?_; intro g4 c4 w4 hown hgrow hat hlt4) | fail)
        have hpush := own_pushP (ol, om) hrow.1 hel (show Rd w0 _ ol from HX.out) (show Rd w0 _ om from HY.out) hown
        have hB4 := hBl.grown hgrow hBls (fun k e => (hrow.lt k e).1)
        go_ret
        exact ⟨_, rfl, by rw [← HF.out]; exact hpush.rd hB4, hB0.trans (hB4.mono hB0.size)⟩
      · have HF : Hid (out = res) := by have := HS.out; simp [applyS] at this; exact this
        clear HS
        go_wp2
        go_ret
        exact ⟨_, rfl, by rw [← HF.out]; exact hO.rd hB, hB0.trans (hB.mono hB0.size)⟩

end Go.Proofs.Ytdlefbbpgbjibaa

/- bartizanref04's ApplyAll and Get. -/
namespace Go.Proofs.Ytdlefbbpgbjibaa
open Go.RowKit

theorem all_take {ps : List PrB} {os : List OpB} {j : Nat} (h : j < os.length) : applyAllO ps (os.take (j + 1)) = applyO (applyAllO ps (os.take j)) os[j] := by
  unfold applyAllO
  rw [List.take_succ_eq_append_getElem h, List.foldl_append]
  rfl

set_option maxHeartbeats 4000000 in
theorem applyall_any (w : World) (vm vl : Value) (ps res : List PrB) (os : List OpB) (hm : RdP w vm ps) (hl : RdO w vl os) (hn : os.length ≤ 2000) (hp : ps.length ≤ 500) (hbd : ∀ o ∈ os, o.2.1.length ≤ 1000000 ∧ o.2.2.length ≤ 1000000) (hres : applyAllO ps os = res) :
    Calls Try.prog 25 #[vm, vl] w fun e w' => ∃ z, e = .returned z ∧ RdP w' z res ∧ Below w.heap.size w w' := by
  have HR : Hid _ := hres
  clear hres
  go_enter Try.func25, Try.ntmps25
  go_wp2_with fail
  refine (opcopy_any _ _ os hl.arg (by omega) hbd).mono ?_
  rintro e w1 ⟨vc, rfl, oc, hb1⟩
  have hm1 := hm.below hb1 (Nat.le_refl _)
  have HC : Hid _ := oc.rd
  obtain ⟨ca, cc, e, hc1, hc2, _⟩ := oc.rd
  subst e
  unfold maxLen at hc2
  clear hl hm oc hbd
  go_wp2_with fail
  go_loopg [0, 10] os.length (fun gk mv iv wr => ∃ j : Nat, gk + j = os.length ∧ iv = .int .i64 (j : Int) ∧ RdP wr mv (applyAllO ps (os.take j)) ∧ Below w1.heap.size w1 wr)
  case atStart => exact ⟨0, rfl, rfl, by rw [List.take_zero]; exact hm1, Below.refl _ _⟩
  case round =>
    clear hm1
    obtain ⟨j, hj, rfl, hP, hB⟩ := hrel
    have hrd : RdO wr (.slice ca os.length cc) os := LsO.below (show RdO w1 (.slice ca os.length cc) os from HC.out) hB (Nat.le_refl _)
    by_cases hlt : j < os.length
    · obtain ⟨_, _, e, _, _, h3⟩ := hrd
      cases e
      obtain ⟨b, off, rfl, xv, yv, c0, c1, c2, rx, ry⟩ := h3 j hlt
      obtain ⟨x1, x2, ex⟩ := rx.len
      obtain ⟨y1, y2, ey⟩ := ry.len
      subst ex ey
      obtain ⟨⟨ok, ol, om⟩, ho⟩ : ∃ o, os[j] = o := ⟨_, rfl⟩
      rw [ho] at c0 c1 c2 rx ry
      obtain ⟨m, hm⟩ : ∃ m, applyAllO ps (os.take j) = m := ⟨_, rfl⟩
      have hml : m.length ≤ 4000 := by rw [← hm]; have := applyAll_len ps (os.take j); rw [List.length_take] at this; omega
      have HS : Hid (applyAllO ps (os.take (j + 1)) = applyO m (ok, ol, om)) := by show _ = _; rw [all_take hlt, ho, hm]
      rw [hm] at hP
      have hba := below_box wr #[.int .u8 (ok.toNat : Int), .slice x1 ol.length x2, .slice y1 om.length y2] 63
      have rx2 := rx.below hba (Nat.le_refl _)
      have ry2 := ry.below hba (Nat.le_refl _)
      have hP2 := hP.below hba (Nat.le_refl _)
      have hB2 := hB.trans (hba.mono hB.size)
      clear h3 rx ry ho hm hP hB hba
      go_wp2_with fail
      refine (apply_any _ _ _ _ m _ ok ol om hP2 rx2 ry2 hml rfl).mono ?_
      rintro e w2 ⟨z, rfl, hz, hb⟩
      have hB3 := hB2.trans (hb.mono hB2.size)
      clear hP2 rx2 ry2 hB2 hb c0 c1 c2
      go_wp2
      go_roundg (gk - 1)
      case measure => omega
      case rel => exact ⟨j + 1, by omega, by go_num, by rw [HS.out]; exact hz, hB3⟩
    · obtain rfl : j = os.length := by omega
      rw [List.take_length, HR.out] at hP
      clear hrd
      go_wp2
      go_ret
      exact ⟨_, rfl, hP, hb1.trans (hB.mono hb1.size)⟩

/-- a key's value, and whether it has one -/
def getV : Option (List UInt8) → List UInt8 × Bool
  | some v => (v, true)
  | none => ([], false)

theorem getP_drop {ps : List PrB} {j : Nat} (h : j < ps.length) (key : List UInt8) : getP (ps.drop j) key = if ps[j].1 == key then some ps[j].2 else getP (ps.drop (j + 1)) key := by
  rw [List.drop_eq_getElem_cons h, getP_cons]

set_option maxHeartbeats 4000000 in
theorem get_any (w : World) (vm vk : Value) (ps : List PrB) (key : List UInt8) (r : List UInt8 × Bool) (hm : RdP w vm ps) (hk : Rd w vk key) (hr : getV (getP ps key) = r) (hbd : ∀ p ∈ ps, p.2.length ≤ 1000000) :
    Calls Try.prog 26 #[vm, vk] w fun e w' => ∃ z, e = .returned (.tuple #[z, .bool r.2]) ∧ Rd w' z r.1 ∧ Below w.heap.size w w' := by
  have HM : Hid _ := hm
  have HK : Hid _ := hk
  have HR : Hid _ := hr
  have HBD : Hid _ := hbd
  obtain ⟨ma, mc, rfl, h1, h2, _⟩ := hm
  unfold maxLen at h2
  clear hk hr hbd
  go_enter Try.func26, Try.ntmps26
  go_wp2_with fail
  go_loopg [10] ps.length (fun gk iv wr => ∃ j : Nat, gk + j = ps.length ∧ iv = .int .i64 (j : Int) ∧ getV (getP (ps.drop j) key) = r ∧ Below w.heap.size w wr)
  case atStart => exact ⟨0, rfl, rfl, HR.out, Below.refl _ _⟩
  case round =>
    obtain ⟨j, hj, rfl, hG, hB⟩ := hrel
    have HG : Hid _ := hG
    clear hG
    have hrd : RdP wr (.slice ma ps.length mc) ps := RdP.below (show RdP w (.slice ma ps.length mc) ps from HM.out) hB (Nat.le_refl _)
    have hkr : Rd wr vk key := Rd.below (show Rd w vk key from HK.out) hB (Nat.le_refl _)
    by_cases hlt : j < ps.length
    · obtain ⟨_, _, e, _, _, h3⟩ := hrd
      cases e
      obtain ⟨b, off, rfl, xv, yv, c0, c1, rx, ry⟩ := h3 j hlt
      obtain ⟨x1, x2, ex⟩ := rx.len
      obtain ⟨y1, y2, ey⟩ := ry.len
      subst ex ey
      obtain ⟨⟨pk, pv⟩, hp⟩ : ∃ p, ps[j] = p := ⟨_, rfl⟩
      have hpv : pv.length ≤ 1000000 := by have := HBD.out _ (List.getElem_mem hlt); rw [hp] at this; exact this
      rw [hp] at c0 c1 rx ry
      obtain ⟨q, hq⟩ : ∃ q, (pk == key) = q := ⟨_, rfl⟩
      have HQ : Hid _ := hq
      have HS : Hid (r = if q = true then (pv, true) else getV (getP (ps.drop (j + 1)) key)) := by
        show _ = _
        rw [← HG.out, getP_drop hlt, hp, hq]
        cases q <;> rfl
      have hba := below_box wr #[.slice x1 pk.length x2, .slice y1 pv.length y2] 61
      have rx2 := rx.below hba (Nat.le_refl _)
      have ry2 := ry.below hba (Nat.le_refl _)
      have hk2 := hkr.below hba (Nat.le_refl _)
      have hB2 := hB.trans (hba.mono hB.size)
      clear h3 rx ry hp hq HG hB hba hkr
      go_wp2_with fail
      refine (same_b _ _ _ pk key q rx2 hk2 HQ.out).mono ?_
      rintro e w2 ⟨rfl, hw⟩
      subst hw
      cases q
      · go_wp2
        go_roundg (gk - 1)
        case measure => omega
        case rel => exact ⟨j + 1, by omega, by go_num, by rw [HS.out]; simp, hB2⟩
      · go_wp2_with fail
        refine (copy_any _ _ pv ry2.arg (by omega)).mono ?_
        rintro e w3 ⟨z, rfl, oz, hb⟩
        have hB3 := hB2.trans (hb.mono hB2.size)
        have h0 : Hid (r = (pv, true)) := by show _ = _; rw [HS.out]; simp
        clear rx2 ry2 hk2 hB2 hb
        go_wp2
        go_ret2
        exact ⟨_, by rw [h0.out]; rfl, by rw [h0.out]; exact oz.rd, hB3⟩
    · obtain rfl : j = ps.length := by omega
      have h0 : Hid (r = ([], false)) := by show _ = _; rw [← HG.out, List.drop_length]; rfl
      clear hrd hkr
      go_wp2
      go_ret2
      exact ⟨_, by rw [h0.out]; rfl, by rw [h0.out]; exact .inl ⟨rfl, rfl⟩, hB⟩

end Go.Proofs.Ytdlefbbpgbjibaa

/- As of the greatest number: what a memo finds is what the last op that covers a key makes of it. -/
namespace Go.Proofs.Ytdlefbbpgbjibaa
set_option maxRecDepth 20000
open Go.RowKit
set_option linter.unusedVariables false
set_option linter.unusedSimpArgs false

/-- the last op with its number that covers a key -/
def lastC (Z : List (OpB × Nat)) (k : List UInt8) : Option (OpB × Nat) := Z.reverse.find? fun z => covO z.1 k

theorem lastC_app (Z : List (OpB × Nat)) (z : OpB × Nat) (k : List UInt8) : lastC (Z ++ [z]) k = if covO z.1 k = true then some z else lastC Z k := by
  unfold lastC
  rw [List.reverse_append, List.reverse_singleton, List.singleton_append, List.find?_cons]
  cases covO z.1 k <;> simp

theorem lastC_over (Z : List (OpB × Nat)) (k : List UInt8) : overO (Z.map (·.1)) k = (lastC Z k).map (·.1) := by
  unfold overO lastC
  rw [← List.map_reverse, List.find?_map]
  rfl

theorem covO_three {o : OpB} (h : o.1 = 3) (k : List UInt8) : covO o k = covB o.2.1 o.2.2 k := by
  unfold covO cov covB
  rw [h]
  rfl

theorem covO_else {o : OpB} (h : ¬ o.1 = 3) (k : List UInt8) : covO o k = (o.2.1 == k) := by
  unfold covO cov
  rw [if_neg]
  intro h9
  exact h (UInt8.toNat_inj.1 (by have : (3 : UInt8).toNat = 3 := rfl; omega))

theorem lastC_none {Z : List (OpB × Nat)} {k : List UInt8} (h : lastC Z k = none) : ∀ z ∈ Z, covO z.1 k = false := by
  intro z hz
  unfold lastC at h
  have := List.find?_eq_none.1 h z (List.mem_reverse.2 hz)
  simpa using this

theorem lastC_some {Z : List (OpB × Nat)} {k : List UInt8} {z : OpB × Nat} (hr : (Z.map (·.2)).Pairwise (· < ·)) (h : lastC Z k = some z) : z ∈ Z ∧ covO z.1 k = true ∧ ∀ y ∈ Z, covO y.1 k = true → y = z ∨ y.2 < z.2 := by
  unfold lastC at h
  obtain ⟨h1, ys, bs, h2, h3⟩ := List.find?_eq_some_iff_append.1 h
  have h4 : Z = bs.reverse ++ z :: ys.reverse := by
    have := congrArg List.reverse h2
    simpa using this
  subst h4
  refine ⟨by simp, h1, fun y hy hc => ?_⟩
  rw [List.map_append, List.pairwise_append] at hr
  rcases List.mem_append.1 hy with h9 | h9
  · exact .inr (hr.2.2 y.2 (List.mem_map_of_mem h9) z.2 (by simp))
  · rcases List.mem_cons.1 h9 with h9 | h9
    · exact .inl h9
    · have := h3 y (List.mem_reverse.1 h9)
      rw [hc] at this
      cases this

theorem verP_iff {Z : List (OpB × Nat)} {e : EnB} : e ∈ verP Z ↔ ∃ z ∈ Z, z.1.1 ≠ 3 ∧ e = (z.1.2.1, z.2, z.1.1, z.1.2.2) := by
  induction Z with
  | nil => simp [verP]
  | cons a r ih =>
    unfold verP
    by_cases h3 : a.1.1 = 3
    · rw [if_pos h3, ih]
      constructor
      · rintro ⟨z, hz, h9⟩
        exact ⟨z, List.mem_cons_of_mem _ hz, h9⟩
      · rintro ⟨z, hz, h9, h8⟩
        rcases List.mem_cons.1 hz with rfl | hz
        · exact absurd h3 h9
        · exact ⟨z, hz, h9, h8⟩
    · rw [if_neg h3, List.mem_cons, ih]
      constructor
      · rintro (h9 | ⟨z, hz, h9⟩)
        · exact ⟨a, List.mem_cons_self, h3, h9⟩
        · exact ⟨z, List.mem_cons_of_mem _ hz, h9⟩
      · rintro ⟨z, hz, h9, h8⟩
        rcases List.mem_cons.1 hz with rfl | hz
        · exact .inl h8
        · exact .inr ⟨z, hz, h9, h8⟩

theorem spnP_iff {Z : List (OpB × Nat)} {e : SpB} : e ∈ spnP Z ↔ ∃ z ∈ Z, z.1.1 = 3 ∧ e = (z.1.2.1, z.1.2.2, z.2) := by
  induction Z with
  | nil => simp [spnP]
  | cons a r ih =>
    unfold spnP
    by_cases h3 : a.1.1 = 3
    · rw [if_pos h3, List.mem_cons, ih]
      constructor
      · rintro (h9 | ⟨z, hz, h9⟩)
        · exact ⟨a, List.mem_cons_self, h3, h9⟩
        · exact ⟨z, List.mem_cons_of_mem _ hz, h9⟩
      · rintro ⟨z, hz, h9, h8⟩
        rcases List.mem_cons.1 hz with rfl | hz
        · exact .inl h8
        · exact .inr ⟨z, hz, h9, h8⟩
    · rw [if_neg h3, ih]
      constructor
      · rintro ⟨z, hz, h9⟩
        exact ⟨z, List.mem_cons_of_mem _ hz, h9⟩
      · rintro ⟨z, hz, h9, h8⟩
        rcases List.mem_cons.1 hz with rfl | hz
        · exact absurd h9 h3
        · exact ⟨z, hz, h9, h8⟩

theorem covS_max (k : List UInt8) (s : Nat) (ss : List SpB) : ∀ m, m ≤ ss.foldl (covS k (s : Int)) m ∧ (∀ n, m ≤ n → (∀ x ∈ ss, covB x.1 x.2.1 k = true → x.2.2 ≤ n) → ss.foldl (covS k (s : Int)) m ≤ n) ∧ (∀ x ∈ ss, covB x.1 x.2.1 k = true → x.2.2 ≤ s → x.2.2 ≤ ss.foldl (covS k (s : Int)) m) := by
  induction ss with
  | nil => intro m; exact ⟨Nat.le_refl _, fun n h _ => h, fun x hx => by simp at hx⟩
  | cons a r ih =>
    intro m
    rw [List.foldl_cons]
    obtain ⟨i1, i2, i3⟩ := ih (covS k (s : Int) m a)
    have h1 : m ≤ covS k (s : Int) m a := by unfold covS; split <;> omega
    refine ⟨Nat.le_trans h1 i1, fun n hm hn => i2 n ?_ (fun x hx => hn x (List.mem_cons_of_mem _ hx)), fun x hx hc hs => ?_⟩
    · unfold covS
      split
      · rename_i h9
        have := hn a List.mem_cons_self h9.2
        omega
      · exact hm
    · rcases List.mem_cons.1 hx with rfl | hx
      · refine Nat.le_trans ?_ i1
        unfold covS
        rw [if_pos ⟨by omega, hc⟩]
        omega
      · exact i3 x hx hc hs

/-- the state and the value that the last op makes -/
def stC : Option (OpB × Nat) → Int
  | none => 0
  | some z => if z.1.1.toNat = 2 then 1 else 2
def valC : Option (OpB × Nat) → List UInt8
  | none => []
  | some z => if z.1.1.toNat = 2 then z.1.2.2 else []

theorem three_iff (b : UInt8) : b = 3 ↔ b.toNat = 3 := ⟨fun h => by rw [h]; rfl, fun h => UInt8.toNat_inj.1 (by rw [h]; rfl)⟩

theorem find_last {Z : List (OpB × Nat)} {L : List EnB} {k : List UInt8} {s : Nat} (hr : riseB L = true) (hb : ∀ e ∈ L, e.2.2.1.toNat ≤ 2 ∧ e.2.1 ≤ 72057594037927935) (hp : L.Perm (verP Z)) (rs : (Z.map (·.2)).Pairwise (· < ·)) (lo : ∀ z ∈ Z, 1 ≤ z.2) (hs : ∀ z ∈ Z, z.2 ≤ s) (ok : ∀ z ∈ Z, 1 ≤ z.1.1.toNat ∧ z.1.1.toNat ≤ 3) :
    stM (newE L k s) (covN (spnP Z) k (s : Int)) = stC (lastC Z k) ∧ valM (newE L k s) (covN (spnP Z) k (s : Int)) = valC (lastC Z k) := by
  have hmem : ∀ e, e ∈ L → e.1 = k → ∃ z ∈ Z, z.1.1 ≠ 3 ∧ e = (z.1.2.1, z.2, z.1.1, z.1.2.2) ∧ covO z.1 k = true := fun e he hk => by
    obtain ⟨z, hz, h3, rfl⟩ := verP_iff.1 (hp.mem_iff.1 he)
    exact ⟨z, hz, h3, rfl, by rw [covO_else h3]; simpa using hk⟩
  obtain ⟨_, cle, cge⟩ := covS_max k s (spnP Z) 0
  have hsp : ∀ x ∈ spnP Z, covB x.1 x.2.1 k = true → ∃ z ∈ Z, z.1.1 = 3 ∧ x = (z.1.2.1, z.1.2.2, z.2) ∧ covO z.1 k = true := fun x hx hc => by
    obtain ⟨z, hz, h3, rfl⟩ := spnP_iff.1 hx
    exact ⟨z, hz, h3, rfl, by rw [covO_three h3]; exact hc⟩
  cases hl : lastC Z k with
  | none =>
    have hn := lastC_none hl
    have h1 : newE L k s = none := by
      cases h : newE L k s with
      | none => rfl
      | some e =>
        have he := newE_some hr hb h
        obtain ⟨z, hz, _, _, hc⟩ := hmem e he.1 he.2.1
        rw [hn z hz] at hc
        cases hc
    have h2 : covN (spnP Z) k (s : Int) = 0 := by
      have : covN (spnP Z) k (s : Int) ≤ 0 := cle 0 (Nat.le_refl _) (fun x hx hc => by
        obtain ⟨z, hz, _, _, hc⟩ := hsp x hx hc
        rw [hn z hz] at hc
        cases hc)
      omega
    rw [h1, h2]
    exact ⟨rfl, rfl⟩
  | some z =>
    obtain ⟨hz, hzc, hzl⟩ := lastC_some rs hl
    by_cases h3 : z.1.1 = 3
    · have h3n := (three_iff _).1 h3
      have hc1 : z.2 ≤ covN (spnP Z) k (s : Int) := cge (z.1.2.1, z.1.2.2, z.2) (spnP_iff.2 ⟨z, hz, h3, rfl⟩) (by rw [← covO_three h3]; exact hzc) (hs z hz)
      have hz1 := lo z hz
      have h2 : stM (newE L k s) (covN (spnP Z) k (s : Int)) = 2 := by
        unfold stM
        cases h : newE L k s with
        | none => rw [if_pos (show (none : Option EnB).isSome = false from rfl), if_neg (by omega)]
        | some e =>
          have he := newE_some hr hb h
          obtain ⟨y, hy, hy3, rfl, hyc⟩ := hmem e he.1 he.2.1
          rw [if_neg (by simp), if_pos]
          rcases hzl y hy hyc with rfl | h9
          · exact absurd h3 hy3
          · show y.2 < _
            omega
      refine ⟨by rw [h2]; unfold stC; simp [h3n], ?_⟩
      unfold valM
      rw [h2, if_neg (by decide)]
      unfold valC
      simp [h3n]
    · have hzv : (z.1.2.1, z.2, z.1.1, z.1.2.2) ∈ L := hp.mem_iff.2 (verP_iff.2 ⟨z, hz, h3, rfl⟩)
      have hzk : z.1.2.1 = k := by rw [covO_else h3] at hzc; simpa using hzc
      have h1 : newE L k s = some (z.1.2.1, z.2, z.1.1, z.1.2.2) := by
        cases h : newE L k s with
        | none => exact absurd (hs z hz) (newE_none hr hb h _ hzv hzk)
        | some e =>
          have he := newE_some hr hb h
          obtain ⟨y, hy, hy3, rfl, hyc⟩ := hmem e he.1 he.2.1
          rcases hzl y hy hyc with rfl | h9
          · rfl
          · exfalso
            have h8 := he.2.2.2 _ hzv hzk (hs z hz)
            have e0 : Lib.compareBytes y.1.2.1 z.1.2.1 = 0 := Mth.cmp_zero.2 (by rw [hzk]; exact he.2.1)
            unfold cmpE Mth.cmpK at h8
            simp only at h8
            rw [e0] at h8
            simp only [ne_eq, not_true_eq_false, if_false] at h8
            rw [if_neg (by omega), if_pos (by omega)] at h8
            omega
      have h2 : covN (spnP Z) k (s : Int) ≤ z.2 := cle z.2 (Nat.zero_le _) (fun x hx hc => by
        obtain ⟨y, hy, _, rfl, hyc⟩ := hsp x hx hc
        rcases hzl y hy hyc with rfl | h9
        · exact Nat.le_refl _
        · exact Nat.le_of_lt h9)
      have h3n : ¬ z.1.1.toNat = 3 := fun h9 => h3 ((three_iff _).2 h9)
      have hok := ok z hz
      have h4 : stM (newE L k s) (covN (spnP Z) k (s : Int)) = if z.1.1.toNat = 2 then 1 else 2 := by
        rw [h1]
        unfold stM
        rw [if_neg (by simp), if_neg (by show ¬ z.2 < _; omega)]
        show (if z.1.1.toNat = 1 then (2 : Int) else 1) = _
        by_cases h9 : z.1.1.toNat = 2
        · rw [if_pos h9, if_neg (by omega)]
        · rw [if_neg h9, if_pos (by omega)]
      refine ⟨h4, ?_⟩
      unfold valM
      rw [h4, h1]
      unfold valC
      by_cases h9 : z.1.1.toNat = 2
      · simp [h9, eQ]
      · simp [h9]

/-- keys stand in a map once -/
def OnceP (m : List PrB) : Prop := m.Pairwise fun a b => a.1 ≠ b.1

theorem applyS_mem {o : OpB} {d : Bool} {m : List PrB} {x : PrB} (h : x ∈ applyS o d m) : (x ∈ m ∧ covO o x.1 = false) ∨ (d = false ∧ x = (o.2.1, o.2.2)) := by
  induction m generalizing d with
  | nil => cases d <;> simp [applyS] at h; exact .inr ⟨rfl, h⟩
  | cons y r ih =>
    unfold applyS at h
    rcases List.mem_append.1 h with h | h
    · cases d <;> cases hl : ltB o.2.1 y.1 <;> simp [hl] at h
      exact .inr ⟨rfl, h⟩
    · rcases List.mem_append.1 h with h | h
      · cases hc : covO o y.1 <;> simp [hc] at h
        subst h
        exact .inl ⟨List.mem_cons_self, hc⟩
      · rcases ih h with ⟨h1, h2⟩ | ⟨h1, h2⟩
        · exact .inl ⟨List.mem_cons_of_mem _ h1, h2⟩
        · exact .inr ⟨by cases d <;> simp_all, h2⟩

theorem applyS_once {o : OpB} {d : Bool} {m : List PrB} (hd : d = false → o.1.toNat = 2) (h : OnceP m) : OnceP (applyS o d m) := by
  induction m generalizing d with
  | nil => cases d <;> simp [applyS, OnceP]
  | cons y r ih =>
    have h1 := List.pairwise_cons.1 h
    have h2 := ih (d := d || ltB o.2.1 y.1) (fun h9 => hd (by cases d <;> simp_all)) h1.2
    unfold applyS
    have h3 : OnceP ((if covO o y.1 = true then [] else [y]) ++ applyS o (d || ltB o.2.1 y.1) r) := by
      cases hc : covO o y.1
      · refine List.pairwise_cons.2 ⟨fun x hx => ?_, h2⟩
        rcases applyS_mem hx with ⟨h9, _⟩ | ⟨h9, rfl⟩
        · exact h1.1 x h9
        · have hd2 : d = false := by cases d <;> simp_all
          rw [cov_put (hd hd2)] at hc
          intro h8
          have : o.2.1 = y.1 := h8.symm
          simp [this] at hc
      · exact h2
    cases d with
    | true => simpa using h3
    | false =>
      cases hl : ltB o.2.1 y.1 with
      | false => simpa [hl] using h3
      | true =>
        rw [hl] at h3
        show OnceP (((o.2.1, o.2.2) : PrB) :: ((if covO o y.1 = true then [] else [y]) ++ applyS o true r))
        refine List.pairwise_cons.2 ⟨fun x hx => ?_, h3⟩
        have hcx : covO o x.1 = false := by
          rcases List.mem_append.1 hx with h | h
          · cases hc : covO o y.1 <;> simp [hc] at h
            subst h
            exact hc
          · rcases applyS_mem h with ⟨_, h9⟩ | ⟨h9, _⟩
            · exact h9
            · cases h9
        rw [cov_put (hd rfl)] at hcx
        intro h8
        have : o.2.1 = x.1 := h8
        simp [this] at hcx

theorem applyAll_once (os : List OpB) : ∀ m, OnceP m → OnceP (applyAllO m os) := by
  induction os with
  | nil => intro m h; exact h
  | cons o r ih =>
    intro m h
    unfold applyAllO
    rw [List.foldl_cons]
    refine ih _ ?_
    unfold applyO
    exact applyS_once (fun h9 => by simpa using h9) h

theorem once_get {m : List PrB} (h : OnceP m) : ∀ p ∈ m, getP m p.1 = some p.2 := by
  induction m with
  | nil => intro p hp; simp at hp
  | cons x r ih =>
    intro p hp
    have h1 := List.pairwise_cons.1 h
    rw [getP_cons]
    rcases List.mem_cons.1 hp with rfl | hp
    · simp
    · have h9 := h1.1 p hp
      rw [if_neg (by simpa using h9)]
      exact ih h1.2 p hp

/-- a pair of the map is found -/
theorem map_found {Z : List (OpB × Nat)} {p : PrB} (hp : p ∈ applyAllO [] (Z.map (·.1))) : stC (lastC Z p.1) = 1 ∧ valC (lastC Z p.1) = p.2 := by
  have h := once_get (applyAll_once (Z.map (·.1)) [] List.Pairwise.nil) p hp
  rw [get_all, lastC_over] at h
  cases hl : lastC Z p.1 with
  | none => rw [hl] at h; simp at h
  | some z =>
    rw [hl] at h
    simp only [Option.map_some] at h
    by_cases h2 : z.1.1.toNat = 2
    · rw [if_pos h2] at h
      unfold stC valC
      simp only [if_pos h2, true_and]
      exact Option.some.inj h
    · rw [if_neg h2] at h
      cases h

/-- what is found of an op's key is in the map, and it is known -/
theorem map_has {Z : List (OpB × Nat)} {k : List UInt8} : (getV (getP (applyAllO [] (Z.map (·.1))) k)).2 = decide (stC (lastC Z k) = 1) := by
  rw [get_all, lastC_over]
  cases hl : lastC Z k with
  | none => rfl
  | some z =>
    simp only [Option.map_some]
    unfold stC
    by_cases h2 : z.1.1.toNat = 2
    · simp [h2, getV]
    · simp [h2, getV]

theorem map_known {Z : List (OpB × Nat)} {z : OpB × Nat} (hz : z ∈ Z) (ok : chkOp (z.1.1.toNat : Int) z.1.2.1 z.1.2.2 = 0) : stC (lastC Z z.1.2.1) ≠ 0 := by
  have hc : covO z.1 z.1.2.1 = true := by
    by_cases h3 : z.1.1 = 3
    · rw [covO_three h3]
      have h4 := (chkOp_len ok).2.2.2.2 (by rw [(three_iff _).1 h3]; rfl)
      have h0 : Lib.compareBytes z.1.2.1 z.1.2.1 = 0 := Mth.cmp_zero.2 rfl
      unfold covB
      rw [h0]
      simp [h4.2]
    · rw [covO_else h3]; simp
  cases hl : lastC Z z.1.2.1 with
  | none => rw [lastC_none hl z hz] at hc; cases hc
  | some y => unfold stC; simp only; split <;> decide

end Go.Proofs.Ytdlefbbpgbjibaa

/- append to a row of the call's own: the row stays where it is, or lies in a block that wasn't there. -/
namespace Go.Proofs.Ytdlefbbpgbjibaa
open Go.RowKit

/-- v' lies where v lay, or in a block from n on -/
def Stays (n : Nat) (v v' : Value) : Prop := v'.ownBlock = v.ownBlock ∨ ∃ g, v'.ownBlock = some g ∧ n ≤ g

theorem run_append_new {P : Program} (w : World) (base : Nat) (t ty e : TypeId) (i : TypeInfo) (z : Value) (size bytes : Nat) (ht : P.underlying t = some (.slice e)) (hi : P.info? e = some i) (hz : i.zero = some z)
    (hsize : i.size = size) (hby : i.bytes = bytes) (hzs : z.cells.size = size) (hsz : 0 < size)
    (v : Value) (n : Nat) (xs : List Value) (hown : w.ownsRow base e size v n xs)
    (a : Addr) (m c : Nat) (news : List Value) (hl : news.length = m * size) (hnews : ∀ j u, news[j]? = some u → w.cell? (a.add j) = some u) (h1 : ∀ u ∈ news, u.oneCell' = true)
    (h63 : n + m ≤ maxLen) (hbytes : (n + m) * bytes ≤ 140737488355328) (hbase : base ≤ w.heap.size) :
    ∃ v' w', (Builtin.append_ #[t, t] ty #[v, .slice (some a) m c]).run P w = .ok v' w' ∧ w'.ownsRow base e size v' (n + m) (xs ++ news) ∧ w.grownBy w' v.ownBlock ∧
      (v' = .slice none 0 0 ↔ v = .slice none 0 0 ∧ m = 0) ∧ Stays w.heap.size v v' := by
  obtain ⟨v', w', hr, ho, hg, hn⟩ := run_append_own (P := P) w base t ty e i z size bytes ht hi hz hsize hby hzs hsz v n xs hown a m c news hl hnews h1 h63 hbytes hbase
  refine ⟨v', w', hr, ho, hg, hn, ?_⟩
  subst hsize
  subst hby
  have hsmall : n + m ≤ 9223372036854775807 := by simp only [maxLen] at h63; omega
  rcases hown.2 with ⟨rfl, rfl⟩ | ⟨g, cap, cur, rfl, hbg, hgg, hnc, hcm, hcs, htake⟩
  · by_cases hm : m = 0
    · exact .inl (by rw [hn.2 ⟨rfl, hm⟩])
    · have hr2 := run_append_nil (P := P) w t ty e i z ht hi hz a m c news hl hnews (by omega) (by omega) (by have hb := hbytes; simp only [Nat.zero_add] at hb; omega)
      rw [hr2] at hr
      simp only [Result.ok.injEq] at hr
      exact .inr ⟨w.heap.size, by rw [← hr.1]; rfl, Nat.le_refl _⟩
  · by_cases hroom : n + m ≤ cap
    · have hfit : n * i.size + news.length ≤ cur.size := by rw [hl, hcs, ← Nat.add_mul]; exact Nat.mul_le_mul_right _ hroom
      have hr2 := run_append_room (P := P) w t ty e i ht hi g n cap cur hgg a m c news hl hnews h1 hroom hfit
      rw [hr2] at hr
      simp only [Result.ok.injEq] at hr
      exact .inl (by rw [← hr.1]; rfl)
    · have holds : ∀ j u, xs[j]? = some u → w.cell? ((⟨g, 0, none⟩ : Addr).add j) = some u := hown.cells (g := g) rfl
      have hr2 := run_append_grow (P := P) w t ty e i z ht hi hz ⟨g, 0, none⟩ n cap xs hown.1 holds a m c news hl hnews (by omega) (by omega) (growslice_fits (by omega) hbytes)
      rw [hr2] at hr
      simp only [Result.ok.injEq] at hr
      exact .inr ⟨w.heap.size, by rw [← hr.1]; rfl, Nat.le_refl _⟩

theorem wpList_append_new {P : Program} (w : World) {ops : Array Oper} {rest : List Oper} {o : Oper} {a : Act} {Q : Exit → Act → World → Prop} (hgd : o.guard = none) (s x : Operand) (t : TypeId)
    (ho : o.op = .call { callee := .builtin .append, args := #[s, x], argTypes := #[t, t] })
    (base : Nat) (e : TypeId) (i : TypeInfo) (z : Value) (size bytes : Nat) (ht : P.underlying t = some (.slice e)) (hi : P.info? e = some i) (hz : i.zero = some z)
    (hsize : i.size = size) (hby : i.bytes = bytes) (hzs : z.cells.size = size) (hsz : 0 < size)
    (v : Value) (n : Nat) (xs : List Value) (hs : a.eval s = v) (hown : w.ownsRow base e size v n xs)
    (ad : Addr) (m c : Nat) (news : List Value) (hx : a.eval x = .slice (some ad) m c) (hl : news.length = m * size) (hnews : ∀ j u, news[j]? = some u → w.cell? (ad.add j) = some u) (h1 : ∀ u ∈ news, u.oneCell' = true)
    (h63 : n + m ≤ maxLen) (hbytes : (n + m) * bytes ≤ 140737488355328) (hbase : base ≤ w.heap.size)
    (h : ∀ v' w', w'.ownsRow base e size v' (n + m) (xs ++ news) → w.grownBy w' v.ownBlock → (v' = .slice none 0 0 ↔ v = .slice none 0 0 ∧ m = 0) → Stays w.heap.size v v' → wpList P ops Q rest (a.put o.dst v') w') : wpList P ops Q (o :: rest) a w := by
  refine wpList_plain hgd fun K hK => ?_
  obtain ⟨v', w', hr, h2, h3, h4, h5⟩ := run_append_new (P := P) w base t o.type e i z size bytes ht hi hz hsize hby hzs hsz v n xs hown ad m c news hl hnews h1 h63 hbytes hbase
  unfold Oper.wp execOp
  simp only [ho, resolve, invoke, builtin, Sem.run_bind, Sem.run_pure, Result.andThen_ok, List.map_toArray, List.map_cons, List.map_nil, hs, hx, hr]
  exact hK _ _ (h v' w' h2 h3 h4 h5)

end Go.Proofs.Ytdlefbbpgbjibaa

/- Parts that are gathered: each in a row of its own, apart from what is wanted. -/
namespace Go.Proofs.Ytdlefbbpgbjibaa
open Go.RowKit

theorem info24 : (Try.prog.info? 40).map (fun i => (i.zero, i.size, i.bytes)) = some (some (.slice none 0 0), 1, 24) := by kernel_rfl

/-- a row of slices and a row of bytes lie in two blocks -/
theorem rows_apart {w : World} {B B' n n' : Nat} {v v' : Value} {xs ys : List Value} (h : w.ownsRow B 40 1 v n xs) (h' : w.ownsRow B' 5 1 v' n' ys) : v.ownBlock = none ∨ v.ownBlock ≠ v'.ownBlock := by
  rcases h.2 with ⟨rfl, _⟩ | ⟨g, cap, cur, rfl, _, hg, _⟩
  · exact .inl rfl
  · right
    intro e
    rcases h'.2 with ⟨rfl, _⟩ | ⟨g', cap', cur', rfl, _, hg', _⟩
    · cases e
    · simp only [Value.ownBlock, Option.some.injEq] at e
      subst e
      rw [hg] at hg'
      simp at hg'

theorem rows_apart' {w : World} {B B' n n' : Nat} {v v' : Value} {xs ys : List Value} (h : w.ownsRow B 40 1 v n xs) (h' : w.ownsRow B' 5 1 v' n' ys) : v'.ownBlock = none ∨ v'.ownBlock ≠ v.ownBlock := by
  rcases rows_apart h h' with e | e
  · cases hb : v'.ownBlock with
    | none => exact .inl rfl
    | some k => right; rw [e]; intro h; cases h
  · exact .inr (fun h => e h.symm)

/-- each of the first k parts has a row of its own, apart from wv -/
def PartsOK (B : Nat) (w : World) (vs : List Value) (C : List (List UInt8)) (k : Nat) (wv : Value) : Prop :=
  ∀ j, j < k → ∃ g c l, C[j]? = some l ∧ vs[j]? = some (.slice (some ⟨g, 0, none⟩) l.length c) ∧ Own B w (.slice (some ⟨g, 0, none⟩) l.length c) l ∧ some g ≠ wv.ownBlock

theorem parts_zero (B : Nat) (w : World) (vs : List Value) (C : List (List UInt8)) (wv : Value) : PartsOK B w vs C 0 wv := fun _ h => absurd h (Nat.not_lt_zero _)

/-- behind a round: w0 the round's world, w2 behind the cut, w3 behind the parts' append, w4 behind the second cut, w5 behind the append to what is wanted -/
theorem parts_step {B k : Nat} {w0 w2 w3 w4 w5 : World} {vs : List Value} {C : List (List UInt8)} {pv wv wv' : Value} {c : List UInt8} {gc kc : Nat} {ps : List Value} {W : List UInt8} {n0 : Nat}
    (hp : PartsOK B w0 vs C k wv) (hvs : vs.length = k) (hC : C[k]? = some c) (hpv : w0.ownsRow B 40 1 pv n0 ps) (hwv : w0.ownsRow B 5 1 wv W.length (bv W))
    (oc : Own w0.heap.size w2 (.slice (some ⟨gc, 0, none⟩) c.length kc) c) (hb2 : Below w0.heap.size w0 w2) (hBs : B ≤ w0.heap.size)
    (hgr3 : (w2.alloc (.cells #[.slice (some ⟨gc, 0, none⟩) c.length kc] 40)).grownBy w3 pv.ownBlock)
    (hb4 : Below w3.heap.size w3 w4) (hgr5 : w4.grownBy w5 wv.ownBlock) (hst : Stays w4.heap.size wv wv') :
    PartsOK B w5 (vs ++ [.slice (some ⟨gc, 0, none⟩) c.length kc]) C (k + 1) wv' := by
  have hs2 := hb2.size
  have hs3 : w2.heap.size + 1 ≤ w3.heap.size := by have := hgr3.size; simpa using this
  have hs4 := hb4.size
  have hwlt : ∀ q, wv.ownBlock = some q → q < w0.heap.size := fun q hq => (hwv.lt q hq).2
  have hnew : ∀ g, g < w4.heap.size → some g ≠ wv.ownBlock → some g ≠ wv'.ownBlock := by
    intro g hg hne
    rcases hst with e | ⟨q, e, hq⟩
    · rw [e]; exact hne
    · rw [e]; intro h; simp only [Option.some.injEq] at h; omega
  -- a row of bytes of world w2 lives on
  have live : ∀ (g n q : Nat) (l : List UInt8), Own B w2 (.slice (some ⟨g, 0, none⟩) n q) l → some g ≠ wv.ownBlock → Own B w5 (.slice (some ⟨g, 0, none⟩) n q) l ∧ g < w4.heap.size := by
    intro g n q l ho hne
    have ha : Own B (w2.alloc (.cells #[.slice (some ⟨gc, 0, none⟩) c.length kc] 40)) (.slice (some ⟨g, 0, none⟩) n q) l := ho.below ((Below.refl _ _).alloc (Nat.le_refl _) _) (Nat.le_refl _)
    have hpv2 : (w2.alloc (.cells #[.slice (some ⟨gc, 0, none⟩) c.length kc] 40)).ownsRow B 40 1 pv n0 ps := by
      have hgg : w0.grownBy w2 none := ⟨hb2.os, hb2.tape, hb2.output, hb2.size, fun i hi _ => hb2.block i hi⟩
      exact (hpv.kept hgg (by cases pv.ownBlock <;> simp)).alloc _
    have hne3 : some g ≠ pv.ownBlock := by
      rcases rows_apart hpv2 ha.row with e | e
      · rw [e]; simp
      · exact fun h => e h.symm
    have h3 := own_kept ha hgr3 hne3
    have h4 := h3.below hb4 (Nat.le_refl _)
    exact ⟨own_kept h4 hgr5 hne, h4.row.lt g rfl |>.2⟩
  intro j hj
  by_cases hjk : j < k
  · obtain ⟨g, q, l, e1, e2, ho, hne⟩ := hp j hjk
    have hl := live g _ q l (ho.below hb2 (Nat.le_refl _)) hne
    refine ⟨g, q, l, e1, ?_, hl.1, hnew g hl.2 hne⟩
    rw [List.getElem?_append_left (by omega)]; exact e2
  · have hje : j = k := by omega
    subst hje
    have hgc := oc.row.lt gc rfl
    have hne : some gc ≠ wv.ownBlock := by
      intro h
      have := hwlt gc h.symm
      omega
    have hl := live gc _ kc c (oc.mono hBs) hne
    refine ⟨gc, kc, c, hC, ?_, hl.1, hnew gc hl.2 hne⟩
    rw [List.getElem?_append_right (by omega), hvs]; simp

/-- the parts' own row, and what is wanted, behind a round -/
theorem parts_rows {B n0 m0 : Nat} {w3 w4 w5 : World} {pv' wv : Value} {ps : List Value} {W : List UInt8} (hp : w3.ownsRow B 40 1 pv' n0 ps) (hw : w3.ownsRow B 5 1 wv m0 (bv W))
    (hb4 : Below w3.heap.size w3 w4) (hgr5 : w4.grownBy w5 wv.ownBlock) : w5.ownsRow B 40 1 pv' n0 ps := by
  have hgg : w3.grownBy w4 none := ⟨hb4.os, hb4.tape, hb4.output, hb4.size, fun i hi _ => hb4.block i hi⟩
  have h4 := hp.kept hgg (by cases pv'.ownBlock <;> simp)
  have hw4 := hw.kept hgg (by cases wv.ownBlock <;> simp)
  exact h4.kept hgr5 (rows_apart h4 hw4)

end Go.Proofs.Ytdlefbbpgbjibaa

/- Bytes of one's own are turned. -/
namespace Go.Proofs.Ytdlefbbpgbjibaa
open Go.RowKit

/-- block g begins with n bytes, whichever -/
def U8 (w : World) (g n : Nat) : Prop := ∃ (cur : Array Value) (l : List UInt8), w.heap[g]? = some (.cells cur 5 (0, 0)) ∧ l.length = n ∧ cur.toList.take n = bv l ∧ n ≤ cur.size

theorem bv_set (l : List UInt8) (i : Nat) (b : UInt8) : (bv l).set i (.int .u8 (b.toNat : Int)) = bv (l.set i b) := by simp [bv, List.map_set]

theorem u8_set {w : World} {g n : Nat} (h : U8 w g n) (g' i : Nat) (b : UInt8) : U8 (w.setCell ⟨g', i, none⟩ (.int .u8 (b.toNat : Int))) g n := by
  obtain ⟨cur, l, hg, hl, ht, hn⟩ := h
  by_cases e : g = g'
  · subst e
    refine ⟨_, l.set i b, heap_setCell_same w g i cur 5 _ hg, by simpa using hl, ?_, by simpa using hn⟩
    rw [Array.toList_setIfInBounds, List.take_set, ht, bv_set]
  · exact ⟨cur, l, by rw [Below.heap_setCell _ _ _ _ (by simpa using e)]; exact hg, hl, ht, hn⟩

theorem u8_cell {w : World} {g n : Nat} (h : U8 w g n) (i : Nat) (hi : i < n) : ∃ b : UInt8, w.cell? ⟨g, i, none⟩ = some (.int .u8 (b.toNat : Int)) ∧ w.frozen? ⟨g, i, none⟩ = false := by
  obtain ⟨cur, l, hg, hl, ht, hn⟩ := h
  refine ⟨l[i]'(by omega), ?_, frozen_of_row w g i cur 5 hg⟩
  rw [cell_of_row w g i cur 5 (0, 0) hg]
  have h1 : (cur.toList.take n)[i]? = some (.int .u8 ((l[i]'(by omega)).toNat : Int)) := by rw [ht]; exact bv_get l i (by omega)
  rw [List.getElem?_take, if_pos hi] at h1
  simpa using h1

theorem u8_of_own {B : Nat} {w : World} {g n c : Nat} {l : List UInt8} (h : Own B w (.slice (some ⟨g, 0, none⟩) n c) l) : U8 w g n ∧ n ≤ c ∧ c ≤ maxLen ∧ B ≤ g := by
  obtain ⟨g', cap, cur, e, hB, hh, h1, h2, h3, h4⟩ := h
  simp only [Value.slice.injEq, Option.some.injEq, Addr.mk.injEq, and_true] at e
  obtain ⟨rfl, rfl, rfl⟩ := e
  exact ⟨⟨cur, l, hh, rfl, h4, by omega⟩, h1, h2, hB⟩

theorem u8_below {w w' : World} {g n : Nat} (h : U8 w g n) (hb : Below w.heap.size w w') : U8 w' g n := by
  obtain ⟨cur, l, hg, r⟩ := h
  exact ⟨cur, l, by rw [hb.block g (Array.getElem?_eq_some_iff.1 hg).1]; exact hg, r⟩

theorem rd_set {w : World} {v : Value} {l : List UInt8} {g i : Nat} {u : Value} (h : Rd w v l) (hne : some g ≠ v.ownBlock) : Rd (w.setCell ⟨g, i, none⟩ u) v l := by
  rcases h with h | ⟨b, off, cap, rfl, h1, h2, h3⟩
  · exact .inl h
  · refine .inr ⟨b, off, cap, rfl, h1, h2, fun j x hx => ?_⟩
    have hb : b ≠ g := fun e => hne (by rw [e]; rfl)
    rw [World.cell?_of_block (w := w) (a := ⟨b, off + j, none⟩) (Below.heap_setCell _ _ _ _ (by simpa using hb))]
    exact h3 j x hx

theorem row_set {w : World} {B n g i m : Nat} {v u : Value} {xs : List Value} (h : w.ownsRow B 40 1 v n xs) (hu : U8 w g m) : (w.setCell ⟨g, i, none⟩ u).ownsRow B 40 1 v n xs := by
  rcases h with ⟨h1, h2⟩
  refine ⟨h1, ?_⟩
  rcases h2 with h2 | ⟨q, cap, cur, rfl, hB, hq, r⟩
  · exact .inl h2
  · refine .inr ⟨q, cap, cur, rfl, hB, ?_, r⟩
    have hne : q ≠ g := by
      rintro rfl
      obtain ⟨cur', l, hg, _⟩ := hu
      rw [hq] at hg
      simp at hg
    rw [Below.heap_setCell _ _ _ _ (by simpa using hne)]
    exact hq

/-- what holds while the parts are turned -/
def Inv (B m : Nat) (w : World) (vs : List Value) (pv wv : Value) : Prop :=
  ∀ j, j < m → ∃ g c n, vs[j]? = some (.slice (some ⟨g, 0, none⟩) n c) ∧ n ≤ 100 ∧ n ≤ c ∧ c ≤ maxLen ∧ U8 w g n ∧ some g ≠ pv.ownBlock ∧ some g ≠ wv.ownBlock ∧ B ≤ g

theorem inv_set {B m : Nat} {w : World} {vs : List Value} {pv wv : Value} (h : Inv B m w vs pv wv) (g i : Nat) (b : UInt8) : Inv B m (w.setCell ⟨g, i, none⟩ (.int .u8 (b.toNat : Int))) vs pv wv := by
  intro j hj
  obtain ⟨g', c, n, e, h1, h2, h3, h4, h5, h6, h7⟩ := h j hj
  exact ⟨g', c, n, e, h1, h2, h3, u8_set h4 g i b, h5, h6, h7⟩

theorem xor_one (b : UInt8) : Value.int .u8 (bits BinOp.xor IntKind.u8 (b.toNat : Int) 1) = .int .u8 ((b ^^^ 1).toNat : Int) := by
  have h := u8_xor_nat b.toNat 1 b.toNat_lt (by omega)
  have e : ((1 : Nat) : Int) = 1 := rfl
  rw [e] at h
  rw [h]
  congr 1

end Go.Proofs.Ytdlefbbpgbjibaa

/- Ops of one's own are turned. -/
namespace Go.Proofs.Ytdlefbbpgbjibaa
open Go.RowKit

/-- a slice of bytes of the call's own, whichever they are -/
def SomeN (B : Nat) (w : World) (x : Value) : Prop := x = .slice none 0 0 ∨ ∃ g n c, x = .slice (some ⟨g, 0, none⟩) n c ∧ U8 w g n ∧ n ≤ c ∧ c ≤ maxLen ∧ B ≤ g

theorem OwnN.some {B : Nat} {w : World} {x : Value} {l : List UInt8} (h : OwnN B w x l) : SomeN B w x := by
  rcases h with h | h
  · exact .inl h.1
  · obtain ⟨g, c, rfl⟩ := h.shape
    have := u8_of_own h
    exact .inr ⟨g, _, c, rfl, this.1, this.2.1, this.2.2.1, this.2.2.2⟩

theorem SomeN.set {B : Nat} {w : World} {x : Value} (h : SomeN B w x) (g i : Nat) (b : UInt8) : SomeN B (w.setCell ⟨g, i, none⟩ (.int .u8 (b.toNat : Int))) x := by
  rcases h with h | ⟨g', n, c, e, h1, h2, h3, h4⟩
  · exact .inl h
  · exact .inr ⟨g', n, c, e, u8_set h1 g i b, h2, h3, h4⟩

/-- a row of ops of the call's own, and slices of its own in it -/
def RowC (B : Nat) (w : World) (v : Value) (n : Nat) (cs : List Value) : Prop :=
  w.ownsRow B 63 3 v n cs ∧ ∀ j, j < n → ∃ x y, cs[j * 3 + 1]? = some x ∧ cs[j * 3 + 2]? = some y ∧ SomeN B w x ∧ SomeN B w y

theorem RowC.set {B : Nat} {w : World} {v : Value} {n : Nat} {cs : List Value} (h : RowC B w v n cs) {g m : Nat} (hu : U8 w g m) (i : Nat) (b : UInt8) : RowC B (w.setCell ⟨g, i, none⟩ (.int .u8 (b.toNat : Int))) v n cs := by
  obtain ⟨⟨h1, h2⟩, h3⟩ := h
  refine ⟨⟨h1, ?_⟩, fun j hj => ?_⟩
  · rcases h2 with h2 | ⟨q, cap, cur, rfl, hB, hq, r⟩
    · exact .inl h2
    · refine .inr ⟨q, cap, cur, rfl, hB, ?_, r⟩
      have hne : q ≠ g := by
        rintro rfl
        obtain ⟨cur', l, hg, _⟩ := hu
        rw [hq] at hg
        simp at hg
      rw [Below.heap_setCell _ _ _ _ (by simpa using hne)]
      exact hq
  · obtain ⟨x, y, e1, e2, s1, s2⟩ := h3 j hj
    exact ⟨x, y, e1, e2, s1.set g i b, s2.set g i b⟩

theorem RowC.cells {B : Nat} {w : World} {g k n : Nat} {cs : List Value} (h : RowC B w (.slice (some ⟨g, 0, none⟩) n k) n cs) (j : Nat) (hj : j < n) : ∃ x y, cs[j * 3 + 1]? = some x ∧ cs[j * 3 + 2]? = some y ∧ w.cell? ⟨g, j * 3 + 1, none⟩ = some x ∧ w.cell? ⟨g, j * 3 + 2, none⟩ = some y ∧ SomeN B w x ∧ SomeN B w y := by
  obtain ⟨x, y, e1, e2, s1, s2⟩ := h.2 j hj
  have hc := h.1.cells (g := g) rfl
  refine ⟨x, y, e1, e2, ?_, ?_, s1, s2⟩
  · have := hc _ _ e1; rw [Addr.add_lit, Nat.zero_add] at this; exact this
  · have := hc _ _ e2; rw [Addr.add_lit, Nat.zero_add] at this; exact this

theorem rowC_of {B : Nat} {w : World} {v : Value} {os : List OpB} (h : OwnO B w v os) : ∃ cs, RowC B w v os.length cs := by
  obtain ⟨cs, hr, hj⟩ := h
  refine ⟨cs, hr, fun j h => ?_⟩
  obtain ⟨x, y, _, c1, c2, ox, oy⟩ := hj j h
  exact ⟨x, y, c1, c2, ox.some, oy.some⟩

end Go.Proofs.Ytdlefbbpgbjibaa

/- bartizanref04's Same. -/
namespace Go.Proofs.Ytdlefbbpgbjibaa
open Go.RowKit

theorem same_q (w : World) (a b : Value) (l l' : List UInt8) (x : Bool) (ha : Rd w a l) (hb : Rd w b l') (hx : (l == l') = x) :
    Calls Try.prog 24 #[a, b] w fun e w' => e = .returned (.bool x) ∧ ∃ n, w' = w.drewN n :=
  (same_b w a b l l' x ha hb hx).mono fun _ _ ⟨h1, h2⟩ => ⟨h1, 0, h2⟩

theorem opb_ext {a b : OpB} (h1 : a.1 = b.1) (h2 : a.2.1 = b.2.1) (h3 : a.2.2 = b.2.2) : a = b := by
  obtain ⟨a1, a2, a3⟩ := a
  obtain ⟨b1, b2, b3⟩ := b
  simp at h1 h2 h3
  subst h1 h2 h3
  rfl

set_option maxHeartbeats 4000000 in
set_option maxRecDepth 20000 in
theorem sameops_any (w : World) (va vb : Value) (os ps : List OpB) (r : Bool) (ha : RdO w va os) (hb : RdO w vb ps) (hr : decide (os = ps) = r) :
    Calls Try.prog 38 #[va, vb] w fun e w' => e = .returned (.bool r) ∧ ∃ n, w' = w.drewN n := by
  obtain ⟨ao, ac, rfl, h1, h2, h3⟩ := ha
  obtain ⟨bo, bc, rfl, g1, g2, g3⟩ := hb
  unfold maxLen at h2 g2
  have H3 : Hid _ := h3
  have G3 : Hid _ := g3
  have HR : Hid _ := hr
  clear h3 g3 hr
  by_cases hl : os.length = ps.length
  · have HL : Hid _ := hl
    obtain ⟨n, hn⟩ : ∃ n, os.length = n := ⟨_, rfl⟩
    rw [hn] at hl h1 ⊢
    rw [← hl] at g1 ⊢
    have HN : Hid _ := hn
    clear hn hl
    go_enter Try.func38, Try.ntmps38
    go_wp2_with fail
    go_loopg [13] n (fun gk iv wr => ∃ j m : Nat, gk + j = n ∧ iv = .int .i64 (j : Int) ∧ wr = w.drewN m ∧ os.take j = ps.take j)
    case atStart => exact ⟨0, 0, rfl, rfl, rfl, by simp⟩
    case round =>
      obtain ⟨j, m, hj, rfl, hwr, ht⟩ := hrel
      have HW : Hid (∀ n, wr.drewN n = w.drewN (m + n)) := by intro n; rw [hwr]; exact World.drewN_drewN _ _ _
      have HW0 : Hid _ := hwr
      have HT : Hid _ := ht
      clear ht
      by_cases hlt : j < n
      · have hlo : j < os.length := by rw [HN.out]; exact hlt
        have hlp : j < ps.length := by rw [← HL.out, HN.out]; exact hlt
        obtain ⟨b, off, rfl, xv, yv, c0, c1, c2, rx, ry⟩ := H3.out j hlo
        obtain ⟨b', off', rfl, xv', yv', d0, d1, d2, rx', ry'⟩ := G3.out j hlp
        obtain ⟨⟨ok, ol, om⟩, ho⟩ : ∃ o, os[j] = o := ⟨_, rfl⟩
        obtain ⟨⟨pk, pl, pm⟩, hp⟩ : ∃ o, ps[j] = o := ⟨_, rfl⟩
        rw [ho] at c0 rx ry
        rw [hp] at d0 rx' ry'
        have e0 : ∀ p, w.cell? p = wr.cell? p := by intro p; rw [hwr]; rfl
        have e1 : ∀ v l, Rd w v l → Rd wr v l := by rw [hwr]; exact fun _ _ h => h
        rw [e0] at c0 c1 c2 d0 d1 d2
        replace rx := e1 _ _ rx
        replace ry := e1 _ _ ry
        replace rx' := e1 _ _ rx'
        replace ry' := e1 _ _ ry'
        clear e0 e1
        clear hwr
        have HO : Hid _ := ho
        have HP : Hid _ := hp
        clear ho hp
        by_cases hk : ok = pk
        · subst hk
          obtain ⟨q, hq⟩ : ∃ q, (ol == pl) = q := ⟨_, rfl⟩
          have HQ : Hid _ := hq
          clear hq
          cases q
          · have hno : Hid (r = false) := by
              show _ = _
              rw [← HR.out]
              apply decide_eq_false
              rintro rfl
              have e := HO.out.symm.trans HP.out
              simp only [Prod.mk.injEq, true_and] at e
              have := HQ.out
              rw [e.1] at this
              simp at this
            go_wp2_with fail
            go_quiet (first
              | (go_at_call_of 24 xv; refine Calls.quiet_of (same_q _ _ _ ol pl false (by exact rx) (by exact rx') HQ.out)))
            go_wp2
            go_ret
            exact ⟨ret_bool (by rw [hno.out]), _, HW.out _⟩
          · obtain ⟨q2, hq2⟩ : ∃ q, (om == pm) = q := ⟨_, rfl⟩
            have HQ2 : Hid _ := hq2
            clear hq2
            cases q2
            · have hno : Hid (r = false) := by
                show _ = _
                rw [← HR.out]
                apply decide_eq_false
                rintro rfl
                have e := HO.out.symm.trans HP.out
                simp only [Prod.mk.injEq, true_and] at e
                have := HQ2.out
                rw [e.2] at this
                simp at this
              go_wp2_with fail
              go_quiet (first
                | (go_at_call_of 24 xv; refine Calls.quiet_of (same_q _ _ _ ol pl true (by exact rx) (by exact rx') HQ.out))
                | (go_at_call_of 24 yv; refine Calls.quiet_of (same_q _ _ _ om pm false (by exact ry) (by exact ry') HQ2.out)))
              go_wp2
              go_ret
              exact ⟨ret_bool (by rw [hno.out]), _, HW.out _⟩
            · have hyes : Hid (os.take (j + 1) = ps.take (j + 1)) := by
                show _ = _
                rw [List.take_succ_eq_append_getElem hlo, List.take_succ_eq_append_getElem hlp, HT.out, HO.out, HP.out, eq_of_beq HQ.out, eq_of_beq HQ2.out]
              go_wp2_with fail
              go_quiet (first
                | (go_at_call_of 24 xv; refine Calls.quiet_of (same_q _ _ _ ol pl true (by exact rx) (by exact rx') HQ.out))
                | (go_at_call_of 24 yv; refine Calls.quiet_of (same_q _ _ _ om pm true (by exact ry) (by exact ry') HQ2.out)))
              go_wp2
              go_roundg (gk - 1)
              case measure => omega
              case rel => exact ⟨j + 1, _, by omega, by go_num, HW.out _, hyes.out⟩
        · have hno : Hid (r = false) := by
            show _ = _
            rw [← HR.out]
            apply decide_eq_false
            rintro rfl
            have e := HO.out.symm.trans HP.out
            simp only [Prod.mk.injEq] at e
            exact hk e.1
          have hkk : ¬ (ok.toNat : Int) = (pk.toNat : Int) := fun e => hk (UInt8.toNat_inj.1 (by omega))
          have hk1 : decide ((ok.toNat : Int) = (pk.toNat : Int)) = false := decide_eq_false hkk
          have hk2 : ((ok.toNat : Int) != (pk.toNat : Int)) = true := by simp [hkk]
          clear hk
          go_wp2_with fail
          go_quiet (fail)
          go_wp2
          go_ret
          exact ⟨ret_bool (by rw [hno.out]), _, HW.out _⟩
      · obtain rfl : j = n := by omega
        have hyes : Hid (r = true) := by
          show _ = _
          rw [← HR.out]
          apply decide_eq_true
          have e := HT.out
          rw [List.take_of_length_le (by rw [HN.out]; omega), List.take_of_length_le (by rw [← HL.out, HN.out]; omega)] at e
          exact e
        clear hwr
        go_wp2
        go_ret
        exact ⟨ret_bool (by rw [hyes.out]), _, HW0.out⟩
  · have hno : Hid (r = false) := by
      show _ = _
      rw [← HR.out]
      apply decide_eq_false
      rintro rfl
      exact hl rfl
    go_enter Try.func38, Try.ntmps38
    go_wp2
    go_ret
    exact ⟨ret_bool (by rw [hno.out]), 0, rfl⟩

end Go.Proofs.Ytdlefbbpgbjibaa

/- For bartizanlaw10.run. -/
namespace Go.Proofs.Ytdlefbbpgbjibaa
set_option maxRecDepth 20000
open Go.RowKit
set_option linter.unusedVariables false
set_option linter.unusedSimpArgs false

theorem rdo_arg {w : World} {v : Value} {os : List OpB} (h : RdO w v os) : ArgO w v os := by
  obtain ⟨ao, cap, e, h1, h2, h3⟩ := h
  refine ⟨ao, cap, e, h1, h2, fun j hj => ?_⟩
  obtain ⟨b, off, e2, x, y, c0, c1, c2, r1, r2⟩ := h3 j hj
  exact ⟨b, off, e2, x, y, c0, c1, c2, r1.arg, r2.arg⟩

/-- behind i steps -/
def RunL (PM G : Nat → Prop) (W0 wr : World) (m x : Nat) (Z0 : List (OpB × Nat)) (i : Nat) : Prop :=
  ∃ (Y : List (OpB × Nat)) (PM' G' : Nat → Prop) (L : List EnB), RunI PM G W0 wr m x (Z0 ++ Y) PM' G' L ∧ Y.length ≤ 64 * i ∧ (∀ y ∈ Y, lastN (Z0.map (·.2)) < y.2) ∧ lastN (Z0.map (·.2)) ≤ lastN ((Z0 ++ Y).map (·.2))

theorem RunL.next {PM G PM' G' : Nat → Prop} {W0 W W1 W2 Wf : World} {F : Nat → Prop} {m x s i : Nat} {Z0 Y : List (OpB × Nat)} {L : List EnB} {ps : List OpB} {hs : List Int} {c : Int} {e1 e2 : Ending} (h : RunI PM G W0 W m x (Z0 ++ Y) PM' G' L) (hY : Y.length ≤ 64 * i) (hn : ∀ y ∈ Y, lastN (Z0.map (·.2)) < y.2) (hl : lastN (Z0.map (·.2)) ≤ lastN ((Z0 ++ Y).map (·.2)))
    (hc : batC ps (s : Int) hs ((lastN ((Z0 ++ Y).map (·.2)) : Nat) : Int) = c) (hq : BatQ PM' W m L (spnP (Z0 ++ Y)) ((lastN ((Z0 ++ Y).map (·.2)) : Nat) : Int) ps s c e1 W1) (hr : R10Post G' W1 x ((Z0 ++ Y).map (·.1)) ((Z0 ++ Y).map (·.2)) ps s c e2 W2)
    (hk : Keeps F W2 Wf) (hF : ∀ q, F q → (¬ PM' q ∧ ¬ G' q) ∧ W0.heap.size ≤ q ∧ q < W.heap.size) : RunL PM G W0 Wf m x Z0 (i + 1) := by
  obtain ⟨PM2, G2, L2, hI, _, hd⟩ := h.step hc hq hr
  have hI2 := hI.keeps hk (fun q hq => by
    have h9 := hF q hq
    refine ⟨fun h8 => ?_, fun h8 => ?_, h9.2.1⟩
    · rcases hd q (.inl h8) with (h7 | h7) | h7
      · exact h9.1.1 h7
      · exact h9.1.2 h7
      · omega
    · rcases hd q (.inr h8) with (h7 | h7) | h7
      · exact h9.1.1 h7
      · exact h9.1.2 h7
      · omega)
  by_cases h0 : c = 0
  · rw [if_pos h0, List.append_assoc] at hI2
    have hz := batC_zero (hc.trans h0)
    have h64 := (chkL_mem hz.1).1
    refine ⟨Y ++ zipS ps s, PM2, G2, L2, hI2, ?_, fun y hy => ?_, ?_⟩
    · have : (zipS ps s).length = ps.length := by unfold zipS; simp
      rw [List.length_append]
      omega
    · rcases List.mem_append.1 hy with h9 | h9
      · exact hn y h9
      · have h8 := zipS_mem h9
        have := hz.2.2
        omega
    · rw [← List.append_assoc, List.map_append, zipS_snd, lastN_app]
      split
      · exact hl
      · have := hz.2.2
        omega
  · rw [if_neg h0] at hI2
    exact ⟨Y, PM2, G2, L2, hI2, by omega, hn, hl⟩

/-- ops of one's own: their row, and what stays of it elsewhere -/
theorem ownO_split {B : Nat} {w : World} {v : Value} {os : List OpB} (h : OwnO B w v os) : ∃ cs, (∀ y ∈ cs, ∀ q, y.ownBlock = some q → B ≤ q ∧ q < w.heap.size) ∧ ∀ (F : Nat → Prop) (W : World), Keeps F w W → (∀ q, B ≤ q → q < w.heap.size → ¬ F q) → RowC B W v os.length cs ∧ RdO W v os := by
  obtain ⟨cs, h1, h2⟩ := h
  refine ⟨cs, fun y hy q hq => ?_, fun F W hk hF => ?_⟩
  · obtain ⟨i, hi, rfl⟩ := List.getElem_of_mem hy
    have hl : cs.length = os.length * 3 := h1.1
    obtain ⟨x, y, c0, c1, c2, ox, oy⟩ := h2 (i / 3) (by omega)
    have hc : cs[i]? = some cs[i] := List.getElem?_eq_getElem hi
    have h3 : i = i / 3 * 3 ∨ i = i / 3 * 3 + 1 ∨ i = i / 3 * 3 + 2 := by omega
    rcases h3 with h3 | h3 | h3
    · rw [← h3, hc] at c0
      rw [Option.some.inj c0] at hq
      simp [Value.ownBlock] at hq
    · rw [← h3, hc] at c1
      rw [Option.some.inj c1] at hq
      exact ownN_lt9 ox q hq
    · rw [← h3, hc] at c2
      rw [Option.some.inj c2] at hq
      exact ownN_lt9 oy q hq
  · have hs : ∀ q, B ≤ q ∧ q < w.heap.size → W.heap[q]? = w.heap[q]? := fun q hq => hk.block q hq.2 (hF q hq.1 hq.2)
    have h1' := row_same9 h1 (fun q hq => hs q (h1.lt q hq))
    have h2' : ∀ j (h : j < os.length), ∃ x y, cs[j * 3]? = some (.int .u8 (os[j].1.toNat : Int)) ∧ cs[j * 3 + 1]? = some x ∧ cs[j * 3 + 2]? = some y ∧ OwnN B W x os[j].2.1 ∧ OwnN B W y os[j].2.2 := fun j hj => by
      obtain ⟨x, y, c0, c1, c2, ox, oy⟩ := h2 j hj
      exact ⟨x, y, c0, c1, c2, ownN_same9 ox (fun q hq => hs q (ownN_lt9 ox q hq)), ownN_same9 oy (fun q hq => hs q (ownN_lt9 oy q hq))⟩
    refine ⟨⟨h1', fun j hj => ?_⟩, OwnO.rd ⟨cs, h1', h2'⟩⟩
    obtain ⟨x, y, _, c1, c2, ox, oy⟩ := h2' j hj
    exact ⟨x, y, c1, c2, ox.some, oy.some⟩

end Go.Proofs.Ytdlefbbpgbjibaa

/- bartizanlaw10.run: a script on both memos. -/
namespace Go.Proofs.Ytdlefbbpgbjibaa
set_option maxRecDepth 100000
open Go.RowKit
set_option linter.unusedVariables false
set_option linter.unusedSimpArgs false

set_option maxHeartbeats 8000000 in
theorem mrun_any (PM G : Nat → Prop) (W0 : World) (m x : Nat) (Z0 : List (OpB × Nat)) (L0 : List EnB) (v : Value) (sts : List MSt) (h : RunI PM G W0 W0 m x Z0 PM G L0) (hv : ∀ W, Keeps (fun q => PM q ∨ G q) W0 W → ArgM W v sts) (hlen : Z0.length + 1920 ≤ 4000) :
    Calls Try.prog 11 #[.pointer (some ⟨m, 0, none⟩), .pointer (some ⟨x, 0, none⟩), v] W0 fun e w' => e = .returned (.bool true) ∧ ∃ i, i ≤ 30 ∧ RunL PM G W0 w' m x Z0 i := by
  obtain ⟨i0, hi, hz0, hz1, hz2⟩ := info_parts infoI
  have HV : Hid (∀ W, Keeps (fun q => PM q ∨ G q) W0 W → ArgM W v sts) := hv
  have HR0 : Hid (RunI PM G W0 W0 m x Z0 PM G L0) := h
  obtain ⟨va, vc, rfl, h1, h2, _⟩ := hv W0 (Keeps.refl _ _)
  obtain ⟨NS, hNS⟩ : ∃ NS, sts.length = NS := ⟨_, rfl⟩
  rw [hNS] at h1 HV ⊢
  have HNS : Hid (sts.length = NS) := hNS
  have HLEN : Hid (Z0.length + 1920 ≤ 4000) := hlen
  clear hv h hNS hlen
  go_enter Try.func11, Try.ntmps11
  go_wp2_with fail
  go_loopg [17] NS (fun gk iv wr => ∃ i : Nat, gk + i = NS ∧ iv = .int .i64 (i : Int) ∧ i ≤ 30 ∧ Hid (RunL PM G W0 wr m x Z0 i))
  case atStart => exact ⟨0, by omega, rfl, by omega, ⟨[], PM, G, L0, by rw [List.append_nil]; exact HR0.out, by simp, by simp, by simp⟩⟩
  case round =>
    obtain ⟨i, hgi, rfl, hi30, HI⟩ := hrel
    obtain ⟨GK, hGK⟩ : ∃ GK, gk = GK := ⟨_, rfl⟩
    rw [hGK] at hgi
    by_cases hlt : i < NS
    · have hlt2 : i < sts.length := by rw [HNS.out]; exact hlt
      obtain ⟨q1, q2⟩ := gk_nxt hgi hlt
      obtain ⟨Y, PM', G', L, hI, hY, hYn, hYl⟩ := HI.out
      obtain ⟨_, _, e9, _, _, h3⟩ := HV.out wr hI.kp
      rw [HNS.out] at e9
      cases e9
      obtain ⟨gb, off, rfl, v1, v3, hst⟩ := h3 i hlt2
      obtain ⟨o, ho⟩ : ∃ o, sts[i] = o := ⟨_, rfl⟩
      rw [ho] at hst
      obtain ⟨d0, d1, d2, d3, a1, a3, s2⟩ := hst
      obtain ⟨S, hS⟩ : ∃ S : Int, (o.seq : Int) = S := ⟨_, rfl⟩
      rw [hS] at d2
      obtain ⟨al, hal⟩ : ∃ al, o.alone = al := ⟨_, rfl⟩
      rw [hal] at d0
      obtain ⟨oa, oc, ev1, _⟩ := a1
      obtain ⟨ha, hl, hc, zs, ev3, hrow, hhts⟩ := a3
      subst ev1 ev3
      have hstI : MStAt wr gb (off + i * 4) o (.slice oa o.ops.length oc) (.slice ha hl hc) := (by have h9 := h3 i hlt2; obtain ⟨b', off', e', v1', v3', h8⟩ := h9; cases e'; rw [ho] at h8; have e1 := h8.c1; have e3 := h8.c3; rw [d1] at e1; rw [d3] at e3; cases e1; cases e3; exact h8)
      have HST : Hid (MStAt wr gb (off + i * 4) o (.slice oa o.ops.length oc) (.slice ha hl hc)) := hstI
      have hb0 := below_box4 wr (.cells #[.bool al, .slice oa o.ops.length oc, .int .u64 S, .slice ha hl hc] 86)
      have bx := box4f_new wr (.bool al) (.slice oa o.ops.length oc) (.int .u64 S) (.slice ha hl hc) 86
      obtain ⟨OL, hOL⟩ : ∃ OL, o.ops.length = OL := ⟨_, rfl⟩
      have HIW : Hid (RunI PM G W0 wr m x (Z0 ++ Y) PM' G' L) := hI
      have HYY : Hid (Y.length ≤ 64 * i ∧ (∀ y ∈ Y, lastN (Z0.map (·.2)) < y.2) ∧ lastN (Z0.map (·.2)) ≤ lastN ((Z0 ++ Y).map (·.2))) := ⟨hY, hYn, hYl⟩
      have hfw := fewop_any (wr.alloc (.cells #[.bool al, .slice oa o.ops.length oc, .int .u64 S, .slice ha hl hc] 86)) (.slice oa o.ops.length oc) o.ops 66 (LsO.belowA hstI.a1 hb0 (Nat.le_refl _)) (by omega)
      rw [hOL] at hfw hb0 bx d1 HST
      obtain ⟨ls, hls⟩ : ∃ ls, fewO 66 o.ops = ls := ⟨_, rfl⟩
      rw [hls] at hfw
      obtain ⟨⟨b0, b1, b2, b3⟩, _, _, _, _⟩ := bx
      have HSS : Hid ((o.seq : Int) = S ∧ o.seq < 18446744073709551616) := ⟨hS, s2⟩
      have HLS : Hid (fewO 66 o.ops = ls) := hls
      have HB0 : Hid (Below wr.heap.size wr (wr.alloc (.cells #[.bool al, .slice oa OL oc, .int .u64 S, .slice ha hl hc] 86))) := hb0
      have BX : Hid (Box4f (wr.alloc (.cells #[.bool al, .slice oa OL oc, .int .u64 S, .slice ha hl hc] 86)) wr.heap.size (.bool al) (.slice oa OL oc) (.int .u64 S) (.slice ha hl hc)) := box4f_new wr _ _ _ _ _
      clear hY hYn hYl hI h3 hS hal hOL hls hstI hb0 ho s2 HI
      by_cases h30 : (30 : Int) ≤ (i : Int)
      · go_wp2
        go_ret
        refine ⟨rfl, i, hi30, Y, PM', G', L, HIW.out.below HB0.out, HYY.out⟩
      · have hi29 : i + 1 ≤ 30 := by omega
        have h30b : (i : Int) < 30 := by omega
        go_wp2_with fail
        refine hfw.mono ?_
        rintro e w1 ⟨lv, rfl, ol, hb1⟩
        have HB1 : Hid (Below wr.heap.size wr w1) := bsplit HB0.out hb1
        have BX1 : Hid (Box4f w1 wr.heap.size (.bool al) (.slice oa OL oc) (.int .u64 S) (.slice ha hl hc)) := BX.out.below hb1 (Nat.le_refl _)
        have HSA : Hid (wr.heap.size < (wr.alloc (.cells #[.bool al, .slice oa OL oc, .int .u64 S, .slice ha hl hc] 86)).heap.size ∧ (wr.alloc (.cells #[.bool al, .slice oa OL oc, .int .u64 S, .slice ha hl hc] 86)).heap.size ≤ w1.heap.size) := ⟨by simp, hb1.size⟩
        have hlens : ls.length ≤ 66 ∧ ∀ p ∈ ls, p.2.1.length ≤ 1000000 ∧ p.2.2.length ≤ 1000000 := by
          rw [← HLS.out]
          unfold fewO
          refine ⟨by rw [List.length_map, List.length_take]; omega, fun p hp => ?_⟩
          obtain ⟨q, _, rfl⟩ := List.mem_map.1 hp
          unfold cutOp
          simp only [List.length_take]
          omega
        have hcp := opcopy_any w1 lv ls (rdo_arg ol.rd) (by omega) hlens.2
        have HLL : Hid (ls.length ≤ 66 ∧ ∀ p ∈ ls, p.2.1.length ≤ 1000000 ∧ p.2.2.length ≤ 1000000) := hlens
        obtain ⟨la, lc, rfl, hl1, hl2, _⟩ := ol.rd
        obtain ⟨K, hK⟩ : ∃ K, ls.length = K := ⟨_, rfl⟩
        rw [hK] at hcp ol hl1 ⊢
        have HOL : Hid (OwnO (wr.alloc (.cells #[.bool al, .slice oa OL oc, .int .u64 S, .slice ha hl hc] 86)).heap.size w1 (.slice la K lc) ls) := ol
        have HK : Hid (ls.length = K) := hK
        have hK66 : K ≤ 66 := by rw [← hK]; exact hlens.1
        unfold maxLen at hl2
        clear hfw hb1 ol hlens hK b0 b1 b2 b3 BX
        go_wp2_with fail
        refine hcp.mono ?_
        rintro e w2 ⟨mv, rfl, om, hb2⟩
        have HB2 : Hid (Below wr.heap.size wr w2) := bsplit HB1.out hb2
        have BX2 : Hid (Box4f w2 wr.heap.size (.bool al) (.slice oa OL oc) (.int .u64 S) (.slice ha hl hc)) := BX1.out.below hb2 (Nat.le_refl _)
        have HOL2 : Hid (OwnO (wr.alloc (.cells #[.bool al, .slice oa OL oc, .int .u64 S, .slice ha hl hc] 86)).heap.size w2 (.slice la K lc) ls) := HOL.out.below hb2 (Nat.le_refl _)
        obtain ⟨ma, mc, rfl, hm1, hm2, _⟩ := om.rd
        rw [HK.out] at om hm1 ⊢
        have HOM : Hid (OwnO w1.heap.size w2 (.slice ma K mc) ls) := om
        have HS12 : Hid (w1.heap.size ≤ w2.heap.size) := hb2.size
        unfold maxLen at hm2
        have HH66 : Hid (o.hts = zs.take hl) := hhts
        have hrow2 := isRow_below hrow HB2.out (Nat.le_refl _)
        have HRW : Hid (IsRow .i64 w2 ha hl hc zs) := hrow2
        obtain ⟨⟨b0, b1, b2, b3⟩, _, _, _, _⟩ := BX2.out
        clear hcp hb2 om HOL hrow hrow2 hhts HB1 BX1
        go_upto_region 7 with fail
        go_cut [11] (fun hv wx => ∃ (ha' : Option Addr) (hn hc' : Nat), hv = .slice ha' hn hc' ∧ hn ≤ 66 ∧ Hid ((o.hts.take 66).length = hn) ∧ Hid (RowI w2.heap.size wx hv (o.hts.take 66)) ∧ Hid (Below w2.heap.size w2 wx))
        case first =>
          have hown0 : (w2.alloc (.cells #[] 3)).ownsRow w2.heap.size 3 1 (.slice (some ⟨w2.heap.size, 0, none⟩) 0 0) 0 [] := World.ownsRow_lit w2 #[] 0 (Nat.le_refl _) (Nat.zero_le _) rfl
          have hbe : Below w2.heap.size w2 (w2.alloc (.cells #[] 3)) := (Below.refl _ _).alloc (Nat.le_refl _) _
          obtain ⟨⟨y0, y1, y2, y3⟩, _, _, _, _⟩ := BX2.out.below hbe (Nat.le_refl _)
          rcases HRW.out with ⟨rfl, rfl, rfl, rfl⟩ | ⟨xx, rfl, hr1, hr2, hr3, hr4, _⟩
          · have hmin : min (0 : Int) (66 : Int) = 0 := by omega
            have hnil : o.hts.take 66 = [] := by rw [HH66.out]; rfl
            have HNIL : Hid (o.hts.take 66 = []) := hnil
            have HBE : Hid (Below w2.heap.size w2 (w2.alloc (.cells #[] 3))) := hbe
            clear hnil hbe
            go_wp2_with (first | (at_builtin; refine wpList_append_own_none rfl (.tmp 29) (.tmp 36) 67 rfl w2.heap.size 3 i0 1 Try.underlying67 hi _ _ _ rfl hown0 rfl ?_) | fail)
            go_meet
            exact ⟨_, 0, 0, rfl, by omega, by rw [HNIL.out]; rfl, by rw [HNIL.out]; exact hown0, HBE⟩
          · unfold maxLen at hr2
            obtain ⟨k, hk⟩ : ∃ k, (o.hts.take 66).length = k := ⟨_, rfl⟩
            have hk2 : k = min 66 hl := by rw [← hk, HH66.out, List.length_take, List.length_take, hr3]; omega
            have hmin : min (hl : Int) (66 : Int) = (k : Int) := by omega
            have hmin2 : (if 66 < hl then (66 : Int) else (hl : Int)) = (k : Int) := by split <;> omega
            have hkl : k ≤ hl := by omega
            have hkn : k ≤ 66 := by omega
            have h4 : ∀ j u, ((o.hts.take 66).map (fun h => Value.int .i64 h))[j]? = some u → (w2.alloc (.cells #[] 3)).cell? (xx.add j) = some u := fun j u hu => by
              have hj : j < k := by have := (List.getElem?_eq_some_iff.1 hu).1; rw [List.length_map, hk] at this; exact this
              have h9 := hr4 j (by omega)
              have h8 := (hbe.cell (World.block_lt_of_cell? w2 _ h9)).trans h9
              rw [h8, ← hu, List.getElem?_map, HH66.out, List.getElem?_take_of_lt (by omega), List.getElem?_take_of_lt (by omega), List.getElem?_eq_getElem (by omega)]
              simp [List.getD_eq_getElem?_getD, List.getElem?_eq_getElem (show j < zs.length by omega)]
            have HKH : Hid ((o.hts.take 66).length = k) := hk
            have HBE : Hid (Below w2.heap.size w2 (w2.alloc (.cells #[] 3))) := hbe
            clear hk hk2 hr4 hbe
            go_wp2_with (first | (at_builtin; refine wpList_append_own _ rfl (.tmp 29) (.tmp 36) 67 rfl w2.heap.size 3 i0 (.int .i64 0) 1 8 Try.underlying67 hi hz0 hz1 hz2 rfl (by decide) (.slice (some ⟨w2.heap.size, 0, none⟩) 0 0) 0 [] rfl hown0 xx k hc ((o.hts.take 66).map (fun h => Value.int .i64 h)) rfl (by rw [List.length_map, HKH.out, Nat.mul_one]) h4 (by intro u hu; obtain ⟨a, _, rfl⟩ := List.mem_map.1 hu; rfl) (by simp only [maxLen]; omega) (by omega) (by simp) ?_; intro v' w5 ho' hgr' hn') | fail)
            go_meet
            have hri : RowI w2.heap.size w5 v' (o.hts.take 66) := by
              unfold RowI
              rw [HKH.out]
              simpa using ho'
            obtain ⟨ra, rc, er⟩ := row_slice10 hri
            rw [HKH.out] at er
            subst er
            exact ⟨_, k, _, rfl, hkn, HKH.out, hri, HBE.out.grown hgr' (by simp) (fun k' e => (hown0.lt k' e).1)⟩
        case rest =>
          obtain ⟨ha', hn, hc', rfl, hn66, HHL, HHR, HB3⟩ := hcut
          obtain ⟨wx, hwx⟩ : ∃ wx, wx = wc := ⟨_, rfl⟩
          subst hwx
          have HBx : Hid (Below wr.heap.size wr wx) := bsplit HB2.out HB3.out
          have HIx : Hid (RunI PM G W0 wx m x (Z0 ++ Y) PM' G' L) := HIW.out.below HBx.out
          have BX3 : Hid (Box4f wx wr.heap.size (.bool al) (.slice oa OL oc) (.int .u64 S) (.slice ha hl hc)) := BX2.out.below HB3.out (Nat.le_refl _)
          have HPQ : Hid (∀ q, PM' q ∨ G' q → q < wr.heap.size) := fun q hq => hq.elim (fun h9 => HIW.out.lt q h9) (fun h9 => HIW.out.rf.lt h9)
          have hsp := ownO_split HOM.out
          obtain ⟨cs, hcsb, hrc⟩ := hsp
          have HCB : Hid (∀ y ∈ cs, ∀ q, y.ownBlock = some q → w1.heap.size ≤ q ∧ q < w2.heap.size) := hcsb
          rw [HK.out] at hrc
          have hspl := ownO_split HOL2.out
          obtain ⟨csl, _, hrl⟩ := hspl
          rw [HK.out] at hrl
          have HRC : Hid (∀ W, Keeps (fun q => PM' q ∨ G' q) w2 W → RowC w1.heap.size W (.slice ma K mc) K cs ∧ RdO W (.slice ma K mc) ls ∧ RdO W (.slice la K lc) ls) := fun W hk => by
            have h1 := hrc _ W hk (fun q h1 h2 h3 => by have := HPQ.out q h3; have := HSA.out; omega)
            exact ⟨h1.1, h1.2, (hrl _ W hk (fun q h1 h2 h3 => by have := HPQ.out q h3; have := HSA.out; omega)).2⟩
          obtain ⟨ra, rc, er, hra, hrn, hrd⟩ := HHR.out.rdi
          rw [HHL.out] at er hrn hrd
          cases er
          have HRD : Hid (∀ W, Keeps (fun q => PM' q ∨ G' q) wx W → RdI W ha' hn (o.hts.take 66)) := fun W hk => hrd _ W hk (fun q h1 h2 => by have := HPQ.out q h2; have := HB2.out.size; omega)
          obtain ⟨⟨b0, b1, b2, b3⟩, _, _, _, _⟩ := BX3.out
          obtain ⟨LN, hLN⟩ : ∃ LN : Nat, lastN ((Z0 ++ Y).map (·.2)) = LN := ⟨_, rfl⟩
          have HZL : Hid ((Z0 ++ Y).length ≤ 3936) := by
            show _ ≤ _
            rw [List.length_append]
            have := HYY.out.1
            have := HLEN.out
            omega
          clear hcsb hrc hrl hrd BX2 HHR
          cases al
          · go_upto_if 44 with fail
            go_cut [] (fun wy => Hid (∃ (W W1 : World) (ps : List OpB) (hs : List Int) (c : Int) (e1 e2 : Ending), Below wx.heap.size wx W ∧ batC ps (o.seq : Int) hs ((lastN ((Z0 ++ Y).map (·.2)) : Nat) : Int) = c ∧ BatQ PM' W m L (spnP (Z0 ++ Y)) ((lastN ((Z0 ++ Y).map (·.2)) : Nat) : Int) ps o.seq c e1 W1 ∧ R10Post G' W1 x ((Z0 ++ Y).map (·.1)) ((Z0 ++ Y).map (·.2)) ps o.seq c e2 wy))
            case first =>
              have hL9 : L.length ≤ 3936 ∧ (spnP (Z0 ++ Y)).length ≤ 3936 := by
                have h1 := HIx.out.pr.length_eq
                have h2 := verP_len (Z0 ++ Y)
                have := HZL.out
                omega
              have hlast9 : ∀ e ∈ L, (e.2.1 : Int) ≤ ((lastN ((Z0 ++ Y).map (·.2)) : Nat) : Int) := fun e he => by
                obtain ⟨z, hz, _, h2, _⟩ := verP_mem (HIx.out.pr.mem_iff.1 he)
                have := HIx.out.up z hz
                omega
              have hml : ((Z0 ++ Y).map (·.1)).length + 66 ≤ 100000 ∧ ((Z0 ++ Y).map (·.2)).length + 66 ≤ 100000 := by
                rw [List.length_map, List.length_map]
                have := HZL.out
                omega
              have HBN : Hid (L.length ≤ 3936 ∧ (spnP (Z0 ++ Y)).length ≤ 3936 ∧ (∀ e ∈ L, (e.2.1 : Int) ≤ ((lastN ((Z0 ++ Y).map (·.2)) : Nat) : Int)) ∧ ((Z0 ++ Y).map (·.1)).length + 66 ≤ 100000 ∧ ((Z0 ++ Y).map (·.2)).length + 66 ≤ 100000) := ⟨hL9.1, hL9.2, hlast9, hml⟩
              clear hL9 hlast9 hml
              have hdx : Below wx.heap.size wx wx.drew := (Below.refl _ _).drew
              have hba := mmP_batch PM' wx.drew m L (spnP (Z0 ++ Y)) ((lastN ((Z0 ++ Y).map (·.2)) : Nat) : Int) (.slice ma K mc) ls o.seq ha' hn hc' (o.hts.take 66) (HIx.out.mm.below hdx)
                (fun W' hk => (HRC.out W' ((Below.keeps HB3.out _).trans ((Below.keeps hdx _).trans (hk.mono (fun i h9 => Or.inl h9))))).2.1) (fun W' hk => HRD.out W' ((Below.keeps hdx _).trans (hk.mono (fun i h9 => Or.inl h9)))) hra hrn (by omega) (fun h0 => by have := (chkL_mem h0).1; have := HBN.out.1; omega) (by have := HBN.out.2.1; omega) HBN.out.2.2.1 HSS.out.2
              obtain ⟨c, hc⟩ : ∃ c, batC ls (o.seq : Int) (o.hts.take 66) ((lastN ((Z0 ++ Y).map (·.2)) : Nat) : Int) = c := ⟨_, rfl⟩
              have HRB : Hid (∀ W1 : World, Keeps PM' wx.drew W1 → Calls Try.prog 37 #[.pointer (some ⟨x, 0, none⟩), .slice la K lc, .int .u64 S, .slice ha' hn hc'] W1 (R10Post G' W1 x ((Z0 ++ Y).map (·.1)) ((Z0 ++ Y).map (·.2)) ls o.seq c)) := fun W1 hk => by
                have h9 := r10batch_any G' W1 x ((Z0 ++ Y).map (·.1)) ((Z0 ++ Y).map (·.2)) (.slice la K lc) ls o.seq ha' hn hc' (o.hts.take 66) ((HIx.out.rf.below hdx).keeps hk (fun q hq hp => HIx.out.ap q hp hq))
                  (fun W' hk' => (HRC.out W' (((Below.keeps HB3.out _).trans ((Below.keeps hdx _).trans (hk.mono (fun i h9 => Or.inl h9)))).trans (hk'.mono (fun i h9 => Or.inr h9)))).2.2) (HRD.out W1 ((Below.keeps hdx _).trans (hk.mono (fun i h9 => Or.inl h9)))) hrn (by omega) HLL.out.2 (by rw [HK.out]; have := HBN.out; omega) (by rw [HK.out]; have := HBN.out; omega) HSS.out.2
                rw [hc, HSS.out.1] at h9
                exact h9
              rw [hc, HSS.out.1] at hba
              have HC : Hid (batC ls (o.seq : Int) (o.hts.take 66) ((lastN ((Z0 ++ Y).map (·.2)) : Nat) : Int) = c) := hc
              have HSB : Hid (∀ W, Keeps (fun q => PM' q ∨ G' q) wx W → W.cell? ⟨wr.heap.size, 2, none⟩ = some (.int .u64 S)) := fun W hk => hk.cell (p := ⟨wr.heap.size, 2, none⟩) (fun h9 => absurd (HPQ.out wr.heap.size h9) (Nat.lt_irrefl _)) b2
              have hb2d : wx.drew.cell? ⟨wr.heap.size, 2, none⟩ = some (.int .u64 S) := b2
              clear hc hra hrn
              go_wp2_with fail
              go_region_held3 (fun w' => w'.cell? ⟨wr.heap.size, 2, none⟩ = some (.int .u64 S))
                (first | with_reducible exact HSB.out _ HK2.out | with_reducible exact HSB.out _ HK1.out | with_reducible exact hb2d | fail "keep")
                (first
                  | (go_at_call 29
                     refine Calls.mono hba ?_
                     rintro e w5 hq
                     have HQ : Hid (BatQ PM' wx.drew m L (spnP (Z0 ++ Y)) ((lastN ((Z0 ++ Y).map (·.2)) : Nat) : Int) ls o.seq c e w5) := hq
                     have HK1 : Hid (Keeps (fun q => PM' q ∨ G' q) wx w5) := (Below.keeps hdx _).trans (hq.2.1.mono (fun i h9 => Or.inl h9))
                     have HKP : Hid (Keeps PM' wx.drew w5) := hq.2.1
                     obtain ⟨he5, _⟩ := hq
                     subst he5
                     clear hba)
                  | (go_at_call 37
                     refine Calls.mono (HRB.out _ HKP.out) ?_
                     rintro e w6 hr
                     have HR : Hid (R10Post G' w5 x ((Z0 ++ Y).map (·.1)) ((Z0 ++ Y).map (·.2)) ls o.seq c e w6) := hr
                     have HK2 : Hid (Keeps (fun q => PM' q ∨ G' q) wx w6) := HK1.out.trans (hr.2.1.mono (fun i h9 => Or.inr h9))
                     obtain ⟨he6, _⟩ := hr
                     subst he6
                     clear HRB)
                  | fail "arm")
              all_goals
                go_wp2_with fail
                go_meet
                exact ⟨wx.drew, w5, ls, o.hts.take 66, c, _, _, hdx, HC.out, HQ.out, HR.out⟩
            case rest =>
              obtain ⟨wy, hwy⟩ : ∃ wy, wy = wc := ⟨_, rfl⟩
              subst hwy
              have HKY : Hid (Keeps (fun q => PM' q ∨ G' q) wx wy ∧ Below wx.heap.size wx wx) := by
                obtain ⟨W, W1, ps, hs, c, e1, e2, hbW, _, hq, hr⟩ := hcut.out
                exact ⟨((Below.keeps hbW _).trans (hq.2.1.mono (fun i h9 => Or.inl h9))).then (hr.2.1.mono (fun i h9 => Or.inr h9)) (fun i h9 => .inl h9), Below.refl _ _⟩
              have HYC : Hid _ := hcut
              have hry := HRC.out wy ((Below.keeps HB3.out _).trans HKY.out.1)
              have hsm := sameops_any wy (.slice ma K mc) (.slice la K lc) ls ls true hry.2.1 hry.2.2 (by simp)
              have HRY : Hid (RowC w1.heap.size wy (.slice ma K mc) K cs) := hry.1
              clear hry hcut
              go_wp2_with fail
              refine hsm.mono ?_
              rintro e wz ⟨rfl, nn, hwz⟩
              have HRZ : Hid (RowC w1.heap.size wz (.slice ma K mc) K cs ∧ Keeps (fun q => w1.heap.size ≤ q ∧ q < w2.heap.size) wy wz) := by
                rw [hwz]
                exact ⟨HRY.out, Below.keeps (below_drewN (Below.refl _ _) _) _⟩
              clear hsm hwz HRY
              obtain ⟨wo, hwo⟩ : ∃ wo, wo = wr := ⟨_, rfl⟩
              subst hwo
              go_wp2_with fail
              go_loopg [87] K (fun gk iv wr => ∃ j : Nat, gk + j = K ∧ iv = .int .i64 (j : Int) ∧ Hid (RowC w1.heap.size wr (.slice ma K mc) K cs ∧ Keeps (fun q => w1.heap.size ≤ q ∧ q < w2.heap.size) wy wr))
              case atStart => exact ⟨0, by omega, rfl, HRZ⟩
              case round =>
                obtain ⟨j, hj2, rfl, HR⟩ := hrel
                obtain ⟨GJ, hGJ⟩ : ∃ GJ, gk = GJ := ⟨_, rfl⟩
                rw [hGJ] at hj2
                by_cases hltj : j < K
                · obtain ⟨p1, p2⟩ := gk_nxt hj2 hltj
                  obtain ⟨g, k, hg⟩ : ∃ g k, Value.slice ma K mc = .slice (some ⟨g, 0, none⟩) K k := by
                    obtain ⟨g, k, e, _, _⟩ := HR.out.1.1.form (by omega)
                    exact ⟨g, k, e⟩
                  cases hg
                  obtain ⟨xv, yv, ex, ey, cx, cy, sx, sy⟩ := HR.out.1.cells j hltj
                  have HEY : Hid (cs[j * 3 + 2]? = some yv) := ey
                  obtain ⟨ya, yn, yc, hyy⟩ : ∃ ya yn yc, yv = .slice ya yn yc := by
                    rcases sy with h9 | ⟨g', n, c', e, _⟩
                    · exact ⟨_, _, _, h9⟩
                    · exact ⟨_, _, _, e⟩
                  subst hyy
                  have hym : yn ≤ 9223372036854775807 := by
                    rcases sy with h9 | ⟨g', n, c', e, _, h1, h2, _⟩
                    · cases h9; omega
                    · cases e; unfold maxLen at h2; omega
                  clear sx sy ex ey cx
                  obtain ⟨wp, hwp⟩ : ∃ wp, wp = wr := ⟨_, rfl⟩
                  subst hwp
                  go_wp2_with fail
                  clear cy
                  go_loopg [96] yn (fun gk iv wr => ∃ i : Nat, gk + i = yn ∧ iv = .int .i64 (i : Int) ∧ Hid (RowC w1.heap.size wr (.slice (some ⟨g, 0, none⟩) K mc) K cs ∧ Keeps (fun q => w1.heap.size ≤ q ∧ q < w2.heap.size) wy wr))
                  case atStart => exact ⟨0, by omega, rfl, HR⟩
                  case round =>
                    clear HR
                    obtain ⟨ii, hi2, rfl, HR⟩ := hrel
                    obtain ⟨xv, yv, ex, ey, cx, cy, sx, sy⟩ := HR.out.1.cells j hltj
                    obtain rfl : yv = .slice ya yn yc := by
                      have e2 := HEY.out.symm.trans ey
                      simp at e2
                      exact e2.symm
                    clear ex
                    by_cases hlt3 : ii < yn
                    · obtain ⟨p3, p4⟩ := gk_nxt hi2 hlt3
                      rcases sy with h9 | ⟨gy, n, c', e, hu, h1, h2, h3⟩
                      · cases h9; omega
                      · cases e
                        unfold maxLen at h2
                        have hblk := HCB.out _ (List.mem_of_getElem? ey) gy rfl
                        obtain ⟨bb, hcy, hfy⟩ := u8_cell hu ii hlt3
                        have hxb := bb.toNat_lt
                        have r1 := HR.out.1.set hu ii (bb ^^^ 1)
                        have r2 := HR.out.2.setCell (p := ⟨gy, ii, none⟩) hblk (.int .u8 ((bb ^^^ 1).toNat : Int))
                        have hx1 := xor_one bb
                        have HQ1 : Hid (RowC w1.heap.size (wr.setCell ⟨gy, ii, none⟩ (.int .u8 ((bb ^^^ 1).toNat : Int))) (.slice (some ⟨g, 0, none⟩) K mc) K cs ∧ Keeps (fun q => w1.heap.size ≤ q ∧ q < w2.heap.size) wy (wr.setCell ⟨gy, ii, none⟩ (.int .u8 ((bb ^^^ 1).toNat : Int)))) := ⟨r1, r2⟩
                        clear HR hu r1 r2 ey sx cx hblk
                        go_wp2
                        go_roundg (gk - 1)
                        case measure => exact p3
                        case rel => exact ⟨ii + 1, p4, by go_num, HQ1⟩
                    · obtain rfl : ii = yn := by omega
                      clear sx sy cx cy ey
                      go_wp2_with fail
                      go_roundg (GJ - 1)
                      case measure => rw [hGJ]; exact p1
                      case rel => exact ⟨j + 1, p2, by go_num, HR⟩
                · obtain rfl : j = K := by omega
                  have HNX : Hid (RunL PM G W0 wr m x Z0 (i + 1)) := by
                    obtain ⟨W, W1, ps, hs, c, e1, e2, hbW, hc9, hq, hr⟩ := HYC.out
                    refine RunL.next (HIx.out.below hbW) HYY.out.1 HYY.out.2.1 HYY.out.2.2 hc9 hq hr HR.out.2 (fun q hq9 => ?_)
                    have a1 := HSA.out
                    have a2 := HB3.out.size
                    have a3 := hbW.size
                    have a4 := HIW.out.kp.size
                    refine ⟨⟨fun h9 => ?_, fun h9 => ?_⟩, by omega, by omega⟩
                    · have := HPQ.out q (.inl h9); omega
                    · have := HPQ.out q (.inr h9); omega
                  go_wp2_with fail
                  go_roundg (GK - 1)
                  case measure => rw [hGK]; exact q1
                  case rel => exact ⟨i + 1, q2, by go_num, hi29, HNX⟩
          · go_upto_if 44 with fail
            go_cut [] (fun wy => Hid (∃ (W W1 : World) (ps : List OpB) (hs : List Int) (c : Int) (e1 e2 : Ending), Below wx.heap.size wx W ∧ batC ps (o.seq : Int) hs ((lastN ((Z0 ++ Y).map (·.2)) : Nat) : Int) = c ∧ BatQ PM' W m L (spnP (Z0 ++ Y)) ((lastN ((Z0 ++ Y).map (·.2)) : Nat) : Int) ps o.seq c e1 W1 ∧ R10Post G' W1 x ((Z0 ++ Y).map (·.1)) ((Z0 ++ Y).map (·.2)) ps o.seq c e2 wy))
            case first =>
              have hL9 : L.length ≤ 3936 ∧ (spnP (Z0 ++ Y)).length ≤ 3936 := by
                have h1 := HIx.out.pr.length_eq
                have h2 := verP_len (Z0 ++ Y)
                have := HZL.out
                omega
              have hlast9 : ∀ e ∈ L, (e.2.1 : Int) ≤ ((lastN ((Z0 ++ Y).map (·.2)) : Nat) : Int) := fun e he => by
                obtain ⟨z, hz, _, h2, _⟩ := verP_mem (HIx.out.pr.mem_iff.1 he)
                have := HIx.out.up z hz
                omega
              have hml : ((Z0 ++ Y).map (·.1)).length + 66 ≤ 100000 ∧ ((Z0 ++ Y).map (·.2)).length + 66 ≤ 100000 := by
                rw [List.length_map, List.length_map]
                have := HZL.out
                omega
              have HBN : Hid (L.length ≤ 3936 ∧ (spnP (Z0 ++ Y)).length ≤ 3936 ∧ (∀ e ∈ L, (e.2.1 : Int) ≤ ((lastN ((Z0 ++ Y).map (·.2)) : Nat) : Int)) ∧ ((Z0 ++ Y).map (·.1)).length + 66 ≤ 100000 ∧ ((Z0 ++ Y).map (·.2)).length + 66 ≤ 100000) := ⟨hL9.1, hL9.2, hlast9, hml⟩
              clear hL9 hlast9 hml
              by_cases hK0 : 0 < K
              · have hK0I : (0 : Int) < (K : Int) := by omega
                have hdx : Below wx.heap.size wx wx.drew := (Below.refl _ _).drew
                have hK0' : 0 < ls.length := by rw [HK.out]; exact hK0
                obtain ⟨⟨k, kl, vl⟩, ho0⟩ : ∃ p, ls[0] = p := ⟨_, rfl⟩
                have hbo := HLL.out.2 _ (List.getElem_mem hK0')
                rw [ho0] at hbo
                obtain ⟨csm, rm, em⟩ := HOM.out
                obtain ⟨xs, ys, m0, m1, m2, oxs, oys⟩ := em 0 hK0'
                rw [ho0] at m0 oxs oys
                rw [HK.out] at rm
                obtain ⟨gm, cm, eg, _⟩ := rm.form (by omega)
                cases eg
                obtain ⟨csq, rl, el⟩ := HOL2.out
                obtain ⟨xl, yl, l0, l1, l2, oxl, oyl⟩ := el 0 hK0'
                rw [ho0] at l0 oxl oyl
                rw [HK.out] at rl
                obtain ⟨gl, cl, eg, _⟩ := rl.form (by omega)
                cases eg
                simp only at m0 m1 m2 oxs oys l0 l1 l2 oxl oyl hbo
                obtain ⟨kk, hkk⟩ : ∃ kk : Int, (k.toNat : Int) = kk := ⟨_, rfl⟩
                obtain ⟨nl, hnl⟩ : ∃ nl, kl.length = nl := ⟨_, rfl⟩
                obtain ⟨ml, hml⟩ : ∃ ml, vl.length = ml := ⟨_, rfl⟩
                obtain ⟨x1, x2, ex⟩ := oxs.rd.len
                obtain ⟨y1, y2, ey⟩ := oys.rd.len
                obtain ⟨u1, u2, eu⟩ := oxl.rd.len
                obtain ⟨v1, v2, ev⟩ := oyl.rd.len
                subst ex ey eu ev
                rw [hnl] at oxs oxl m1 l1
                rw [hml] at oys oyl m2 l2
                rw [hkk] at m0 l0
                have cm0 : w2.cell? ⟨gm, 0, none⟩ = some (.int .u8 kk) := by rw [World.ownsRow.cellAt rm 0 (by omega)]; exact m0
                have cm1 : w2.cell? ⟨gm, 1, none⟩ = some (.slice x1 nl x2) := by rw [World.ownsRow.cellAt rm 1 (by omega)]; exact m1
                have cm2 : w2.cell? ⟨gm, 2, none⟩ = some (.slice y1 ml y2) := by rw [World.ownsRow.cellAt rm 2 (by omega)]; exact m2
                have cl0 : w2.cell? ⟨gl, 0, none⟩ = some (.int .u8 kk) := by rw [World.ownsRow.cellAt rl 0 (by omega)]; exact l0
                have cl1 : w2.cell? ⟨gl, 1, none⟩ = some (.slice u1 nl u2) := by rw [World.ownsRow.cellAt rl 1 (by omega)]; exact l1
                have cl2 : w2.cell? ⟨gl, 2, none⟩ = some (.slice v1 ml v2) := by rw [World.ownsRow.cellAt rl 2 (by omega)]; exact l2
                have hgm := (rm.lt gm rfl).1
                have hgl := (rl.lt gl rfl).1
                have HSB : Hid (∀ W, Keeps (fun q => PM' q ∨ G' q) wx W → W.cell? ⟨gm, 0, none⟩ = some (.int .u8 kk) ∧ W.cell? ⟨gm, 1, none⟩ = some (.slice x1 nl x2) ∧ W.cell? ⟨gm, 2, none⟩ = some (.slice y1 ml y2) ∧ W.cell? ⟨gl, 0, none⟩ = some (.int .u8 kk) ∧ W.cell? ⟨gl, 1, none⟩ = some (.slice u1 nl u2) ∧ W.cell? ⟨gl, 2, none⟩ = some (.slice v1 ml v2) ∧ W.cell? ⟨wr.heap.size, 2, none⟩ = some (.int .u64 S)) := fun W hk => by
                  have hw2 : Keeps (fun q => PM' q ∨ G' q) w2 W := (Below.keeps HB3.out _).trans hk
                  have nm : ¬ (PM' gm ∨ G' gm) := fun h9 => by have := HPQ.out gm h9; have := HSA.out; omega
                  have nl' : ¬ (PM' gl ∨ G' gl) := fun h9 => by have := HPQ.out gl h9; have := HSA.out; omega
                  exact ⟨hw2.cell (p := ⟨gm, 0, none⟩) nm cm0, hw2.cell (p := ⟨gm, 1, none⟩) nm cm1, hw2.cell (p := ⟨gm, 2, none⟩) nm cm2, hw2.cell (p := ⟨gl, 0, none⟩) nl' cl0, hw2.cell (p := ⟨gl, 1, none⟩) nl' cl1, hw2.cell (p := ⟨gl, 2, none⟩) nl' cl2, hk.cell (p := ⟨wr.heap.size, 2, none⟩) (fun h9 => absurd (HPQ.out wr.heap.size h9) (Nat.lt_irrefl _)) b2⟩
                have hSD : wx.drew.cell? ⟨gm, 0, none⟩ = some (.int .u8 kk) ∧ wx.drew.cell? ⟨gm, 1, none⟩ = some (.slice x1 nl x2) ∧ wx.drew.cell? ⟨gm, 2, none⟩ = some (.slice y1 ml y2) ∧ wx.drew.cell? ⟨gl, 0, none⟩ = some (.int .u8 kk) ∧ wx.drew.cell? ⟨gl, 1, none⟩ = some (.slice u1 nl u2) ∧ wx.drew.cell? ⟨gl, 2, none⟩ = some (.slice v1 ml v2) ∧ wx.drew.cell? ⟨wr.heap.size, 2, none⟩ = some (.int .u64 S) := HSB.out _ (Below.keeps hdx _)
                have HRR : Hid (∀ W, Keeps (fun q => PM' q ∨ G' q) w2 W → (Rd W (.slice x1 nl x2) kl ∧ Rd W (.slice y1 ml y2) vl) ∧ Rd W (.slice u1 nl u2) kl ∧ Rd W (.slice v1 ml v2) vl) := fun W hk => by
                  have gen : ∀ (B : Nat) (z : Value) (l : List UInt8), wr.heap.size ≤ B → OwnN B w2 z l → Rd W z l := fun B z l hB hz => rd_keep hz.rd hk (fun q hq h9 => by have := (ownN_lt9 hz q hq).1; have := HPQ.out q h9; omega)
                  have := HSA.out
                  exact ⟨⟨gen _ _ _ (by omega) oxs, gen _ _ _ (by omega) oys⟩, gen _ _ _ (by omega) oxl, gen _ _ _ (by omega) oyl⟩
                have HHC : Hid (∀ hh : Int, ∃ c, batC [(k, kl, vl)] (o.seq : Int) [hh] ((lastN ((Z0 ++ Y).map (·.2)) : Nat) : Int) = c ∧ Calls Try.prog 30 #[.pointer (some ⟨m, 0, none⟩), .agg #[.int .u8 kk, .slice x1 nl x2, .slice y1 ml y2], .int .u64 S, .int .i64 hh] wx.drew (BatQ PM' wx.drew m L (spnP (Z0 ++ Y)) ((lastN ((Z0 ++ Y).map (·.2)) : Nat) : Int) [(k, kl, vl)] o.seq c) ∧ (∀ W1 : World, Keeps PM' wx.drew W1 → Calls Try.prog 36 #[.pointer (some ⟨x, 0, none⟩), .agg #[.int .u8 kk, .slice u1 nl u2, .slice v1 ml v2], .int .u64 S, .int .i64 hh] W1 (R10Post G' W1 x ((Z0 ++ Y).map (·.1)) ((Z0 ++ Y).map (·.2)) [(k, kl, vl)] o.seq c))) := fun hh => by
                  refine ⟨_, rfl, ?_, fun W1 hk => ?_⟩
                  · have h9 := mmP_do PM' wx.drew m L (spnP (Z0 ++ Y)) ((lastN ((Z0 ++ Y).map (·.2)) : Nat) : Int) k (.slice x1 nl x2) (.slice y1 ml y2) kl vl o.seq hh (HIx.out.mm.below hdx)
                      (fun W' hk => (HRR.out W' ((Below.keeps HB3.out _).trans ((Below.keeps hdx _).trans (hk.mono (fun i h9 => Or.inl h9))))).1) (by have := HBN.out.1; omega) (by have := HBN.out.2.1; omega) HBN.out.2.2.1 HSS.out.2
                    rw [hkk] at h9
                    have e9 := HSS.out.1
                    rw [← e9]
                    exact h9
                  · have hr9 := (HRR.out W1 ((Below.keeps HB3.out _).trans ((Below.keeps hdx _).trans (hk.mono (fun i h9 => Or.inl h9))))).2
                    have h9 := r10do_any G' W1 x ((Z0 ++ Y).map (·.1)) ((Z0 ++ Y).map (·.2)) k (.slice u1 nl u2) (.slice v1 ml v2) kl vl o.seq hh ((HIx.out.rf.below hdx).keeps hk (fun q hq hp => HIx.out.ap q hp hq)) hr9.1 hr9.2 hbo.1 hbo.2 (by have := HBN.out; omega) (by have := HBN.out; omega) HSS.out.2
                    rw [hkk] at h9
                    have e9 := HSS.out.1
                    rw [← e9]
                    exact h9
                clear cm0 cm1 cm2 cl0 cl1 cl2 m0 m1 m2 l0 l1 l2 oxs oys oxl oyl rm rl em el hgm hgl ho0 hbo hkk hnl hml hK0'
                by_cases hn0 : 0 < hn
                · obtain ⟨hb9, ho9, rfl, hcell⟩ := (HRD.out wx (Keeps.refl _ _)).2 0 hn0
                  rw [Nat.add_zero] at hcell
                  have hn0I : (0 : Int) < (hn : Int) := by omega
                  obtain ⟨hh, hhh⟩ : ∃ hh, (o.hts.take 66).getD 0 0 = hh := ⟨_, rfl⟩
                  rw [hhh] at hcell
                  obtain ⟨c, hc, hba, HRB0⟩ := HHC.out hh
                  have HRB : Hid _ := HRB0
                  clear hhh HRB0 HHC
                  have HC : Hid _ := hc
                  clear hc hra hrn
                  go_wp2_with fail
                  go_region_held3 (fun w' => w'.cell? ⟨gm, 0, none⟩ = some (.int .u8 kk) ∧ w'.cell? ⟨gm, 1, none⟩ = some (.slice x1 nl x2) ∧ w'.cell? ⟨gm, 2, none⟩ = some (.slice y1 ml y2) ∧ w'.cell? ⟨gl, 0, none⟩ = some (.int .u8 kk) ∧ w'.cell? ⟨gl, 1, none⟩ = some (.slice u1 nl u2) ∧ w'.cell? ⟨gl, 2, none⟩ = some (.slice v1 ml v2) ∧ w'.cell? ⟨wr.heap.size, 2, none⟩ = some (.int .u64 S))
                    (first | with_reducible exact HSB.out _ HK2.out | with_reducible exact HSB.out _ HK1.out | with_reducible exact hSD | fail "keep")
                    (first
                      | (go_at_call 30
                         refine Calls.mono hba ?_
                         rintro e w5 hq
                         have HQ : Hid (BatQ PM' wx.drew m L (spnP (Z0 ++ Y)) ((lastN ((Z0 ++ Y).map (·.2)) : Nat) : Int) [(k, kl, vl)] o.seq c e w5) := hq
                         have HK1 : Hid (Keeps (fun q => PM' q ∨ G' q) wx w5) := (Below.keeps hdx _).trans (hq.2.1.mono (fun i h9 => Or.inl h9))
                         have HKP : Hid (Keeps PM' wx.drew w5) := hq.2.1
                         obtain ⟨he5, _⟩ := hq
                         subst he5
                         clear hba)
                      | (go_at_call 36
                         refine Calls.mono (HRB.out _ HKP.out) ?_
                         rintro e w6 hr
                         have HR : Hid (R10Post G' w5 x ((Z0 ++ Y).map (·.1)) ((Z0 ++ Y).map (·.2)) [(k, kl, vl)] o.seq c e w6) := hr
                         have HK2 : Hid (Keeps (fun q => PM' q ∨ G' q) wx w6) := HK1.out.trans (hr.2.1.mono (fun i h9 => Or.inr h9))
                         obtain ⟨he6, _⟩ := hr
                         subst he6
                         clear HRB)
                      | fail "arm")
                  all_goals
                    go_wp2_with fail
                    go_meet
                    exact ⟨wx.drew, w5, [(k, kl, vl)], _, c, _, _, hdx, HC.out, HQ.out, HR.out⟩
                · have hn0I : ¬ (0 : Int) < (hn : Int) := by omega
                  obtain ⟨hh, hhh⟩ : ∃ hh : Int, (1 : Int) = hh := ⟨_, rfl⟩
                  obtain ⟨c, hc, hba, HRB0⟩ := HHC.out 1
                  have HRB : Hid _ := HRB0
                  clear hhh HRB0 HHC
                  have HC : Hid _ := hc
                  clear hc hra hrn
                  go_wp2_with fail
                  go_region_held3 (fun w' => w'.cell? ⟨gm, 0, none⟩ = some (.int .u8 kk) ∧ w'.cell? ⟨gm, 1, none⟩ = some (.slice x1 nl x2) ∧ w'.cell? ⟨gm, 2, none⟩ = some (.slice y1 ml y2) ∧ w'.cell? ⟨gl, 0, none⟩ = some (.int .u8 kk) ∧ w'.cell? ⟨gl, 1, none⟩ = some (.slice u1 nl u2) ∧ w'.cell? ⟨gl, 2, none⟩ = some (.slice v1 ml v2) ∧ w'.cell? ⟨wr.heap.size, 2, none⟩ = some (.int .u64 S))
                    (first | with_reducible exact HSB.out _ HK2.out | with_reducible exact HSB.out _ HK1.out | with_reducible exact hSD | fail "keep")
                    (first
                      | (go_at_call 30
                         refine Calls.mono hba ?_
                         rintro e w5 hq
                         have HQ : Hid (BatQ PM' wx.drew m L (spnP (Z0 ++ Y)) ((lastN ((Z0 ++ Y).map (·.2)) : Nat) : Int) [(k, kl, vl)] o.seq c e w5) := hq
                         have HK1 : Hid (Keeps (fun q => PM' q ∨ G' q) wx w5) := (Below.keeps hdx _).trans (hq.2.1.mono (fun i h9 => Or.inl h9))
                         have HKP : Hid (Keeps PM' wx.drew w5) := hq.2.1
                         obtain ⟨he5, _⟩ := hq
                         subst he5
                         clear hba)
                      | (go_at_call 36
                         refine Calls.mono (HRB.out _ HKP.out) ?_
                         rintro e w6 hr
                         have HR : Hid (R10Post G' w5 x ((Z0 ++ Y).map (·.1)) ((Z0 ++ Y).map (·.2)) [(k, kl, vl)] o.seq c e w6) := hr
                         have HK2 : Hid (Keeps (fun q => PM' q ∨ G' q) wx w6) := HK1.out.trans (hr.2.1.mono (fun i h9 => Or.inr h9))
                         obtain ⟨he6, _⟩ := hr
                         subst he6
                         clear HRB)
                      | fail "arm")
                  all_goals
                    go_wp2_with fail
                    go_meet
                    exact ⟨wx.drew, w5, [(k, kl, vl)], _, c, _, _, hdx, HC.out, HQ.out, HR.out⟩
              · have hdx : Below wx.heap.size wx wx.drew := (Below.refl _ _).drew
                have hba := mmP_batch PM' wx.drew m L (spnP (Z0 ++ Y)) ((lastN ((Z0 ++ Y).map (·.2)) : Nat) : Int) (.slice ma K mc) ls o.seq ha' hn hc' (o.hts.take 66) (HIx.out.mm.below hdx)
                  (fun W' hk => (HRC.out W' ((Below.keeps HB3.out _).trans ((Below.keeps hdx _).trans (hk.mono (fun i h9 => Or.inl h9))))).2.1) (fun W' hk => HRD.out W' ((Below.keeps hdx _).trans (hk.mono (fun i h9 => Or.inl h9)))) hra hrn (by omega) (fun h0 => by have := (chkL_mem h0).1; have := HBN.out.1; omega) (by have := HBN.out.2.1; omega) HBN.out.2.2.1 HSS.out.2
                obtain ⟨c, hc⟩ : ∃ c, batC ls (o.seq : Int) (o.hts.take 66) ((lastN ((Z0 ++ Y).map (·.2)) : Nat) : Int) = c := ⟨_, rfl⟩
                have HRB : Hid (∀ W1 : World, Keeps PM' wx.drew W1 → Calls Try.prog 37 #[.pointer (some ⟨x, 0, none⟩), .slice la K lc, .int .u64 S, .slice ha' hn hc'] W1 (R10Post G' W1 x ((Z0 ++ Y).map (·.1)) ((Z0 ++ Y).map (·.2)) ls o.seq c)) := fun W1 hk => by
                  have h9 := r10batch_any G' W1 x ((Z0 ++ Y).map (·.1)) ((Z0 ++ Y).map (·.2)) (.slice la K lc) ls o.seq ha' hn hc' (o.hts.take 66) ((HIx.out.rf.below hdx).keeps hk (fun q hq hp => HIx.out.ap q hp hq))
                    (fun W' hk' => (HRC.out W' (((Below.keeps HB3.out _).trans ((Below.keeps hdx _).trans (hk.mono (fun i h9 => Or.inl h9)))).trans (hk'.mono (fun i h9 => Or.inr h9)))).2.2) (HRD.out W1 ((Below.keeps hdx _).trans (hk.mono (fun i h9 => Or.inl h9)))) hrn (by omega) HLL.out.2 (by rw [HK.out]; have := HBN.out; omega) (by rw [HK.out]; have := HBN.out; omega) HSS.out.2
                  rw [hc, HSS.out.1] at h9
                  exact h9
                rw [hc, HSS.out.1] at hba
                have HC : Hid (batC ls (o.seq : Int) (o.hts.take 66) ((lastN ((Z0 ++ Y).map (·.2)) : Nat) : Int) = c) := hc
                have HSB : Hid (∀ W, Keeps (fun q => PM' q ∨ G' q) wx W → W.cell? ⟨wr.heap.size, 2, none⟩ = some (.int .u64 S)) := fun W hk => hk.cell (p := ⟨wr.heap.size, 2, none⟩) (fun h9 => absurd (HPQ.out wr.heap.size h9) (Nat.lt_irrefl _)) b2
                have hb2d : wx.drew.cell? ⟨wr.heap.size, 2, none⟩ = some (.int .u64 S) := b2
                clear hc hra hrn
                go_wp2_with fail
                go_region_held3 (fun w' => w'.cell? ⟨wr.heap.size, 2, none⟩ = some (.int .u64 S))
                  (first | with_reducible exact HSB.out _ HK2.out | with_reducible exact HSB.out _ HK1.out | with_reducible exact hb2d | fail "keep")
                  (first
                    | (go_at_call 29
                       refine Calls.mono hba ?_
                       rintro e w5 hq
                       have HQ : Hid (BatQ PM' wx.drew m L (spnP (Z0 ++ Y)) ((lastN ((Z0 ++ Y).map (·.2)) : Nat) : Int) ls o.seq c e w5) := hq
                       have HK1 : Hid (Keeps (fun q => PM' q ∨ G' q) wx w5) := (Below.keeps hdx _).trans (hq.2.1.mono (fun i h9 => Or.inl h9))
                       have HKP : Hid (Keeps PM' wx.drew w5) := hq.2.1
                       obtain ⟨he5, _⟩ := hq
                       subst he5
                       clear hba)
                    | (go_at_call 37
                       refine Calls.mono (HRB.out _ HKP.out) ?_
                       rintro e w6 hr
                       have HR : Hid (R10Post G' w5 x ((Z0 ++ Y).map (·.1)) ((Z0 ++ Y).map (·.2)) ls o.seq c e w6) := hr
                       have HK2 : Hid (Keeps (fun q => PM' q ∨ G' q) wx w6) := HK1.out.trans (hr.2.1.mono (fun i h9 => Or.inr h9))
                       obtain ⟨he6, _⟩ := hr
                       subst he6
                       clear HRB)
                    | fail "arm")
                all_goals
                  go_wp2_with fail
                  go_meet
                  exact ⟨wx.drew, w5, ls, o.hts.take 66, c, _, _, hdx, HC.out, HQ.out, HR.out⟩
            case rest =>
              obtain ⟨wy, hwy⟩ : ∃ wy, wy = wc := ⟨_, rfl⟩
              subst hwy
              have HKY : Hid (Keeps (fun q => PM' q ∨ G' q) wx wy ∧ Below wx.heap.size wx wx) := by
                obtain ⟨W, W1, ps, hs, c, e1, e2, hbW, _, hq, hr⟩ := hcut.out
                exact ⟨((Below.keeps hbW _).trans (hq.2.1.mono (fun i h9 => Or.inl h9))).then (hr.2.1.mono (fun i h9 => Or.inr h9)) (fun i h9 => .inl h9), Below.refl _ _⟩
              have HYC : Hid _ := hcut
              have hry := HRC.out wy ((Below.keeps HB3.out _).trans HKY.out.1)
              have hsm := sameops_any wy (.slice ma K mc) (.slice la K lc) ls ls true hry.2.1 hry.2.2 (by simp)
              have HRY : Hid (RowC w1.heap.size wy (.slice ma K mc) K cs) := hry.1
              clear hry hcut
              go_wp2_with fail
              refine hsm.mono ?_
              rintro e wz ⟨rfl, nn, hwz⟩
              have HRZ : Hid (RowC w1.heap.size wz (.slice ma K mc) K cs ∧ Keeps (fun q => w1.heap.size ≤ q ∧ q < w2.heap.size) wy wz) := by
                rw [hwz]
                exact ⟨HRY.out, Below.keeps (below_drewN (Below.refl _ _) _) _⟩
              clear hsm hwz HRY
              obtain ⟨wo, hwo⟩ : ∃ wo, wo = wr := ⟨_, rfl⟩
              subst hwo
              go_wp2_with fail
              go_loopg [87] K (fun gk iv wr => ∃ j : Nat, gk + j = K ∧ iv = .int .i64 (j : Int) ∧ Hid (RowC w1.heap.size wr (.slice ma K mc) K cs ∧ Keeps (fun q => w1.heap.size ≤ q ∧ q < w2.heap.size) wy wr))
              case atStart => exact ⟨0, by omega, rfl, HRZ⟩
              case round =>
                obtain ⟨j, hj2, rfl, HR⟩ := hrel
                obtain ⟨GJ, hGJ⟩ : ∃ GJ, gk = GJ := ⟨_, rfl⟩
                rw [hGJ] at hj2
                by_cases hltj : j < K
                · obtain ⟨p1, p2⟩ := gk_nxt hj2 hltj
                  obtain ⟨g, k, hg⟩ : ∃ g k, Value.slice ma K mc = .slice (some ⟨g, 0, none⟩) K k := by
                    obtain ⟨g, k, e, _, _⟩ := HR.out.1.1.form (by omega)
                    exact ⟨g, k, e⟩
                  cases hg
                  obtain ⟨xv, yv, ex, ey, cx, cy, sx, sy⟩ := HR.out.1.cells j hltj
                  have HEY : Hid (cs[j * 3 + 2]? = some yv) := ey
                  obtain ⟨ya, yn, yc, hyy⟩ : ∃ ya yn yc, yv = .slice ya yn yc := by
                    rcases sy with h9 | ⟨g', n, c', e, _⟩
                    · exact ⟨_, _, _, h9⟩
                    · exact ⟨_, _, _, e⟩
                  subst hyy
                  have hym : yn ≤ 9223372036854775807 := by
                    rcases sy with h9 | ⟨g', n, c', e, _, h1, h2, _⟩
                    · cases h9; omega
                    · cases e; unfold maxLen at h2; omega
                  clear sx sy ex ey cx
                  obtain ⟨wp, hwp⟩ : ∃ wp, wp = wr := ⟨_, rfl⟩
                  subst hwp
                  go_wp2_with fail
                  clear cy
                  go_loopg [96] yn (fun gk iv wr => ∃ i : Nat, gk + i = yn ∧ iv = .int .i64 (i : Int) ∧ Hid (RowC w1.heap.size wr (.slice (some ⟨g, 0, none⟩) K mc) K cs ∧ Keeps (fun q => w1.heap.size ≤ q ∧ q < w2.heap.size) wy wr))
                  case atStart => exact ⟨0, by omega, rfl, HR⟩
                  case round =>
                    clear HR
                    obtain ⟨ii, hi2, rfl, HR⟩ := hrel
                    obtain ⟨xv, yv, ex, ey, cx, cy, sx, sy⟩ := HR.out.1.cells j hltj
                    obtain rfl : yv = .slice ya yn yc := by
                      have e2 := HEY.out.symm.trans ey
                      simp at e2
                      exact e2.symm
                    clear ex
                    by_cases hlt3 : ii < yn
                    · obtain ⟨p3, p4⟩ := gk_nxt hi2 hlt3
                      rcases sy with h9 | ⟨gy, n, c', e, hu, h1, h2, h3⟩
                      · cases h9; omega
                      · cases e
                        unfold maxLen at h2
                        have hblk := HCB.out _ (List.mem_of_getElem? ey) gy rfl
                        obtain ⟨bb, hcy, hfy⟩ := u8_cell hu ii hlt3
                        have hxb := bb.toNat_lt
                        have r1 := HR.out.1.set hu ii (bb ^^^ 1)
                        have r2 := HR.out.2.setCell (p := ⟨gy, ii, none⟩) hblk (.int .u8 ((bb ^^^ 1).toNat : Int))
                        have hx1 := xor_one bb
                        have HQ1 : Hid (RowC w1.heap.size (wr.setCell ⟨gy, ii, none⟩ (.int .u8 ((bb ^^^ 1).toNat : Int))) (.slice (some ⟨g, 0, none⟩) K mc) K cs ∧ Keeps (fun q => w1.heap.size ≤ q ∧ q < w2.heap.size) wy (wr.setCell ⟨gy, ii, none⟩ (.int .u8 ((bb ^^^ 1).toNat : Int)))) := ⟨r1, r2⟩
                        clear HR hu r1 r2 ey sx cx hblk
                        go_wp2
                        go_roundg (gk - 1)
                        case measure => exact p3
                        case rel => exact ⟨ii + 1, p4, by go_num, HQ1⟩
                    · obtain rfl : ii = yn := by omega
                      clear sx sy cx cy ey
                      go_wp2_with fail
                      go_roundg (GJ - 1)
                      case measure => rw [hGJ]; exact p1
                      case rel => exact ⟨j + 1, p2, by go_num, HR⟩
                · obtain rfl : j = K := by omega
                  have HNX : Hid (RunL PM G W0 wr m x Z0 (i + 1)) := by
                    obtain ⟨W, W1, ps, hs, c, e1, e2, hbW, hc9, hq, hr⟩ := HYC.out
                    refine RunL.next (HIx.out.below hbW) HYY.out.1 HYY.out.2.1 HYY.out.2.2 hc9 hq hr HR.out.2 (fun q hq9 => ?_)
                    have a1 := HSA.out
                    have a2 := HB3.out.size
                    have a3 := hbW.size
                    have a4 := HIW.out.kp.size
                    refine ⟨⟨fun h9 => ?_, fun h9 => ?_⟩, by omega, by omega⟩
                    · have := HPQ.out q (.inl h9); omega
                    · have := HPQ.out q (.inr h9); omega
                  go_wp2_with fail
                  go_roundg (GK - 1)
                  case measure => rw [hGK]; exact q1
                  case rel => exact ⟨i + 1, q2, by go_num, hi29, HNX⟩
    · have hjN : i = NS := by omega
      subst hjN
      go_wp2
      go_ret
      exact ⟨rfl, i, hi30, HI.out⟩

end Go.Proofs.Ytdlefbbpgbjibaa

/- MemoOlder: what isn't newer is refused. -/
namespace Go.Proofs.Ytdlefbbpgbjibaa
set_option maxRecDepth 100000
open Go.RowKit
set_option linter.unusedVariables false
set_option linter.unusedSimpArgs false

theorem batC_old {p : OpB} {s last : Int} {hs : List Int} (hc : chkOp (p.1.toNat : Int) p.2.1 p.2.2 = 0) (h1 : 1 ≤ s) (h2 : s ≤ last) (h3 : last ≤ 72057594037927935) (hh : hs = [1] ∨ hs = []) : batC [p] s hs last = 10 := by
  unfold batC
  rw [chkL_one, if_pos hc, if_pos, if_neg, if_pos h2]
  · rcases hh with rfl | rfl <;> simp [noHt]
  · unfold hasN
    refine decide_eq_true ⟨h1, by omega, ?_⟩
    simp
    omega

theorem argo_in10 (w : World) (x y : Value) (l m : List UInt8) (k : UInt8) (hx : Arg w x l) (hy : Arg w y m) :
    ArgO (w.alloc (.cells #[.int .u8 (k.toNat : Int), x, y] 63)) (.slice (some ⟨w.heap.size, 0, none⟩) 1 1) [(k, l, m)] := by
  have hb := below_box w #[.int .u8 (k.toNat : Int), x, y] 63
  have b := box_new w (.int .u8 (k.toNat : Int)) x y 63
  refine ⟨_, 1, rfl, by simp, by simp [maxLen], fun j h => ?_⟩
  have hj : j = 0 := by simp at h; omega
  subst hj
  exact ⟨w.heap.size, 0, rfl, x, y, b.c0, b.c1, b.c2, hx.below hb (Nat.le_refl _), hy.below hb (Nat.le_refl _)⟩

/-- a new memo and the document's -/
theorem runI_new {w1 w2 : World} {m : Nat} (hM : MmP (fun q => w1.heap.size ≤ q) w2 m [] [] 0) (hb : Below w1.heap.size w1 w2) :
    RunI (fun q => w1.heap.size ≤ q ∧ q < w2.heap.size) (fun q => q = w2.heap.size) (w2.alloc (.cells #[.slice none 0 0, .slice none 0 0] 31)) (w2.alloc (.cells #[.slice none 0 0, .slice none 0 0] 31)) m w2.heap.size [] (fun q => w1.heap.size ≤ q ∧ q < w2.heap.size) (fun q => q = w2.heap.size) [] := by
  refine ⟨(hM.mono (fun q h1 h2 => ⟨h2, h1⟩)).below (below_box4 w2 _), refM_new w2, fun q h1 h2 => by omega, fun q hq => .inl hq, fun q hq => .inl hq, fun q hq => ?_, Keeps.refl _ _, List.Perm.refl _, by simp, by simp, by simp [lastN], by simp, by simp⟩
  have : w2.heap.size < (w2.alloc (.cells #[.slice none 0 0, .slice none 0 0] 31)).heap.size := by simp
  omega

theorem runI_lens {PM G PM' G' : Nat → Prop} {W0 W : World} {m x : Nat} {Z : List (OpB × Nat)} {L : List EnB} (h : RunI PM G W0 W m x Z PM' G' L) : (∀ e ∈ L, e.1.length ≤ 1000 ∧ e.2.2.2.length ≤ 1000) ∧ (∀ e ∈ spnP Z, e.1.length ≤ 1000 ∧ e.2.1.length ≤ 1000) ∧ L.length + (spnP Z).length = Z.length ∧ (∀ e ∈ L, (e.2.1 : Int) ≤ ((lastN (Z.map (·.2)) : Nat) : Int)) := by
  refine ⟨fun e he => ?_, fun e he => ?_, ?_, fun e he => ?_⟩
  · obtain ⟨z, hz, e1, _, e2⟩ := verP_mem (h.pr.mem_iff.1 he)
    obtain ⟨_, h1, h2, h3, _⟩ := chkOp_len (h.ok z hz)
    rw [e1, e2]
    omega
  · obtain ⟨z, hz, e1, e2⟩ := spnP_mem he
    obtain ⟨_, h1, h2, h3, _⟩ := chkOp_len (h.ok z hz)
    rw [e1, e2]
    omega
  · have h1 := h.pr.length_eq
    have h2 := verP_len Z
    omega
  · obtain ⟨z, hz, _, h2, _⟩ := verP_mem (h.pr.mem_iff.1 he)
    have := h.up z hz
    omega

set_option maxHeartbeats 8000000 in
theorem molder (w : World) (v : Value) (sts : List MSt) (xo yo : Value) (o : OpB) (a : Int) (hv : ArgM w v sts) (hx : Arg w xo o.2.1) (hy : Arg w yo o.2.2) (ha0 : 0 ≤ a) :
    Calls Try.prog 8 #[v, .agg #[.int .u8 (o.1.toNat : Int), xo, yo], .int .u64 a] w fun e w' => e = .returned (.bool true) ∧ Below w.heap.size w w' := by
  have HV : Hid (ArgM w v sts) := hv
  obtain ⟨va, vc, rfl, _⟩ := hv
  obtain ⟨xa, nl, xc, rfl⟩ : ∃ a n c, xo = .slice a n c := by rcases hx with ⟨h, _⟩ | ⟨a, c, h, _⟩ <;> exact ⟨_, _, _, h⟩
  obtain ⟨ya, ml, yc, rfl⟩ : ∃ a n c, yo = .slice a n c := by rcases hy with ⟨h, _⟩ | ⟨a, c, h, _⟩ <;> exact ⟨_, _, _, h⟩
  obtain ⟨kk, hkk⟩ : ∃ kk : Int, (o.1.toNat : Int) = kk := ⟨_, rfl⟩
  obtain ⟨NS, hNS⟩ : ∃ NS, sts.length = NS := ⟨_, rfl⟩
  rw [hNS] at HV ⊢
  rw [hkk]
  have HKK : Hid ((o.1.toNat : Int) = kk) := hkk
  have hb0 := below_box4 w (.cells #[.int .u8 kk, .slice xa nl xc, .slice ya ml yc] 63)
  have BX := box_new w (.int .u8 kk) (.slice xa nl xc) (.slice ya ml yc) 63
  have HXY : Hid (Arg w (.slice xa nl xc) o.2.1 ∧ Arg w (.slice ya ml yc) o.2.2) := ⟨hx, hy⟩
  have hA := mawake_any (w.alloc (.cells #[.int .u8 kk, .slice xa nl xc, .slice ya ml yc] 63))
  have HB0 : Hid (Below w.heap.size w (w.alloc (.cells #[.int .u8 kk, .slice xa nl xc, .slice ya ml yc] 63))) := hb0
  clear hx hy hkk hNS hb0
  go_enter Try.func8, Try.ntmps8
  go_wp2_with fail
  refine hA.mono ?_
  rintro e w1 ⟨rfl, hb1⟩
  have HB1 : Hid (Below w.heap.size w w1) := bsplit HB0.out hb1
  have BX1 := BX.below hb1 (Nat.le_refl _)
  have hsz1 : w.heap.size < w1.heap.size := BX1.lt
  have hn := mmP_new w1
  clear hA hb1 BX
  go_wp2_with fail
  refine hn.mono ?_
  rintro e w2 ⟨m, rfl, hM, hb2⟩
  have HI0 : Hid (RunI (fun q => w1.heap.size ≤ q ∧ q < w2.heap.size) (fun q => q = w2.heap.size) (w2.alloc (.cells #[.slice none 0 0, .slice none 0 0] 31)) (w2.alloc (.cells #[.slice none 0 0, .slice none 0 0] 31)) m w2.heap.size [] (fun q => w1.heap.size ≤ q ∧ q < w2.heap.size) (fun q => q = w2.heap.size) []) := runI_new hM hb2
  have HB2 : Hid (Below w.heap.size w w2) := bsplit HB1.out hb2
  have hb3 := below_box4 w2 (.cells #[.slice none 0 0, .slice none 0 0] 31)
  have HB3 : Hid (Below w.heap.size w (w2.alloc (.cells #[.slice none 0 0, .slice none 0 0] 31))) := bsplit HB2.out hb3
  have BX3 : Hid (Box (w2.alloc (.cells #[.slice none 0 0, .slice none 0 0] 31)) w.heap.size (.int .u8 kk) (.slice xa nl xc) (.slice ya ml yc)) := (BX1.below hb2 (Nat.le_refl _)).below hb3 (Nat.le_refl _)
  have HSZ : Hid (w.heap.size < w1.heap.size ∧ w1.heap.size ≤ w2.heap.size ∧ w2.heap.size < (w2.alloc (.cells #[.slice none 0 0, .slice none 0 0] 31)).heap.size) := ⟨hsz1, hb2.size, by simp⟩
  have hrun := mrun_any (fun q => w1.heap.size ≤ q ∧ q < w2.heap.size) (fun q => q = w2.heap.size) (w2.alloc (.cells #[.slice none 0 0, .slice none 0 0] 31)) m w2.heap.size [] [] (.slice va NS vc) sts HI0.out
    (fun W hk => HV.out.below (HB3.out.trans (hk.below (fun i hi => by have := HSZ.out; rcases hi with h9 | h9 <;> omega) HB3.out.size)) (Nat.le_refl _)) (by simp)
  clear hn hM hb2 hb3 BX1 hsz1 HI0
  go_wp2_with fail
  refine hrun.mono ?_
  rintro e w4 ⟨rfl, i, hi30, Y, PM', G', L, hI, hY, _, _⟩
  rw [List.nil_append] at hI
  have HB4 : Hid (Below w.heap.size w w4) := HB3.out.trans (hI.kp.below (fun i hi => by have := HSZ.out; rcases hi with h9 | h9 <;> omega) HB3.out.size)
  have BX4 : Box w4 w.heap.size (.int .u8 kk) (.slice xa nl xc) (.slice ya ml yc) := BX3.out.same9 (hI.kp.block w.heap.size BX3.out.lt (fun hi => by have := HSZ.out; rcases hi with h9 | h9 <;> omega))
  have HI : Hid (RunI (fun q => w1.heap.size ≤ q ∧ q < w2.heap.size) (fun q => q = w2.heap.size) (w2.alloc (.cells #[.slice none 0 0, .slice none 0 0] 31)) w4 m w2.heap.size Y PM' G' L) := hI
  have HYL : Hid (Y.length ≤ 1920) := by show _ ≤ _; omega
  have hfw := fewop_any (w4.alloc (.cells #[.int .u8 kk, .slice xa nl xc, .slice ya ml yc] 63)) (.slice (some ⟨w4.heap.size, 0, none⟩) 1 1) [o] 1 (by
    have h9 := argo_in10 w4 (.slice xa nl xc) (.slice ya ml yc) o.2.1 o.2.2 o.1 (HXY.out.1.below HB4.out (Nat.le_refl _)) (HXY.out.2.below HB4.out (Nat.le_refl _))
    rw [HKK.out] at h9
    exact h9) (by omega)
  have hfe : fewO 1 [o] = [cutOp o] := rfl
  rw [hfe] at hfw
  obtain ⟨p, hp⟩ : ∃ p, cutOp o = p := ⟨_, rfl⟩
  rw [hp] at hfw
  obtain ⟨k, kl, vl⟩ := p
  have hlp := below_box4 w4 (.cells #[.int .u8 kk, .slice xa nl xc, .slice ya ml yc] 63)
  have HBL : Hid (Below w.heap.size w (w4.alloc (.cells #[.int .u8 kk, .slice xa nl xc, .slice ya ml yc] 63))) := bsplit HB4.out hlp
  have HS4 : Hid (w4.heap.size < (w4.alloc (.cells #[.int .u8 kk, .slice xa nl xc, .slice ya ml yc] 63)).heap.size) := by show _ < _; simp
  have HIL : Hid (RunI (fun q => w1.heap.size ≤ q ∧ q < w2.heap.size) (fun q => q = w2.heap.size) (w2.alloc (.cells #[.slice none 0 0, .slice none 0 0] 31)) (w4.alloc (.cells #[.int .u8 kk, .slice xa nl xc, .slice ya ml yc] 63)) m w2.heap.size Y PM' G' L) := hI.below hlp
  obtain ⟨z0, z1, z2, _, _, _⟩ := BX4
  clear hrun hI hY hfe hp hlp
  go_wp2_with fail
  refine hfw.mono ?_
  rintro e w5 ⟨lv, rfl, ol, hb5⟩
  have HI5 : Hid (RunI (fun q => w1.heap.size ≤ q ∧ q < w2.heap.size) (fun q => q = w2.heap.size) (w2.alloc (.cells #[.slice none 0 0, .slice none 0 0] 31)) w5 m w2.heap.size Y PM' G' L) := HIL.out.below hb5
  have HB5 : Hid (Below w.heap.size w w5) := bsplit HBL.out hb5
  have HPL : Hid (∀ q, PM' q → q < w4.heap.size) := HI.out.lt
  have HOL : Hid (OwnO (w4.alloc (.cells #[.int .u8 kk, .slice xa nl xc, .slice ya ml yc] 63)).heap.size w5 lv [(k, kl, vl)]) := ol
  obtain ⟨gl, cl, a1, a2, b1, b2, rfl, ry, ra, rb, hcl⟩ := own_one10 ol
  obtain ⟨kz, hkz⟩ : ∃ kz : Int, (k.toNat : Int) = kz := ⟨_, rfl⟩
  obtain ⟨n1, hn1⟩ : ∃ n1, kl.length = n1 := ⟨_, rfl⟩
  obtain ⟨n2, hn2⟩ : ∃ n2, vl.length = n2 := ⟨_, rfl⟩
  rw [hkz, hn1, hn2] at ry
  rw [hn1] at ra
  rw [hn2] at rb
  have HKZ : Hid ((k.toNat : Int) = kz) := hkz
  have HCE : Hid (∀ W, Below w5.heap.size w5 W → W.cell? ⟨gl, 0, none⟩ = some (.int .u8 kz) ∧ W.cell? ⟨gl, 1, none⟩ = some (.slice a1 n1 a2) ∧ W.cell? ⟨gl, 2, none⟩ = some (.slice b1 n2 b2)) := fun W hW => by
    have hlt := (ry.lt gl rfl).2
    exact ⟨(hW.cell (p := ⟨gl, 0, none⟩) hlt).trans (by rw [World.ownsRow.cellAt ry 0 (by omega)]; rfl), (hW.cell (p := ⟨gl, 1, none⟩) hlt).trans (by rw [World.ownsRow.cellAt ry 1 (by omega)]; rfl), (hW.cell (p := ⟨gl, 2, none⟩) hlt).trans (by rw [World.ownsRow.cellAt ry 2 (by omega)]; rfl)⟩
  have HRA : Hid (OwnN (w4.alloc (.cells #[.int .u8 kk, .slice xa nl xc, .slice ya ml yc] 63)).heap.size w5 (.slice a1 n1 a2) kl ∧ OwnN (w4.alloc (.cells #[.int .u8 kk, .slice xa nl xc, .slice ya ml yc] 63)).heap.size w5 (.slice b1 n2 b2) vl) := ⟨ra, rb⟩
  have hlens := runI_lens HI5.out
  have HLE : Hid ((∀ e ∈ L, e.1.length ≤ 1000 ∧ e.2.2.2.length ≤ 1000) ∧ (∀ e ∈ spnP Y, e.1.length ≤ 1000 ∧ e.2.1.length ≤ 1000) ∧ L.length + (spnP Y).length = Y.length ∧ (∀ e ∈ L, (e.2.1 : Int) ≤ ((lastN (Y.map (·.2)) : Nat) : Int))) := hlens
  obtain ⟨LA, hLA⟩ : ∃ LA : Int, ((lastN (Y.map (·.2)) : Nat) : Int) = LA := ⟨_, rfl⟩
  have HLA : Hid (((lastN (Y.map (·.2)) : Nat) : Int) = LA ∧ LA ≤ 72057594037927935 ∧ 0 ≤ LA) := ⟨hLA, by have := HI5.out.mx; omega, by omega⟩
  have hM5 := HI5.out.mm
  rw [hLA] at hM5
  have HM5 : Hid (MmP PM' w5 m L (spnP Y) LA) := hM5
  have hla := mmP_last PM' w5 m L (spnP Y) LA hM5
  have hss : (spnP Y).length ≤ 1920 := by have := HYL.out; have := hlens.2.2.1; omega
  have hsi := mmP_size PM' w5 m L (spnP Y) LA hM5 hlens.1 (by omega) hlens.2.1
  obtain ⟨Z, hZ⟩ : ∃ Z, sizL L + spSz (spnP Y) = Z := ⟨_, rfl⟩
  rw [hZ] at hsi
  have HZ : Hid (sizL L + spSz (spnP Y) = Z) := hZ
  have HSS : Hid ((spnP Y).length ≤ 1920) := hss
  clear hfw hb5 ol ry ra rb hkz hn1 hn2 hlens hLA hM5 hZ hss HIL z0 z1 z2 hcl
  go_wp2_with fail
  refine hla.mono ?_
  rintro e w6 ⟨rfl, rfl⟩
  clear hla
  go_wp2_with fail
  refine hsi.mono ?_
  rintro e w7 ⟨rfl, hb7⟩
  have HB67 : Hid (Below w6.heap.size w6 w7) := hb7
  have HB7 : Hid (Below w.heap.size w w7) := bsplit HB5.out hb7
  have HM7 : Hid (MmP PM' w7 m L (spnP Y) LA) := HM5.out.below hb7
  clear hsi hb7
  by_cases h0 : LA = 0
  · subst h0
    go_wp2
    go_ret
    exact ⟨rfl, HB7.out⟩
  · obtain ⟨d, hd⟩ : ∃ d, chkOp (k.toNat : Int) kl vl = d := ⟨_, rfl⟩
    have hck := refcheckop_any w7 (.slice a1 n1 a2) (.slice b1 n2 b2) kl vl kz d (by rw [← HKZ.out]; omega) (HRA.out.1.rd.below HB67.out (Nat.le_refl _)) (HRA.out.2.rd.below HB67.out (Nat.le_refl _)) (by rw [← HKZ.out]; exact hd)
    have HD : Hid (chkOp (k.toNat : Int) kl vl = d) := hd
    obtain ⟨c0, c1, c2⟩ := HCE.out w7 HB67.out
    have h0b : (LA == 0) = false := by simp [h0]
    clear hd
    go_wp2_with fail
    refine hck.mono ?_
    rintro e w8 ⟨rfl, hb8⟩
    have HB68 : Hid (Below w6.heap.size w6 w8) := bsplit HB67.out hb8
    have HB8 : Hid (Below w.heap.size w w8) := bsplit HB7.out hb8
    have HM8 : Hid (MmP PM' w8 m L (spnP Y) LA) := HM7.out.below hb8
    clear hck hb8 c0 c1 c2
    by_cases hd0 : d = 0
    · subst hd0
      obtain ⟨r, hr⟩ : ∃ r : Int, a.tmod LA = r := ⟨_, rfl⟩
      have hrb : 0 ≤ r ∧ r < LA := by
        rw [← hr]
        have hp : 0 < LA := by have := HLA.out.2.2; omega
        exact ⟨Int.tmod_nonneg _ ha0, Int.tmod_lt_of_pos _ hp⟩
      obtain ⟨s, hs⟩ : ∃ s : Nat, (s : Int) = LA - r := ⟨(LA - r).toNat, by omega⟩
      obtain ⟨SQ, hSQ⟩ : ∃ SQ : Int, LA - r = SQ := ⟨_, rfl⟩
      have hwr : IntKind.u64.wrap (LA - r) = SQ := by rw [← hSQ, IntKind.wrap_u64]; have := HLA.out; omega
      have HSQ : Hid ((s : Int) = SQ ∧ 1 ≤ SQ ∧ SQ ≤ LA ∧ s < 18446744073709551616) := ⟨by omega, by omega, by omega, by have := HLA.out; omega⟩
      have hdo := mmP_do PM' w8 m L (spnP Y) LA k (.slice a1 n1 a2) (.slice b1 n2 b2) kl vl s 1 HM8.out
        (fun W' hk => by
          have h1 := HRA.out.1.below HB68.out (Nat.le_refl _)
          have h2 := HRA.out.2.below HB68.out (Nat.le_refl _)
          exact ⟨rd_keep h1.rd hk (fun q hq h9 => by have := (ownN_lt9 h1 q hq).1; have := HPL.out q h9; have := HS4.out; omega), rd_keep h2.rd hk (fun q hq h9 => by have := (ownN_lt9 h2 q hq).1; have := HPL.out q h9; have := HS4.out; omega)⟩)
        (by have := HLE.out.2.2.1; have := HYL.out; omega) (by have := HSS.out; omega) (by rw [← HLA.out.1]; exact HLE.out.2.2.2) HSQ.out.2.2.2
      rw [batC_old HD.out (by rw [HSQ.out.1]; exact HSQ.out.2.1) (by rw [HSQ.out.1]; exact HSQ.out.2.2.1) HLA.out.2.1 (.inl rfl), HSQ.out.1, HKZ.out] at hdo
      obtain ⟨c0, c1, c2⟩ := HCE.out w8 HB68.out
      clear hs hSQ hrb
      go_wp2_with fail
      refine hdo.mono ?_
      rintro e w9 ⟨rfl, _, hq9, _⟩
      obtain ⟨hM9, hb9⟩ := hq9 (by omega)
      have HB69 : Hid (Below w6.heap.size w6 w9) := bsplit HB68.out hb9
      have HB9 : Hid (Below w.heap.size w w9) := bsplit HB8.out hb9
      have HM9 : Hid (MmP PM' w9 m L (spnP Y) LA) := hM9
      have hba := mmP_batch PM' w9 m L (spnP Y) LA (.slice (some ⟨gl, 0, none⟩) 1 cl) [(k, kl, vl)] s none 0 0 [] hM9
        (fun W' hk => ((HOL.out.below HB69.out (Nat.le_refl _)).keeps hk (fun q h1 h2 h3 => by have := HPL.out q h3; have := HS4.out; omega)).rd)
        (fun W' hk => ⟨rfl, fun j hj => absurd hj (Nat.not_lt_zero _)⟩) (.inl ⟨rfl, rfl⟩) (Nat.le_refl _) (by omega) (fun _ => by have := HLE.out.2.2.1; have := HYL.out; simp; omega) (by have := HSS.out; omega) (by rw [← HLA.out.1]; exact HLE.out.2.2.2) HSQ.out.2.2.2
      rw [batC_old HD.out (by rw [HSQ.out.1]; exact HSQ.out.2.1) (by rw [HSQ.out.1]; exact HSQ.out.2.2.1) HLA.out.2.1 (.inr rfl), HSQ.out.1] at hba
      clear hdo hM9 hb9 c0 c1 c2
      go_wp2_with fail
      refine hba.mono ?_
      rintro e w10 ⟨rfl, _, hq10, _⟩
      obtain ⟨hM10, hb10⟩ := hq10 (by omega)
      have HB10 : Hid (Below w.heap.size w w10) := bsplit HB9.out hb10
      have HM10 : Hid (MmP PM' w10 m L (spnP Y) LA) := hM10
      have hl2 := mmP_last PM' w10 m L (spnP Y) LA hM10
      have hs2 := mmP_size PM' w10 m L (spnP Y) LA hM10 HLE.out.1 (by have := HSS.out; omega) HLE.out.2.1
      rw [HZ.out] at hs2
      clear hba hM10 hb10
      go_wp2_with fail
      refine hl2.mono ?_
      rintro e w11 ⟨rfl, rfl⟩
      clear hl2
      go_wp2_with fail
      refine hs2.mono ?_
      rintro e w12 ⟨rfl, hb12⟩
      have HB12 : Hid (Below w.heap.size w w12) := bsplit HB10.out hb12
      clear hs2 hb12
      go_wp2
      go_ret
      exact ⟨rfl, HB12.out⟩
    · have hdb : (d != 0) = true := by simp [hd0]
      have hdb2 : (d == 0) = false := by simp [hd0]
      go_wp2
      go_ret
      exact ⟨rfl, HB8.out⟩

theorem memoOlder_walk (a0 : Option Addr) (len0 cap0 : Nat) (z0 : List MSt) (v1 : Value) (o1 : OpB) (a2 : Int) (w : World)
    (w0 : ArgM w (.slice a0 len0 cap0) z0) (w1 : ∃ x y, v1 = .agg #[.int .u8 (o1.1.toNat : Int), x, y] ∧ Arg w x o1.2.1 ∧ Arg w y o1.2.2) (w2 : (Lit.int .u64 a2).wf = true) :
    Calls Try.prog 8 #[.slice a0 len0 cap0, v1, .int .u64 a2] w fun e w' => e = .returned (.bool true) ∧ Below w.heap.size w w' := by
  obtain ⟨x, y, rfl, hx, hy⟩ := w1
  exact molder w _ z0 x y o1 a2 w0 hx hy (bounds_u64 w2).1

end Go.Proofs.Ytdlefbbpgbjibaa

/- MemoMap: as of its last number a memo has just the map that its ops make. -/
namespace Go.Proofs.Ytdlefbbpgbjibaa
set_option maxRecDepth 100000
open Go.RowKit
set_option linter.unusedVariables false
set_option linter.unusedSimpArgs false

theorem mmP_getL (P : Nat → Prop) (W : World) (m : Nat) (L : List EnB) (Y : List (OpB × Nat)) (last : Int) (kv : Value) (k fv : List UInt8) (st : Int) (h : MmP P W m L (spnP Y) last) (hk : Rd W kv k) (hkl : k.length ≤ 1000000) (hL : ∀ e ∈ L, e.1.length ≤ 1000 ∧ e.2.2.2.length ≤ 1000)
    (hs : stM (newE L k 72057594037927935) (covN (spnP Y) k ((72057594037927935 : Nat) : Int)) = st ∧ valM (newE L k 72057594037927935) (covN (spnP Y) k ((72057594037927935 : Nat) : Int)) = fv) :
    Calls Try.prog 22 #[.pointer (some ⟨m, 0, none⟩), kv, .int .u64 72057594037927935] W fun o w' => ∃ v, o = .returned (.tuple #[v, .int .i64 st]) ∧ OwnN W.heap.size w' v fv ∧ Below W.heap.size W w' := by
  have := mmP_get P W m L (spnP Y) last kv k 72057594037927935 h hk hkl hL
  rw [hs.1, hs.2] at this
  exact this

theorem map_len {Z : List (OpB × Nat)} {p : PrB} (ok : ∀ z ∈ Z, chkOp (z.1.1.toNat : Int) z.1.2.1 z.1.2.2 = 0) (hp : p ∈ applyAllO [] (Z.map (·.1))) : p.1.length ≤ 64 ∧ p.2.length ≤ 512 := by
  obtain ⟨h1, h2⟩ := map_found hp
  cases hl : lastC Z p.1 with
  | none => rw [hl] at h1; cases h1
  | some z =>
    rw [hl] at h1 h2
    unfold lastC at hl
    have hz : z ∈ Z := List.mem_reverse.1 (List.mem_of_find?_eq_some hl)
    have hc : covO z.1 p.1 = true := by simpa using List.find?_some hl
    unfold stC at h1
    unfold valC at h2
    simp only at h1 h2
    by_cases h9 : z.1.1.toNat = 2
    · rw [if_pos h9] at h2
      rw [cov_put h9] at hc
      have hk : z.1.2.1 = p.1 := by simpa using hc
      have := chkOp_len (ok z hz)
      rw [← hk, ← h2]
      exact ⟨this.2.1, this.2.2.2.1⟩
    · rw [if_neg h9] at h1
      cases h1

theorem stC_vals (q : Option (OpB × Nat)) : stC q = 0 ∨ stC q = 1 ∨ stC q = 2 := by
  cases q with
  | none => exact .inl rfl
  | some z =>
    unfold stC
    simp only
    split
    · exact .inr (.inl rfl)
    · exact .inr (.inr rfl)

theorem Bx2.below2 {w w' : World} {x : Nat} {v u : Value} (h : Bx2 w x v u) (hb : Below w.heap.size w w') : Bx2 w' x v u := (hb.block x h.lt).trans h

set_option maxHeartbeats 8000000 in
theorem mmap (w : World) (v : Value) (sts : List MSt) (hv : ArgM w v sts) :
    Calls Try.prog 4 #[v] w fun e w' => e = .returned (.bool true) ∧ Below w.heap.size w w' := by
  have HV : Hid (ArgM w v sts) := hv
  obtain ⟨va, vc, rfl, _⟩ := hv
  obtain ⟨NS, hNS⟩ : ∃ NS, sts.length = NS := ⟨_, rfl⟩
  rw [hNS] at HV ⊢
  have hA := mawake_any w
  clear hNS
  go_enter Try.func4, Try.ntmps4
  go_wp2_with fail
  refine hA.mono ?_
  rintro e w1 ⟨rfl, hb1⟩
  have HB1 : Hid (Below w.heap.size w w1) := hb1
  have hn := mmP_new w1
  clear hA hb1
  go_wp2_with fail
  refine hn.mono ?_
  rintro e w2 ⟨m, rfl, hM, hb2⟩
  have HI0 : Hid (RunI (fun q => w1.heap.size ≤ q ∧ q < w2.heap.size) (fun q => q = w2.heap.size) (w2.alloc (.cells #[.slice none 0 0, .slice none 0 0] 31)) (w2.alloc (.cells #[.slice none 0 0, .slice none 0 0] 31)) m w2.heap.size [] (fun q => w1.heap.size ≤ q ∧ q < w2.heap.size) (fun q => q = w2.heap.size) []) := runI_new hM hb2
  have HB2 : Hid (Below w.heap.size w w2) := bsplit HB1.out hb2
  have hb3 := below_box4 w2 (.cells #[.slice none 0 0, .slice none 0 0] 31)
  have HB3 : Hid (Below w.heap.size w (w2.alloc (.cells #[.slice none 0 0, .slice none 0 0] 31))) := bsplit HB2.out hb3
  have HSZ : Hid (w.heap.size ≤ w1.heap.size ∧ w1.heap.size ≤ w2.heap.size ∧ w2.heap.size < (w2.alloc (.cells #[.slice none 0 0, .slice none 0 0] 31)).heap.size) := ⟨HB1.out.size, hb2.size, by simp⟩
  have hrun := mrun_any (fun q => w1.heap.size ≤ q ∧ q < w2.heap.size) (fun q => q = w2.heap.size) (w2.alloc (.cells #[.slice none 0 0, .slice none 0 0] 31)) m w2.heap.size [] [] (.slice va NS vc) sts HI0.out
    (fun W hk => HV.out.below (HB3.out.trans (hk.below (fun i hi => by have := HSZ.out; rcases hi with h9 | h9 <;> omega) HB3.out.size)) (Nat.le_refl _)) (by simp)
  clear hn hM hb2 hb3 HI0
  go_wp2_with fail
  refine hrun.mono ?_
  rintro e w4 ⟨rfl, i, hi30, Y, PM', G', L, hI, hY, _, _⟩
  rw [List.nil_append] at hI
  have HB4 : Hid (Below w.heap.size w w4) := HB3.out.trans (hI.kp.below (fun i hi => by have := HSZ.out; rcases hi with h9 | h9 <;> omega) HB3.out.size)
  have HYL : Hid (Y.length ≤ 1920) := by show _ ≤ _; omega
  have HLE : Hid _ := runI_lens hI
  have HOK : Hid (∀ z ∈ Y, chkOp (z.1.1.toNat : Int) z.1.2.1 z.1.2.2 = 0) := hI.ok
  have HF : Hid (∀ k, stM (newE L k 72057594037927935) (covN (spnP Y) k ((72057594037927935 : Nat) : Int)) = stC (lastC Y k) ∧ valM (newE L k 72057594037927935) (covN (spnP Y) k ((72057594037927935 : Nat) : Int)) = valC (lastC Y k)) := fun k =>
    find_last hI.mm.rise (runI_bounds hI) hI.pr hI.rs hI.lo (fun z hz => Nat.le_trans (hI.up z hz) hI.mx) (fun z hz => by have := (chkOp_len (hI.ok z hz)).1; omega)
  obtain ⟨LA, hLA⟩ : ∃ LA : Int, ((lastN (Y.map (·.2)) : Nat) : Int) = LA := ⟨_, rfl⟩
  have hM4 := hI.mm
  rw [hLA] at hM4
  have HM4 : Hid (MmP PM' w4 m L (spnP Y) LA) := hM4
  obtain ⟨vo, vu, hbx, hro, _⟩ := hI.rf.rd
  have HBX : Hid (Bx2 w4 w2.heap.size vo vu) := hbx
  obtain ⟨os, hos⟩ : ∃ os, Y.map (·.1) = os := ⟨_, rfl⟩
  rw [hos] at hro
  have HOS : Hid (Y.map (·.1) = os) := hos
  have HOL : Hid (os.length = Y.length) := by show _ = _; rw [← hos, List.length_map]
  have HOB : Hid (∀ o ∈ os, o.2.1.length ≤ 1000000 ∧ o.2.2.length ≤ 1000000) := fun o ho => by
    rw [← hos] at ho
    obtain ⟨z, hz, rfl⟩ := List.mem_map.1 ho
    have := chkOp_len (HOK.out z hz)
    omega
  obtain ⟨res, hres⟩ : ∃ res, applyAllO [] os = res := ⟨_, rfl⟩
  have HRES : Hid (∀ p ∈ res, p.1.length ≤ 64 ∧ p.2.length ≤ 512 ∧ stC (lastC Y p.1) = 1 ∧ valC (lastC Y p.1) = p.2) := fun p hp => by
    rw [← hres, ← hos] at hp
    have h1 := map_len HOK.out hp
    have h2 := map_found hp
    exact ⟨h1.1, h1.2, h2.1, h2.2⟩
  have HHAS : Hid (∀ k, (getV (getP res k)).2 = decide (stC (lastC Y k) = 1)) := fun k => by rw [← hres, ← hos]; exact map_has
  have hro2 := hro
  obtain ⟨oa, oc, eo, _, _, _⟩ := hro2
  subst eo
  have HRO : Hid (RdO w4 (.slice oa os.length oc) os) := hro
  have hc0 := hbx.c0
  have hap := applyall_any w4 (.slice none 0 0) (.slice oa os.length oc) [] res os (RdP.nil w4) HRO.out (by have := HOL.out; have := HYL.out; omega) (by simp) HOB.out hres
  clear hrun hI hY hM4 hLA hbx hro hos hres
  go_wp2_with fail
  refine hap.mono ?_
  rintro e w5 ⟨z, rfl, hz, hb5⟩
  have HB45 : Hid (Below w4.heap.size w4 w5) := hb5
  have HZ : Hid (RdP w5 z res) := hz
  obtain ⟨ma, mc, rfl, h1, h2, _⟩ := hz
  unfold maxLen at h2
  clear hap hb5 hc0
  go_wp2_with fail
  go_loopg [33] res.length (fun gk iv wr => ∃ j : Nat, gk + j = res.length ∧ iv = .int .i64 (j : Int) ∧ Hid (Below w5.heap.size w5 wr))
  case atStart => exact ⟨0, by omega, rfl, Below.refl _ _⟩
  case round =>
    obtain ⟨j, hj, rfl, HB⟩ := hrel
    by_cases hlt : j < res.length
    · obtain ⟨_, _, e9, _, _, h3⟩ := HZ.out.below HB.out (Nat.le_refl _)
      cases e9
      obtain ⟨b, off, rfl, xv, yv, c0, c1, rx, ry⟩ := h3 j hlt
      obtain ⟨x1, x2, ex⟩ := rx.len
      obtain ⟨y1, y2, ey⟩ := ry.len
      subst ex ey
      have hpj := HRES.out _ (List.getElem_mem hlt)
      obtain ⟨⟨pk, pv⟩, hp⟩ : ∃ p, res[j] = p := ⟨_, rfl⟩
      rw [hp] at c0 c1 rx ry hpj
      obtain ⟨n1, hn1⟩ : ∃ n1, pk.length = n1 := ⟨_, rfl⟩
      obtain ⟨n2, hn2⟩ : ∃ n2, pv.length = n2 := ⟨_, rfl⟩
      simp only at c0 c1 rx ry hpj
      rw [hn1] at c0 rx hpj
      rw [hn2] at c1 ry hpj
      have hba := below_box wr #[.slice x1 n1 x2, .slice y1 n2 y2] 61
      have hbx := bsplit HB.out hba
      have hge := mmP_getL PM' (wr.alloc (.cells #[.slice x1 n1 x2, .slice y1 n2 y2] 61)) m L Y LA (.slice x1 n1 x2) pk pv 1 ((HM4.out.below HB45.out).below hbx) (rx.below hba (Nat.le_refl _)) (by omega) HLE.out.1 (by have := HF.out pk; rw [hpj.2.2.1, hpj.2.2.2] at this; exact this)
      have HRY : Hid (Rd (wr.alloc (.cells #[.slice x1 n1 x2, .slice y1 n2 y2] 61)) (.slice y1 n2 y2) pv) := ry.below hba (Nat.le_refl _)
      have HBX5 : Hid (Below w5.heap.size w5 (wr.alloc (.cells #[.slice x1 n1 x2, .slice y1 n2 y2] 61))) := hbx
      have HC1 : Hid (∀ W, Below (wr.alloc (.cells #[.slice x1 n1 x2, .slice y1 n2 y2] 61)).heap.size (wr.alloc (.cells #[.slice x1 n1 x2, .slice y1 n2 y2] 61)) W → W.cell? ⟨wr.heap.size, 1, none⟩ = some (.slice y1 n2 y2)) := fun W hW => by
        rw [hW.cell (p := ⟨wr.heap.size, 1, none⟩) (by simp)]
        simp
      clear h3 rx ry hp hba hbx hpj hn1
      go_wp2_with fail
      refine hge.mono ?_
      rintro e w7 ⟨v7, rfl, o7, hb7⟩
      obtain ⟨v1, v2, ev⟩ := o7.rd.len
      subst ev
      have hc1 := HC1.out w7 hb7
      have HB7 : Hid (Below w5.heap.size w5 w7) := bsplit HBX5.out hb7
      have hsm := same_any w7 (.slice v1 pv.length v2) (.slice y1 n2 y2) pv pv o7.rd (HRY.out.below hb7 (Nat.le_refl _))
      rw [beq_self_eq_true] at hsm
      rw [hn2] at hsm ⊢
      clear hge o7 hb7 hn2 HC1
      go_wp2_with fail
      refine hsm.mono ?_
      rintro e w8 ⟨rfl, rfl⟩
      clear hsm
      go_wp2
      go_roundg (gk - 1)
      case measure => omega
      case rel => exact ⟨j + 1, by omega, by go_num, HB7.out⟩
    · obtain rfl : j = res.length := by omega
      have hc0 := (HBX.out.below2 (bsplit HB45.out HB.out)).c0
      have HB6 : Hid (Below w4.heap.size w4 wr) := bsplit HB45.out HB.out
      obtain ⟨NO, hNO⟩ : ∃ NO, os.length = NO := ⟨_, rfl⟩
      have HNO : Hid (os.length = NO) := hNO
      have hNOb : NO ≤ 1920 := by rw [← hNO, HOL.out]; exact HYL.out
      rw [hNO] at hc0 HRO ⊢
      clear hNO
      obtain ⟨wo, hwo⟩ : ∃ wo, wo = wr := ⟨_, rfl⟩
      subst hwo
      go_wp2_with fail
      go_loopg [59] NO (fun gk iv wr => ∃ j : Nat, gk + j = NO ∧ iv = .int .i64 (j : Int) ∧ Hid (Below wo.heap.size wo wr))
      case atStart => exact ⟨0, by omega, rfl, Below.refl _ _⟩
      case round =>
        obtain ⟨j2, hj2, rfl, HBs⟩ := hrel
        by_cases hlt2 : j2 < NO
        · have hl9 : j2 < os.length := by rw [HNO.out]; exact hlt2
          have hj9 : j2 < Y.length := by rw [← HOL.out]; exact hl9
          obtain ⟨_, _, e9, _, _, h3⟩ := show RdO wr (.slice oa NO oc) os from LsO.below HRO.out (bsplit HB6.out HBs.out) (Nat.le_refl _)
          rw [HNO.out] at e9
          cases e9
          obtain ⟨b, off, rfl, xv, yv, c0, c1, c2, rx, ry⟩ := h3 j2 hl9
          obtain ⟨x1, x2, ex⟩ := rx.len
          obtain ⟨y1, y2, ey⟩ := ry.len
          subst ex ey
          have hob := HOB.out _ (List.getElem_mem hl9)
          obtain ⟨⟨ok, ol, om⟩, ho⟩ : ∃ o, os[j2] = o := ⟨_, rfl⟩
          have hkn : stC (lastC Y ol) ≠ 0 := by
            have hy : (Y[j2]).1 = (ok, ol, om) := by rw [← ho]; simp [← HOS.out]
            have := map_known (Z := Y) (List.getElem_mem hj9) (HOK.out _ (List.getElem_mem hj9))
            rw [hy] at this
            exact this
          rw [ho] at c0 c1 c2 rx ry hob
          simp only at c0 c1 c2 rx ry hob
          obtain ⟨n1, hn1⟩ : ∃ n1, ol.length = n1 := ⟨_, rfl⟩
          obtain ⟨n2, hn2⟩ : ∃ n2, om.length = n2 := ⟨_, rfl⟩
          obtain ⟨kk, hkk⟩ : ∃ kk : Int, (ok.toNat : Int) = kk := ⟨_, rfl⟩
          rw [hn1] at c1 rx hob
          rw [hn2] at c2 ry hob
          rw [hkk] at c0
          have hba := below_box wr #[.int .u8 kk, .slice x1 n1 x2, .slice y1 n2 y2] 63
          have HBX5 : Hid (Below wo.heap.size wo (wr.alloc (.cells #[.int .u8 kk, .slice x1 n1 x2, .slice y1 n2 y2] 63))) := bsplit HBs.out hba
          have HRX : Hid (Rd (wr.alloc (.cells #[.int .u8 kk, .slice x1 n1 x2, .slice y1 n2 y2] 63)) (.slice x1 n1 x2) ol) := rx.below hba (Nat.le_refl _)
          have HC1 : Hid (∀ W, Below (wr.alloc (.cells #[.int .u8 kk, .slice x1 n1 x2, .slice y1 n2 y2] 63)).heap.size (wr.alloc (.cells #[.int .u8 kk, .slice x1 n1 x2, .slice y1 n2 y2] 63)) W → W.cell? ⟨wr.heap.size, 1, none⟩ = some (.slice x1 n1 x2)) := fun W hW => by
            rw [hW.cell (p := ⟨wr.heap.size, 1, none⟩) (by simp)]
            simp
          have h12 : (stC (lastC Y ol) = 1 ∧ (getV (getP res ol)).2 = true) ∨ (stC (lastC Y ol) = 2 ∧ (getV (getP res ol)).2 = false) := by
            rw [HHAS.out]
            rcases stC_vals (lastC Y ol) with h9 | h9 | h9
            · exact absurd h9 hkn
            · exact .inl ⟨h9, by rw [h9]; rfl⟩
            · exact .inr ⟨h9, by rw [h9]; rfl⟩
          obtain ⟨rv, hrv⟩ : ∃ rv, getV (getP res ol) = rv := ⟨_, rfl⟩
          have hge := get_any (wr.alloc (.cells #[.int .u8 kk, .slice x1 n1 x2, .slice y1 n2 y2] 63)) (.slice ma res.length mc) (.slice x1 n1 x2) res ol rv ((HZ.out.below HB.out (Nat.le_refl _)).below HBX5.out (Nat.le_refl _)) HRX.out hrv (fun p hp => by have := (HRES.out p hp).2.1; omega)
          rw [hrv] at h12
          obtain ⟨rv1, rv2⟩ := rv
          simp only at hge h12
          have HOB9 : Hid (n1 ≤ 1000000) := hob.1
          have HN1 : Hid (ol.length = n1) := hn1
          clear h3 rx ry ho hba hob hn1 hn2 hkk hrv hkn hl9 hj9
          rcases h12 with ⟨e1, rfl⟩ | ⟨e1, rfl⟩
          all_goals
            have HE1 : Hid _ := e1
            clear e1
            go_wp2_with fail
            refine hge.mono ?_
            rintro e w8 ⟨z8, rfl, o8, hb8⟩
            obtain ⟨z1, z2, ez⟩ := o8.len
            subst ez
            obtain ⟨nz, hnz⟩ : ∃ nz, rv1.length = nz := ⟨_, rfl⟩
            rw [hnz]
            have hc1 := HC1.out w8 hb8
            have HB8 : Hid (Below wo.heap.size wo w8) := bsplit HBX5.out hb8
            have hgm := mmP_getL PM' w8 m L Y LA (.slice x1 n1 x2) ol _ _ (((HM4.out.below HB6.out)).below HB8.out) (HRX.out.below hb8 (Nat.le_refl _)) (by have := HOB9.out; have := HN1.out; omega) HLE.out.1 (HF.out ol)
            rw [HE1.out] at hgm
            clear hge o8 hb8 hnz HC1
            go_wp2_with fail
            refine hgm.mono ?_
            rintro e w9 ⟨v9, rfl, o9, hb9⟩
            have HB9 : Hid (Below wo.heap.size wo w9) := bsplit HB8.out hb9
            obtain ⟨z1, z2, ez⟩ := o9.rd.len
            subst ez
            obtain ⟨ny, hny⟩ : ∃ ny, (valC (lastC Y ol)).length = ny := ⟨_, rfl⟩
            rw [hny]
            clear hgm o9 hb9 hny
            go_wp2
            go_roundg (gk - 1)
            case measure => omega
            case rel => exact ⟨j2 + 1, by omega, by go_num, HB9.out⟩
        · go_wp2
          go_ret
          exact ⟨rfl, bsplit (bsplit HB4.out HB6.out) HBs.out⟩

theorem memoMap_walk (a0 : Option Addr) (len0 cap0 : Nat) (z0 : List MSt) (w : World) (w0 : ArgM w (.slice a0 len0 cap0) z0) :
    Calls Try.prog 4 #[.slice a0 len0 cap0] w fun e w' => e = .returned (.bool true) ∧ Below w.heap.size w w' := mmap w _ z0 w0

end Go.Proofs.Ytdlefbbpgbjibaa
