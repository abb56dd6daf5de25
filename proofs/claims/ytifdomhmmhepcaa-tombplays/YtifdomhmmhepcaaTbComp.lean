/- slices.CompactFunc of places. -/
import Derived.Test.YtifdomhmmhepcaaTbDd
import Derived.Test.YtifdomhmmhepcaaSame
import Derived.BigQuiet
namespace Go.Proofs.Ytifdomhmmhepcaa
set_option maxRecDepth 20000
open Go.RowKit
set_option linter.unusedVariables false
set_option linter.unusedSimpArgs false

theorem RowP.kept {w0 : World} {B : Nat} {w w' : World} {v : Value} {ps : List PlC} {row : Option Nat} (h : RowP w0 B w v ps) (hg : w.grownBy w' row) (hne : v.ownBlock = none ∨ v.ownBlock ≠ row) : RowP w0 B w' v ps := ⟨h.1.kept hg hne, h.2⟩
theorem RowP.below {w0 : World} {B : Nat} {w w' : World} {v : Value} {ps : List PlC} (h : RowP w0 B w v ps) (hb : Below w.heap.size w w') : RowP w0 B w' v ps := ⟨row_below h.1 hb, h.2⟩

theorem RowP.shape {w0 : World} {B : Nat} {w : World} {v : Value} {ts : List PlC} (h : RowP w0 B w v ts) : ∃ a c, v = .slice a ts.length c ∧ ts.length ≤ c ∧ c ≤ 9223372036854775807 := by
  rcases h.1.2 with ⟨e, hn⟩ | ⟨g, cap, cur, e, _, _, h1, h2, _⟩
  · exact ⟨none, 0, by rw [e, hn], by omega, by omega⟩
  · exact ⟨_, cap, e, h1, h2⟩

theorem RowP.form {w0 : World} {B : Nat} {w : World} {v : Value} {ts : List PlC} (h : RowP w0 B w v ts) (hn : 0 < ts.length) : ∃ g c, v = .slice (some ⟨g, 0, none⟩) ts.length c ∧ ts.length ≤ c ∧ c ≤ 9223372036854775807 := by
  rcases h.1.2 with ⟨e, hn⟩ | ⟨g, cap, cur, e, _, _, h1, h2, _⟩
  · omega
  · exact ⟨_, cap, e, h1, h2⟩

theorem RowP.at {w0 : World} {B g n c : Nat} {w : World} {ts : List PlC} (h : RowP w0 B w (.slice (some ⟨g, 0, none⟩) n c) ts) (hn : ts.length = n) (j : Nat) (hj : j < ts.length) :
    w.cell? ⟨g, j, none⟩ = some ts[j].1 ∧ w.frozen? ⟨g, j, none⟩ = false := by
  subst hn
  refine ⟨?_, h.1.frozenAt _⟩
  rw [h.1.cellAt j (by omega), List.getElem?_map, List.getElem?_eq_getElem hj]
  rfl

theorem RowP.put {w0 : World} {B g n c : Nat} {w : World} {ts : List PlC} (h : RowP w0 B w (.slice (some ⟨g, 0, none⟩) n c) ts) (hn : ts.length = n) (i : Nat) (t : PlC) (ht : GdP w0 t) :
    RowP w0 B (w.setCell ⟨g, i, none⟩ t.1) (.slice (some ⟨g, 0, none⟩) n c) (ts.set i t) ∧ w.grownBy (w.setCell ⟨g, i, none⟩ t.1) (some g) := by
  subst hn
  obtain ⟨k1, g1⟩ := h.1.stored i t.1
  refine ⟨⟨by rw [List.length_set, List.map_set]; exact k1, fun u hu => ?_⟩, g1⟩
  rcases List.mem_or_eq_of_mem_set hu with h9 | h9
  · exact h.2 u h9
  · rw [h9]; exact ht

def eqP (a b : PlC) : Bool := a.2 == b.2

theorem eqP_iff (a b : PlC) : eqP a b = true ↔ a.2 = b.2 := by unfold eqP; simp

theorem clear_own1 {P : Program} {w : World} {B g n cap m : Nat} {t e ty : TypeId} {z : Value} {cs : List Value} (ht : P.underlying t = some (.slice e)) (hv : ∀ w, (zeroValue e).run P w = .ok z w) (hz : z.cells.size = 1) (h1 : ∀ u ∈ z.cells.toList, u.oneCell' = true)
    (h : w.ownsRow B e 1 (.slice (some ⟨g, 0, none⟩) n cap) n cs) (hm : m < n) : ∃ w', (Builtin.clear_ #[t] ty #[.slice (some ⟨g, m, none⟩) (n - m) (cap - m)]).run P w = .ok (.tuple #[]) w' ∧ w'.ownsRow B e 1 (.slice (some ⟨g, 0, none⟩) m cap) m (cs.take m) ∧ w.grownBy w' (some g) := by
  have h9 := clear_own (ty := ty) ht hv hz (by decide) h1 h hm
  rw [Nat.mul_one] at h9
  exact h9

theorem peq_q (w : World) (a b : Value) (l m : List UInt8) (r : Bool) (ha : Rd w a l) (hb : Rd w b m) (hr : (l == m) = r) : Calls Try.prog 50 #[a, b] w fun e w' => e = .returned (.bool r) ∧ ∃ n, w' = w.drewN n :=
  (equal_any w a b l m ha hb).mono (fun e w' h => ⟨by rw [h.1, hr], 0, h.2⟩)

/-- what slices.CompactFunc leaves -/
def CmpPost (w0 : World) (B : Nat) (w : World) (v : Value) (ts : List PlC) (e : Ending) (w' : World) : Prop :=
  ∃ v', e = .returned v' ∧ RowP w0 B w' v' (ddTo eqP ts ts.length) ∧ w.grownBy w' v.ownBlock ∧ v'.ownBlock = v.ownBlock

set_option maxHeartbeats 8000000 in
theorem pcomp_any (w0 w : World) (B : Nat) (v : Value) (ts : List PlC) (hR : RowP w0 B w v ts) (hb : Below w0.heap.size w0 w) (hB : w0.heap.size ≤ B) :
    Calls Try.prog 49 #[v, .func (.func 50) #[] #[]] w (CmpPost w0 B w v ts) := by
  have HR : Hid (RowP w0 B w v ts) := hR
  have HW : Hid (Below w0.heap.size w0 w) := hb
  obtain ⟨a, cap, rfl, h1, h2⟩ := hR.shape
  obtain ⟨N, hN⟩ : ∃ N, ts.length = N := ⟨_, rfl⟩
  rw [hN] at h1 HR ⊢
  have HN : Hid (ts.length = N) := hN
  clear hN hR hb
  by_cases h2N : N < 2
  · have hz : (N : Int) < 2 := by omega
    have HA : Hid (ddTo eqP ts ts.length = ts) := by
      show _ = _
      rw [ddTo_all ts.length (Nat.le_refl _) (fun i hi h1 h2 => by have := HN.out; omega), List.take_length]
    go_enter Try.func49, Try.ntmps49
    go_wp2
    go_ret
    refine ⟨_, rfl, ?_, ⟨rfl, rfl, rfl, Nat.le_refl _, fun _ _ _ => rfl⟩, rfl⟩
    rw [HA.out]
    exact HR.out
  have hz : ¬ (N : Int) < 2 := by omega
  obtain ⟨g, c', eg, hgc1, hgc2⟩ := HR.out.form (by rw [HN.out]; omega)
  rw [HN.out] at eg
  cases eg
  have HGB : Hid (B ≤ g ∧ g < w.heap.size) := by have := HR.out.1.lt g rfl; exact this
  go_enter Try.func49, Try.ntmps49
  go_wp2_with fail
  go_loopg [5] N (fun gk iv wr => ∃ j : Nat, (N ≤ gk + j ∧ j ≤ N ∧ 0 < j) ∧ iv = .int .i64 (j : Int) ∧ Hid (∀ i (hi : i < ts.length), 0 < i → i < j → eqP ts[i] (ts[i - 1]'(by omega)) = false) ∧ Hid (Below w.heap.size w wr))
  case atStart => exact ⟨1, by omega, rfl, fun i hi h1 h2 => by omega, Below.refl _ _⟩
  case round =>
    obtain ⟨k, hk, rfl, HS, HB⟩ := hrel
    by_cases hlt : k < N
    · have hlt2 : k < ts.length := by rw [HN.out]; exact hlt
      have hRr := HR.out.below HB.out
      have hbr : Below w0.heap.size w0 wr := bsplit HW.out HB.out
      obtain ⟨c0, _⟩ := hRr.at HN.out k hlt2
      obtain ⟨c1, _⟩ := hRr.at HN.out (k - 1) (by omega)
      have rx : Rd wr ts[k].1 ts[k].2 := (hRr.2 ts[k] (List.getElem_mem hlt2)).below hbr (Nat.le_refl _)
      have ry : Rd wr (ts[k - 1]'(by omega)).1 (ts[k - 1]'(by omega)).2 := (hRr.2 (ts[k - 1]'(by omega)) (List.getElem_mem (by omega))).below hbr (Nat.le_refl _)
      obtain ⟨r, hr⟩ : ∃ r, eqP ts[k] (ts[k - 1]'(by omega)) = r := ⟨_, rfl⟩
      have HRR : Hid (eqP ts[k] (ts[k - 1]'(by omega)) = r) := hr
      obtain ⟨xa, xc, ex⟩ := rx.len
      obtain ⟨ya, yc, ey⟩ := ry.len
      rw [ex] at c0 rx
      rw [ey] at c1 ry
      obtain ⟨nl, hnl⟩ : ∃ nl, ts[k].2.length = nl := ⟨_, rfl⟩
      obtain ⟨ml, hml⟩ : ∃ ml, (ts[k - 1]'(by omega)).2.length = ml := ⟨_, rfl⟩
      rw [hnl] at c0 rx
      rw [hml] at c1 ry
      obtain ⟨l1, hl1⟩ : ∃ l, ts[k].2 = l := ⟨_, rfl⟩
      obtain ⟨l2, hl2⟩ : ∃ l, (ts[k - 1]'(by omega)).2 = l := ⟨_, rfl⟩
      have HQ : Hid ((l1 == l2) = r) := by show _ = _; rw [← hl1, ← hl2]; exact hr
      rw [hl1] at rx
      rw [hl2] at ry
      obtain ⟨p, hp⟩ : ∃ p, k - 1 = p := ⟨_, rfl⟩
      rw [hp] at c1
      have hpk : (k : Int) - 1 = (p : Int) := by omega
      have hpN : p < N := by omega
      have hwp : IntKind.i64.wrap (p : Int) = (p : Int) := by rw [IntKind.wrap_i64]; omega
      clear hr ex ey hnl hml hbr hRr hp hl1 hl2
      go_wp2_with fail
      go_quiet (first | (go_at_call 50; refine Calls.quiet_of (peq_q _ _ _ l1 l2 r (by exact rx) (by exact ry) HQ.out)))
      have HBQ : Hid (Below w.heap.size w wr) := HB
      clear rx ry c0 c1 hwp hpk
      cases r
      · go_wp2_with fail
        go_roundg (gk - 1)
        case measure => omega
        case rel =>
          refine ⟨k + 1, by omega, by go_num, fun i hi h1 h2 => ?_, below_drewN HBQ.out _⟩
          by_cases h9 : i = k
          · subst h9; exact HRR.out
          · exact HS.out i hi h1 (by omega)
      · have HD0 : Hid (CmpI eqP ts ts k (k + 1)) := CmpI.start hlt2 hk.2.2 (ddTo_all k (by omega) (fun i hi h1 h2 => HS.out i hi h1 h2)) HRR.out
        obtain ⟨w1, hw1⟩ : ∃ W, wr.drewN nq = W := ⟨_, rfl⟩
        rw [hw1]
        have HB1 : Hid (Below w.heap.size w w1) := by show Below _ _ _; rw [← hw1]; exact below_drewN HBQ.out _
        have HR1 : Hid (RowP w0 B w1 (.slice (some ⟨g, 0, none⟩) N cap) ts) := HR.out.below HB1.out
        have HW1 : Hid (Below w0.heap.size w0 w1) := bsplit HW.out HB1.out
        have hk0 := hk.2.2
        obtain ⟨G, hG⟩ : ∃ G, gk = G := ⟨_, rfl⟩
        clear hw1 HB HBQ HS HRR HQ hpN
        have hkN1 : k ≤ N := by omega
        have hkc : k ≤ cap := by omega
        go_wp2_with fail
        obtain ⟨M, hM⟩ : ∃ M, N - k = M := ⟨_, rfl⟩
        rw [hM]
        go_loopg [5, 7] N (fun gq iv kv wq => ∃ i k2 : Nat, ∃ D : List PlC, (N ≤ gq + (k + k2) ∧ k + k2 ≤ N ∧ 0 < k2) ∧ iv = .int .i64 (i : Int) ∧ kv = .int .i64 (k2 : Int) ∧ Hid (CmpI eqP ts D i (k + k2)) ∧ Hid (RowP w0 B wq (.slice (some ⟨g, 0, none⟩) N cap) D) ∧ Hid (w.grownBy wq (some g)))
        case atStart => exact ⟨k, 1, ts, by omega, rfl, rfl, HD0, HR1, grownBy_of_below HB1.out _⟩
        case round =>
          obtain ⟨i, k2, D, hk2, rfl, rfl, HD, HRD, HGR⟩ := hrel
          have hip : i < k + k2 := HD.out.2.1
          have HDL : Hid (D.length = N) := HD.out.1.trans HN.out
          by_cases hlt3 : k + k2 < N
          · have hp2 : k + k2 < ts.length := by rw [HN.out]; exact hlt3
            obtain ⟨hpD, eD⟩ := HD.out.get (q := k + k2) (by omega) hp2
            obtain ⟨hqD, eQ⟩ := HD.out.get (q := k + k2 - 1) (by omega) (by omega)
            have hbr : Below w0.heap.size w0 wr := HW.out.grown HGR.out (HW.out.size) (fun q hq => by cases hq; have := HGB.out.1; omega)
            obtain ⟨c0, _⟩ := HRD.out.at HDL.out (k + k2) hpD
            obtain ⟨c1, _⟩ := HRD.out.at HDL.out (k + k2 - 1) hqD
            obtain ⟨ci, fi⟩ := HRD.out.at HDL.out i (by omega)
            have HGD : Hid (GdP w0 D[k + k2]) := HRD.out.2 _ (List.getElem_mem hpD)
            have rx : Rd wr D[k + k2].1 D[k + k2].2 := HGD.out.below hbr (Nat.le_refl _)
            have ry : Rd wr (D[k + k2 - 1]'hqD).1 (D[k + k2 - 1]'hqD).2 := (HRD.out.2 _ (List.getElem_mem hqD)).below hbr (Nat.le_refl _)
            obtain ⟨r, hr⟩ : ∃ r, eqP D[k + k2] (D[k + k2 - 1]'hqD) = r := ⟨_, rfl⟩
            have HRR : Hid (eqP ts[k + k2] (ts[k + k2 - 1]'(by omega)) = r) := by show _ = _; rw [← eD, ← eQ]; exact hr
            obtain ⟨xa, xc, ex⟩ := rx.len
            obtain ⟨ya, yc, ey⟩ := ry.len
            have HED : Hid (D[k + k2] = ts[k + k2]) := eD
            rw [ex] at c0 rx
            rw [ey] at c1 ry
            obtain ⟨nl, hnl⟩ : ∃ nl, D[k + k2].2.length = nl := ⟨_, rfl⟩
            obtain ⟨ml, hml⟩ : ∃ ml, (D[k + k2 - 1]'hqD).2.length = ml := ⟨_, rfl⟩
            rw [hnl] at c0 rx ex
            rw [hml] at c1 ry
            have HEX : Hid (D[k + k2].1 = .slice xa nl xc) := ex
            obtain ⟨l1, hl1⟩ : ∃ l, D[k + k2].2 = l := ⟨_, rfl⟩
            obtain ⟨l2, hl2⟩ : ∃ l, (D[k + k2 - 1]'hqD).2 = l := ⟨_, rfl⟩
            have HQ : Hid ((l1 == l2) = r) := by show _ = _; rw [← hl1, ← hl2]; exact hr
            rw [hl1] at rx
            rw [hl2] at ry
            obtain ⟨p2, hp3⟩ : ∃ p, k2 - 1 = p := ⟨_, rfl⟩
            rw [show k + k2 - 1 = k + p2 by omega] at c1
            have hpk : (k2 : Int) - 1 = (p2 : Int) := by omega
            have hpM : p2 < M := by omega
            have hkM : k2 < M := by omega
            have hwp : IntKind.i64.wrap (p2 : Int) = (p2 : Int) := by rw [IntKind.wrap_i64]; omega
            have hiN : i < N := by omega
            have hiD : i < D.length := by rw [HDL.out]; exact hiN
            obtain ⟨old, hold⟩ : ∃ o, D[i].1 = o := ⟨_, rfl⟩
            rw [hold] at ci
            clear hr ex ey hnl hml hbr hl1 hl2 hp3 eD eQ hold
            go_wp2_with fail
            go_quiet (first | (go_at_call 50; refine Calls.quiet_of (peq_q _ _ _ l1 l2 r (by exact rx) (by exact ry) HQ.out)))
            clear hwp hpk rx ry c1
            obtain ⟨w2, hw2⟩ : ∃ W, wr.drewN nq = W := ⟨_, rfl⟩
            have hb2 : Below wr.heap.size wr w2 := by rw [← hw2]; exact below_drewN (Below.refl _ _) _
            rw [hw2]
            have HR2 : Hid (RowP w0 B w2 (.slice (some ⟨g, 0, none⟩) N cap) D) := HRD.out.below hb2
            have HG2 : Hid (w.grownBy w2 (some g)) := grownBy_trans HGR.out (grownBy_of_below hb2 _)
            have d0 : w2.cell? ⟨g, k + k2, none⟩ = some (.slice xa nl xc) := (HR2.out.at HDL.out (k + k2) hpD).1.trans (congrArg some HEX.out)
            obtain ⟨di, gi⟩ := HR2.out.at HDL.out i hiD
            obtain ⟨old2, hold⟩ : ∃ o, D[i].1 = o := ⟨_, rfl⟩
            rw [hold] at di
            clear hb2 hw2 c0 ci fi hold
            cases r
            · obtain ⟨kp, kg⟩ := HR2.out.put HDL.out i D[k + k2] HGD.out
              rw [HEX.out] at kp kg
              have HKP : Hid _ := kp
              have HKG : Hid _ := kg
              clear kp kg
              go_wp2_with fail
              go_roundg (gk - 1)
              case measure => omega
              case rel => exact ⟨i + 1, k2 + 1, D.set i D[k + k2], by omega, by go_num, by go_num, (by show CmpI _ _ _ _ _; rw [HED.out]; exact HD.out.keep hp2 HRR.out), HKP, grownBy_trans HG2.out HKG.out⟩
            · go_wp2_with fail
              go_roundg (gk - 1)
              case measure => omega
              case rel => exact ⟨i, k2 + 1, D, by omega, rfl, by go_num, HD.out.skip hp2 HRR.out, HR2, HG2⟩
          · have hkM : k2 = M := by omega
            subst hkM
            have hkk : k + k2 = N := by omega
            have hiN : i < N := by omega
            have HFI : Hid (D.take i = ddTo eqP ts ts.length) := by
              show _ = _
              rw [HD.out.2.2.1, hkk, HN.out]
            obtain ⟨w9, hcl, hrow, hgr⟩ := clear_own1 (P := Try.prog) (t := 23) (ty := 0) Try.underlying23 Try.zeroValue29 rfl (by intro u hu; simp [Value.cells] at hu; rw [hu]; rfl) (by have h := HRD.out.1; rw [HDL.out] at h; exact h) hiN
            have HRW : Hid _ := hrow
            have HGG : Hid _ := hgr
            clear hrow hgr
            go_wp2_with fail
            go_ret
            have hli : (ddTo eqP ts ts.length).length = i := by rw [← HFI.out, List.length_take, HDL.out]; omega
            refine ⟨_, rfl, ⟨?_, fun t ht => HR.out.2 t (by have h9 := ddTo_mem ts.length (Nat.le_refl _) t ht; rwa [List.take_length] at h9)⟩, grownBy_trans HGR.out HGG.out, rfl⟩
            rw [hli, ← HFI.out, List.map_take]
            exact HRW.out
    · have hkN : k = N := by omega
      subst hkN
      have HA : Hid (ddTo eqP ts ts.length = ts) := by
        show _ = _
        rw [ddTo_all ts.length (Nat.le_refl _) (fun i hi h1 h2 => HS.out i hi h1 (by rw [← HN.out]; exact hi)), List.take_length]
      go_wp2_with fail
      go_wp2
      go_ret
      refine ⟨_, rfl, ?_, grownBy_of_below HB.out _, rfl⟩
      rw [HA.out]
      exact HR.out.below HB.out

end Go.Proofs.Ytifdomhmmhepcaa
