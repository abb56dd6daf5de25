/- slices.Compact of numbers. -/
import Derived.Test.YtifdomhmmhepcaaTbComp
namespace Go.Proofs.Ytifdomhmmhepcaa
set_option maxRecDepth 20000
open Go.RowKit
set_option linter.unusedVariables false
set_option linter.unusedSimpArgs false

theorem RowN.below {B : Nat} {w w' : World} {v : Value} {ps : List Nat} (h : RowN B w v ps) (hb : Below w.heap.size w w') : RowN B w' v ps := row_below h hb

theorem RowN.shape {B : Nat} {w : World} {v : Value} {ts : List Nat} (h : RowN B w v ts) : ∃ a c, v = .slice a ts.length c ∧ ts.length ≤ c ∧ c ≤ 9223372036854775807 := by
  rcases h.2 with ⟨e, hn⟩ | ⟨g, cap, cur, e, _, _, h1, h2, _⟩
  · exact ⟨none, 0, by rw [e, hn], by omega, by omega⟩
  · exact ⟨_, cap, e, h1, h2⟩

theorem RowN.form {B : Nat} {w : World} {v : Value} {ts : List Nat} (h : RowN B w v ts) (hn : 0 < ts.length) : ∃ g c, v = .slice (some ⟨g, 0, none⟩) ts.length c ∧ ts.length ≤ c ∧ c ≤ 9223372036854775807 := by
  rcases h.2 with ⟨e, hn⟩ | ⟨g, cap, cur, e, _, _, h1, h2, _⟩
  · omega
  · exact ⟨_, cap, e, h1, h2⟩

theorem RowN.at {B g n c : Nat} {w : World} {ts : List Nat} (h : RowN B w (.slice (some ⟨g, 0, none⟩) n c) ts) (hn : ts.length = n) (j : Nat) (hj : j < ts.length) :
    w.cell? ⟨g, j, none⟩ = some (.int .u64 (ts[j] : Int)) ∧ w.frozen? ⟨g, j, none⟩ = false := by
  subst hn
  unfold RowN at h
  refine ⟨?_, h.frozenAt _⟩
  rw [h.cellAt j (by omega), List.getElem?_map, List.getElem?_eq_getElem hj]
  rfl

theorem RowN.put {B g n c : Nat} {w : World} {ts : List Nat} (h : RowN B w (.slice (some ⟨g, 0, none⟩) n c) ts) (hn : ts.length = n) (i : Nat) (t : Nat) :
    RowN B (w.setCell ⟨g, i, none⟩ (.int .u64 (t : Int))) (.slice (some ⟨g, 0, none⟩) n c) (ts.set i t) ∧ w.grownBy (w.setCell ⟨g, i, none⟩ (.int .u64 (t : Int))) (some g) := by
  subst hn
  unfold RowN at h ⊢
  obtain ⟨k1, g1⟩ := h.stored i (.int .u64 (t : Int))
  exact ⟨by rw [List.length_set, List.map_set]; exact k1, g1⟩

def eqNN (a b : Nat) : Bool := (a : Int) == (b : Int)

theorem eqNN_iff (a b : Nat) : eqNN a b = true ↔ a = b := by unfold eqNN; rw [beq_iff_eq]; omega

/-- what slices.Compact leaves -/
def CmpPostN (B : Nat) (w : World) (v : Value) (ts : List Nat) (e : Ending) (w' : World) : Prop :=
  ∃ v', e = .returned v' ∧ RowN B w' v' (ddTo eqNN ts ts.length) ∧ w.grownBy w' v.ownBlock ∧ v'.ownBlock = v.ownBlock

set_option maxHeartbeats 8000000 in
theorem ncomp_any (w : World) (B : Nat) (v : Value) (ts : List Nat) (hR : RowN B w v ts) :
    Calls Try.prog 55 #[v] w (CmpPostN B w v ts) := by
  have HR : Hid (RowN B w v ts) := hR
  obtain ⟨a, cap, rfl, h1, h2⟩ := hR.shape
  obtain ⟨N, hN⟩ : ∃ N, ts.length = N := ⟨_, rfl⟩
  rw [hN] at h1 HR ⊢
  have HN : Hid (ts.length = N) := hN
  clear hN hR
  by_cases h2N : N < 2
  · have hz : (N : Int) < 2 := by omega
    have HA : Hid (ddTo eqNN ts ts.length = ts) := by
      show _ = _
      rw [ddTo_all ts.length (Nat.le_refl _) (fun i hi h1 h2 => by have := HN.out; omega), List.take_length]
    go_enter Try.func55, Try.ntmps55
    go_wp2
    go_ret
    refine ⟨_, rfl, ?_, ⟨rfl, rfl, rfl, Nat.le_refl _, fun _ _ _ => rfl⟩, rfl⟩
    rw [HA.out]
    exact HR.out
  have hz : ¬ (N : Int) < 2 := by omega
  obtain ⟨g, c', eg, hgc1, hgc2⟩ := HR.out.form (by rw [HN.out]; omega)
  rw [HN.out] at eg
  cases eg
  go_enter Try.func55, Try.ntmps55
  go_wp2_with fail
  go_loopg [3] N (fun gk iv wr => ∃ j : Nat, (N ≤ gk + j ∧ j ≤ N ∧ 0 < j) ∧ iv = .int .i64 (j : Int) ∧ Hid (∀ i (hi : i < ts.length), 0 < i → i < j → eqNN ts[i] (ts[i - 1]'(by omega)) = false) ∧ Hid (Below w.heap.size w wr))
  case atStart => exact ⟨1, by omega, rfl, fun i hi h1 h2 => by omega, Below.refl _ _⟩
  case round =>
    obtain ⟨k, hk, rfl, HS, HB⟩ := hrel
    by_cases hlt : k < N
    · have hlt2 : k < ts.length := by rw [HN.out]; exact hlt
      have hRr := HR.out.below HB.out
      obtain ⟨c0, _⟩ := hRr.at HN.out k hlt2
      obtain ⟨c1, _⟩ := hRr.at HN.out (k - 1) (by omega)
      obtain ⟨r, hr⟩ : ∃ r, eqNN ts[k] (ts[k - 1]'(by omega)) = r := ⟨_, rfl⟩
      have HRR : Hid (eqNN ts[k] (ts[k - 1]'(by omega)) = r) := hr
      obtain ⟨l1, hl1⟩ : ∃ l : Int, (ts[k] : Int) = l := ⟨_, rfl⟩
      obtain ⟨l2, hl2⟩ : ∃ l : Int, ((ts[k - 1]'(by omega) : Nat) : Int) = l := ⟨_, rfl⟩
      have hq : (l1 == l2) = r := by rw [← hl1, ← hl2]; exact hr
      rw [hl1] at c0
      rw [hl2] at c1
      obtain ⟨p, hp⟩ : ∃ p, k - 1 = p := ⟨_, rfl⟩
      rw [hp] at c1
      have hpk : (k : Int) - 1 = (p : Int) := by omega
      have hpN : p < N := by omega
      have hwp : IntKind.i64.wrap (p : Int) = (p : Int) := by rw [IntKind.wrap_i64]; omega
      clear hr hRr hp hl1 hl2
      go_wp2_with fail
      go_quiet (fail)
      have HBQ : Hid (Below w.heap.size w wr) := HB
      clear c0 c1 hwp hpk hq
      cases r
      · go_wp2_with fail
        go_roundg (gk - 1)
        case measure => omega
        case rel =>
          refine ⟨k + 1, by omega, by go_num, fun i hi h1 h2 => ?_, below_drewN HBQ.out _⟩
          by_cases h9 : i = k
          · subst h9; exact HRR.out
          · exact HS.out i hi h1 (by omega)
      · have HD0 : Hid (CmpI eqNN ts ts k (k + 1)) := CmpI.start hlt2 hk.2.2 (ddTo_all k (by omega) (fun i hi h1 h2 => HS.out i hi h1 h2)) HRR.out
        obtain ⟨w1, hw1⟩ : ∃ W, wr.drewN nq = W := ⟨_, rfl⟩
        rw [hw1]
        have HB1 : Hid (Below w.heap.size w w1) := by show Below _ _ _; rw [← hw1]; exact below_drewN HBQ.out _
        have HR1 : Hid (RowN B w1 (.slice (some ⟨g, 0, none⟩) N cap) ts) := HR.out.below HB1.out
        have hk0 := hk.2.2
        obtain ⟨G, hG⟩ : ∃ G, gk = G := ⟨_, rfl⟩
        clear hw1 HB HBQ HS HRR hpN
        have hkN1 : k ≤ N := by omega
        have hkc : k ≤ cap := by omega
        go_wp2_with fail
        obtain ⟨M, hM⟩ : ∃ M, N - k = M := ⟨_, rfl⟩
        rw [hM]
        go_loopg [3, 5] N (fun gq iv kv wq => ∃ i k2 : Nat, ∃ D : List Nat, (N ≤ gq + (k + k2) ∧ k + k2 ≤ N ∧ 0 < k2) ∧ iv = .int .i64 (i : Int) ∧ kv = .int .i64 (k2 : Int) ∧ Hid (CmpI eqNN ts D i (k + k2)) ∧ Hid (RowN B wq (.slice (some ⟨g, 0, none⟩) N cap) D) ∧ Hid (w.grownBy wq (some g)))
        case atStart => exact ⟨k, 1, ts, by omega, rfl, rfl, HD0, HR1, grownBy_of_below HB1.out _⟩
        case round =>
          obtain ⟨i, k2, D, hk2, rfl, rfl, HD, HRD, HGR⟩ := hrel
          have hip : i < k + k2 := HD.out.2.1
          have HDL : Hid (D.length = N) := HD.out.1.trans HN.out
          by_cases hlt3 : k + k2 < N
          · have hp2 : k + k2 < ts.length := by rw [HN.out]; exact hlt3
            obtain ⟨hpD, eD⟩ := HD.out.get (q := k + k2) (by omega) hp2
            obtain ⟨hqD, eQ⟩ := HD.out.get (q := k + k2 - 1) (by omega) (by omega)
            obtain ⟨c0, _⟩ := HRD.out.at HDL.out (k + k2) hpD
            obtain ⟨c1, _⟩ := HRD.out.at HDL.out (k + k2 - 1) hqD
            obtain ⟨r, hr⟩ : ∃ r, eqNN D[k + k2] (D[k + k2 - 1]'hqD) = r := ⟨_, rfl⟩
            have HRR : Hid (eqNN ts[k + k2] (ts[k + k2 - 1]'(by omega)) = r) := by show _ = _; rw [← eD, ← eQ]; exact hr
            have HED : Hid (D[k + k2] = ts[k + k2]) := eD
            obtain ⟨l1, hl1⟩ : ∃ l : Int, (D[k + k2] : Int) = l := ⟨_, rfl⟩
            obtain ⟨l2, hl2⟩ : ∃ l : Int, ((D[k + k2 - 1]'hqD : Nat) : Int) = l := ⟨_, rfl⟩
            have HL1 : Hid ((D[k + k2] : Int) = l1) := hl1
            have hq : (l1 == l2) = r := by rw [← hl1, ← hl2]; exact hr
            have hq2 : (l1 != l2) = !r := by rw [← hq]; rfl
            rw [hl1] at c0
            rw [hl2] at c1
            obtain ⟨p2, hp3⟩ : ∃ p, k2 - 1 = p := ⟨_, rfl⟩
            rw [show k + k2 - 1 = k + p2 by omega] at c1
            have hpk : (k2 : Int) - 1 = (p2 : Int) := by omega
            have hpM : p2 < M := by omega
            have hkM : k2 < M := by omega
            have hwp : IntKind.i64.wrap (p2 : Int) = (p2 : Int) := by rw [IntKind.wrap_i64]; omega
            have hiN : i < N := by omega
            have hiD : i < D.length := by rw [HDL.out]; exact hiN
            clear hr hl1 hl2 hp3 eD eQ
            go_wp2_with fail
            go_quiet (fail)
            clear hwp hpk c1 hq hq2
            obtain ⟨w2, hw2⟩ : ∃ W, wr.drewN nq = W := ⟨_, rfl⟩
            have hb2 : Below wr.heap.size wr w2 := by rw [← hw2]; exact below_drewN (Below.refl _ _) _
            rw [hw2]
            have HR2 : Hid (RowN B w2 (.slice (some ⟨g, 0, none⟩) N cap) D) := HRD.out.below hb2
            have HG2 : Hid (w.grownBy w2 (some g)) := grownBy_trans HGR.out (grownBy_of_below hb2 _)
            have d0 : w2.cell? ⟨g, k + k2, none⟩ = some (.int .u64 l1) := by rw [← HL1.out]; exact (HR2.out.at HDL.out (k + k2) hpD).1
            obtain ⟨di, gi⟩ := HR2.out.at HDL.out i hiD
            obtain ⟨old2, hold⟩ : ∃ o : Int, (D[i] : Int) = o := ⟨_, rfl⟩
            rw [hold] at di
            clear hb2 hw2 c0 hold
            cases r
            · obtain ⟨kp, kg⟩ := HR2.out.put HDL.out i D[k + k2]
              rw [HL1.out] at kp kg
              have HKP : Hid _ := kp
              have HKG : Hid _ := kg
              clear kp kg
              go_wp2_with fail
              go_roundg (gk - 1)
              case measure => omega
              case rel => exact ⟨i + 1, k2 + 1, D.set i D[k + k2], by omega, by go_num, by go_num, (by show CmpI _ _ _ _ _; rw [HED.out]; exact HD.out.keep hp2 HRR.out), HKP, grownBy_trans HG2.out HKG.out⟩
            · go_wp2_with fail
              go_roundg (gk - 1)
              case measure => omega
              case rel => exact ⟨i, k2 + 1, D, by omega, rfl, by go_num, HD.out.skip hp2 HRR.out, HR2, HG2⟩
          · have hkM : k2 = M := by omega
            subst hkM
            have hkk : k + k2 = N := by omega
            have hiN : i < N := by omega
            have HFI : Hid (D.take i = ddTo eqNN ts ts.length) := by
              show _ = _
              rw [HD.out.2.2.1, hkk, HN.out]
            obtain ⟨w9, hcl, hrow, hgr⟩ := clear_own1 (P := Try.prog) (t := 24) (ty := 0) Try.underlying24 Try.zeroValue30 rfl (by intro u hu; simp [Value.cells] at hu; rw [hu]; rfl) (by have h := HRD.out; unfold RowN at h; rw [HDL.out] at h; exact h) hiN
            have HRW : Hid _ := hrow
            have HGG : Hid _ := hgr
            clear hrow hgr
            go_wp2_with fail
            go_ret
            have hli : (ddTo eqNN ts ts.length).length = i := by rw [← HFI.out, List.length_take, HDL.out]; omega
            refine ⟨_, rfl, ?_, grownBy_trans HGR.out HGG.out, rfl⟩
            unfold RowN
            rw [hli, ← HFI.out, List.map_take]
            exact HRW.out
    · have hkN : k = N := by omega
      subst hkN
      have HA : Hid (ddTo eqNN ts ts.length = ts) := by
        show _ = _
        rw [ddTo_all ts.length (Nat.le_refl _) (fun i hi h1 h2 => HS.out i hi h1 (by rw [← HN.out]; exact hi)), List.take_length]
      go_wp2_with fail
      go_wp2
      go_ret
      refine ⟨_, rfl, ?_, grownBy_of_below HB.out _, rfl⟩
      rw [HA.out]
      exact HR.out.below HB.out

end Go.Proofs.Ytifdomhmmhepcaa
