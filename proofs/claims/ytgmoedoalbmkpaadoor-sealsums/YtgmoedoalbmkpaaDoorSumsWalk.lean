/- SealSums answers true: of all bytes, in however many parts, the sum is what is left of the division. -/
import Derived.Test.YtgmoedoalbmkpaaDoorParts
import Derived.Test.YtgmoedoalbmkpaaDoorRefSum
import Derived.Test.YtgmoedoalbmkpaaDoorAwake
namespace Go.Proofs.YtgmoedoalbmkpaaDoor
open Go.RowKit

/-- the texts that are summed: at most eight, of at most 100 bytes each -/
def cut8 (ls : List (List UInt8)) : List (List UInt8) := (ls.take 8).map fun t => t.take 100
theorem cut8_length (ls : List (List UInt8)) : (cut8 ls).length = min ls.length 8 := by simp [cut8, Nat.min_comm]
theorem cut8_get (ls : List (List UInt8)) (k : Nat) (h : k < (cut8 ls).length) (h' : k < ls.length) : (cut8 ls)[k] = (ls[k]).take 100 := by simp [cut8]
theorem flat_le (l : List (List UInt8)) (c : Nat) (h : ∀ x ∈ l, x.length ≤ c) : l.flatten.length ≤ c * l.length := by
  induction l with
  | nil => simp
  | cons x l ih =>
    have h1 := h x (by simp)
    have h2 := ih (fun y hy => h y (by simp [hy]))
    rw [List.flatten_cons, List.length_append, List.length_cons, Nat.mul_add]
    omega
theorem cut8_flat (ls : List (List UInt8)) : (cut8 ls).flatten.length ≤ 800 := by
  have := flat_le (cut8 ls) 100 (fun x hx => by
    simp only [cut8, List.mem_map] at hx
    obtain ⟨y, _, rfl⟩ := hx
    exact List.length_take_le _ _)
  have hl := cut8_length ls
  omega

set_option maxHeartbeats 4000000 in
set_option maxRecDepth 20000 in
theorem sums_walk (w : World) (vx : Value) (ls : List (List UInt8)) (hx : ArgL w vx ls) (ht : Tab w) :
    Calls Tryd.prog 3 #[vx] w fun e w' => e = .returned (.bool true) ∧ Below w.heap.size w w' := by
  obtain ⟨i0, hi, hz0, hz1, hz2⟩ := info_parts info5
  obtain ⟨j0, gi, gz0, gz1, gz2⟩ := info_parts info24
  have ht0 : Hid (Tab w) := ht
  obtain ⟨ao, cap, rfl, h1, h2, h3⟩ := hx.places
  have hcl8 := cut8_length ls
  have hfl := cut8_flat ls
  obtain ⟨C, hC⟩ : ∃ C, cut8 ls = C := ⟨_, rfl⟩
  have HTG : Hid (∀ k (h : k < C.length) (h' : k < ls.length), C[k] = (ls[k]).take 100) := by
    subst hC; exact fun k h h' => cut8_get ls k h h'
  rw [hC] at hcl8 hfl
  have HTL : Hid (C.length = min ls.length 8) := hcl8
  clear hcl8 hC hx
  unfold maxLen at h2
  go_enter Tryd.func3, Tryd.ntmps3
  go_wp2_with fail
  refine (awake_any _ ht).mono ?_
  rintro e w1 ⟨rfl, hb1⟩
  have h31 : ∀ j (h : j < ls.length), ∃ b off, ao = some ⟨b, off, none⟩ ∧ ∃ u, w1.cell? ⟨b, off + j, none⟩ = some u ∧ Arg w1 u (ls[j]) := fun j hj => by
    obtain ⟨b, off, e, u, hc, ha⟩ := h3 j hj
    refine ⟨b, off, e, u, ?_, ha.below hb1 (Nat.le_refl _)⟩
    rw [hb1.cell (p := ⟨b, off + j, none⟩) (World.block_lt_of_cell? w _ hc)]; exact hc
  have hsz := hb1.size
  obtain ⟨L, hL⟩ : ∃ L, ls.length = L := ⟨_, rfl⟩
  have HL : Hid (ls.length = L) := hL
  rw [hL] at h1
  rw [hL]
  clear h3 ht hL
  go_wp2
  go_loopw [3, 4, 11] (fun pv wv iv wr => ∃ (k j : Nat) (vs : List Value), k ≤ L ∧ iv = .int .i64 (k : Int) ∧ (k < 8 → j = k) ∧ (8 ≤ k → j = 8) ∧ wr.ownsRow w1.heap.size 24 1 pv j vs ∧ wr.ownsRow w1.heap.size 5 1 wv (pre C j).length (bv (pre C j)) ∧ PartsOK w1.heap.size wr vs C j wv ∧ Below w1.heap.size w1 wr) (fun _ _ iv _ => L - (intOf iv).toNat)
  case atStart => exact ⟨0, 0, [], Nat.zero_le _, rfl, fun _ => rfl, (fun h => by omega), World.ownsRow_nil _ _ _ _, by rw [pre_zero]; exact World.ownsRow_nil _ _ _ _, parts_zero _ _ _ _ _, Below.refl _ _⟩
  case round =>
    obtain ⟨k, j, vs, hk, rfl, hj1, hj2, hpv, hwv, hpo, hbl⟩ := hrel
    by_cases hlt : k < L
    · obtain ⟨b, off, hao, u, hc, ha⟩ := h31 k (by rw [HL.out]; exact hlt)
      subst hao
      have hc2 : wr.cell? ⟨b, off + k, none⟩ = some u := by rw [hbl.cell (p := ⟨b, off + k, none⟩) (World.block_lt_of_cell? w1 _ hc)]; exact hc
      have ha2 := ha.below hbl (Nat.le_refl _)
      obtain ⟨uo, uc, huv⟩ := ha2.shape
      subst huv
      by_cases hk8 : k < 8
      · have hjk : j = k := hj1 hk8
        subst hjk
        have hkC : j < C.length := by rw [HTL.out, HL.out]; omega
        obtain ⟨c, hcc⟩ : ∃ c, (ls[j]'(by rw [HL.out]; exact hlt)).take 100 = c := ⟨_, rfl⟩
        have hcl : c.length ≤ 100 := by rw [← hcc]; exact List.length_take_le _ _
        have HC : Hid ((ls[j]'(by rw [HL.out]; exact hlt)).take 100 = c) := hcc
        have HCk : Hid (C[j]? = some c) := by show _ = _; rw [List.getElem?_eq_getElem hkC, HTG.out j hkC (by rw [HL.out]; exact hlt), hcc]
        have HPS : Hid (pre C (j + 1) = pre C j ++ c) := by show _ = _; rw [pre_succ C j hkC, HTG.out j hkC (by rw [HL.out]; exact hlt), hcc]
        have hpl := pre_le C (j + 1)
        rw [HPS.out, List.length_append] at hpl
        have hvl : vs.length = j := by have := hpv.1; omega
        have HVL : Hid (vs.length = j) := hvl
        clear h31 hc hcc hvl hkC hj1 hj2
        go_wp2_with fail
        refine (cut_any _ _ _ 100 ha2 (by omega)).mono ?_
        rintro e w2 ⟨vc, rfl, oc, hb2⟩
        rw [HC.out] at oc
        obtain ⟨gc, kc, hvc⟩ := oc.shape
        subst hvc
        have hpv2 := row_below hpv hb2
        have hwv2 := row_below hwv hb2
        have hB2 := hbl.trans (hb2.mono hbl.size)
        have hba := (Below.refl w2.heap.size w2).alloc (Nat.le_refl _) (.cells #[.slice (some ⟨gc, 0, none⟩) c.length kc] 24)
        have hpa := hpv2.alloc (.cells #[.slice (some ⟨gc, 0, none⟩) c.length kc] 24)
        have hwa := hwv2.alloc (.cells #[.slice (some ⟨gc, 0, none⟩) c.length kc] 24)
        have oca := oc.below hba (Nat.le_refl _)
        have hBa := hB2.alloc hB2.size (.cells #[.slice (some ⟨gc, 0, none⟩) c.length kc] 24)
        have hlc : ∀ (j : Nat) (u : Value), [Value.slice (some ⟨gc, 0, none⟩) c.length kc][j]? = some u → (w2.alloc (.cells #[.slice (some ⟨gc, 0, none⟩) c.length kc] 24)).cell? ((⟨w2.heap.size, 0, none⟩ : Addr).add j) = some u := by
          intro j u hu
          match j, hu with
          | 0, hu => simp at hu; subst hu; simp [Addr.add]
        go_wp2_with (first | (at_builtin; refine wpList_append_own _ rfl (.tmp 20) (.tmp 22) 22 rfl w1.heap.size 24 j0 (.slice none 0 0) 1 24 Tryd.underlying22 gi gz0 gz1 gz2 rfl (by decide) u3 j vs rfl hpa ⟨w2.heap.size, 0, none⟩ 1 1 [.slice (some ⟨gc, 0, none⟩) c.length kc] rfl rfl hlc (by intro u hu; simp at hu; subst hu; rfl) (by simp only [maxLen]; omega) (by omega) (by simp; exact Nat.le_trans hB2.size (by omega)) ?_; intro pv' w3 hpv3 hgr3 hn3; have hB3 : Below w1.heap.size w1 w3 := hBa.grown hgr3 hBa.size (fun k' e => (hpa.lt k' e).1); have hwv3 := hwa.kept hgr3 (rows_apart' hpa hwa); have oc3 := own_kept oca hgr3 (fun e => by rcases rows_apart hpa oca.row with e' | e' <;> simp_all [Value.ownBlock]); have hcs := oc3.row.cells (g := gc) rfl) | (at_builtin; refine wpList_append_new _ rfl (.tmp 24) (.tmp 25) 24 rfl w1.heap.size 5 i0 (.int .u8 0) 1 1 Tryd.underlying24 hi hz0 hz1 hz2 rfl (by decide) u4 _ _ rfl hwv3 ⟨gc, 0, none⟩ c.length kc (bv c) rfl (by rw [bv_length, Nat.mul_one]) hcs (bv_one _) (by simp only [maxLen]; omega) (by omega) hB3.size ?_; intro wv' w5 hwv5 hgr5 hn5 hst5) | fail)
        have hB5 : Below w1.heap.size w1 w5 := hB3.grown hgr5 hB3.size (fun k' e => (hwv3.lt k' e).1)
        have hpo5 := parts_step hpo HVL.out HCk.out hpv hwv oc hb2 hbl.size hgr3 (Below.refl _ _) hgr5 hst5
        have hpv5 := parts_rows hpv3 hwv3 (Below.refl _ _) hgr5
        have hwv5' : w5.ownsRow w1.heap.size 5 1 wv' (pre C (j + 1)).length (bv (pre C (j + 1))) := by rw [HPS.out, List.length_append, bv_append]; exact hwv5
        clear hwv5 hgr5 hn5 hst5 hcs hwv3 hB3 hgr3 hpv3 oc oc3 oca hb2 hpo hbl hpv hwv ha ha2 hba hpa hwa hBa hlc hn3 hB2 hpv2 hwv2
        go_roundw
        case rel => exact ⟨j + 1, j + 1, _, by omega, by go_num, fun _ => rfl, (fun h => by omega), hpv5, hwv5', hpo5, hB5⟩
        case measure => simp [intOf]; omega
      · have hj8 : j = 8 := hj2 (by omega)
        go_wp2
        go_roundw
        case rel => exact ⟨k + 1, j, vs, by omega, by go_num, (fun h => by omega), fun _ => hj8, hpv, hwv, hpo, hbl⟩
        case measure => simp [intOf]; omega
    · have hke : k = L := by omega
      have hjC : j = C.length := by
        rw [HTL.out, HL.out]
        by_cases h : k < 8
        · rw [hj1 h]; omega
        · rw [hj2 (by omega)]; omega
      have hrl : RdL wr u3 C := by
        rcases hpv.2 with ⟨e, e2⟩ | ⟨g, cp, cur, e, _, _, h1', h2', _⟩
        · refine .inl ⟨e, ?_⟩
          have : C.length = 0 := by rw [← hjC]; exact e2
          exact List.eq_nil_of_length_eq_zero this
        · subst e
          refine .inr ⟨g, 0, cp, by rw [← hjC], by rw [← hjC]; exact h1', h2', fun i hi => ?_⟩
          obtain ⟨g', c', l, e1, e2, ho, _⟩ := hpo i (by rw [hjC]; exact hi)
          refine ⟨.slice (some ⟨g', 0, none⟩) l.length c', ?_, ?_⟩
          · rw [Nat.zero_add, hpv.cellAt i (by omega)]; exact e2
          · rw [List.getElem?_eq_getElem hi] at e1
            simp only [Option.some.injEq] at e1
            rw [e1]; exact ho.rd
      have hwr : Rd wr u4 C.flatten := by
        rw [← pre_end C, ← hjC]
        rcases row_shape hwv with ⟨e, e2, _⟩ | ⟨g, cp, e⟩
        · exact .inl ⟨e, e2⟩
        · exact (Own.of_row hwv (by rw [e]; simp)).rd
      have hB := hb1.trans (hbl.mono hsz)
      have htw := ht0.out.below hB (Nat.le_refl _)
      obtain ⟨P, hP⟩ : ∃ P, C.flatten = P := ⟨_, rfl⟩
      have HP : Hid (C.flatten = P) := hP
      rw [hP] at hwr hfl
      obtain ⟨a4, c4, hv4⟩ := hwr.len
      obtain ⟨p4, hp4⟩ : ∃ p4, P.length = p4 := ⟨_, rfl⟩
      have HP4 : Hid (P.length = p4) := hp4
      rw [hp4] at hv4 hfl
      subst hv4
      obtain ⟨s, hs⟩ : ∃ s, Crc.sum P = s := ⟨_, rfl⟩
      have HS : Hid (Crc.sum P = s) := hs
      have HE : Hid (∀ m : List UInt8, [m].flatten = m) := fun m => by simp
      clear h31 hpv hwv hpo hbl hb1 hP hs hjC hj1 hj2 hp4
      go_wp2_with fail
      refine (sum_any _ _ _ hrl htw).mono ?_
      rintro e w9 ⟨rfl, hw⟩
      subst hw
      rw [HP.out, HS.out]
      clear hrl
      go_wp2_with fail
      refine (refsum_any _ _ _ hwr (by rw [HP4.out]; omega)).mono ?_
      rintro e w2 ⟨rfl, hb2⟩
      rw [HS.out]
      have hw2 := hwr.below hb2 (Nat.le_refl _)
      have hB2 := hB.trans (hb2.mono hB.size)
      have ht2 := ht0.out.below hB2 (Nat.le_refl _)
      have hL2 := rdl_one _ _ _ hw2
      have hba := (Below.refl w2.heap.size w2).alloc (Nat.le_refl _) (.cells #[.slice a4 p4 c4] 24)
      have ht3 := ht2.below hba (Nat.le_refl _)
      have hw3 := hw2.below hba (Nat.le_refl _)
      have hB3 := hB2.alloc hB2.size (.cells #[.slice a4 p4 c4] 24)
      clear hwr hb2 hB htw hw2 ht2 hba hB2
      go_wp2_with fail
      refine (sum_any _ _ _ hL2 ht3).mono ?_
      rintro e w9 ⟨rfl, hw⟩
      subst hw
      rw [HE.out, HS.out]
      clear hL2 ht3
      go_wp2_with fail
      refine (refsum_any _ _ _ hw3 (by rw [HP4.out]; omega)).mono ?_
      rintro e w4 ⟨rfl, hb4⟩
      rw [HS.out]
      go_wp2
      go_ret
      exact ⟨rfl, hB3.trans (hb4.mono hB3.size)⟩

theorem sealSums_walk (a0 : Option Addr) (len0 cap0 : Nat) (z0 : List (List UInt8)) (w : World) (w0 : ArgL w (.slice a0 len0 cap0) z0) (ht : Tab w) :
    Calls Tryd.prog 3 #[.slice a0 len0 cap0] w fun e w' => e = .returned (.bool true) ∧ Below w.heap.size w w' :=
  sums_walk w _ _ w0 ht

end Go.Proofs.YtgmoedoalbmkpaaDoor
