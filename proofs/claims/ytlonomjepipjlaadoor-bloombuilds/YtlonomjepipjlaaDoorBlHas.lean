/- bloom.Has. -/
import Derived.Test.YtlonomjepipjlaaDoorBlIter
import Derived.RangeFuncFrom
namespace Go.Proofs.YtlonomjepipjlaaDoor
open Go.RowKit Go.Shelf
set_option linter.unusedVariables false

attribute [local go_sem] Oper.semAt_some

theorem rd_one_cell (W : World) (v : Value) (t : TypeId) : (W.alloc (.cells #[v] t)).cell? ⟨W.heap.size, 0, none⟩ = some v := by
  unfold World.cell?
  rw [heap_alloc_new]
  rfl
theorem cell_new_l (W : World) (v : Value) (t : TypeId) : (W.alloc (.cells #[v] t)).cell? ⟨W.heap.size, 0, none⟩ = some v ∧ (W.alloc (.cells #[v] t)).frozen? ⟨W.heap.size, 0, none⟩ = false := ⟨(rd_one_cell W v t), frozen_of_row (W.alloc (.cells #[v] t)) W.heap.size 0 _ t (heap_alloc_new W (.cells #[v] t))⟩
theorem cell_alloc_l {W : World} {a : Addr} {v : Value} (o : Obj) (h : W.cell? a = some v) : (W.alloc o).cell? a = some v := cell_kept h (World.grownBy_alloc W o none) (fun r e => by cases e)
theorem frozen_alloc_l {W : World} {a : Addr} {v : Value} (o : Obj) (h : W.cell? a = some v) (hf : W.frozen? a = false) : (W.alloc o).frozen? a = false := (frozen_kept h (World.grownBy_alloc W o none) (fun r e => by cases e)).trans hf

/-- is the k-th bit set -/
def bitB (l : List UInt8) (k : Nat) : Bool := ((l.getD (k / 8) 0).toNat / 2 ^ (k % 8)) % 2 == 1

/-- how many probes a filter says -/
def cntF (f : List UInt8) : Nat := (f.getD (f.length - 1) 0).toNat

/-- may the key be in the filter -/
def hasB (f key : List UInt8) : Bool := !isF f || (List.range (cntF f)).all fun i => bitB f (atN key i % (8 * (f.length - 1)))

theorem and_nat : ∀ r < 8, ∀ y < 256, ((y &&& 2 ^ r) == 0) = !(y / 2 ^ r % 2 == 1) := by decide +kernel

theorem and_bit (y r : Nat) (hy : y < 2 ^ 8) (hr : r < 8) : (bits BinOp.and IntKind.u8 (y : Int) ((2 : Int) ^ r % 256) == 0) = !(y / 2 ^ r % 2 == 1) := by
  have h2 : (2 : Nat) ^ r < 256 := Nat.lt_of_lt_of_le (Nat.pow_lt_pow_right (by omega) hr) (by decide)
  have e1 : (2 : Int) ^ r % 256 = ((2 ^ r : Nat) : Int) := by
    have e : (2 : Int) ^ r = ((2 ^ r : Nat) : Int) := by push_cast; rfl
    rw [e]
    generalize (2 : Nat) ^ r = p at h2 ⊢
    omega
  rw [e1, u8_and_nat y (2 ^ r) (by omega) h2, ← and_nat r hr y (by omega), Bool.eq_iff_iff]
  simp

set_option maxRecDepth 100000 in
set_option maxHeartbeats 4000000 in
theorem has_any (w : World) (fa : Option Addr) (fc : Nat) (ka : Option Addr) (kl kc : Nat) (f key : List UInt8) (hfb : f.length ≤ 1000000) (hf : Rd w (.slice fa f.length fc) f) (hk : Rd w (.slice ka kl kc) key) (ht : Tab w) :
    Calls Tryd.prog 16 #[.slice fa f.length fc, .slice ka kl kc] w fun e w' => e = .returned (.bool (hasB f key)) ∧ Below w.heap.size w w' := by
  have c0 := cell_new_l w (.slice fa f.length fc) 26
  have c1 := cell_new_l (w.alloc (.cells #[.slice fa f.length fc] 26)) (.bool false) 4
  simp only [World.size_alloc] at c1
  have hB2 : Below w.heap.size w ((w.alloc (.cells #[.slice fa f.length fc] 26)).alloc (.cells #[.bool false] 4)) := ((Below.refl _ w).alloc (Nat.le_refl _) _).alloc (by simp) _
  have c0' := cell_alloc_l (.cells #[.bool false] 4) c0.1
  have hif := isFilter_any ((w.alloc (.cells #[.slice fa f.length fc] 26)).alloc (.cells #[.bool false] 4)) _ f (hf.below hB2 (Nat.le_refl _)) hfb
  refine (callsIn_wide (n := 4)).1 ?_
  refine callsIn_of_wp_marks Tryd.func16 rfl trivial ?_ rfl
  simp only [Tryd.ntmps16, List.size_toArray, List.length_cons, List.length_nil, Nat.reduceAdd, Nat.reduceSub, Array.replicate_succ, Array.replicate_zero, List.push_toArray, List.append_toArray, List.nil_append, List.cons_append]
  gi_wp2_with fail
  refine ⟨trivial, ?_⟩
  refine (callsIn_wide.2 hif).mono ?_
  rintro e w1 ⟨rfl, hw1⟩
  subst w1
  by_cases hF : isF f = true
  · have hF' := hF
    unfold isF at hF'
    simp only [Bool.and_eq_true, decide_eq_true_eq] at hF'
    obtain ⟨h9, hc1, hc30⟩ := hF'
    obtain ⟨sz, hsz⟩ : ∃ sz, f.length = sz + 1 := ⟨f.length - 1, by omega⟩
    have hB : 0 < 8 * sz := by omega
    have hgd : f.getD (f.length - 1) 0 = f[sz]'(by omega) := by
      rw [List.getD_eq_getElem?_getD, List.getElem?_eq_getElem (by omega)]
      simp [hsz]
    have HC : Hid (∀ h : sz < f.length, (f[sz]).toNat = cntF f) := fun h => by unfold cntF; rw [hgd]
    have HSZ : Hid (f.length = sz + 1) := hsz
    obtain ⟨bb, off, rfl⟩ : ∃ bb off, fa = some ⟨bb, off, none⟩ := by
      rcases hf with ⟨e, rfl⟩ | ⟨bb, off, cap, e, _⟩
      · simp at hsz
      · simp only [Value.slice.injEq] at e
        exact ⟨bb, off, e.1⟩
    have HIS : Hid (isF f = true) := hF
    rw [hF]
    clear hgd hsz h9 hc1 hc30
    gi_wp2_with fail
    refine ⟨trivial, ?_⟩
    refine (callsIn_wide.2 (probes_any _ _ _ _ _ _ _)).mono ?_
    rintro e w3 ⟨rfl, hw3⟩
    simp only [World.size_alloc]
    have c2 := cell_new_l ((w.alloc (.cells #[.slice (some ⟨bb, off, none⟩) f.length fc] 26)).alloc (.cells #[.bool false] 4)) (.slice (some ⟨bb, off, none⟩) f.length fc) 26
    have c3 := cell_new_l (((w.alloc (.cells #[.slice (some ⟨bb, off, none⟩) f.length fc] 26)).alloc (.cells #[.bool false] 4)).alloc (.cells #[.slice (some ⟨bb, off, none⟩) f.length fc] 26)) (.slice ka kl kc) 26
    have c2' := cell_alloc_l (.cells #[.slice ka kl kc] 26) c2.1
    have d0 := cell_alloc_l (.cells #[.slice ka kl kc] 26) (cell_alloc_l (.cells #[.slice (some ⟨bb, off, none⟩) f.length fc] 26) c0')
    have d1 := cell_alloc_l (.cells #[.slice ka kl kc] 26) (cell_alloc_l (.cells #[.slice (some ⟨bb, off, none⟩) f.length fc] 26) c1.1)
    have d1f := frozen_alloc_l (.cells #[.slice ka kl kc] 26) (cell_alloc_l (.cells #[.slice (some ⟨bb, off, none⟩) f.length fc] 26) c1.1) (frozen_alloc_l (.cells #[.slice (some ⟨bb, off, none⟩) f.length fc] 26) c1.1 c1.2)
    have hB4 : Below w.heap.size w ((((w.alloc (.cells #[.slice (some ⟨bb, off, none⟩) f.length fc] 26)).alloc (.cells #[.bool false] 4)).alloc (.cells #[.slice (some ⟨bb, off, none⟩) f.length fc] 26)).alloc (.cells #[.slice ka kl kc] 26)) := (hB2.alloc hB2.size _).alloc (hB2.alloc hB2.size _).size _
    simp only [World.size_alloc] at c2 c3 c2'
    have hz4 : w.heap.size + 4 = ((((w.alloc (.cells #[.slice (some ⟨bb, off, none⟩) f.length fc] 26)).alloc (.cells #[.bool false] 4)).alloc (.cells #[.slice (some ⟨bb, off, none⟩) f.length fc] 26)).alloc (.cells #[.slice ka kl kc] 26)).heap.size := by simp
    rw [← hw3] at c2' c3 d0 d1 d1f hB4 hz4
    clear hw3 c2 c1 c0 c0' hB2 hif
    have hfW := hf.below hB4 (Nat.le_refl _)
    have hkW := hk.below hB4 (Nat.le_refl _)
    have htW := ht.below hB4 (Nat.le_refl _)
    gi_wp2_with fail
    refine wpIn_rangeFunc_ownF rfl (by omega) (gf := 24) (lb := #[.pointer (some ⟨w.heap.size + 1 + 1, 0, none⟩), .pointer (some ⟨w.heap.size + 1 + 1 + 1, 0, none⟩)]) rfl trivial (enters_of Tryd.func24 (by kernel_rfl) rfl)
      (probes_stops 3 w.heap.size (by omega) w3 (some ⟨bb, off, none⟩) fc ka kl kc f key _ _ sz (cntF f) HSZ.out hfb hB HC.out hfW hkW htW c2' c3.1) belowK_t (belowK_b (by omega)) (Below.refl _ _) (fun _ => rfl)
      (fun (pre : List (Fin (8 * sz))) W => ((∀ y ∈ pre, bitB f y.1 = true) ∧ W.cell? ⟨w.heap.size, 0, none⟩ = some (.slice (some ⟨bb, off, none⟩) f.length fc) ∧ W.cell? ⟨w.heap.size + 1, 0, none⟩ = some (.bool false) ∧ W.frozen? ⟨w.heap.size + 1, 0, none⟩ = false) ∧ Below w.heap.size w W)
      (fun c (pre : List (Fin (8 * sz))) W => (c = .ret ∧ (∃ y ∈ pre, bitB f y.1 = false) ∧ W.cell? ⟨w.heap.size + 1, 0, none⟩ = some (.bool false)) ∧ Below w.heap.size w W)
      (OwnFrom.and (Own.from (fun s A B row hs hg hr => ⟨hs.1, cell_kept hs.2.1 hg hr, cell_kept hs.2.2.1 hg hr, (frozen_kept hs.2.2.1 hg hr).trans hs.2.2.2⟩) _) (ownFrom_below (Nat.le_refl _) (by omega)))
      (fun c => OwnFrom.and (Own.from (fun s A B row hs hg hr => ⟨hs.1, hs.2.1, cell_kept hs.2.2 hg hr⟩) _) (ownFrom_below (Nat.le_refl _) (by omega)))
      ⟨⟨by simp, d0, d1, d1f⟩, hB4⟩
      (fun (x : Fin (8 * sz)) => { tmps := #[.slice (some ⟨bb, off, none⟩) f.length fc, .slice ka kl kc, .pointer (some ⟨w.heap.size, 0, none⟩), undef, .pointer (some ⟨w.heap.size + 1, 0, none⟩), .int .u64 (x.1 : Int), .slice (some ⟨bb, off, none⟩) f.length fc, .bool true, .bool false, .slice (some ⟨bb, off, none⟩) f.length fc, .slice ka kl kc, .func (.func 24) #[] #[.pointer (some ⟨w.heap.size + 1 + 1, 0, none⟩), .pointer (some ⟨w.heap.size + 1 + 1 + 1, 0, none⟩)], .int .u64 (x.1 : Int), undef, undef, undef, undef, undef, undef, undef, undef, undef, undef], defers := [] }) ?assign ?body ?done ?stop
    case assign =>
      intro l x W K hK
      gi_wp2
      exact hK
    case body =>
      rintro l pre x W ⟨⟨hp, hcf, hcr, hfr⟩, hBW⟩ _
      have hx := x.2
      obtain ⟨xv, hxv⟩ : ∃ xv, x.1 = xv := ⟨_, rfl⟩
      have HX : Hid (x.1 = xv) := hxv
      rw [hxv] at hx
      rw [hxv]
      clear hxv
      have hrd := hf.below hBW (Nat.le_refl _)
      have hszl := HSZ.out
      have hqf : xv / 8 < f.length := by omega
      have hcb := (rd_cells hrd).2 (xv / 8) _ (bv_get f (xv / 8) hqf)
      rw [Addr.add_lit] at hcb
      have hbl := (f[xv / 8]).toNat_lt
      have HBIT : Hid (bitB f xv = ((f[xv / 8]).toNat / 2 ^ (xv % 8) % 2 == 1)) := by
        show _ = _
        unfold bitB
        rw [List.getD_eq_getElem?_getD, List.getElem?_eq_getElem hqf]
        rfl
      obtain ⟨y, hy⟩ : ∃ y, (f[xv / 8]).toNat = y := ⟨_, rfl⟩
      rw [hy] at hcb hbl HBIT
      have hq1 : IntKind.u64.wrap ((xv : Int) / 8) = ((xv / 8 : Nat) : Int) := by rw [IntKind.wrap_u64]; omega
      have hr1 : (xv : Int) % 8 = ((xv % 8 : Nat) : Int) := by omega
      have hr8 : xv % 8 < 8 := by omega
      obtain ⟨q, hq⟩ : ∃ q, xv / 8 = q := ⟨_, rfl⟩
      obtain ⟨r, hr⟩ : ∃ r, xv % 8 = r := ⟨_, rfl⟩
      rw [hq] at hcb hq1 hqf
      rw [hr] at hr1 hr8 HBIT
      have hqI : (q : Int) < (f.length : Int) := by omega
      clear hrd hszl hy hq hr
      have HAB : Hid ((bits BinOp.and IntKind.u8 (y : Int) ((2 : Int) ^ r % 256) == 0) = !(y / 2 ^ r % 2 == 1)) := and_bit y r hbl hr8
      gi_wp2_with fail
      · rename_i hbit
        rw [HAB.out] at hbit
        have hbt : bitB f xv = false := by rw [HBIT.out]; simpa using hbit
        exact ⟨KeepsOthers.setCell _ _ _, ⟨rfl, ⟨x, List.mem_append.2 (.inr (by simp)), by rw [HX.out]; exact hbt⟩, World.cell?_setCell_same' _ _ _ (by rw [hcr]; rfl)⟩, hBW.setCell (p := ⟨w.heap.size + 1, 0, none⟩) (by simp) _⟩
      · rename_i hbit
        rw [HAB.out] at hbit
        have hbt : bitB f xv = true := by rw [HBIT.out]; simpa using hbit
        exact ⟨KeepsOthers.refl _, Below.refl _ _, ⟨fun z hz => (List.mem_append.1 hz).elim (hp z) (fun e => by simp at e; subst e; rw [HX.out]; exact hbt), hcf, hcr, hfr⟩, hBW⟩
    case done =>
      rintro D ys W hD rfl ⟨⟨hall, _, hcr, hfr⟩, hBW⟩ hK
      have HAS : Hid (hasB f key = true) := by
        show _ = _
        unfold hasB
        rw [HIS.out, Bool.not_true, Bool.false_or, List.all_eq_true]
        intro i hi
        rw [show f.length - 1 = sz by have := HSZ.out; omega]
        exact hall ⟨atN key i % (8 * sz), Nat.mod_lt _ hB⟩ (List.mem_map.2 ⟨i, hi, rfl⟩)
      gi_wp2
      have hK' := (KeepsOthers.setCell W ⟨w.heap.size + 1, 0, none⟩ (.bool true)).same D _ hK rfl
      refine ⟨by simp, .inl ⟨_, _, rfl, run_takeDeferred hK', ?_⟩⟩
      have hc5 := cell_kept (World.cell?_setCell_same' W ⟨w.heap.size + 1, 0, none⟩ (.bool true) (by rw [hcr]; rfl)) (grownBy_putObj' _ D (.deferred none)) (fun r e => by cases e; exact ⟨_, hK', rfl⟩)
      refine ⟨.bool true, ?_, by rw [HAS.out], (hBW.setCell (p := ⟨w.heap.size + 1, 0, none⟩) (by simp) _).trans (belowK_b (w := w) (Nat.le_refl _) _ D _ _ (by omega) hK' rfl rfl)⟩
      simp [results, Tryd.f16, go_sem, hc5]
    case stop =>
      rintro D c pre W hD hpre ⟨⟨rfl, ⟨z, hz, hzb⟩, hcr⟩, hBW⟩ hK
      have HAS : Hid (hasB f key = false) := by
        show _ = _
        unfold hasB
        rw [HIS.out, Bool.not_true, Bool.false_or, List.all_eq_false]
        obtain ⟨i, hi, rfl⟩ := List.mem_map.1 (hpre.subset hz)
        refine ⟨i, hi, ?_⟩
        rw [show f.length - 1 = sz by have := HSZ.out; omega]
        rw [hzb]
        simp
      gi_wp2
      refine ⟨by simp, .inl ⟨_, _, rfl, run_takeDeferred hK, ?_⟩⟩
      have hc5 := cell_kept hcr (grownBy_putObj' _ D (.deferred none)) (fun r e => by cases e; exact ⟨_, hK, rfl⟩)
      refine ⟨.bool false, ?_, by rw [HAS.out], hBW.trans (belowK_b (w := w) (Nat.le_refl _) W D _ _ (by omega) hK rfl rfl)⟩
      simp [results, Tryd.f16, go_sem, hc5]
  · have hF2 : isF f = false := by simpa using hF
    have HAS : Hid (hasB f key = true) := by show _ = _; unfold hasB; rw [hF2]; rfl
    rw [hF2]
    have hct := (cell_new_l (w.alloc (.cells #[.slice fa f.length fc] 26)) (.bool true) 4).1
    simp only [World.size_alloc] at hct
    have HBT : Hid (Below w.heap.size w ((w.alloc (.cells #[.slice fa f.length fc] 26)).alloc (.cells #[.bool true] 4))) := ((Below.refl _ w).alloc (Nat.le_refl _) _).alloc (by simp) _
    gi_wp2
    refine ⟨.bool true, ?_, by rw [HAS.out], HBT.out⟩
    simp [results, Tryd.f16, go_sem, hct]

end Go.Proofs.YtlonomjepipjlaaDoor
