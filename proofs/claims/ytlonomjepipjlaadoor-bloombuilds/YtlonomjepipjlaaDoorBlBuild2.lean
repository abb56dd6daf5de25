/- bloom.Build. -/
import Derived.Test.YtlonomjepipjlaaDoorBlMarks
namespace Go.Proofs.YtlonomjepipjlaaDoor
open Go.RowKit Go.Shelf
set_option linter.unusedVariables false

attribute [local go_sem] Oper.semAt_some

/-- no panic comes out -/
def noPanic (Q : Exit → Act → World → Prop) : Exit → Act → World → Prop
  | .panic _, _, _ => False
  | e, a, w => Q e a w

theorem noPanic_imp {Q : Exit → Act → World → Prop} {e : Exit} {a : Act} {w : World} (h : noPanic Q e a w) : Q e a w := by
  cases e <;> first | exact h | exact h.elim

set_option maxRecDepth 100000 in
set_option maxHeartbeats 4000000 in
theorem build_any (w : World) (b : Int) (va : Option Addr) (vc : Nat) (keys : List (List UInt8)) (hn : keys.length ≤ 100) (hkl : ∀ k ∈ keys, k.length ≤ 1000) (hk : RdL w (.slice va keys.length vc) keys) (ht : Tab w) :
    Calls Tryd.prog 10 #[.int .i64 b, .slice va keys.length vc] w fun e w' => ∃ v, e = .returned v ∧ Own w.heap.size w' v (buildF b keys) ∧ Below w.heap.size w w' := by
  obtain ⟨i0, hi, hz0, hz1, hz2⟩ := info_parts info5
  have htk := taken_any w b
  have htb := takN_bd b
  have HSZ : Hid (sizN b keys.length = if (takN b * keys.length + 7) / 8 < 8 then 8 else (takN b * keys.length + 7) / 8) := rfl
  have hB := sizN_pos b keys.length
  have HF0 : ∀ sz (h : 0 < 8 * sz), sizN b keys.length = sz → buildF b keys = keys.foldl (addKey (prbN b) sz h) (List.replicate sz 0 ++ [UInt8.ofNat (prbN b)]) := by
    intro sz h e
    subst e
    rfl
  obtain ⟨RES, hRES⟩ : ∃ RES, buildF b keys = RES := ⟨_, rfl⟩
  rw [hRES] at HF0 ⊢
  have hpb := prbN_bd b
  have hprb : ∀ w', Calls Tryd.prog 12 #[.int .i64 b] w' fun e w'' => e = .returned (.int .i64 (prbN b : Int)) ∧ w'' = w' := fun w' => prb_any w' b
  obtain ⟨c, hc⟩ : ∃ c, prbN b = c := ⟨_, rfl⟩
  rw [hc] at HF0 hpb hprb
  obtain ⟨sz, hsz⟩ : ∃ sz, sizN b keys.length = sz := ⟨_, rfl⟩
  rw [hsz] at HSZ hB
  have HF : Hid (RES = keys.foldl (addKey c sz hB) (List.replicate sz 0 ++ [UInt8.ofNat c])) := HF0 sz hB hsz
  obtain ⟨t, htt⟩ : ∃ t, takN b = t := ⟨_, rfl⟩
  rw [htt] at htk htb HSZ
  have hml : t * keys.length ≤ 100 * 100 := Nat.mul_le_mul htb.2 hn
  have hmI : (t : Int) * (keys.length : Int) = ((t * keys.length : Nat) : Int) := by push_cast; rfl
  obtain ⟨m, hm⟩ : ∃ m, t * keys.length = m := ⟨_, rfl⟩
  rw [hm] at hmI hml HSZ
  have hmI2 : (m : Int) ≤ 10000 := by omega
  have hsI : (8 : Int) ≤ (sz : Int) := by have h := HSZ.out; split at h <;> omega
  have hsI2 : (sz : Int) ≤ 2000 := by have h := HSZ.out; split at h <;> omega
  have hmx : (if ((m : Int) + 7) / 8 < 8 then (8 : Int) else ((m : Int) + 7) / 8) = (sz : Int) := by have h := HSZ.out; split at h <;> split <;> omega
  obtain ⟨w1, hrun, r1, r2⟩ := run_make_full (P := Tryd.prog) w w.heap.size 26 5 i0 (.int .u8 0) 1 Tryd.underlying26 hi hz0 hz1 .i64 .i64 (sz + 1) (by rw [hz2]; omega) (by simp only [maxLen]; omega) (Nat.le_refl _)
  rw [show ((sz + 1 : Nat) : Int) = (sz : Int) + 1 by omega] at hrun
  rw [made_list] at r1
  have hB1 : Below w.heap.size w w1 := (Below.refl _ _).grown r2 (Nat.le_refl _) (fun k h => by cases h)
  have hw1s : w.heap.size < w1.heap.size := (r1.lt w.heap.size rfl).2
  have r1a := r1.alloc (.cells #[.slice (some ⟨w.heap.size, 0, none⟩) (sz + 1) (sz + 1)] 26)
  have hb1a : Below w.heap.size w (w1.alloc (.cells #[.slice (some ⟨w.heap.size, 0, none⟩) (sz + 1) (sz + 1)] 26)) := hB1.alloc hB1.size _
  have bx := cell_new_l w1 (.slice (some ⟨w.heap.size, 0, none⟩) (sz + 1) (sz + 1)) 26
  have hfz := r1a.frozenAt sz
  obtain ⟨u0, hc0⟩ := cell_owned r1a sz (by omega)
  have hwc : IntKind.u8.wrap (c : Int) = (c : Int) := by rw [IntKind.wrap_u8]; omega
  have hfo : Tryd.prog.follows .mixedOrders = true := by kernel_rfl
  obtain ⟨W2, hW2⟩ : ∃ W2, ((w1.setCell ⟨w.heap.size, sz, none⟩ (.int .u8 (c : Int))).alloc (.cells #[.slice (some ⟨w.heap.size, 0, none⟩) (sz + 1) (sz + 1)] 26)).drew = W2 := ⟨_, rfl⟩
  have hL0 : (List.replicate (sz + 1) (Value.int .u8 0)).set sz (.int .u8 (c : Int)) = bv (List.replicate sz 0 ++ [UInt8.ofNat c]) := by
    rw [List.replicate_succ', List.set_append_right _ _ (by simp)]
    simp [bv]
    omega
  have hs1 := r1.stored sz (.int .u8 (c : Int))
  rw [hL0] at hs1
  have O2 : W2.ownsRow w.heap.size 5 1 (.slice (some ⟨w.heap.size, 0, none⟩) (sz + 1) (sz + 1)) (sz + 1) (bv (List.replicate sz 0 ++ [UInt8.ofNat c])) := by rw [← hW2]; exact hs1.1.alloc _
  have hBs : Below w.heap.size w (w1.setCell ⟨w.heap.size, sz, none⟩ (.int .u8 (c : Int))) := hB1.setCell (p := ⟨w.heap.size, sz, none⟩) (Nat.le_refl _) _
  have B2 : Below w.heap.size w W2 := by rw [← hW2]; exact (hBs.alloc hBs.size _).drew
  have bx2 : W2.cell? ⟨w1.heap.size, 0, none⟩ = some (.slice (some ⟨w.heap.size, 0, none⟩) (sz + 1) (sz + 1)) := by
    have h := (cell_new_l (w1.setCell ⟨w.heap.size, sz, none⟩ (.int .u8 (c : Int))) (.slice (some ⟨w.heap.size, 0, none⟩) (sz + 1) (sz + 1)) 26).1
    rw [World.size_setCell] at h
    rw [← hW2]
    exact h
  have HW2 : Hid (((w1.setCell ⟨w.heap.size, sz, none⟩ (.int .u8 (c : Int))).alloc (.cells #[.slice (some ⟨w.heap.size, 0, none⟩) (sz + 1) (sz + 1)] 26)).drew = W2) := hW2
  have HO2 : Hid (W2.ownsRow w.heap.size 5 1 (.slice (some ⟨w.heap.size, 0, none⟩) (sz + 1) (sz + 1)) (sz + 1) (bv (List.replicate sz 0 ++ [UInt8.ofNat c]))) := O2
  have HB2 : Hid (Below w.heap.size w W2) := B2
  have HX2 : Hid (W2.cell? ⟨w1.heap.size, 0, none⟩ = some (.slice (some ⟨w.heap.size, 0, none⟩) (sz + 1) (sz + 1))) := bx2
  clear htt hm hRES HF0 hsz hc hW2 hL0 hs1 O2 hBs B2 bx2
  refine (callsIn_wide (n := 5)).1 ?_
  refine callsIn_of_wp_marks Tryd.func10 rfl trivial ?_ rfl
  refine Code.wpIn_mono (fun e a w q => noPanic_imp q) ?_
  simp only [Tryd.ntmps10, List.size_toArray, List.length_cons, List.length_nil, Nat.reduceAdd, Nat.reduceSub, Array.replicate_succ, Array.replicate_zero, List.push_toArray, List.append_toArray, List.nil_append, List.cons_append]
  gi_wp2_with fail
  refine ⟨trivial, ?_⟩
  refine (callsIn_wide.2 htk).mono ?_
  rintro e w2 ⟨rfl, hw2⟩
  subst w2
  gi_wp2_with fail
  gi_region_with_o (refine ⟨trivial, ?_⟩; gi_at_call 12; refine (callsIn_wide.2 (hprb _)).mono ?_; rintro e w3 ⟨rfl, hw3⟩; subst hw3)
  all_goals rw [HW2.out]
  all_goals clear hrun hmx htk r1 r2 r1a hb1a bx hfz hc0 hB1 hprb
  all_goals gi_wp2_with fail
  all_goals
    refine wpIn_loop (fun a W => ∃ (j : Nat) (ds : List Deferred) (L : List UInt8) (u8 u9 u30 u31 u32 u33 u34 u35 u36 u37 u38 u39 u40 u41 u42 u43 u44 u45 u46 u47 : Value), j ≤ keys.length ∧ a = { tmps := #[.int .i64 b, .slice va keys.length vc, undef, undef, .slice none 0 0, .int .i64 (sz : Int), .pointer (some ⟨w1.heap.size, 0, none⟩), undef, u8, u9, .int .i64 b, .int .i64 (t : Int), .slice va keys.length vc, .int .i64 (keys.length : Int), .int .i64 (m : Int), .int .i64 ((m : Int) + 7), .int .i64 (((m : Int) + 7) / 8), .int .i64 (sz : Int), .int .i64 (sz : Int), .int .i64 ((sz : Int) + 1), .slice (some ⟨w.heap.size, 0, none⟩) (sz + 1) (sz + 1), .slice (some ⟨w.heap.size, 0, none⟩) (sz + 1) (sz + 1), .int .i64 (sz : Int), .int .i64 b, .int .i64 (c : Int), .int .u8 (c : Int), .pointer (some ⟨w.heap.size, sz, none⟩), .slice va keys.length vc, .int .i64 (keys.length : Int), .int .i64 (j : Int), u30, u31, u32, u33, u34, u35, u36, u37, u38, u39, u40, u41, u42, u43, u44, u45, u46, u47, undef], defers := ds } ∧ Marks w.heap.size W.heap.size W ds ∧ W.ownsRow w.heap.size 5 1 (.slice (some ⟨w.heap.size, 0, none⟩) (sz + 1) (sz + 1)) (sz + 1) (bv L) ∧ L.length = sz + 1 ∧ L.getD sz 0 = UInt8.ofNat c ∧ L = (keys.take j).foldl (addKey c sz hB) (List.replicate sz 0 ++ [UInt8.ofNat c]) ∧ W.cell? ⟨w1.heap.size, 0, none⟩ = some (.slice (some ⟨w.heap.size, 0, none⟩) (sz + 1) (sz + 1)) ∧ Below w.heap.size w W) (fun a _ => keys.length - (intOf (a.tmps.getD 29 undef)).toNat) ?_ ?_
    · exact ⟨0, [], _, undef, undef, undef, undef, undef, undef, undef, undef, undef, undef, undef, undef, undef, undef, undef, undef, undef, undef, undef, undef, Nat.zero_le _, rfl, trivial, HO2.out, by simp, by simp, by simp, HX2.out, HB2.out⟩
    · rintro a W ⟨j, ds, L, u8, u9, u30, u31, u32, u33, u34, u35, u36, u37, u38, u39, u40, u41, u42, u43, u44, u45, u46, u47, hj, rfl, hM, hO, hLl, hLc, hLe, hX, hBW⟩
      have HM : Hid (Marks w.heap.size W.heap.size W ds) := hM
      have HO : Hid (W.ownsRow w.heap.size 5 1 (.slice (some ⟨w.heap.size, 0, none⟩) (sz + 1) (sz + 1)) (sz + 1) (bv L)) := hO
      have HLE : Hid (L.length = sz + 1 ∧ L.getD sz 0 = UInt8.ofNat c ∧ L = (keys.take j).foldl (addKey c sz hB) (List.replicate sz 0 ++ [UInt8.ofNat c])) := ⟨hLl, hLc, hLe⟩
      have HBW : Hid (Below w.heap.size w W) := hBW
      clear hM hO hLl hLc hLe hBW
      by_cases hlt : j < keys.length
      · have hjI : (j : Int) < (keys.length : Int) := by omega
        rcases hk with ⟨e, rfl⟩ | ⟨kb, koff, kcap, e, k1, k2, k3⟩
        · simp at hlt
        · simp only [Value.slice.injEq] at e
          obtain ⟨rfl, _, rfl⟩ := e
          obtain ⟨ku, hcu, hru⟩ := k3 j hlt
          obtain ⟨K, hK⟩ : ∃ K, keys[j] = K := ⟨_, rfl⟩
          rw [hK] at hru
          obtain ⟨ka, kc, rfl⟩ := hru.len
          have HKK : Hid (keys[j] = K) := hK
          have hcuW : W.cell? ⟨kb, koff + j, none⟩ = some (.slice ka K.length kc) := by rw [HBW.out.cell (p := ⟨kb, koff + j, none⟩) (World.block_lt_of_cell? w _ hcu)]; exact hcu
          have HRU : Hid (Rd w (.slice ka K.length kc) K) := hru
          clear k3 hcu hru hK
          gi_wp2_with fail
          refine ⟨trivial, ?_⟩
          refine (callsIn_wide.2 (probes_any _ _ _ _ _ _ _)).mono ?_
          rintro e W3 ⟨rfl, hW3⟩
          have c2 := cell_new_l W (.slice (some ⟨w.heap.size, 0, none⟩) (sz + 1) (sz + 1)) 26
          have c3 := cell_new_l (W.alloc (.cells #[.slice (some ⟨w.heap.size, 0, none⟩) (sz + 1) (sz + 1)] 26)) (.slice ka K.length kc) 26
          rw [World.size_alloc] at c3
          have c2' := cell_alloc_l (.cells #[.slice ka K.length kc] 26) c2.1
          have hX3 := cell_alloc_l (.cells #[.slice ka K.length kc] 26) (cell_alloc_l (.cells #[.slice (some ⟨w.heap.size, 0, none⟩) (sz + 1) (sz + 1)] 26) hX)
          have hO3 := (HO.out.alloc (.cells #[.slice (some ⟨w.heap.size, 0, none⟩) (sz + 1) (sz + 1)] 26)).alloc (.cells #[.slice ka K.length kc] 26)
          have hB3 := (HBW.out.alloc HBW.out.size (.cells #[.slice (some ⟨w.heap.size, 0, none⟩) (sz + 1) (sz + 1)] 26)).alloc (HBW.out.alloc HBW.out.size (.cells #[.slice (some ⟨w.heap.size, 0, none⟩) (sz + 1) (sz + 1)] 26)).size (.cells #[.slice ka K.length kc] 26)
          have hM3 := HM.out.keeps ((KeepsOthers.alloc W (.cells #[.slice (some ⟨w.heap.size, 0, none⟩) (sz + 1) (sz + 1)] 26)).trans (KeepsOthers.alloc _ (.cells #[.slice ka K.length kc] 26)))
          have hz3 : ((W.alloc (.cells #[.slice (some ⟨w.heap.size, 0, none⟩) (sz + 1) (sz + 1)] 26)).alloc (.cells #[.slice ka K.length kc] 26)).heap.size = W.heap.size + 2 := by simp
          rw [← hW3] at c2' c3 hX3 hO3 hB3 hM3 hz3
          clear hW3 c2
          have hWw : w.heap.size ≤ W.heap.size := HBW.out.size
          have hOlt : w.heap.size < W.heap.size := (HO.out.lt w.heap.size rfl).2
          have hrf : Rd W3 (.slice (some ⟨w.heap.size, 0, none⟩) (sz + 1) (sz + 1)) L := by
            have h := (Own.of_row (l := L) (by rw [HLE.out.1]; exact hO3) (by simp)).rd
            exact h
          have hcnt : ∀ h : sz < L.length, (L[sz]).toNat = c := by
            intro h
            have h2 := HLE.out.2.1
            rw [List.getD_eq_getElem?_getD, List.getElem?_eq_getElem h] at h2
            simp only [Option.getD_some] at h2
            rw [h2]
            simp
            omega
          have hlen := HLE.out.1
          have hps := probes_stops 4 w.heap.size (by omega) W3 (some ⟨w.heap.size, 0, none⟩) (sz + 1) ka K.length kc L K W.heap.size (W.heap.size + 1) sz c hlen (by omega) hB hcnt (by rw [hlen]; exact hrf) (HRU.out.below hB3 (Nat.le_refl _)) (ht.below hB3 (Nat.le_refl _)) (by rw [hlen]; exact c2') c3.1
          clear hrf hcnt
          gi_wp2_with fail
          refine wpIn_rangeFunc_ownF rfl (by omega) (gf := 24) (lb := #[.pointer (some ⟨W.heap.size, 0, none⟩), .pointer (some ⟨W.heap.size + 1, 0, none⟩)]) rfl trivial (enters_of Tryd.func24 (by kernel_rfl) rfl)
            hps belowK_t (belowK_b (by omega)) (Below.refl _ _) (fun _ => rfl)
            (fun (pre : List (Fin (8 * sz))) X => (X.cell? ⟨w1.heap.size, 0, none⟩ = some (.slice (some ⟨w.heap.size, 0, none⟩) (sz + 1) (sz + 1)) ∧ X.ownsRow w.heap.size 5 1 (.slice (some ⟨w.heap.size, 0, none⟩) (sz + 1) (sz + 1)) (sz + 1) (bv (setAll L pre)) ∧ Marks w.heap.size W.heap.size X ds) ∧ Below w.heap.size w X)
            (fun _ _ _ => False)
            (fun s A A' row hs hg hr => ⟨⟨cell_kept hs.1.1 hg (fun r e => (hr r e).2), hs.1.2.1.kept hg (.inr (by intro e; have := (hr w.heap.size e.symm).1; omega)), hs.1.2.2.to (Nat.le_refl _) (fun D h1 h2 h3 => by rw [hg.block D (Array.getElem?_eq_some_iff.1 h3).1 (by intro e; have := (hr D e.symm).1; omega)]; exact h3)⟩, hs.2.grown hg hs.2.size (fun r e => by have := (hr r e).1; omega)⟩)
            (fun _ _ _ _ _ hs _ _ => hs)
            ⟨⟨hX3, hO3, hM3⟩, hB3⟩
            (fun (x : Fin (8 * sz)) => { tmps := #[.int .i64 b, .slice (some ⟨kb, koff, none⟩) keys.length vc, undef, undef, .slice none 0 0, .int .i64 (sz : Int), .pointer (some ⟨w1.heap.size, 0, none⟩), undef, .slice ka K.length kc, .int .u64 (x.1 : Int), .int .i64 b, .int .i64 (t : Int), .slice (some ⟨kb, koff, none⟩) keys.length vc, .int .i64 (keys.length : Int), .int .i64 (m : Int), .int .i64 ((m : Int) + 7), .int .i64 (((m : Int) + 7) / 8), .int .i64 (sz : Int), .int .i64 (sz : Int), .int .i64 ((sz : Int) + 1), .slice (some ⟨w.heap.size, 0, none⟩) (sz + 1) (sz + 1), .slice (some ⟨w.heap.size, 0, none⟩) (sz + 1) (sz + 1), .int .i64 (sz : Int), .int .i64 b, .int .i64 (c : Int), .int .u8 (c : Int), .pointer (some ⟨w.heap.size, sz, none⟩), .slice (some ⟨kb, koff, none⟩) keys.length vc, .int .i64 (keys.length : Int), .int .i64 (j : Int), .bool true, .pointer (some ⟨kb, koff + j, none⟩), .slice ka K.length kc, .slice (some ⟨w.heap.size, 0, none⟩) (sz + 1) (sz + 1), .slice ka K.length kc, Value.func (.func 24) #[] #[.pointer (some ⟨W.heap.size, 0, none⟩), .pointer (some ⟨W.heap.size + 1, 0, none⟩)], .int .u64 (x.1 : Int), u37, u38, u39, u40, u41, u42, u43, u44, u45, u46, u47, undef], defers := [] }) ?_ ?_ ?_ ?_
          · intro l x X K' hK'
            gi_wp2
            exact hK'
          · rintro l pre x X ⟨⟨hXX, hOX, hMX⟩, hBX⟩ _
            have hx := x.2
            obtain ⟨xv, hxv⟩ : ∃ xv, x.1 = xv := ⟨_, rfl⟩
            have HXV : Hid (x.1 = xv) := hxv
            rw [hxv] at hx
            rw [hxv]
            have HN : Hid (setAll L (pre ++ [x]) = setBit (setAll L pre) xv) := by show _ = _; rw [setAll_snoc, hxv]
            have hMl : (setAll L pre).length = sz + 1 := by rw [setAll_len, hlen]
            obtain ⟨M, hM⟩ : ∃ M, setAll L pre = M := ⟨_, rfl⟩
            rw [hM] at HN hMl hOX
            have hqf : xv / 8 < M.length := by omega
            have hcb := hOX.cells (g := w.heap.size) rfl (xv / 8) _ (bv_get M (xv / 8) hqf)
            rw [Addr.add_lit] at hcb
            have hfr := hOX.frozenAt (xv / 8)
            have hbl := (M[xv / 8]).toNat_lt
            have hr8 : xv % 8 < 8 := by omega
            have hob := or_bit (M[xv / 8]).toNat (xv % 8) hbl hr8
            have HST : Hid ((bv M).set (xv / 8) (.int .u8 (((UInt8.ofNat ((M[xv / 8]).toNat ||| 2 ^ (xv % 8))).toNat : Nat) : Int)) = bv (setBit M xv)) := by
              show _ = _
              unfold setBit
              rw [bv_set, List.getD_eq_getElem?_getD, List.getElem?_eq_getElem hqf]
              rfl
            obtain ⟨z, hz⟩ : ∃ z, (UInt8.ofNat ((M[xv / 8]).toNat ||| 2 ^ (xv % 8))).toNat = z := ⟨_, rfl⟩
            rw [hz] at hob HST
            have hzl : z < 256 := by rw [← hz]; exact UInt8.toNat_lt _
            obtain ⟨y, hy⟩ : ∃ y, (M[xv / 8]).toNat = y := ⟨_, rfl⟩
            rw [hy] at hcb hbl hob
            have hq1 : IntKind.u64.wrap ((xv : Int) / 8) = ((xv / 8 : Nat) : Int) := by rw [IntKind.wrap_u64]; omega
            have hr1 : (xv : Int) % 8 = ((xv % 8 : Nat) : Int) := by omega
            have hst := (hOX.stored (xv / 8) (.int .u8 (z : Int))).1
            rw [HST.out] at hst
            have HSTR : Hid ((X.setCell ⟨w.heap.size, xv / 8, none⟩ (.int .u8 (z : Int))).ownsRow w.heap.size 5 1 (.slice (some ⟨w.heap.size, 0, none⟩) (sz + 1) (sz + 1)) (sz + 1) (bv (setBit M xv))) := hst
            obtain ⟨q, hq⟩ : ∃ q, xv / 8 = q := ⟨_, rfl⟩
            obtain ⟨r, hr⟩ : ∃ r, xv % 8 = r := ⟨_, rfl⟩
            rw [hq] at hcb hq1 hqf hfr HSTR
            rw [hr] at hr1 hr8 hob
            have hqI : (q : Int) < (sz : Int) + 1 := by omega
            have hcb' : X.cell? ⟨w.heap.size, q, none⟩ = some (.int .u8 (y : Int)) := by simpa using hcb
            have HMX : Hid (Marks w.heap.size W.heap.size X ds) := hMX
            have HBX : Hid (Below w.heap.size w X) := hBX
            clear hcb hst hz hy hq hr hxv hOX HST hM hMX hBX
            gi_wp2_with fail
            exact ⟨KeepsOthers.setCell _ _ _, (Below.refl w.heap.size X).setCell (p := ⟨w.heap.size, q, none⟩) (Nat.le_refl _) _, ⟨by rw [cell_els (show w1.heap.size ≠ w.heap.size by omega)]; exact hXX, by rw [HN.out]; exact HSTR.out, HMX.out.keeps (KeepsOthers.setCell _ _ _)⟩, HBX.out.setCell (p := ⟨w.heap.size, q, none⟩) (Nat.le_refl _) _⟩
          · rintro D ys X hD rfl ⟨⟨hXX, hOX, hMX⟩, hBX⟩ hK9
            have HMP : Hid (Marks w.heap.size X.heap.size X ({ target := .collected D, args := #[] } :: ds)) := hMX.push (by omega) (Array.getElem?_eq_some_iff.1 hK9).1 (by omega) hK9
            have HOX : Hid (X.ownsRow w.heap.size 5 1 (.slice (some ⟨w.heap.size, 0, none⟩) (sz + 1) (sz + 1)) (sz + 1) (bv (setAll L (probesN K c (8 * sz) hB)))) := hOX
            have HLN : Hid ((setAll L (probesN K c (8 * sz) hB)).length = sz + 1 ∧ (setAll L (probesN K c (8 * sz) hB)).getD sz 0 = UInt8.ofNat c ∧ setAll L (probesN K c (8 * sz) hB) = (keys.take (j + 1)).foldl (addKey c sz hB) (List.replicate sz 0 ++ [UInt8.ofNat c])) := by
              refine ⟨by rw [setAll_len, hlen], by rw [setAll_last _ _ hlen]; exact HLE.out.2.1, ?_⟩
              rw [List.take_succ_eq_append_getElem hlt, List.foldl_append, ← HLE.out.2.2, HKK.out]
              rfl
            have HBX : Hid (Below w.heap.size w X) := hBX
            clear hMX hOX hBX
            gi_wp2
            refine ⟨⟨j + 1, _ :: ds, _, _, _, _, _, _, _, _, _, _, _, _, _, _, _, _, _, _, _, _, _, by omega, rfl, HMP.out, HOX.out, HLN.out.1, HLN.out.2.1, HLN.out.2.2, hXX, HBX.out⟩, ?_⟩
            simp [intOf]
            omega
          · rintro D c' pre X _ _ h _
            exact h.elim
      · have hjI : ¬ (j : Int) < (keys.length : Int) := by omega
        have HFIN : Hid (L = RES) := by
          show _ = _
          rw [HLE.out.2.2, List.take_of_length_le (by omega), ← HF.out]
        gi_wp2
        refine leave_marks (lo := w.heap.size) (hi := W.heap.size) (fun X => X.ownsRow w.heap.size 5 1 (.slice (some ⟨w.heap.size, 0, none⟩) (sz + 1) (sz + 1)) (sz + 1) (bv L) ∧ Below w.heap.size w X)
          (fun X D hX hD hK => ⟨ownsRow_putObj hX.1 _ hK rfl, hX.2.trans (belowK_b (w := w) (Nat.le_refl _) X D _ _ hD hK rfl rfl)⟩)
          (fun X hX => ⟨_, results_tmp rfl _ _ _, _, rfl, ?_, hX.2⟩) ds W HM.out ⟨HO.out, HBW.out⟩
        rw [← HFIN.out]
        exact Own.of_row (by rw [HLE.out.1]; exact hX.1) (by simp)

end Go.Proofs.YtlonomjepipjlaaDoor
