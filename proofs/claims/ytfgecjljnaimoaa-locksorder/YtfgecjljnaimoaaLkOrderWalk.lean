/- LocksOrder answers true. -/
import Derived.Test.YtfgecjljnaimoaaLkLine
import Derived.Test.YtfgecjljnaimoaaCut
namespace Go.Proofs.Ytfgecjljnaimoaa
set_option maxRecDepth 100000
open Go.RowKit Go.Maps
set_option linter.unusedVariables false
set_option linter.unusedSimpArgs false

set_option maxHeartbeats 1000000 in
theorem lorder (n K : Nat) (v : Value) (z key : List UInt8) (w : World) (hn : n < 256) (hK : 2 + n % 20 = K) (hkey : z.take 60 = key) (hz : Arg w v z) :
    Calls Try.prog 6 #[.int .u8 (n : Int), v] w fun e w' => e = .returned (.bool true) ∧ Below w.heap.size w w' := by
  obtain ⟨i0, hi, hz0, hz1, hz2⟩ := info_parts info5
  have hk60 : key.length ≤ 60 := by rw [← hkey]; exact List.length_take_le _ _
  have hK2 : 2 ≤ K ∧ K ≤ 21 := by omega
  have HZ : Hid (Arg w v z) := hz
  have HK0 : Hid (2 + n % 20 = K) := hK
  have HKEY : Hid (z.take 60 = key) := hkey
  obtain ⟨va, vc, ev⟩ : ∃ a c, v = .slice a z.length c := by
    rcases hz with ⟨rfl, rfl⟩ | ⟨a, cap, rfl, _⟩
    · exact ⟨_, _, rfl⟩
    · exact ⟨_, _, rfl⟩
  clear hz hK hkey
  subst ev
  go_enter Try.func6, Try.ntmps6
  have hw := lkawake_any w
  go_wp2_with fail
  refine hw.mono ?_
  rintro e w1 ⟨rfl, hb1⟩
  have HB1 : Hid (Below w.heap.size w w1) := hb1
  have hc := cut_any w1 _ z 60 (HZ.out.below hb1 (Nat.le_refl _)) (by decide)
  clear hw hb1
  go_wp2_with fail
  refine Calls.mono hc ?_
  rintro e w2 ⟨x, rfl, ox, hb2⟩
  rw [HKEY.out] at ox
  have HX : Hid (Rd w2 x key) := ox.rd
  have HB2 : Hid (Below w.heap.size w w2) := bsplit HB1.out hb2
  obtain ⟨gx, kx, ex⟩ := ox.shape
  subst ex
  clear hc ox hb2
  have hnw := lknew_any w2 100 100 (by decide) (by decide) (by decide) (by decide)
  go_wp2_with fail
  refine hnw.mono ?_
  rintro e w3 ⟨t, rfl, hp3, ht, hs3, hb3⟩
  have HB3 : Hid (Below w2.heap.size w2 w3) := hb3
  have HP3 : Hid (LkQ w2.heap.size w3 t 100 100 [] []) := ⟨by omega, _, hp3, fun b hb => by omega⟩
  clear hnw hp3 hb3 ht hs3
  go_wp2_with fail
  have e7 : 2 + (n : Int) % 20 = (K : Int) := by have := HK0.out; omega
  rw [e7]
  clear e7
  obtain ⟨M, hM⟩ : ∃ M, M + 1 = K := ⟨K - 1, by omega⟩
  go_loopg [8] K (fun gk iv wr => ∃ i : Nat, gk + i = K + 1 ∧ 1 ≤ i ∧ iv = .int .u64 (i : Int) ∧ Hid (Below w2.heap.size w2 wr ∧ ∃ gs qs j, j + 1 = i ∧ LkQ w2.heap.size wr t 100 100 gs qs ∧ StO key j gs qs))
  case atStart => exact ⟨1, by omega, by omega, rfl, HB3.out, _, _, 0, rfl, HP3.out, .inl ⟨rfl, rfl, rfl⟩⟩
  case round =>
    obtain ⟨i, hi8, hi1, rfl, HB⟩ := hrel
    by_cases hlt : i ≤ K
    · have q1 : gk - 1 < gk := by omega
      have q2 : gk - 1 + (i + 1) = K + 1 := by omega
      obtain ⟨gs, qs, j, hj, hq, hst⟩ := HB.out.2
      have hrk : Rd wr _ key := HX.out.below HB.out.1 (Nat.le_refl _)
      have HR : Hid (Rd wr (.slice (some ⟨gx, 0, none⟩) key.length kx) key ∧ LkQ w2.heap.size wr t 100 100 gs qs ∧ StO key j gs qs) := ⟨hrk, hq, hst⟩
      have hsz := HB.out.1.size
      have hcp := copy_any wr _ key hrk.arg (by omega)
      clear hrk hq hst
      by_cases h1 : i = 1
      · subst h1
        have hj0 : j = 0 := by omega
        subst hj0
        go_wp2_with fail
        refine hcp.mono ?_
        rintro e w5 ⟨xq, rfl, oq, hb5⟩
        obtain ⟨gq, kq, eq⟩ := oq.shape
        subst eq
        have hlit := lit_row w5 w5.heap.size (Nat.le_refl _) 0
        have hb0 : ((0 : UInt8).toNat : Int) = 0 := by decide
        rw [hb0] at hlit
        have hqa := oq.row.alloc (.cells #[.int .u8 0] 5)
        have hs5 := hb5.size
        clear hb0
        go_wp2_with (first | (at_builtin; refine wpList_append_own _ rfl (.tmp 35) (.tmp 36) 30 rfl wr.heap.size 5 i0 (.int .u8 0) 1 1 Try.underlying30 hi hz0 hz1 hz2 rfl (by decide) (.slice (some ⟨gq, 0, none⟩) key.length kq) key.length (bv key) rfl hqa ⟨w5.heap.size, 0, none⟩ 1 1 (bv [0]) rfl rfl (hlit.cells rfl) (bv_one _) (by simp only [maxLen]; omega) (by omega) (by simp; omega) ?_; intro v' w6 ho' hgr' hn'; obtain ⟨gv, kv, hvv, hk1, hk2, ov⟩ := app_shape ho' rfl rfl (fun e => by have := (hn'.1 e).1; cases this); subst hvv) | fail)
        have hbr6 : Below wr.heap.size wr w6 := (hb5.alloc hs5 (.cells #[.int .u8 0] 5)).grown hgr' (by simp; omega) (fun k' e => (hqa.lt k' e).1)
        have ha : Calls Try.prog 16 #[.pointer (some ⟨t, 0, none⟩), lkV 1 (.slice (some ⟨gx, 0, none⟩) key.length kx) (.slice (some ⟨gv, 0, none⟩) (key.length + 1) kv) 3, .int .u64 9] w6 _ := askq_any _ w6 t 100 100 gs qs 1 3 _ _ key (key ++ [0]) 9 (HR.out.2.1.below hbr6) (by have := sto_len HR.out.2.2; omega) (HR.out.1.below hbr6 (Nat.le_refl _)) ov.rd (by omega) (by decide)
        have HB6 : Hid (Below w2.heap.size w2 w6) := HB.out.1.trans (hbr6.mono hsz)
        clear hcp oq hb5 hlit hqa hs5 ho' hgr' hn' hk1 hk2 ov hbr6
        unfold lkV at ha
        go_wp2_with fail
        refine Calls.mono ha ?_
        rintro e w7 ⟨x', y', he, hb7, hq7⟩
        have hsa := sto_ask HR.out.2.2 ⟨1, key, key ++ [0], 3, .slice (some ⟨gx, 0, none⟩) key.length kx, .slice (some ⟨gv, 0, none⟩) (key.length + 1) kv⟩ ⟨1, key, key ++ [0], 3, x', y'⟩ 9 ⟨rfl, rfl, rfl, rfl⟩ ⟨rfl, rfl, rfl, rfl⟩ hk60 (by omega)
        have he' : e = .returned (.int .i64 0) := by rw [he, hsa.1, if_pos rfl]
        subst he'
        have HN : Hid (∀ n, Below w2.heap.size w2 (w7.drewN n) ∧ ∃ gs qs j, j + 1 = 1 + 1 ∧ LkQ w2.heap.size (w7.drewN n) t 100 100 gs qs ∧ StO key j gs qs) := fun n => ⟨below_drewN (HB6.out.trans hb7) n, _, _, 0 + 1, rfl, hq7.below (below_drewN (Below.refl _ _) n), hsa.2⟩
        clear ha he hb7 hq7 hsa
        go_wp2_with fail
        go_roundg (gk - 1)
        case measure => exact q1
        case rel => exact ⟨1 + 1, q2, by omega, by go_num, HN.out 0⟩
      · have h1' : ¬ (i : Int) = 1 := by omega
        go_wp2_with fail
        refine hcp.mono ?_
        rintro e w5 ⟨xq, rfl, oq, hb5⟩
        obtain ⟨gq, kq, eq⟩ := oq.shape
        subst eq
        have hlit := lit_row w5 w5.heap.size (Nat.le_refl _) 0
        have hb0 : ((0 : UInt8).toNat : Int) = 0 := by decide
        rw [hb0] at hlit
        have hqa := oq.row.alloc (.cells #[.int .u8 0] 5)
        have hs5 := hb5.size
        clear hb0
        go_wp2_with (first | (at_builtin; refine wpList_append_own _ rfl (.tmp 35) (.tmp 36) 30 rfl wr.heap.size 5 i0 (.int .u8 0) 1 1 Try.underlying30 hi hz0 hz1 hz2 rfl (by decide) (.slice (some ⟨gq, 0, none⟩) key.length kq) key.length (bv key) rfl hqa ⟨w5.heap.size, 0, none⟩ 1 1 (bv [0]) rfl rfl (hlit.cells rfl) (bv_one _) (by simp only [maxLen]; omega) (by omega) (by simp; omega) ?_; intro v' w6 ho' hgr' hn'; obtain ⟨gv, kv, hvv, hk1, hk2, ov⟩ := app_shape ho' rfl rfl (fun e => by have := (hn'.1 e).1; cases this); subst hvv) | fail)
        have hbr6 : Below wr.heap.size wr w6 := (hb5.alloc hs5 (.cells #[.int .u8 0] 5)).grown hgr' (by simp; omega) (fun k' e => (hqa.lt k' e).1)
        have ha : Calls Try.prog 16 #[.pointer (some ⟨t, 0, none⟩), lkV (i : Int) (.slice (some ⟨gx, 0, none⟩) key.length kx) (.slice (some ⟨gv, 0, none⟩) (key.length + 1) kv) 3, .int .u64 9] w6 _ := askq_any _ w6 t 100 100 gs qs i 3 _ _ key (key ++ [0]) 9 (HR.out.2.1.below hbr6) (by have := sto_len HR.out.2.2; omega) (HR.out.1.below hbr6 (Nat.le_refl _)) ov.rd (by omega) (by decide)
        have HB6 : Hid (Below w2.heap.size w2 w6) := HB.out.1.trans (hbr6.mono hsz)
        clear hcp oq hb5 hlit hqa hs5 ho' hgr' hn' hk1 hk2 ov hbr6
        unfold lkV at ha
        go_wp2_with fail
        refine Calls.mono ha ?_
        rintro e w7 ⟨x', y', he, hb7, hq7⟩
        have hsa := sto_ask HR.out.2.2 ⟨i, key, key ++ [0], 3, .slice (some ⟨gx, 0, none⟩) key.length kx, .slice (some ⟨gv, 0, none⟩) (key.length + 1) kv⟩ ⟨i, key, key ++ [0], 3, x', y'⟩ 9 ⟨hj.symm, rfl, rfl, rfl⟩ ⟨hj.symm, rfl, rfl, rfl⟩ hk60 (by omega)
        have he' : e = .returned (.int .i64 3) := by rw [he, hsa.1, if_neg (by omega)]
        subst he'
        have HN : Hid (∀ n, Below w2.heap.size w2 (w7.drewN n) ∧ ∃ gs qs j, j + 1 = i + 1 ∧ LkQ w2.heap.size (w7.drewN n) t 100 100 gs qs ∧ StO key j gs qs) := fun n => ⟨below_drewN (HB6.out.trans hb7) n, _, _, j + 1, by omega, hq7.below (below_drewN (Below.refl _ _) n), hsa.2⟩
        clear ha he hb7 hq7 hsa
        go_wp2_with fail
        go_roundg (gk - 1)
        case measure => exact q1
        case rel => exact ⟨i + 1, q2, by omega, by go_num, HN.out 0⟩
    · have hiK : i = K + 1 := by omega
      obtain ⟨gs, qs, j, hj, hq, hst⟩ := HB.out.2
      have hjK : j = K := by omega
      subst hjK
      have hst' : ∃ g, gs = [g] ∧ LkK key 1 g ∧ Line key 2 qs ∧ qs.length + 1 = j := by
        rcases hst with ⟨h0, _⟩ | h
        · omega
        · exact h
      obtain ⟨g, rfl, hg, hl, hql⟩ := hst'
      have HS : Hid (Below w2.heap.size w2 wr ∧ ∃ g qs, LkQ w2.heap.size wr t 100 100 [g] qs ∧ LkK key 1 g ∧ Line key (1 + 1) qs ∧ qs.length + 1 = j) := ⟨HB.out.1, g, qs, hq, hg, hl, hql⟩
      have hfin : ¬ (((j + 1 : Nat) : Int) ≤ (j : Int)) := by omega
      subst hiK
      clear hq hst hg hl hql HB HP3 hlt hi8 hj hi1
      go_wp2_with fail
      go_loopg [10] M (fun gk iv wr => ∃ i : Nat, gk + i = M + 1 ∧ 1 ≤ i ∧ iv = .int .u64 (i : Int) ∧ Hid (Below w2.heap.size w2 wr ∧ ∃ g qs, LkQ w2.heap.size wr t 100 100 [g] qs ∧ LkK key i g ∧ Line key (i + 1) qs ∧ qs.length + i = j))
      case atStart => exact ⟨1, by omega, by omega, rfl, HS.out⟩
      case round =>
        obtain ⟨i2, hi8, hi1, rfl, HB⟩ := hrel
        by_cases hlt : i2 < j
        · have q1 : gk - 1 < gk := by omega
          have q2 : gk - 1 + (i2 + 1) = M + 1 := by omega
          obtain ⟨g, qs, hq, hg, hl, hql⟩ := HB.out.2
          cases qs with
          | nil => simp at hql; omega
          | cons q qs =>
            have hr := relq_any _ wr t 100 100 [g] (q :: qs) i2 hq (by rw [List.length_cons] at hql ⊢; simp; omega)
            rw [rel_line hg hl] at hr
            have HL : Hid (Line key (i2 + 1) (q :: qs) ∧ qs.length + (i2 + 1) = j) := ⟨hl, by rw [List.length_cons] at hql; omega⟩
            clear hq hg hl hql
            go_wp2_with fail
            refine hr.mono ?_
            rintro e w5 ⟨v, rfl, hv, hb5, hq5⟩
            have hv' : RdU w5 v [i2 + 1] := by have h := hv; simp only [List.map_cons, List.map_nil, HL.out.1.1.1] at h; exact h
            obtain ⟨b, c, ev, _, c0⟩ := hv'.at 0 (by simp)
            simp only [List.length_cons, List.length_nil, Nat.zero_add, List.getElem_cons_zero] at ev c0
            subst ev
            have c0' : w5.cell? ⟨b, 0, none⟩ = some (.int .u64 ((i2 : Int) + 1)) := by rw [c0]; rfl
            have HN : Hid (∀ n, Below w2.heap.size w2 (w5.drewN n) ∧ ∃ g qs, LkQ w2.heap.size (w5.drewN n) t 100 100 [g] qs ∧ LkK key (i2 + 1) g ∧ Line key (i2 + 1 + 1) qs ∧ qs.length + (i2 + 1) = j) := fun n => ⟨below_drewN (HB.out.1.trans hb5) n, _, _, hq5.below (below_drewN (Below.refl _ _) n), HL.out.1.1, HL.out.1.2, HL.out.2⟩
            clear hr hv hb5 hq5 hv' c0
            go_wp2_with fail
            go_roundg (gk - 1)
            case measure => exact q1
            case rel => exact ⟨i2 + 1, q2, by omega, by go_num, HN.out 0⟩
        · have hij : i2 = j := by omega
          subst hij
          obtain ⟨g, qs, hq, hg, hl, hql⟩ := HB.out.2
          have hqn : qs = [] := List.eq_nil_of_length_eq_zero (by omega)
          subst hqn
          have HB5 : Hid (Below w2.heap.size w2 wr) := HB.out.1
          have hr := relq_any _ wr t 100 100 [g] [] i2 hq (by simp)
          rw [rel_last hg] at hr
          have hfin2 : ¬ ((i2 : Int) < (i2 : Int)) := by omega
          clear hq hg hl hql HB
          go_wp2_with fail
          refine hr.mono ?_
          rintro e w5 ⟨v, rfl, hv, hb5, hq5⟩
          obtain ⟨a5, c5, ev, _⟩ := row_slice9 hv
          subst ev
          obtain ⟨_, G, hp, _⟩ := hq5
          have hln := lklen_any G w5 t 100 100 [] [] hp
          have HF : Hid (Below w.heap.size w w5) := bsplit HB2.out (HB5.out.trans hb5)
          clear hr hv hb5 hp
          simp only [List.map_nil, List.length_nil]
          go_wp2_with fail
          refine hln.mono ?_
          rintro e w6 ⟨rfl, rfl⟩
          go_wp2
          go_ret
          exact ⟨rfl, HF.out⟩

theorem locksOrder_walk (n : Int) (a : Option Addr) (len cap : Nat) (zs : List Int) (w : World) (hn : (Lit.int .u8 n).wf = true) (hz : IsRow .u8 w a len cap zs) :
    Calls Try.prog 6 #[.int .u8 n, .slice a len cap] w fun e w' => e = .returned (.bool true) ∧ Below w.heap.size w w' := by
  have h1 : 0 ≤ n ∧ n < 256 := by have h := bounds_u8 hn; omega
  obtain ⟨m, rfl⟩ := Int.eq_ofNat_of_zero_le h1.1
  exact lorder m _ _ _ _ w (by omega) rfl rfl (arg_of hz)

end Go.Proofs.Ytfgecjljnaimoaa
