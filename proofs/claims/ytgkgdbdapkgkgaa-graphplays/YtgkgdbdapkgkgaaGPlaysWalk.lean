/- GraphPlays answers true. -/
import Derived.Test.YtgkgdbdapkgkgaaGPlaysP
import Derived.Test.YtgkgdbdapkgkgaaGrRunN
namespace Go.Proofs.Ytgkgdbdapkgkgaa
set_option maxRecDepth 100000
open Go.RowKit Go.Maps
set_option linter.unusedVariables false
set_option linter.unusedSimpArgs false

set_option maxHeartbeats 4000000 in
theorem graphPlays_walk (a1 : Option Addr) (len1 cap1 : Nat) (os : List GOp) (w : World) (ha : ArgGO w (.slice a1 len1 cap1) os) :
    Calls Try.prog 3 #[.slice a1 len1 cap1] w fun e w' => e = .returned (.bool true) ∧ Below w.heap.size w w' := by
  have haw := awake_any w
  have HA : Hid (ArgGO w (.slice a1 len1 cap1) os) := ha
  clear ha
  go_enter Try.func3, Try.ntmps3
  go_wp2_with fail
  refine haw.mono ?_
  rintro e1 w1 ⟨rfl, hb1⟩
  have hnw := grnew_any w1
  have HB1 : Hid (Below w.heap.size w w1) := hb1
  clear haw hb1
  go_wp2_with fail
  refine hnw.mono ?_
  rintro e2 w2 ⟨g, rfl, hg2, hb2⟩
  have hrn := run_any w1.heap.size w1 w2 g (.slice a1 len1 cap1) os rfl (HA.out.below HB1.out (Nat.le_refl _)) hb2 hg2
  have HB2 : Hid (Below w.heap.size w w2 ∧ w.heap.size ≤ w1.heap.size) := ⟨bsplit HB1.out hb2, HB1.out.size⟩
  clear hnw hg2 hb2
  go_wp2_with fail
  refine hrn.mono ?_
  rintro e3 w3 ⟨v3, ls, e, nn, rfl, ho3, hgl, hg3, hnn, hll, hnk, hb3⟩
  obtain ⟨la, lc, elv, _⟩ := row_slice9 ho3
  obtain ⟨LL, hLL⟩ : ∃ LL, ls.length = LL := ⟨_, rfl⟩
  rw [hLL] at elv
  subst elv
  have HLL : Hid (ls.length = LL) := hLL
  have HG : Hid (OwnK w2.heap.size w3 (.slice la LL lc) ls ∧ GL e ls ∧ GrQ w1.heap.size w3 g nn e ∧ nn ≤ 200 ∧ ls.length ≤ 100 ∧ NumK ls ∧ Below w.heap.size w w3) := ⟨ho3, hgl, hg3, hnn, hll, hnk, HB2.out.1.trans (hb3.mono HB2.out.2)⟩
  clear hrn ho3 hgl hg3 hnn hll hnk hb3 hLL
  have hrn2 := runN_any w3.heap.size w3 w3 g (.slice a1 len1 cap1) os rfl (HA.out.below HG.out.2.2.2.2.2.2 (Nat.le_refl _)) (Below.refl _ _) HG.out.2.2.1.old
  go_wp2_with fail
  refine hrn2.mono ?_
  rintro e3b w3b ⟨v3b, ls3b, e3c, n3b, rfl, ho3b, _, _, _, _, _, hb3b⟩
  have HB3 : Hid (Below w3.heap.size w3 w3b) := hb3b
  have hnd := nodes_any w3b _ ls (row_below HG.out.1.rd hb3b) (by have := HG.out.2.2.2.2.1; omega)
  clear hrn2 ho3b hb3b
  go_wp2_with fail
  refine hnd.mono ?_
  rintro e4 w4 ⟨v4, rfl, ho4, hb4⟩
  obtain ⟨na, nc, env, _⟩ := row_slice9 ho4
  obtain ⟨K, hK⟩ : ∃ K, (ndK ls ++ [77]).length = K := ⟨_, rfl⟩
  rw [hK] at env
  subst env
  have H4 : Hid (OwnU w3b.heap.size w4 (.slice (na) K nc) (ndK ls ++ [77]) ∧ Below w3.heap.size w3 w4 ∧ (ndK ls ++ [77]).length = K ∧ K < 1000000) := by
    refine ⟨ho4, bsplit HB3.out hb4, hK, ?_⟩
    rw [← hK, List.length_append, ndK_len]
    have := HG.out.2.2.2.2.1
    simp
    omega
  have yK : K < 1152921504606846976 := by have := H4.out.2.2.2; omega
  have yLL : LL < 1152921504606846976 := by have := HLL.out; have := HG.out.2.2.2.2.1; omega
  clear hnd ho4 hb4 hK
  go_wp2_with fail
  go_loopg [6, 31] K (fun gk fv iv wr => ∃ (j : Nat) (fb : Bool), gk + j = K ∧ iv = .int .i64 (j : Int) ∧ fv = .bool fb ∧ Hid ((fb = true ↔ ∀ q, q < j → ∀ s, (ndK ls ++ [77])[q]? = some s → ∀ n, ¬ Go.Proofs.Ytgkgdbdapkgkgaa.Reach e s n s) ∧ Below w4.heap.size w4 wr))
  case atStart => exact ⟨0, true, by omega, rfl, rfl, by simp, Below.refl _ _⟩
  case round =>
    obtain ⟨j, fb, hj, rfl, rfl, HB⟩ := hrel
    by_cases hlt : j < K
    · have hlt2 : j < (ndK ls ++ [77]).length := by rw [H4.out.2.2.1]; exact hlt
      obtain ⟨tb, tc, e9, _, t0⟩ := RdU.at (row_below H4.out.1.rd HB.out.2) j hlt2
      rw [H4.out.2.2.1] at e9
      cases e9
      obtain ⟨q1, q2⟩ := gk_nxt hj hlt
      obtain ⟨s, hs⟩ : ∃ s, (ndK ls ++ [77])[j] = s := ⟨_, rfl⟩
      have hsn : s < 18446744073709551616 := by
        have hm : s ∈ ndK ls ++ [77] := by rw [← hs]; exact List.getElem_mem hlt2
        rcases List.mem_append.1 hm with h | h
        · unfold ndK at h
          obtain ⟨l, hl, h9⟩ := List.mem_flatMap.1 h
          have := HG.out.2.2.2.2.2.1 l hl
          simp at h9
          rcases h9 with h9 | h9 <;> omega
        · simp at h; omega
      rw [hs] at t0
      have hex : ∃ o : Nat → List Nat, ∀ k, Rise (e k) (o k) := ⟨fun k => Classical.choose (rise_ex (e k)), fun k => Classical.choose_spec (rise_ex (e k))⟩
      obtain ⟨o, ho⟩ := hex
      have hol : ∀ a b, b ∈ o a ↔ (a, b) ∈ ls := fun a b => by rw [(ho a).1.2, HG.out.2.1 a b]
      have hop : ∀ k, (o k).Pairwise (· < ·) := fun k => rise_lt (ho k)
      have hoU : ∀ x, ∀ y ∈ o x, y ∈ ls.map (·.2) := fun x y hy => List.mem_map.2 ⟨_, (hol x y).1 hy, rfl⟩
      obtain ⟨C, hC⟩ := cycR_ex (s := s) hoU
      have hCl : C.length ≤ 1000 := by
        rcases cycS_of HG.out.2.1 hol hop hC with ⟨h9, _⟩ | ⟨c, m, h9, hm, _⟩
        · rw [h9]; simp
        · rw [h9]; simp; have := HG.out.2.2.2.2.1; omega
      have hUn : ∀ x ∈ ls.map (·.2), x < 18446744073709551616 := fun x hx => by obtain ⟨l, hl, rfl⟩ := List.mem_map.1 hx; exact (HG.out.2.2.2.2.2.1 l hl).2
      have hUl : (ls.map (·.2)).length ≤ 10000 := by rw [List.length_map]; have := HG.out.2.2.2.2.1; omega
      have hnn : nn ≤ 100000 := by have := HG.out.2.2.2.1; omega
      have hgr : GrQ w1.heap.size wr g nn e := (HG.out.2.2.1.below H4.out.2.1).below HB.out.2
      have hcy := cycle_any w1.heap.size wr g nn s e o (ls.map (·.2)) hgr ho hoU hUn hsn hUl hnn
      have HO : Hid ((∀ a b, b ∈ o a ↔ (a, b) ∈ ls) ∧ (∀ x, ∀ y ∈ o x, y ∈ ls.map (·.2)) ∧ s < 18446744073709551616 ∧ (∀ k, Rise (e k) (o k)) ∧ (∀ k, (o k).Pairwise (· < ·)) ∧ CycR o s (ls.map (·.2)) C ∧ GrQ w1.heap.size wr g nn e ∧ (∀ x ∈ ls.map (·.2), x < 18446744073709551616) ∧ (ls.map (·.2)).length ≤ 10000 ∧ nn ≤ 100000) := ⟨hol, hoU, hsn, ho, hop, hC, hgr, hUn, hUl, hnn⟩
      have HK : Hid (RdK wr (.slice la LL lc) ls ∧ (ndK ls ++ [77])[j]? = some s ∧ gk - 1 < gk ∧ gk - 1 + (j + 1) = K) := ⟨row_below (row_below HG.out.1.rd H4.out.2.1) HB.out.2, by rw [List.getElem?_eq_getElem hlt2, hs], q1, q2⟩
      have hjI : (j : Int) < (K : Int) := by omega
      have yj : j < 1152921504606846976 := by omega
      clear ho hol hoU hgr hsn hs hop hC hUn hUl hnn q1 q2 hlt hlt2 hj
      go_wp2_with fail
      refine hcy.mono ?_
      intro e5 w5 hp
      obtain ⟨cv, rfl, hcv, hb5⟩ := cyc_uni hp HO.out.2.2.2.2.2.1
      obtain ⟨okb, hok⟩ : ∃ b, decide (C ≠ []) = b := ⟨_, rfl⟩
      rw [hok]
      have H5 : Hid (RdU w5 cv C ∧ Below wr.heap.size wr w5 ∧ decide (C ≠ []) = okb ∧ C.length ≤ 1000) := ⟨hcv, hb5, hok, hCl⟩
      have hrf := refcyc_any w5 (.slice la LL lc) ls s o C (row_below HK.out.1 hb5) HO.out.1 HO.out.2.2.2.2.1 (by have := HG.out.2.2.2.2.1; omega) (cycS_of HG.out.2.1 HO.out.1 HO.out.2.2.2.2.1 HO.out.2.2.2.2.2.1)
      clear hcy hp hcv hb5 t0 hok hCl
      go_wp2_with fail
      refine hrf.mono ?_
      rintro e6 w6 ⟨wv, rfl, hwv, hb6⟩
      obtain ⟨wa, wc, ewv, _⟩ := row_slice9 hwv
      obtain ⟨CN, hCN⟩ : ∃ CN, C.length = CN := ⟨_, rfl⟩
      rw [hCN] at ewv
      subst ewv
      have H6 : Hid (RdU w6 (.slice wa CN wc) C ∧ Below w5.heap.size w5 w6 ∧ C.length = CN) := ⟨hwv.rd, hb6, hCN⟩
      have yCN : CN < 1152921504606846976 := by have := H5.out.2.2.2; omega
      have hvi := grvictim_any w1.heap.size w6 g nn s e o (ls.map (·.2)) ((HO.out.2.2.2.2.2.2.1.below H5.out.2.1).below hb6) HO.out.2.2.2.1 HO.out.2.1 HO.out.2.2.2.2.2.2.2.1 HO.out.2.2.1 HO.out.2.2.2.2.2.2.2.2.1 HO.out.2.2.2.2.2.2.2.2.2
      clear hrf hwv hb6 hCN
      go_wp2_with fail
      refine hvi.mono ?_
      intro e7 w7 hp7
      obtain ⟨rfl, hb7⟩ := vic_uni hp7 HO.out.2.2.2.2.2.1
      rw [H5.out.2.2.1]
      obtain ⟨M, hM⟩ : ∃ M, mxL C = M := ⟨_, rfl⟩
      rw [hM]
      have H7 : Hid (RdU w7 (.slice wa CN wc) C ∧ Below wr.heap.size wr w7 ∧ mxL C = M ∧ RdU w7 cv C) := ⟨row_below H6.out.1 hb7, bsplit (bsplit H5.out.2.1 H6.out.2.1) hb7, hM, row_below (row_below H5.out.1 H6.out.2.1) hb7⟩
      clear hvi hp7 hb7 hM
      obtain ⟨wo, hwo⟩ : ∃ wo, wo = wr := ⟨_, rfl⟩
      subst hwo
      obtain ⟨G, hG⟩ : ∃ G, gk - 1 = G := ⟨_, rfl⟩
      have HGK : Hid (G < gk ∧ G + (j + 1) = K) := by rw [← hG]; exact HK.out.2.2
      clear hG
      go_wp2_with fail
      go_loopg [14, 52] CN (fun gk tv iv wx => ∃ i t : Nat, gk + i = CN ∧ iv = .int .i64 (i : Int) ∧ tv = .int .u64 (t : Int) ∧ Hid (t = mxL (C.take i)) ∧ wx = w7)
      case atStart => exact ⟨0, 0, by omega, rfl, rfl, rfl, rfl⟩
      case round =>
        obtain ⟨i, t, hi, rfl, rfl, HT, rfl⟩ := hrel
        by_cases hlti : i < CN
        · have hil : i < C.length := by rw [H6.out.2.2]; exact hlti
          obtain ⟨pb, pc, e9, _, t1⟩ := RdU.at H7.out.1 i hil
          rw [H6.out.2.2] at e9
          cases e9
          have htk : C.take (i + 1) = C.take i ++ [C[i]] := by rw [List.take_succ_eq_append_getElem hil]
          obtain ⟨y, hy⟩ : ∃ y, C[i] = y := ⟨_, rfl⟩
          rw [hy] at t1 htk
          obtain ⟨g1, g2⟩ := gk_nxt hi hlti
          have emx : (max (t : Int) (y : Int)) = ((max t y : Nat) : Int) := by omega
          have HF : Hid (max t y = mxL (C.take (i + 1))) := by
            show _ = _
            rw [htk, mxL_snoc, ← HT.out]
          have hiI : (i : Int) < (CN : Int) := by omega
          have yi : i < 1152921504606846976 := by omega
          clear htk hy hil hlti hi HT
          go_wp2_with fail
          go_roundg (gk - 1)
          case measure => exact g1
          case rel => exact ⟨i + 1, max t y, g2, by go_num, by first | rfl | rw [emx], HF.out, rfl⟩
        · have hiC : i = CN := by omega
          have hnI : ¬ (i : Int) < (CN : Int) := by omega
          have htM : t = M := by
            rw [HT.out, List.take_of_length_le (by rw [H6.out.2.2]; omega)]
            exact H7.out.2.2.1
          subst htM
          have hou := out_any w1.heap.size wr g nn s e (HO.out.2.2.2.2.2.2.1.below H7.out.2.1) HO.out.2.2.1 HO.out.2.2.2.2.2.2.2.2.2
          clear HT hlti hi hiC
          go_wp2_with fail
          refine hou.mono ?_
          rintro e8 w8 ⟨ov, ys, rfl, hr8, ho8, hb8⟩
          have hys : ys = o s := rise_uniq hr8 (HO.out.2.2.2.1 s)
          subst hys
          have H8 : Hid (RdU w8 ov (o s) ∧ Below wr.heap.size wr w8) := ⟨ho8.rd, hb8⟩
          have hro := refout_any w8 (.slice la LL lc) ls s (row_below (row_below HK.out.1 H7.out.2.1) hb8) (by have := HG.out.2.2.2.2.1; omega)
          clear hou hr8 ho8 hb8
          go_wp2_with fail
          refine hro.mono ?_
          rintro e9 w9 ⟨rv, ys, rfl, ho9, hp9, hm9, hb9⟩
          have hys : ys = o s := lt_uniq _ _ hp9 (HO.out.2.2.2.2.1 s) (fun z => by rw [hm9 z, HO.out.1 s z])
          subst hys
          have hsm := sameU_any w9 ov rv (o s) (row_below H8.out.1 hb9) ho9.rd
          have H9 : Hid (Below wr.heap.size wr w9) := bsplit H8.out.2 hb9
          clear hro hp9 hm9 ho9 hb9
          go_wp2_with fail
          refine hsm.mono ?_
          rintro e10 w10 ⟨rfl, hb10⟩
          have hsm2 := sameU_any w10 cv _ C (row_below (row_below H7.out.2.2.2 H9.out) hb10) (row_below (row_below H7.out.1 H9.out) hb10)
          have H10 : Hid (Below wr.heap.size wr w10) := bsplit H9.out hb10
          clear hsm hb10
          go_wp2_with fail
          refine hsm2.mono ?_
          rintro e11 w11 ⟨rfl, hb11⟩
          have H11 : Hid (Below w4.heap.size w4 w11) := bsplit HB.out.2 (bsplit H7.out.2.1 (bsplit H10.out hb11))
          have hcn := cycleN_any w11 s
          clear hsm2 hb11
          have hcase : (okb = true ∧ (CN : Int) > 0) ∨ (okb = false ∧ CN = 0) := by
            have h1 := H5.out.2.2.1
            have h2 := H6.out.2.2
            by_cases h9 : C = []
            · right
              subst h9
              exact ⟨by rw [← h1]; simp, by rw [← h2]; rfl⟩
            · left
              have h3 := List.length_pos_iff.2 h9
              exact ⟨by rw [← h1]; exact decide_eq_true h9, by omega⟩
          have hfree : ∀ fb2 : Bool, fb2 = (fb && !okb) → Hid (fb2 = true ↔ ∀ q, q < j + 1 → ∀ s, (ndK ls ++ [77])[q]? = some s → ∀ n, ¬ Go.Proofs.Ytgkgdbdapkgkgaa.Reach e s n s) := fun fb2 h9 => by
            show _ ↔ _
            have hrc := cycR_reach HG.out.2.1 HO.out.1 HO.out.2.2.2.2.1 HO.out.2.2.2.2.2.1
            have h1 := H5.out.2.2.1
            rw [h9, Bool.and_eq_true, HB.out.1]
            have h3 : (!okb) = true ↔ C = [] := by rw [← h1]; by_cases h9 : C = [] <;> simp [h9]
            rw [h3, hrc]
            constructor
            · rintro ⟨h5, h6⟩ q hq t ht
              by_cases e9 : q = j
              · subst e9
                rw [HK.out.2.1] at ht
                cases ht
                exact h6
              · exact h5 q (by omega) t ht
            · intro h5
              exact ⟨fun q hq => h5 q (by omega), h5 j (by omega) s HK.out.2.1⟩
          rcases hcase with ⟨rfl, hc0⟩ | ⟨rfl, hc0⟩
          · have HF := hfree false (by simp)
            cases fb
            · clear hfree
              go_wp2_with fail
              refine hcn.mono ?_
              rintro e12 w12 ⟨rfl, hb12⟩
              have hon := outN_any w12 s
              have H12 : Hid (Below w4.heap.size w4 w12) := bsplit H11.out hb12
              clear hcn hb12
              go_wp2_with fail
              refine hon.mono ?_
              rintro e13 w13 ⟨rfl, hw13⟩
              have H13 : Hid (Below w4.heap.size w4 w13) := by rw [hw13]; exact H12.out
              clear hon hw13
              go_wp2_with fail
              go_roundg G
              case measure => exact HGK.out.1
              case rel => exact ⟨j + 1, false, HGK.out.2, by go_num, rfl, HF.out, H13.out⟩
            · clear hfree
              go_wp2_with fail
              refine hcn.mono ?_
              rintro e12 w12 ⟨rfl, hb12⟩
              have hon := outN_any w12 s
              have H12 : Hid (Below w4.heap.size w4 w12) := bsplit H11.out hb12
              clear hcn hb12
              go_wp2_with fail
              refine hon.mono ?_
              rintro e13 w13 ⟨rfl, hw13⟩
              have H13 : Hid (Below w4.heap.size w4 w13) := by rw [hw13]; exact H12.out
              clear hon hw13
              go_wp2_with fail
              go_roundg G
              case measure => exact HGK.out.1
              case rel => exact ⟨j + 1, false, HGK.out.2, by go_num, rfl, HF.out, H13.out⟩
          · subst hc0
            have HF := hfree fb (by simp)
            cases fb
            · clear hfree
              go_wp2_with fail
              refine hcn.mono ?_
              rintro e12 w12 ⟨rfl, hb12⟩
              have hon := outN_any w12 s
              have H12 : Hid (Below w4.heap.size w4 w12) := bsplit H11.out hb12
              clear hcn hb12
              go_wp2_with fail
              refine hon.mono ?_
              rintro e13 w13 ⟨rfl, hw13⟩
              have H13 : Hid (Below w4.heap.size w4 w13) := by rw [hw13]; exact H12.out
              clear hon hw13
              go_wp2_with fail
              go_roundg G
              case measure => exact HGK.out.1
              case rel => exact ⟨j + 1, false, HGK.out.2, by go_num, rfl, HF.out, H13.out⟩
            · clear hfree
              go_wp2_with fail
              refine hcn.mono ?_
              rintro e12 w12 ⟨rfl, hb12⟩
              have hon := outN_any w12 s
              have H12 : Hid (Below w4.heap.size w4 w12) := bsplit H11.out hb12
              clear hcn hb12
              go_wp2_with fail
              refine hon.mono ?_
              rintro e13 w13 ⟨rfl, hw13⟩
              have H13 : Hid (Below w4.heap.size w4 w13) := by rw [hw13]; exact H12.out
              clear hon hw13
              go_wp2_with fail
              go_roundg G
              case measure => exact HGK.out.1
              case rel => exact ⟨j + 1, true, HGK.out.2, by go_num, rfl, by simpa using HF.out, H13.out⟩
    · have hjN : j = K := by omega
      have hnI : ¬ (j : Int) < (K : Int) := by omega
      have hfr := free_any w1.heap.size wr g nn e ((HG.out.2.2.1.below H4.out.2.1).below HB.out.2) (by have := HG.out.2.2.2.1; omega)
      have HJ : Hid (j = K) := hjN
      clear hjN hlt hj
      go_wp2_with fail
      refine hfr.mono ?_
      rintro e5 w5 ⟨hb5, bb, rfl, hbt, hbf⟩
      have hbb : bb = fb := by
        cases bb with
        | true => exact (HB.out.1.2 (fun q _ s _ n => hbt rfl n s)).symm
        | false =>
          cases fb with
          | false => rfl
          | true =>
            obtain ⟨s, n, hr⟩ := hbf rfl
            have hm : s ∈ ndK ls := reach_named HG.out.2.1 hr
            obtain ⟨q, hq, e9⟩ := List.getElem_of_mem (List.mem_append_left [77] hm)
            exact absurd hr (HB.out.1.1 rfl q (by have := H4.out.2.2.1; have := HJ.out; omega) s (by rw [List.getElem?_eq_getElem hq, e9]) n)
      subst hbb
      have hfn := freeN_any w5
      have HE : Hid (Below w.heap.size w w5) := HG.out.2.2.2.2.2.2.trans ((bsplit H4.out.2.1 (bsplit HB.out.2 hb5)).mono HG.out.2.2.2.2.2.2.size)
      clear hfr hb5 hbt hbf
      have hbe : (binOp .eql 4 (.bool bb) (.bool bb)).run Try.prog w5 = .ok (.bool true) w5 := by cases bb <;> rfl
      go_wp2_with fail
      refine hfn.mono ?_
      rintro e6 w6 ⟨rfl, hw6⟩
      have HE2 : Hid (Below w.heap.size w w6) := by rw [hw6]; exact HE.out
      clear hfn hw6
      go_wp2_with fail
      go_ret
      exact ⟨by first | rfl | simp, HE2.out⟩

end Go.Proofs.Ytgkgdbdapkgkgaa
