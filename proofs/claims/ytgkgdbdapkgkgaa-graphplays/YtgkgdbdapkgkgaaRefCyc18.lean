/- bartizanref18.Cycle: the shortest through a node, the least of several. -/
import Derived.Test.YtgkgdbdapkgkgaaRefReach
import Derived.Test.YtgkgdbdapkgkgaaRefOut18
namespace Go.Proofs.Ytgkgdbdapkgkgaa
set_option maxRecDepth 100000
open Go.RowKit Go.Maps
set_option linter.unusedVariables false
set_option linter.unusedSimpArgs false

/-- the document's cycle, in pure terms -/
def CycS (o : Nat → List Nat) (s N : Nat) (C : List Nat) : Prop :=
  (C = [] ∧ ∀ n, ¬ LvB o s (n + 1) s) ∨ ∃ (c : Nat → Nat) (m : Nat), C = (List.range (m + 1)).map c ∧ m + 1 ≤ N ∧ c 0 = s ∧ (∀ n, LvB o s (n + 1) s → m ≤ n) ∧ LvB o s (m + 1) s ∧
    ∀ i, i < m → c (i + 1) ∈ o (c i) ∧ LvB o (c (i + 1)) (m - i) s ∧ ∀ a ∈ o (c i), a < c (i + 1) → ¬ LvB o a (m - i) s

theorem lt_uniq : ∀ (xs ys : List Nat), xs.Pairwise (· < ·) → ys.Pairwise (· < ·) → (∀ z, z ∈ xs ↔ z ∈ ys) → xs = ys := by
  intro xs ys h1 h2 h3
  have n1 : xs.Nodup := h1.imp (fun h => Nat.ne_of_lt h)
  have n2 : ys.Nodup := h2.imp (fun h => Nat.ne_of_lt h)
  exact List.Perm.eq_of_pairwise (le := fun a b => a < b) (fun a b _ _ h1 h2 => by omega) h1 h2 ((List.perm_ext_iff_of_nodup n1 n2).2 h3)

/-- the first that is left of a row that rises -/
theorem lt_first {ys : List Nat} {q y : Nat} (hp : ys.Pairwise (· < ·)) (hq : q < ys.length) (hy : y ∈ ys) (hn : y ∉ ys.take q) : ys[q] ≤ y := by
  have h1 : y ∈ ys.drop q := by
    have h9 : y ∈ ys.take q ++ ys.drop q := by rw [List.take_append_drop]; exact hy
    exact (List.mem_append.1 h9).resolve_left hn
  rw [List.drop_eq_getElem_cons hq] at h1
  have hd : (ys.drop q).Pairwise (· < ·) := hp.sublist (List.drop_sublist q ys)
  rw [List.drop_eq_getElem_cons hq] at hd
  rcases List.mem_cons.1 h1 with e | h
  · omega
  · have := (List.pairwise_cons.1 hd).1 y h
    omega

set_option maxHeartbeats 4000000 in
theorem refcyc_any (w : World) (v : Value) (ls : List (Nat × Nat)) (s : Nat) (o : Nat → List Nat) (C : List Nat) (h : RdK w v ls) (hol : ∀ x y, y ∈ o x ↔ (x, y) ∈ ls) (hop : ∀ x, (o x).Pairwise (· < ·)) (hl : ls.length ≤ 1000) (hC : CycS o s ls.length C) :
    Calls Try.prog 12 #[v, .int .u64 (s : Int)] w fun e w' => ∃ v', e = .returned v' ∧ OwnU w.heap.size w' v' C ∧ Below w.heap.size w w' := by
  obtain ⟨va, vc, rfl, hvc, hvc2⟩ := row_slice9 h
  obtain ⟨N, hN⟩ : ∃ N, ls.length = N := ⟨_, rfl⟩
  rw [hN] at hC
  have HV : Hid (RdK w (.slice va ls.length vc) ls) := h
  have HN : Hid (ls.length = N ∧ N ≤ 1000 ∧ (∀ x y, y ∈ o x ↔ (x, y) ∈ ls) ∧ (∀ x, (o x).Pairwise (· < ·)) ∧ CycS o s N C) := ⟨hN, by omega, hol, hop, hC⟩
  have yN : N < 1152921504606846976 := by omega
  rw [hN] at HV hvc ⊢
  clear h hN hol hop hl hC
  go_enter Try.func12, Try.ntmps12
  go_wp2_with fail
  go_loopg [5] N (fun gk nv wr => ∃ n1 : Nat, gk + n1 = N + 1 ∧ nv = .int .i64 (n1 : Int) ∧ 1 ≤ n1 ∧ Hid ((∀ j, j + 1 < n1 → ¬ LvB o s (j + 1) s) ∧ Below w.heap.size w wr))
  case atStart => exact ⟨1, by omega, rfl, by omega, fun j hj => by omega, Below.refl _ _⟩
  case round =>
    obtain ⟨n1, hn, rfl, h1n, HB⟩ := hrel
    by_cases hle : n1 ≤ N
    · have hleI : (n1 : Int) ≤ (N : Int) := by omega
      have yn : n1 < 1152921504606846976 := by omega
      have hrc := reach_any wr (.slice va N vc) ls s s n1 o (row_below HV.out HB.out.2) HN.out.2.2.1 (by have := HN.out.1; have := HN.out.2.1; omega) (by have := HN.out.2.1; omega)
      have HGK : Hid (gk - 1 < gk ∧ gk - 1 + (n1 + 1) = N + 1 ∧ n1 ≤ N) := ⟨by omega, by omega, hle⟩
      clear hle hn
      go_wp2_with fail
      refine hrc.mono ?_
      rintro e1 w1 ⟨bb, rfl, hbb, hb1⟩
      have HB1 : Hid (Below w.heap.size w w1 ∧ (bb = true ↔ LvB o s n1 s)) := ⟨bsplit HB.out.2 hb1, hbb⟩
      clear hrc hbb hb1
      cases bb with
      | false =>
        have HF : Hid (∀ j, j + 1 < n1 + 1 → ¬ LvB o s (j + 1) s) := by
          intro j hj hr
          by_cases hj2 : j + 1 < n1
          · exact HB.out.1 j hj2 hr
          · have e : j + 1 = n1 := by omega
            rw [e] at hr
            have := HB1.out.2.2 hr
            cases this
        go_wp2_with fail
        go_roundg (gk - 1)
        case measure => exact HGK.out.1
        case rel => exact ⟨n1 + 1, HGK.out.2.1, by go_num, by omega, HF.out, HB1.out.1⟩
      | true =>
        have hLn : LvB o s n1 s := HB1.out.2.1 rfl
        obtain ⟨_, _, _, _, hcs⟩ := HN.out
        rcases hcs with ⟨_, hno⟩ | ⟨c, m, rfl, hm, hc0, hmin, hback, hstep⟩
        · exfalso
          have h9 := hno (n1 - 1)
          rw [show n1 - 1 + 1 = n1 by omega] at h9
          exact h9 hLn
        · have e1 := hmin (n1 - 1) (by rw [show n1 - 1 + 1 = n1 by omega]; exact hLn)
          have e2 : n1 = m + 1 := by
            by_cases h9 : m + 1 < n1
            · exact absurd hback (HB.out.1 m h9)
            · omega
          have en : (n1 : Int) - 1 = (m : Int) := by omega
          have ym : m < 1152921504606846976 := by omega
          have HC : Hid (c 0 = s ∧ ∀ i, i < m → c (i + 1) ∈ o (c i) ∧ LvB o (c (i + 1)) (m - i) s ∧ ∀ a ∈ o (c i), a < c (i + 1) → ¬ LvB o a (m - i) s) := ⟨hc0, hstep⟩
          have HM : Hid (m + 1 ≤ N) := hm
          have HS0 : Hid (OwnU w.heap.size (w1.alloc (.cells #[.int .u64 (s : Int)] 30)) (.slice (some ⟨w1.heap.size, 0, none⟩) 1 1) ((List.range (0 + 1)).map c) ∧ Below w.heap.size w (w1.alloc (.cells #[.int .u64 (s : Int)] 30))) := by
            refine ⟨?_, bsplit HB1.out.1 (below_box4 w1 _)⟩
            have h9 := OwnU.one w1 s
            rw [show (List.range (0 + 1)).map c = [s] by simp [hc0]]
            exact row_mono9 h9 HB1.out.1.size
          clear hLn hm hc0 hmin hback hstep e1 e2
          go_wp2_with fail
          go_loopg [6, 7, 8] m (fun gk ov hv lv wr => ∃ (i hn lf oc : Nat) (oa : Option Addr), gk = lf ∧ lf + i = m ∧ hv = .int .u64 (hn : Int) ∧ lv = .int .i64 (lf : Int) ∧ ov = .slice oa (i + 1) oc ∧ Hid (hn = c i) ∧ Hid (OwnU w.heap.size wr (.slice oa (i + 1) oc) ((List.range (i + 1)).map c) ∧ Below w.heap.size w wr))
          case atStart => exact ⟨0, s, m, 1, _, rfl, by omega, rfl, rfl, rfl, HC.out.1.symm, HS0.out⟩
          case round =>
            clear HS0
            obtain ⟨i, hn, lf, oc, oa, hgk, hlf, rfl, rfl, rfl, HH, HO⟩ := hrel
            by_cases h0 : lf = 0
            · subst h0
              have him : i = m := by omega
              subst him
              clear hgk
              go_wp2_with fail
              go_ret
              exact ⟨_, rfl, HO.out⟩
            · have hlI : (lf : Int) > 0 := by omega
              have ylf : lf < 1152921504606846976 := by omega
              have hli : i < m := by omega
              obtain ⟨d1, d2, d3⟩ := HC.out.2 i hli
              have hml : m - i = lf := by omega
              rw [hml] at d2 d3
              rw [← HH.out] at d1 d3
              obtain ⟨x0, hx0⟩ : ∃ x0, c (i + 1) = x0 := ⟨_, rfl⟩
              rw [hx0] at d1 d2 d3
              have hou := refout_any wr (.slice va N vc) ls hn (row_below HV.out HO.out.2) (by have := HN.out.1; have := HN.out.2.1; omega)
              have HX : Hid (x0 ∈ o hn ∧ LvB o x0 lf s ∧ (∀ a ∈ o hn, a < x0 → ¬ LvB o a lf s) ∧ c (i + 1) = x0) := ⟨d1, d2, d3, hx0⟩
              obtain ⟨G2, hG2⟩ : ∃ G, lf - 1 = G := ⟨_, rfl⟩
              have HGK2 : Hid (G2 < gk ∧ G2 + (i + 1) = m ∧ lf - 1 = G2 ∧ i < m) := ⟨by omega, by omega, hG2, hli⟩
              have elf : (lf : Int) - 1 = (G2 : Int) := by omega
              clear d1 d2 d3 hx0 hml hli h0 hgk hlf hG2
              go_wp2_with fail
              refine hou.mono ?_
              rintro e2 w2 ⟨ov, ys, rfl, ho2, hp2, hm2, hb2⟩
              have hys : ys = o hn := lt_uniq _ _ hp2 (HN.out.2.2.2.1 hn) (fun z => by rw [hm2 z, HN.out.2.2.1 hn z])
              subst hys
              obtain ⟨ya, yc, eyv, hyc1, hyc2⟩ := row_slice9 ho2
              have hYl : (o hn).length ≤ 1000 := by
                have h9 := sub_len (o hn) (ls.map (·.2)) (hp2.imp (fun h => Nat.ne_of_lt h)) (fun z hz => List.mem_map.2 ⟨_, (hm2 z).1 hz, rfl⟩)
                rw [List.length_map] at h9
                have := HN.out.1
                have := HN.out.2.1
                omega
              obtain ⟨Y, hY⟩ : ∃ Y, (o hn).length = Y := ⟨_, rfl⟩
              rw [hY] at eyv hYl
              subst eyv
              have H2 : Hid (RdU w2 (.slice ya Y yc) (o hn) ∧ (o hn).length = Y ∧ Y ≤ 1000 ∧ Below wr.heap.size wr w2) := ⟨ho2.rd, hY, hYl, hb2⟩
              have yY : Y < 1152921504606846976 := by omega
              clear hou ho2 hp2 hm2 hb2 hyc1 hyc2 hY hYl
              go_wp2_with fail
              go_loopg [6, 7, 36] Y (fun gk ov hv iv wx => ∃ q : Nat, gk + q = Y ∧ iv = .int .i64 (q : Int) ∧ ov = .slice oa (i + 1) oc ∧ hv = .int .u64 (hn : Int) ∧ Hid (x0 ∉ (o hn).take q ∧ Below w2.heap.size w2 wx))
              case atStart => exact ⟨0, by omega, rfl, rfl, rfl, by simp, Below.refl _ _⟩
              case round =>
                obtain ⟨wp, hwp⟩ : ∃ wp, wp = wr := ⟨_, rfl⟩
                subst hwp
                obtain ⟨q, hq, rfl, rfl, rfl, HQ⟩ := hrel
                by_cases hlt : q < Y
                · have hqI : (q : Int) < (Y : Int) := by omega
                  have yq : q < 1152921504606846976 := by omega
                  have hql : q < (o hn).length := by rw [H2.out.2.1]; exact hlt
                  obtain ⟨yb, yc', e9, _, hcy⟩ := RdU.at (row_below H2.out.1 HQ.out.2) q hql
                  rw [H2.out.2.1] at e9
                  cases e9
                  have hyo : (o hn)[q] ∈ o hn := List.getElem_mem hql
                  have hfst := lt_first (HN.out.2.2.2.1 hn) hql HX.out.1 HQ.out.1
                  have htk : (o hn).take (q + 1) = (o hn).take q ++ [(o hn)[q]] := by rw [List.take_succ_eq_append_getElem hql]
                  obtain ⟨y, hy⟩ : ∃ y, (o hn)[q] = y := ⟨_, rfl⟩
                  rw [hy] at hcy hyo hfst htk
                  obtain ⟨g1, g2⟩ := gk_nxt hq hlt
                  have hbp := bsplit (bsplit HO.out.2 H2.out.2.2.2) HQ.out.2
                  have hrc := reach_any wp (.slice va N vc) ls y s lf o (row_below HV.out hbp) HN.out.2.2.1 (by have := HN.out.1; have := HN.out.2.1; omega) (by have := HN.out.2.1; have := HGK2.out; have := HM.out; omega)
                  have HP : Hid (y ∈ o hn ∧ y ≤ x0 ∧ (o hn).take (q + 1) = (o hn).take q ++ [y] ∧ Below w.heap.size w wp) := ⟨hyo, hfst, htk, hbp⟩
                  clear hyo hfst htk hbp hy hql hlt hq
                  go_wp2_with fail
                  refine hrc.mono ?_
                  rintro e3 w3 ⟨bb, rfl, hbb, hb3⟩
                  have HB3 : Hid (Below wp.heap.size wp w3 ∧ (bb = true ↔ LvB o y lf s)) := ⟨hb3, hbb⟩
                  clear hrc hbb hb3
                  cases bb with
                  | false =>
                    have HF : Hid (x0 ∉ (o hn).take (q + 1) ∧ Below w2.heap.size w2 w3) := by
                      refine ⟨?_, bsplit HQ.out.2 HB3.out.1⟩
                      rw [HP.out.2.2.1]
                      intro h9
                      rcases List.mem_append.1 h9 with h9 | h9
                      · exact HQ.out.1 h9
                      · rw [List.mem_singleton] at h9
                        subst h9
                        have := HB3.out.2.2 HX.out.2.1
                        cases this
                    clear hcy
                    go_wp2_with fail
                    go_roundg (gk - 1)
                    case measure => exact g1
                    case rel => exact ⟨q + 1, g2, by go_num, rfl, rfl, HF.out⟩
                  | true =>
                    have hyx : y = x0 := by
                      have h1 := HP.out.2.1
                      by_cases h9 : y < x0
                      · exact absurd (HB3.out.2.1 rfl) (HX.out.2.2.1 y HP.out.1 h9)
                      · omega
                    subst hyx
                    have hba := below_box4 w3 (.cells #[.int .u64 (y : Int)] 30)
                    have ho3 : OwnU w.heap.size (w3.alloc (.cells #[.int .u64 (y : Int)] 30)) (.slice oa (i + 1) oc) ((List.range (i + 1)).map c) := row_below (row_below (row_below (row_below HO.out.1 H2.out.2.2.2) HQ.out.2) HB3.out.1) hba
                    have hbb := bsplit (bsplit HP.out.2.2.2 HB3.out.1) hba
                    obtain ⟨g5, c5, w5, hrun5, ho5, hk5⟩ := ho3.run y w3.heap.size 28 (by simp) (by simp; have := HGK2.out; have := HM.out; have := HN.out.2.1; omega) hbb.size
                    have hll : ((List.range (i + 1)).map c).length = i + 1 := by simp
                    rw [hll] at hrun5 ho5
                    have HF : Hid (OwnU w.heap.size w5 (.slice (some ⟨g5, 0, none⟩) (i + 1 + 1) c5) ((List.range (i + 1 + 1)).map c) ∧ Below w.heap.size w w5) := by
                      refine ⟨?_, hbb.trans (hk5.below (fun q hq => (ho3.lts q hq).1) hbb.size)⟩
                      rw [List.range_succ, List.map_append, List.map_singleton, HX.out.2.2.2]
                      exact ho5
                    have yi : i < 1152921504606846976 := by have := HGK2.out; omega
                    clear hba ho3 hbb ho5 hk5 hll hcy
                    go_wp2_with (first | (at_builtin; refine wpList_appU rfl _ _ _ rfl _ _ _ rfl rfl hrun5 ?_) | fail)
                    go_roundg G2
                    case measure => exact HGK2.out.1
                    case rel => exact ⟨i + 1, y, G2, c5, _, rfl, HGK2.out.2.1, rfl, rfl, rfl, HX.out.2.2.2.symm, HF.out⟩
                · exfalso
                  have h9 := HQ.out.1
                  rw [List.take_of_length_le (by rw [H2.out.2.1]; omega)] at h9
                  exact h9 HX.out.1
    · have hnI : ¬ (n1 : Int) ≤ (N : Int) := by omega
      have HE : Hid (C = [] ∧ Below w.heap.size w wr) := by
        refine ⟨?_, HB.out.2⟩
        obtain ⟨_, _, _, _, hcs⟩ := HN.out
        rcases hcs with ⟨h9, _⟩ | ⟨c, m, _, hm, _, _, hback, _⟩
        · exact h9
        · exact absurd hback (HB.out.1 m (by omega))
      clear HB hle hn h1n
      go_wp2_with fail
      go_ret
      exact ⟨_, rfl, by rw [HE.out.1]; exact World.ownsRow_nil _ _ _ _, HE.out.2⟩

end Go.Proofs.Ytgkgdbdapkgkgaa
