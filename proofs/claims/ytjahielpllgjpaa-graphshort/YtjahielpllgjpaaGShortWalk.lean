/- GraphShort answers true. -/
import Derived.Test.YtjahielpllgjpaaGrpG
import Derived.Test.YtjahielpllgjpaaGrpH
namespace Go.Proofs.Ytjahielpllgjpaa
set_option maxRecDepth 100000
open Go.RowKit Go.Maps
set_option linter.unusedVariables false
set_option linter.unusedSimpArgs false

/-- between two lengths -/
def ShL (w4 : World) (o : Nat → List Nat) (s k : Nat) (rv : Value) (wr : World) : Prop :=
  ∃ R, QAt (fun _ => True) wr rv R ∧ R.length ≤ 2000 ∧ (∀ z ∈ R, z < 18446744073709551616 ∧ LvB o s k z) ∧ Below w4.heap.size w4 wr

/-- between two nodes of one length -/
def ShN (wl : World) (o : Nat → List Nat) (s k i : Nat) (rv : Value) (R : List Nat) (nv : Value) (wr : World) : Prop :=
  ∃ NX, QAt (fun b => wl.heap.size ≤ b) wr nv NX ∧ NX.length ≤ i * 100 ∧ (∀ z ∈ NX, z < 18446744073709551616 ∧ LvB o s (k + 1) z) ∧ Below wl.heap.size wl wr ∧ QAt (fun b => b < wl.heap.size) wr rv R

/-- between two links of a node -/
def ShM (wl : World) (o : Nat → List Nat) (s k m : Nat) (rv : Value) (R : List Nat) (ov : Value) (x : Nat) (nv : Value) (wr : World) : Prop :=
  ∃ NX, QAt (fun b => wl.heap.size ≤ b ∧ ov.ownBlock ≠ some b) wr nv NX ∧ NX.length ≤ m ∧ (∀ z ∈ NX, z < 18446744073709551616 ∧ LvB o s (k + 1) z) ∧ Below wl.heap.size wl wr ∧ QAt (fun b => b < wl.heap.size) wr rv R ∧ RdU wr ov (o x)

set_option maxHeartbeats 2000000 in
theorem graphShort_walk (a1 : Option Addr) (len1 cap1 : Nat) (os : List GOp) (w : World) (ha : ArgGO w (.slice a1 len1 cap1) os) :
    Calls Try.prog 6 #[.slice a1 len1 cap1] w fun e w' => e = .returned (.bool true) ∧ Below w.heap.size w w' := by
  have haw := awake_any w
  have HA : Hid (ArgGO w (.slice a1 len1 cap1) os) := ha
  clear ha
  go_enter Try.func6, Try.ntmps6
  go_wp2_with fail
  refine haw.mono ?_
  rintro e1 w1 ⟨rfl, hb1⟩
  have hnw := grnew_any w1
  have HB1 : Hid (Below w.heap.size w w1) := hb1
  clear haw hb1
  go_wp2_with fail
  refine hnw.mono ?_
  rintro e2 w2 ⟨g, rfl, hg2, hb2⟩
  have hrn := run_any w1.heap.size w1 w2 g (.slice a1 len1 cap1) os rfl (HA.out.below HB1.out (Nat.le_refl _)) hb2 hg2
  have HB2 : Hid (Below w.heap.size w w2 ∧ w.heap.size ≤ w1.heap.size) := ⟨bsplit HB1.out hb2, HB1.out.size⟩
  clear hnw hg2 hb2
  go_wp2_with fail
  refine hrn.mono ?_
  rintro e3 w3 ⟨v3, ls, e, nn, rfl, ho3, hgl, hg3, hnn, hll, hnk, hb3⟩
  obtain ⟨la, lc, elv, _⟩ := row_slice9 ho3
  obtain ⟨LL, hLL⟩ : ∃ LL, ls.length = LL := ⟨_, rfl⟩
  rw [hLL] at elv
  subst elv
  have hnd := nodes_any w3 _ ls ho3.rd (by omega)
  have HG : Hid (OwnK w2.heap.size w3 (.slice la LL lc) ls ∧ GL e ls ∧ GrQ w1.heap.size w3 g nn e ∧ nn ≤ 200 ∧ ls.length ≤ 100 ∧ NumK ls ∧ Below w.heap.size w w3) := ⟨ho3, hgl, hg3, hnn, hll, hnk, HB2.out.1.trans (hb3.mono HB2.out.2)⟩
  clear hrn ho3 hgl hg3 hnn hll hnk hb3 hLL
  go_wp2_with fail
  refine hnd.mono ?_
  rintro e4 w4 ⟨v4, rfl, ho4, hb4⟩
  obtain ⟨na, nc, env, _⟩ := row_slice9 ho4
  obtain ⟨K, hK⟩ : ∃ K, (ndK ls ++ [77]).length = K := ⟨_, rfl⟩
  rw [hK] at env
  subst env
  have H4 : Hid (OwnU w3.heap.size w4 (.slice (na) K nc) (ndK ls ++ [77]) ∧ Below w3.heap.size w3 w4 ∧ (ndK ls ++ [77]).length = K) := ⟨ho4, hb4, hK⟩
  clear hnd ho4 hb4 hK
  go_wp2_with fail
  go_loopg [24] K (fun gk iv wr => ∃ j : Nat, gk + j = K ∧ iv = .int .i64 (j : Int) ∧ Hid (Below w4.heap.size w4 wr))
  case atStart => exact ⟨0, by omega, rfl, Below.refl _ _⟩
  case round =>
    obtain ⟨j, hj, rfl, HB⟩ := hrel
    by_cases hlt : j < K
    · have hlt2 : j < (ndK ls ++ [77]).length := by rw [H4.out.2.2]; exact hlt
      obtain ⟨tb, tc, e9, _, t0⟩ := RdU.at (row_below H4.out.1.rd HB.out) j hlt2
      rw [H4.out.2.2] at e9
      cases e9
      obtain ⟨q1, q2⟩ := gk_nxt hj hlt
      obtain ⟨s, hs⟩ : ∃ s, (ndK ls ++ [77])[j] = s := ⟨_, rfl⟩
      have hsn : s < 18446744073709551616 := by
        have hm : s ∈ ndK ls ++ [77] := by rw [← hs]; exact List.getElem_mem hlt2
        rcases List.mem_append.1 hm with h | h
        · unfold ndK at h
          obtain ⟨l, hl, h9⟩ := List.mem_flatMap.1 h
          have := HG.out.2.2.2.2.2.1 l hl
          simp at h9
          rcases h9 with h9 | h9 <;> omega
        · simp at h; omega
      rw [hs] at t0
      have hex : ∃ o : Nat → List Nat, ∀ k, Rise (e k) (o k) := ⟨fun k => Classical.choose (rise_ex (e k)), fun k => Classical.choose_spec (rise_ex (e k))⟩
      obtain ⟨o, ho⟩ := hex
      have hol : ∀ a b, b ∈ o a ↔ (a, b) ∈ ls := fun a b => by rw [(ho a).1.2, HG.out.2.1 a b]
      have hoU : ∀ x, ∀ y ∈ o x, y ∈ ls.map (·.2) := fun x y hy => List.mem_map.2 ⟨_, (hol x y).1 hy, rfl⟩
      have hgr : GrQ w1.heap.size wr g nn e := (HG.out.2.2.1.below H4.out.2.1).below HB.out
      have hcy := cycle_any w1.heap.size wr g nn s e o (ls.map (·.2)) hgr ho hoU (fun x hx => by obtain ⟨l, hl, rfl⟩ := List.mem_map.1 hx; exact (HG.out.2.2.2.2.2.1 l hl).2) hsn (by rw [List.length_map]; have := HG.out.2.2.2.2.1; omega) (by have := HG.out.2.2.2.1; omega)
      have HO : Hid ((∀ a b, b ∈ o a ↔ (a, b) ∈ ls) ∧ (∀ x, ∀ y ∈ o x, y ∈ ls.map (·.2)) ∧ s < 18446744073709551616 ∧ ∀ k, Rise (e k) (o k)) := ⟨hol, hoU, hsn, ho⟩
      clear ho hol hoU hgr hsn hs
      go_wp2_with fail
      refine hcy.mono ?_
      intro e5 w5 hp
      obtain ⟨hb5, ⟨rfl, _⟩ | ⟨v, f, x, P, rfl, hbs, hw, hv⟩⟩ := hp
      · have HF : Hid (Below w4.heap.size w4 w5) := bsplit HB.out hb5
        clear hcy hb5 t0
        go_wp2_with fail
        go_roundg (gk - 1)
        case measure => exact q1
        case rel => exact ⟨j + 1, q2, by go_num, HF.out⟩
      · have hsh : ∀ n, Go.Proofs.Ytjahielpllgjpaa.Reach o s n s → P.length ≤ n := by
          obtain ⟨D, d1, d2, d3⟩ := bfs_short _ _ _ _ (BfD.first o s) f x hbs
          have := way_far d1 d2 P x hw
          intro n hn
          have := d3 n hn
          omega
        have hlen : (x :: P).reverse.length = P.length + 1 := by simp
        have hPl : P.length ≤ 10000 := by
          obtain ⟨_, ⟨P', hP', hl'⟩, _⟩ := bfs_some HO.out.2.1 _ _ _ (BfI.first o s _) f x hbs
          have e := way_uniq f s x P P' hw hP'
          subst e
          have h9 := vis_le f (ls.map (·.2))
          rw [List.length_map] at h9
          have := HG.out.2.2.2.2.1
          omega
        obtain ⟨C, hC⟩ : ∃ C, (x :: P).reverse = C := ⟨_, rfl⟩
        rw [hC] at hv hlen
        obtain ⟨ca, cc, ecv, _⟩ := row_slice9 hv
        obtain ⟨CM, hCM⟩ : ∃ CM, P.length = CM := ⟨_, rfl⟩
        rw [hCM] at hlen hsh hPl
        obtain ⟨CN, hCN⟩ : ∃ CN, C.length = CN := ⟨_, rfl⟩
        rw [hCN] at ecv hlen
        subst ecv
        have H5 : Hid ((∀ n, Go.Proofs.Ytjahielpllgjpaa.Reach o s n s → CM ≤ n) ∧ Below w4.heap.size w4 w5) := ⟨hsh, bsplit HB.out hb5⟩
        have eCN : (CN : Int) - 1 = (CM : Int) := by omega
        have yCN : CN < 1152921504606846976 := by omega
        have HS0 : Hid (ShL w4 o s 0 (.slice (some ⟨w5.heap.size, 0, none⟩) 1 1) (w5.alloc (.cells #[.int .u64 (s : Int)] 30))) := by
          refine ⟨[s], qat_one w5 s _ trivial, by simp, fun z hz => ?_, bsplit H5.out.2 (below_box4 w5 _)⟩
          rw [List.mem_singleton] at hz
          subst hz
          exact ⟨HO.out.2.2.1, rfl⟩
        clear hcy hb5 t0 hbs hw hv hC hCM hCN hsh
        go_wp2_with fail
        obtain ⟨G1, hG1⟩ : ∃ G, gk - 1 = G := ⟨_, rfl⟩
        have HGK1 : Hid (G1 < gk ∧ G1 + (j + 1) = K) := ⟨by omega, by omega⟩
        clear hG1
        go_loopg [9, 41] CM (fun gk rv iv wr => ∃ (k rl rc : Nat) (ra : Option Addr), gk + k = CM ∧ iv = .int .i64 (k : Int) ∧ rv = .slice ra rl rc ∧ Hid (ShL w4 o s k (.slice ra rl rc) wr))
        case atStart => exact ⟨0, 1, 1, _, by omega, rfl, rfl, HS0.out⟩
        case round =>
          clear HS0
          obtain ⟨k, rl, rc, ra, hk, rfl, rfl, HL⟩ := hrel
          by_cases hltk : k < CM
          · obtain ⟨wl, hwl⟩ : ∃ wl, wl = wr := ⟨_, rfl⟩
            subst hwl
            obtain ⟨R, l1, l2, l3, l4⟩ := HL.out
            have hRl := l1.len
            have HR : Hid (rl = R.length ∧ R.length ≤ 2000 ∧ (∀ z ∈ R, z < 18446744073709551616 ∧ LvB o s k z) ∧ Below w4.heap.size w4 wl) := ⟨hRl, l2, l3, l4⟩
            have HN0 : Hid (ShN wl o s k 0 (.slice ra rl rc) R (.slice none 0 0) wl) := ⟨[], QAt.nil _ _, by simp, fun z hz => by simp at hz, Below.refl _ _, l1.mono (fun b _ h => h)⟩
            obtain ⟨G2, hG2⟩ : ∃ G, gk - 1 = G := ⟨_, rfl⟩
            have HGK2 : Hid (G2 < gk ∧ G2 + (k + 1) = CM ∧ k < CM) := ⟨by omega, by omega, hltk⟩
            have hkI : (k : Int) < (CM : Int) := by omega
            have yk : k < 1152921504606846976 := by omega
            clear hG2 l1 l2 l3 l4 hRl HL hltk hk
            go_wp2_with fail
            go_loopg [10, 45] rl (fun gk nv iv wr => ∃ (i nl nc : Nat) (na : Option Addr), gk + i = rl ∧ iv = .int .i64 (i : Int) ∧ nv = .slice na nl nc ∧ Hid (ShN wl o s k i (.slice ra rl rc) R (.slice na nl nc) wr))
            case atStart => exact ⟨0, 0, 0, none, by omega, rfl, rfl, HN0.out⟩
            case round =>
              clear HN0
              obtain ⟨i, nl, nc, na, hi, rfl, rfl, HN⟩ := hrel
              by_cases hlti : i < rl
              · obtain ⟨NX, n1, n2, n3, n4, n5⟩ := HN.out
                have hiR : i < R.length := by rw [← HR.out.1]; exact hlti
                obtain ⟨rb, roff, rc', e9, t1⟩ := n5.at i hiR
                rw [← HR.out.1] at e9
                cases e9
                have hx := HR.out.2.2.1 _ (List.getElem_mem hiR)
                obtain ⟨x1, hx1⟩ : ∃ x1, R[i] = x1 := ⟨_, rfl⟩
                rw [hx1] at t1 hx
                have hou := out_any w1.heap.size wr g nn x1 e (((HG.out.2.2.1.below H4.out.2.1).below HR.out.2.2.2).below n4) hx.1 (by have := HG.out.2.2.2.1; omega)
                obtain ⟨G3, hG3⟩ : ∃ G, gk - 1 = G := ⟨_, rfl⟩
                have HGK3 : Hid (G3 < gk ∧ G3 + (i + 1) = rl ∧ i < rl ∧ LvB o s k x1) := ⟨by omega, by omega, hlti, hx.2⟩
                have hiI : (i : Int) < (rl : Int) := by omega
                have yi : i < 1152921504606846976 := by have := HR.out.1; have := HR.out.2.1; omega
                clear hG3 n1 n2 n3 n4 n5 hx hx1 hiR hlti hi
                go_wp2_with fail
                refine hou.mono ?_
                rintro e6 w6 ⟨ov, ys, rfl, hr6, ho6, hb6⟩
                have hys : ys = o x1 := rise_uniq hr6 (HO.out.2.2.2 x1)
                subst hys
                obtain ⟨oa, oc, eov, hoc1, hoc2⟩ := row_slice9 ho6
                have hYl : (o x1).length ≤ 100 := by
                  have h9 := sub_len (o x1) (ls.map (·.2)) (HO.out.2.2.2 x1).1.1 (HO.out.2.1 x1)
                  rw [List.length_map] at h9
                  have := HG.out.2.2.2.2.1
                  omega
                obtain ⟨Y, hY⟩ : ∃ Y, (o x1).length = Y := ⟨_, rfl⟩
                rw [hY] at eov hYl
                subst eov
                have HY : Hid ((o x1).length = Y ∧ Y ≤ 100) := ⟨hY, hYl⟩
                have HM0 : Hid (ShM wl o s k (i * 100 + 0) (.slice (some ⟨rb, roff, none⟩) rl rc) R (.slice oa Y oc) x1 (.slice na nl nc) w6) := by
                  obtain ⟨NX, n1, n2, n3, n4, n5⟩ := HN.out
                  refine ⟨NX, (n1.mono (G' := fun b => wl.heap.size ≤ b ∧ (Value.slice oa Y oc).ownBlock ≠ some b) (fun b hb hlt => ⟨hb, fun e9 => ?_⟩)).below hb6, n2, n3, bsplit n4 hb6, n5.below hb6, ho6.rd⟩
                  have := (ho6.lts b e9).1
                  omega
                clear hou hr6 ho6 hb6 hY hoc1 hoc2 HN t1
                go_wp2_with fail
                go_loopg [10, 53] Y (fun gk nv jv wr => ∃ (q nl nc : Nat) (na : Option Addr), gk + q = Y ∧ jv = .int .i64 (q : Int) ∧ nv = .slice na nl nc ∧ Hid (ShM wl o s k (i * 100 + q) (.slice (some ⟨rb, roff, none⟩) rl rc) R (.slice oa Y oc) x1 (.slice na nl nc) wr))
                case atStart => exact ⟨0, nl, nc, na, by omega, rfl, rfl, HM0.out⟩
                case round =>
                  clear HM0
                  obtain ⟨q, nl, nc, na, hq, rfl, rfl, HM⟩ := hrel
                  obtain ⟨NX, n1, n2, n3, n4, n5, n6⟩ := HM.out
                  by_cases hltq : q < Y
                  · have hqI : (q : Int) < (Y : Int) := by omega
                    have hql : q < (o x1).length := by rw [HY.out.1]; exact hltq
                    obtain ⟨yb, yc, e9, _, hcy⟩ := n6.at q hql
                    rw [HY.out.1] at e9
                    cases e9
                    have hyo : (o x1)[q] ∈ o x1 := List.getElem_mem hql
                    obtain ⟨y, hy⟩ : ∃ y, (o x1)[q] = y := ⟨_, rfl⟩
                    rw [hy] at hcy hyo
                    have hyn : y < 18446744073709551616 := (HG.out.2.2.2.2.2.1 _ ((HO.out.1 _ _).1 hyo)).2
                    have hlv : LvB o s (k + 1) y := HGK3.out.2.2.2.next hyo
                    have hys : ¬ (y : Int) = (s : Int) := by
                      intro e
                      have e : y = s := by omega
                      subst e
                      have := H5.out.1 k hlv
                      have := HGK2.out.2.2
                      omega
                    have hnl := n1.len
                    have hba := below_box4 wr (.cells #[.int .u64 (y : Int)] 30)
                    have hyb := (World.ownsRow.lt n6 yb rfl).2
                    have hGq : ∀ q, (wr.alloc (.cells #[.int .u64 (y : Int)] 30)).heap.size ≤ q → wl.heap.size ≤ q ∧ (Value.slice (some ⟨yb, 0, none⟩) Y oc).ownBlock ≠ some q := fun q hq => by
                      have e1 := n4.size
                      have e2 := hba.size
                      refine ⟨by omega, fun e9 => ?_⟩
                      have e3 : yb = q := by
                        have : some yb = some q := e9
                        simpa using this
                      omega
                    obtain ⟨v4, w7, hrun4, hq4, hk4⟩ := (n1.below hba).run y wr.heap.size 28 (by simp) (by have := HY.out.2; have := HR.out.1; have := HR.out.2.1; have := HGK3.out.2.2.1; omega) hGq
                    have hq4c := hq4
                    obtain ⟨a4, c4, ev4, _⟩ := hq4c
                    have hl4 : (NX ++ [y]).length = nl + 1 := by rw [List.length_append, List.length_singleton, hnl]
                    rw [hl4] at ev4
                    subst ev4
                    have HF : Hid (ShM wl o s k (i * 100 + (q + 1)) (.slice (some ⟨rb, roff, none⟩) rl rc) R (.slice (some ⟨yb, 0, none⟩) Y oc) x1 (.slice a4 (nl + 1) c4) w7) := by
                      have e1 : Keeps (fun q => wl.heap.size ≤ q ∧ (Value.slice (some ⟨yb, 0, none⟩) Y oc).ownBlock ≠ some q) wr w7 := by
                        have e0 : Keeps (fun q => wl.heap.size ≤ q ∧ (Value.slice (some ⟨yb, 0, none⟩) Y oc).ownBlock ≠ some q) wr _ := Below.keeps hba _
                        exact e0.then hk4 (fun i h => .inl h.1)
                      refine ⟨NX ++ [y], hq4, by rw [List.length_append, List.length_singleton]; omega, fun z hz => ?_, n4.trans (e1.below (fun i h => h.1) n4.size), n5.keeps e1 (fun b cur hb _ h => by have := h.1; omega), rdU_keeps n6 e1 (fun q hq h => h.2 hq)⟩
                      rcases List.mem_append.1 hz with hz | hz
                      · exact n3 z hz
                      · rw [List.mem_singleton] at hz
                        subst hz
                        exact ⟨hyn, hlv⟩
                    have HGJ : Hid (gk - 1 < gk ∧ gk - 1 + (q + 1) = Y) := ⟨by omega, by omega⟩
                    have yq : q < 1152921504606846976 := by have := HY.out.2; omega
                    clear n1 n2 n3 n4 n5 n6 hql hyo hy hlv hnl hba hyb hGq hq4 hk4 hl4 HM hltq hq
                    go_wp2_with (first | (at_builtin; refine wpList_appU rfl _ _ _ rfl _ _ _ rfl rfl hrun4 ?_) | fail)
                    go_roundg (gk - 1)
                    case measure => exact HGJ.out.1
                    case rel => exact ⟨q + 1, nl + 1, c4, a4, HGJ.out.2, by go_num, rfl, HF.out⟩
                  · have hqY : q = Y := by omega
                    have hnI : ¬ (q : Int) < (Y : Int) := by omega
                    have HF : Hid (ShN wl o s k (i + 1) (.slice (some ⟨rb, roff, none⟩) rl rc) R (.slice na nl nc) wr) := ⟨NX, n1.mono (fun b hb _ => hb.1), by have := HY.out.2; omega, n3, n4, n5⟩
                    clear n1 n2 n3 n4 n5 n6 HM hqY hltq hq
                    go_wp2_with fail
                    go_roundg G3
                    case measure => exact HGK3.out.1
                    case rel => exact ⟨i + 1, nl, nc, na, HGK3.out.2.1, by go_num, rfl, HF.out⟩
              · have hiY : i = rl := by omega
                have hnI : ¬ (i : Int) < (rl : Int) := by omega
                obtain ⟨NX, n1, n2, n3, n4, n5⟩ := HN.out
                have hnl := n1.len
                have ynl : nl < 1152921504606846976 := by have := HR.out.1; have := HR.out.2.1; omega
                by_cases hbig : nl > 2000
                · have hbI : (nl : Int) > 2000 := by omega
                  have HE : Hid (Below w.heap.size w wr) := HG.out.2.2.2.2.2.2.trans ((bsplit H4.out.2.1 (bsplit HR.out.2.2.2 n4)).mono HG.out.2.2.2.2.2.2.size)
                  clear n1 n2 n3 n4 n5 HN hiY hbig hnl hlti hi
                  go_wp2
                  go_ret
                  exact ⟨rfl, HE.out⟩
                · have hbI : ¬ (nl : Int) > 2000 := by omega
                  have HF : Hid (ShL w4 o s (k + 1) (.slice na nl nc) wr) := ⟨NX, n1.mono (fun _ _ _ => trivial), by omega, n3, bsplit HR.out.2.2.2 n4⟩
                  clear n1 n2 n3 n4 n5 HN hiY hbig hnl hlti hi
                  go_wp2_with fail
                  go_roundg G2
                  case measure => exact HGK2.out.1
                  case rel => exact ⟨k + 1, nl, nc, na, HGK2.out.2.1, by go_num, rfl, HF.out⟩
          · have hkC : k = CM := by omega
            have hnI : ¬ (k : Int) < (CM : Int) := by omega
            have HF : Hid (Below w4.heap.size w4 wr) := by obtain ⟨_, _, _, _, h⟩ := HL.out; exact h
            clear HL hkC hltk hk
            go_wp2_with fail
            go_roundg G1
            case measure => exact HGK1.out.1
            case rel => exact ⟨j + 1, HGK1.out.2, by go_num, HF.out⟩
    · have hjN : j = K := by omega
      subst hjN
      have HE : Hid (Below w.heap.size w wr) := HG.out.2.2.2.2.2.2.trans ((bsplit H4.out.2.1 HB.out).mono HG.out.2.2.2.2.2.2.size)
      clear HB
      go_wp2
      go_ret
      exact ⟨rfl, HE.out⟩

end Go.Proofs.Ytjahielpllgjpaa
