/- GraphCycles answers true. -/
import Derived.Test.YtgkgdbdapkgkgaaGrpH
namespace Go.Proofs.Ytgkgdbdapkgkgaa
set_option maxRecDepth 100000
open Go.RowKit Go.Maps
set_option linter.unusedVariables false
set_option linter.unusedSimpArgs false

theorem graphCycles_walk (a1 : Option Addr) (len1 cap1 : Nat) (os : List GOp) (w : World) (ha : ArgGO w (.slice a1 len1 cap1) os) :
    Calls Try.prog 4 #[.slice a1 len1 cap1] w fun e w' => e = .returned (.bool true) ∧ Below w.heap.size w w' := by
  have haw := awake_any w
  have HA : Hid (ArgGO w (.slice a1 len1 cap1) os) := ha
  clear ha
  go_enter Try.func4, Try.ntmps4
  go_wp2_with fail
  refine haw.mono ?_
  rintro e1 w1 ⟨rfl, hb1⟩
  have hnw := grnew_any w1
  have HB1 : Hid (Below w.heap.size w w1) := hb1
  clear haw hb1
  go_wp2_with fail
  refine hnw.mono ?_
  rintro e2 w2 ⟨g, rfl, hg2, hb2⟩
  have hrn := run_any w1.heap.size w1 w2 g (.slice a1 len1 cap1) os rfl (HA.out.below HB1.out (Nat.le_refl _)) hb2 hg2
  have HB2 : Hid (Below w.heap.size w w2 ∧ w.heap.size ≤ w1.heap.size) := ⟨bsplit HB1.out hb2, HB1.out.size⟩
  clear hnw hg2 hb2
  go_wp2_with fail
  refine hrn.mono ?_
  rintro e3 w3 ⟨v3, ls, e, nn, rfl, ho3, hgl, hg3, hnn, hll, hnk, hb3⟩
  obtain ⟨la, lc, elv, _⟩ := row_slice9 ho3
  obtain ⟨LL, hLL⟩ : ∃ LL, ls.length = LL := ⟨_, rfl⟩
  rw [hLL] at elv
  subst elv
  have hnd := nodes_any w3 _ ls ho3.rd (by omega)
  have HG : Hid (OwnK w2.heap.size w3 (.slice la LL lc) ls ∧ GL e ls ∧ GrQ w1.heap.size w3 g nn e ∧ nn ≤ 200 ∧ ls.length ≤ 100 ∧ NumK ls ∧ Below w.heap.size w w3) := ⟨ho3, hgl, hg3, hnn, hll, hnk, HB2.out.1.trans (hb3.mono HB2.out.2)⟩
  clear hrn ho3 hgl hg3 hnn hll hnk hb3 hLL
  go_wp2_with fail
  refine hnd.mono ?_
  rintro e4 w4 ⟨v4, rfl, ho4, hb4⟩
  obtain ⟨na, nc, env, _⟩ := row_slice9 ho4
  obtain ⟨K, hK⟩ : ∃ K, (ndK ls ++ [77]).length = K := ⟨_, rfl⟩
  rw [hK] at env
  subst env
  have H4 : Hid (OwnU w3.heap.size w4 (.slice (na) K nc) (ndK ls ++ [77]) ∧ Below w3.heap.size w3 w4 ∧ (ndK ls ++ [77]).length = K) := ⟨ho4, hb4, hK⟩
  clear hnd ho4 hb4 hK
  go_wp2_with fail
  go_loopg [21] K (fun gk iv wr => ∃ j : Nat, gk + j = K ∧ iv = .int .i64 (j : Int) ∧ Hid (Below w4.heap.size w4 wr))
  case atStart => exact ⟨0, by omega, rfl, Below.refl _ _⟩
  case round =>
    obtain ⟨j, hj, rfl, HB⟩ := hrel
    by_cases hlt : j < K
    · have hlt2 : j < (ndK ls ++ [77]).length := by rw [H4.out.2.2]; exact hlt
      obtain ⟨tb, tc, e9, _, t0⟩ := RdU.at (row_below H4.out.1.rd HB.out) j hlt2
      rw [H4.out.2.2] at e9
      cases e9
      obtain ⟨q1, q2⟩ := gk_nxt hj hlt
      obtain ⟨s, hs⟩ : ∃ s, (ndK ls ++ [77])[j] = s := ⟨_, rfl⟩
      have hsn : s < 18446744073709551616 := by
        have hm : s ∈ ndK ls ++ [77] := by rw [← hs]; exact List.getElem_mem hlt2
        rcases List.mem_append.1 hm with h | h
        · unfold ndK at h
          obtain ⟨l, hl, h9⟩ := List.mem_flatMap.1 h
          have := HG.out.2.2.2.2.2.1 l hl
          simp at h9
          rcases h9 with h9 | h9 <;> omega
        · simp at h; omega
      rw [hs] at t0
      have hex : ∃ o : Nat → List Nat, ∀ k, Rise (e k) (o k) := ⟨fun k => Classical.choose (rise_ex (e k)), fun k => Classical.choose_spec (rise_ex (e k))⟩
      obtain ⟨o, ho⟩ := hex
      have hol : ∀ a b, b ∈ o a ↔ (a, b) ∈ ls := fun a b => by rw [(ho a).1.2, HG.out.2.1 a b]
      have hoU : ∀ x, ∀ y ∈ o x, y ∈ ls.map (·.2) := fun x y hy => List.mem_map.2 ⟨_, (hol x y).1 hy, rfl⟩
      have hgr : GrQ w1.heap.size wr g nn e := (HG.out.2.2.1.below H4.out.2.1).below HB.out
      have hcy := cycle_any w1.heap.size wr g nn s e o (ls.map (·.2)) hgr ho hoU (fun x hx => by obtain ⟨l, hl, rfl⟩ := List.mem_map.1 hx; exact (HG.out.2.2.2.2.2.1 l hl).2) hsn (by rw [List.length_map]; have := HG.out.2.2.2.2.1; omega) (by have := HG.out.2.2.2.1; omega)
      have HO : Hid ((∀ a b, b ∈ o a ↔ (a, b) ∈ ls) ∧ (∀ x, ∀ y ∈ o x, y ∈ ls.map (·.2)) ∧ s < 18446744073709551616) := ⟨hol, hoU, hsn⟩
      clear ho hol hoU hgr hsn hs
      go_wp2_with fail
      refine hcy.mono ?_
      intro e5 w5 hp
      obtain ⟨hb5, ⟨rfl, _⟩ | ⟨v, f, x, P, rfl, hbs, hw, hv⟩⟩ := hp
      · have HF : Hid (Below w4.heap.size w4 w5) := bsplit HB.out hb5
        clear hcy hb5 t0
        go_wp2_with fail
        go_roundg (gk - 1)
        case measure => exact q1
        case rel => exact ⟨j + 1, q2, by go_num, HF.out⟩
      · obtain ⟨hsx, _, hf⟩ := bfs_some HO.out.2.1 _ _ _ (BfI.first o s _) f x hbs
        obtain ⟨h0, r1, r2, r3⟩ := ring_of hw hf hsx
        obtain ⟨C, hC⟩ : ∃ C, (x :: P).reverse = C := ⟨_, rfl⟩
        have HR : Hid (∃ h0 : 0 < C.length, C[0] = s ∧ C.Nodup ∧ ∀ i (hi : i < C.length), C[(i + 1) % C.length]'(Nat.mod_lt _ h0) ∈ o C[i]) := by
          subst hC
          exact ⟨h0, r1, r2, r3⟩
        rw [hC] at hv
        obtain ⟨ca, cc, ecv, _⟩ := row_slice9 hv
        obtain ⟨CN, hCN⟩ : ∃ CN, C.length = CN := ⟨_, rfl⟩
        rw [hCN] at ecv
        subst ecv
        have H5 : Hid (RdU w5 (.slice ca CN cc) C ∧ Below w4.heap.size w4 w5 ∧ C.length = CN) := ⟨hv.rd, bsplit HB.out hb5, hCN⟩
        clear hcy hb5 t0 hbs hw hv hsx hf h0 r1 r2 r3 hC hCN
        have hmk : (Instr.makeMap 39 none).run Try.prog w5 = .ok (.map (some w5.heap.size)) (w5.alloc (.map #[] 0)) := run_makeMap _ w5
        have H6 : Hid (MapG (w5.alloc (.map #[] 0)) w5.heap.size 0 [] ∧ Below w5.heap.size w5 (w5.alloc (.map #[] 0))) := ⟨MapG.made w5, below_box4 w5 _⟩
        go_wp2_with fail
        obtain ⟨G, hG⟩ : ∃ G, gk - 1 = G := ⟨_, rfl⟩
        have HGK : Hid (G < gk ∧ G + (j + 1) = K) := ⟨by omega, by omega⟩
        clear hmk hG
        go_loopg [36] CN (fun gk iv wr => ∃ i : Nat, gk + i = CN ∧ iv = .int .i64 (i : Int) ∧ Hid (MapG wr w5.heap.size i (C.take i) ∧ Below w5.heap.size w5 wr))
        case atStart => exact ⟨0, by omega, rfl, by rw [List.take_zero]; exact H6.out.1, H6.out.2⟩
        case round =>
          obtain ⟨i, hi, rfl, HC⟩ := hrel
          obtain ⟨h0, r1, r2, r3⟩ := HR.out
          have hrd := row_below H5.out.1 HC.out.2
          by_cases hlti : i < CN
          · have hil : i < C.length := by rw [H5.out.2.2]; exact hlti
            obtain ⟨pb, pc, e9, _, t1⟩ := RdU.at hrd i hil
            rw [H5.out.2.2] at e9
            cases e9
            have hml : (i + 1) % C.length < C.length := Nat.mod_lt _ h0
            obtain ⟨pb2, pc2, e8, _, t2⟩ := RdU.at hrd ((i + 1) % C.length) hml
            rw [H5.out.2.2] at e8
            cases e8
            have hlink := (HO.out.1 _ _).1 (r3 i hil)
            have hnum := HG.out.2.2.2.2.2.1 _ hlink
            have htk : C.take (i + 1) = C.take i ++ [C[i]] := by rw [List.take_succ_eq_append_getElem hil]
            have hnin : C[i] ∉ C.take i := fun h9 => by
              obtain ⟨a, ha, e⟩ := List.getElem_of_mem h9
              rw [List.getElem_take] at e
              have hai : a < i := by rw [List.length_take] at ha; omega
              have := (List.getElem_inj r2).1 e
              omega
            obtain ⟨x1, hx1⟩ : ∃ x1, C[i] = x1 := ⟨_, rfl⟩
            obtain ⟨x2, hx2⟩ : ∃ x2, C[(i + 1) % C.length] = x2 := ⟨_, rfl⟩
            obtain ⟨m9, hm9⟩ : ∃ m9, (i + 1) % C.length = m9 := ⟨_, rfl⟩
            rw [hx1] at t1 hlink hnum htk hnin
            rw [hx2] at t2 hlink hnum
            rw [hm9] at t2 hml
            rw [H5.out.2.2] at hm9 hml
            obtain ⟨i1, hi1⟩ : ∃ i1, i + 1 = i1 := ⟨_, rfl⟩
            have ei1 : (i : Int) + 1 = (i1 : Int) := by omega
            have hmI : (i1 : Int) % (CN : Int) = (m9 : Int) := by rw [← hm9, hi1]; omega
            have hC0 : ¬ (CN : Int) = 0 := by omega
            have hlook := HC.out.1.look x1 hnum.1
            rw [decide_eq_false hnin] at hlook
            have hhas := refhas_any wr (.slice la LL lc) ls x1 x2 (row_below (row_below (row_below HG.out.1.rd H4.out.2.1) H5.out.2.1) HC.out.2) (by have := HG.out.2.2.2.2.1; omega)
            rw [decide_eq_true hlink] at hhas
            obtain ⟨g1, g2⟩ := gk_nxt hi hlti
            have HT : Hid (C.take (i + 1) = C.take i ++ [x1] ∧ x1 < 18446744073709551616 ∧ i + 1 = i1 ∧ gk - 1 + i1 = CN ∧ C.length = CN) := ⟨htk, hnum.1, hi1, by omega, H5.out.2.2⟩
            have y1 : i1 < 1152921504606846976 := by
              have hCl : CN ≤ 1000000 := by
                have := sub_len C (ls.map (·.2) ++ ls.map (·.1)) r2 (fun z hz => by
                  obtain ⟨a, ha, rfl⟩ := List.getElem_of_mem hz
                  have h9 := (HO.out.1 _ _).1 (r3 a ha)
                  exact List.mem_append.2 (.inr (List.mem_map.2 ⟨_, h9, rfl⟩)))
                rw [List.length_append, List.length_map, List.length_map] at this
                have := HG.out.2.2.2.2.1
                have := H5.out.2.2
                omega
              omega
            clear htk hnum hnin hlink hx1 hx2 hm9 hi1 hrd h0 r1 r2 r3 hil
            go_wp2_with fail
            refine hhas.mono ?_
            rintro e6 w6 ⟨rfl, hb6⟩
            obtain ⟨D, hm, hat⟩ := HC.out.1.below hb6
            obtain ⟨w7, hrun7, ho7, hg7⟩ := hm.update (int_keyed Try.underlying30) Try.underlying39 (by unfold maxLen; omega) (keyU HT.out.2.1) (val := .bool true) (d := .lit (.bool true)) (ps := []) (plainElem_bool Try.underlying4 true)
            have HF : Hid (MapG w7 w5.heap.size i1 (C.take i1) ∧ Below w5.heap.size w5 w7) := by
              have hp := MapG.put hm hat ho7
              rw [← HT.out.1, HT.out.2.2.1] at hp
              have hb := bsplit HC.out.2 hb6
              exact ⟨hp, hb.trans ((keeps_grown (F := fun q => q = w5.heap.size) hg7 (fun q e => by cases e; rfl)).below (fun i e => by rw [e]; exact Nat.le_refl _) hb.size)⟩
            clear hhas hb6 hm hat ho7 hg7 t1 t2 hlook
            go_wp2_with fail
            go_roundg (gk - 1)
            case measure => exact g1
            case rel => exact ⟨i1, HT.out.2.2.2.1, rfl, HF.out⟩
          · have hiC : i = CN := by omega
            have hnI : ¬ (i : Int) < (CN : Int) := by omega
            obtain ⟨pb, pc, e9, _, t1⟩ := RdU.at hrd 0 h0
            rw [H5.out.2.2] at e9
            cases e9
            rw [r1] at t1
            have hCp : 0 < CN := by have := H5.out.2.2; omega
            have HF : Hid (Below w4.heap.size w4 wr) := bsplit H5.out.2.1 HC.out.2
            clear HC hi hiC hrd h0 r1 r2 r3
            go_wp2_with fail
            go_roundg G
            case measure => exact HGK.out.1
            case rel => exact ⟨j + 1, HGK.out.2, by go_num, HF.out⟩
    · have hjN : j = K := by omega
      subst hjN
      have HE : Hid (Below w.heap.size w wr) := HG.out.2.2.2.2.2.2.trans ((bsplit H4.out.2.1 HB.out).mono HG.out.2.2.2.2.2.2.size)
      clear HB
      go_wp2
      go_ret
      exact ⟨rfl, HE.out⟩

end Go.Proofs.Ytgkgdbdapkgkgaa
