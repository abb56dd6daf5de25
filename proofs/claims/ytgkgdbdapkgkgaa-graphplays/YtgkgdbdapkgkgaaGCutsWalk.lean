/- GraphCuts answers true. -/
import Derived.Test.YtgkgdbdapkgkgaaGrpH
namespace Go.Proofs.Ytgkgdbdapkgkgaa
set_option maxRecDepth 100000
open Go.RowKit Go.Maps
set_option linter.unusedVariables false
set_option linter.unusedSimpArgs false

theorem reach_mono {e e' : Nat → List Nat} (h : ∀ a b, b ∈ e a → b ∈ e' a) {s : Nat} : ∀ (n b : Nat), Go.Proofs.Ytgkgdbdapkgkgaa.Reach e s n b → Go.Proofs.Ytgkgdbdapkgkgaa.Reach e' s n b
  | 0, b, hb => h s b hb
  | n + 1, b, ⟨c, hc, hb⟩ => ⟨c, reach_mono h n c hc, h c b hb⟩

/-- who goes round is named by a link -/
theorem reach_named {e : Nat → List Nat} {ls : List (Nat × Nat)} (h : GL e ls) {s n : Nat} (hr : Go.Proofs.Ytgkgdbdapkgkgaa.Reach e s n s) : s ∈ ndK ls := by
  cases n with
  | zero => exact (ndK_mem ((h s s).1 hr)).1
  | succ n =>
    obtain ⟨c, _, hb⟩ := hr
    exact (ndK_mem ((h c s).1 hb)).2

/-- where Cycle finds none, there is no way round -/
theorem cyc_none {e o : Nat → List Nat} {ls : List (Nat × Nat)} {s : Nat} (h : GL e ls) (ho : ∀ a b, b ∈ o a ↔ (a, b) ∈ ls) (hb : bfsB o s ((ls.map (·.2)).length + 2) (fun _ => none) [s] = none) : ∀ n, ¬ Go.Proofs.Ytgkgdbdapkgkgaa.Reach e s n s := by
  intro n hr
  have hU : ∀ x, ∀ y ∈ o x, y ∈ ls.map (·.2) := fun x y hy => List.mem_map.2 ⟨_, (ho x y).1 hy, rfl⟩
  have hr' : Go.Proofs.Ytgkgdbdapkgkgaa.Reach o s n s := reach_mono (fun a b hab => (ho a b).2 ((h a b).1 hab)) n s hr
  have hun := vis_unv (fun _ => (none : Option Nat)) (ls.map (·.2))
  exact bfs_none hU _ _ _ (BfI.first o s _) (by rw [List.length_singleton]; omega) (fun x hx => by
    rcases hx with rfl | hx
    · exact .inl (by simp)
    · simp at hx) hb n s hr' rfl

/-- a victim's links are fewer by one at least -/
theorem cut_less {o : Nat → List Nat} {ls : List (Nat × Nat)} {s x M : Nat} {f : Nat → Option Nat} {P : List Nat} (ho : ∀ a b, b ∈ o a ↔ (a, b) ∈ ls) (hb : bfsB o s ((ls.map (·.2)).length + 2) (fun _ => none) [s] = some (f, x)) (hw : WayP f s (x :: P)) (ht : TopL M (x :: P)) : (cutL ls [M]).length < ls.length ∧ ∃ y, (M, y) ∈ ls := by
  have hU : ∀ x, ∀ y ∈ o x, y ∈ ls.map (·.2) := fun x y hy => List.mem_map.2 ⟨_, (ho x y).1 hy, rfl⟩
  obtain ⟨hsx, _, hf⟩ := bfs_some hU _ _ _ (BfI.first o s _) f x hb
  obtain ⟨h0, _, _, r3⟩ := ring_of hw hf hsx
  have hM : M ∈ (x :: P).reverse := by rw [List.mem_reverse]; exact ht.1
  obtain ⟨i, hi, e⟩ := List.getElem_of_mem hM
  have hl := (ho _ _).1 (r3 i hi)
  rw [e] at hl
  refine ⟨?_, _, hl⟩
  show (ls.filter (offK M)).length < ls.length
  refine List.length_filter_lt_length_iff_exists.2 ⟨_, hl, ?_⟩
  unfold offK
  simp

/-- what stands between two nodes: the links that are left -/
def CtI (B w3 : Nat) (w wr : World) (g nn : Nat) (nv : Value) (nds : List Nat) (ls : List (Nat × Nat)) (j i : Nat) : Prop :=
  ∃ e' ls', GrQ B wr g nn e' ∧ GL e' ls' ∧ (∀ l ∈ ls', l ∈ ls) ∧ ls'.length + i ≤ ls.length ∧ (∀ q, q < j → ∀ s, nds[q]? = some s → ∀ n, ¬ Go.Proofs.Ytgkgdbdapkgkgaa.Reach e' s n s) ∧ OwnU w3 wr nv nds ∧ Below w.heap.size w wr

theorem CtI.below {B w3 : Nat} {w wr w' : World} {g nn : Nat} {nv : Value} {nds : List Nat} {ls : List (Nat × Nat)} {j i : Nat} (h : CtI B w3 w wr g nn nv nds ls j i) (hb : Below wr.heap.size wr w') : CtI B w3 w w' g nn nv nds ls j i := by
  obtain ⟨e', ls', h1, h2, h3, h4, h5, h6, h7⟩ := h
  exact ⟨e', ls', h1.below hb, h2, h3, h4, h5, row_below h6 hb, bsplit h7 hb⟩

theorem graphCuts_walk (a1 : Option Addr) (len1 cap1 : Nat) (os : List GOp) (w : World) (ha : ArgGO w (.slice a1 len1 cap1) os) :
    Calls Try.prog 5 #[.slice a1 len1 cap1] w fun e w' => e = .returned (.bool true) ∧ Below w.heap.size w w' := by
  have haw := awake_any w
  have HA : Hid (ArgGO w (.slice a1 len1 cap1) os) := ha
  clear ha
  go_enter Try.func5, Try.ntmps5
  go_wp2_with fail
  refine haw.mono ?_
  rintro e1 w1 ⟨rfl, hb1⟩
  have hnw := grnew_any w1
  have HB1 : Hid (Below w.heap.size w w1) := hb1
  clear haw hb1
  go_wp2_with fail
  refine hnw.mono ?_
  rintro e2 w2 ⟨g, rfl, hg2, hb2⟩
  have hrn := run_any w1.heap.size w1 w2 g (.slice a1 len1 cap1) os rfl (HA.out.below HB1.out (Nat.le_refl _)) hb2 hg2
  have HB2 : Hid (Below w.heap.size w w2 ∧ w.heap.size ≤ w1.heap.size) := ⟨bsplit HB1.out hb2, HB1.out.size⟩
  clear hnw hg2 hb2
  go_wp2_with fail
  refine hrn.mono ?_
  rintro e3 w3 ⟨v3, ls, e, nn, rfl, ho3, hgl, hg3, hnn, hll, hnk, hb3⟩
  obtain ⟨la, lc, elv, _⟩ := row_slice9 ho3
  obtain ⟨LL, hLL⟩ : ∃ LL, ls.length = LL := ⟨_, rfl⟩
  rw [hLL] at elv
  subst elv
  have hnd := nodes_any w3 _ ls ho3.rd (by omega)
  have HLL : Hid (ls.length = LL) := hLL
  have HG : Hid (OwnK w2.heap.size w3 (.slice la LL lc) ls ∧ GL e ls ∧ GrQ w1.heap.size w3 g nn e ∧ nn ≤ 200 ∧ ls.length ≤ 100 ∧ NumK ls ∧ Below w.heap.size w w3) := ⟨ho3, hgl, hg3, hnn, hll, hnk, HB2.out.1.trans (hb3.mono HB2.out.2)⟩
  clear hrn ho3 hgl hg3 hnn hll hnk hb3 hLL
  go_wp2_with fail
  refine hnd.mono ?_
  rintro e4 w4 ⟨v4, rfl, ho4, hb4⟩
  obtain ⟨na, nc, env, _⟩ := row_slice9 ho4
  obtain ⟨K, hK⟩ : ∃ K, (ndK ls ++ [77]).length = K := ⟨_, rfl⟩
  rw [hK] at env
  subst env
  have H4 : Hid (OwnU w3.heap.size w4 (.slice (na) K nc) (ndK ls ++ [77]) ∧ Below w3.heap.size w3 w4 ∧ (ndK ls ++ [77]).length = K) := ⟨ho4, hb4, hK⟩
  clear hnd ho4 hb4 hK
  go_wp2_with fail
  obtain ⟨tb, tc, e9, _, _⟩ := RdU.at H4.out.1.rd 0 (by simp)
  rw [H4.out.2.2] at e9
  cases e9
  have HC0 : Hid (CtI w1.heap.size w3.heap.size w w4 g nn (.slice (some ⟨tb, 0, none⟩) K nc) (ndK ls ++ [77]) ls 0 0 ∧ ls.length = LL) := by
    refine ⟨⟨e, ls, HG.out.2.2.1.below H4.out.2.1, HG.out.2.1, fun l hl => hl, Nat.le_refl _, fun q hq => by omega, H4.out.1, ?_⟩, HLL.out⟩
    exact HG.out.2.2.2.2.2.2.trans (H4.out.2.1.mono HG.out.2.2.2.2.2.2.size)
  have hLL : LL < 1000 := by have := HG.out.2.2.2.2.1; have := HLL.out; omega
  go_loopg [20] K (fun gk iv wr => ∃ j : Nat, gk + j = K ∧ iv = .int .i64 (j : Int) ∧ Hid (CtI w1.heap.size w3.heap.size w wr g nn (.slice (some ⟨tb, 0, none⟩) K nc) (ndK ls ++ [77]) ls j 0))
  case atStart => exact ⟨0, by omega, rfl, HC0.out.1⟩
  case round =>
    obtain ⟨j, hj, rfl, HB⟩ := hrel
    by_cases hlt : j < K
    · have hlt2 : j < (ndK ls ++ [77]).length := by rw [H4.out.2.2]; exact hlt
      have hrow : OwnU w3.heap.size wr (.slice (some ⟨tb, 0, none⟩) K nc) (ndK ls ++ [77]) := by
        obtain ⟨e', ls', _, _, _, _, _, h6, _⟩ := HB.out
        exact h6
      obtain ⟨tb', tc', e9, _, t0⟩ := RdU.at hrow.rd j hlt2
      have e8 := (Addr.mk.inj (Option.some.inj (Value.slice.inj e9).1)).1
      rw [← e8] at t0
      clear e8 e9
      obtain ⟨q1, q2⟩ := gk_nxt hj hlt
      obtain ⟨s, hs⟩ : ∃ s, (ndK ls ++ [77])[j] = s := ⟨_, rfl⟩
      have hsn : s < 18446744073709551616 := by
        have hm : s ∈ ndK ls ++ [77] := by rw [← hs]; exact List.getElem_mem hlt2
        rcases List.mem_append.1 hm with h | h
        · unfold ndK at h
          obtain ⟨l, hl, h9⟩ := List.mem_flatMap.1 h
          have := HG.out.2.2.2.2.2.1 l hl
          simp at h9
          rcases h9 with h9 | h9 <;> omega
        · simp at h; omega
      rw [hs] at t0
      have HS : Hid ((ndK ls ++ [77])[j]? = some s ∧ s < 18446744073709551616) := ⟨by rw [List.getElem?_eq_getElem hlt2, hs], hsn⟩
      clear hrow hsn hs
      go_wp2_with fail
      obtain ⟨G, hG⟩ : ∃ G, gk - 1 = G := ⟨_, rfl⟩
      have HGK : Hid (G < gk ∧ G + (j + 1) = K) := ⟨by omega, by omega⟩
      clear hG t0
      go_loopg [27] (LL + 1) (fun gk iv wr => ∃ i : Nat, gk + i = LL + 1 ∧ iv = .int .i64 (i : Int) ∧ Hid (CtI w1.heap.size w3.heap.size w wr g nn (.slice (some ⟨tb, 0, none⟩) K nc) (ndK ls ++ [77]) ls j i))
      case atStart => exact ⟨0, by omega, rfl, HB.out⟩
      case round =>
        obtain ⟨i, hi, rfl, HC⟩ := hrel
        obtain ⟨e', ls', c1, c2, c3, c4, c5, c6, c7⟩ := HC.out
        have hiL : i < LL + 1 := by have := HC0.out.2; omega
        obtain ⟨g1, g2⟩ := gk_nxt hi hiL
        have hiI : (i : Int) < (LL : Int) + 1 := by omega
        have hex : ∃ o : Nat → List Nat, ∀ k, Rise (e' k) (o k) := ⟨fun k => Classical.choose (rise_ex (e' k)), fun k => Classical.choose_spec (rise_ex (e' k))⟩
        obtain ⟨o, ho⟩ := hex
        have hol : ∀ a b, b ∈ o a ↔ (a, b) ∈ ls' := fun a b => by rw [(ho a).1.2, c2 a b]
        have hoU : ∀ x, ∀ y ∈ o x, y ∈ ls'.map (·.2) := fun x y hy => List.mem_map.2 ⟨_, (hol x y).1 hy, rfl⟩
        have hUn : ∀ x ∈ ls'.map (·.2), x < 18446744073709551616 := fun x hx => by obtain ⟨l, hl, rfl⟩ := List.mem_map.1 hx; exact (HG.out.2.2.2.2.2.1 l (c3 l hl)).2
        have hUl : (ls'.map (·.2)).length ≤ 10000 := by rw [List.length_map]; have := HG.out.2.2.2.2.1; omega
        have hnn9 : nn ≤ 100000 := by have := HG.out.2.2.2.1; omega
        have hvi := grvictim_any w1.heap.size wr g nn s e' o (ls'.map (·.2)) c1 ho hoU hUn HS.out.2 hUl hnn9
        have HO : Hid ((∀ a b, b ∈ o a ↔ (a, b) ∈ ls') ∧ (∀ k, Rise (e' k) (o k)) ∧ (∀ x, ∀ y ∈ o x, y ∈ ls'.map (·.2)) ∧ (∀ x ∈ ls'.map (·.2), x < 18446744073709551616) ∧ (ls'.map (·.2)).length ≤ 10000 ∧ nn ≤ 100000) := ⟨hol, ho, hoU, hUn, hUl, hnn9⟩
        have HI : Hid (GrQ w1.heap.size wr g nn e' ∧ GL e' ls' ∧ (∀ l ∈ ls', l ∈ ls) ∧ ls'.length + i ≤ ls.length ∧ (∀ q, q < j → ∀ s, (ndK ls ++ [77])[q]? = some s → ∀ n, ¬ Go.Proofs.Ytgkgdbdapkgkgaa.Reach e' s n s) ∧ OwnU w3.heap.size wr (.slice (some ⟨tb, 0, none⟩) K nc) (ndK ls ++ [77]) ∧ Below w.heap.size w wr) := ⟨c1, c2, c3, c4, c5, c6, c7⟩
        clear ho hol hoU hUn hUl hnn9 c1 c2 c3 c4 c5 c6 c7 HC
        go_wp2_with fail
        refine hvi.mono ?_
        intro e5 w5 hp
        obtain ⟨hb5, ⟨rfl, hbn⟩ | ⟨M, f, x, P, rfl, hbs, hw, ht⟩⟩ := hp
        · have hcy := cycle_any w1.heap.size w5 g nn s e' o (ls'.map (·.2)) (HI.out.1.below hb5) HO.out.2.1 HO.out.2.2.1 HO.out.2.2.2.1 HS.out.2 HO.out.2.2.2.2.1 HO.out.2.2.2.2.2
          have H5 : Hid (bfsB o s ((ls'.map (·.2)).length + 2) (fun _ => none) [s] = none ∧ Below wr.heap.size wr w5) := ⟨hbn, hb5⟩
          clear hvi hb5 hbn
          go_wp2_with fail
          refine hcy.mono ?_
          intro e6 w6 hp6
          obtain ⟨hb6, ⟨rfl, _⟩ | ⟨v, f, x, P, rfl, hbs, hw, hv⟩⟩ := hp6
          · have HF : Hid (CtI w1.heap.size w3.heap.size w w6 g nn (.slice (some ⟨tb, 0, none⟩) K nc) (ndK ls ++ [77]) ls (j + 1) 0) := by
              have h9 : CtI w1.heap.size w3.heap.size w wr g nn (.slice (some ⟨tb, 0, none⟩) K nc) (ndK ls ++ [77]) ls (j + 1) 0 := by
                refine ⟨e', ls', HI.out.1, HI.out.2.1, HI.out.2.2.1, by have := HI.out.2.2.2.1; omega, fun q hq t ht => ?_, HI.out.2.2.2.2.2.1, HI.out.2.2.2.2.2.2⟩
                by_cases hqj : q = j
                · subst hqj
                  rw [HS.out.1] at ht
                  cases ht
                  exact cyc_none HI.out.2.1 HO.out.1 H5.out.1
                · exact HI.out.2.2.2.2.1 q (by omega) t ht
              exact (h9.below H5.out.2).below hb6
            clear hcy hb6
            go_wp2_with fail
            go_roundg G
            case measure => exact HGK.out.1
            case rel => exact ⟨j + 1, HGK.out.2, by go_num, HF.out⟩
          · rw [H5.out.1] at hbs
            cases hbs
        · obtain ⟨hless, y, hMy⟩ := cut_less HO.out.1 hbs hw ht
          have hMn := (HG.out.2.2.2.2.2.1 _ (HI.out.2.2.1 _ hMy)).1
          have hba := below_box4 w5 (.cells #[.int .u64 (M : Int)] 30)
          have hrl : RdU (w5.alloc (.cells #[.int .u64 (M : Int)] 30)) (.slice (some ⟨w5.heap.size, 0, none⟩) 1 1) [M] := RdU.lits w5 [M] (by unfold maxLen; simp)
          have hct := cut_any w1.heap.size _ g nn e' _ [M] ((HI.out.1.below hb5).below hba) hrl (by intro n hn; rw [List.mem_singleton] at hn; subst hn; exact hMn) (by simp)
          have H5 : Hid ((cutL ls' [M]).length < ls'.length ∧ Below wr.heap.size wr (w5.alloc (.cells #[.int .u64 (M : Int)] 30))) := ⟨hless, bsplit hb5 hba⟩
          have hnI : ¬ (false = true) := by decide
          clear hvi hb5 hbs hw ht hless hMy hMn hba hrl
          go_wp2_with fail
          refine hct.mono ?_
          rintro e6 w6 ⟨rfl, hg6, hk6⟩
          have HF : Hid (CtI w1.heap.size w3.heap.size w w6 g nn (.slice (some ⟨tb, 0, none⟩) K nc) (ndK ls ++ [77]) ls j (i + 1)) := by
            refine ⟨_, _, hg6, HI.out.2.1.cut [M], fun l hl => HI.out.2.2.1 l ((cutL_mem _ _ _).1 hl).1, by have := HI.out.2.2.2.1; have := H5.out.1; omega, fun q hq t ht n hr => ?_, row_keepsM (row_below HI.out.2.2.2.2.2.1 H5.out.2) hk6, ?_⟩
            · refine HI.out.2.2.2.2.1 q hq t ht n (reach_mono (fun a b hab => ?_) n t hr)
              rw [HI.out.2.1 a b]
              exact ((cutL_mem _ _ _).1 ((HI.out.2.1.cut [M] a b).1 hab)).1
            · have hb := bsplit HI.out.2.2.2.2.2.2 H5.out.2
              exact hb.trans (hk6.below (fun q h => Nat.le_trans HB2.out.2 h.1) hb.size)
          clear hct hg6 hk6
          go_wp2_with fail
          go_roundg (gk - 1)
          case measure => exact g1
          case rel => exact ⟨i + 1, g2, by go_num, HF.out⟩
    · have hjN : j = K := by omega
      subst hjN
      obtain ⟨e', ls', c1, c2, c3, c4, c5, c6, c7⟩ := HB.out
      have hfr := free_any w1.heap.size wr g nn e' c1 (by have := HG.out.2.2.2.1; omega)
      have HI : Hid (GL e' ls' ∧ (∀ l ∈ ls', l ∈ ls) ∧ (∀ q, q < j → ∀ s, (ndK ls ++ [77])[q]? = some s → ∀ n, ¬ Go.Proofs.Ytgkgdbdapkgkgaa.Reach e' s n s) ∧ Below w.heap.size w wr) := ⟨c2, c3, c5, c7⟩
      clear c1 c2 c3 c4 c5 c6 c7 HB
      go_wp2_with fail
      refine hfr.mono ?_
      rintro e5 w5 ⟨hb5, bb, rfl, _, hbf⟩
      have hbb : bb = true := by
        cases bb with
        | true => rfl
        | false =>
          obtain ⟨s, n, hr⟩ := hbf rfl
          have hm : s ∈ ndK ls := by
            have h9 := reach_named HI.out.1 hr
            unfold ndK at h9 ⊢
            obtain ⟨l, hl, h8⟩ := List.mem_flatMap.1 h9
            exact List.mem_flatMap.2 ⟨l, HI.out.2.1 l hl, h8⟩
          obtain ⟨q, hq, e9⟩ := List.getElem_of_mem (List.mem_append_left [77] hm)
          exact absurd hr (HI.out.2.2.1 q (by have := H4.out.2.2; omega) s (by rw [List.getElem?_eq_getElem hq, e9]) n)
      subst hbb
      have HE : Hid (Below w.heap.size w w5) := bsplit HI.out.2.2.2 hb5
      clear hfr hb5 hbf
      go_wp2_with fail
      go_ret
      exact ⟨rfl, HE.out⟩

end Go.Proofs.Ytgkgdbdapkgkgaa
