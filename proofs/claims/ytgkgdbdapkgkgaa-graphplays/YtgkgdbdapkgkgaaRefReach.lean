/- bartizanref18.reach: is there a way of just so many links? -/
import Derived.Test.YtgkgdbdapkgkgaaGrpH
import Derived.Test.YtgkgdbdapkgkgaaGrpG
namespace Go.Proofs.Ytgkgdbdapkgkgaa
set_option maxRecDepth 100000
open Go.RowKit Go.Maps
set_option linter.unusedVariables false
set_option linter.unusedSimpArgs false

/-- between two lengths -/
def RcI (w : World) (o : Nat → List Nat) (a k : Nat) (rv : Value) (wr : World) : Prop :=
  ∃ R, QAt (fun b => w.heap.size ≤ b) wr rv R ∧ R.length ≤ 1000 ∧ (∀ z, z ∈ R ↔ LvB o a k z) ∧ Below w.heap.size w wr

/-- between two links -/
def RcJ (wl : World) (ls : List (Nat × Nat)) (R : List Nat) (rv : Value) (j : Nat) (nv : Value) (wr : World) : Prop :=
  ∃ NX, QAt (fun b => wl.heap.size ≤ b) wr nv NX ∧ NX.length ≤ j ∧ (∀ z, z ∈ NX ↔ ∃ x, x ∈ R ∧ (x, z) ∈ ls.take j) ∧ Below wl.heap.size wl wr ∧ QAt (fun b => b < wl.heap.size) wr rv R

set_option maxHeartbeats 2000000 in
theorem reach_any (w : World) (v : Value) (ls : List (Nat × Nat)) (a b n : Nat) (o : Nat → List Nat) (h : RdK w v ls) (hol : ∀ x y, y ∈ o x ↔ (x, y) ∈ ls) (hl : ls.length ≤ 1000) (hn : n ≤ 1000000) :
    Calls Try.prog 23 #[v, .int .u64 (a : Int), .int .u64 (b : Int), .int .i64 (n : Int)] w fun e w' => ∃ bb : Bool, e = .returned (.bool bb) ∧ (bb = true ↔ LvB o a n b) ∧ Below w.heap.size w w' := by
  obtain ⟨va, vc, rfl, hvc, hvc2⟩ := row_slice9 h
  obtain ⟨N, hN⟩ : ∃ N, ls.length = N := ⟨_, rfl⟩
  have HV : Hid (RdK w (.slice va ls.length vc) ls) := h
  have HN : Hid (ls.length = N ∧ N ≤ 1000 ∧ ∀ x y, y ∈ o x ↔ (x, y) ∈ ls) := ⟨hN, by omega, hol⟩
  have yn : n < 1152921504606846976 := by omega
  have yN : N < 1152921504606846976 := by omega
  rw [hN] at HV hvc ⊢
  have HS0 : Hid (RcI w o a 0 (.slice (some ⟨w.heap.size, 0, none⟩) 1 1) (w.alloc (.cells #[.int .u64 (a : Int)] 30))) :=
    ⟨[a], qat_one w a _ (Nat.le_refl _), by simp, fun z => by rw [List.mem_singleton]; exact Iff.rfl, below_box4 w _⟩
  clear h hN hol hl hn
  go_enter Try.func23, Try.ntmps23
  go_wp2_with fail
  go_loopg [9, 24] n (fun gk rv iv wr => ∃ (k rl rc : Nat) (ra : Option Addr), gk + k = n ∧ iv = .int .i64 (k : Int) ∧ rv = .slice ra rl rc ∧ Hid (RcI w o a k (.slice ra rl rc) wr))
  case atStart => exact ⟨0, 1, 1, _, by omega, rfl, rfl, HS0.out⟩
  case round =>
    clear HS0
    obtain ⟨k, rl, rc, ra, hk, rfl, rfl, HI⟩ := hrel
    by_cases hltk : k < n
    · obtain ⟨wl, hwl⟩ : ∃ wl, wl = wr := ⟨_, rfl⟩
      subst hwl
      obtain ⟨R, l1, l2, l3, l4⟩ := HI.out
      have hRl := l1.len
      have HR : Hid (rl = R.length ∧ R.length ≤ 1000 ∧ (∀ z, z ∈ R ↔ LvB o a k z) ∧ Below w.heap.size w wl) := ⟨hRl, l2, l3, l4⟩
      have HJ0 : Hid (RcJ wl ls R (.slice ra rl rc) 0 (.slice none 0 0) wl) := ⟨[], QAt.nil _ _, by simp, fun z => by simp, Below.refl _ _, l1.mono (fun b _ h => h)⟩
      obtain ⟨G1, hG1⟩ : ∃ G, gk - 1 = G := ⟨_, rfl⟩
      have HGK1 : Hid (G1 < gk ∧ G1 + (k + 1) = n) := ⟨by omega, by omega⟩
      have hkI : (k : Int) < (n : Int) := by omega
      have yk : k < 1152921504606846976 := by omega
      have yrl : rl < 1152921504606846976 := by omega
      clear hG1 l1 l2 l3 l4 hRl HI hltk hk
      go_wp2_with fail
      go_loopg [10, 28] N (fun gk nv iv wr => ∃ (j nl nc : Nat) (na : Option Addr), gk + j = N ∧ iv = .int .i64 (j : Int) ∧ nv = .slice na nl nc ∧ Hid (RcJ wl ls R (.slice ra rl rc) j (.slice na nl nc) wr))
      case atStart => exact ⟨0, 0, 0, none, by omega, rfl, rfl, HJ0.out⟩
      case round =>
        clear HJ0
        obtain ⟨j, nl, nc, na, hj, rfl, rfl, HJ⟩ := hrel
        by_cases hlt : j < N
        · obtain ⟨NX, n1, n2, n3, n4, n5⟩ := HJ.out
          have hlt2 : j < ls.length := by rw [HN.out.1]; exact hlt
          obtain ⟨bq, c, e, _, c0, c1⟩ := RdK.at (row_below HV.out (bsplit HR.out.2.2.2 n4)) j hlt2
          rw [HN.out.1] at e
          cases e
          obtain ⟨q1, q2⟩ := gk_nxt hj hlt
          have htk : ls.take (j + 1) = ls.take j ++ [ls[j]] := by rw [List.take_succ_eq_append_getElem hlt2]
          obtain ⟨l, hl⟩ : ∃ l, ls[j] = l := ⟨_, rfl⟩
          rw [hl] at c0 c1 htk
          obtain ⟨x, y⟩ := l
          have hb0 := below_box4 wr (.cells #[.int .u64 (x : Int), .int .u64 (y : Int)] 49)
          obtain ⟨z0, z1⟩ := box2_new wr (.int .u64 (x : Int)) (.int .u64 (y : Int)) 49
          have hnl := n1.len
          obtain ⟨W1, hW1⟩ : ∃ W1, wr.alloc (.cells #[.int .u64 (x : Int), .int .u64 (y : Int)] 49) = W1 := ⟨_, rfl⟩
          have HW1 : Hid (wr.alloc (.cells #[.int .u64 (x : Int), .int .u64 (y : Int)] 49) = W1) := hW1
          rw [hW1] at hb0
          have y0 := z0
          have y1 := z1
          rw [hW1] at y0 y1
          have HL : Hid (QAt (fun b => wl.heap.size ≤ b) W1 (.slice na nl nc) NX ∧ NX.length ≤ j ∧ (∀ z, z ∈ NX ↔ ∃ x, x ∈ R ∧ (x, z) ∈ ls.take j) ∧ Below wl.heap.size wl W1 ∧ QAt (fun b => b < wl.heap.size) W1 (.slice ra rl rc) R ∧ nl = NX.length ∧ ls.take (j + 1) = ls.take j ++ [(x, y)] ∧ j < N) := ⟨n1.below hb0, n2, n3, bsplit n4 hb0, n5.below hb0, hnl, htk, hlt⟩
          obtain ⟨G2, hG2⟩ : ∃ G, gk - 1 = G := ⟨_, rfl⟩
          have HGK2 : Hid (G2 < gk ∧ G2 + (j + 1) = N) := ⟨by omega, by omega⟩
          have hjI : (j : Int) < (N : Int) := by omega
          have yj : j < 1152921504606846976 := by omega
          have ynl : nl < 1152921504606846976 := by omega
          clear hG2 q1 q2 n1 n2 n3 n4 n5 hb0 hnl htk hl hlt hlt2 hj HJ hW1
          go_wp2_with fail
          go_loopg [13, 34] rl (fun gk bv iv wx => ∃ (i : Nat) (b3 : Bool), gk + i = rl ∧ iv = .int .i64 (i : Int) ∧ bv = .bool b3 ∧ Hid (b3 = decide (x ∈ R.take i)) ∧ wx = W1)
          case atStart => exact ⟨0, false, by omega, rfl, rfl, by simp [Hid], HW1.out⟩
          case round =>
            clear z0 z1 c0 c1 HW1
            obtain ⟨i, b3, hi, rfl, rfl, HB3, rfl⟩ := hrel
            by_cases hlti : i < rl
            · have hiR : i < R.length := by rw [← HR.out.1]; exact hlti
              obtain ⟨rb, roff, rc', e9, t1⟩ := HL.out.2.2.2.2.1.at i hiR
              rw [← HR.out.1] at e9
              cases e9
              have htk : R.take (i + 1) = R.take i ++ [R[i]] := by rw [List.take_succ_eq_append_getElem hiR]
              obtain ⟨r, hr⟩ : ∃ r, R[i] = r := ⟨_, rfl⟩
              rw [hr] at t1 htk
              obtain ⟨g1, g2⟩ := gk_nxt hi hlti
              have HT : Hid (R.take (i + 1) = R.take i ++ [r]) := htk
              have hiI : (i : Int) < (rl : Int) := by omega
              have yi : i < 1152921504606846976 := by omega
              clear htk hr hiR hlti hi
              cases b3 with
              | true =>
                have HF : Hid (true = decide (x ∈ R.take (i + 1))) := by
                  show _ = _
                  have h9 := of_decide_eq_true HB3.out.symm
                  rw [HT.out]
                  exact (decide_eq_true (List.mem_append_left _ h9)).symm
                go_wp2_with fail
                go_roundg (gk - 1)
                case measure => exact g1
                case rel => exact ⟨i + 1, true, g2, by go_num, rfl, HF.out, rfl⟩
              | false =>
                by_cases hrx : r = x
                · subst hrx
                  have HF : Hid (true = decide (r ∈ R.take (i + 1))) := by
                    show _ = _
                    rw [HT.out]
                    exact (decide_eq_true (by simp)).symm
                  go_wp2_with fail
                  go_roundg (gk - 1)
                  case measure => exact g1
                  case rel => exact ⟨i + 1, true, g2, by go_num, rfl, HF.out, rfl⟩
                · have hrI : ¬ (r : Int) = (x : Int) := by omega
                  have HF : Hid (false = decide (x ∈ R.take (i + 1))) := by
                    show _ = _
                    have h9 := of_decide_eq_false HB3.out.symm
                    rw [HT.out]
                    exact (decide_eq_false (by
                      intro h8
                      rcases List.mem_append.1 h8 with h8 | h8
                      · exact h9 h8
                      · rw [List.mem_singleton] at h8; exact hrx h8.symm)).symm
                  go_wp2_with fail
                  go_roundg (gk - 1)
                  case measure => exact g1
                  case rel => exact ⟨i + 1, false, g2, by go_num, by rw [show ((r : Int) == (x : Int)) = false from beq_eq_false_iff_ne.2 hrI], HF.out, rfl⟩
            · have hiN : i = rl := by omega
              have hnI : ¬ (i : Int) < (rl : Int) := by omega
              have HB4 : Hid (b3 = decide (x ∈ R)) := by
                show _ = _
                rw [HB3.out, List.take_of_length_le (by rw [← HR.out.1]; omega)]
              clear HB3 hlti hi hiN
              go_wp2_with fail
              go_loopg [14, 48] nl (fun gk bv iv wx => ∃ (i : Nat) (b4 : Bool), gk + i = nl ∧ iv = .int .i64 (i : Int) ∧ bv = .bool b4 ∧ Hid (∃ NX, QAt (fun b => wl.heap.size ≤ b) wr (.slice na nl nc) NX ∧ NX.length ≤ j ∧ (∀ z, z ∈ NX ↔ ∃ x, x ∈ R ∧ (x, z) ∈ ls.take j) ∧ nl = NX.length ∧ b4 = decide (y ∈ NX.take i)) ∧ wx = wr)
              case atStart => exact ⟨0, false, by omega, rfl, rfl, ⟨NX, HL.out.1, HL.out.2.1, HL.out.2.2.1, HL.out.2.2.2.2.2.1, by simp⟩, rfl⟩
              case round =>
                clear hnI
                obtain ⟨i, b4, hi, rfl, rfl, HB5, rfl⟩ := hrel
                obtain ⟨NX, p1, p2, p3, p4, p5⟩ := HB5.out
                by_cases hlti : i < nl
                · have hiR : i < NX.length := by rw [← p4]; exact hlti
                  obtain ⟨rb, roff, rc', e9, t1⟩ := p1.at i hiR
                  rw [← p4] at e9
                  cases e9
                  have htk : NX.take (i + 1) = NX.take i ++ [NX[i]] := by rw [List.take_succ_eq_append_getElem hiR]
                  obtain ⟨r, hr⟩ : ∃ r, NX[i] = r := ⟨_, rfl⟩
                  rw [hr] at t1 htk
                  obtain ⟨g1, g2⟩ := gk_nxt hi hlti
                  have HT : Hid (NX.take (i + 1) = NX.take i ++ [r] ∧ QAt (fun b => wl.heap.size ≤ b) wr (.slice (some ⟨rb, roff, none⟩) nl nc) NX ∧ NX.length ≤ j ∧ (∀ z, z ∈ NX ↔ ∃ x, x ∈ R ∧ (x, z) ∈ ls.take j) ∧ nl = NX.length ∧ b4 = decide (y ∈ NX.take i)) := ⟨htk, p1, p2, p3, p4, p5⟩
                  have hiI : (i : Int) < (nl : Int) := by omega
                  have yi : i < 1152921504606846976 := by omega
                  clear htk hr hiR hlti hi p1 p2 p3 p4 p5 HB5
                  cases b4 with
                  | true =>
                    have HF : Hid (true = decide (y ∈ NX.take (i + 1))) := by
                      show _ = _
                      have h9 := of_decide_eq_true HT.out.2.2.2.2.2.symm
                      rw [HT.out.1]
                      exact (decide_eq_true (List.mem_append_left _ h9)).symm
                    go_wp2_with fail
                    go_roundg (gk - 1)
                    case measure => exact g1
                    case rel => exact ⟨i + 1, true, g2, by go_num, rfl, ⟨NX, HT.out.2.1, HT.out.2.2.1, HT.out.2.2.2.1, HT.out.2.2.2.2.1, HF.out⟩, rfl⟩
                  | false =>
                    by_cases hrx : r = y
                    · subst hrx
                      have HF : Hid (true = decide (r ∈ NX.take (i + 1))) := by
                        show _ = _
                        rw [HT.out.1]
                        exact (decide_eq_true (by simp)).symm
                      go_wp2_with fail
                      go_roundg (gk - 1)
                      case measure => exact g1
                      case rel => exact ⟨i + 1, true, g2, by go_num, rfl, ⟨NX, HT.out.2.1, HT.out.2.2.1, HT.out.2.2.2.1, HT.out.2.2.2.2.1, HF.out⟩, rfl⟩
                    · have hrI : ¬ (r : Int) = (y : Int) := by omega
                      have HF : Hid (false = decide (y ∈ NX.take (i + 1))) := by
                        show _ = _
                        have h9 := of_decide_eq_false HT.out.2.2.2.2.2.symm
                        rw [HT.out.1]
                        exact (decide_eq_false (by
                          intro h8
                          rcases List.mem_append.1 h8 with h8 | h8
                          · exact h9 h8
                          · rw [List.mem_singleton] at h8; exact hrx h8.symm)).symm
                      go_wp2_with fail
                      go_roundg (gk - 1)
                      case measure => exact g1
                      case rel => exact ⟨i + 1, false, g2, by go_num, by rw [show ((r : Int) == (y : Int)) = false from beq_eq_false_iff_ne.2 hrI], ⟨NX, HT.out.2.1, HT.out.2.2.1, HT.out.2.2.2.1, HT.out.2.2.2.2.1, HF.out⟩, rfl⟩
                · have hiN : i = nl := by omega
                  have hnI : ¬ (i : Int) < (nl : Int) := by omega
                  have HB6 : Hid (b4 = decide (y ∈ NX)) := by
                    show _ = _
                    rw [p5, List.take_of_length_le (by omega)]
                  have HP : Hid (QAt (fun b => wl.heap.size ≤ b) wr (.slice na nl nc) NX ∧ NX.length ≤ j ∧ (∀ z, z ∈ NX ↔ ∃ x, x ∈ R ∧ (x, z) ∈ ls.take j) ∧ nl = NX.length) := ⟨p1, p2, p3, p4⟩
                  clear p1 p2 p3 p4 p5 HB5 hlti hi hiN
                  have HE : Hid (∀ NX' : List Nat, (∀ z, z ∈ NX' ↔ z ∈ NX ∨ (z = y ∧ x ∈ R)) → ∀ z, z ∈ NX' ↔ ∃ x, x ∈ R ∧ (x, z) ∈ ls.take (j + 1)) := by
                    intro NX' h9 z
                    rw [h9 z, HP.out.2.2.1 z, HL.out.2.2.2.2.2.2.1]
                    constructor
                    · rintro (⟨x', h1, h2⟩ | ⟨rfl, h1⟩)
                      · exact ⟨x', h1, List.mem_append_left _ h2⟩
                      · exact ⟨x, h1, by simp⟩
                    · rintro ⟨x', h1, h2⟩
                      rcases List.mem_append.1 h2 with h2 | h2
                      · exact .inl ⟨x', h1, h2⟩
                      · rw [List.mem_singleton] at h2
                        cases h2
                        exact .inr ⟨rfl, h1⟩
                  have hno : ((b3 && !b4) = false) → Hid (RcJ wl ls R (.slice ra rl rc) (j + 1) (.slice na nl nc) wr) := fun h9 => by
                    refine ⟨NX, HP.out.1, by have := HP.out.2.1; omega, HE.out NX (fun z => ?_), HL.out.2.2.2.1, HL.out.2.2.2.2.1⟩
                    constructor
                    · exact .inl
                    · rintro (h8 | ⟨rfl, h8⟩)
                      · exact h8
                      · have h3 : b3 = true := by rw [HB4.out]; exact decide_eq_true h8
                        rw [h3] at h9
                        have h4 : b4 = true := by simpa using h9
                        rw [HB6.out] at h4
                        exact of_decide_eq_true h4
                  cases b3 with
                  | false =>
                    have HF := hno rfl
                    clear hno
                    go_wp2_with fail
                    go_roundg G2
                    case measure => exact HGK2.out.1
                    case rel => exact ⟨j + 1, nl, nc, na, HGK2.out.2, by go_num, rfl, HF.out⟩
                  | true =>
                    cases b4 with
                    | true =>
                      have HF := hno rfl
                      clear hno
                      go_wp2_with fail
                      go_roundg G2
                      case measure => exact HGK2.out.1
                      case rel => exact ⟨j + 1, nl, nc, na, HGK2.out.2, by go_num, rfl, HF.out⟩
                    | false =>
                      clear hno
                      have hba := below_box4 wr (.cells #[.int .u64 (y : Int)] 30)
                      obtain ⟨v4, w7, hrun4, hq4, hk4⟩ := (HP.out.1.below hba).run y wr.heap.size 28 (by simp) (by have := HP.out.2.1; have := HN.out.2.1; have := HL.out.2.2.2.2.2.2.2; omega) (fun q hq => by
                        have e1 := HL.out.2.2.2.1.size
                        have e2 := hba.size
                        omega)
                      have hq4c := hq4
                      obtain ⟨a4, c4, ev4, _⟩ := hq4c
                      have hl4 : (NX ++ [y]).length = nl + 1 := by rw [List.length_append, List.length_singleton, ← HP.out.2.2.2]
                      rw [hl4] at ev4
                      subst ev4
                      have HF : Hid (RcJ wl ls R (.slice ra rl rc) (j + 1) (.slice a4 (nl + 1) c4) w7) := by
                        have e1 : Keeps (fun q => wl.heap.size ≤ q) wr w7 := by
                          have e0 : Keeps (fun q => wl.heap.size ≤ q) wr _ := Below.keeps hba _
                          exact e0.then hk4 (fun i h => .inl h.1)
                        refine ⟨NX ++ [y], hq4, by rw [List.length_append, List.length_singleton]; have := HP.out.2.1; omega, HE.out _ (fun z => ?_), HL.out.2.2.2.1.trans (e1.below (fun i h => h) HL.out.2.2.2.1.size), HL.out.2.2.2.2.1.keeps e1 (fun b cur hb _ h => by omega)⟩
                        rw [List.mem_append, List.mem_singleton]
                        constructor
                        · rintro (h8 | h8)
                          · exact .inl h8
                          · exact .inr ⟨h8, of_decide_eq_true HB4.out.symm⟩
                        · rintro (h8 | ⟨h8, _⟩)
                          · exact .inl h8
                          · exact .inr h8
                      clear hba hq4 hk4 hl4
                      go_wp2_with (first | (at_builtin; refine wpList_appU rfl _ _ _ rfl _ _ _ rfl rfl hrun4 ?_) | fail)
                      go_roundg G2
                      case measure => exact HGK2.out.1
                      case rel => exact ⟨j + 1, nl + 1, c4, a4, HGK2.out.2, by go_num, rfl, HF.out⟩
        · have hjN : j = N := by omega
          have hnI : ¬ (j : Int) < (N : Int) := by omega
          obtain ⟨NX, n1, n2, n3, n4, n5⟩ := HJ.out
          have HF : Hid (RcI w o a (k + 1) (.slice na nl nc) wr) := by
            refine ⟨NX, n1.mono (fun b hb _ => Nat.le_trans HR.out.2.2.2.size hb), by have := HN.out.2.1; omega, fun z => ?_, bsplit HR.out.2.2.2 n4⟩
            have htk : ls.take j = ls := List.take_of_length_le (by rw [HN.out.1]; omega)
            rw [n3 z, htk]
            constructor
            · rintro ⟨x, h1, h2⟩
              exact ((HR.out.2.2.1 x).1 h1).next ((HN.out.2.2 x z).2 h2)
            · intro h9
              obtain ⟨d, h1, h2⟩ := lv_back h9
              exact ⟨d, (HR.out.2.2.1 d).2 h1, (HN.out.2.2 d z).1 h2⟩
          clear n1 n2 n3 n4 n5 HJ hjN hlt hj
          go_wp2_with fail
          go_roundg G1
          case measure => exact HGK1.out.1
          case rel => exact ⟨k + 1, nl, nc, na, HGK1.out.2, by go_num, rfl, HF.out⟩
    · have hkn : k = n := by omega
      have hnI : ¬ (k : Int) < (n : Int) := by omega
      obtain ⟨R, l1, l2, l3, l4⟩ := HI.out
      have hRl := l1.len
      have yrl : rl < 1152921504606846976 := by omega
      subst hkn
      have HR : Hid (QAt (fun b => w.heap.size ≤ b) wr (.slice ra rl rc) R ∧ rl = R.length ∧ (∀ z, z ∈ R ↔ LvB o a k z) ∧ Below w.heap.size w wr) := ⟨l1, hRl, l3, l4⟩
      obtain ⟨wq, hwq⟩ : ∃ wq, wq = wr := ⟨_, rfl⟩
      subst hwq
      clear l1 l2 l3 l4 hRl HI hltk hk
      go_wp2_with fail
      go_loopg [75] rl (fun gk iv wx => ∃ i : Nat, gk + i = rl ∧ iv = .int .i64 (i : Int) ∧ Hid (b ∉ R.take i) ∧ wx = wq)
      case atStart => exact ⟨0, by omega, rfl, by simp [Hid], rfl⟩
      case round =>
        obtain ⟨i, hi, rfl, HB3, rfl⟩ := hrel
        by_cases hlti : i < rl
        · have hiR : i < R.length := by rw [← HR.out.2.1]; exact hlti
          obtain ⟨rb, roff, rc', e9, t1⟩ := HR.out.1.at i hiR
          rw [← HR.out.2.1] at e9
          cases e9
          have htk : R.take (i + 1) = R.take i ++ [R[i]] := by rw [List.take_succ_eq_append_getElem hiR]
          have hmem : R[i] ∈ R := List.getElem_mem hiR
          obtain ⟨r, hr⟩ : ∃ r, R[i] = r := ⟨_, rfl⟩
          rw [hr] at t1 htk hmem
          obtain ⟨g1, g2⟩ := gk_nxt hi hlti
          have HT : Hid (R.take (i + 1) = R.take i ++ [r] ∧ r ∈ R) := ⟨htk, hmem⟩
          have hiI : (i : Int) < (rl : Int) := by omega
          have yi : i < 1152921504606846976 := by omega
          clear htk hr hiR hlti hi hmem
          by_cases hrx : r = b
          · subst hrx
            go_wp2_with fail
            go_ret
            exact ⟨true, rfl, ⟨fun _ => (HR.out.2.2.1 r).1 HT.out.2, fun _ => rfl⟩, HR.out.2.2.2⟩
          · have hrI : ¬ (r : Int) = (b : Int) := by omega
            have HF : Hid (b ∉ R.take (i + 1)) := by
              show _ ∉ _
              rw [HT.out.1]
              intro h8
              rcases List.mem_append.1 h8 with h8 | h8
              · exact HB3.out h8
              · rw [List.mem_singleton] at h8; exact hrx h8.symm
            go_wp2_with fail
            go_roundg (gk - 1)
            case measure => exact g1
            case rel => exact ⟨i + 1, g2, by go_num, HF.out, rfl⟩
        · have hiN : i = rl := by omega
          have hnI2 : ¬ (i : Int) < (rl : Int) := by omega
          have HE : Hid (¬ LvB o a k b) := by
            show ¬ _
            rw [← HR.out.2.2.1 b]
            have h9 := HB3.out
            rw [List.take_of_length_le (by rw [← HR.out.2.1]; omega)] at h9
            exact h9
          clear HB3 hlti hi hiN
          go_wp2_with fail
          go_ret
          first | exact ⟨false, rfl, ⟨(fun h => by cases h), fun h => absurd h HE.out⟩, HR.out.2.2.2⟩ | exact .inl ⟨rfl, HE.out, HR.out.2.2.2⟩

end Go.Proofs.Ytgkgdbdapkgkgaa
