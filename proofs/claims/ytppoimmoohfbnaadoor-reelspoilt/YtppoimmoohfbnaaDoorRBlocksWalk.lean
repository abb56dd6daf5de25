/- ReelBlocks answers true. -/
import Derived.Test.YtppoimmoohfbnaaDoorReelTail
namespace Go.Proofs.YtppoimmoohfbnaaDoor
open Go.RowKit
set_option linter.unusedVariables false

theorem frR_most (l : List UInt8) : (frR l).length ≤ 2 * l.length + 7 := by
  induction l using frR_ind with
  | h1 l h => rw [frR_eq, if_pos h, pcB_length]; omega
  | h2 l h ih =>
    rw [frR_eq, if_neg h, List.length_append, pcB_length, List.length_take]
    rw [List.length_drop] at ih
    omega

theorem frame_most (a : Nat) (l : List UInt8) : (frameB a l).length ≤ 2 * l.length + 20 := by
  have := gap_bd a
  unfold frameB frF
  rw [List.length_append, List.length_replicate]
  split
  · rw [pcB_length]; omega
  · have := frR_most (l.drop (leftN (a + gapN a) - 7))
    rw [List.length_append, pcB_length, List.length_take]
    rw [List.length_drop] at this
    omega

theorem ownN_row {B : Nat} {w : World} {v : Value} {l : List UInt8} (h : OwnN B w v l) : w.ownsRow B 5 1 v l.length (bv l) := by
  rcases h with ⟨rfl, rfl⟩ | h
  · exact World.ownsRow_nil w B 5 1
  · exact h.row

theorem ownN_of_rowT {B : Nat} {w : World} {v : Value} {l m : List UInt8} (h : w.ownsRow B 5 1 v (l.length + m.length) (bv l ++ bv m)) : OwnN B w v (l ++ m) := by
  rw [← bv_append, ← List.length_append] at h
  rcases row_shape h with ⟨e, e2, _⟩ | ⟨g, cap, e⟩
  · exact .inl ⟨e, e2⟩
  · exact .inr (Own.of_row h (by rw [e]; simp))

theorem few_mem {n long : Nat} {ls : List (List UInt8)} {l : List UInt8} (h : l ∈ fewT n long ls) : l.length ≤ long := by
  unfold fewT at h
  obtain ⟨x, _, rfl⟩ := List.mem_map.1 h
  exact List.length_take_le _ _

theorem OwnT.elem {B : Nat} {w : World} {a : Option Addr} {n c : Nat} {ls : List (List UInt8)} (h : OwnT B w (.slice a n c) ls) (j : Nat) (hj : j < ls.length) : ∃ g, a = some ⟨g, 0, none⟩ ∧ g < w.heap.size ∧ ∃ u, w.cell? ⟨g, j, none⟩ = some u ∧ OwnN B w u ls[j] := by
  obtain ⟨cs, hr, hel⟩ := h
  obtain ⟨x, c0, ox⟩ := hel j hj
  have hr2 := hr
  rcases hr.2 with ⟨e, hn⟩ | ⟨g, cap, cur, e, hb, hg, h1, h2, h3, h4⟩
  · omega
  · cases e
    have := hr2.cells (g := g) rfl _ _ c0
    rw [Addr.add_lit, Nat.zero_add] at this
    exact ⟨g, rfl, (hr2.lt g rfl).2, x, this, ox⟩

theorem ownN_block {B : Nat} {w : World} {v : Value} {l : List UInt8} (h : OwnN B w v l) : ∀ b, v.ownBlock = some b → b < w.heap.size := by
  intro b hb
  rcases h with ⟨rfl, _⟩ | h
  · simp [Value.ownBlock] at hb
  · obtain ⟨g, k, rfl⟩ := h.shape
    simp only [Value.ownBlock, Option.some.injEq] at hb
    subst hb
    exact h.lt.2

/-- where the first loop has come to -/
structure Fr1 (w1 w2 wr : World) (T : List (List UInt8)) (j : Nat) (pv : Value) (P : List UInt8) : Prop where
  eq : P = allB (T.take j) []
  ow : OwnN w2.heap.size wr pv P
  bd : P.length ≤ 520 * j
  be : Below w2.heap.size w2 wr

theorem fr1_step {w1 w2 wr w4 : World} {T : List (List UInt8)} {j : Nat} {pv pv' : Value} {P : List UInt8} (h : Fr1 w1 w2 wr T j pv P) (hj : j < T.length) (hl : T[j].length ≤ 250) (ho : OwnN w2.heap.size w4 pv' (P ++ frameB P.length T[j])) (hb : Below w2.heap.size w2 w4) : Fr1 w1 w2 w4 T (j + 1) pv' (P ++ frameB P.length T[j]) := by
  refine ⟨?_, ho, ?_, hb⟩
  · rw [List.take_succ_eq_append_getElem hj, allB_snoc, ← h.eq]
  · have := frame_most P.length T[j]
    have := h.bd
    rw [List.length_append]
    omega

/-- what the second loop is told of a place -/
theorem tail_here {P : List UInt8} {a : Nat} (h : Tail a (P.drop a)) (ha : a < P.length) : ∃ (k : UInt8) (t : List UInt8), pcAt P (a + gapN a) = some (k, t) ∧ Tail (a + gapN a + 7 + t.length) (P.drop (a + gapN a + 7 + t.length)) ∧ a + gapN a + 7 + t.length ≤ P.length ∧ 7 + t.length ≤ leftN (a + gapN a) ∧ (P.drop a).take (gapN a) = List.replicate (gapN a) 0 := by
  generalize hX : P.drop a = X at h
  have hlen : X.length = P.length - a := by rw [← hX, List.length_drop]
  rcases h.cases with rfl | ⟨k, t, Y, rfl, hk, ht, h⟩
  · simp at hlen; omega
  · have hd1 : P.drop (a + gapN a) = pcB k t ++ Y := by
      rw [← List.drop_drop, hX, List.drop_append_of_le_length (by simp)]
      simp
    have hd2 : P.drop (a + gapN a + 7 + t.length) = Y := by
      rw [show a + gapN a + 7 + t.length = a + gapN a + (7 + t.length) by omega, ← List.drop_drop, hd1, ← pcB_length k t, List.drop_left]
    refine ⟨k, t, pcAt_there P Y t _ k hd1 hk ht, by rw [hd2]; exact h, ?_, ht, ?_⟩
    · rw [List.length_append, List.length_append, pcB_length, List.length_replicate] at hlen
      omega
    · rw [List.take_append_of_le_length (by simp)]
      simp

theorem div_same (a n lf : Nat) (hl : lf = leftN a) (h1 : 1 ≤ n) (h2 : n ≤ lf) : ∃ q : Int, (a : Int).tdiv 64 = q ∧ (((a + n - 1 : Nat) : Int)).tdiv 64 = q := by
  refine ⟨((a / 64 : Nat) : Int), ?_, ?_⟩
  · rw [Int.tdiv_eq_ediv_of_nonneg (by omega)]; omega
  · rw [Int.tdiv_eq_ediv_of_nonneg (by omega)]
    unfold leftN at hl
    omega

theorem blk_nums {a a1 lf tl en L pc : Nat} (hen : a1 + 7 + tl = en) (hle : en ≤ L) (hL : L ≤ pc) (hl64 : 1 ≤ lf ∧ lf ≤ 64) (hLb : (L : Int) ≤ 6240) (ha : a < L) (h1 : a ≤ a1) (h2 : 7 + tl ≤ 64) : (a : Int) < (L : Int) ∧ (a : Int) ≤ 6240 ∧ (a1 : Int) ≤ 6240 ∧ (en : Int) ≤ 6240 ∧ (tl : Int) ≤ 64 ∧ (en : Int) - 1 = ((en - 1 : Nat) : Int) ∧ (en : Int) - (a1 : Int) = ((7 + tl : Nat) : Int) ∧ ((7 + tl : Nat) : Int) - 7 = (tl : Int) ∧ ¬ pc = a ∧ (a1 : Int) ≤ (pc : Int) ∧ (a : Int) ≤ (a1 : Int) ∧ a1 < L ∧ L - en < L - a ∧ L - en + en = L := by omega

theorem wrap_sum {a lf a1 : Int} (h : a + lf = a1) (h0 : 0 ≤ a1) (h1 : a1 ≤ 6240) : IntKind.i64.wrap (a + lf) = a1 ∧ wrap64 (a + lf) = a1 ∧ IntKind.i64.wrap a1 = a1 ∧ wrap64 a1 = a1 := by
  rw [h]
  refine ⟨?_, ?_, ?_, ?_⟩
  · rw [IntKind.wrap_i64]; omega
  · unfold wrap64; omega
  · rw [IntKind.wrap_i64]; omega
  · unfold wrap64; omega

theorem rem_nums (a lf : Nat) (h : leftN a = lf) : ∃ rr : Int, (a : Int).tmod 64 = rr ∧ 64 - rr = (lf : Int) ∧ 0 ≤ rr ∧ rr ≤ 63 := by
  refine ⟨((a % 64 : Nat) : Int), mod_64 a, ?_, by omega, by omega⟩
  unfold leftN at h
  omega

set_option maxRecDepth 100000 in
set_option maxHeartbeats 4000000 in
theorem rblocks (w : World) (v : Value) (ls : List (List UInt8)) (hv : ArgL w v ls) (hT : Tab w) (h0 : 0 < w.heap.size) :
    Calls Tryd.prog 8 #[v] w fun e w' => e = .returned (.bool true) ∧ Below w.heap.size w w' := by
  obtain ⟨i0, hi, hz0, hz1, hz2⟩ := info_parts info5
  obtain ⟨ao, cap, hvv, _⟩ := hv.places
  have HV : Hid (ArgL w v ls) := hv
  have HT : Hid (Tab w) := hT
  have H0 : Hid (0 < w.heap.size) := h0
  clear hv hT h0
  subst hvv
  go_enter Tryd.func8, Tryd.ntmps8
  go_wp2_with fail
  refine (rawake_any w HT.out H0.out).mono ?_
  rintro e w1 ⟨rfl, hb1⟩
  have HB1 : Hid (Below w.heap.size w w1) := hb1
  have hv1 := HV.out.below hb1 (Nat.le_refl _)
  clear hb1
  go_wp2_with fail
  refine (few_any w1 _ ls 12 250 hv1 (by decide) (by decide)).mono ?_
  rintro e w2 ⟨x, rfl, oT, hb2⟩
  obtain ⟨T, hTT⟩ : ∃ T, fewT 12 250 ls = T := ⟨_, rfl⟩
  have HTL : Hid (T.length ≤ 12 ∧ ∀ l ∈ T, l.length ≤ 250) := ⟨by rw [← hTT]; exact few_len _ _ _, fun l hl => few_mem (by rw [hTT]; exact hl)⟩
  rw [hTT] at oT
  obtain ⟨ta, tc, rfl⟩ := oT.shape
  have HB2 : Hid (Below w.heap.size w w2) := HB1.out.trans (hb2.mono HB1.out.size)
  have OT : Hid (OwnT w1.heap.size w2 (.slice ta T.length tc) T) := oT
  obtain ⟨N, hN⟩ : ∃ N, T.length = N := ⟨_, rfl⟩
  rw [hN]
  have HN : Hid _ := hN
  have hN12 : N ≤ 12 := by rw [← hN]; exact HTL.out.1
  clear hv1 oT hb2 hTT hN
  go_wp2_with fail
  go_loopg [3, 19] N (fun gk pv iv wr => ∃ (j : Nat) (P : List UInt8) (pa : Option Addr) (pc : Nat), gk + j = N ∧ iv = .int .i64 (j : Int) ∧ pv = .slice pa P.length pc ∧ Hid (Fr1 w1 w2 wr T j pv P))
  case atStart => exact ⟨0, [], none, 0, by omega, rfl, rfl, ⟨rfl, .inl ⟨rfl, rfl⟩, by simp, Below.refl _ _⟩⟩
  case round =>
    obtain ⟨j, P, pa, pc, hj, rfl, rfl, HF⟩ := hrel
    by_cases hlt : j < N
    · have hlt2 : j < T.length := by rw [HN.out]; exact hlt
      obtain ⟨g, rfl, hg, u, hu, hou⟩ := OT.out.elem j hlt2
      have hur := (HF.out.be.cell (p := ⟨g, j, none⟩) hg).trans hu
      have hour := hou.below HF.out.be (Nat.le_refl _)
      obtain ⟨q1, q2⟩ := gk_nxt hj hlt
      obtain ⟨lj, hlj⟩ : ∃ lj, T[j] = lj := ⟨_, rfl⟩
      have hl250 : lj.length ≤ 250 := by rw [← hlj]; exact HTL.out.2 _ (List.getElem_mem hlt2)
      rw [hlj] at hour
      obtain ⟨ua, uc, rfl⟩ := hour.rd.len
      have hBw := HB2.out.trans (HF.out.be.mono HB2.out.size)
      have hfr := frame_any wr P.length _ lj hour.rd (ownN_block hour) (by omega) (HT.out.below hBw (Nat.le_refl _)) (Nat.lt_of_lt_of_le H0.out hBw.size)
      have hstep := fun w4 pv' => fr1_step (w4 := w4) (pv' := pv') HF.out hlt2 (by rw [hlj]; exact hl250)
      rw [hlj] at hstep
      obtain ⟨FB, hFB⟩ : ∃ FB, frameB P.length lj = FB := ⟨_, rfl⟩
      have hPl : P.length ≤ 6240 := by have := HF.out.bd; have := HTL.out.1; rw [HN.out] at this; omega
      have hFl : FB.length ≤ 520 := by have := frame_most P.length lj; rw [hFB] at this; omega
      rw [hFB] at hfr hstep
      have HST : Hid (∀ (w4 : World) (pv' : Value), OwnN w2.heap.size w4 pv' (P ++ FB) → Below w2.heap.size w2 w4 → Fr1 w1 w2 w4 T (j + 1) pv' (P ++ FB)) := hstep
      have HBD : Hid (P.length + FB.length ≤ maxLen ∧ (P.length + FB.length) * 1 ≤ 140737488355328) := by show _ ∧ _; unfold maxLen; omega
      clear hu hou hour hlj hl250 hBw hstep hFB hPl hFl
      go_wp2_with fail
      refine hfr.mono ?_
      rintro e w3 ⟨g3, c3, rfl, o3, hb3⟩
      have HB3 : Hid (Below w2.heap.size w2 w3) := HF.out.be.trans (hb3.mono HF.out.be.size)
      have hrow := ownN_row (HF.out.ow.below hb3 (Nat.le_refl _))
      have hfc := (rd_cells o3.rd).2
      clear hfr hur hb3
      go_wp2_with (first | (at_builtin; refine wpList_append_own _ rfl (.tmp 32) (.tmp 33) 22 rfl w2.heap.size 5 i0 (.int .u8 0) 1 1 Tryd.underlying22 hi hz0 hz1 hz2 rfl (by decide) (.slice pa P.length pc) P.length (bv P) rfl hrow ⟨g3, 0, none⟩ FB.length c3 (bv FB) rfl (by rw [bv_length, Nat.mul_one]) hfc (bv_one _) HBD.out.1 HBD.out.2 HB3.out.size ?_; intro v' w4 ho' hgr' hn'; have HO4 : Hid (OwnN w2.heap.size w4 v' (P ++ FB)) := ownN_of_rowT ho'; have HB4 : Hid (Below w2.heap.size w2 w4) := HB3.out.grown hgr' HB3.out.size (fun k' e => (hrow.lt k' e).1); obtain ⟨va, vc, hvv⟩ := HO4.out.rd.len; subst hvv; clear ho' hgr' hn') | fail)
      clear hrow hfc
      go_roundg (gk - 1)
      case measure => exact q1
      case rel => exact ⟨j + 1, P ++ FB, va, vc, q2, by go_num, by rw [List.length_append], by have h4 := HST.out _ _ HO4.out HB4.out; rw [List.length_append] at h4; exact h4⟩
    · have hjN : j = N := by omega
      subst hjN
      obtain ⟨X, hX, hTl⟩ := tail_all T []
      have hPX : P = X := by have := HF.out.eq; rw [← HN.out, List.take_length] at this; rw [this, hX]; simp
      have HTL0 : Hid (Tail 0 (P.drop 0)) := by show Tail _ _; rw [List.drop_zero, hPX]; exact hTl
      have hPl : P.length ≤ 6240 := by have := HF.out.bd; have := HTL.out.1; rw [HN.out] at this; omega
      obtain ⟨L, hL⟩ : ∃ L, P.length = L := ⟨_, rfl⟩
      rw [hL] at hPl
      have HLN : Hid (P.length = L) := hL
      have hLI : (L : Int) ≤ 6240 := by omega
      have HOW : Hid (OwnN w2.heap.size wr (.slice pa P.length pc) P) := HF.out.ow
      rw [hL] at HOW
      rw [hL]
      have HBQ : Hid (Below w.heap.size w wr) := HB2.out.trans (HF.out.be.mono HB2.out.size)
      obtain ⟨wq, hwq⟩ : ∃ wq, wr = wq := ⟨_, rfl⟩
      rw [hwq] at HOW HBQ
      rw [hwq]
      clear hX hTl hPX hPl hL hj hlt HF hwq
      go_wp2_with fail
      go_loopg [8] L (fun gk av wr => ∃ (a : Nat) (z : Int), gk + a = L ∧ av = .int .i64 z ∧ 0 ≤ z ∧ z ≤ 6240 ∧ Hid (z = (a : Int)) ∧ Hid (Tail a (P.drop a)) ∧ Hid (Below wq.heap.size wq wr))
      case atStart => exact ⟨0, 0, by omega, rfl, by decide, by decide, rfl, HTL0, Below.refl _ _⟩
      case round =>
        obtain ⟨a, z, ha, rfl, hz00, hz11, HZ, HTA, HBB⟩ := hrel
        by_cases hlt : a < L
        · obtain ⟨k, t, hpc, hT2, hle, hfit, hzero⟩ := tail_here HTA.out (by rw [HLN.out]; exact hlt)
          obtain ⟨tl, htl⟩ : ∃ tl, t.length = tl := ⟨_, rfl⟩
          obtain ⟨a1, ha1⟩ : ∃ a1, a + gapN a = a1 := ⟨_, rfl⟩
          obtain ⟨lf, hlf⟩ : ∃ lf, leftN a = lf := ⟨_, rfl⟩
          rw [ha1] at hpc
          rw [ha1, htl] at hT2 hle hfit
          obtain ⟨en, hen⟩ : ∃ en, a1 + 7 + tl = en := ⟨_, rfl⟩
          rw [hen] at hT2 hle
          rw [HLN.out] at hle
          obtain ⟨qd, hq1, hq2⟩ := div_same a1 (7 + tl) (leftN a1) rfl (by omega) hfit
          rw [show a1 + (7 + tl) - 1 = en - 1 by omega] at hq2
          have hl64 := left_bd a
          rw [hlf] at hl64
          obtain ⟨pa', hpaq⟩ : ∃ g, pa = some ⟨g, 0, none⟩ := by
            rcases HOW.out with ⟨e, e2⟩ | h
            · have := HLN.out
              rw [e2] at this
              simp at this
              omega
            · obtain ⟨g, k', e⟩ := h.shape
              cases e
              exact ⟨g, rfl⟩
          subst hpaq
          have hown : Own w2.heap.size wq (.slice (some ⟨pa', 0, none⟩) L pc) P := by
            rcases HOW.out with ⟨e, e2⟩ | h
            · cases e
            · exact h
          have hownr := hown.below HBB.out (Nat.le_refl _)
          have hcaps := hownr.caps
          rw [HLN.out] at hcaps
          have hTr : Tab wr := (HT.out.below HBQ.out (Nat.le_refl _)).below HBB.out (Nat.le_refl _)
          obtain rfl : z = (a : Int) := HZ.out
          obtain ⟨rr, hr1, hr2, hr3, hr4⟩ := rem_nums a lf hlf
          have hh64 : 7 + tl ≤ 64 := Nat.le_trans hfit (left_bd a1).2
          obtain ⟨b1, b2, b3, b4, b5, b6, b7, b8, b9, b10, b11, b12, b13, b14⟩ := blk_nums (a := a) (lf := lf) (pc := pc) hen hle hcaps.1 hl64 hLI hlt (by rw [← ha1]; exact Nat.le_add_right _ _) hh64
          have HM : Hid (L - en < gk ∧ L - en + en = L) := by show _ ∧ _; omega
          have HPC : Hid (pcAt P a1 = some (k, t)) := hpc
          have HT2 : Hid (Tail en (P.drop en)) := hT2
          have HEN : Hid (a1 + 7 + t.length = en) := by show _ = _; rw [htl]; exact hen
          have HTLn : Hid (t.length = tl) := htl
          obtain ⟨em, hem⟩ : ∃ em, en - 1 = em := ⟨_, rfl⟩
          rw [hem] at b6 hq2
          obtain ⟨e7, he7⟩ : ∃ e7, 7 + tl = e7 := ⟨_, rfl⟩
          rw [he7] at b7 b8
          have hen0 : (0 : Int) ≤ (en : Int) := Int.natCast_nonneg _
          have HOWr : Hid (Own w2.heap.size wr (.slice (some ⟨pa', 0, none⟩) L pc) P) := hownr
          have HTR : Hid (Tab wr) := hTr
          have HCP : Hid (L ≤ pc ∧ pc ≤ maxLen) := hcaps
          have HPL : Hid (P.length ≤ 1000000) := by show _ ≤ _; rw [HLN.out]; omega
          have HA1 : Hid (a1 < P.length) := by show _ < _; rw [HLN.out]; exact b12
          by_cases h7 : lf < 7
          · have h7' : (lf : Int) < 7 := by omega
            have hga : gapN a = lf := by unfold gapN; rw [hlf, if_pos h7]
            have hsum : (a : Int) + (lf : Int) = (a1 : Int) := by rw [← ha1, hga]; omega
            have hm1 : a1 - a = lf := by omega
            obtain ⟨d, hd⟩ : ∃ d, pc - a = d := ⟨_, rfl⟩
            have HRZ : Hid (Rd wr (.slice (some ⟨pa', a, none⟩) lf d) (List.replicate lf 0)) := by
              have := rd_sub hownr.cellsAt a lf d (by omega) (by omega) (by rw [HLN.out]; omega)
              rw [← hga] at this
              rw [hzero, hga, Nat.zero_add] at this
              exact this
            obtain ⟨wz, hmk, hoz, hgz⟩ := run_make_full (P := Tryd.prog) wr.drew wr.heap.size 22 5 i0 (.int .u8 0) 1 Tryd.underlying22 hi hz0 hz1 .i64 .i64 lf (by rw [hz2]; omega) (by unfold maxLen; omega) (Nat.le_refl _)
            have hdz : wr.drew.heap.size = wr.heap.size := rfl
            rw [hdz] at hmk hoz
            have HZZ : Hid (Rd wz (.slice (some ⟨wr.heap.size, 0, none⟩) lf lf) (List.replicate lf 0)) := by have := (zeros_of hoz).rd; rw [List.length_replicate] at this; exact this
            have hbz : Below wr.heap.size wr wz := ((Below.refl wr.heap.size wr).drew).grown hgz (Nat.le_refl _) (fun k' e => by cases e)
            have HRZ2 := HRZ.out.below hbz (Nat.le_refl _)
            have hsame := same_b wz _ _ _ _ true HRZ2 HZZ.out (by simp)
            have hpf := piecef_at wz a1 pa' 0 pc P (hownr.below hbz (Nat.le_refl _)).cellsAt HA1.out (by rw [HLN.out]; exact HCP.out.1) HCP.out.2 HPL.out (hTr.below hbz (Nat.le_refl _))
            rw [HLN.out, HPC.out] at hpf
            have HBZ : Hid (Below wq.heap.size wq wz) := HBB.out.trans (hbz.mono HBB.out.size)
            clear hpc hT2 hle hfit hzero ha1 hlf hen hown hownr hcaps hTr hl64 hh64 htl hem he7 hga hoz hgz hdz hbz HRZ2 b12 b13 b14 ha hlt h7
            obtain ⟨u1, u2, u3, u4⟩ := wrap_sum hsum (Int.natCast_nonneg _) b3
            go_wp2_with fail
            go_region_held3 (fun _ => True) (trivial)
              (first
                | (go_at_call 15; refine hsame.mono ?_; rintro e' wx ⟨rfl, hwx⟩; subst hwx)
                | fail)
            all_goals
              go_wp2_with fail
              clear u1 u2 u3 u4
              refine hpf.mono ?_
              rintro e' w5 ⟨hb5, y, rfl, oy⟩
              obtain ⟨y1, y2, rfl⟩ := oy.rd.len
              rw [HEN.out, HTLn.out]
              have HB5 : Hid (Below wq.heap.size wq w5) := HBZ.out.trans (hb5.mono HBZ.out.size)
              clear hb5 oy hpf hsame hmk
              go_wp2_with fail
              go_roundg (L - en)
              case measure => exact HM.out.1
              case rel => exact ⟨en, (en : Int), HM.out.2, rfl, hen0, b4, rfl, HT2, HB5⟩
          · have h7' : ¬ (lf : Int) < 7 := by omega
            have hga : gapN a = 0 := by unfold gapN; rw [hlf, if_neg h7]
            obtain rfl : a = a1 := by rw [← ha1, hga]; rfl
            have hpf := piecef_at wr a pa' 0 pc P hownr.cellsAt HA1.out (by rw [HLN.out]; exact HCP.out.1) HCP.out.2 HPL.out hTr
            rw [HLN.out, HPC.out] at hpf
            clear hpc hT2 hle hfit hzero ha1 hlf hen hown hownr hcaps hTr hl64 hh64 htl hem he7 hga b12 b13 b14 ha hlt h7
            go_wp2_with fail
            refine hpf.mono ?_
            rintro e' w5 ⟨hb5, y, rfl, oy⟩
            obtain ⟨y1, y2, rfl⟩ := oy.rd.len
            rw [HEN.out, HTLn.out]
            have HB5 : Hid (Below wq.heap.size wq w5) := HBB.out.trans (hb5.mono HBB.out.size)
            clear hb5 oy hpf
            go_wp2_with fail
            go_roundg (L - en)
            case measure => exact HM.out.1
            case rel => exact ⟨en, (en : Int), HM.out.2, rfl, hen0, b4, rfl, HT2, HB5⟩
        · have hzL : ¬ z < (L : Int) := by rw [HZ.out]; omega
          go_wp2
          go_ret
          exact ⟨rfl, HBQ.out.trans (HBB.out.mono HBQ.out.size)⟩

theorem reelBlocks_walk (a0 : Option Addr) (len0 cap0 : Nat) (z0 : List (List UInt8)) (w : World) (w0 : ArgL w (.slice a0 len0 cap0) z0) (ht : Tab w) :
    Calls Tryd.prog 8 #[.slice a0 len0 cap0] w fun e w' => e = .returned (.bool true) ∧ Below w.heap.size w w' :=
  rblocks w _ z0 w0 ht (World.block_lt_of_cell? w _ (ht 0 (by decide)))

end Go.Proofs.YtppoimmoohfbnaaDoor
