/- tomb.New, All, Len; a nil set. -/
import Derived.Test.YthcoblmfmbmdkaaTbAdd
namespace Go.Proofs.Ythcoblmfmbmdkaa
set_option maxRecDepth 100000
open Go.RowKit
set_option linter.unusedVariables false
set_option linter.unusedSimpArgs false

/-- is a span right? -/
def okS (e : SpB) : Bool := decide (chkSp e.1 e.2.1 (e.2.2 : Int) = 0)
def rightS (es : List SpB) : List SpB := es.filter okS

theorem rightS_next {es : List SpB} {j : Nat} (h : j < es.length) : rightS (es.take (j + 1)) = if chkSp es[j].1 es[j].2.1 (es[j].2.2 : Int) = 0 then rightS (es.take j) ++ [es[j]] else rightS (es.take j) := by
  unfold rightS
  rw [List.take_succ_eq_append_getElem h, List.filter_append]
  by_cases h0 : chkSp es[j].1 es[j].2.1 (es[j].2.2 : Int) = 0
  · rw [if_pos h0]
    have : okS es[j] = true := by unfold okS; exact decide_eq_true h0
    simp [this]
  · rw [if_neg h0]
    have : okS es[j] = false := by unfold okS; exact decide_eq_false h0
    simp [this]

theorem rightS_len (es : List SpB) : (rightS es).length ≤ es.length := List.length_filter_le _ _

theorem chk_ok {e : SpB} (h : okS e = true) : (1 ≤ e.1.length ∧ e.1.length ≤ 64) ∧ (1 ≤ e.2.1.length ∧ e.2.1.length ≤ 64) ∧ Lib.compareBytes e.1 e.2.1 < 0 ∧ 1 ≤ e.2.2 ∧ e.2.2 ≤ 72057594037927935 := by
  unfold okS chkSp at h
  rw [decide_eq_true_iff] at h
  split at h
  · rename_i hh; exact ⟨hh.1, hh.2.1, hh.2.2.1, by omega, by omega⟩
  · omega

theorem right_up (es : List SpB) : Up9 (rightS es) := fun s hs => (chk_ok (List.mem_filter.1 hs).2).2.2.1

theorem right_lens (es : List SpB) : ∀ s ∈ rightS es, s.1.length ≤ 1000 ∧ s.2.1.length ≤ 1000 := fun s hs => by
  have h := chk_ok (List.mem_filter.1 hs).2
  omega

set_option maxHeartbeats 4000000 in
theorem tnew_any (w : World) (v : Value) (es : List SpB) (hv : RdS w v es) (hn : es.length ≤ 4000) :
    Calls Try.prog 34 #[v] w fun e w' => e = .returned (.pointer (some ⟨w.heap.size, 0, none⟩)) ∧ SetO w.heap.size w' w.heap.size (rightS es) ∧ Below w.heap.size w w' := by
  have HV : Hid (RdS w v es) := hv
  obtain ⟨ao, cap, rfl, h1, h2, _⟩ := hv
  unfold maxLen at h2
  obtain ⟨N, hN⟩ : ∃ N, es.length = N := ⟨_, rfl⟩
  rw [hN] at h1 HV hn ⊢
  have HN : Hid (es.length = N) := hN
  have HB0 : Hid (Below w.heap.size w (w.alloc (.cells #[.slice none 0 0] 114))) := below_box4 w _
  have HS0 : Hid (SetO w.heap.size (w.alloc (.cells #[.slice none 0 0] 114)) w.heap.size (rightS [])) := ⟨Nat.le_refl _, _, Boxed.new w _ _, AllS.nil _ _⟩
  clear hN
  go_enter Try.func34, Try.ntmps34
  go_wp2_with fail
  go_loopg [10] N (fun gk iv wr => ∃ j : Nat, gk + j = N ∧ iv = .int .i64 (j : Int) ∧ Hid (SetO w.heap.size wr w.heap.size (rightS (es.take j))) ∧ Hid (Below w.heap.size w wr))
  case atStart => exact ⟨0, by omega, rfl, by rw [List.take_zero]; exact HS0, HB0⟩
  case round =>
    obtain ⟨j, hj, rfl, HS, HB⟩ := hrel
    by_cases hlt : j < N
    · have hlt2 : j < es.length := by rw [HN.out]; exact hlt
      obtain ⟨_, _, e, _, _, h3⟩ := rdS_below HV.out HB.out (Nat.le_refl _)
      rw [HN.out] at e
      cases e
      obtain ⟨b, off, rfl, xv, yv, c0, c1, c2, rx, ry⟩ := h3 j hlt2
      obtain ⟨x1, x2, ex⟩ := rx.len
      obtain ⟨y1, y2, ey⟩ := ry.len
      subst ex ey
      obtain ⟨q1, q2⟩ := gk_nxt hj hlt
      obtain ⟨⟨sl, sm, sq⟩, ho⟩ : ∃ o, es[j] = o := ⟨_, rfl⟩
      rw [ho] at c0 c1 c2 rx ry
      simp only at c0 c1 c2 rx ry
      have hb0 := below_box wr #[.slice x1 sl.length x2, .slice y1 sm.length y2, .int .u64 (sq : Int)] 46
      obtain ⟨z0, z1, z2, _, _, _⟩ := box_new wr (.slice x1 sl.length x2) (.slice y1 sm.length y2) (.int .u64 (sq : Int)) 46
      obtain ⟨c, hc⟩ : ∃ c, chkSp sl sm (sq : Int) = c := ⟨_, rfl⟩
      have had := tadd_any (wr.alloc (.cells #[.slice x1 sl.length x2, .slice y1 sm.length y2, .int .u64 (sq : Int)] 46)) w.heap.size w.heap.size (rightS (es.take j)) (.slice x1 sl.length x2) (.slice y1 sm.length y2) sl sm sq c (HS.out.below hb0) (Nat.le_trans HB.out.size hb0.size) (rx.below hb0 (Nat.le_refl _)) (ry.below hb0 (Nat.le_refl _)) (by have h9 := rightS_len (es.take j); rw [List.length_take] at h9; omega) hc
      have HNX : Hid (rightS (es.take (j + 1)) = if c = 0 then rightS (es.take j) ++ [(sl, sm, sq)] else rightS (es.take j)) := by show _ = _; rw [rightS_next hlt2, ho, ← hc]
      have HB1 : Hid (Below w.heap.size w (wr.alloc (.cells #[.slice x1 sl.length x2, .slice y1 sm.length y2, .int .u64 (sq : Int)] 46))) := bsplit HB.out hb0
      obtain ⟨nl, hnl⟩ : ∃ nl, sl.length = nl := ⟨_, rfl⟩
      obtain ⟨ml, hml⟩ : ∃ ml, sm.length = ml := ⟨_, rfl⟩
      rw [hnl, hml] at had HB1 z0 z1 z2
      rw [hnl] at c0
      rw [hml] at c1
      clear ho hb0 h3 rx ry hc hnl hml
      go_wp2_with fail
      refine had.mono ?_
      rintro e w2 ⟨rfl, hs2, hb2⟩
      have HS2 : Hid (SetO w.heap.size w2 w.heap.size (rightS (es.take (j + 1)))) := by show SetO _ _ _ _; rw [HNX.out]; exact hs2
      have HB2 : Hid (Below w.heap.size w w2) := HB1.out.trans hb2
      clear had hs2 hb2 z0 z1 z2 c0 c1 c2
      go_wp2_with fail
      go_roundg (gk - 1)
      case measure => exact q1
      case rel => exact ⟨j + 1, q2, by go_num, HS2, HB2⟩
    · have hjN : j = N := by omega
      subst hjN
      have HT : Hid (es.take j = es) := by show _ = _; rw [← HN.out, List.take_length]
      go_wp2_with fail
      go_wp2
      go_ret
      refine ⟨rfl, ?_, HB.out⟩
      have h9 := HS.out
      rw [HT.out] at h9
      exact h9

set_option maxHeartbeats 4000000 in
theorem tall_any (w : World) (t : Nat) (ss : List SpB) (ht : SetAt w t ss) (hn : ss.length ≤ 4000) (hL : ∀ s ∈ ss, s.1.length ≤ 1000 ∧ s.2.1.length ≤ 1000) :
    Calls Try.prog 42 #[.pointer (some ⟨t, 0, none⟩)] w fun e w' => ∃ v, e = .returned v ∧ AllS w.heap.size w' v ss ∧ Below w.heap.size w w' := by
  obtain ⟨i0, hi, hz0, hz1, hz2⟩ := info_parts infoSp
  obtain ⟨v, hc, hv⟩ := ht
  have HV : Hid (RdS w v ss) := hv
  obtain ⟨ao, cap, rfl, h1, h2, _⟩ := hv
  unfold maxLen at h2
  obtain ⟨N, hN⟩ : ∃ N, ss.length = N := ⟨_, rfl⟩
  rw [hN] at h1 HV hn hc
  have HN : Hid (ss.length = N) := hN
  have HL : Hid (∀ s ∈ ss, s.1.length ≤ 1000 ∧ s.2.1.length ≤ 1000) := hL
  have he : ∀ w : World, (binOp .eql 81 (.pointer (some ⟨t, 0, none⟩)) (.pointer none)).run Try.prog w = .ok (.bool false) w := fun _ => rfl
  clear hN hL
  go_enter Try.func42, Try.ntmps42
  go_wp2_with fail
  go_loopg [3, 13] N (fun gk av iv wr => ∃ j f : Nat, ∃ aa : Option Addr, gk + j = N ∧ iv = .int .i64 (j : Int) ∧ av = .slice aa j f ∧ Hid (AllS w.heap.size wr av (ss.take j)) ∧ Hid (Below w.heap.size w wr))
  case atStart => exact ⟨0, 0, none, by omega, rfl, rfl, by rw [List.take_zero]; exact AllS.nil _ _, Below.refl _ _⟩
  case round =>
    obtain ⟨j, f, aa, hj, rfl, rfl, HA, HB⟩ := hrel
    by_cases hlt : j < N
    · have hlt2 : j < ss.length := by rw [HN.out]; exact hlt
      obtain ⟨_, _, e, _, _, h3⟩ := rdS_below HV.out HB.out (Nat.le_refl _)
      rw [HN.out] at e
      cases e
      obtain ⟨b, off, rfl, xv, yv, c0, c1, c2, rx, ry⟩ := h3 j hlt2
      obtain ⟨x1, x2, ex⟩ := rx.len
      obtain ⟨y1, y2, ey⟩ := ry.len
      subst ex ey
      obtain ⟨q1, q2⟩ := gk_nxt hj hlt
      have hbd := HL.out _ (List.getElem_mem hlt2)
      obtain ⟨⟨sl, sm, sq⟩, ho⟩ : ∃ o, ss[j] = o := ⟨_, rfl⟩
      rw [ho] at c0 c1 c2 rx ry hbd
      simp only at c0 c1 c2 rx ry hbd
      have HTL : Hid ((ss.take j).length = j) := by show _ = _; rw [List.length_take, HN.out]; omega
      have HR : Hid (ss.take (j + 1) = ss.take j ++ [(sl, sm, sq)]) := by show _ = _; rw [List.take_succ_eq_append_getElem hlt2, ho]
      have hb0 := below_box wr #[.slice x1 sl.length x2, .slice y1 sm.length y2, .int .u64 (sq : Int)] 46
      obtain ⟨z0, z1, z2, _, _, _⟩ := box_new wr (.slice x1 sl.length x2) (.slice y1 sm.length y2) (.int .u64 (sq : Int)) 46
      have hap := tapart_any (wr.alloc (.cells #[.slice x1 sl.length x2, .slice y1 sm.length y2, .int .u64 (sq : Int)] 46)) (.slice x1 sl.length x2) (.slice y1 sm.length y2) sl sm (sq : Int) (rx.below hb0 (Nat.le_refl _)).arg (ry.below hb0 (Nat.le_refl _)).arg (by omega) (by omega)
      have HA1 : Hid (AllS w.heap.size (wr.alloc (.cells #[.slice x1 sl.length x2, .slice y1 sm.length y2, .int .u64 (sq : Int)] 46)) (.slice aa j f) (ss.take j)) := HA.out.below hb0
      have HB1 : Hid (Below w.heap.size w (wr.alloc (.cells #[.slice x1 sl.length x2, .slice y1 sm.length y2, .int .u64 (sq : Int)] 46))) := bsplit HB.out hb0
      obtain ⟨nl, hnl⟩ : ∃ nl, sl.length = nl := ⟨_, rfl⟩
      obtain ⟨ml, hml⟩ : ∃ ml, sm.length = ml := ⟨_, rfl⟩
      rw [hnl, hml] at hap HA1 HB1 z0 z1 z2
      rw [hnl] at c0
      rw [hml] at c1
      have HLM : Hid (sl.length = nl ∧ sm.length = ml) := ⟨hnl, hml⟩
      clear ho hb0 h3 rx ry hnl hml hbd
      go_wp2_with fail
      refine hap.mono ?_
      rintro e w7 ⟨ux, uy, rfl, ox, oy, hb7⟩
      obtain ⟨u1, u2, rfl⟩ := ox.rd.len
      obtain ⟨u3, u4, rfl⟩ := oy.rd.len
      rw [HLM.out.1] at ox ⊢
      rw [HLM.out.2] at oy ⊢
      have hbe := below_box4 w7 (.cells #[.slice u1 nl u2, .slice u3 ml u4, .int .u64 (sq : Int)] 46)
      have hlit := laidT3 w7 (.slice u1 nl u2) (.slice u3 ml u4) (.int .u64 (sq : Int)) 46
      have HBE : Hid (Below w.heap.size w (w7.alloc (.cells #[.slice u1 nl u2, .slice u3 ml u4, .int .u64 (sq : Int)] 46))) := bsplit (bsplit HB1.out hb7) hbe
      have hse := HBE.out.size
      have HS9 : Hid (w.heap.size ≤ (wr.alloc (.cells #[.slice x1 nl x2, .slice y1 ml y2, .int .u64 (sq : Int)] 46)).heap.size) := HB1.out.size
      have oxe := (ox.below hbe (Nat.le_refl _)).mono (C := w.heap.size) (by have := HS9.out; omega)
      have oye := (oy.below hbe (Nat.le_refl _)).mono (C := w.heap.size) (by have := HS9.out; omega)
      obtain ⟨cs9, hrow, hel⟩ := (HA1.out.below hb7).below hbe
      rw [HTL.out] at hrow
      have HPS : Hid (∀ g4 c4 w4, w4.ownsRow w.heap.size 46 3 (.slice (some ⟨g4, 0, none⟩) (j + 1) c4) (j + 1) (cs9 ++ [.slice u1 nl u2, .slice u3 ml u4, .int .u64 (sq : Int)]) → (w7.alloc (.cells #[.slice u1 nl u2, .slice u3 ml u4, .int .u64 (sq : Int)] 46)).grownBy w4 (Value.slice aa j f).ownBlock → AllS w.heap.size w4 (.slice (some ⟨g4, 0, none⟩) (j + 1) c4) (ss.take (j + 1)) ∧ Below w.heap.size w w4) := by
        intro g4 c4 w4 hown hgrow
        rw [HR.out]
        exact ⟨AllS.push (sl, sm, sq) HTL.out hrow hel oxe oye hown hgrow, HBE.out.grown hgrow HBE.out.size (fun k' e => (hrow.lt k' e).1)⟩
      clear hap hb7 ox oy hbe hel oxe oye z0 z1 z2 c0 c1 c2
      go_wp2_with (first | (at_builtin; refine wpList_append_lies _ rfl (.tmp 17) (.tmp 20) 38 rfl w.heap.size 46 i0 (.agg #[.slice none 0 0, .slice none 0 0, .int .u64 0]) 3 56 Try.underlying38 hi hz0 hz1 hz2 rfl (by decide) (.slice aa j f) j cs9 rfl hrow ⟨w7.heap.size, 0, none⟩ 1 1 [.slice u1 nl u2, .slice u3 ml u4, .int .u64 (sq : Int)] rfl rfl hlit (oneS _ _ _ _ _ _ _) (by decide) (by simp only [maxLen]; omega) (by omega) hse _ rfl ?_; intro g4 c4 w4 hown hgrow hat hlt4; have HP4 : Hid _ := HPS.out g4 c4 w4 hown hgrow; clear hown hgrow hat hlt4) | fail)
      clear hrow hlit hse
      go_roundg (gk - 1)
      case measure => exact q1
      case rel => exact ⟨j + 1, c4, _, q2, by go_num, rfl, HP4.out.1, HP4.out.2⟩
    · have hjN : j = N := by omega
      subst hjN
      have HT : Hid (ss.take j = ss) := by show _ = _; rw [← HN.out, List.take_length]
      go_wp2_with fail
      go_wp2
      go_ret
      refine ⟨_, rfl, ?_, HB.out⟩
      have h9 := HA.out
      rw [HT.out] at h9
      exact h9

end Go.Proofs.Ythcoblmfmbmdkaa
