/- bartizanref01's Take, forms of more bytes. -/
import Derived.Test.YtmgofohaoppajaaDoorRefTake
namespace Go.Proofs.YtmgofohaoppajaaDoor
open Go.RowKit

set_option maxHeartbeats 1000000 in
set_option maxRecDepth 100000 in
theorem reftake_short4 (w : World) (v : Value) (f : UInt8) (t : List UInt8) (hv : Rd w v (f :: t)) (F : Nat) (HF : Hid (f.toNat = F)) (g1 : 250 ≤ F) (g2 : F ≤ 255) (hl : (f :: t).length < F - 246) :
    Calls Tryd.prog 50 #[v] w fun e w' => e = .returned (.tuple #[.int .u64 0, .slice none 0 0, .int .i64 2]) ∧ w' = w := by
  rcases hv with ⟨_, h⟩ | ⟨b, off, cap, rfl, h1, h2, h3⟩
  · cases h
  have hc := h3 0 _ (bv_get (f :: t) 0 (by simp))
  simp only [Nat.add_zero, List.getElem_cons_zero] at hc
  rw [HF.out] at hc
  simp only [List.length_cons] at h1 hl ⊢
  unfold maxLen at h2
  have h0 : ((t.length : Int) + 1 == 0) = false := by simp; omega
  clear h3
  have g4 : ((F : Int) == 249) = false := by simp; omega
  go_enter Tryd.func50, Tryd.ntmps50
  go_wp2
  go_ret3
  exact ⟨rfl, rfl⟩

set_option maxHeartbeats 4000000 in
set_option maxRecDepth 100000 in
theorem reftake_wide4 (w : World) (v : Value) (f : UInt8) (t u rest : List UInt8) (hv : Rd w v (f :: t)) (F : Nat) (HF : Hid (f.toNat = F)) (g1 : 250 ≤ F) (g2 : F ≤ 255) (hl : F - 246 ≤ (f :: t).length) (hlen : (f :: t).length ≤ 1099511627776)
    (hu : t.take (F - 246 - 1) = u) (hrest : t.drop (F - 246 - 1) = rest) (d : Nat) (hd : d = Mth.hf u) (hd64 : d < 18446744073709551616) (same : Bool) (hs : (Mth.numB d == f :: u) = same) :
    Calls Tryd.prog 50 #[v] w fun e w' => ∃ x, e = .returned (refV same d x) ∧ RefPost same rest w.heap.size w' x ∧ Below w.heap.size w w' := by
  obtain ⟨i0, hi, hz0, hz1, hz2⟩ := info_parts info5
  rcases hv with ⟨_, h⟩ | ⟨b, off, cap, rfl, h1, h2, h3⟩
  · cases h
  have hc := h3 0 _ (bv_get (f :: t) 0 (by simp))
  simp only [Nat.add_zero, List.getElem_cons_zero] at hc
  rw [HF.out] at hc
  have hul : u.length = F - 246 - 1 := by rw [← hu, List.length_take]; simp at hl; omega
  have hU : Rd w (.slice (some ⟨b, off + 1, none⟩) (F - 246 - 1) (cap - 1)) u := by
    have := rd_sub h3 1 (F - 246 - 1) (cap - 1) (by simp at h1 hl; omega) (by omega) (by simp at hl ⊢; omega)
    rw [List.drop_succ_cons, List.drop_zero, hu] at this
    exact this
  have hP : Rd w (.slice (some ⟨b, off, none⟩) (F - 246) cap) (f :: u) := by
    have := rd_sub h3 0 (F - 246) cap (by omega) h2 (by omega)
    rw [List.drop_zero] at this
    have e : (f :: t).take (F - 246) = f :: u := by
      rw [← hu]
      obtain ⟨q, hq⟩ : ∃ q, F - 246 = q + 1 := ⟨F - 246 - 1, by omega⟩
      rw [hq, List.take_succ_cons, Nat.add_sub_cancel]
    rw [e] at this
    exact this
  obtain ⟨off1, o1, o2, hR, _hcc⟩ := rd_drop h3 h1 h2 (F - 246) hl
  have hRe : (f :: t).drop (F - 246) = rest := by
    rw [← hrest]
    obtain ⟨q, hq⟩ : ∃ q, F - 246 = q + 1 := ⟨F - 246 - 1, by omega⟩
    rw [hq, List.drop_succ_cons, Nat.add_sub_cancel]
  rw [hRe] at hR
  have hucells := (rd_cells hU).2
  have hhu : ∀ i, i < u.length → Mth.hf (u.take i) < 72057594037927936 := by
    intro i hi'
    refine Nat.lt_of_lt_of_le (Mth.hf_lt _) ?_
    rw [List.length_take, Nat.min_eq_left (by omega)]
    exact Nat.pow_le_pow_right (n := 256) (by omega) (show i ≤ 7 by omega)
  have hhe : Mth.hf u < 18446744073709551616 := by
    refine Nat.lt_of_lt_of_le (Mth.hf_lt _) ?_
    exact Nat.pow_le_pow_right (n := 256) (by omega) (show u.length ≤ 8 by omega)
  have HUL : Hid (u.length = F - 246 - 1) := hul
  have HDD : Hid (d = Mth.hf u) := hd
  have HSM : Hid ((Mth.numB d == f :: u) = same) := hs
  have hbw : b < w.heap.size := World.block_lt_of_cell? w _ hc
  simp only [List.length_cons] at h1 hl hlen hR
  have hrl : rest.length = t.length + 1 - (F - 246) := (rd_cells hR).1
  simp only [List.length_cons]
  unfold maxLen at h2
  have h0 : ((t.length : Int) + 1 == 0) = false := by simp; omega
  have HRL : Hid (rest.length = t.length + 1 - (F - 246)) := hrl
  clear h3 hu hrest _hcc hRe hU hd hs hul hrl
  have g4 : ((F : Int) == 249) = false := by simp; omega
  go_enter Tryd.func50, Tryd.ntmps50
  go_wp2
  go_loop [6, 42] (fun nv iv => ∃ i : Nat, i ≤ u.length ∧ iv = .int .i64 (i : Int) ∧ nv = .int .u64 (Mth.hf (u.take i) : Int)) (fun _ iv => u.length - (intOf iv).toNat)
  case atStart => exact ⟨0, Nat.zero_le _, rfl, rfl⟩
  case round =>
    obtain ⟨i, hil, rfl, rfl⟩ := hrel
    by_cases hlt : i < u.length
    · have hlb2 := hhu i hlt
      have hcu := hucells i _ (bv_get u i hlt)
      rw [Addr.add_lit] at hcu
      have hb := (u[i]).toNat_lt
      have hst := hf_take_succ u i hlt
      obtain ⟨x, hx⟩ : ∃ x, Mth.hf (u.take i) = x := ⟨_, rfl⟩
      obtain ⟨y, hy⟩ : ∃ y, (u[i]).toNat = y := ⟨_, rfl⟩
      have HST : Hid (Mth.hf (u.take (i + 1)) = x * 256 + y) := by show _ = _; rw [hst, hx, hy]
      rw [hy] at hcu hb
      rw [hx] at hlb2
      rw [hx]
      have hik : i < F - 246 - 1 := by have := HUL.out; omega
      clear hx hy hst hucells hhu
      go_wp2
      go_round
      case rel => exact ⟨i + 1, by omega, by go_num, by rw [HST.out]; go_num⟩
      case measure => simp [intOf]; omega
    · have hie : i = u.length := by omega
      subst hie
      rw [List.take_length]
      obtain ⟨x, hx⟩ : ∃ x, Mth.hf u = x := ⟨_, rfl⟩
      rw [hx] at hhe HDD
      rw [hx]
      have hik : ¬ u.length < F - 246 - 1 := by have := HUL.out; omega
      obtain ⟨m, hm⟩ : ∃ m, u.length = m := ⟨_, rfl⟩
      rw [hm] at HUL hik
      rw [hm]
      have hm8 : m ≤ 8 := by have := HUL.out; omega
      clear hx hm hhu hucells hlt hil
      go_wp2
      go_region_with (first | (go_at_call 25; refine (refnum_lit _ d (by have := HDD.out; omega) _ hd64).mono ?_; rintro e w1 ⟨v1, rfl, ho1, hb1'⟩) | (go_at_call 11; refine (same_b _ _ _ (Mth.numB d) (f :: u) same (by exact ho1.rd) (by exact Rd.below hP.drew hb1' (Nat.le_refl _)) HSM.out).mono ?_; rintro e w2 ⟨rfl, hw2⟩; subst hw2))
      all_goals
        have hB1 := (Below.refl w.heap.size w).drew.trans hb1'
        cases same
        · go_wp2
          go_ret3
          exact ⟨_, rfl, rfl, hB1⟩
        · have hR1 := hR.below hB1 (Nat.le_refl _)
          have hR' := rd_cells (hR1.below (below_empty _) (Nat.le_refl _))
          have hown0 := own_empty w2
          have hcells := hR'.2
          clear hR1 hR'
          by_cases hcap : F - 246 = cap
          · subst hcap
            have := o2 rfl
            subst this
            clear o1 o2 hcells hR
            have hr0 : rest = [] := List.eq_nil_of_length_eq_zero (by have := HRL.out; omega)
            have hop : Own w.heap.size (w2.alloc (.cells #[] 5)) (.slice (some ⟨w2.heap.size, 0, none⟩) 0 0) rest := by
              subst hr0
              exact (Own.of_row hown0 (by simp)).mono hB1.size
            have hbp := hB1.trans ((below_empty w2).mono hB1.size)
            go_wp2
            go_ret3
            exact ⟨_, ref_eq (by have := HDD.out; omega) _, hop, hbp⟩
          · have := o1 (fun e => hcap e.symm)
            subst this
            clear o1 o2
            have hrl2 : t.length + 1 - (F - 246) ≤ 1099511627776 := by omega
            go_wp2_with (at_builtin; refine wpList_append_own _ rfl (.tmp 75) (.tmp 78) 26 rfl w2.heap.size 5 i0 (.int .u8 0) 1 1 Tryd.underlying26 hi hz0 hz1 hz2 rfl (by decide) (.slice (some ⟨w2.heap.size, 0, none⟩) 0 0) 0 [] rfl hown0 _ _ _ (bv rest) rfl (by rw [bv_length, HRL.out, Nat.mul_one]) hcells (bv_one _) (by simp only [maxLen]; omega) (by omega) (by simp) ?_; intro v' w3 ho' hgr' hn')
            go_ret3
            have hoc := own_copied (by rw [HRL.out]) ho' hgr' (fun e => by have := (hn'.1 e).1; cases this)
            exact ⟨_, ref_eq (by have := HDD.out; omega) _, hoc.1.mono hB1.size, hB1.trans (hoc.2.mono hB1.size)⟩

end Go.Proofs.YtmgofohaoppajaaDoor
