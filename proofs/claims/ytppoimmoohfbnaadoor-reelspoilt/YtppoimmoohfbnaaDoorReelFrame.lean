/- reel.Frame. -/
import Derived.Test.YtppoimmoohfbnaaDoorReelPiece
namespace Go.Proofs.YtppoimmoohfbnaaDoor
open Go.RowKit
set_option linter.unusedVariables false

/-- where a frame has come to: bg: a piece stands there already; F: what stands there; R: what is left of the record -/
structure FrI (a : Nat) (W : List UInt8) (bg : Bool) (F R : List UInt8) : Prop where
  eq : (if bg then F ++ frR R else F ++ frF (leftN (a + F.length) - 7) R) = W
  lf : 7 ≤ leftN (a + F.length)
  zr : bg = true → leftN (a + F.length) = 64
  bd : F.length + 2 * R.length + (if bg then 0 else 7) ≤ 131100

theorem FrI.first (a : Nat) (l : List UInt8) (ha : a < 64) (hl : l.length ≤ 65536) : FrI a (frameB a l) false (List.replicate (gapN a) 0) l := by
  refine ⟨?_, ?_, (fun h => by cases h), ?_⟩
  · simp [frameB]
  · rw [List.length_replicate]; exact gap_left a
  · rw [List.length_replicate]
    have := gap_bd a
    simp
    omega

/-- how many bytes the next piece has -/
def frN (a : Nat) (F R : List UInt8) : Nat := min R.length (leftN (a + F.length) - 7)

theorem FrI.last {a : Nat} {W : List UInt8} {bg : Bool} {F R : List UInt8} (h : FrI a W bg F R) (hn : frN a F R = R.length) : F ++ pcB (kindB bg true) R = W := by
  have h1 := h.eq
  have h2 := h.zr
  unfold frN at hn
  cases bg
  · simp only [Bool.false_eq_true, if_false] at h1
    unfold frF at h1
    rw [if_pos (by omega)] at h1
    exact h1
  · simp only [if_true] at h1
    rw [frR_eq, if_pos (by have := h2 rfl; omega)] at h1
    exact h1

theorem FrI.next {a : Nat} {W : List UInt8} {bg : Bool} {F R : List UInt8} (h : FrI a W bg F R) (hn : ¬ frN a F R = R.length) : FrI a W true (F ++ pcB (kindB bg false) (R.take (frN a F R))) (R.drop (frN a F R)) ∧ frN a F R < R.length := by
  have hl := left_bd (a + F.length)
  have h0 := h.lf
  have h1 := h.eq
  have h2 := h.zr
  have h3 := h.bd
  have hn' : frN a F R = leftN (a + F.length) - 7 ∧ leftN (a + F.length) - 7 < R.length := by unfold frN at *; omega
  obtain ⟨e, hlt⟩ := hn'
  have hlen : (F ++ pcB (kindB bg false) (R.take (frN a F R))).length = F.length + leftN (a + F.length) := by
    rw [List.length_append, pcB_length, List.length_take, e]
    omega
  refine ⟨⟨?_, ?_, fun _ => ?_, ?_⟩, by rw [e]; exact hlt⟩
  · simp only [if_true]
    rw [List.append_assoc]
    cases bg
    · simp only [Bool.false_eq_true, if_false] at h1
      unfold frF at h1
      rw [if_neg (by omega)] at h1
      rw [e]
      exact h1
    · simp only [if_true] at h1
      have h64 := h2 rfl
      rw [frR_eq, if_neg (by omega)] at h1
      rw [e, h64]
      exact h1
  · rw [hlen]
    unfold leftN
    omega
  · rw [hlen]
    unfold leftN
    omega
  · rw [hlen, List.length_drop, e]
    cases bg
    · simp at h3 ⊢
      omega
    · simp at h3 ⊢
      have := h2 rfl
      omega

theorem fr_facts {a : Nat} {W : List UInt8} {bg : Bool} {F R : List UInt8} (h : FrI a W bg F R) (ha : a < 64) : F.length ≤ 500000 ∧ a + F.length ≤ 4611686018427387904 ∧ frN a F R ≤ R.length ∧ frN a F R ≤ 1000 ∧ (R.take (frN a F R)).length = frN a F R ∧ min (R.length : Int) ((leftN (a + F.length) : Int) - 7) = (frN a F R : Int) ∧ (R.length : Int) ≤ 65600 ∧ (F.length : Int) ≤ 131100 ∧ (7 : Int) ≤ (leftN (a + F.length) : Int) ∧ (leftN (a + F.length) : Int) ≤ 64 := by
  have := h.bd
  have h1 := left_bd (a + F.length)
  have h2 := h.lf
  have hn : frN a F R = min R.length (leftN (a + F.length) - 7) := rfl
  refine ⟨by omega, by omega, by omega, by omega, by rw [List.length_take]; omega, by omega, by omega, by omega, by omega, by omega⟩

theorem left_at (w : World) (z : Int) (a : Nat) (hz : z = (a : Int)) (h : a ≤ 4611686018427387904) :
    Calls Tryd.prog 24 #[.int .i64 z] w fun e w' => e = .returned (.int .i64 (leftN a : Int)) ∧ w' = w := by
  subst hz
  exact left_any w a h

/-- a slice that lies below block B, or is nothing -/
theorem rd_shape {w : World} {v : Value} {l : List UInt8} {B : Nat} (h : Rd w v l) (hb : ∀ b, v.ownBlock = some b → b < B) : (v = .slice none 0 0 ∧ l = []) ∨ ∃ b off c, v = .slice (some ⟨b, off, none⟩) l.length c ∧ l.length ≤ c ∧ c ≤ 9223372036854775807 ∧ b < B ∧ ∀ j u, (bv l)[j]? = some u → w.cell? ⟨b, off + j, none⟩ = some u := by
  rcases h with h | ⟨b, off, c, rfl, h1, h2, h3⟩
  · exact .inl h
  · exact .inr ⟨b, off, c, rfl, h1, by unfold maxLen at h2; omega, hb b rfl, h3⟩

theorem frame_gap (a : Nat) : (1 : Nat) * gapN a ≤ 281474976710656 ∧ gapN a ≤ maxLen ∧ 1 * gapN a = gapN a := by have := gap_bd a; unfold maxLen; omega

theorem mod_64 (a : Nat) : (a : Int).tmod 64 = ((a % 64 : Nat) : Int) := by rw [Int.tmod_eq_emod_of_nonneg (by omega)]; omega

theorem zeros_of {w : World} {B g n : Nat} (h : w.ownsRow B 5 1 (.slice (some ⟨g, 0, none⟩) n n) n (madeCells (Value.int .u8 0).cells (n * 1)).toList) : Own B w (.slice (some ⟨g, 0, none⟩) (List.replicate n (0 : UInt8)).length n) (List.replicate n 0) := by
  refine Own.of_row ?_ (by simp)
  rw [made_list] at h
  rw [List.length_replicate]
  have e : bv (List.replicate n (0 : UInt8)) = List.replicate n (Value.int .u8 0) := by simp [bv]
  rw [e]
  exact h

theorem frame_refused (w : World) (z : Int) (v : Value) (l : List UInt8) (hv : Rd w v l) (h : z < 0) :
    Calls Tryd.prog 13 #[.int .i64 z, v] w fun e w' => e = .returned (.tuple #[.slice none 0 0, .int .i64 1]) ∧ w' = w := by
  go_enter Tryd.func13, Tryd.ntmps13
  go_wp2
  go_ret2
  exact ⟨rfl, rfl⟩

theorem frame_over (w : World) (z : Int) (v : Value) (l : List UInt8) (hv : Rd w v l) (h : 0 ≤ z) (hl : 65536 < l.length) :
    Calls Tryd.prog 13 #[.int .i64 z, v] w fun e w' => e = .returned (.tuple #[.slice none 0 0, .int .i64 3]) ∧ w' = w := by
  obtain ⟨ao, cap, rfl⟩ := hv.len
  obtain ⟨n, hn⟩ : ∃ n, l.length = n := ⟨_, rfl⟩
  rw [hn] at hl ⊢
  have hl' : (65536 : Int) < (n : Int) := by omega
  have h' : ¬ z < 0 := by omega
  clear hv hn hl h
  go_enter Tryd.func13, Tryd.ntmps13
  go_wp2
  go_ret2
  exact ⟨rfl, rfl⟩

set_option maxRecDepth 100000 in
set_option maxHeartbeats 8000000 in
theorem frame_any (w : World) (a : Nat) (v : Value) (l : List UInt8) (hv : Rd w v l) (hvb : ∀ b, v.ownBlock = some b → b < w.heap.size) (hl : l.length ≤ 65536) (hT : Tab w) (h0 : 0 < w.heap.size) :
    Calls Tryd.prog 13 #[.int .i64 (a : Int), v] w fun e w' => ∃ g c, e = .returned (.tuple #[.slice (some ⟨g, 0, none⟩) (frameB a l).length c, .int .i64 0]) ∧ Own w.heap.size w' (.slice (some ⟨g, 0, none⟩) (frameB a l).length c) (frameB a l) ∧ Below w.heap.size w w' := by
  obtain ⟨i0, hi, hz0, hz1, hz2⟩ := info_parts info5
  obtain ⟨x, hx⟩ : ∃ x, a % 64 = x := ⟨_, rfl⟩
  have hx64 : x < 64 := by omega
  have hm := mod_64 a
  rw [hx] at hm
  have HW : Hid (frameB x l = frameB a l) := by show _ = _; rw [← hx]; exact frameB_mod a l
  obtain ⟨W, hW⟩ : ∃ W, frameB a l = W := ⟨_, rfl⟩
  rw [hW] at HW ⊢
  have HF : Hid (FrI x W false (List.replicate (gapN x) 0) l) := by show FrI _ _ _ _ _; rw [← HW.out]; exact FrI.first x l hx64 hl
  have HG : Hid _ := frame_gap x
  have hgap := gap_any w x (by omega)
  have HT : Hid (Tab w) := hT
  have HR : Hid (Rd w v l) := hv
  have HRB : Hid (∀ b, v.ownBlock = some b → b < w.heap.size) := hvb
  have HX : Hid (x < 64) := hx64
  have HW0 : Hid (0 < w.heap.size) := h0
  obtain ⟨ao0, cap0, hvv⟩ := hv.len
  subst hvv
  have hl' : ¬ (65536 : Int) < (l.length : Int) := by omega
  have ha0 : ¬ (a : Int) < 0 := by omega
  have hx0 : (0 : Int) ≤ (x : Int) := by omega
  have hx1 : (x : Int) ≤ 63 := by omega
  clear hx hW hv hvb hl hT h0 hx64
  go_enter Tryd.func13, Tryd.ntmps13
  go_wp2_with fail
  refine hgap.mono ?_
  rintro e w0 ⟨rfl, rfl⟩
  go_wp2_with (first | (at_make; refine wpList_make_full _ rfl (.tmp 18) (.tmp 18) 22 rfl w0.heap.size 5 i0 (.int .u8 0) 1 Tryd.underlying22 hi hz0 hz1 .i64 .i64 _ _ (gapN x) rfl rfl rfl rfl (by rw [hz2]; exact HG.out.1) HG.out.2.1 (Nat.le_refl _) ?_; intro w1 hown hgr; have OZ : Hid (Own w0.heap.size w1 (.slice (some ⟨w0.heap.size, 0, none⟩) (List.replicate (gapN x) (0 : UInt8)).length (gapN x)) (List.replicate (gapN x) 0)) := zeros_of hown; have HBZ : Hid (Below w0.heap.size w0 w1) := (Below.refl w0.heap.size w0).grown hgr (Nat.le_refl _) (fun k h => by cases h); clear hown hgr) | fail)
  go_loopg [1, 6, 7] (l.length + 2) (fun gk pv fv bv' wr => ∃ (bg : Bool) (F R : List UInt8) (g c : Nat), bv' = .bool bg ∧ fv = .slice (some ⟨g, 0, none⟩) F.length c ∧ Hid (gk = R.length + (if bg then 1 else 2)) ∧ Hid (FrI x W bg F R) ∧ Hid (Own w0.heap.size wr (.slice (some ⟨g, 0, none⟩) F.length c) F) ∧ Hid (Rd w0 pv R ∧ ∀ b, pv.ownBlock = some b → b < w0.heap.size) ∧ Hid (Below w0.heap.size w0 wr))
  case atStart => exact ⟨false, List.replicate (gapN x) 0, l, w0.heap.size, gapN x, rfl, by rw [List.length_replicate], rfl, HF, OZ, ⟨HR.out, HRB.out⟩, HBZ⟩
  case round =>
    obtain ⟨bg, F, R, g, c, rfl, rfl, HK, HI, HO, HP, HBr⟩ := hrel
    obtain ⟨f1, f2, f3, f4, f5, f6, f7, f8, f9, f10⟩ := fr_facts HI.out HX.out
    obtain ⟨lf, hlf⟩ : ∃ lf, leftN (x + F.length) = lf := ⟨_, rfl⟩
    obtain ⟨n, hn⟩ : ∃ n, frN x F R = n := ⟨_, rfl⟩
    rw [hlf] at f6 f9 f10
    rw [hn] at f3 f4 f5 f6
    have hleft := left_at wr ((x : Int) + (F.length : Int)) (x + F.length) (by rw [Int.natCast_add]) f2
    rw [hlf] at hleft
    have HTr : Hid (Tab wr.drew) := HT.out.low HBr.out.drew HW0.out
    have HNf : Hid (frN x F R = n) := hn
    have HF3 : Hid (F.length ≤ 500000 ∧ n ≤ R.length ∧ n ≤ 1000 ∧ (R.take n).length = n) := ⟨f1, f3, f4, f5⟩
    clear hlf hn f1 f2 f4 f5
    obtain ⟨rl, hrl⟩ : ∃ rl, R.length = rl := ⟨_, rfl⟩
    rw [hrl] at f3 f6 f7
    have HRL : Hid (R.length = rl) := hrl
    have hmin2 : (if (lf : Int) - 7 < (rl : Int) then (lf : Int) - 7 else (rl : Int)) = (n : Int) := by rw [← f6]; split <;> omega
    have hnI : (n : Int) ≤ (rl : Int) := Int.ofNat_le.2 f3
    have hn0 : (0 : Int) ≤ (n : Int) := Int.natCast_nonneg n
    have hBs : Hid (w0.heap.size ≤ wr.heap.size) := HBr.out.size
    clear hrl f3
    by_cases hend : n = rl
    · have HE : Hid (F ++ pcB (kindB bg true) R = W) := HI.out.last (by rw [HNf.out, HRL.out]; exact hend)
      have HTK : Hid (R.take n = R) := List.take_of_length_le (by rw [HRL.out, hend]; exact Nat.le_refl _)
      have heI : (n : Int) = (rl : Int) := by rw [hend]
      rcases rd_shape HP.out.1 HP.out.2 with ⟨hpv, hR0⟩ | ⟨b, off, c', hpv, hc1, hc2, hbB, hcs⟩
      · subst hpv
        have hr0 : rl = 0 := by rw [← HRL.out, hR0]; rfl
        subst hend hr0
        have HR0 : Hid (R = []) := hR0
        clear hR0
        go_wp2_with fail
        refine hleft.mono ?_
        rintro e wl ⟨rfl, rfl⟩
        go_wp2_with fail
        go_region_held3 (fun _ => True) (trivial)
          (first
            | (go_at_call 26; refine (kind_any _ bg true).mono ?_; rintro e wx ⟨rfl, hwx⟩; subst hwx)
            | (go_at_call 25; refine (piece_any wl.drew w0.heap.size g c F R (kindB bg true) (.slice none 0 0) HO.out.drew (by rw [HR0.out]; exact .inl ⟨rfl, rfl⟩) (fun b h => by simp [Value.ownBlock] at h) hBs.out HW0.out HF3.out.1 (by rw [HRL.out]; exact Nat.zero_le _) HTr.out).mono ?_; rintro e w2 ⟨g2, c2, rfl, o2, hb2⟩; rw [HE.out] at o2; rw [HE.out]; have HB2 : Hid (Below w0.heap.size w0 w2) := (HBr.out.drew).trans hb2; have O2 : Hid (Own w0.heap.size w2 (.slice (some ⟨g2, 0, none⟩) W.length c2) W) := o2; clear hb2 o2)
            | fail)
        all_goals
          go_wp2
          go_ret2
          exact ⟨g2, c2, rfl, O2.out, HB2.out⟩
      · rw [HRL.out] at hpv hc1
        subst hpv
        subst hend
        have hncI : (n : Int) ≤ (c' : Int) := by omega
        have hrd : Hid (Rd w0 (.slice (some ⟨b, off, none⟩) n c') R) := by
          have := rd_sub hcs 0 n c' (by omega) (by unfold maxLen; omega) (by rw [HRL.out]; omega)
          rw [List.drop_zero, HTK.out] at this
          exact this
        have hvb : Hid (∀ b', (Value.slice (some ⟨b, off, none⟩) n c').ownBlock = some b' → b' < w0.heap.size) := fun b' e => by cases e; exact hbB
        clear hcs hbB hc1 hc2 heI hnI
        go_wp2_with fail
        refine hleft.mono ?_
        rintro e wl ⟨rfl, rfl⟩
        go_wp2_with fail
        go_region_held3 (fun _ => True) (trivial)
          (first
            | (go_at_call 26; refine (kind_any _ bg true).mono ?_; rintro e wx ⟨rfl, hwx⟩; subst hwx)
            | (go_at_call 25; refine (piece_any wl.drew w0.heap.size g c F R (kindB bg true) _ HO.out.drew (hrd.out.low hvb.out HBr.out.drew) hvb.out hBs.out HW0.out HF3.out.1 (by rw [HRL.out]; exact HF3.out.2.2.1) HTr.out).mono ?_; rintro e w2 ⟨g2, c2, rfl, o2, hb2⟩; rw [HE.out] at o2; rw [HE.out]; have HB2 : Hid (Below w0.heap.size w0 w2) := (HBr.out.drew).trans hb2; have O2 : Hid (Own w0.heap.size w2 (.slice (some ⟨g2, 0, none⟩) W.length c2) W) := o2; clear hb2 o2)
            | fail)
        all_goals
          go_wp2
          go_ret2
          exact ⟨g2, c2, rfl, O2.out, HB2.out⟩
    · obtain ⟨hnx, hnlt⟩ := HI.out.next (by rw [HNf.out, HRL.out]; exact hend)
      rw [HNf.out] at hnx hnlt
      rw [HRL.out] at hnlt
      obtain ⟨F', hF'⟩ : ∃ F', F ++ pcB (kindB bg false) (R.take n) = F' := ⟨_, rfl⟩
      rw [hF'] at hnx
      have HF' : Hid _ := hF'
      have HNX : Hid (FrI x W true F' (R.drop n)) := hnx
      clear hF'
      have hneI : ¬ (n : Int) = (rl : Int) := by omega
      have hlfn : (lf : Int) - 7 = (n : Int) := by omega
      have hbq : ((n : Int) == (rl : Int)) = false := by simpa using hneI
      rcases rd_shape HP.out.1 HP.out.2 with ⟨hpv, hR0⟩ | ⟨b, off, c', hpv, hc1, hc2, hbB, hcs⟩
      · exfalso
        have hr0 : rl = 0 := by rw [← HRL.out, hR0]; rfl
        omega
      · rw [HRL.out] at hpv hc1
        subst hpv
        have hncI : (n : Int) ≤ (c' : Int) := by omega
        have hrcI : (rl : Int) ≤ (c' : Int) := by omega
        have hcn : ¬ c' = n := by omega
        have hrd : Hid (Rd w0 (.slice (some ⟨b, off, none⟩) n c') (R.take n)) := by
          have := rd_sub hcs 0 n c' (by omega) (by unfold maxLen; omega) (by rw [HRL.out]; omega)
          rw [List.drop_zero] at this
          exact this
        have hrd2 : Hid (Rd w0 (.slice (some ⟨b, off + n, none⟩) (rl - n) (c' - n)) (R.drop n)) := by
          obtain ⟨off', e1, _, r, _⟩ := rd_drop hcs (by rw [HRL.out]; exact hc1) (by unfold maxLen; omega) n (by rw [HRL.out]; omega)
          rw [e1 hcn, HRL.out] at r
          exact r
        have hvb : Hid (∀ b', (Value.slice (some ⟨b, off, none⟩) n c').ownBlock = some b' → b' < w0.heap.size) := fun b' e => by cases e; exact hbB
        have hvb2 : Hid (∀ b', (Value.slice (some ⟨b, off + n, none⟩) (rl - n) (c' - n)).ownBlock = some b' → b' < w0.heap.size) := fun b' e => by cases e; exact hbB
        have HM : Hid (∀ bgx : Bool, bgx = bg → ((R.drop n).length + 1 < gk ∧ (R.drop n).length + 1 = (R.drop n).length + (if true = true then 1 else 2))) := fun bgx hbg => by
          have hk := HK.out
          rw [List.length_drop]
          rw [HRL.out] at hk ⊢
          have hz := HI.out.zr
          have hl6 := f9
          cases bg
          · simp at hk ⊢
            omega
          · simp at hk ⊢
            have h64 : leftN (x + F.length) = 64 := hz rfl
            have hnn : n = min R.length (leftN (x + F.length) - 7) := HNf.out.symm
            rw [HRL.out] at hnn
            omega
        clear hcs hbB hc1 hnlt hnx hend hc2
        go_wp2_with fail
        refine hleft.mono ?_
        rintro e wl ⟨rfl, rfl⟩
        have HCN : Hid (¬ c' = n) := hcn
        have HRC : Hid ((rl : Int) ≤ (c' : Int)) := hrcI
        have HNI : Hid ((n : Int) ≤ (rl : Int)) := hnI
        clear hcn hrcI
        go_wp2_with fail
        clear hneI hnI hmin2 f6 f7 f8 f9 f10 hleft hlfn hbq
        go_region_held3 (fun _ => True) (trivial)
          (first
            | (go_at_call 26; refine (kind_any _ bg false).mono ?_; rintro e wx ⟨rfl, hwx⟩; subst hwx)
            | (go_at_call 25; refine (piece_any wl.drew w0.heap.size g c F (R.take n) (kindB bg false) _ HO.out.drew (hrd.out.low hvb.out HBr.out.drew) hvb.out hBs.out HW0.out HF3.out.1 (by rw [HF3.out.2.2.2]; exact HF3.out.2.2.1) HTr.out).mono ?_; rintro e w2 ⟨g2, c2, rfl, o2, hb2⟩; rw [HF'.out] at o2; rw [HF'.out]; have HB2 : Hid (Below w0.heap.size w0 w2) := (HBr.out.drew).trans hb2; have O2 : Hid (Own w0.heap.size w2 (.slice (some ⟨g2, 0, none⟩) F'.length c2) F') := o2; clear hb2 o2; have hcn := HCN.out; have hrcI := HRC.out; have hnI := HNI.out)
            | fail)
        all_goals
          go_wp2_with fail
          go_roundg ((R.drop n).length + 1)
          case measure => exact (HM.out bg rfl).1
          case rel => exact ⟨true, F', R.drop n, g2, c2, rfl, rfl, (HM.out bg rfl).2, HNX, O2, ⟨hrd2.out, hvb2.out⟩, HB2⟩

end Go.Proofs.YtppoimmoohfbnaaDoor
