/- bartizanref07.Few. -/
import Derived.Test.YtafnnkiobdgmdaaEntFew
namespace Go.Proofs.Ytafnnkiobdgmdaa
open Go.RowKit
set_option linter.unusedVariables false

theorem ownO_mono {B C : Nat} {w : World} {v : Value} {os : List OpB} (h : OwnO B w v os) (hC : C ≤ B) : OwnO C w v os := h.mono hC

theorem argO_shape {w : World} {v : Value} {os : List OpB} (h : ArgO w v os) : ∃ a c, v = .slice a os.length c := by
  obtain ⟨ao, cap, e, _⟩ := h
  exact ⟨ao, cap, e⟩

theorem ownO_shape {B : Nat} {w : World} {v : Value} {os : List OpB} (h : OwnO B w v os) : ∃ a c, v = .slice a os.length c := by
  obtain ⟨ao, cap, e, _⟩ := h.rd
  exact ⟨ao, cap, e⟩

set_option maxRecDepth 20000 in
set_option maxHeartbeats 4000000 in
theorem fewnt_any (w : World) (v : Value) (ns : List NtB) (n : Nat) (hv : ArgN w v ns) (hn : n ≤ 1000) :
    Calls Try.prog 7 #[v, .int .i64 (n : Int)] w fun e w' => ∃ x, e = .returned x ∧ OwnNt w.heap.size w' x (fewN n ns) ∧ Below w.heap.size w w' := by
  obtain ⟨i0, hi, hz0, hz1, hz2⟩ := info_parts infoNote
  have hv0 := hv
  obtain ⟨ao, cap, rfl, h1, h2, h3⟩ := hv
  unfold maxLen at h2
  have H3 : Hid _ := hv0
  obtain ⟨N, hN⟩ : ∃ N, ns.length = N := ⟨_, rfl⟩
  rw [hN] at h1 ⊢
  have HN : Hid (ns.length = N) := hN
  clear hv0 h3 hN
  go_enter Try.func7, Try.ntmps7
  go_wp2_with fail
  go_loopg [5, 10] N (fun gk pv iv wr => ∃ j n' c' : Nat, ∃ a' : Option Addr, gk + j = N ∧ iv = .int .i64 (j : Int) ∧ pv = .slice a' n' c' ∧ Hid (OwnNt w.heap.size wr pv (fewN n (ns.take j))) ∧ Hid (Below w.heap.size w wr))
  case atStart => exact ⟨0, 0, 0, none, by omega, rfl, rfl, by show OwnNt _ _ _ _; rw [List.take_zero, show fewN n [] = [] by simp [fewN]]; exact OwnNt.nil _ _, Below.refl _ _⟩
  case round =>
    obtain ⟨j, n', c', a', hj, rfl, rfl, HO, HB⟩ := hrel
    by_cases hlt : j < N
    · have hlt2 : j < ns.length := by rw [HN.out]; exact hlt
      obtain ⟨_, _, e, _, _, h3⟩ := ArgN.below (show ArgN w _ ns from H3.out) HB.out (Nat.le_refl _)
      cases e
      obtain ⟨b, off, rfl, xv, yv, c0, c1, c2, c3, rx, ry⟩ := h3 j hlt2
      obtain ⟨x1, x2, ex⟩ := Arg.shape rx
      obtain ⟨y1, y2, ey⟩ := argO_shape ry
      subst ex ey
      obtain ⟨⟨ok, osq, ol, oo⟩, ho⟩ : ∃ o, ns[j] = o := ⟨_, rfl⟩
      rw [ho] at c0 c1 c2 c3 rx ry
      obtain ⟨q1, q2⟩ : gk - 1 < gk ∧ gk - 1 + (j + 1) = N := by omega
      have hnl : n' = min n j := by
        obtain ⟨cs, hrow, _⟩ := HO.out
        have hl : (fewN n (ns.take j)).length = min n j := by unfold fewN; rw [List.length_map, List.length_take, List.length_take, Nat.min_eq_left (show j ≤ ns.length by omega)]
        rcases hrow.2 with ⟨e, e2⟩ | ⟨g, cap', cur, e, _⟩
        · cases e; omega
        · cases e; exact hl
      have htl : (fewN n (ns.take j)).length = n' := by unfold fewN; rw [List.length_map, List.length_take, List.length_take, Nat.min_eq_left (show j ≤ ns.length by omega)]; exact hnl.symm
      have HTL : Hid _ := htl
      have HNB : Hid (n' ≤ 1000) := by show _ ≤ _; omega
      have hkI := ok.toNat_lt
      obtain ⟨kk, hkk⟩ : ∃ kk, ok.toNat = kk := ⟨_, rfl⟩
      have HKK : Hid (ok.toNat = kk) := hkk
      simp only at c0 c1 c2 c3 rx ry
      rw [hkk] at c0
      obtain ⟨nl, hnlq⟩ : ∃ nl, ol.length = nl := ⟨_, rfl⟩
      obtain ⟨oln, holn⟩ : ∃ oln, oo.length = oln := ⟨_, rfl⟩
      rw [hnlq] at rx c2
      rw [holn] at ry c3
      have HRX : Hid (Arg wr (.slice x1 nl x2) ol) := rx
      have HRY : Hid (ArgO wr (.slice y1 oln y2) oo) := ry
      clear htl hkk hkI rx ry h3 hnlq holn hnl
      by_cases hjn : j < n
      · have hjI : (j : Int) < (n : Int) := by omega
        obtain ⟨ck, HCK⟩ : ∃ ck, Hid (ol.take 40 = ck) := ⟨_, rfl⟩
        obtain ⟨co, HCO⟩ : ∃ co, Hid (fewO 66 oo = co) := ⟨_, rfl⟩
        have HR : Hid (fewN n (ns.take (j + 1)) = fewN n (ns.take j) ++ [(ok, osq, ck, co)]) := by show _ = _; rw [fewN_take hlt2 hjn, ho]; unfold cutN; rw [← HCK.out, ← HCO.out]
        have hb0 := below_box4 wr (.cells #[.int .u8 (kk : Int), .int .u64 (osq : Int), .slice x1 nl x2, .slice y1 oln y2] 26)
        have bx := (box4_new wr (.int .u8 (kk : Int)) (.int .u64 (osq : Int)) (.slice x1 nl x2) (.slice y1 oln y2) 26).drew
        have rx0 := arg_drew (HRX.out.below hb0 (Nat.le_refl _))
        have ry0 := LsO.drewA (LsO.belowA HRY.out hb0 (Nat.le_refl _))
        have HO0 : Hid (OwnNt w.heap.size (wr.alloc (.cells #[.int .u8 (kk : Int), .int .u64 (osq : Int), .slice x1 nl x2, .slice y1 oln y2] 26)).drew (.slice a' n' c') (fewN n (ns.take j))) := (HO.out.below hb0 (Nat.le_refl _)).drew
        have HB0 : Hid (Below w.heap.size w (wr.alloc (.cells #[.int .u8 (kk : Int), .int .u64 (osq : Int), .slice x1 nl x2, .slice y1 oln y2] 26)).drew) := (HB.out.alloc HB.out.size _).drew
        have HNE : Hid (some wr.heap.size ≠ (Value.slice a' n' c').ownBlock) := by
          obtain ⟨cs, hrow, _⟩ := HO.out
          intro e
          have := (hrow.lt _ e.symm).2
          omega
        clear ho hb0
        go_wp2_with fail
        go_region_held3 (fun w' => w'.cell? ⟨wr.heap.size, 0, none⟩ = some (.int .u8 (kk : Int)) ∧ w'.cell? ⟨wr.heap.size, 1, none⟩ = some (.int .u64 (osq : Int)) ∧ w'.cell? ⟨wr.heap.size, 2, none⟩ = some (.slice x1 nl x2) ∧ w'.cell? ⟨wr.heap.size, 3, none⟩ = some (.slice y1 oln y2))
          (first | exact ⟨b4.c0, b4.c1, b4.c2, b4.c3⟩ | exact ⟨be.c0, be.c1, be.c2, be.c3⟩ | exact ⟨by2.c0, by2.c1, by2.c2, by2.c3⟩ | exact ⟨bx2.c0, bx2.c1, bx2.c2, bx2.c3⟩ | exact ⟨bx.c0, bx.c1, bx.c2, bx.c3⟩)
          (first
            | (go_at_call 13; refine (cut_any _ _ ol 40 rx0 (by omega)).mono ?_; rintro e wx ⟨x, rfl, ox, hbx⟩; rw [HCK.out] at ox; obtain ⟨gx, kx, hx⟩ := ox.shape; subst hx; have bx2 := bx.below hbx (Nat.le_refl _))
            | (go_at_call 16; refine (fewop_any _ _ oo 66 (LsO.belowA ry0 hbx (Nat.le_refl _)) (by omega)).mono ?_; rintro e wy ⟨y, rfl, oy, hby⟩; rw [HCO.out] at oy; obtain ⟨ya, yc, hy⟩ := ownO_shape oy; subst hy; have by2 := bx2.below hby (Nat.le_refl _); have be := by2.alloc (.cells #[.int .u8 (kk : Int), .int .u64 (osq : Int), .slice (some ⟨gx, 0, none⟩) ck.length kx, .slice ya co.length yc] 26))
            | (have hbe := below_box4 wy (.cells #[.int .u8 (kk : Int), .int .u64 (osq : Int), .slice (some ⟨gx, 0, none⟩) ck.length kx, .slice ya co.length yc] 26)
               have hOe := ((HO0.out.below hbx (Nat.le_refl _)).below hby (Nat.le_refl _)).below hbe (Nat.le_refl _)
               have hBx := HB0.out.trans (hbx.mono HB0.out.size)
               have hBy := hBx.trans (hby.mono hBx.size)
               have hBe := hBy.trans (hbe.mono hBy.size)
               have oxe := ((ox.below hby (Nat.le_refl _)).below hbe (Nat.le_refl _)).mono (C := w.heap.size) HB0.out.size
               have oye := (oy.below hbe (Nat.le_refl _)).mono (C := w.heap.size) hBx.size
               obtain ⟨cs, hrow, hel⟩ := hOe
               have hsz : w.heap.size ≤ wy.heap.size := hBy.size
               have hnb9 := HNB.out
               have htl9 := HTL.out
               refine step_append_lies _ rfl (.tmp 18) (.tmp 30) 28 rfl w.heap.size 26 i0 (.agg #[.int .u8 0, .int .u64 0, .slice none 0 0, .slice none 0 0]) 4 64 Try.underlying28 hi hz0 hz1 hz2 rfl (by decide) (.slice a' n' c') (fewN n (ns.take j)).length cs rfl hrow ⟨wy.heap.size, 0, none⟩ 1 1 [.int .u8 (kk : Int), .int .u64 (osq : Int), .slice (some ⟨gx, 0, none⟩) ck.length kx, .slice ya co.length yc] rfl rfl (laid4 _ _ _ _ _ _) (one4 _ _ _ _ _ _ _ _) (by decide) (by simp only [maxLen]; omega) (by omega) hBe.size _ rfl ?_
               intro g4 c4 w4 hown hgrow hat hlt4
               have b4 := be.grown hgrow HNE.out
               have hown' := hown
               rw [← HKK.out] at hown'
               have hpush := own_pushN (ok, osq, ck, co) hrow hel (.inr oxe) oye hown' hgrow
               rw [HTL.out] at hpush
               have HP : Hid (OwnNt w.heap.size w4 (.slice (some ⟨g4, 0, none⟩) (n' + 1) c4) (fewN n (ns.take j) ++ [(ok, osq, ck, co)])) := hpush
               have HB4 : Hid (Below w.heap.size w w4) := hBe.grown hgrow hBe.size (fun k' e => (hrow.lt k' e).1))
            | fail)
        all_goals
          clear bx rx0 ry0
          go_wp2_with fail
          go_roundg (gk - 1)
          case measure => exact q1
          case rel => exact ⟨j + 1, _, c4, _, q2, by go_num, rfl, by show OwnNt _ _ _ _; rw [HR.out]; exact HP.out, HB4⟩
      · have hjI : ¬ (j : Int) < (n : Int) := by omega
        have HST : Hid (fewN n (ns.take (j + 1)) = fewN n (ns.take j)) := fewN_stay hjn
        have hb0 := below_box4 wr (.cells #[.int .u8 (kk : Int), .int .u64 (osq : Int), .slice x1 nl x2, .slice y1 oln y2] 26)
        have HO9 : Hid _ := HO.out.below hb0 (Nat.le_refl _)
        have HB9 : Hid _ := HB.out.alloc HB.out.size (.cells #[.int .u8 (kk : Int), .int .u64 (osq : Int), .slice x1 nl x2, .slice y1 oln y2] 26)
        clear ho hb0
        go_wp2_with fail
        go_roundg (gk - 1)
        case measure => exact q1
        case rel => exact ⟨j + 1, n', c', a', q2, by go_num, rfl, by show OwnNt _ _ _ _; rw [HST.out]; exact HO9.out, HB9.out⟩
    · have hjN : j = N := by omega
      subst hjN
      have HE : Hid (fewN n (ns.take j) = fewN n ns) := by show _ = _; rw [← HN.out, List.take_length]
      go_wp2
      go_ret
      exact ⟨_, rfl, by rw [← HE.out]; exact HO.out, HB.out⟩

end Go.Proofs.Ytafnnkiobdgmdaa
