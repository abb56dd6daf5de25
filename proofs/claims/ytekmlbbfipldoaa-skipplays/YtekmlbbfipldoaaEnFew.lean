/- bartizanref03.Few: entries, not too many, nor too long; Twins: entries of their own. -/
import Derived.Test.YtekmlbbfipldoaaEnRow
namespace Go.Proofs.Ytekmlbbfipldoaa
open Go.RowKit
set_option linter.unusedVariables false

/-- an entry, cut -/
def cutE (e : EnB) : EnB := (e.1.take 80, e.2.1, e.2.2.1, e.2.2.2.take 600)

def fewE (n : Nat) (es : List EnB) : List EnB := (es.take n).map cutE

theorem fewE_take {n : Nat} {es : List EnB} {j : Nat} (h : j < es.length) (hn : j < n) : fewE n (es.take (j + 1)) = fewE n (es.take j) ++ [cutE es[j]] := by
  unfold fewE
  rw [List.take_take, List.take_take, Nat.min_eq_right (by omega), Nat.min_eq_right (by omega), List.take_succ_eq_append_getElem h, List.map_append]
  rfl

theorem fewE_stay {n : Nat} {es : List EnB} {j : Nat} (hn : ¬ j < n) : fewE n (es.take (j + 1)) = fewE n (es.take j) := by
  unfold fewE
  rw [List.take_take, List.take_take, Nat.min_eq_left (by omega), Nat.min_eq_left (by omega)]

theorem fewE_len (n : Nat) (es : List EnB) : (fewE n es).length ≤ n := by
  unfold fewE; rw [List.length_map, List.length_take]; omega

theorem ownrow_len {B n m c : Nat} {w : World} {a : Option Addr} {e : TypeId} {s : Nat} {cs : List Value} (h : w.ownsRow B e s (.slice a m c) n cs) : m = n := by
  rcases h.2 with ⟨e1, e2⟩ | ⟨g, cap', cur, e1, _⟩
  · cases e1; exact e2.symm
  · cases e1; rfl

theorem own_ne_new {B n : Nat} {w : World} {v : Value} {e : TypeId} {s : Nat} {cs : List Value} (h : w.ownsRow B e s v n cs) : some w.heap.size ≠ v.ownBlock := by
  intro e'
  have := (h.lt _ e'.symm).2
  omega

set_option maxRecDepth 20000 in
set_option maxHeartbeats 4000000 in
theorem fewE_any (w : World) (v : Value) (es : List EnB) (n : Nat) (hv : ArgE w v es) (hn : n ≤ 1000) :
    Calls Try.prog 29 #[v, .int .i64 (n : Int)] w fun e w' => ∃ x, e = .returned x ∧ OwnE w.heap.size w' x (fewE n es) ∧ Below w.heap.size w w' := by
  obtain ⟨i0, hi, hz0, hz1, hz2⟩ := info_parts infoEn
  have hv0 := hv
  obtain ⟨ao, cap, rfl, h1, h2, h3⟩ := hv
  unfold maxLen at h2
  have H3 : Hid _ := hv0
  obtain ⟨N, hN⟩ : ∃ N, es.length = N := ⟨_, rfl⟩
  rw [hN] at h1 ⊢
  have HN : Hid (es.length = N) := hN
  clear hv0 h3 hN
  go_enter Try.func29, Try.ntmps29
  go_wp2_with fail
  go_loopg [5, 10] N (fun gk pv iv wr => ∃ j n' c' : Nat, ∃ a' : Option Addr, gk + j = N ∧ iv = .int .i64 (j : Int) ∧ pv = .slice a' n' c' ∧ Hid (OwnE w.heap.size wr pv (fewE n (es.take j))) ∧ Hid (Below w.heap.size w wr))
  case atStart => exact ⟨0, 0, 0, none, by omega, rfl, rfl, by show OwnE _ _ _ _; rw [List.take_zero, show fewE n [] = [] by simp [fewE]]; exact OwnE.nil _ _, Below.refl _ _⟩
  case round =>
    obtain ⟨j, n', c', a', hj, rfl, rfl, HO, HB⟩ := hrel
    by_cases hlt : j < N
    · have hlt2 : j < es.length := by rw [HN.out]; exact hlt
      obtain ⟨_, _, e, _, _, h3⟩ := argE_below (show ArgE w _ es from H3.out) HB.out (Nat.le_refl _)
      cases e
      obtain ⟨b, off, rfl, xv, yv, c0, c1, c2, c3, rx, ry⟩ := h3 j hlt2
      obtain ⟨x1, x2, ex⟩ := Arg.shape rx
      obtain ⟨y1, y2, ey⟩ := Arg.shape ry
      subst ex ey
      obtain ⟨⟨ol, osq, ok, oo⟩, ho⟩ : ∃ o, es[j] = o := ⟨_, rfl⟩
      rw [ho] at c0 c1 c2 c3 rx ry
      obtain ⟨q1, q2⟩ : gk - 1 < gk ∧ gk - 1 + (j + 1) = N := by omega
      have hfl : (fewE n (es.take j)).length = min n j := by unfold fewE; rw [List.length_map, List.length_take, List.length_take, Nat.min_eq_left (show j ≤ es.length by omega)]
      have hnl : n' = min n j := by
        obtain ⟨cs, hrow, _⟩ := HO.out
        rw [ownrow_len hrow, hfl]
      have HTL : Hid ((fewE n (es.take j)).length = n') := by show _ = _; rw [hfl, hnl]
      have HNB : Hid (n' ≤ 1000) := by show _ ≤ _; omega
      obtain ⟨kk, hkk⟩ : ∃ kk, ok.toNat = kk := ⟨_, rfl⟩
      have HKK : Hid (ok.toNat = kk) := hkk
      simp only at c0 c1 c2 c3 rx ry
      rw [hkk] at c2
      obtain ⟨nl, hnlq⟩ : ∃ nl, ol.length = nl := ⟨_, rfl⟩
      obtain ⟨oln, holn⟩ : ∃ oln, oo.length = oln := ⟨_, rfl⟩
      rw [hnlq] at rx c0
      rw [holn] at ry c3
      have HRX : Hid (Arg wr (.slice x1 nl x2) ol) := rx
      have HRY : Hid (Arg wr (.slice y1 oln y2) oo) := ry
      clear hkk rx ry h3 hnlq holn hnl hfl
      by_cases hjn : j < n
      · have hjI : (j : Int) < (n : Int) := by omega
        obtain ⟨ck, HCK⟩ : ∃ ck, Hid (ol.take 80 = ck) := ⟨_, rfl⟩
        obtain ⟨co, HCO⟩ : ∃ co, Hid (oo.take 600 = co) := ⟨_, rfl⟩
        have HR : Hid (fewE n (es.take (j + 1)) = fewE n (es.take j) ++ [(ck, osq, ok, co)]) := by show _ = _; rw [fewE_take hlt2 hjn, ho]; unfold cutE; rw [← HCK.out, ← HCO.out]
        have hb0 := below_box4 wr (.cells #[.slice x1 nl x2, .int .u64 (osq : Int), .int .u8 (kk : Int), .slice y1 oln y2] 38)
        have bx := (box4_new wr (.slice x1 nl x2) (.int .u64 (osq : Int)) (.int .u8 (kk : Int)) (.slice y1 oln y2) 38).drew
        have rx0 := arg_drew (HRX.out.below hb0 (Nat.le_refl _))
        have ry0 := arg_drew (HRY.out.below hb0 (Nat.le_refl _))
        have HO0 : Hid (OwnE w.heap.size (wr.alloc (.cells #[.slice x1 nl x2, .int .u64 (osq : Int), .int .u8 (kk : Int), .slice y1 oln y2] 38)).drew (.slice a' n' c') (fewE n (es.take j))) := (HO.out.below hb0 (Nat.le_refl _)).drew
        have HB0 : Hid (Below w.heap.size w (wr.alloc (.cells #[.slice x1 nl x2, .int .u64 (osq : Int), .int .u8 (kk : Int), .slice y1 oln y2] 38)).drew) := (HB.out.alloc HB.out.size _).drew
        have HNE : Hid (some wr.heap.size ≠ (Value.slice a' n' c').ownBlock) := by
          obtain ⟨cs, hrow, _⟩ := HO.out
          exact own_ne_new hrow
        clear ho hb0
        go_wp2_with fail
        go_region_held3 (fun w' => w'.cell? ⟨wr.heap.size, 0, none⟩ = some (.slice x1 nl x2) ∧ w'.cell? ⟨wr.heap.size, 1, none⟩ = some (.int .u64 (osq : Int)) ∧ w'.cell? ⟨wr.heap.size, 2, none⟩ = some (.int .u8 (kk : Int)) ∧ w'.cell? ⟨wr.heap.size, 3, none⟩ = some (.slice y1 oln y2))
          (first | exact ⟨b4.c0, b4.c1, b4.c2, b4.c3⟩ | exact ⟨be.c0, be.c1, be.c2, be.c3⟩ | exact ⟨by2.c0, by2.c1, by2.c2, by2.c3⟩ | exact ⟨bx2.c0, bx2.c1, bx2.c2, bx2.c3⟩ | exact ⟨bx.c0, bx.c1, bx.c2, bx.c3⟩)
          (first
            | (go_at_call 39; refine (cut_any _ _ ol 80 rx0 (by omega)).mono ?_; rintro e wx ⟨x, rfl, ox, hbx⟩; rw [HCK.out] at ox; obtain ⟨gx, kx, hx⟩ := ox.shape; subst hx; have bx2 := bx.below hbx (Nat.le_refl _); clear rx0)
            | (go_at_call 39; refine (cut_any _ _ oo 600 (ry0.below hbx (Nat.le_refl _)) (by omega)).mono ?_; rintro e wy ⟨y, rfl, oy, hby⟩; rw [HCO.out] at oy; obtain ⟨gy, ky, hy⟩ := oy.shape; subst hy; have by2 := bx2.below hby (Nat.le_refl _); have be := by2.alloc (.cells #[.slice (some ⟨gx, 0, none⟩) ck.length kx, .int .u64 (osq : Int), .int .u8 (kk : Int), .slice (some ⟨gy, 0, none⟩) co.length ky] 38))
            | (have hbe := below_box4 wy (.cells #[.slice (some ⟨gx, 0, none⟩) ck.length kx, .int .u64 (osq : Int), .int .u8 (kk : Int), .slice (some ⟨gy, 0, none⟩) co.length ky] 38)
               have hOe := ((HO0.out.below hbx (Nat.le_refl _)).below hby (Nat.le_refl _)).below hbe (Nat.le_refl _)
               have hBx := HB0.out.trans (hbx.mono HB0.out.size)
               have hBy := hBx.trans (hby.mono hBx.size)
               have hBe := hBy.trans (hbe.mono hBy.size)
               have oxe := ((ox.below hby (Nat.le_refl _)).below hbe (Nat.le_refl _))
               have oye := (oy.below hbe (Nat.le_refl _))
               obtain ⟨cs, hrow, hel⟩ := hOe
               rw [HTL.out] at hrow
               have hsz : w.heap.size ≤ wy.heap.size := hBy.size
               have hnb9 := HNB.out
               have hlow : ∀ q, (Value.slice a' n' c').ownBlock = some q → q < (wr.alloc (.cells #[.slice x1 nl x2, .int .u64 (osq : Int), .int .u8 (kk : Int), .slice y1 oln y2] 38)).drew.heap.size := fun q hq => (HO0.out.lt q hq).2
               have hlow2 : ∀ q, (Value.slice a' n' c').ownBlock = some q → q < wx.heap.size := fun q hq => Nat.lt_of_lt_of_le (hlow q hq) hbx.size
               refine step_append_lies _ rfl (.tmp 18) (.tmp 34) 28 rfl w.heap.size 38 i0 (.agg #[.slice none 0 0, .int .u64 0, .int .u8 0, .slice none 0 0]) 4 64 Try.underlying28 hi hz0 hz1 hz2 rfl (by decide) (.slice a' n' c') n' cs rfl hrow ⟨wy.heap.size, 0, none⟩ 1 1 [.slice (some ⟨gx, 0, none⟩) ck.length kx, .int .u64 (osq : Int), .int .u8 (kk : Int), .slice (some ⟨gy, 0, none⟩) co.length ky] rfl rfl (laid4 _ _ _ _ _ _) (oneE _ _ _ _ _ _ _ _) (by decide) (by simp only [maxLen]; omega) (by omega) hBe.size _ rfl ?_
               intro g4 c4 w4 hown hgrow hat hlt4
               have b4 := be.grown hgrow HNE.out
               have hown' := hown
               rw [← HKK.out] at hown'
               have HP : Hid (OwnE w.heap.size w4 (.slice (some ⟨g4, 0, none⟩) (n' + 1) c4) (fewE n (es.take j) ++ [(ck, osq, ok, co)])) := own_pushE (ck, osq, ok, co) HTL.out hrow hel ⟨oxe.rd, neb_of ox.from hlow oxe.rd⟩ ⟨oye.rd, neb_of oy.from hlow2 oye.rd⟩ hown' hgrow hat
               have HB4 : Hid (Below w.heap.size w w4) := hBe.grown hgrow hBe.size (fun k' e => (hrow.lt k' e).1))
            | fail)
        all_goals
          clear bx ry0
          go_wp2_with fail
          go_roundg (gk - 1)
          case measure => exact q1
          case rel => exact ⟨j + 1, _, c4, _, q2, by go_num, rfl, by show OwnE _ _ _ _; rw [HR.out]; exact HP.out, HB4⟩
      · have hjI : ¬ (j : Int) < (n : Int) := by omega
        have HST : Hid (fewE n (es.take (j + 1)) = fewE n (es.take j)) := fewE_stay hjn
        have hb0 := below_box4 wr (.cells #[.slice x1 nl x2, .int .u64 (osq : Int), .int .u8 (kk : Int), .slice y1 oln y2] 38)
        have HO9 : Hid _ := HO.out.below hb0 (Nat.le_refl _)
        have HB9 : Hid _ := HB.out.alloc HB.out.size (.cells #[.slice x1 nl x2, .int .u64 (osq : Int), .int .u8 (kk : Int), .slice y1 oln y2] 38)
        clear ho hb0
        go_wp2_with fail
        go_roundg (gk - 1)
        case measure => exact q1
        case rel => exact ⟨j + 1, n', c', a', q2, by go_num, rfl, by show OwnE _ _ _ _; rw [HST.out]; exact HO9.out, HB9.out⟩
    · have hjN : j = N := by omega
      subst hjN
      have HE : Hid (fewE n (es.take j) = fewE n es) := by show _ = _; rw [← HN.out, List.take_length]
      go_wp2
      go_ret
      exact ⟨_, rfl, by rw [← HE.out]; exact HO.out, HB.out⟩

end Go.Proofs.Ytekmlbbfipldoaa
