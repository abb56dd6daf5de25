/- Several texts in one. -/
import Derived.Test.YtekmlbbfipldoaaEnFew
import Derived.Test.YtekmlbbfipldoaaSkAhead
import Derived.Test.YtekmlbbfipldoaaKeyCheck
import Derived.Test.YtekmlbbfipldoaaClone
import Derived.LaidEqlPtr
import Derived.RangeFuncNested
import Derived.RangeFuncBound
import Derived.RangeFuncCalls
import Derived.RangeFuncLeaves
import Derived.RangeFuncFrom
import Derived.Shelf.Abstract
import Derived.Shelf.RegionOpen
import Derived.WalkKit
import Derived.OwnWalkIn
import Derived.TacticsInMore
import Derived.LoopNIn
import Derived.LoopIn
import Derived.Test.YtekmlbbfipldoaaConvStr
import Derived.Test.YtekmlbbfipldoaaKeyCmp
import Derived.Maps.OwnSet
import Derived.BigQuiet
import Derived.Maps.OwnOps

/- bartizanref03.Twin, Twins: entries of their own. -/
namespace Go.Proofs.Ytekmlbbfipldoaa
open Go.RowKit
set_option linter.unusedVariables false

/-- an entry's value -/
abbrev enV (x : Value) (s k : Int) (y : Value) : Value := .agg #[x, .int .u64 s, .int .u8 k, y]

set_option maxRecDepth 20000 in
set_option maxHeartbeats 4000000 in
theorem twin_any (w : World) (xv yv : Value) (l m : List UInt8) (s k : Int) (hx : Arg w xv l) (hy : Arg w yv m) (hl : l.length ≤ 1000000) (hm : m.length ≤ 1000000) :
    Calls Try.prog 12 #[enV xv s k yv] w fun e w' => ∃ x y, e = .returned (enV x s k y) ∧ (Rd w' x l ∧ From w.heap.size x) ∧ (Rd w' y m ∧ From w.heap.size y) ∧ Below w.heap.size w w' := by
  obtain ⟨x1, x2, ex⟩ := Arg.shape hx
  obtain ⟨y1, y2, ey⟩ := Arg.shape hy
  subst ex ey
  obtain ⟨nl, hnl⟩ : ∃ nl, l.length = nl := ⟨_, rfl⟩
  obtain ⟨ml, hml⟩ : ∃ ml, m.length = ml := ⟨_, rfl⟩
  rw [hnl] at hx ⊢
  rw [hml] at hy ⊢
  have HLM : Hid (l.length ≤ 1000000 ∧ m.length ≤ 1000000) := ⟨hl, hm⟩
  have hb0 := below_box4 w (.cells #[.slice x1 nl x2, .int .u64 s, .int .u8 k, .slice y1 ml y2] 38)
  have hb1 := below_box4 (w.alloc (.cells #[.slice x1 nl x2, .int .u64 s, .int .u8 k, .slice y1 ml y2] 38)) (.cells #[.slice none 0 0, .int .u64 0, .int .u8 0, .slice none 0 0] 38)
  have bx := ((box4_new w (.slice x1 nl x2) (.int .u64 s) (.int .u8 k) (.slice y1 ml y2) 38).below hb1 (Nat.le_refl _)).drew
  have br := box4f_new (w.alloc (.cells #[.slice x1 nl x2, .int .u64 s, .int .u8 k, .slice y1 ml y2] 38)) (.slice none 0 0) (.int .u64 0) (.int .u8 0) (.slice none 0 0) 38
  rw [show (w.alloc (.cells #[.slice x1 nl x2, .int .u64 s, .int .u8 k, .slice y1 ml y2] 38)).heap.size = w.heap.size + 1 by simp] at br
  have rx0 := arg_drew ((hx.below hb0 (Nat.le_refl _)).below hb1 (Nat.le_refl _))
  have ry0 := arg_drew ((hy.below hb0 (Nat.le_refl _)).below hb1 (Nat.le_refl _))
  have HB1 : Hid (Below w.heap.size w ((w.alloc (.cells #[.slice x1 nl x2, .int .u64 s, .int .u8 k, .slice y1 ml y2] 38)).alloc (.cells #[.slice none 0 0, .int .u64 0, .int .u8 0, .slice none 0 0] 38)).drew) := (hb0.trans (hb1.mono hb0.size)).drew
  have HSZ : Hid (((w.alloc (.cells #[.slice x1 nl x2, .int .u64 s, .int .u8 k, .slice y1 ml y2] 38)).alloc (.cells #[.slice none 0 0, .int .u64 0, .int .u8 0, .slice none 0 0] 38)).drew.heap.size = w.heap.size + 2) := by show _ = _; simp
  have HBR : Hid (Box4f ((w.alloc (.cells #[.slice x1 nl x2, .int .u64 s, .int .u8 k, .slice y1 ml y2] 38)).alloc (.cells #[.slice none 0 0, .int .u64 0, .int .u8 0, .slice none 0 0] 38)).drew (w.heap.size + 1) (.slice none 0 0) (.int .u64 0) (.int .u8 0) (.slice none 0 0)) := ⟨br.bx.drew, br.f0, br.f1, br.f2, br.f3⟩
  clear hx hy hl hm hnl hml hb0 hb1 br
  go_enter Try.func12, Try.ntmps12
  go_wp2_with fail
  go_region_held3 (fun w' => w'.cell? ⟨w.heap.size, 0, none⟩ = some (.slice x1 nl x2) ∧ w'.cell? ⟨w.heap.size, 1, none⟩ = some (.int .u64 s) ∧ w'.cell? ⟨w.heap.size, 2, none⟩ = some (.int .u8 k) ∧ w'.cell? ⟨w.heap.size, 3, none⟩ = some (.slice y1 ml y2))
    (first | with_reducible exact ⟨bs.c0, bs.c1, bs.c2, bs.c3⟩ | with_reducible exact ⟨by2.c0, by2.c1, by2.c2, by2.c3⟩ | with_reducible exact ⟨bx2.c0, bx2.c1, bx2.c2, bx2.c3⟩ | with_reducible exact ⟨bx.c0, bx.c1, bx.c2, bx.c3⟩)
    (first
      | (go_at_call 30; refine (copy_any _ _ l rx0 (by have := HLM.out.1; omega)).mono ?_; rintro e wx ⟨x, rfl, ox, hbx⟩; obtain ⟨gx, kx, hx⟩ := ox.shape; subst hx; have bx2 := bx.below hbx (Nat.le_refl _); clear rx0)
      | (go_at_call 30; refine (copy_any _ _ m (ry0.below hbx (Nat.le_refl _)) (by have := HLM.out.2; omega)).mono ?_; rintro e wy ⟨y, rfl, oy, hby⟩; obtain ⟨gy, ky, hy⟩ := oy.shape; subst hy; have by2 := bx2.below hby (Nat.le_refl _)
         have HBY : Hid (Below w.heap.size w wy) := bsplit (bsplit HB1.out hbx) hby
         have HOX : Hid (Rd wy (.slice (some ⟨gx, 0, none⟩) l.length kx) l ∧ w.heap.size + 2 ≤ gx) := ⟨(ox.below hby (Nat.le_refl _)).rd, by have := ox.lt.1; rw [HSZ.out] at this; exact this⟩
         have HOY : Hid (Rd wy (.slice (some ⟨gy, 0, none⟩) m.length ky) m ∧ w.heap.size + 2 ≤ gy) := ⟨oy.rd, by have := oy.lt.1; have h8 := hbx.size; rw [HSZ.out] at h8; omega⟩
         have bs := by2.stored (w.heap.size + 1) (by omega) (.slice (some ⟨gx, 0, none⟩) l.length kx) (.int .u64 s) (.int .u8 k) (.slice (some ⟨gy, 0, none⟩) m.length ky)
         obtain ⟨⟨c0, c1, c2, c3⟩, f0, f1, f2, f3⟩ := (HBR.out.below hbx (Nat.le_refl _)).below hby (Nat.le_refl _))
      | fail)
  go_wp2
  refine bodyPost_ret (v := enV (.slice (some ⟨gx, 0, none⟩) l.length kx) s k (.slice (some ⟨gy, 0, none⟩) m.length ky)) (by simp [results, Try.results12, go_sem, c0, c1, c2, c3]) rfl ⟨_, _, rfl, ⟨rd_store4 HOX.out.1 (fun g hg => ?_) _ _ _ _, from_at ?_⟩, ⟨rd_store4 HOY.out.1 (fun g hg => ?_) _ _ _ _, from_at ?_⟩, below_store4 HBY.out (Nat.le_succ _) _ _ _ _⟩
  · have h9 := HOX.out.2
    simp only [Value.ownBlock, Option.some.injEq] at hg
    omega
  · have h9 := HOX.out.2
    omega
  · have h9 := HOY.out.2
    simp only [Value.ownBlock, Option.some.injEq] at hg
    omega
  · have h9 := HOY.out.2
    omega

set_option maxRecDepth 20000 in
set_option maxHeartbeats 4000000 in
theorem twins_any (w : World) (v : Value) (es : List EnB) (hv : ArgE w v es) (hn : es.length ≤ 1000) (hm : ∀ e ∈ es, e.1.length ≤ 1000000 ∧ e.2.2.2.length ≤ 1000000) :
    Calls Try.prog 27 #[v] w fun e w' => ∃ x, e = .returned x ∧ OwnE w.heap.size w' x es ∧ Below w.heap.size w w' := by
  obtain ⟨i0, hi, hz0, hz1, hz2⟩ := info_parts infoEn
  have hv0 := hv
  obtain ⟨ao, cap, rfl, h1, h2, h3⟩ := hv
  unfold maxLen at h2
  have H3 : Hid _ := hv0
  have HM : Hid _ := hm
  obtain ⟨N, hN⟩ : ∃ N, es.length = N := ⟨_, rfl⟩
  rw [hN] at h1 hn ⊢
  have HN : Hid (es.length = N) := hN
  have HNB : Hid (N ≤ 1000) := hn
  clear hv0 h3 hN hm hn
  go_enter Try.func27, Try.ntmps27
  go_wp2_with fail
  go_loopg [3, 8] N (fun gk pv iv wr => ∃ j c' : Nat, ∃ a' : Option Addr, gk + j = N ∧ iv = .int .i64 (j : Int) ∧ pv = .slice a' j c' ∧ Hid (OwnE w.heap.size wr pv (es.take j)) ∧ Hid (Below w.heap.size w wr))
  case atStart => exact ⟨0, 0, none, by omega, rfl, rfl, by show OwnE _ _ _ _; rw [List.take_zero]; exact OwnE.nil _ _, Below.refl _ _⟩
  case round =>
    obtain ⟨j, c', a', hj, rfl, rfl, HO, HB⟩ := hrel
    by_cases hlt : j < N
    · have hlt2 : j < es.length := by rw [HN.out]; exact hlt
      obtain ⟨_, _, e, _, _, h3⟩ := argE_below (show ArgE w _ es from H3.out) HB.out (Nat.le_refl _)
      cases e
      obtain ⟨b, off, rfl, xv, yv, c0, c1, c2, c3, rx, ry⟩ := h3 j hlt2
      obtain ⟨x1, x2, ex⟩ := Arg.shape rx
      obtain ⟨y1, y2, ey⟩ := Arg.shape ry
      subst ex ey
      have hbd := HM.out _ (List.getElem_mem hlt2)
      obtain ⟨⟨ol, osq, ok, oo⟩, ho⟩ : ∃ o, es[j] = o := ⟨_, rfl⟩
      rw [ho] at c0 c1 c2 c3 rx ry hbd
      obtain ⟨q1, q2⟩ := gk_nxt hj hlt
      have HTL : Hid ((es.take j).length = j) := by show _ = _; rw [List.length_take, HN.out]; omega
      have HJ : Hid (j ≤ 1000) := by show j ≤ _; have := HNB.out; omega
      obtain ⟨kk, hkk⟩ : ∃ kk, ok.toNat = kk := ⟨_, rfl⟩
      have HKK : Hid (ok.toNat = kk) := hkk
      simp only at c0 c1 c2 c3 rx ry hbd
      rw [hkk] at c2
      obtain ⟨nl, hnlq⟩ : ∃ nl, ol.length = nl := ⟨_, rfl⟩
      obtain ⟨oln, holn⟩ : ∃ oln, oo.length = oln := ⟨_, rfl⟩
      rw [hnlq] at rx c0
      rw [holn] at ry c3
      have HR : Hid (es.take (j + 1) = es.take j ++ [(ol, osq, ok, oo)]) := by show _ = _; rw [List.take_succ_eq_append_getElem hlt2, ho]
      have hb0 := below_box4 wr (.cells #[.slice x1 nl x2, .int .u64 (osq : Int), .int .u8 (kk : Int), .slice y1 oln y2] 38)
      obtain ⟨z0, z1, z2, z3⟩ := box4_new wr (.slice x1 nl x2) (.int .u64 (osq : Int)) (.int .u8 (kk : Int)) (.slice y1 oln y2) 38
      have htw := twin_any (wr.alloc (.cells #[.slice x1 nl x2, .int .u64 (osq : Int), .int .u8 (kk : Int), .slice y1 oln y2] 38)) _ _ ol oo (osq : Int) (kk : Int) (rx.below hb0 (Nat.le_refl _)) (ry.below hb0 (Nat.le_refl _)) hbd.1 hbd.2
      have HO0 : Hid (OwnE w.heap.size (wr.alloc (.cells #[.slice x1 nl x2, .int .u64 (osq : Int), .int .u8 (kk : Int), .slice y1 oln y2] 38)) (.slice a' j c') (es.take j)) := HO.out.below hb0 (Nat.le_refl _)
      have HB0 : Hid (Below w.heap.size w (wr.alloc (.cells #[.slice x1 nl x2, .int .u64 (osq : Int), .int .u8 (kk : Int), .slice y1 oln y2] 38))) := bsplit HB.out hb0
      clear ho hb0 h3 rx ry hbd hnlq holn hkk
      go_wp2_with fail
      refine htw.mono ?_
      rintro e w2 ⟨x, y, rfl, rx, ry, hb2⟩
      obtain ⟨xa, xc, rfl⟩ := rx.1.len
      obtain ⟨ya, yc, rfl⟩ := ry.1.len
      obtain ⟨l1, hl1⟩ : ∃ n, ol.length = n := ⟨_, rfl⟩
      obtain ⟨l2, hl2⟩ : ∃ n, oo.length = n := ⟨_, rfl⟩
      rw [hl1] at rx ⊢
      rw [hl2] at ry ⊢
      have hbe := below_box4 w2 (.cells #[.slice xa l1 xc, .int .u64 (osq : Int), .int .u8 (kk : Int), .slice ya l2 yc] 38)
      have hlit := laid4 w2 (.slice xa l1 xc) (.int .u64 (osq : Int)) (.int .u8 (kk : Int)) (.slice ya l2 yc) 38
      have hlow : ∀ q, (Value.slice a' j c').ownBlock = some q → q < (wr.alloc (.cells #[.slice x1 nl x2, .int .u64 (osq : Int), .int .u8 (kk : Int), .slice y1 oln y2] 38)).heap.size := fun q hq => (HO0.out.lt q hq).2
      have HXE : Hid (Rd _ (.slice xa l1 xc) ol ∧ NeB (.slice xa l1 xc) ol (.slice a' j c')) := ⟨rx.1.below hbe (Nat.le_refl _), neb_of rx.2 hlow rx.1⟩
      have HYE : Hid (Rd _ (.slice ya l2 yc) oo ∧ NeB (.slice ya l2 yc) oo (.slice a' j c')) := ⟨ry.1.below hbe (Nat.le_refl _), neb_of ry.2 hlow ry.1⟩
      have HBE : Hid (Below w.heap.size w (w2.alloc (.cells #[.slice xa l1 xc, .int .u64 (osq : Int), .int .u8 (kk : Int), .slice ya l2 yc] 38))) := bsplit (bsplit HB0.out hb2) hbe
      have hse := HBE.out.size
      obtain ⟨cs, hrow, hel⟩ := (HO0.out.below hb2 (Nat.le_refl _)).below hbe (Nat.le_refl _)
      rw [HTL.out] at hrow
      have HEL : Hid _ := hel
      have HRW : Hid _ := hrow
      clear htw hb2 rx ry hl1 hl2 hbe hel hlow z0 z1 z2 z3
      go_wp2_with (first | (at_builtin; refine wpList_append_lies _ rfl (.tmp 12) (.tmp 15) 28 rfl w.heap.size 38 i0 (.agg #[.slice none 0 0, .int .u64 0, .int .u8 0, .slice none 0 0]) 4 64 Try.underlying28 hi hz0 hz1 hz2 rfl (by decide) (.slice a' j c') j cs rfl hrow ⟨w2.heap.size, 0, none⟩ 1 1 [.slice xa l1 xc, .int .u64 (osq : Int), .int .u8 (kk : Int), .slice ya l2 yc] rfl rfl hlit (oneE _ _ _ _ _ _ _ _) (by decide) (by have := HJ.out; simp only [maxLen]; omega) (by have := HJ.out; omega) hse _ rfl ?_; intro g4 c4 w4 hown hgrow hat hlt4; rw [← HKK.out] at hown; have HP : Hid (OwnE w.heap.size w4 (.slice (some ⟨g4, 0, none⟩) (j + 1) c4) (es.take j ++ [(ol, osq, ok, oo)])) := own_pushE (ol, osq, ok, oo) HTL.out HRW.out HEL.out HXE.out HYE.out hown hgrow hat; have HB4 : Hid (Below w.heap.size w w4) := HBE.out.grown hgrow HBE.out.size (fun k' e => (hrow.lt k' e).1); clear hown hgrow hat hlt4) | fail)
      clear hrow hlit hse
      go_roundg (gk - 1)
      case measure => exact q1
      case rel => exact ⟨j + 1, c4, _, q2, by go_num, rfl, by show OwnE _ _ _ _; rw [HR.out]; exact HP.out, HB4⟩
    · have hjN : j = N := by omega
      subst hjN
      have HE : Hid (es.take j = es) := by show _ = _; rw [← HN.out, List.take_length]
      go_wp2
      go_ret
      exact ⟨_, rfl, by rw [← HE.out]; exact HO.out, HB.out⟩

end Go.Proofs.Ytekmlbbfipldoaa

/- skip's small functions. -/
namespace Go.Proofs.Ytekmlbbfipldoaa
set_option maxRecDepth 20000
open Go.RowKit
set_option linter.unusedVariables false
set_option linter.unusedSimpArgs false

theorem isRow_any (w : World) (h : Int) (r : Bool) (hr : decide (1 ≤ h ∧ h ≤ 8) = r) :
    Calls Try.prog 41 #[.int .i64 h] w fun e w' => e = .returned (.bool r) ∧ w' = w := by
  by_cases h1 : 1 ≤ h
  · by_cases h2 : h ≤ 8
    · have : r = true := by rw [← hr]; simp [h1, h2]
      subst this
      clear hr
      go_enter Try.func41, Try.ntmps41
      go_wp2
      go_ret
      exact ⟨rfl, rfl⟩
    · have : r = false := by rw [← hr]; simp [h2]
      subst this
      clear hr
      go_enter Try.func41, Try.ntmps41
      go_wp2
      go_ret
      exact ⟨ret_bool (by simp), rfl⟩
  · have : r = false := by rw [← hr]; simp; omega
    subst this
    clear hr
    go_enter Try.func41, Try.ntmps41
    go_wp2
    go_ret
    exact ⟨rfl, rfl⟩

/-- may an entry of this height be inserted? -/
def chkSk (e : EnB) (h : Int) : Int := if chk e.1.length (e.2.1 : Int) (e.2.2.1.toNat : Int) = 0 then (if 1 ≤ h ∧ h ≤ 8 then (if 512 < e.2.2.2.length then 3 else 0) else 1) else chk e.1.length (e.2.1 : Int) (e.2.2.1.toNat : Int)

set_option maxHeartbeats 2000000 in
theorem skcheck_any (w : World) (xa ya : Option Addr) (xc yc : Nat) (e : EnB) (h c : Int) (hc : chkSk e h = c) :
    Calls Try.prog 31 #[enV (.slice xa e.1.length xc) (e.2.1 : Int) (e.2.2.1.toNat : Int) (.slice ya e.2.2.2.length yc), .int .i64 h] w fun o w' => o = .returned (.int .i64 c) ∧ Below w.heap.size w w' := by
  obtain ⟨nl, hnl⟩ : ∃ z, e.1.length = z := ⟨_, rfl⟩
  obtain ⟨ml, hml⟩ : ∃ z, e.2.2.2.length = z := ⟨_, rfl⟩
  obtain ⟨s, hs⟩ : ∃ z : Int, (e.2.1 : Int) = z := ⟨_, rfl⟩
  obtain ⟨k, hk⟩ : ∃ z : Int, (e.2.2.1.toNat : Int) = z := ⟨_, rfl⟩
  obtain ⟨ck, hck⟩ : ∃ z, chk nl s k = z := ⟨_, rfl⟩
  unfold chkSk at hc
  rw [hnl, hml, hs, hk, hck] at hc
  rw [hnl, hml, hs, hk]
  have HC : Hid ((if ck = 0 then (if 1 ≤ h ∧ h ≤ 8 then (if 512 < ml then 3 else 0) else 1) else ck) = c) := hc
  have hb0 := below_box4 w (.cells #[.slice xa nl xc, .int .u64 s, .int .u8 k, .slice ya ml yc] 38)
  have HB0 : Hid (Below w.heap.size w (w.alloc (.cells #[.slice xa nl xc, .int .u64 s, .int .u8 k, .slice ya ml yc] 38))) := hb0
  have B0 := box4_new w (.slice xa nl xc) (.int .u64 s) (.int .u8 k) (.slice ya ml yc) 38
  have hcv := check_any (w.alloc (.cells #[.slice xa nl xc, .int .u64 s, .int .u8 k, .slice ya ml yc] 38)) xa nl xc s k (by omega) (by omega)
  rw [hck] at hcv
  obtain ⟨c0, c1, c2, c3⟩ := B0
  have B0 := box4_new w (.slice xa nl xc) (.int .u64 s) (.int .u8 k) (.slice ya ml yc) 38
  clear hc hnl hml hs hk hck hb0
  go_enter Try.func31, Try.ntmps31
  go_wp2_with fail
  refine hcv.mono ?_
  rintro o w1 ⟨rfl, hb1⟩
  have HB1 : Hid (Below w.heap.size w w1) := bsplit HB0.out hb1
  clear c0 c1 c2 c3
  obtain ⟨c0, c1, c2, c3⟩ := B0.below hb1 (Nat.le_refl _)
  clear hcv hb1
  by_cases h0 : ck = 0
  · subst h0
    by_cases hr : 1 ≤ h ∧ h ≤ 8
    · have hir := isRow_any w1 h true (decide_eq_true hr)
      by_cases hm : 512 < ml
      · have hmI : (512 : Int) < (ml : Int) := by omega
        have HE : Hid (c = 3) := by show c = 3; rw [← HC.out, if_pos rfl, if_pos hr, if_pos hm]
        clear hr
        go_wp2_with fail
        refine hir.mono ?_
        rintro o w2 ⟨rfl, rfl⟩
        go_wp2
        go_ret
        exact ⟨by rw [HE.out]; rfl, HB1.out⟩
      · have hmI : ¬ (512 : Int) < (ml : Int) := by omega
        have HE : Hid (c = 0) := by show c = 0; rw [← HC.out, if_pos rfl, if_pos hr, if_neg hm]
        clear hr
        go_wp2_with fail
        refine hir.mono ?_
        rintro o w2 ⟨rfl, rfl⟩
        go_wp2
        go_ret
        exact ⟨by rw [HE.out]; rfl, HB1.out⟩
    · have hir := isRow_any w1 h false (decide_eq_false hr)
      have HE : Hid (c = 1) := by show c = 1; rw [← HC.out, if_pos rfl, if_neg hr]
      clear hr
      go_wp2_with fail
      refine hir.mono ?_
      rintro o w2 ⟨rfl, rfl⟩
      go_wp2
      go_ret
      exact ⟨by rw [HE.out]; rfl, HB1.out⟩
  · have h0b : (ck == 0) = false := by simpa using h0
    have HE : Hid (c = ck) := by show c = ck; rw [← HC.out, if_neg h0]
    go_wp2
    go_ret
    exact ⟨by rw [HE.out]; rfl, HB1.out⟩

theorem ltB_ownN {B : Nat} {w : World} {x : Value} {l : List UInt8} (h : OwnN B w x l) : LtB w x := fun q hq => by
  rcases h with ⟨rfl, _⟩ | h
  · simp [Value.ownBlock] at hq
  · obtain ⟨g, k, e⟩ := h.shape
    subst e
    simp only [Value.ownBlock, Option.some.injEq] at hq
    subst hq
    exact h.lt.2

theorem from_ownN {B : Nat} {w : World} {x : Value} {l : List UInt8} (h : OwnN B w x l) : From B x := fun a n c e => by
  rcases h with ⟨h, _⟩ | h
  · rw [h] at e; cases e
  · exact h.from a n c e

theorem Box4.other {w : World} {b : Nat} {v0 v1 v2 v3 : Value} (h : Box4 w b v0 v1 v2 v3) (p : Addr) (hne : b ≠ p.block) (u : Value) : Box4 (w.setCell p u) b v0 v1 v2 v3 :=
  ⟨by rw [cell_other w p ⟨b, 0, none⟩ u hne]; exact h.c0, by rw [cell_other w p ⟨b, 1, none⟩ u hne]; exact h.c1, by rw [cell_other w p ⟨b, 2, none⟩ u hne]; exact h.c2, by rw [cell_other w p ⟨b, 3, none⟩ u hne]; exact h.c3⟩

theorem box_other4 {w : World} {b b' : Nat} {v0 v1 v2 : Value} (h : Box w b v0 v1 v2) (hne : b ≠ b') (u0 u1 u2 u3 : Value) : Box ((((w.setCell ⟨b', 0, none⟩ u0).setCell ⟨b', 1, none⟩ u1).setCell ⟨b', 2, none⟩ u2).setCell ⟨b', 3, none⟩ u3) b v0 v1 v2 :=
  (((h.other ⟨b', 0, none⟩ hne u0).other ⟨b', 1, none⟩ hne u1).other ⟨b', 2, none⟩ hne u2).other ⟨b', 3, none⟩ hne u3

theorem rd_store3 {w : World} {v : Value} {l : List UInt8} {b : Nat} (h : Rd w v l) (hb : ∀ g, v.ownBlock = some g → g ≠ b) (u0 u1 u2 : Value) : Rd (((w.setCell ⟨b, 0, none⟩ u0).setCell ⟨b, 1, none⟩ u1).setCell ⟨b, 2, none⟩ u2) v l := by
  rcases h with h | ⟨g, off, cap, rfl, h1, h2, h3⟩
  · exact .inl h
  · have h0 : Rd w (.slice (some ⟨g, off, none⟩) l.length cap) l := .inr ⟨g, off, cap, rfl, h1, h2, h3⟩
    have hne := hb g rfl
    exact ((h0.other ⟨b, 0, none⟩ hne u0).other ⟨b, 1, none⟩ hne u1).other ⟨b, 2, none⟩ hne u2

theorem from_ne {B b : Nat} {v : Value} (hf : From B v) (h : b < B) : ∀ g, v.ownBlock = some g → g ≠ b := fun g hg => by
  cases v with
  | slice a n c =>
    cases a with
    | none => simp [Value.ownBlock] at hg
    | some a =>
      have h9 := hf a n c rfl
      simp only [Value.ownBlock, Option.some.injEq] at hg
      omega
  | _ => simp [Value.ownBlock] at hg

theorem clone_keep {W w2 : World} {o : Obj} {x : Value} {l : List UInt8} (h : OwnN (W.alloc o).drew.heap.size w2 x l) (u0 u1 u2 : Value) : Rd (((w2.setCell ⟨W.heap.size, 0, none⟩ u0).setCell ⟨W.heap.size, 1, none⟩ u1).setCell ⟨W.heap.size, 2, none⟩ u2) x l ∧ From W.heap.size x ∧ LtB (((w2.setCell ⟨W.heap.size, 0, none⟩ u0).setCell ⟨W.heap.size, 1, none⟩ u1).setCell ⟨W.heap.size, 2, none⟩ u2) x := by
  have hs : (W.alloc o).drew.heap.size = W.heap.size + 1 := by simp
  have hf := from_ownN h
  rw [hs] at hf
  exact ⟨rd_store3 h.rd (from_ne hf (Nat.lt_succ_self _)) _ _ _, fun a n c e => by have := hf a n c e; omega, (ltB_ownN h).grow (by simp)⟩

theorem box_stored {w : World} {b : Nat} {v0 v1 v2 : Value} (h : Box w b v0 v1 v2) (u0 u1 u2 : Value) : Box (((w.setCell ⟨b, 0, none⟩ u0).setCell ⟨b, 1, none⟩ u1).setCell ⟨b, 2, none⟩ u2) b u0 u1 u2 :=
  ⟨by simp [go_sem, h.c0, h.c1, h.c2], by simp [go_sem, h.c0, h.c1, h.c2], by simp [go_sem, h.c0, h.c1, h.c2], by simp [go_sem, h.f0], by simp [go_sem, h.f1], by simp [go_sem, h.f2]⟩

set_option maxHeartbeats 4000000 in
theorem skapart_any (w : World) (xv yv : Value) (l m : List UInt8) (s k : Int) (hx : Rd w xv l) (hy : Rd w yv m) (hl : l.length ≤ 1000000) (hm : m.length ≤ 1000000) :
    Calls Try.prog 34 #[enV xv s k yv] w fun e w' => ∃ x y, e = .returned (enV x s k y) ∧ (Rd w' x l ∧ From (w.heap.size + 2) x) ∧ (Rd w' y m ∧ From (w.heap.size + 2) y) ∧ (LtB w' x ∧ LtB w' y) ∧ Below w.heap.size w w' := by
  obtain ⟨xa, xc, rfl⟩ := hx.len
  obtain ⟨ya, yc, rfl⟩ := hy.len
  obtain ⟨nl, hnl⟩ : ∃ z, l.length = z := ⟨_, rfl⟩
  obtain ⟨ml, hml⟩ : ∃ z, m.length = z := ⟨_, rfl⟩
  have HNL : Hid (l.length = nl ∧ m.length = ml ∧ nl ≤ 1000000 ∧ ml ≤ 1000000) := ⟨hnl, hml, by omega, by omega⟩
  rw [hnl] at hx ⊢
  rw [hml] at hy ⊢
  have hb0 := below_box4 w (.cells #[.slice xa nl xc, .int .u64 s, .int .u8 k, .slice ya ml yc] 38)
  have hb1 := below_box4 (w.alloc (.cells #[.slice xa nl xc, .int .u64 s, .int .u8 k, .slice ya ml yc] 38)) (.cells #[.slice none 0 0, .int .u64 0, .int .u8 0, .slice none 0 0] 38)
  have s1 : (w.alloc (.cells #[.slice xa nl xc, .int .u64 s, .int .u8 k, .slice ya ml yc] 38)).heap.size = w.heap.size + 1 := by simp
  have s2 : ((w.alloc (.cells #[.slice xa nl xc, .int .u64 s, .int .u8 k, .slice ya ml yc] 38)).alloc (.cells #[.slice none 0 0, .int .u64 0, .int .u8 0, .slice none 0 0] 38)).heap.size = w.heap.size + 2 := by simp
  have BE := (box4_new w (.slice xa nl xc) (.int .u64 s) (.int .u8 k) (.slice ya ml yc) 38).below hb1 (Nat.le_refl _)
  have BR := box4f_new (w.alloc (.cells #[.slice xa nl xc, .int .u64 s, .int .u8 k, .slice ya ml yc] 38)) (.slice none 0 0) (.int .u64 0) (.int .u8 0) (.slice none 0 0) 38
  rw [s1] at BR
  obtain ⟨W, hW⟩ : ∃ W, (w.alloc (.cells #[.slice xa nl xc, .int .u64 s, .int .u8 k, .slice ya ml yc] 38)).alloc (.cells #[.slice none 0 0, .int .u64 0, .int .u8 0, .slice none 0 0] 38) = W := ⟨_, rfl⟩
  have hBW := bsplit hb0 hb1
  rw [hW] at BE BR hBW s2
  have HBW : Hid (Below w.heap.size w W) := hBW
  have HSZ : Hid (W.heap.size = w.heap.size + 2) := s2
  have HX : Hid (∀ V, Below W.heap.size W V → Arg V (.slice xa nl xc) l) := fun V hV => ((hx.below hBW (Nat.le_refl _)).below hV (Nat.le_refl _)).arg
  have HY : Hid (∀ V, Below W.heap.size W V → Arg V (.slice ya ml yc) m) := fun V hV => ((hy.below hBW (Nat.le_refl _)).below hV (Nat.le_refl _)).arg
  have pW0 : Below W.heap.size W W.drew := (Below.refl _ _).drew
  have pW1 : Below W.heap.size W (W.alloc (.cells #[.slice none 0 0, .int .u64 0, .int .u8 0] 36)).drew := (below_box4 W _).drew
  have BK1 := (box_new W (.slice none 0 0) (.int .u64 0) (.int .u8 0) 36).drew
  have BE0 := BE.below pW0 (Nat.le_refl _)
  have BE1 := BE.below pW1 (Nat.le_refl _)
  clear hx hy hl hm hnl hml hb0 hb1 s1 s2 hBW
  go_enter Try.func34, Try.ntmps34
  go_upto_region 1 with fail
  clear hW
  go_cut [3] (fun kv wx => ∃ (bk : Nat) (xa2 : Option Addr) (xc2 : Nat), kv = .pointer (some ⟨bk, 0, none⟩) ∧ W.heap.size ≤ bk ∧ Hid (Box wx bk (.slice xa2 nl xc2) (.int .u64 s) (.int .u8 k)) ∧ Hid (Rd wx (.slice xa2 nl xc2) l ∧ From W.heap.size (.slice xa2 nl xc2) ∧ LtB wx (.slice xa2 nl xc2)) ∧ Hid (Below W.heap.size W wx))
  case first =>
    go_region_held3 (fun w' => w'.cell? ⟨w.heap.size, 0, none⟩ = some (.slice xa nl xc) ∧ w'.cell? ⟨w.heap.size, 1, none⟩ = some (.int .u64 s) ∧ w'.cell? ⟨w.heap.size, 2, none⟩ = some (.int .u8 k))
      (first | with_reducible exact ⟨BE4.c0, BE4.c1, BE4.c2⟩ | with_reducible exact ⟨BE3.c0, BE3.c1, BE3.c2⟩ | with_reducible exact ⟨BE2s.c0, BE2s.c1, BE2s.c2⟩ | with_reducible exact ⟨BE2.c0, BE2.c1, BE2.c2⟩ | with_reducible exact ⟨BE1.c0, BE1.c1, BE1.c2⟩ | exact ⟨BE0.c0, BE0.c1, BE0.c2⟩)
      (first
        | (go_at_call 45
           refine (clone_any _ _ l (by first | with_reducible exact HX.out _ pW0 | with_reducible exact HX.out _ pW1) (by have := HNL.out; omega)).mono ?_
           rintro e w2 ⟨x2, rfl, o2, hb2⟩
           obtain ⟨xa2, xc2, ex2⟩ := o2.rd.len
           rw [HNL.out.1] at ex2
           subst ex2
           have HB2 : Hid (Below W.heap.size W w2) := by first | exact bsplit pW0 hb2 | exact bsplit pW1 hb2
           have BE2 := BE.below HB2.out (Nat.le_refl _)
           have BE4 := BE2.below (below_box4 w2 (.cells #[.slice none 0 0, .int .u64 0, .int .u8 0] 36)) (Nat.le_refl _)
           have BE3 := BE2.below (below_box4 w2 (.cells #[.slice xa2 nl xc2, .int .u64 s, .int .u8 k] 36)) (Nat.le_refl _)
           have BE2s : Box4 (((w2.setCell ⟨W.heap.size, 0, none⟩ (.slice xa2 nl xc2)).setCell ⟨W.heap.size, 1, none⟩ (.int .u64 s)).setCell ⟨W.heap.size, 2, none⟩ (.int .u8 k)) w.heap.size (.slice xa nl xc) (.int .u64 s) (.int .u8 k) (.slice ya ml yc) := by
             have hne : w.heap.size ≠ W.heap.size := by rw [HSZ.out]; omega
             exact ((BE2.other ⟨W.heap.size, 0, none⟩ hne _).other ⟨W.heap.size, 1, none⟩ hne _).other ⟨W.heap.size, 2, none⟩ hne _
           first
             | (have BK2 := BK1.below hb2 (Nat.le_refl _)
                obtain ⟨c0, c1, c2, f0, f1, f2⟩ := BK2)
             | skip)
        | fail)
    all_goals (go_wp2_with fail; go_meet; first
      | exact ⟨_, xa2, xc2, rfl, HB2.out.size, box_new w2 _ _ _ _, ⟨o2.rd.below (below_box4 w2 _) (Nat.le_refl _), from_ownN o2, (ltB_ownN o2).grow (below_box4 w2 _).size⟩, bsplit HB2.out (below_box4 w2 _)⟩
      | exact ⟨_, xa2, xc2, rfl, Nat.le_refl _, box_stored (BK1.below hb2 (Nat.le_refl _)) _ _ _, clone_keep o2 _ _ _, below_store3 HB2.out (Nat.le_refl _) _ _ _⟩)
  case rest =>
    obtain ⟨bk, xa2, xc2, rfl, hbk, BK, HX2, HB2⟩ := hcut
    have hcl := clone_any wc.drew _ m (arg_drew (HY.out _ HB2.out)) (by have := HNL.out; omega)
    have BEc := (BE.below HB2.out (Nat.le_refl _)).drew
    have BKc := BK.out.drew
    have BRc := BR.below HB2.out (Nat.le_refl _)
    have HBX : Hid (Below w.heap.size w wc) := bsplit HBW.out HB2.out
    have HWC : Hid (w.heap.size + 2 ≤ wc.heap.size) := by have := HB2.out.size; rw [HSZ.out] at this; exact this
    have HNE : Hid (w.heap.size ≠ w.heap.size + 1 ∧ bk ≠ w.heap.size + 1) := ⟨by omega, by rw [HSZ.out] at hbk; omega⟩
    clear pW0 pW1 BK1 BE0 BE1
    obtain ⟨d0, d1, d2, d3⟩ := BEc
    have BEc := (BE.below HB2.out (Nat.le_refl _)).drew
    obtain ⟨e0, e1, e2, _⟩ := BK.out
    go_wp2_with fail
    go_region_held3 (fun w' => (w'.cell? ⟨bk, 0, none⟩ = some (.slice xa2 nl xc2) ∧ w'.cell? ⟨bk, 1, none⟩ = some (.int .u64 s) ∧ w'.cell? ⟨bk, 2, none⟩ = some (.int .u8 k)) ∧ w'.cell? ⟨w.heap.size, 3, none⟩ = some (.slice ya ml yc))
      (first | with_reducible exact ⟨⟨b7.c0, b7.c1, b7.c2⟩, E7.c3⟩ | with_reducible exact ⟨⟨b6.c0, b6.c1, b6.c2⟩, E6.c3⟩ | exact ⟨⟨BKc.c0, BKc.c1, BKc.c2⟩, BEc.c3⟩)
      (first
        | (go_at_call 45; refine hcl.mono ?_; rintro e w6 ⟨y, rfl, oy, hb6⟩
           obtain ⟨ya2, yc2, ey2⟩ := oy.rd.len
           rw [HNL.out.2.1] at ey2
           subst ey2
           have HB6 : Hid (Below w.heap.size w w6) := bsplit HBX.out.drew hb6
           obtain ⟨⟨c0, c1, c2, c3⟩, f0, f1, f2, f3⟩ := BRc.below (bsplit (Below.refl _ _).drew hb6) (Nat.le_refl _)
           have b6 := BKc.below hb6 (Nat.le_refl _)
           have E6 := BEc.below hb6 (Nat.le_refl _)
           have b7 := box_other4 b6 HNE.out.2 (.slice xa2 nl xc2) (.int .u64 s) (.int .u8 k) (.slice ya2 ml yc2)
           have E7 := E6.stored (w.heap.size + 1) HNE.out.1 (.slice xa2 nl xc2) (.int .u64 s) (.int .u8 k) (.slice ya2 ml yc2)
           have HX6 : Hid (Rd w6 (.slice xa2 nl xc2) l ∧ From (w.heap.size + 2) (.slice xa2 nl xc2)) := ⟨HX2.out.1.drew.below hb6 (Nat.le_refl _), by rw [← HSZ.out]; exact HX2.out.2.1⟩
           have HLB : Hid (LtB w6 (.slice xa2 nl xc2) ∧ LtB w6 (.slice ya2 ml yc2)) := ⟨HX2.out.2.2.grow hb6.size, ltB_ownN oy⟩
           have HY6 : Hid (Rd w6 (.slice ya2 ml yc2) m ∧ From (w.heap.size + 2) (.slice ya2 ml yc2)) := ⟨oy.rd, fun a n c e => Nat.le_trans HWC.out (from_ownN oy a n c e)⟩
           clear hb6 oy)
        | fail)
    clear hcl d0 d1 d2 d3 e0 e1 e2 BKc BEc b6 b7 E6 E7
    go_wp2
    refine bodyPost_ret (v := enV (.slice xa2 nl xc2) s k (.slice ya2 ml yc2)) (by simp [results, Try.results34, go_sem, c0, c1, c2, c3]) rfl ⟨_, _, rfl, ⟨rd_store4 HX6.out.1 (from_ne HX6.out.2 (by omega)) _ _ _ _, HX6.out.2⟩, ⟨rd_store4 HY6.out.1 (from_ne HY6.out.2 (by omega)) _ _ _ _, HY6.out.2⟩, ⟨HLB.out.1.grow (by simp), HLB.out.2.grow (by simp)⟩, below_store4 HB6.out (Nat.le_succ _) _ _ _ _⟩

end Go.Proofs.Ytekmlbbfipldoaa

/- skip.New, (*skip.List).From, Before. -/
namespace Go.Proofs.Ytekmlbbfipldoaa
set_option maxRecDepth 20000
open Go.RowKit
set_option linter.unusedVariables false
set_option linter.unusedSimpArgs false

theorem sknew_any (w : World) :
    Calls Try.prog 10 #[] w fun e w' => e = .returned (.pointer (some ⟨w.heap.size, 0, none⟩)) ∧ SkAt w' w.heap.size [] ∧ Below w.heap.size w w' := by
  go_enter Try.func10, Try.ntmps10
  go_wp2
  go_ret
  refine ⟨rfl, ?_, below_box4 w _⟩
  refine ⟨fun a ha => ?_, fun t ht => by simp at ht, fun a b ha hb _ => by simp at ha hb; omega, fun t ht => by simp at ht, fun t ht => by simp at ht, rfl, by simp, fun t ht => by simp at ht⟩
  have ha0 : a = 0 := by simpa using ha
  subst ha0
  have h := heap_alloc_new w (.cells #[.slice none 0 0, .int .u64 0, .int .u8 0, .slice none 0 0, .pointer none, .pointer none, .pointer none, .pointer none, .pointer none, .pointer none, .pointer none, .pointer none] 69)
  refine ⟨fun r hr => ?_, fun r hr => frozen_of_row _ w.heap.size (4 + r) _ 69 h, ⟨_, _, h⟩⟩
  have c := cell_of_row _ w.heap.size (4 + r) _ 69 (0, 0) h
  have : r = 0 ∨ r = 1 ∨ r = 2 ∨ r = 3 ∨ r = 4 ∨ r = 5 ∨ r = 6 ∨ r = 7 := by omega
  rcases this with rfl | rfl | rfl | rfl | rfl | rfl | rfl | rfl <;> exact c.trans rfl

/-- what is found: an entry, or none -/
def FoundE (q : Option EnB) (w w' : World) (o : Ending) : Prop :=
  Below w.heap.size w w' ∧ match q with
    | none => o = .returned (.tuple #[enV (.slice none 0 0) 0 0 (.slice none 0 0), .bool false])
    | some e => ∃ x y, o = .returned (.tuple #[enV x (e.2.1 : Int) (e.2.2.1.toNat : Int) y, .bool true]) ∧ (Rd w' x e.1 ∧ From w.heap.size x) ∧ (Rd w' y e.2.2.2 ∧ From w.heap.size y)

theorem infoTow : (Try.prog.info? 67).map (fun i => (i.zero, i.size, i.bytes)) = some (some (.agg #[.slice none 0 0, .int .u64 0, .int .u8 0, .slice none 0 0, .pointer none, .pointer none, .pointer none, .pointer none, .pointer none, .pointer none, .pointer none, .pointer none]), 12, 128) := by kernel_rfl

/-- in the lowest row stand all -/
theorem fst_low {ts : List Tow} (hh : ∀ t ∈ ts, 1 ≤ t.h ∧ t.h ≤ 8) (c : Nat) : fstT (ts.drop c) 0 = (ts[c]?).map (·.b) := by
  rcases fst_drop ts c 0 with ⟨h1, h2⟩ | ⟨j, hj, h1, h2, h3, h4⟩
  · rw [h1]
    by_cases hc : c < ts.length
    · exact absurd (by have := (hh _ (List.getElem_mem hc)).1; omega) (h2 c hc (Nat.le_refl _))
    · rw [List.getElem?_eq_none (by omega)]; rfl
  · by_cases hcj : c = j
    · subst hcj; rw [h3, List.getElem?_eq_getElem hj]; rfl
    · exact absurd (by have := (hh _ (List.getElem_mem (show c < ts.length by omega))).1; omega) (h4 c (by omega) (Nat.le_refl _) (by omega))

set_option maxHeartbeats 4000000 in
theorem skfrom_any (w : World) (l : Nat) (ts : List Tow) (kv : Value) (K : EnB) (hS : SkAt w l ts) (hk : Rd w kv K.1) (hsm : ∀ t ∈ ts, t.e.1.length ≤ 1000000 ∧ t.e.2.2.2.length ≤ 1000000) :
    Calls Try.prog 23 #[.pointer (some ⟨l, 0, none⟩), .agg #[kv, .int .u64 (K.2.1 : Int), .int .u8 (K.2.2.1.toNat : Int)]] w fun o w' => FoundE ((esT ts)[cntE (esT ts) K]?) w w' o := by
  have HS : Hid (SkAt w l ts) := hS
  have HSM : Hid (∀ t ∈ ts, t.e.1.length ≤ 1000000 ∧ t.e.2.2.2.length ≤ 1000000) := hsm
  obtain ⟨ka, kc, rfl⟩ := hk.len
  obtain ⟨kn, hkn⟩ : ∃ n, K.1.length = n := ⟨_, rfl⟩
  obtain ⟨ks, hks⟩ : ∃ z : Int, (K.2.1 : Int) = z := ⟨_, rfl⟩
  obtain ⟨kk, hkk⟩ : ∃ z : Int, (K.2.2.1.toNat : Int) = z := ⟨_, rfl⟩
  have hb0 := below_box w #[.slice ka kn kc, .int .u64 ks, .int .u8 kk] 36
  have hb1 := below_box4 (w.alloc (.cells #[.slice ka kn kc, .int .u64 ks, .int .u8 kk] 36)) (.cells #[.slice none 0 0, .int .u64 0, .int .u8 0, .slice none 0 0] 38)
  have s1 : (w.alloc (.cells #[.slice ka kn kc, .int .u64 ks, .int .u8 kk] 36)).heap.size = w.heap.size + 1 := by simp
  have s2 : ((w.alloc (.cells #[.slice ka kn kc, .int .u64 ks, .int .u8 kk] 36)).alloc (.cells #[.slice none 0 0, .int .u64 0, .int .u8 0, .slice none 0 0] 38)).heap.size = w.heap.size + 2 := by simp
  have BK := (box_new w (.slice ka kn kc) (.int .u64 ks) (.int .u8 kk) 36).below hb1 (Nat.le_refl _)
  have BR := box4f_new (w.alloc (.cells #[.slice ka kn kc, .int .u64 ks, .int .u8 kk] 36)) (.slice none 0 0) (.int .u64 0) (.int .u8 0) (.slice none 0 0) 38
  rw [s1] at BR
  obtain ⟨W, hW⟩ : ∃ W, (w.alloc (.cells #[.slice ka kn kc, .int .u64 ks, .int .u8 kk] 36)).alloc (.cells #[.slice none 0 0, .int .u64 0, .int .u8 0, .slice none 0 0] 38) = W := ⟨_, rfl⟩
  have hBW := bsplit hb0 hb1
  rw [hW] at BK BR hBW s2
  have HBW : Hid (Below w.heap.size w W) := hBW
  have HSZ : Hid (W.heap.size = w.heap.size + 2) := s2
  have hah := ahead_any W l ts (.slice ka K.1.length kc) K (hS.below hBW) (hk.below hBW (Nat.le_refl _))
  rw [hkn, hks, hkk] at hah
  rw [hkn, hks, hkk]
  obtain ⟨Q, hQ⟩ : ∃ Q, ((esT ts)[cntE (esT ts) K]?) = Q := ⟨_, rfl⟩
  have HQ : Hid (((esT ts)[cntE (esT ts) K]?) = Q) := hQ
  rw [hQ]
  obtain ⟨d0, d1, d2, _⟩ := BK
  clear hS hk hkn hks hkk hb0 hb1 s1 s2 hBW hsm hQ
  go_enter Try.func23, Try.ntmps23
  go_wp2_with fail
  clear hW
  refine hah.mono ?_
  rintro o w1 ⟨A, rfl, hA, hb1⟩
  have HB1 : Hid (Below w.heap.size w w1) := bsplit HBW.out hb1
  have BR1 := BR.below hb1 (Nat.le_refl _)
  have h0 := hA 0 (by omega)
  have hcnt := h0.cnt HS.out.ht
  have hcl := h0.le
  obtain ⟨c, hc⟩ : ∃ c, A 0 = c := ⟨_, rfl⟩
  rw [hc] at hcnt hcl
  simp only [hc]
  have i0 : ∀ V : World, (Instr.index 65 (.agg #[ndP l ts c, ndP l ts (A 1), ndP l ts (A 2), ndP l ts (A 3), ndP l ts (A 4), ndP l ts (A 5), ndP l ts (A 6), ndP l ts (A 7)]) (.int .i64 0)).run Try.prog V = .ok (ndP l ts c) V := fun _ => by kernel_rfl
  have hS1 := HS.out.below HB1.out
  clear hah hA h0 BR d0 d1 d2
  have hcel := (hS1.nod c hcl).cel 0 (by omega)
  rw [fst_low HS.out.ht, if_pos (by have := HS.out.ht; unfold nh; split <;> first | omega | (split <;> first | (rename_i t ht; have := this t (List.mem_of_getElem? ht); omega) | (rename_i ht; have := List.getElem?_eq_none_iff.1 ht; omega))), Nat.add_zero] at hcel
  by_cases hlt : c < ts.length
  · obtain ⟨t, ht⟩ : ∃ t, ts[c] = t := ⟨_, rfl⟩
    have htm : t ∈ ts := by rw [← ht]; exact List.getElem_mem hlt
    rw [List.getElem?_eq_getElem hlt, ht] at hcel
    simp only [Option.map_some, ptrT] at hcel
    have HQE : Hid (Q = some t.e) := by show Q = _; rw [← HQ.out, hcnt, List.getElem?_eq_getElem (by rw [esT_len]; exact hlt), esT_get hlt, ht]
    have hent := hS1.ent t htm
    obtain ⟨⟨c0, c1, c2, c3⟩, rx, ry⟩ := hent
    obtain ⟨x1, xc, ex⟩ := rx.len
    obtain ⟨y1, yc, ey⟩ := ry.len
    rw [ex] at c0 rx
    rw [ey] at c3 ry
    obtain ⟨tb, htb⟩ : ∃ z, t.b = z := ⟨_, rfl⟩
    obtain ⟨sq, hsq⟩ : ∃ z : Int, (t.e.2.1 : Int) = z := ⟨_, rfl⟩
    obtain ⟨ek, hek⟩ : ∃ z : Int, (t.e.2.2.1.toNat : Int) = z := ⟨_, rfl⟩
    have HSE : Hid ((t.e.2.1 : Int) = sq ∧ (t.e.2.2.1.toNat : Int) = ek) := ⟨hsq, hek⟩
    rw [hsq] at c1
    rw [hek] at c2
    have hap := skapart_any w1 (.slice x1 t.e.1.length xc) (.slice y1 t.e.2.2.2.length yc) t.e.1 t.e.2.2.2 sq ek rx ry (HSM.out t htm).1 (HSM.out t htm).2
    have HW1 : Hid (w.heap.size + 2 ≤ w1.heap.size + 2) := by show _ ≤ _; have := HB1.out.size; omega
    rw [htb] at hcel c0 c1 c2 c3
    clear rx ry ex ey hsq hek ht hS1 hcnt htm hlt
    go_wp2_with fail
    refine hap.mono ?_
    rintro o w2 ⟨x, y, rfl, rx2, ry2, _, hb2⟩
    obtain ⟨⟨r0, r1, r2, r3⟩, f0, f1, f2, f3⟩ := BR1.below hb2 (Nat.le_refl _)
    have HB2 : Hid (Below w.heap.size w w2) := bsplit HB1.out hb2
    have HX : Hid ((Rd w2 x t.e.1 ∧ From (w.heap.size + 2) x) ∧ (Rd w2 y t.e.2.2.2 ∧ From (w.heap.size + 2) y)) := ⟨⟨rx2.1, fun a n c e => by have := rx2.2 a n c e; have := HW1.out; omega⟩, ⟨ry2.1, fun a n c e => by have := ry2.2 a n c e; have := HW1.out; omega⟩⟩
    obtain ⟨xa, xc2, rfl⟩ := rx2.1.len
    obtain ⟨ya, yc2, rfl⟩ := ry2.1.len
    clear hap hb2 rx2 ry2 c0 c1 c2 c3
    go_wp2
    refine bodyPost_ret (v := .tuple #[enV (.slice xa t.e.1.length xc2) sq ek (.slice ya t.e.2.2.2.length yc2), .bool true]) (by simp [results, Try.results23, go_sem, r0, r1, r2, r3]) rfl ?_
    refine ⟨below_store4 HB2.out (Nat.le_succ _) _ _ _ _, ?_⟩
    rw [HQE.out]
    exact ⟨_, _, by rw [HSE.out.1, HSE.out.2], ⟨rd_store4 HX.out.1.1 (from_ne HX.out.1.2 (by omega)) _ _ _ _, fun a n c e => by have := HX.out.1.2 a n c e; omega⟩, ⟨rd_store4 HX.out.2.1 (from_ne HX.out.2.2 (by omega)) _ _ _ _, fun a n c e => by have := HX.out.2.2 a n c e; omega⟩⟩
  · rw [List.getElem?_eq_none (by omega)] at hcel
    simp only [Option.map_none, ptrT] at hcel
    have HQE : Hid (Q = none) := by show Q = _; rw [← HQ.out, hcnt, List.getElem?_eq_none (by rw [esT_len]; omega)]
    clear hS1 hcnt hlt
    obtain ⟨⟨r0, r1, r2, r3⟩, f0, f1, f2, f3⟩ := BR1
    go_wp2
    refine bodyPost_ret (v := .tuple #[enV (.slice none 0 0) 0 0 (.slice none 0 0), .bool false]) (by simp [results, Try.results23, go_sem, r0, r1, r2, r3]) rfl ?_
    refine ⟨below_store4 HB1.out (Nat.le_succ _) _ _ _ _, ?_⟩
    rw [HQE.out]

set_option maxHeartbeats 4000000 in
theorem skbefore_any (w : World) (l : Nat) (ts : List Tow) (kv : Value) (K : EnB) (hS : SkAt w l ts) (hk : Rd w kv K.1) (hsm : ∀ t ∈ ts, t.e.1.length ≤ 1000000 ∧ t.e.2.2.2.length ≤ 1000000) :
    Calls Try.prog 25 #[.pointer (some ⟨l, 0, none⟩), .agg #[kv, .int .u64 (K.2.1 : Int), .int .u8 (K.2.2.1.toNat : Int)]] w fun o w' => FoundE (if cntE (esT ts) K = 0 then none else (esT ts)[cntE (esT ts) K - 1]?) w w' o := by
  have HS : Hid (SkAt w l ts) := hS
  have HSM : Hid (∀ t ∈ ts, t.e.1.length ≤ 1000000 ∧ t.e.2.2.2.length ≤ 1000000) := hsm
  obtain ⟨ka, kc, rfl⟩ := hk.len
  obtain ⟨kn, hkn⟩ : ∃ n, K.1.length = n := ⟨_, rfl⟩
  obtain ⟨ks, hks⟩ : ∃ z : Int, (K.2.1 : Int) = z := ⟨_, rfl⟩
  obtain ⟨kk, hkk⟩ : ∃ z : Int, (K.2.2.1.toNat : Int) = z := ⟨_, rfl⟩
  have hb0 := below_box w #[.slice ka kn kc, .int .u64 ks, .int .u8 kk] 36
  have hb1 := below_box4 (w.alloc (.cells #[.slice ka kn kc, .int .u64 ks, .int .u8 kk] 36)) (.cells #[.slice none 0 0, .int .u64 0, .int .u8 0, .slice none 0 0] 38)
  have s1 : (w.alloc (.cells #[.slice ka kn kc, .int .u64 ks, .int .u8 kk] 36)).heap.size = w.heap.size + 1 := by simp
  have s2 : ((w.alloc (.cells #[.slice ka kn kc, .int .u64 ks, .int .u8 kk] 36)).alloc (.cells #[.slice none 0 0, .int .u64 0, .int .u8 0, .slice none 0 0] 38)).heap.size = w.heap.size + 2 := by simp
  have BK := (box_new w (.slice ka kn kc) (.int .u64 ks) (.int .u8 kk) 36).below hb1 (Nat.le_refl _)
  have BR := box4f_new (w.alloc (.cells #[.slice ka kn kc, .int .u64 ks, .int .u8 kk] 36)) (.slice none 0 0) (.int .u64 0) (.int .u8 0) (.slice none 0 0) 38
  rw [s1] at BR
  obtain ⟨W, hW⟩ : ∃ W, (w.alloc (.cells #[.slice ka kn kc, .int .u64 ks, .int .u8 kk] 36)).alloc (.cells #[.slice none 0 0, .int .u64 0, .int .u8 0, .slice none 0 0] 38) = W := ⟨_, rfl⟩
  have hBW := bsplit hb0 hb1
  rw [hW] at BK BR hBW s2
  have HBW : Hid (Below w.heap.size w W) := hBW
  have HSZ : Hid (W.heap.size = w.heap.size + 2) := s2
  have hah := ahead_any W l ts (.slice ka K.1.length kc) K (hS.below hBW) (hk.below hBW (Nat.le_refl _))
  rw [hkn, hks, hkk] at hah
  rw [hkn, hks, hkk]
  obtain ⟨Q, hQ⟩ : ∃ Q, (if cntE (esT ts) K = 0 then none else (esT ts)[cntE (esT ts) K - 1]?) = Q := ⟨_, rfl⟩
  have HQ : Hid ((if cntE (esT ts) K = 0 then none else (esT ts)[cntE (esT ts) K - 1]?) = Q) := hQ
  rw [hQ]
  obtain ⟨d0, d1, d2, _⟩ := BK
  clear hS hk hkn hks hkk hb0 hb1 s1 s2 hBW hsm hQ
  go_enter Try.func25, Try.ntmps25
  go_wp2_with fail
  clear hW
  refine hah.mono ?_
  rintro o w1 ⟨A, rfl, hA, hb1⟩
  have HB1 : Hid (Below w.heap.size w w1) := bsplit HBW.out hb1
  have BR1 := BR.below hb1 (Nat.le_refl _)
  have h0 := hA 0 (by omega)
  have hcnt := h0.cnt HS.out.ht
  have hcl := h0.le
  obtain ⟨c, hc⟩ : ∃ c, A 0 = c := ⟨_, rfl⟩
  rw [hc] at hcnt hcl
  simp only [hc]
  have i0 : ∀ V : World, (Instr.index 65 (.agg #[ndP l ts c, ndP l ts (A 1), ndP l ts (A 2), ndP l ts (A 3), ndP l ts (A 4), ndP l ts (A 5), ndP l ts (A 6), ndP l ts (A 7)]) (.int .i64 0)).run Try.prog V = .ok (ndP l ts c) V := fun _ => by kernel_rfl
  have hS1 := HS.out.below HB1.out
  clear hah hA h0 BR d0 d1 d2
  by_cases hc0 : c = 0
  · subst hc0
    have hnb : nb l ts 0 = l := rfl
    have HQE : Hid (Q = none) := by show Q = _; rw [← HQ.out, hcnt, if_pos rfl]
    simp only [ndP, hnb] at i0 ⊢
    obtain ⟨ji, hji, _, _, _⟩ := info_parts infoTow
    have i2 := run_eql_ptr_same w1 ⟨l, 0, none⟩ Try.underlying63 hji
    clear hS1 hcnt hnb
    obtain ⟨⟨r0, r1, r2, r3⟩, f0, f1, f2, f3⟩ := BR1
    go_wp2
    refine bodyPost_ret (v := .tuple #[enV (.slice none 0 0) 0 0 (.slice none 0 0), .bool false]) (by simp [results, Try.results25, go_sem, r0, r1, r2, r3]) rfl ?_
    refine ⟨below_store4 HB1.out (Nat.le_succ _) _ _ _ _, ?_⟩
    rw [HQE.out]
  · obtain ⟨i, rfl⟩ : ∃ i, c = i + 1 := ⟨c - 1, by omega⟩
    have hlt : i < ts.length := by omega
    obtain ⟨t, ht⟩ : ∃ t, ts[i] = t := ⟨_, rfl⟩
    have htm : t ∈ ts := by rw [← ht]; exact List.getElem_mem hlt
    have hnb : nb l ts (i + 1) = t.b := by rw [nb_succ l hlt, ht]
    have hne : ¬ t.b = l := fun e => by
      have := HS.out.inj (i + 1) 0 (by omega) (by omega) (by rw [hnb]; exact e)
      omega
    have HQE : Hid (Q = some t.e) := by show Q = _; rw [← HQ.out, hcnt, if_neg (by omega), Nat.add_sub_cancel, List.getElem?_eq_getElem (by rw [esT_len]; exact hlt), esT_get hlt, ht]
    simp only [ndP, hnb] at i0 ⊢
    have hent := hS1.ent t htm
    obtain ⟨⟨c0, c1, c2, c3⟩, rx, ry⟩ := hent
    obtain ⟨x1, xc, ex⟩ := rx.len
    obtain ⟨y1, yc, ey⟩ := ry.len
    rw [ex] at c0 rx
    rw [ey] at c3 ry
    obtain ⟨tb, htb⟩ : ∃ z, t.b = z := ⟨_, rfl⟩
    obtain ⟨sq, hsq⟩ : ∃ z : Int, (t.e.2.1 : Int) = z := ⟨_, rfl⟩
    obtain ⟨ek, hek⟩ : ∃ z : Int, (t.e.2.2.1.toNat : Int) = z := ⟨_, rfl⟩
    have HSE : Hid ((t.e.2.1 : Int) = sq ∧ (t.e.2.2.1.toNat : Int) = ek) := ⟨hsq, hek⟩
    rw [hsq] at c1
    rw [hek] at c2
    have hap := skapart_any w1 (.slice x1 t.e.1.length xc) (.slice y1 t.e.2.2.2.length yc) t.e.1 t.e.2.2.2 sq ek rx ry (HSM.out t htm).1 (HSM.out t htm).2
    have HW1 : Hid (w.heap.size + 2 ≤ w1.heap.size + 2) := by show _ ≤ _; have := HB1.out.size; omega
    rw [htb] at c0 c1 c2 c3 hne
    simp only [htb] at i0 ⊢
    obtain ⟨ji, hji, _, hjs, _⟩ := info_parts infoTow
    obtain ⟨ca1, ty1, hca1⟩ := (hS1.nod (i + 1) (by omega)).blk
    obtain ⟨ca2, ty2, hca2⟩ := (hS1.nod 0 (by omega)).blk
    rw [hnb, htb] at hca1
    have i2 := run_eql_ptr_other w1 (a := ⟨tb, 0, none⟩) (b := ⟨l, 0, none⟩) Try.underlying63 hji (by rw [hjs]; decide) (fun e => hne (by injection e)) hca1 hca2
    clear rx ry ex ey hsq hek ht hS1 hcnt htm hlt hnb htb
    go_wp2_with fail
    refine hap.mono ?_
    rintro o w2 ⟨x, y, rfl, rx2, ry2, _, hb2⟩
    obtain ⟨⟨r0, r1, r2, r3⟩, f0, f1, f2, f3⟩ := BR1.below hb2 (Nat.le_refl _)
    have HB2 : Hid (Below w.heap.size w w2) := bsplit HB1.out hb2
    have HX : Hid ((Rd w2 x t.e.1 ∧ From (w.heap.size + 2) x) ∧ (Rd w2 y t.e.2.2.2 ∧ From (w.heap.size + 2) y)) := ⟨⟨rx2.1, fun a n c e => by have := rx2.2 a n c e; have := HW1.out; omega⟩, ⟨ry2.1, fun a n c e => by have := ry2.2 a n c e; have := HW1.out; omega⟩⟩
    obtain ⟨xa, xc2, rfl⟩ := rx2.1.len
    obtain ⟨ya, yc2, rfl⟩ := ry2.1.len
    clear hap hb2 rx2 ry2 c0 c1 c2 c3
    go_wp2
    refine bodyPost_ret (v := .tuple #[enV (.slice xa t.e.1.length xc2) sq ek (.slice ya t.e.2.2.2.length yc2), .bool true]) (by simp [results, Try.results25, go_sem, r0, r1, r2, r3]) rfl ?_
    refine ⟨below_store4 HB2.out (Nat.le_succ _) _ _ _ _, ?_⟩
    rw [HQE.out]
    exact ⟨_, _, by rw [HSE.out.1, HSE.out.2], ⟨rd_store4 HX.out.1.1 (from_ne HX.out.1.2 (by omega)) _ _ _ _, fun a n c e => by have := HX.out.1.2 a n c e; omega⟩, ⟨rd_store4 HX.out.2.1 (from_ne HX.out.2.2 (by omega)) _ _ _ _, fun a n c e => by have := HX.out.2.2 a n c e; omega⟩⟩

end Go.Proofs.Ytekmlbbfipldoaa

/- (*skip.List).row's function: it goes along a row. -/
namespace Go.Proofs.Ytekmlbbfipldoaa
open Go.RowKit Go.Shelf
set_option linter.unusedVariables false

attribute [local go_sem] Oper.semAt_some

/-- what a round must keep: the list, and the row's number -/
def KpR (n0 Bh : Nat) (A B : World) : Prop := Below n0 A B ∧ ∀ v, A.cell? ⟨Bh, 0, none⟩ = some v → B.cell? ⟨Bh, 0, none⟩ = some v

theorem kpR_t {n0 Bh : Nat} {A B C : World} (h : KpR n0 Bh A B) (k : KpR n0 Bh B C) : KpR n0 Bh A C := ⟨h.1.trans k.1, fun v hv => k.2 v (h.2 v hv)⟩

theorem kpR_b {n0 Bh : Nat} {w : World} (hn : n0 ≤ w.heap.size) (W : World) (l : Nat) (o o' : Obj) (hl : w.heap.size ≤ l) (h : W.heap[l]? = some o) (hc : o.isCells = false) (hw : o.isWalk = false) : KpR n0 Bh W (W.putObj l o') := by
  refine ⟨belowK_b hn W l o o' hl h hc hw, fun v hv => cell_kept hv (grownBy_putObj' W l o') (fun r e => ?_)⟩
  cases e
  exact ⟨_, h, hc⟩

/-- the towers of a row -/
def rowT (ts : List Tow) (q : Nat) : List Tow := ts.filter (fun t => decide (q < t.h))

/-- where a block stands -/
def posT (ts : List Tow) (b : Nat) : Nat := ts.findIdx (fun t => t.b == b)

def leftT (ts : List Tow) (v : Value) : Nat := match v with
  | .pointer (some a) => ts.length - posT ts a.block
  | _ => 0

theorem row_none {ts : List Tow} {a q : Nat} (h : ∀ i (hi : i < ts.length), a ≤ i → ¬ q < ts[i].h) : rowT (ts.take a) q = rowT ts q := by
  unfold rowT
  conv => rhs; rw [← List.take_append_drop a ts, List.filter_append]
  rw [show (ts.drop a).filter (fun t => decide (q < t.h)) = [] from List.filter_eq_nil_iff.2 (fun t ht => by
    obtain ⟨i, hi, rfl⟩ := List.getElem_of_mem ht
    rw [List.length_drop] at hi
    rw [List.getElem_drop]
    simpa using h (a + i) (by omega) (by omega)), List.append_nil]

theorem row_next {ts : List Tow} {a q j : Nat} (hj : j < ts.length) (haj : a ≤ j) (hq : q < ts[j].h) (h : ∀ i (hi : i < ts.length), a ≤ i → i < j → ¬ q < ts[i].h) : rowT (ts.take (j + 1)) q = rowT (ts.take a) q ++ [ts[j]] := by
  unfold rowT
  rw [List.take_succ_eq_append_getElem hj, List.filter_append]
  have e1 : [ts[j]].filter (fun t => decide (q < t.h)) = [ts[j]] := by simp [hq]
  rw [e1]
  congr 1
  have e2 : ts.take j = ts.take a ++ (ts.drop a).take (j - a) := by
    rw [← List.take_add, show a + (j - a) = j by omega]
  rw [e2, List.filter_append, show ((ts.drop a).take (j - a)).filter (fun t => decide (q < t.h)) = [] from List.filter_eq_nil_iff.2 (fun t ht => by
    obtain ⟨i, hi, h1, h2, rfl⟩ := mem_mid ht
    simpa using h i hi h1 h2), List.append_nil]

theorem row_pre {ts : List Tow} {a q : Nat} : rowT (ts.take a) q <+: rowT ts q := by
  unfold rowT
  exact (List.take_prefix a ts).filter _

theorem pos_at {w : World} {l : Nat} {ts : List Tow} (h : SkAt w l ts) {j : Nat} (hj : j < ts.length) : posT ts ts[j].b = j := by
  unfold posT
  rw [List.findIdx_eq hj]
  refine ⟨by simp, fun i hi => ?_⟩
  have hne : ts[i].b ≠ ts[j].b := fun e => by
    have := h.inj (i + 1) (j + 1) (by omega) (by omega) (by rw [nb_succ l (by omega), nb_succ l hj]; exact e)
    omega
  simpa using hne

set_option maxRecDepth 100000 in
set_option maxHeartbeats 4000000 in
theorem row_stops (n : Nat) (hn : 1 ≤ n) (v w : World) (l h q Bl Bh : Nat) (ts : List Tow) (hS : SkAt v l ts) (hvw : Below v.heap.size v w) (hq : h = q + 1) (h8 : q < 8) (cl : w.cell? ⟨Bl, 0, none⟩ = some (.pointer (some ⟨l, 0, none⟩))) (ch : w.cell? ⟨Bh, 0, none⟩ = some (.int .i64 (h : Int))) :
    SeqStopsK Fence.wide n Try.prog 47 #[.pointer (some ⟨Bl, 0, none⟩), .pointer (some ⟨Bh, 0, none⟩)] (fun t : {t : Tow // t ∈ ts} => #[enV t.1.x (t.1.e.2.1 : Int) (t.1.e.2.2.1.toNat : Int) t.1.y]) (KpR v.heap.size Bh) (fun xs => xs.map (·.1) = rowT ts q) (fun pre => pre.map (·.1) <+: rowT ts q) (ts.length + 1) w := fun yl J Jx W hW hJ hJx hY h0 => by
  have hvW : Below v.heap.size v W := hvw.trans (hW.mono hvw.size)
  have hSW := hS.below hvW
  have clW : W.cell? ⟨Bl, 0, none⟩ = some (.pointer (some ⟨l, 0, none⟩)) := by rw [hW.cell (p := ⟨Bl, 0, none⟩) (World.block_lt_of_cell? w _ cl)]; exact cl
  have chW : W.cell? ⟨Bh, 0, none⟩ = some (.int .i64 (h : Int)) := by rw [hW.cell (p := ⟨Bh, 0, none⟩) (World.block_lt_of_cell? w _ ch)]; exact ch
  have hIr := isRow_any W (h : Int) true (decide_eq_true ⟨by omega, by omega⟩)
  have n0 := (hSW.nod 0 (Nat.zero_le _)).cel q h8
  have hnb : nb l ts 0 = l := rfl
  have hnh : nh ts 0 = 8 := rfl
  rw [hnb, hnh, if_pos h8, List.drop_zero] at n0
  have HS : Hid (SkAt v l ts) := hS
  have hqI : (h : Int) - 1 = (q : Int) := by omega
  have hq0 : (0 : Int) ≤ (q : Int) := by omega
  have hq8 : (q : Int) < 8 := by omega
  obtain ⟨fv, hfv⟩ : ∃ v, ptrT (fstT ts q) = v := ⟨_, rfl⟩
  rw [hfv] at n0
  have HFV : Hid (ptrT (fstT ts q) = fv) := hfv
  clear hnb hnh hfv hSW cl ch hS hq
  refine callsIn_of_wp Try.func47 rfl trivial ?_ rfl
  simp only [Try.ntmps47, List.size_toArray, List.length_cons, List.length_nil, Nat.reduceAdd, Nat.reduceSub, Array.replicate_succ, Array.replicate_zero, List.push_toArray, List.append_toArray, List.nil_append, List.cons_append]
  gi_wp2_with fail
  refine ⟨trivial, ?_⟩
  refine (callsIn_wide.2 hIr).mono ?_
  rintro e w1 ⟨rfl, hw1⟩
  subst w1
  gi_wp2_with fail
  gi_region
  gi_wp2
  have hJ0 : J [] W.drew := hJ [] W _ none h0 ⟨rfl, rfl, rfl, Nat.le_refl _, fun _ _ _ => rfl⟩ (fun r e => by cases e)
  have HJ : Hid (AbidesFrom W.heap.size J) := hJ
  have hBW : Below v.heap.size v W.drew := hvW.drew
  clear hJ hJx h0 hW clW hIr n0
  gi_loopw [4] (fun tv wr => ∃ a : Nat, a ≤ ts.length ∧ tv = ptrT (fstT (ts.drop a) q) ∧ (∃ pre : List {t : Tow // t ∈ ts}, pre.map (·.1) = rowT (ts.take a) q ∧ J pre wr) ∧ Below v.heap.size v wr ∧ wr.cell? ⟨Bh, 0, none⟩ = some (.int .i64 (h : Int))) (fun tv wr => leftT ts tv)
  case atStart => exact ⟨0, Nat.zero_le _, by rw [List.drop_zero, HFV.out], ⟨[], by simp [rowT], hJ0⟩, hBW, chW⟩
  case round =>
    obtain ⟨a, han, rfl, ⟨pre, hpre, hJa⟩, hBa, hca⟩ := hrel
    have hSa := HS.out.below hBa
    rcases fst_drop ts a q with ⟨hf, hno⟩ | ⟨j, hj, haj, hjh, hf, hno⟩
    · rw [hf]
      have HJ9 : Hid (∃ xs : List {t : Tow // t ∈ ts}, xs.map (·.1) = rowT ts q ∧ J xs wr) := ⟨pre, by rw [hpre]; exact row_none hno, hJa⟩
      simp only [ptrT]
      clear hY hJa hf hno hSa hpre
      gi_wp2
      go_end0
      exact ⟨⟨_, rfl⟩, .inl HJ9.out⟩
    · rw [hf]
      simp only [ptrT]
      obtain ⟨xj, hxj⟩ : ∃ z : {t : Tow // t ∈ ts}, z.1 = ts[j] := ⟨⟨ts[j], List.getElem_mem hj⟩, rfl⟩
      have HPN : Hid ((pre ++ [xj]).map (·.1) = rowT (ts.take (j + 1)) q) := by
        show _ = _
        rw [row_next hj haj hjh hno, List.map_append, hpre, List.map_cons, List.map_nil, hxj]
      obtain ⟨fn, tmps, assign, body, hy, hR⟩ := hY pre xj wr hJa (by
        have h0 := congrArg List.length hpre
        rw [List.length_map] at h0
        have h1 : (rowT (ts.take a) q).length ≤ (ts.take a).length := List.length_filter_le _ _
        rw [List.length_take] at h1
        omega)
      have hent := hSa.ent ts[j] (List.getElem_mem hj)
      have hpos := pos_at HS.out hj
      obtain ⟨t, ht⟩ : ∃ t, ts[j] = t := ⟨_, rfl⟩
      rw [hxj, ht] at hy
      rw [ht] at hent hpos hjh
      obtain ⟨⟨c0, c1, c2, c3⟩, rx, ry⟩ := hent
      obtain ⟨x1, xc, ex⟩ := rx.len
      obtain ⟨y1, yc, ey⟩ := ry.len
      rw [ex] at c0
      rw [ey] at c3
      rw [ex, ey] at hy
      obtain ⟨tb, htb⟩ : ∃ z, t.b = z := ⟨_, rfl⟩
      rw [ht, htb]
      rw [htb] at c0 c1 c2 c3
      clear hY hJa hf hno hSa rx ry hpre hxj
      gi_wp2_with fail
      refine hR.mono ?_
      rintro e W3 (⟨rfl, hJ3, hK3⟩ | ⟨rfl, hJx3⟩)
      · have hB3 := hBa.trans hK3.1
        have hc3 := hK3.2 _ hca
        have HJ3 : Hid (J (pre ++ [xj]) W3.drew) := HJ.out _ W3 _ none hJ3 ⟨rfl, rfl, rfl, Nat.le_refl _, fun _ _ _ => rfl⟩ (fun r e => by cases e)
        have hS3 := HS.out.below hB3
        have n3 := (hS3.nod (j + 1) (by omega)).cel q h8
        rw [nb_succ l hj, nh_succ hj, ht, htb, if_pos hjh] at n3
        obtain ⟨nv, hnv⟩ : ∃ v, ptrT (fstT (ts.drop (j + 1)) q) = v := ⟨_, rfl⟩
        rw [hnv] at n3
        have HNV : Hid (ptrT (fstT (ts.drop (j + 1)) q) = nv) := hnv
        have HM : Hid (leftT ts nv < leftT ts (.pointer (some ⟨tb, 0, none⟩))) := by
          show _ < _
          rw [← hnv]
          have e1 : leftT ts (.pointer (some ⟨tb, 0, none⟩)) = ts.length - j := by unfold leftT; rw [← htb]; simp only [hpos]
          rw [e1]
          rcases fst_drop ts (j + 1) q with ⟨hf2, _⟩ | ⟨j2, hj2, haj2, _, hf2, _⟩
          · rw [hf2]; simp only [ptrT, leftT]; omega
          · rw [hf2]; simp only [ptrT, leftT]; rw [pos_at HS.out hj2]; omega
        clear hR hK3 c0 c1 c2 c3 hS3 hnv hca hy
        gi_wp2_with fail
        gi_region
        gi_wp2
        go_roundw
        case rel => exact ⟨j + 1, by omega, HNV.out.symm, ⟨_, HPN.out, HJ3.out⟩, hB3.drew, hc3⟩
        case measure => exact HM.out
      · have HPP : Hid ((pre ++ [xj]).map (·.1) <+: rowT ts q) := by show _ <+: _; rw [HPN.out]; exact row_pre
        gi_wp2
        refine bodyPost_ret (results_none rfl _ _ _) rfl ?_
        exact ⟨⟨_, rfl⟩, .inr ⟨_, HPP.out, hJx3⟩⟩

end Go.Proofs.Ytekmlbbfipldoaa

/- (*skip.List).row, Len. -/
namespace Go.Proofs.Ytekmlbbfipldoaa
open Go.RowKit Go.Shelf
set_option linter.unusedVariables false

attribute [local go_sem] Oper.semAt_some

theorem skrow_any (w : World) (pv : Option Addr) (h : Int) :
    Calls Try.prog 38 #[.pointer pv, .int .i64 h] w fun e w' => e = .returned (.func (.func 47) #[] #[.pointer (some ⟨w.heap.size, 0, none⟩), .pointer (some ⟨w.heap.size + 1, 0, none⟩)]) ∧ w' = (w.alloc (.cells #[.pointer pv] 25)).alloc (.cells #[.int .i64 h] 3) := by
  go_enter Try.func38, Try.ntmps38
  go_wp2
  go_ret
  exact ⟨by simp, rfl⟩

theorem rd_one_cell (W : World) (v : Value) (t : TypeId) : (W.alloc (.cells #[v] t)).cell? ⟨W.heap.size, 0, none⟩ = some v := by
  unfold World.cell?
  rw [heap_alloc_new]
  rfl
theorem cell_new_l (W : World) (v : Value) (t : TypeId) : (W.alloc (.cells #[v] t)).cell? ⟨W.heap.size, 0, none⟩ = some v ∧ (W.alloc (.cells #[v] t)).frozen? ⟨W.heap.size, 0, none⟩ = false := ⟨(rd_one_cell W v t), frozen_of_row (W.alloc (.cells #[v] t)) W.heap.size 0 _ t (heap_alloc_new W (.cells #[v] t))⟩
theorem cell_alloc_l {W : World} {a : Addr} {v : Value} (o : Obj) (h : W.cell? a = some v) : (W.alloc o).cell? a = some v := cell_kept h (World.grownBy_alloc W o none) (fun r e => by cases e)
theorem frozen_alloc_l {W : World} {a : Addr} {v : Value} (o : Obj) (h : W.cell? a = some v) (hf : W.frozen? a = false) : (W.alloc o).frozen? a = false := (frozen_kept h (World.grownBy_alloc W o none) (fun r e => by cases e)).trans hf

theorem row_low {ts : List Tow} (hh : ∀ t ∈ ts, 1 ≤ t.h ∧ t.h ≤ 8) : rowT ts 0 = ts := by
  unfold rowT
  rw [List.filter_eq_self]
  intro t ht
  have := (hh t ht).1
  simp
  omega

theorem kpR_set {n0 Bh b : Nat} {W : World} (h1 : n0 ≤ b) (h2 : Bh ≠ b) (i : Nat) (u : Value) : KpR n0 Bh W (W.setCell ⟨b, i, none⟩ u) :=
  ⟨(Below.refl n0 W).setCell (p := ⟨b, i, none⟩) h1 u, fun v hv => by rw [cell_other W ⟨b, i, none⟩ ⟨Bh, 0, none⟩ u h2]; exact hv⟩

set_option maxRecDepth 100000 in
set_option maxHeartbeats 4000000 in
theorem sklen_any (w : World) (l : Nat) (ts : List Tow) (hS : SkAt w l ts) :
    Calls Try.prog 18 #[.pointer (some ⟨l, 0, none⟩)] w fun e w' => e = .returned (.int .i64 (ts.length : Int)) ∧ Below w.heap.size w w' := by
  have HS : Hid (SkAt w l ts) := hS
  have c0 := cell_new_l w (.int .i64 0) 3
  have hB1 : Below w.heap.size w (w.alloc (.cells #[.int .i64 0] 3)) := (Below.refl _ w).alloc (Nat.le_refl _) _
  have hrw := skrow_any (w.alloc (.cells #[.int .i64 0] 3)) (some ⟨l, 0, none⟩) 1
  have hs1 : (w.alloc (.cells #[.int .i64 0] 3)).heap.size = w.heap.size + 1 := by simp
  rw [hs1] at hrw
  have c1 := cell_new_l (w.alloc (.cells #[.int .i64 0] 3)) (.pointer (some ⟨l, 0, none⟩)) 25
  have c2 := cell_new_l ((w.alloc (.cells #[.int .i64 0] 3)).alloc (.cells #[.pointer (some ⟨l, 0, none⟩)] 25)) (.int .i64 1) 3
  have d0 := cell_alloc_l (.cells #[.int .i64 1] 3) (cell_alloc_l (.cells #[.pointer (some ⟨l, 0, none⟩)] 25) c0.1)
  have d0f := frozen_alloc_l (.cells #[.int .i64 1] 3) (cell_alloc_l (.cells #[.pointer (some ⟨l, 0, none⟩)] 25) c0.1) (frozen_alloc_l (.cells #[.pointer (some ⟨l, 0, none⟩)] 25) c0.1 c0.2)
  have d1 := cell_alloc_l (.cells #[.int .i64 1] 3) c1.1
  have hB3 : Below w.heap.size w (((w.alloc (.cells #[.int .i64 0] 3)).alloc (.cells #[.pointer (some ⟨l, 0, none⟩)] 25)).alloc (.cells #[.int .i64 1] 3)) := (hB1.alloc hB1.size _).alloc (hB1.alloc hB1.size _).size _
  simp only [World.size_alloc] at c1 c2 d1
  have hz3 : (((w.alloc (.cells #[.int .i64 0] 3)).alloc (.cells #[.pointer (some ⟨l, 0, none⟩)] 25)).alloc (.cells #[.int .i64 1] 3)).heap.size = w.heap.size + 3 := by simp
  have hlen := hS.len
  refine (callsIn_wide (n := 4)).1 ?_
  refine callsIn_of_wp_marks Try.func18 rfl trivial ?_ rfl
  simp only [Try.ntmps18, List.size_toArray, List.length_cons, List.length_nil, Nat.reduceAdd, Nat.reduceSub, Array.replicate_succ, Array.replicate_zero, List.push_toArray, List.append_toArray, List.nil_append, List.cons_append]
  gi_wp2_with fail
  refine ⟨trivial, ?_⟩
  refine (callsIn_wide.2 hrw).mono ?_
  rintro e w3 ⟨rfl, hw3⟩
  rw [← hw3] at c2 d0 d0f d1 hB3 hz3
  clear hw3 c0 c1 hB1 hrw hs1
  have HB3 : Hid (Below w.heap.size w w3) := hB3
  gi_wp2_with fail
  refine wpIn_rangeFunc_ownF rfl (by omega) (gf := 47) (lb := #[.pointer (some ⟨w.heap.size + 1, 0, none⟩), .pointer (some ⟨w.heap.size + 1 + 1, 0, none⟩)]) rfl trivial (enters_of Try.func47 (by kernel_rfl) rfl)
    (row_stops 3 (by omega) w w3 l 1 0 _ _ ts HS.out hB3 rfl (by omega) d1 c2.1) kpR_t (kpR_b (by omega)) (Below.refl _ _) (fun _ => rfl)
    (fun (pre : List {t : Tow // t ∈ ts}) W => (W.cell? ⟨w.heap.size, 0, none⟩ = some (.int .i64 (pre.length : Int)) ∧ W.frozen? ⟨w.heap.size, 0, none⟩ = false) ∧ Below w.heap.size w W)
    (fun c (pre : List {t : Tow // t ∈ ts}) W => False)
    (OwnFrom.and (Go.Own.from (fun s A B row hs hg hr => ⟨cell_kept hs.1 hg hr, (frozen_kept hs.1 hg hr).trans hs.2⟩) _) (ownFrom_below (Nat.le_refl _) (by omega)))
    (fun c s A B row hs hg hr => hs)
    ⟨⟨d0, d0f⟩, hB3⟩
    (fun (x : {t : Tow // t ∈ ts}) => { tmps := #[.pointer (some ⟨l, 0, none⟩), undef, .int .i64 0, .pointer (some ⟨w.heap.size, 0, none⟩), .pointer (some ⟨l, 0, none⟩), .func (.func 47) #[] #[.pointer (some ⟨w.heap.size + 1, 0, none⟩), .pointer (some ⟨w.heap.size + 1 + 1, 0, none⟩)], enV x.1.x (x.1.e.2.1 : Int) (x.1.e.2.2.1.toNat : Int) x.1.y, undef, undef, undef], defers := [] }) ?assign ?body ?done ?stop
  case assign =>
    intro l x W K hK
    gi_wp2
    simpa using hK
  case body =>
    rintro l pre x W ⟨⟨hc, hf⟩, hBW⟩ hpl
    have hpI : (pre.length : Int) ≤ 1000 := by omega
    gi_wp2_with fail
    refine ⟨KeepsOthers.setCell _ _ _, kpR_set (Nat.le_refl _) (by omega) _ _, ⟨?_, ?_⟩, hBW.setCell (p := ⟨w.heap.size, 0, none⟩) (by simp) _⟩
    · rw [World.cell?_setCell_same' _ _ _ (by rw [hc]; rfl)]
      simp
    · have hfk := hf
      simpa [World.frozen?_setCell] using hfk
  case done =>
    rintro D ys W hD hys ⟨⟨hc, hf⟩, hBW⟩ hK
    rw [row_low HS.out.ht] at hys
    have hyl : ys.length = ts.length := by have := congrArg List.length hys; rwa [List.length_map] at this
    rw [hyl] at hc
    gi_wp2
    refine ⟨by simp, .inl ⟨_, _, rfl, run_takeDeferred hK, ?_⟩⟩
    refine ⟨.int .i64 (ts.length : Int), ?_, rfl, hBW.trans (belowK_b (w := w) (Nat.le_refl _) _ D _ _ (by omega) hK rfl rfl)⟩
    simp [results, Try.f18, go_sem]
  case stop =>
    rintro D c pre W hD hpre hF hK
    exact hF.elim

end Go.Proofs.Ytekmlbbfipldoaa

/- (*skip.List).Size. -/
namespace Go.Proofs.Ytekmlbbfipldoaa
open Go.RowKit Go.Shelf
set_option linter.unusedVariables false

attribute [local go_sem] Oper.semAt_some

/-- how many bytes the entries count for -/
def sizE (e : EnB) : Nat := e.1.length + e.2.2.2.length + 16
def sizL (l : List EnB) : Nat := (l.map sizE).sum
def sizT (ts : List Tow) : Nat := sizL (esT ts)
def sizS {ts : List Tow} (pre : List {t : Tow // t ∈ ts}) : Nat := sizT (pre.map (·.1))

theorem sizS_snoc {ts : List Tow} (pre : List {t : Tow // t ∈ ts}) (x : {t : Tow // t ∈ ts}) : sizS (pre ++ [x]) = sizS pre + (x.1.e.1.length + x.1.e.2.2.2.length + 16) := by
  simp [sizS, sizT, sizL, esT, sizE]

/-- no entry is longer than that -/
def LenT (ts : List Tow) (m : Nat) : Prop := ∀ t ∈ ts, t.e.1.length ≤ m ∧ t.e.2.2.2.length ≤ m

theorem sizS_le {ts : List Tow} {m : Nat} (h : LenT ts m) (pre : List {t : Tow // t ∈ ts}) : sizS pre ≤ pre.length * (2 * m + 16) := by
  induction pre with
  | nil => simp [sizS, sizT, sizL, esT]
  | cons x xs ih =>
    have hx := h x.1 x.2
    have e : sizS (x :: xs) = sizE x.1.e + sizS xs := by simp [sizS, sizT, sizL, esT]
    rw [e, List.length_cons, Nat.add_mul]
    unfold sizE
    omega

theorem kpR_alloc {n0 Bh : Nat} {W : World} (h : n0 ≤ W.heap.size) (o : Obj) : KpR n0 Bh W (W.alloc o) := ⟨(Below.refl n0 W).alloc h o, fun v hv => cell_alloc_l o hv⟩

set_option maxRecDepth 100000 in
set_option maxHeartbeats 4000000 in
theorem sksize_any (w : World) (l : Nat) (ts : List Tow) (hS : SkAt w l ts) (hL : LenT ts 1000) :
    Calls Try.prog 19 #[.pointer (some ⟨l, 0, none⟩)] w fun e w' => e = .returned (.int .i64 (sizT ts : Int)) ∧ Below w.heap.size w w' := by
  have HS : Hid (SkAt w l ts) := hS
  have c0 := cell_new_l w (.int .i64 0) 3
  have hB1 : Below w.heap.size w (w.alloc (.cells #[.int .i64 0] 3)) := (Below.refl _ w).alloc (Nat.le_refl _) _
  have hrw := skrow_any (w.alloc (.cells #[.int .i64 0] 3)) (some ⟨l, 0, none⟩) 1
  have hs1 : (w.alloc (.cells #[.int .i64 0] 3)).heap.size = w.heap.size + 1 := by simp
  rw [hs1] at hrw
  have c1 := cell_new_l (w.alloc (.cells #[.int .i64 0] 3)) (.pointer (some ⟨l, 0, none⟩)) 25
  have c2 := cell_new_l ((w.alloc (.cells #[.int .i64 0] 3)).alloc (.cells #[.pointer (some ⟨l, 0, none⟩)] 25)) (.int .i64 1) 3
  have d0 := cell_alloc_l (.cells #[.int .i64 1] 3) (cell_alloc_l (.cells #[.pointer (some ⟨l, 0, none⟩)] 25) c0.1)
  have d0f := frozen_alloc_l (.cells #[.int .i64 1] 3) (cell_alloc_l (.cells #[.pointer (some ⟨l, 0, none⟩)] 25) c0.1) (frozen_alloc_l (.cells #[.pointer (some ⟨l, 0, none⟩)] 25) c0.1 c0.2)
  have d1 := cell_alloc_l (.cells #[.int .i64 1] 3) c1.1
  have hB3 : Below w.heap.size w (((w.alloc (.cells #[.int .i64 0] 3)).alloc (.cells #[.pointer (some ⟨l, 0, none⟩)] 25)).alloc (.cells #[.int .i64 1] 3)) := (hB1.alloc hB1.size _).alloc (hB1.alloc hB1.size _).size _
  simp only [World.size_alloc] at c1 c2 d1
  have hz3 : (((w.alloc (.cells #[.int .i64 0] 3)).alloc (.cells #[.pointer (some ⟨l, 0, none⟩)] 25)).alloc (.cells #[.int .i64 1] 3)).heap.size = w.heap.size + 3 := by simp
  have hlen := hS.len
  refine (callsIn_wide (n := 4)).1 ?_
  refine callsIn_of_wp_marks Try.func19 rfl trivial ?_ rfl
  simp only [Try.ntmps19, List.size_toArray, List.length_cons, List.length_nil, Nat.reduceAdd, Nat.reduceSub, Array.replicate_succ, Array.replicate_zero, List.push_toArray, List.append_toArray, List.nil_append, List.cons_append]
  gi_wp2_with fail
  refine ⟨trivial, ?_⟩
  refine (callsIn_wide.2 hrw).mono ?_
  rintro e w3 ⟨rfl, hw3⟩
  rw [← hw3] at c2 d0 d0f d1 hB3 hz3
  clear hw3 c0 c1 hB1 hrw hs1
  have HB3 : Hid (Below w.heap.size w w3) := hB3
  have HL : Hid (LenT ts 1000) := hL
  clear hL
  gi_wp2_with fail
  refine wpIn_rangeFunc_ownH rfl (by omega) (gf := 47) (lb := #[.pointer (some ⟨w.heap.size + 1, 0, none⟩), .pointer (some ⟨w.heap.size + 1 + 1, 0, none⟩)]) rfl trivial (enters_of Try.func47 (by kernel_rfl) rfl)
    (row_stops 3 (by omega) w w3 l 1 0 _ _ ts HS.out hB3 rfl (by omega) d1 c2.1) kpR_t (kpR_b (by omega)) (Below.refl _ _) (fun _ => rfl)
    (fun (pre : List {t : Tow // t ∈ ts}) W => ((W.cell? ⟨w.heap.size, 0, none⟩ = some (.int .i64 (sizS pre : Int)) ∧ W.frozen? ⟨w.heap.size, 0, none⟩ = false)) ∧ Below w.heap.size w W)
    (fun c (pre : List {t : Tow // t ∈ ts}) W => False)
    (OwnFrom.and (Go.Own.from (fun s A B row hs hg hr => ⟨cell_kept hs.1 hg hr, (frozen_kept hs.1 hg hr).trans hs.2⟩) _) (ownFrom_below (Nat.le_refl _) (by omega)))
    (fun c s A B row hs hg hr => hs)
    ⟨⟨d0, d0f⟩, hB3⟩
    (fun (x : {t : Tow // t ∈ ts}) a' W => ∃ Bx, w.heap.size < Bx ∧ Box4 W Bx x.1.x (.int .u64 (x.1.e.2.1 : Int)) (.int .u8 (x.1.e.2.2.1.toNat : Int)) x.1.y ∧ a' = { tmps := #[.pointer (some ⟨l, 0, none⟩), undef, .int .i64 0, .pointer (some ⟨w.heap.size, 0, none⟩), .pointer (some ⟨Bx, 0, none⟩), .pointer (some ⟨l, 0, none⟩), .func (.func 47) #[] #[.pointer (some ⟨w.heap.size + 1, 0, none⟩), .pointer (some ⟨w.heap.size + 1 + 1, 0, none⟩)], enV x.1.x (x.1.e.2.1 : Int) (x.1.e.2.2.1.toNat : Int) x.1.y, undef, undef, undef, undef, undef, undef, undef, undef, undef, undef, undef, undef], defers := [] })
    (fun x a' _ X Y row hs hg hr => by
      obtain ⟨Bx, h1, h2, h3⟩ := hs
      exact ⟨Bx, h1, ⟨cell_kept h2.c0 hg (fun r e => (hr r e).2), cell_kept h2.c1 hg (fun r e => (hr r e).2), cell_kept h2.c2 hg (fun r e => (hr r e).2), cell_kept h2.c3 hg (fun r e => (hr r e).2)⟩, h3⟩)
    ?assign ?body ?done ?stop
  case assign =>
    rintro l pre x W K ⟨⟨hc, hf⟩, hBW⟩ hK
    have hent := HS.out.ent x.1 x.2
    obtain ⟨x1, xc, ex⟩ := hent.rx.len
    obtain ⟨y1, yc, ey⟩ := hent.ry.len
    have HX : Hid (x.1.x = .slice x1 x.1.e.1.length xc) := ex
    have HY : Hid (x.1.y = .slice y1 x.1.e.2.2.2.length yc) := ey
    have HK : Hid _ := hK
    rw [ex, ey]
    clear hent ex ey hK
    simp only [enV]
    gi_wp2
    refine HK.out _ _ ((KeepsOthers.alloc _ _).from _) (kpR_alloc hBW.size _) ⟨⟨cell_alloc_l _ hc, frozen_alloc_l _ hc hf⟩, hBW.alloc hBW.size _⟩ ⟨W.heap.size, World.block_lt_of_cell? _ _ hc, ?_, ?_⟩
    · rw [HX.out, HY.out]
      exact box4_new W _ _ _ _ _
    · rw [HX.out, HY.out]
  case body =>
    rintro l pre x a' W hl hlr ⟨⟨hc, hf⟩, hBW⟩ ⟨Bx, hBx, ⟨b0, b1, b2, b3⟩, rfl⟩ hpl
    have hxl := HL.out x.1 x.2
    have hsl := sizS_le HL.out pre
    have hent := HS.out.ent x.1 x.2
    obtain ⟨x1, xc, ex⟩ := hent.rx.len
    obtain ⟨y1, yc, ey⟩ := hent.ry.len
    rw [ex] at b0
    rw [ey] at b3
    have HSN : Hid (sizS (pre ++ [x]) = sizS pre + (x.1.e.1.length + x.1.e.2.2.2.length + 16)) := sizS_snoc pre x
    obtain ⟨n1, hn1⟩ : ∃ n, x.1.e.1.length = n := ⟨_, rfl⟩
    obtain ⟨n2, hn2⟩ : ∃ n, x.1.e.2.2.2.length = n := ⟨_, rfl⟩
    obtain ⟨n3, hn3⟩ : ∃ n, sizS pre = n := ⟨_, rfl⟩
    rw [hn1, hn2, hn3] at HSN
    rw [hn1] at b0 hxl
    rw [hn2] at b3 hxl
    rw [hn3] at hc hsl
    have hpI : (n3 : Int) ≤ 10000000 := by have : pre.length ≤ 1000 := by omega
                                           omega
    have hn1I : (n1 : Int) ≤ 1000 := by omega
    have hn2I : (n2 : Int) ≤ 1000 := by omega
    rw [ex, ey]
    clear hn1 hn2 hn3 hxl hsl hent ex ey
    gi_wp2_with fail
    refine ⟨(KeepsOthers.setCell _ _ _).from _, kpR_set (Nat.le_refl _) (by omega) _ _, ⟨?_, ?_⟩, hBW.setCell (p := ⟨w.heap.size, 0, none⟩) (by simp) _⟩
    · rw [World.cell?_setCell_same' _ _ _ (by rw [hc]; rfl), HSN.out]
      congr 2
    · simpa [World.frozen?_setCell] using hf
  case done =>
    rintro D ys W hD hys ⟨⟨hc, hf⟩, hBW⟩ hK
    rw [row_low HS.out.ht] at hys
    have hyl : sizS ys = sizT ts := by unfold sizS; rw [hys]
    rw [hyl] at hc
    gi_wp2
    refine ⟨by simp, .inl ⟨_, _, rfl, run_takeDeferred hK, ?_⟩⟩
    refine ⟨.int .i64 (sizT ts : Int), ?_, rfl, hBW.trans (belowK_b (w := w) (Nat.le_refl _) _ D _ _ (by omega) hK rfl rfl)⟩
    simp [results, Try.f19, go_sem]
  case stop =>
    rintro D c pre W hD hpre hF hK
    exact hF.elim

end Go.Proofs.Ytekmlbbfipldoaa

/- (*skip.List).All. -/
namespace Go.Proofs.Ytekmlbbfipldoaa
open Go.RowKit Go.Shelf
set_option linter.unusedVariables false

attribute [local go_sem] Oper.semAt_some

/-- entries in a row of one's own; what they hold lies from block B on, elsewhere -/
def OwnEF (B : Nat) (w : World) (v : Value) (es : List EnB) : Prop :=
  ∃ cs, w.ownsRow B 38 4 v es.length cs ∧ ∀ j (h : j < es.length), ∃ x y, cs[j * 4]? = some x ∧ cs[j * 4 + 1]? = some (.int .u64 (es[j].2.1 : Int)) ∧ cs[j * 4 + 2]? = some (.int .u8 (es[j].2.2.1.toNat : Int)) ∧ cs[j * 4 + 3]? = some y ∧ (Rd w x es[j].1 ∧ NeB x es[j].1 v ∧ From B x) ∧ (Rd w y es[j].2.2.2 ∧ NeB y es[j].2.2.2 v ∧ From B y)

theorem OwnEF.nil (B : Nat) (w : World) : OwnEF B w (.slice none 0 0) [] := ⟨[], World.ownsRow_nil _ _ _ _, fun _ h => absurd h (Nat.not_lt_zero _)⟩

theorem OwnEF.own {B : Nat} {w : World} {v : Value} {es : List EnB} (h : OwnEF B w v es) : OwnE B w v es := by
  obtain ⟨cs, hr, hj⟩ := h
  refine ⟨cs, hr, fun j hl => ?_⟩
  obtain ⟨x, y, c0, c1, c2, c3, ox, oy⟩ := hj j hl
  exact ⟨x, y, c0, c1, c2, c3, ⟨ox.1, ox.2.1⟩, ⟨oy.1, oy.2.1⟩⟩

theorem OwnEF.below {B C : Nat} {w w' : World} {v : Value} {es : List EnB} (h : OwnEF B w v es) (hb : Below C w w') (hC : w.heap.size ≤ C) : OwnEF B w' v es := by
  obtain ⟨cs, hr, hj⟩ := h
  have hb' : Below w.heap.size w w' := ⟨hb.os, hb.tape, hb.output, hb.size, fun i hi => hb.block i (Nat.lt_of_lt_of_le hi hC)⟩
  refine ⟨cs, row_below hr hb', fun j h => ?_⟩
  obtain ⟨x, y, c0, c1, c2, c3, ox, oy⟩ := hj j h
  exact ⟨x, y, c0, c1, c2, c3, ⟨ox.1.below hb hC, ox.2⟩, ⟨oy.1.below hb hC, oy.2⟩⟩

/-- what turned lies below B, or is no cells -/
def Aside (B : Nat) (A : World) (row : Option Nat) : Prop := ∀ r, row = some r → r < B ∨ ∃ o : Obj, A.heap[r]? = some o ∧ o.isCells = false

theorem cell_aside {B : Nat} {A C : World} {row : Option Nat} {a : Addr} {v : Value} (hc : A.cell? a = some v) (hB : B ≤ a.block) (hg : A.grownBy C row) (hr : Aside B A row) : C.cell? a = some v := by
  rcases row with _ | r
  · exact cell_kept hc hg (fun r e => by cases e)
  · rcases hr r rfl with h | h
    · rw [World.cell?_of_block (hg.block a.block (World.block_lt_of_cell? _ _ hc) (fun e => by cases e; omega))]
      exact hc
    · exact cell_kept hc hg (fun r' e => by cases e; exact h)

theorem rd_aside {B : Nat} {A C : World} {row : Option Nat} {x : Value} {l : List UInt8} (h : Rd A x l) (hf : From B x) (hg : A.grownBy C row) (hr : Aside B A row) : Rd C x l := by
  rcases h with h | ⟨b, off, cap, rfl, h1, h2, h3⟩
  · exact .inl h
  · exact .inr ⟨b, off, cap, rfl, h1, h2, fun j u hu => cell_aside (a := ⟨b, off + j, none⟩) (h3 j u hu) (hf ⟨b, off, none⟩ _ _ rfl) hg hr⟩

theorem row_aside {B n s : Nat} {e : TypeId} {cs : List Value} {A C : World} {row : Option Nat} {v : Value} (h : A.ownsRow B e s v n cs) (hg : A.grownBy C row) (hr : Aside B A row) : C.ownsRow B e s v n cs := by
  refine h.kept hg ?_
  rcases h.2 with ⟨e1, _⟩ | ⟨g, cap, cur, e1, hb, hgc, _⟩
  · left; rw [e1]; rfl
  · right
    intro e2
    rw [e1] at e2
    rcases hr g e2.symm with h9 | ⟨o, ho, hc⟩
    · omega
    · rw [hgc] at ho
      cases ho
      cases hc

theorem OwnEF.aside {B : Nat} {A C : World} {row : Option Nat} {v : Value} {es : List EnB} (h : OwnEF B A v es) (hg : A.grownBy C row) (hr : Aside B A row) : OwnEF B C v es := by
  obtain ⟨cs, h1, hj⟩ := h
  refine ⟨cs, row_aside h1 hg hr, fun j h => ?_⟩
  obtain ⟨x, y, c0, c1, c2, c3, ox, oy⟩ := hj j h
  exact ⟨x, y, c0, c1, c2, c3, ⟨rd_aside ox.1 ox.2.2 hg hr, ox.2⟩, ⟨rd_aside oy.1 oy.2.2 hg hr, oy.2⟩⟩

theorem OwnEF.set {B : Nat} {W : World} {v : Value} {es : List EnB} (h : OwnEF B W v es) {b : Nat} (hb : b < B) (u : Value) : OwnEF B (W.setCell ⟨b, 0, none⟩ u) v es :=
  h.aside (grownBy_setCell' W b u) (fun r e => by cases e; exact .inl hb)

theorem OwnEF.push {B g c n : Nat} {w w' : World} {v x y : Value} {es : List EnB} {cs : List Value} (o : EnB) (hl : es.length = n) (hrow : w.ownsRow B 38 4 v n cs)
    (hel : ∀ j (h : j < es.length), ∃ x y, cs[j * 4]? = some x ∧ cs[j * 4 + 1]? = some (.int .u64 (es[j].2.1 : Int)) ∧ cs[j * 4 + 2]? = some (.int .u8 (es[j].2.2.1.toNat : Int)) ∧ cs[j * 4 + 3]? = some y ∧ (Rd w x es[j].1 ∧ NeB x es[j].1 v ∧ From B x) ∧ (Rd w y es[j].2.2.2 ∧ NeB y es[j].2.2.2 v ∧ From B y))
    (hx : Rd w x o.1 ∧ NeB x o.1 v ∧ From B x) (hy : Rd w y o.2.2.2 ∧ NeB y o.2.2.2 v ∧ From B y) (hn : w'.ownsRow B 38 4 (.slice (some ⟨g, 0, none⟩) (n + 1) c) (n + 1) (cs ++ [x, .int .u64 (o.2.1 : Int), .int .u8 (o.2.2.1.toNat : Int), y])) (hg : w.grownBy w' v.ownBlock) (hat : v.ownBlock = some g ∨ g = w.heap.size) : OwnEF B w' (.slice (some ⟨g, 0, none⟩) (n + 1) c) (es ++ [o]) := by
  subst hl
  have hcl : cs.length = es.length * 4 := hrow.1
  refine ⟨_, by rw [List.length_append]; exact hn, fun j h => ?_⟩
  by_cases hj : j < es.length
  · obtain ⟨x', y', c0, c1, c2, c3, ox, oy⟩ := hel j hj
    refine ⟨x', y', ?_, ?_, ?_, ?_, ?_, ?_⟩
    · rw [List.getElem?_append_left (by omega)]; exact c0
    · rw [List.getElem?_append_left (by omega), List.getElem_append_left hj]; exact c1
    · rw [List.getElem?_append_left (by omega), List.getElem_append_left hj]; exact c2
    · rw [List.getElem?_append_left (by omega)]; exact c3
    · rw [List.getElem_append_left hj]; exact ⟨rd_grown ox.1 hg ox.2.1, neb_step ox.2.1 ox.1 hat, ox.2.2⟩
    · rw [List.getElem_append_left hj]; exact ⟨rd_grown oy.1 hg oy.2.1, neb_step oy.2.1 oy.1 hat, oy.2.2⟩
  · have hje : j = es.length := by rw [List.length_append] at h; simp at h; omega
    subst hje
    have e : (es ++ [o])[es.length]'h = o := by simp
    rw [e]
    refine ⟨x, y, ?_, ?_, ?_, ?_, ⟨rd_grown hx.1 hg hx.2.1, neb_step hx.2.1 hx.1 hat, hx.2.2⟩, ⟨rd_grown hy.1 hg hy.2.1, neb_step hy.2.1 hy.1 hat, hy.2.2⟩⟩
    · rw [List.getElem?_append_right (by omega), show es.length * 4 - cs.length = 0 by omega]; rfl
    · rw [List.getElem?_append_right (by omega), show es.length * 4 + 1 - cs.length = 1 by omega]; rfl
    · rw [List.getElem?_append_right (by omega), show es.length * 4 + 2 - cs.length = 2 by omega]; rfl
    · rw [List.getElem?_append_right (by omega), show es.length * 4 + 3 - cs.length = 3 by omega]; rfl

theorem step_append_in {F : Fence} {nF : Nat} {P : Program} (w : World) {ops : Array Oper} {o : Oper} {a : Act} {K : Act → World → Prop} {Q : Exit → Act → World → Prop} {E : Prop} (hgd : o.guard = none) (s x : Operand) (t : TypeId)
    (ho : o.op = .call { callee := .builtin .append, args := #[s, x], argTypes := #[t, t] })
    (base : Nat) (e : TypeId) (i : TypeInfo) (z : Value) (size bytes : Nat) (ht : P.underlying t = some (.slice e)) (hi : P.info? e = some i) (hz : i.zero = some z)
    (hsize : i.size = size) (hby : i.bytes = bytes) (hzs : z.cells.size = size) (hsz : 0 < size)
    (v : Value) (n : Nat) (xs : List Value) (hs : a.eval s = v) (hown : w.ownsRow base e size v n xs)
    (ad : Addr) (m c : Nat) (news : List Value) (hx : a.eval x = .slice (some ad) m c) (hl : news.length = m * size) (hnews : ∀ j u, news[j]? = some u → w.cell? (ad.add j) = some u) (h1 : ∀ u ∈ news, u.oneCell' = true)
    (hm : 0 < m) (h63 : n + m ≤ maxLen) (hbytes : (n + m) * bytes ≤ 140737488355328) (hbase : base ≤ w.heap.size) (H : Nat) (hH : w.heap.size = H)
    (h : ∀ g cap w', w'.ownsRow base e size (.slice (some ⟨g, 0, none⟩) (n + m) cap) (n + m) (xs ++ news) → w.grownBy w' v.ownBlock → (v.ownBlock = some g ∨ g = H) → g < w'.heap.size → K (a.put o.dst (.slice (some ⟨g, 0, none⟩) (n + m) cap)) w') :
    if Region.wanted o (yielded ops a.tmps) = true then Oper.wpIn F nF P o a w K Q else E := by
  have hw : Region.wanted o (yielded ops a.tmps) = true := by simp [Region.wanted, hgd]
  rw [if_pos hw]
  obtain ⟨g, cap, w', hr, h2, h3, h4, h5⟩ := run_append_lies (P := P) w t o.type base e i z size bytes ht hi hz hsize hby hzs hsz v n xs hown ad m c news hl hnews h1 hm h63 hbytes hbase H hH
  unfold Oper.wpIn
  refine ⟨by simp [Oper.about, ho, resolve, Target.leads, Sem.run_pure], ?_⟩
  rw [Oper.semAt_plain F _ _ (by rw [ho]; intro c hc'; cases hc')]
  simp [execOp, ho, resolve, invoke, builtin, hs, hx, hr, Result.andThen]
  exact h g cap w' h2 h3 h4 h5

theorem step_pushE {F : Fence} {nF : Nat} {ops : Array Oper} {o : Oper} {a : Act} {K : Act → World → Prop} {Q : Exit → Act → World → Prop} {E : Prop} (hgd : o.guard = none) (s x : Operand)
    (ho : o.op = .call { callee := .builtin .append, args := #[s, x], argTypes := #[28, 28] })
    {B m : Nat} {w2 : World} {va : Option Addr} {vc : Nat} {xa ya : Option Addr} {l1 xd l2 yd : Nat} {es : List EnB} (e : EnB) (hs : a.eval s = .slice va m vc) (hx : a.eval x = .slice (some ⟨w2.heap.size, 0, none⟩) 1 1)
    (hlen : es.length = m) (hO : OwnEF B (w2.alloc (.cells #[.slice xa l1 xd, .int .u64 (e.2.1 : Int), .int .u8 (e.2.2.1.toNat : Int), .slice ya l2 yd] 38)) (.slice va m vc) es)
    (rx : Rd w2 (.slice xa l1 xd) e.1 ∧ NeB (.slice xa l1 xd) e.1 (.slice va m vc) ∧ From B (.slice xa l1 xd)) (ry : Rd w2 (.slice ya l2 yd) e.2.2.2 ∧ NeB (.slice ya l2 yd) e.2.2.2 (.slice va m vc) ∧ From B (.slice ya l2 yd)) (hm : m ≤ 2000) (hB : B ≤ w2.heap.size)
    (h : ∀ g c4 w4, OwnEF B w4 (.slice (some ⟨g, 0, none⟩) (m + 1) c4) (es ++ [e]) → (w2.alloc (.cells #[.slice xa l1 xd, .int .u64 (e.2.1 : Int), .int .u8 (e.2.2.1.toNat : Int), .slice ya l2 yd] 38)).grownBy w4 (Value.slice va m vc).ownBlock → K (a.put o.dst (.slice (some ⟨g, 0, none⟩) (m + 1) c4)) w4) :
    if Region.wanted o (yielded ops a.tmps) = true then Oper.wpIn F nF Try.prog o a (w2.alloc (.cells #[.slice xa l1 xd, .int .u64 (e.2.1 : Int), .int .u8 (e.2.2.1.toNat : Int), .slice ya l2 yd] 38)) K Q else E := by
  obtain ⟨i0, hi, hz0, hz1, hz2⟩ := info_parts infoEn
  obtain ⟨cs, hrow, hel⟩ := hO
  rw [hlen] at hrow
  have hbe := below_box4 w2 (.cells #[.slice xa l1 xd, .int .u64 (e.2.1 : Int), .int .u8 (e.2.2.1.toNat : Int), .slice ya l2 yd] 38)
  refine step_append_in _ hgd s x 28 ho B 38 i0 (.agg #[.slice none 0 0, .int .u64 0, .int .u8 0, .slice none 0 0]) 4 64 Try.underlying28 hi hz0 hz1 hz2 rfl (by decide) (.slice va m vc) m cs hs hrow ⟨w2.heap.size, 0, none⟩ 1 1 [.slice xa l1 xd, .int .u64 (e.2.1 : Int), .int .u8 (e.2.2.1.toNat : Int), .slice ya l2 yd] hx rfl (laid4 w2 _ _ _ _ _) (oneE _ _ _ _ _ _ _ _) (by decide) (by simp only [maxLen]; omega) (by omega) (by simp; omega) _ rfl ?_
  intro g4 c4 w4 hown hgrow hat hlt4
  exact h g4 c4 w4 (OwnEF.push e hlen hrow hel ⟨rx.1.below hbe (Nat.le_refl _), rx.2⟩ ⟨ry.1.below hbe (Nat.le_refl _), ry.2⟩ hown hgrow hat) hgrow

/-- a round that put one more into the row -/
theorem push_round {n0 m s : Nat} {e : TypeId} {w W w2 w4 : World} {o : Obj} {v v4 : Value} {cs : List Value} (hBW : Below n0 w W) (hc : W.cell? ⟨n0, 0, none⟩ = some v) (hf : W.frozen? ⟨n0, 0, none⟩ = false)
    (hrow : (w2.alloc o).ownsRow (n0 + 3) e s v m cs) (hb2 : Below W.heap.size W w2) (h3 : n0 + 3 ≤ W.heap.size) (hg : (w2.alloc o).grownBy w4 v.ownBlock) (B0 : Nat) :
    w4.cell? ⟨n0, 0, none⟩ = some v ∧ w4.frozen? ⟨n0, 0, none⟩ = false ∧ KeepsFrom B0 W (w4.setCell ⟨n0, 0, none⟩ v4) ∧ KpR n0 (n0 + 1 + 1) W (w4.setCell ⟨n0, 0, none⟩ v4) ∧ Below n0 w (w4.setCell ⟨n0, 0, none⟩ v4) := by
  have h5 : Below W.heap.size W (w2.alloc o) := hb2.alloc hb2.size o
  have hlt : ∀ q, v.ownBlock = some q → n0 + 3 ≤ q ∧ q < (w2.alloc o).heap.size := fun q hq => hrow.lt q hq
  have hfar : ∀ k, k < n0 + 3 → some k ≠ v.ownBlock := fun k hk e => by have := (hlt k e.symm).1; omega
  have hcf : ∀ k i, k < n0 + 3 → ∀ u, W.cell? ⟨k, i, none⟩ = some u → w4.cell? ⟨k, i, none⟩ = some u := fun k i hk u hu => by
    rw [hg.cell_far ⟨k, i, none⟩ (by show k < _; have := h5.size; omega) (hfar k hk), h5.cell (p := ⟨k, i, none⟩) (by show k < _; omega)]
    exact hu
  have hB4 : Below n0 W w4 := (h5.mono (by omega)).grown hg (by have := h5.size; omega) (fun q hq => by have := (hlt q hq).1; omega)
  have hK : KeepsFrom B0 W w4 := by
    refine ⟨Nat.le_trans h5.size hg.size, fun k ob _ hk ho => ?_⟩
    have hkl := (Array.getElem?_eq_some_iff.1 hk).1
    have h9 := (h5.block k hkl).trans hk
    rw [hg.block k (Nat.lt_of_lt_of_le hkl h5.size) (fun e => ?_)]
    · exact h9
    · rcases hrow.2 with ⟨e1, _⟩ | ⟨g, cap, cur, e1, _, hgc, _⟩
      · rw [e1] at e; cases e
      · rw [e1] at e
        have e2 : k = g := by simpa [Value.ownBlock] using e
        subst e2
        rw [hgc] at h9
        cases h9
        cases ho
  refine ⟨hcf n0 0 (by omega) _ hc, ?_, hK.trans ((KeepsOthers.setCell _ _ _).from _), ⟨hB4.setCell (p := ⟨n0, 0, none⟩) (Nat.le_refl _) _, fun u hu => ?_⟩, (hBW.trans hB4).setCell (p := ⟨n0, 0, none⟩) (Nat.le_refl _) _⟩
  · rw [hg.frozen_far ⟨n0, 0, none⟩ (by show n0 < _; have := h5.size; omega) (hfar n0 (by omega)), h5.frozen (p := ⟨n0, 0, none⟩) (by show n0 < _; omega)]
    exact hf
  · rw [cell_other _ ⟨n0, 0, none⟩ ⟨n0 + 1 + 1, 0, none⟩ _ (by show n0 + 1 + 1 ≠ n0; omega)]
    exact hcf _ 0 (by omega) u hu

set_option maxRecDepth 100000 in
set_option maxHeartbeats 4000000 in
theorem skall_any (w : World) (l : Nat) (ts : List Tow) (hS : SkAt w l ts) (hL : LenT ts 1000) :
    Calls Try.prog 17 #[.pointer (some ⟨l, 0, none⟩)] w fun e w' => ∃ v, e = .returned v ∧ OwnEF (w.heap.size + 3) w' v (esT ts) ∧ Below w.heap.size w w' := by
  have HS : Hid (SkAt w l ts) := hS
  have c0 := cell_new_l w (.slice none 0 0) 28
  have hB1 : Below w.heap.size w (w.alloc (.cells #[.slice none 0 0] 28)) := (Below.refl _ w).alloc (Nat.le_refl _) _
  have hrw := skrow_any (w.alloc (.cells #[.slice none 0 0] 28)) (some ⟨l, 0, none⟩) 1
  have hs1 : (w.alloc (.cells #[.slice none 0 0] 28)).heap.size = w.heap.size + 1 := by simp
  rw [hs1] at hrw
  have c1 := cell_new_l (w.alloc (.cells #[.slice none 0 0] 28)) (.pointer (some ⟨l, 0, none⟩)) 25
  have c2 := cell_new_l ((w.alloc (.cells #[.slice none 0 0] 28)).alloc (.cells #[.pointer (some ⟨l, 0, none⟩)] 25)) (.int .i64 1) 3
  have d0 := cell_alloc_l (.cells #[.int .i64 1] 3) (cell_alloc_l (.cells #[.pointer (some ⟨l, 0, none⟩)] 25) c0.1)
  have d0f := frozen_alloc_l (.cells #[.int .i64 1] 3) (cell_alloc_l (.cells #[.pointer (some ⟨l, 0, none⟩)] 25) c0.1) (frozen_alloc_l (.cells #[.pointer (some ⟨l, 0, none⟩)] 25) c0.1 c0.2)
  have d1 := cell_alloc_l (.cells #[.int .i64 1] 3) c1.1
  have hB3 : Below w.heap.size w (((w.alloc (.cells #[.slice none 0 0] 28)).alloc (.cells #[.pointer (some ⟨l, 0, none⟩)] 25)).alloc (.cells #[.int .i64 1] 3)) := (hB1.alloc hB1.size _).alloc (hB1.alloc hB1.size _).size _
  simp only [World.size_alloc] at c1 c2 d1
  have hz3 : (((w.alloc (.cells #[.slice none 0 0] 28)).alloc (.cells #[.pointer (some ⟨l, 0, none⟩)] 25)).alloc (.cells #[.int .i64 1] 3)).heap.size = w.heap.size + 3 := by simp
  have hlen := hS.len
  refine (callsIn_wide (n := 4)).1 ?_
  refine callsIn_of_wp_marks Try.func17 rfl trivial ?_ rfl
  simp only [Try.ntmps17, List.size_toArray, List.length_cons, List.length_nil, Nat.reduceAdd, Nat.reduceSub, Array.replicate_succ, Array.replicate_zero, List.push_toArray, List.append_toArray, List.nil_append, List.cons_append]
  gi_wp2_with fail
  refine ⟨trivial, ?_⟩
  refine (callsIn_wide.2 hrw).mono ?_
  rintro e w3 ⟨rfl, hw3⟩
  rw [← hw3] at c2 d0 d0f d1 hB3 hz3
  clear hw3 c0 c1 hB1 hrw hs1
  have HB3 : Hid (Below w.heap.size w w3) := hB3
  have HL : Hid (LenT ts 1000) := hL
  clear hL
  gi_wp2_with fail
  refine wpIn_rangeFunc_ownH rfl (by omega) (gf := 47) (lb := #[.pointer (some ⟨w.heap.size + 1, 0, none⟩), .pointer (some ⟨w.heap.size + 1 + 1, 0, none⟩)]) rfl trivial (enters_of Try.func47 (by kernel_rfl) rfl)
    (row_stops 3 (by omega) w w3 l 1 0 _ _ ts HS.out hB3 rfl (by omega) d1 c2.1) kpR_t (kpR_b (by omega)) (Below.refl _ _) (fun _ => rfl)
    (fun (pre : List {t : Tow // t ∈ ts}) W => ∃ va vc, (W.cell? ⟨w.heap.size, 0, none⟩ = some (.slice va pre.length vc) ∧ W.frozen? ⟨w.heap.size, 0, none⟩ = false) ∧ OwnEF (w.heap.size + 3) W (.slice va pre.length vc) (esT (pre.map (·.1))) ∧ Below w.heap.size w W)
    (fun c (pre : List {t : Tow // t ∈ ts}) W => False)
    (fun s A B row hs hg hr => by
      obtain ⟨va, vc, ⟨h1, h2⟩, h3, h4⟩ := hs
      exact ⟨va, vc, ⟨cell_kept h1 hg (fun r e => (hr r e).2), (frozen_kept h1 hg (fun r e => (hr r e).2)).trans h2⟩, h3.aside hg (fun r e => .inr (hr r e).2), h4.grown hg h4.size (fun r e => by have := (hr r e).1; omega)⟩)
    (fun c s A B row hs hg hr => hs)
    ⟨none, 0, ⟨d0, d0f⟩, OwnEF.nil _ _, hB3⟩
    (fun (x : {t : Tow // t ∈ ts}) a' W => ∃ Bx, w.heap.size < Bx ∧ Box4 W Bx x.1.x (.int .u64 (x.1.e.2.1 : Int)) (.int .u8 (x.1.e.2.2.1.toNat : Int)) x.1.y ∧ a' = { tmps := #[.pointer (some ⟨l, 0, none⟩), undef, .slice none 0 0, .pointer (some ⟨w.heap.size, 0, none⟩), .pointer (some ⟨Bx, 0, none⟩), .pointer (some ⟨l, 0, none⟩), .func (.func 47) #[] #[.pointer (some ⟨w.heap.size + 1, 0, none⟩), .pointer (some ⟨w.heap.size + 1 + 1, 0, none⟩)], enV x.1.x (x.1.e.2.1 : Int) (x.1.e.2.2.1.toNat : Int) x.1.y, undef, undef, undef, undef, undef, undef], defers := [] })
    (fun x a' _ X Y row hs hg hr => by
      obtain ⟨Bx, h1, h2, h3⟩ := hs
      exact ⟨Bx, h1, ⟨cell_kept h2.c0 hg (fun r e => (hr r e).2), cell_kept h2.c1 hg (fun r e => (hr r e).2), cell_kept h2.c2 hg (fun r e => (hr r e).2), cell_kept h2.c3 hg (fun r e => (hr r e).2)⟩, h3⟩)
    ?assign ?body ?done ?stop
  case assign =>
    rintro l pre x W K ⟨va, vc, ⟨hc, hf⟩, hO, hBW⟩ hK
    have hent := HS.out.ent x.1 x.2
    obtain ⟨x1, xc, ex⟩ := hent.rx.len
    obtain ⟨y1, yc, ey⟩ := hent.ry.len
    have HX : Hid (x.1.x = .slice x1 x.1.e.1.length xc) := ex
    have HY : Hid (x.1.y = .slice y1 x.1.e.2.2.2.length yc) := ey
    have HK : Hid _ := hK
    rw [ex, ey]
    clear hent ex ey hK
    simp only [enV]
    gi_wp2
    refine HK.out _ _ ((KeepsOthers.alloc _ _).from _) (kpR_alloc hBW.size _) ⟨va, vc, ⟨cell_alloc_l _ hc, frozen_alloc_l _ hc hf⟩, hO.below (below_box4 W _) (Nat.le_refl _), hBW.alloc hBW.size _⟩ ⟨W.heap.size, World.block_lt_of_cell? _ _ hc, ?_, ?_⟩
    · rw [HX.out, HY.out]
      exact box4_new W _ _ _ _ _
    · rw [HX.out, HY.out]
  case body =>
    rintro l pre x a' W hl hlr ⟨va, vc, ⟨hc, hf⟩, hO, hBW⟩ ⟨Bx, hBx, ⟨b0, b1, b2, b3⟩, rfl⟩ hpl
    have hxl := HL.out x.1 x.2
    have hent := (HS.out.below hBW).ent x.1 x.2
    obtain ⟨x1, xc, ex⟩ := hent.rx.len
    obtain ⟨y1, yc, ey⟩ := hent.ry.len
    have rx := hent.rx
    have ry := hent.ry
    rw [ex] at b0 rx
    rw [ey] at b3 ry
    have HSN : Hid (esT ((pre ++ [x]).map (·.1)) = esT (pre.map (·.1)) ++ [x.1.e]) := by show _ = _; simp [esT]
    rw [ex, ey]
    clear ex ey hent
    obtain ⟨⟨eu, es, ek, ev⟩, he⟩ : ∃ e, x.1.e = e := ⟨_, rfl⟩
    rw [he] at HSN b0 b1 b2 b3 rx ry hxl
    rw [he]
    simp only at b0 b1 b2 b3 rx ry hxl ⊢
    have hap := skapart_any W.drew _ _ _ _ (es : Int) (ek.toNat : Int) rx.drew ry.drew (by omega) (by omega)
    obtain ⟨n1, hn1⟩ : ∃ n, eu.length = n := ⟨_, rfl⟩
    obtain ⟨n2, hn2⟩ : ∃ n, ev.length = n := ⟨_, rfl⟩
    rw [hn1, hn2] at hap
    rw [hn1] at b0
    rw [hn2] at b3
    rw [hn1, hn2]
    clear rx ry hxl hn1 hn2 he
    simp only [enV] at hap ⊢
    have hfo : Try.prog.follows .mixedOrders = true := by kernel_rfl
    gi_wp2_with fail
    have HAP : Hid _ := hap
    have HF : Hid (W.frozen? ⟨w.heap.size, 0, none⟩ = false) := hf
    have HC : Hid (W.cell? ⟨w.heap.size, 0, none⟩ = some (.slice va pre.length vc)) := hc
    have HBW : Hid (Below w.heap.size w W) := hBW
    have HO : Hid (OwnEF (w.heap.size + 3) W (.slice va pre.length vc) (esT (pre.map (·.1)))) := hO
    have HLEN : Hid ((esT (pre.map (·.1))).length = pre.length) := by show _ = _; rw [esT_len, List.length_map]
    have HLN : Hid ((pre ++ [x]).length = pre.length + 1) := by show _ = _; simp
    have HMX : Hid (pre.length ≤ 2000) := by show _ ≤ _; omega
    have H3 : Hid (w.heap.size + 3 ≤ W.heap.size) := by
      show _ ≤ _
      obtain ⟨r, hr⟩ := hlr
      have := (Array.getElem?_eq_some_iff.1 hr).1
      omega
    have HLOW : Hid (∀ q, (Value.slice va pre.length vc).ownBlock = some q → q < W.heap.size + 2) := by
      obtain ⟨cs, hrow, _⟩ := hO
      exact fun q hq => by have := (hrow.lt q hq).2; omega
    clear hap hBW hO hlr
    refine wpIn_region_any (by assumption) ?_
    try (change wpAnyIn _ _ _ _ _ _ _ _ _ (World.drew _))
    refine wpAnyIn_ready (rs := [0, 1]) (by kernel_rfl) (by simp) ?_
    refine AllReadyIn.cons rfl (fun K hK => ?_) ?_
    · go_simp
      refine hK _ _ ?_
      clear hK K
      refine wpAnyIn_ready (rs := [1]) (by kernel_rfl) (by simp) ?_
      refine AllReadyIn.cons rfl (fun K hK => ?_) AllReadyIn.nil
      go_simp
      refine hK _ _ ?_
      clear hK K
      refine wpAnyIn_ready (rs := [2]) (by kernel_rfl) (by simp) ?_
      refine AllReadyIn.cons rfl (fun K hK => ?_) AllReadyIn.nil
      go_simp
      refine ⟨trivial, ?_⟩
      gi_at_call 34
      refine (CallsIn.inRound l (callsIn_wide.2 HAP.out)).mono ?_
      rintro e w2 ⟨xv, yv, rfl, rx, ry, hlb, hb2⟩
      obtain ⟨xa, xd, rfl⟩ := rx.1.len
      obtain ⟨ya, yd, rfl⟩ := ry.1.len
      obtain ⟨l1, hl1⟩ : ∃ n, eu.length = n := ⟨_, rfl⟩
      obtain ⟨l2, hl2⟩ : ∃ n, ev.length = n := ⟨_, rfl⟩
      rw [hl1] at rx hlb ⊢
      rw [hl2] at ry hlb ⊢
      have hcz : w2.cell? ⟨w.heap.size, 0, none⟩ = some (.slice va pre.length vc) := (hb2.cell (p := ⟨w.heap.size, 0, none⟩) (World.block_lt_of_cell? _ _ HC.out)).trans HC.out
      have hfz : w2.frozen? ⟨w.heap.size, 0, none⟩ = false := (hb2.frozen (p := ⟨w.heap.size, 0, none⟩) (World.block_lt_of_cell? _ _ HC.out)).trans HF.out
      have HRX : Hid _ := rx
      have HRY : Hid _ := ry
      have HLB : Hid _ := hlb
      have HB2 : Hid _ := hb2
      clear rx ry hlb hb2 hl1 hl2 hc hf
      refine hK _ _ ?_
      clear hK K
      refine wpAnyIn_ready (rs := [3]) (by kernel_rfl) (by simp) ?_
      refine AllReadyIn.cons rfl (fun K hK => ?_) AllReadyIn.nil
      go_simp
      refine hK _ _ ?_
      clear hK K
      refine wpAnyIn_ready (rs := [4]) (by kernel_rfl) (by simp) ?_
      refine AllReadyIn.cons rfl (fun K hK => ?_) AllReadyIn.nil
      have hb2 : Below W.heap.size W w2 := ⟨HB2.out.os, HB2.out.tape, HB2.out.output, HB2.out.size, HB2.out.block⟩
      have hO5 := (HO.out.below hb2 (Nat.le_refl _)).below (below_box4 w2 (.cells #[.slice xa l1 xd, .int .u64 (es : Int), .int .u8 (ek.toNat : Int), .slice ya l2 yd] 38)) (Nat.le_refl _)
      have h3 := H3.out
      have hs2 := hb2.size
      refine step_pushE rfl (.tmp 8) (.tmp 11) rfl (eu, es, ek, ev) rfl rfl HLEN.out hO5 ⟨HRX.out.1, neb_of HRX.out.2 HLOW.out HRX.out.1, fun a n c e => by have h9 := HRX.out.2 a n c e; have h8 : W.drew.heap.size = W.heap.size := rfl; omega⟩ ⟨HRY.out.1, neb_of HRY.out.2 HLOW.out HRY.out.1, fun a n c e => by have h9 := HRY.out.2 a n c e; have h8 : W.drew.heap.size = W.heap.size := rfl; omega⟩ HMX.out (by omega) ?_
      intro g4 c4 w4 hO4 hgr
      obtain ⟨cs5, hrow5, _⟩ := hO5
      obtain ⟨hc4, hf4, hK4, hP4, hB4⟩ := push_round (v4 := .slice (some ⟨g4, 0, none⟩) (pre.length + 1) c4) HBW.out HC.out HF.out hrow5 hb2 h3 hgr w3.heap.size
      have HK4 : Hid _ := hK4
      have HP4 : Hid _ := hP4
      have HB4 : Hid _ := hB4
      have HO4 : Hid _ := hO4
      clear hK4 hP4 hB4 hO4 hgr hrow5 h3 hs2 hb2
      refine hK _ _ ?_
      clear hK K
      refine wpAnyIn_ready (rs := [5]) (by kernel_rfl) (by simp) ?_
      refine AllReadyIn.cons rfl (fun K hK => ?_) AllReadyIn.nil
      go_simp
      refine hK _ _ ?_
      clear hK K
      refine wpAnyIn_done (by kernel_rfl) ?_ _
      refine ⟨HK4.out, HP4.out, some ⟨g4, 0, none⟩, c4, ?_⟩
      rw [HLN.out, HSN.out]
      exact ⟨⟨World.cell?_setCell_same' _ _ _ (by rw [hc4]; rfl), by simpa [World.frozen?_setCell] using hf4⟩, OwnEF.set HO4.out (by omega) _, HB4.out⟩
    refine AllReadyIn.cons rfl (fun K hK => ?_) AllReadyIn.nil
    go_simp
    refine hK _ _ ?_
    clear hK K
    refine wpAnyIn_ready (rs := [0, 2]) (by kernel_rfl) (by simp) ?_
    refine AllReadyIn.cons rfl (fun K hK => ?_) ?_
    · go_simp
      refine hK _ _ ?_
      clear hK K
      refine wpAnyIn_ready (rs := [2]) (by kernel_rfl) (by simp) ?_
      refine AllReadyIn.cons rfl (fun K hK => ?_) AllReadyIn.nil
      go_simp
      refine ⟨trivial, ?_⟩
      gi_at_call 34
      refine (CallsIn.inRound l (callsIn_wide.2 HAP.out)).mono ?_
      rintro e w2 ⟨xv, yv, rfl, rx, ry, hlb, hb2⟩
      obtain ⟨xa, xd, rfl⟩ := rx.1.len
      obtain ⟨ya, yd, rfl⟩ := ry.1.len
      obtain ⟨l1, hl1⟩ : ∃ n, eu.length = n := ⟨_, rfl⟩
      obtain ⟨l2, hl2⟩ : ∃ n, ev.length = n := ⟨_, rfl⟩
      rw [hl1] at rx hlb ⊢
      rw [hl2] at ry hlb ⊢
      have hcz : w2.cell? ⟨w.heap.size, 0, none⟩ = some (.slice va pre.length vc) := (hb2.cell (p := ⟨w.heap.size, 0, none⟩) (World.block_lt_of_cell? _ _ HC.out)).trans HC.out
      have hfz : w2.frozen? ⟨w.heap.size, 0, none⟩ = false := (hb2.frozen (p := ⟨w.heap.size, 0, none⟩) (World.block_lt_of_cell? _ _ HC.out)).trans HF.out
      have HRX : Hid _ := rx
      have HRY : Hid _ := ry
      have HLB : Hid _ := hlb
      have HB2 : Hid _ := hb2
      clear rx ry hlb hb2 hl1 hl2 hc hf
      refine hK _ _ ?_
      clear hK K
      refine wpAnyIn_ready (rs := [3]) (by kernel_rfl) (by simp) ?_
      refine AllReadyIn.cons rfl (fun K hK => ?_) AllReadyIn.nil
      go_simp
      refine hK _ _ ?_
      clear hK K
      refine wpAnyIn_ready (rs := [4]) (by kernel_rfl) (by simp) ?_
      refine AllReadyIn.cons rfl (fun K hK => ?_) AllReadyIn.nil
      have hb2 : Below W.heap.size W w2 := ⟨HB2.out.os, HB2.out.tape, HB2.out.output, HB2.out.size, HB2.out.block⟩
      have hO5 := (HO.out.below hb2 (Nat.le_refl _)).below (below_box4 w2 (.cells #[.slice xa l1 xd, .int .u64 (es : Int), .int .u8 (ek.toNat : Int), .slice ya l2 yd] 38)) (Nat.le_refl _)
      have h3 := H3.out
      have hs2 := hb2.size
      refine step_pushE rfl (.tmp 8) (.tmp 11) rfl (eu, es, ek, ev) rfl rfl HLEN.out hO5 ⟨HRX.out.1, neb_of HRX.out.2 HLOW.out HRX.out.1, fun a n c e => by have h9 := HRX.out.2 a n c e; have h8 : W.drew.heap.size = W.heap.size := rfl; omega⟩ ⟨HRY.out.1, neb_of HRY.out.2 HLOW.out HRY.out.1, fun a n c e => by have h9 := HRY.out.2 a n c e; have h8 : W.drew.heap.size = W.heap.size := rfl; omega⟩ HMX.out (by omega) ?_
      intro g4 c4 w4 hO4 hgr
      obtain ⟨cs5, hrow5, _⟩ := hO5
      obtain ⟨hc4, hf4, hK4, hP4, hB4⟩ := push_round (v4 := .slice (some ⟨g4, 0, none⟩) (pre.length + 1) c4) HBW.out HC.out HF.out hrow5 hb2 h3 hgr w3.heap.size
      have HK4 : Hid _ := hK4
      have HP4 : Hid _ := hP4
      have HB4 : Hid _ := hB4
      have HO4 : Hid _ := hO4
      clear hK4 hP4 hB4 hO4 hgr hrow5 h3 hs2 hb2
      refine hK _ _ ?_
      clear hK K
      refine wpAnyIn_ready (rs := [5]) (by kernel_rfl) (by simp) ?_
      refine AllReadyIn.cons rfl (fun K hK => ?_) AllReadyIn.nil
      go_simp
      refine hK _ _ ?_
      clear hK K
      refine wpAnyIn_done (by kernel_rfl) ?_ _
      refine ⟨HK4.out, HP4.out, some ⟨g4, 0, none⟩, c4, ?_⟩
      rw [HLN.out, HSN.out]
      exact ⟨⟨World.cell?_setCell_same' _ _ _ (by rw [hc4]; rfl), by simpa [World.frozen?_setCell] using hf4⟩, OwnEF.set HO4.out (by omega) _, HB4.out⟩
    refine AllReadyIn.cons rfl (fun K hK => ?_) AllReadyIn.nil
    go_simp
    refine ⟨trivial, ?_⟩
    gi_at_call 34
    refine (CallsIn.inRound l (callsIn_wide.2 HAP.out)).mono ?_
    rintro e w2 ⟨xv, yv, rfl, rx, ry, hlb, hb2⟩
    obtain ⟨xa, xd, rfl⟩ := rx.1.len
    obtain ⟨ya, yd, rfl⟩ := ry.1.len
    obtain ⟨l1, hl1⟩ : ∃ n, eu.length = n := ⟨_, rfl⟩
    obtain ⟨l2, hl2⟩ : ∃ n, ev.length = n := ⟨_, rfl⟩
    rw [hl1] at rx hlb ⊢
    rw [hl2] at ry hlb ⊢
    have hcz : w2.cell? ⟨w.heap.size, 0, none⟩ = some (.slice va pre.length vc) := (hb2.cell (p := ⟨w.heap.size, 0, none⟩) (World.block_lt_of_cell? _ _ HC.out)).trans HC.out
    have hfz : w2.frozen? ⟨w.heap.size, 0, none⟩ = false := (hb2.frozen (p := ⟨w.heap.size, 0, none⟩) (World.block_lt_of_cell? _ _ HC.out)).trans HF.out
    have HRX : Hid _ := rx
    have HRY : Hid _ := ry
    have HLB : Hid _ := hlb
    have HB2 : Hid _ := hb2
    clear rx ry hlb hb2 hl1 hl2 hc hf
    refine hK _ _ ?_
    clear hK K
    refine wpAnyIn_ready (rs := [0, 3]) (by kernel_rfl) (by simp) ?_
    refine AllReadyIn.cons rfl (fun K hK => ?_) ?_
    · go_simp
      refine hK _ _ ?_
      clear hK K
      refine wpAnyIn_ready (rs := [3]) (by kernel_rfl) (by simp) ?_
      refine AllReadyIn.cons rfl (fun K hK => ?_) AllReadyIn.nil
      go_simp
      refine hK _ _ ?_
      clear hK K
      refine wpAnyIn_ready (rs := [4]) (by kernel_rfl) (by simp) ?_
      refine AllReadyIn.cons rfl (fun K hK => ?_) AllReadyIn.nil
      have hb2 : Below W.heap.size W w2 := ⟨HB2.out.os, HB2.out.tape, HB2.out.output, HB2.out.size, HB2.out.block⟩
      have hO5 := (HO.out.below hb2 (Nat.le_refl _)).below (below_box4 w2 (.cells #[.slice xa l1 xd, .int .u64 (es : Int), .int .u8 (ek.toNat : Int), .slice ya l2 yd] 38)) (Nat.le_refl _)
      have h3 := H3.out
      have hs2 := hb2.size
      refine step_pushE rfl (.tmp 8) (.tmp 11) rfl (eu, es, ek, ev) rfl rfl HLEN.out hO5 ⟨HRX.out.1, neb_of HRX.out.2 HLOW.out HRX.out.1, fun a n c e => by have h9 := HRX.out.2 a n c e; have h8 : W.drew.heap.size = W.heap.size := rfl; omega⟩ ⟨HRY.out.1, neb_of HRY.out.2 HLOW.out HRY.out.1, fun a n c e => by have h9 := HRY.out.2 a n c e; have h8 : W.drew.heap.size = W.heap.size := rfl; omega⟩ HMX.out (by omega) ?_
      intro g4 c4 w4 hO4 hgr
      obtain ⟨cs5, hrow5, _⟩ := hO5
      obtain ⟨hc4, hf4, hK4, hP4, hB4⟩ := push_round (v4 := .slice (some ⟨g4, 0, none⟩) (pre.length + 1) c4) HBW.out HC.out HF.out hrow5 hb2 h3 hgr w3.heap.size
      have HK4 : Hid _ := hK4
      have HP4 : Hid _ := hP4
      have HB4 : Hid _ := hB4
      have HO4 : Hid _ := hO4
      clear hK4 hP4 hB4 hO4 hgr hrow5 h3 hs2 hb2
      refine hK _ _ ?_
      clear hK K
      refine wpAnyIn_ready (rs := [5]) (by kernel_rfl) (by simp) ?_
      refine AllReadyIn.cons rfl (fun K hK => ?_) AllReadyIn.nil
      go_simp
      refine hK _ _ ?_
      clear hK K
      refine wpAnyIn_done (by kernel_rfl) ?_ _
      refine ⟨HK4.out, HP4.out, some ⟨g4, 0, none⟩, c4, ?_⟩
      rw [HLN.out, HSN.out]
      exact ⟨⟨World.cell?_setCell_same' _ _ _ (by rw [hc4]; rfl), by simpa [World.frozen?_setCell] using hf4⟩, OwnEF.set HO4.out (by omega) _, HB4.out⟩
    refine AllReadyIn.cons rfl (fun K hK => ?_) AllReadyIn.nil
    go_simp
    refine hK _ _ ?_
    clear hK K
    · have hcy := cell_alloc_l (.cells #[.slice xa l1 xd, .int .u64 (es : Int), .int .u8 (ek.toNat : Int), .slice ya l2 yd] 38) hcz
      refine wpAnyIn_ready (rs := [0]) (by kernel_rfl) (by simp) ?_
      refine AllReadyIn.cons rfl (fun K hK => ?_) AllReadyIn.nil
      go_simp
      refine hK _ _ ?_
      clear hK K
      refine wpAnyIn_ready (rs := [4]) (by kernel_rfl) (by simp) ?_
      refine AllReadyIn.cons rfl (fun K hK => ?_) AllReadyIn.nil
      have hb2 : Below W.heap.size W w2 := ⟨HB2.out.os, HB2.out.tape, HB2.out.output, HB2.out.size, HB2.out.block⟩
      have hO5 := (HO.out.below hb2 (Nat.le_refl _)).below (below_box4 w2 (.cells #[.slice xa l1 xd, .int .u64 (es : Int), .int .u8 (ek.toNat : Int), .slice ya l2 yd] 38)) (Nat.le_refl _)
      have h3 := H3.out
      have hs2 := hb2.size
      refine step_pushE rfl (.tmp 8) (.tmp 11) rfl (eu, es, ek, ev) rfl rfl HLEN.out hO5 ⟨HRX.out.1, neb_of HRX.out.2 HLOW.out HRX.out.1, fun a n c e => by have h9 := HRX.out.2 a n c e; have h8 : W.drew.heap.size = W.heap.size := rfl; omega⟩ ⟨HRY.out.1, neb_of HRY.out.2 HLOW.out HRY.out.1, fun a n c e => by have h9 := HRY.out.2 a n c e; have h8 : W.drew.heap.size = W.heap.size := rfl; omega⟩ HMX.out (by omega) ?_
      intro g4 c4 w4 hO4 hgr
      obtain ⟨cs5, hrow5, _⟩ := hO5
      obtain ⟨hc4, hf4, hK4, hP4, hB4⟩ := push_round (v4 := .slice (some ⟨g4, 0, none⟩) (pre.length + 1) c4) HBW.out HC.out HF.out hrow5 hb2 h3 hgr w3.heap.size
      have HK4 : Hid _ := hK4
      have HP4 : Hid _ := hP4
      have HB4 : Hid _ := hB4
      have HO4 : Hid _ := hO4
      clear hK4 hP4 hB4 hO4 hgr hrow5 h3 hs2 hb2
      refine hK _ _ ?_
      clear hK K
      refine wpAnyIn_ready (rs := [5]) (by kernel_rfl) (by simp) ?_
      refine AllReadyIn.cons rfl (fun K hK => ?_) AllReadyIn.nil
      go_simp
      refine hK _ _ ?_
      clear hK K
      refine wpAnyIn_done (by kernel_rfl) ?_ _
      refine ⟨HK4.out, HP4.out, some ⟨g4, 0, none⟩, c4, ?_⟩
      rw [HLN.out, HSN.out]
      exact ⟨⟨World.cell?_setCell_same' _ _ _ (by rw [hc4]; rfl), by simpa [World.frozen?_setCell] using hf4⟩, OwnEF.set HO4.out (by omega) _, HB4.out⟩
  case done =>
    rintro D ys W hD hys ⟨va, vc, ⟨hc, hf⟩, hO, hBW⟩ hK
    rw [row_low HS.out.ht] at hys
    have hyl : ys.length = ts.length := by have := congrArg List.length hys; rwa [List.length_map] at this
    rw [hyl] at hc hO
    rw [hys] at hO
    have HO : Hid (OwnEF (w.heap.size + 3) W (.slice va ts.length vc) (esT ts)) := hO
    clear hO
    gi_wp2
    refine ⟨by simp, .inl ⟨_, _, rfl, run_takeDeferred hK, ?_⟩⟩
    refine ⟨.slice va ts.length vc, ?_, ⟨_, rfl, HO.out.aside (grownBy_putObj' _ D (.deferred none)) (fun r e => by cases e; exact .inr ⟨_, hK, rfl⟩), hBW.trans (belowK_b (w := w) (Nat.le_refl _) _ D _ _ (by omega) hK rfl rfl)⟩⟩
    simp [results, Try.f17, go_sem]
  case stop =>
    rintro D c pre W hD hpre hF hK
    exact hF.elim

end Go.Proofs.Ytekmlbbfipldoaa

/- (*skip.List).Row. -/
namespace Go.Proofs.Ytekmlbbfipldoaa
open Go.RowKit Go.Shelf
set_option linter.unusedVariables false

attribute [local go_sem] Oper.semAt_some

/-- a version: User, Seq, Kind -/
abbrev KyT := List UInt8 × Nat × UInt8
def kyE (e : EnB) : KyT := (e.1, e.2.1, e.2.2.1)
def ksT (ts : List Tow) : List KyT := ts.map (fun t => kyE t.e)

/-- versions in a row of one's own; what they hold lies from block B on, elsewhere -/
def OwnKF (B : Nat) (w : World) (v : Value) (ks : List KyT) : Prop :=
  ∃ cs, w.ownsRow B 36 3 v ks.length cs ∧ ∀ j (h : j < ks.length), ∃ x, cs[j * 3]? = some x ∧ cs[j * 3 + 1]? = some (.int .u64 (ks[j].2.1 : Int)) ∧ cs[j * 3 + 2]? = some (.int .u8 (ks[j].2.2.toNat : Int)) ∧ (Rd w x ks[j].1 ∧ NeB x ks[j].1 v ∧ From B x)

theorem OwnKF.nil (B : Nat) (w : World) : OwnKF B w (.slice none 0 0) [] := ⟨[], World.ownsRow_nil _ _ _ _, fun _ h => absurd h (Nat.not_lt_zero _)⟩

theorem OwnKF.below {B C : Nat} {w w' : World} {v : Value} {es : List KyT} (h : OwnKF B w v es) (hb : Below C w w') (hC : w.heap.size ≤ C) : OwnKF B w' v es := by
  obtain ⟨cs, hr, hj⟩ := h
  have hb' : Below w.heap.size w w' := ⟨hb.os, hb.tape, hb.output, hb.size, fun i hi => hb.block i (Nat.lt_of_lt_of_le hi hC)⟩
  refine ⟨cs, row_below hr hb', fun j h => ?_⟩
  obtain ⟨x, c0, c1, c2, ox⟩ := hj j h
  exact ⟨x, c0, c1, c2, ⟨ox.1.below hb hC, ox.2⟩⟩

theorem OwnKF.aside {B : Nat} {A C : World} {row : Option Nat} {v : Value} {es : List KyT} (h : OwnKF B A v es) (hg : A.grownBy C row) (hr : Aside B A row) : OwnKF B C v es := by
  obtain ⟨cs, h1, hj⟩ := h
  refine ⟨cs, row_aside h1 hg hr, fun j h => ?_⟩
  obtain ⟨x, c0, c1, c2, ox⟩ := hj j h
  exact ⟨x, c0, c1, c2, ⟨rd_aside ox.1 ox.2.2 hg hr, ox.2⟩⟩

theorem OwnKF.set {B : Nat} {W : World} {v : Value} {es : List KyT} (h : OwnKF B W v es) {b : Nat} (hb : b < B) (u : Value) : OwnKF B (W.setCell ⟨b, 0, none⟩ u) v es :=
  h.aside (grownBy_setCell' W b u) (fun r e => by cases e; exact .inl hb)

theorem OwnKF.push {B g c n : Nat} {w w' : World} {v x : Value} {es : List KyT} {cs : List Value} (o : KyT) (hl : es.length = n) (hrow : w.ownsRow B 36 3 v n cs)
    (hel : ∀ j (h : j < es.length), ∃ x, cs[j * 3]? = some x ∧ cs[j * 3 + 1]? = some (.int .u64 (es[j].2.1 : Int)) ∧ cs[j * 3 + 2]? = some (.int .u8 (es[j].2.2.toNat : Int)) ∧ (Rd w x es[j].1 ∧ NeB x es[j].1 v ∧ From B x))
    (hx : Rd w x o.1 ∧ NeB x o.1 v ∧ From B x) (hn : w'.ownsRow B 36 3 (.slice (some ⟨g, 0, none⟩) (n + 1) c) (n + 1) (cs ++ [x, .int .u64 (o.2.1 : Int), .int .u8 (o.2.2.toNat : Int)])) (hg : w.grownBy w' v.ownBlock) (hat : v.ownBlock = some g ∨ g = w.heap.size) : OwnKF B w' (.slice (some ⟨g, 0, none⟩) (n + 1) c) (es ++ [o]) := by
  subst hl
  have hcl : cs.length = es.length * 3 := hrow.1
  refine ⟨_, by rw [List.length_append]; exact hn, fun j h => ?_⟩
  by_cases hj : j < es.length
  · obtain ⟨x', c0, c1, c2, ox⟩ := hel j hj
    refine ⟨x', ?_, ?_, ?_, ?_⟩
    · rw [List.getElem?_append_left (by omega)]; exact c0
    · rw [List.getElem?_append_left (by omega), List.getElem_append_left hj]; exact c1
    · rw [List.getElem?_append_left (by omega), List.getElem_append_left hj]; exact c2
    · rw [List.getElem_append_left hj]; exact ⟨rd_grown ox.1 hg ox.2.1, neb_step ox.2.1 ox.1 hat, ox.2.2⟩
  · have hje : j = es.length := by rw [List.length_append] at h; simp at h; omega
    subst hje
    have e : (es ++ [o])[es.length]'h = o := by simp
    rw [e]
    refine ⟨x, ?_, ?_, ?_, ⟨rd_grown hx.1 hg hx.2.1, neb_step hx.2.1 hx.1 hat, hx.2.2⟩⟩
    · rw [List.getElem?_append_right (by omega), show es.length * 3 - cs.length = 0 by omega]; rfl
    · rw [List.getElem?_append_right (by omega), show es.length * 3 + 1 - cs.length = 1 by omega]; rfl
    · rw [List.getElem?_append_right (by omega), show es.length * 3 + 2 - cs.length = 2 by omega]; rfl

theorem infoKyT : (Try.prog.info? 36).map (fun i => (i.zero, i.size, i.bytes)) = some (some (.agg #[.slice none 0 0, .int .u64 0, .int .u8 0]), 3, 40) := by kernel_rfl

theorem step_pushK {F : Fence} {nF : Nat} {ops : Array Oper} {o : Oper} {a : Act} {K : Act → World → Prop} {Q : Exit → Act → World → Prop} {E : Prop} (hgd : o.guard = none) (s x : Operand)
    (ho : o.op = .call { callee := .builtin .append, args := #[s, x], argTypes := #[23, 23] })
    {B m : Nat} {w2 : World} {va : Option Addr} {vc : Nat} {xa : Option Addr} {l1 xd : Nat} {es : List KyT} (e : KyT) (hs : a.eval s = .slice va m vc) (hx : a.eval x = .slice (some ⟨w2.heap.size, 0, none⟩) 1 1)
    (hlen : es.length = m) (hO : OwnKF B (w2.alloc (.cells #[.slice xa l1 xd, .int .u64 (e.2.1 : Int), .int .u8 (e.2.2.toNat : Int)] 36)) (.slice va m vc) es)
    (rx : Rd w2 (.slice xa l1 xd) e.1 ∧ NeB (.slice xa l1 xd) e.1 (.slice va m vc) ∧ From B (.slice xa l1 xd)) (hm : m ≤ 2000) (hB : B ≤ w2.heap.size)
    (h : ∀ g c4 w4, OwnKF B w4 (.slice (some ⟨g, 0, none⟩) (m + 1) c4) (es ++ [e]) → (w2.alloc (.cells #[.slice xa l1 xd, .int .u64 (e.2.1 : Int), .int .u8 (e.2.2.toNat : Int)] 36)).grownBy w4 (Value.slice va m vc).ownBlock → K (a.put o.dst (.slice (some ⟨g, 0, none⟩) (m + 1) c4)) w4) :
    if Region.wanted o (yielded ops a.tmps) = true then Oper.wpIn F nF Try.prog o a (w2.alloc (.cells #[.slice xa l1 xd, .int .u64 (e.2.1 : Int), .int .u8 (e.2.2.toNat : Int)] 36)) K Q else E := by
  obtain ⟨i0, hi, hz0, hz1, hz2⟩ := info_parts infoKyT
  obtain ⟨cs, hrow, hel⟩ := hO
  rw [hlen] at hrow
  have hbe := below_box4 w2 (.cells #[.slice xa l1 xd, .int .u64 (e.2.1 : Int), .int .u8 (e.2.2.toNat : Int)] 36)
  refine step_append_in _ hgd s x 23 ho B 36 i0 (.agg #[.slice none 0 0, .int .u64 0, .int .u8 0]) 3 40 Try.underlying23 hi hz0 hz1 hz2 rfl (by decide) (.slice va m vc) m cs hs hrow ⟨w2.heap.size, 0, none⟩ 1 1 [.slice xa l1 xd, .int .u64 (e.2.1 : Int), .int .u8 (e.2.2.toNat : Int)] hx rfl (World.news_of_block (heap_alloc_new w2 _)) (by intro u hu; simp at hu; rcases hu with rfl | rfl | rfl <;> rfl) (by decide) (by simp only [maxLen]; omega) (by omega) (by simp; omega) _ rfl ?_
  intro g4 c4 w4 hown hgrow hat hlt4
  exact h g4 c4 w4 (OwnKF.push e hlen hrow hel ⟨rx.1.below hbe (Nat.le_refl _), rx.2⟩ hown hgrow hat) hgrow

theorem ksT_len (ts : List Tow) : (ksT ts).length = ts.length := by unfold ksT; rw [List.length_map]

set_option maxRecDepth 100000 in
set_option maxHeartbeats 4000000 in
theorem skrows_any (w : World) (l : Nat) (ts : List Tow) (hS : SkAt w l ts) (hL : LenT ts 1000) (h q : Nat) (hq : h = q + 1) (h8 : q < 8) :
    Calls Try.prog 21 #[.pointer (some ⟨l, 0, none⟩), .int .i64 (h : Int)] w fun e w' => ∃ v, e = .returned v ∧ OwnKF (w.heap.size + 3) w' v (ksT (rowT ts q)) ∧ Below w.heap.size w w' := by
  have HS : Hid (SkAt w l ts) := hS
  have HQ : Hid (h = q + 1) := hq
  have HQ8 : Hid (q < 8) := h8
  clear hq h8
  have c0 := cell_new_l w (.slice none 0 0) 23
  have hB1 : Below w.heap.size w (w.alloc (.cells #[.slice none 0 0] 23)) := (Below.refl _ w).alloc (Nat.le_refl _) _
  have hrw := skrow_any (w.alloc (.cells #[.slice none 0 0] 23)) (some ⟨l, 0, none⟩) (h : Int)
  have hs1 : (w.alloc (.cells #[.slice none 0 0] 23)).heap.size = w.heap.size + 1 := by simp
  rw [hs1] at hrw
  have c1 := cell_new_l (w.alloc (.cells #[.slice none 0 0] 23)) (.pointer (some ⟨l, 0, none⟩)) 25
  have c2 := cell_new_l ((w.alloc (.cells #[.slice none 0 0] 23)).alloc (.cells #[.pointer (some ⟨l, 0, none⟩)] 25)) (.int .i64 (h : Int)) 3
  have d0 := cell_alloc_l (.cells #[.int .i64 (h : Int)] 3) (cell_alloc_l (.cells #[.pointer (some ⟨l, 0, none⟩)] 25) c0.1)
  have d0f := frozen_alloc_l (.cells #[.int .i64 (h : Int)] 3) (cell_alloc_l (.cells #[.pointer (some ⟨l, 0, none⟩)] 25) c0.1) (frozen_alloc_l (.cells #[.pointer (some ⟨l, 0, none⟩)] 25) c0.1 c0.2)
  have d1 := cell_alloc_l (.cells #[.int .i64 (h : Int)] 3) c1.1
  have hB3 : Below w.heap.size w (((w.alloc (.cells #[.slice none 0 0] 23)).alloc (.cells #[.pointer (some ⟨l, 0, none⟩)] 25)).alloc (.cells #[.int .i64 (h : Int)] 3)) := (hB1.alloc hB1.size _).alloc (hB1.alloc hB1.size _).size _
  simp only [World.size_alloc] at c1 c2 d1
  have hz3 : (((w.alloc (.cells #[.slice none 0 0] 23)).alloc (.cells #[.pointer (some ⟨l, 0, none⟩)] 25)).alloc (.cells #[.int .i64 (h : Int)] 3)).heap.size = w.heap.size + 3 := by simp
  have hlen := hS.len
  refine (callsIn_wide (n := 4)).1 ?_
  refine callsIn_of_wp_marks Try.func21 rfl trivial ?_ rfl
  simp only [Try.ntmps21, List.size_toArray, List.length_cons, List.length_nil, Nat.reduceAdd, Nat.reduceSub, Array.replicate_succ, Array.replicate_zero, List.push_toArray, List.append_toArray, List.nil_append, List.cons_append]
  gi_wp2_with fail
  refine ⟨trivial, ?_⟩
  refine (callsIn_wide.2 hrw).mono ?_
  rintro e w3 ⟨rfl, hw3⟩
  rw [← hw3] at c2 d0 d0f d1 hB3 hz3
  clear hw3 c0 c1 hB1 hrw hs1
  have HB3 : Hid (Below w.heap.size w w3) := hB3
  have HL : Hid (LenT ts 1000) := hL
  clear hL
  gi_wp2_with fail
  refine wpIn_rangeFunc_ownH rfl (by omega) (gf := 47) (lb := #[.pointer (some ⟨w.heap.size + 1, 0, none⟩), .pointer (some ⟨w.heap.size + 1 + 1, 0, none⟩)]) rfl trivial (enters_of Try.func47 (by kernel_rfl) rfl)
    (row_stops 3 (by omega) w w3 l h q _ _ ts HS.out hB3 HQ.out HQ8.out d1 c2.1) kpR_t (kpR_b (by omega)) (Below.refl _ _) (fun _ => rfl)
    (fun (pre : List {t : Tow // t ∈ ts}) W => ∃ va vc, (W.cell? ⟨w.heap.size, 0, none⟩ = some (.slice va pre.length vc) ∧ W.frozen? ⟨w.heap.size, 0, none⟩ = false) ∧ OwnKF (w.heap.size + 3) W (.slice va pre.length vc) (ksT (pre.map (·.1))) ∧ Below w.heap.size w W)
    (fun c (pre : List {t : Tow // t ∈ ts}) W => False)
    (fun s A B row hs hg hr => by
      obtain ⟨va, vc, ⟨h1, h2⟩, h3, h4⟩ := hs
      exact ⟨va, vc, ⟨cell_kept h1 hg (fun r e => (hr r e).2), (frozen_kept h1 hg (fun r e => (hr r e).2)).trans h2⟩, h3.aside hg (fun r e => .inr (hr r e).2), h4.grown hg h4.size (fun r e => by have := (hr r e).1; omega)⟩)
    (fun c s A B row hs hg hr => hs)
    ⟨none, 0, ⟨d0, d0f⟩, OwnKF.nil _ _, hB3⟩
    (fun (x : {t : Tow // t ∈ ts}) a' W => ∃ Bx, w.heap.size < Bx ∧ Box4 W Bx x.1.x (.int .u64 (x.1.e.2.1 : Int)) (.int .u8 (x.1.e.2.2.1.toNat : Int)) x.1.y ∧ a' = { tmps := #[.pointer (some ⟨l, 0, none⟩), .int .i64 (h : Int), undef, undef, .slice none 0 0, .pointer (some ⟨w.heap.size, 0, none⟩), .pointer (some ⟨Bx, 0, none⟩), .pointer (some ⟨l, 0, none⟩), .int .i64 (h : Int), .func (.func 47) #[] #[.pointer (some ⟨w.heap.size + 1, 0, none⟩), .pointer (some ⟨w.heap.size + 1 + 1, 0, none⟩)], enV x.1.x (x.1.e.2.1 : Int) (x.1.e.2.2.1.toNat : Int) x.1.y, undef, undef, undef, undef, undef, undef, undef], defers := [] })
    (fun x a' _ X Y row hs hg hr => by
      obtain ⟨Bx, h1, h2, h3⟩ := hs
      exact ⟨Bx, h1, ⟨cell_kept h2.c0 hg (fun r e => (hr r e).2), cell_kept h2.c1 hg (fun r e => (hr r e).2), cell_kept h2.c2 hg (fun r e => (hr r e).2), cell_kept h2.c3 hg (fun r e => (hr r e).2)⟩, h3⟩)
    ?assign ?body ?done ?stop
  case assign =>
    rintro l pre x W K ⟨va, vc, ⟨hc, hf⟩, hO, hBW⟩ hK
    have hent := HS.out.ent x.1 x.2
    obtain ⟨x1, xc, ex⟩ := hent.rx.len
    obtain ⟨y1, yc, ey⟩ := hent.ry.len
    have HX : Hid (x.1.x = .slice x1 x.1.e.1.length xc) := ex
    have HY : Hid (x.1.y = .slice y1 x.1.e.2.2.2.length yc) := ey
    have HK : Hid _ := hK
    rw [ex, ey]
    clear hent ex ey hK
    simp only [enV]
    gi_wp2
    refine HK.out _ _ ((KeepsOthers.alloc _ _).from _) (kpR_alloc hBW.size _) ⟨va, vc, ⟨cell_alloc_l _ hc, frozen_alloc_l _ hc hf⟩, hO.below (below_box4 W _) (Nat.le_refl _), hBW.alloc hBW.size _⟩ ⟨W.heap.size, World.block_lt_of_cell? _ _ hc, ?_, ?_⟩
    · rw [HX.out, HY.out]
      exact box4_new W _ _ _ _ _
    · rw [HX.out, HY.out]
  case body =>
    rintro l pre x a' W hl hlr ⟨va, vc, ⟨hc, hf⟩, hO, hBW⟩ ⟨Bx, hBx, ⟨b0, b1, b2, b3⟩, rfl⟩ hpl
    have hxl := HL.out x.1 x.2
    have hent := (HS.out.below hBW).ent x.1 x.2
    obtain ⟨x1, xc, ex⟩ := hent.rx.len
    obtain ⟨y1, yc, ey⟩ := hent.ry.len
    have rx := hent.rx
    have ry := hent.ry
    rw [ex] at b0 rx
    rw [ey] at b3 ry
    have HSN : Hid (ksT ((pre ++ [x]).map (·.1)) = ksT (pre.map (·.1)) ++ [kyE x.1.e]) := by show _ = _; simp [ksT]
    rw [ex, ey]
    clear ex ey hent
    obtain ⟨⟨eu, es, ek, ev⟩, he⟩ : ∃ e, x.1.e = e := ⟨_, rfl⟩
    rw [he] at HSN b0 b1 b2 b3 rx ry hxl
    rw [he]
    simp only at b0 b1 b2 b3 rx ry hxl ⊢
    have hap := skapart_any W.drew _ _ _ _ (es : Int) (ek.toNat : Int) rx.drew ry.drew (by omega) (by omega)
    obtain ⟨n1, hn1⟩ : ∃ n, eu.length = n := ⟨_, rfl⟩
    obtain ⟨n2, hn2⟩ : ∃ n, ev.length = n := ⟨_, rfl⟩
    rw [hn1, hn2] at hap
    rw [hn1] at b0
    rw [hn2] at b3
    rw [hn1, hn2]
    clear rx ry hxl hn1 hn2 he
    simp only [enV] at hap ⊢
    have hfo : Try.prog.follows .mixedOrders = true := by kernel_rfl
    gi_wp2_with fail
    have HAP : Hid _ := hap
    have HF : Hid (W.frozen? ⟨w.heap.size, 0, none⟩ = false) := hf
    have HC : Hid (W.cell? ⟨w.heap.size, 0, none⟩ = some (.slice va pre.length vc)) := hc
    have HBW : Hid (Below w.heap.size w W) := hBW
    have HO : Hid (OwnKF (w.heap.size + 3) W (.slice va pre.length vc) (ksT (pre.map (·.1)))) := hO
    have HLEN : Hid ((ksT (pre.map (·.1))).length = pre.length) := by show _ = _; rw [ksT_len, List.length_map]
    have HLN : Hid ((pre ++ [x]).length = pre.length + 1) := by show _ = _; simp
    have HMX : Hid (pre.length ≤ 2000) := by show _ ≤ _; omega
    have H3 : Hid (w.heap.size + 3 ≤ W.heap.size) := by
      show _ ≤ _
      obtain ⟨r, hr⟩ := hlr
      have := (Array.getElem?_eq_some_iff.1 hr).1
      omega
    have HLOW : Hid (∀ q, (Value.slice va pre.length vc).ownBlock = some q → q < W.heap.size + 2) := by
      obtain ⟨cs, hrow, _⟩ := hO
      exact fun q hq => by have := (hrow.lt q hq).2; omega
    clear hap hBW hO hlr
    refine wpIn_region_any (by assumption) ?_
    try (change wpAnyIn _ _ _ _ _ _ _ _ _ (World.drew _))
    refine wpAnyIn_ready (rs := [0, 1]) (by kernel_rfl) (by simp) ?_
    refine AllReadyIn.cons rfl (fun K hK => ?_) ?_
    · go_simp
      refine hK _ _ ?_
      clear hK K
      refine wpAnyIn_ready (rs := [1]) (by kernel_rfl) (by simp) ?_
      refine AllReadyIn.cons rfl (fun K hK => ?_) AllReadyIn.nil
      go_simp
      refine hK _ _ ?_
      clear hK K
      refine wpAnyIn_ready (rs := [2]) (by kernel_rfl) (by simp) ?_
      refine AllReadyIn.cons rfl (fun K hK => ?_) AllReadyIn.nil
      go_simp
      refine ⟨trivial, ?_⟩
      gi_at_call 34
      refine (CallsIn.inRound l (callsIn_wide.2 HAP.out)).mono ?_
      rintro e w2 ⟨xv, yv, rfl, rx, ry, hlb, hb2⟩
      obtain ⟨xa, xd, rfl⟩ := rx.1.len
      obtain ⟨ya, yd, rfl⟩ := ry.1.len
      obtain ⟨l1, hl1⟩ : ∃ n, eu.length = n := ⟨_, rfl⟩
      obtain ⟨l2, hl2⟩ : ∃ n, ev.length = n := ⟨_, rfl⟩
      rw [hl1] at rx hlb ⊢
      rw [hl2] at ry hlb ⊢
      have hcz : w2.cell? ⟨w.heap.size, 0, none⟩ = some (.slice va pre.length vc) := (hb2.cell (p := ⟨w.heap.size, 0, none⟩) (World.block_lt_of_cell? _ _ HC.out)).trans HC.out
      have hfz : w2.frozen? ⟨w.heap.size, 0, none⟩ = false := (hb2.frozen (p := ⟨w.heap.size, 0, none⟩) (World.block_lt_of_cell? _ _ HC.out)).trans HF.out
      have HRX : Hid _ := rx
      have HRY : Hid _ := ry
      have HLB : Hid _ := hlb
      have HB2 : Hid _ := hb2
      clear rx ry hlb hb2 hl1 hl2 hc hf
      refine hK _ _ ?_
      clear hK K
      refine wpAnyIn_ready (rs := [3]) (by kernel_rfl) (by simp) ?_
      refine AllReadyIn.cons rfl (fun K hK => ?_) AllReadyIn.nil
      go_simp
      refine hK _ _ ?_
      clear hK K
      refine wpAnyIn_ready (rs := [4]) (by kernel_rfl) (by simp) ?_
      refine AllReadyIn.cons rfl (fun K hK => ?_) AllReadyIn.nil
      go_simp
      refine hK _ _ ?_
      clear hK K
      refine wpAnyIn_ready (rs := [5]) (by kernel_rfl) (by simp) ?_
      refine AllReadyIn.cons rfl (fun K hK => ?_) AllReadyIn.nil
      have hb2 : Below W.heap.size W w2 := ⟨HB2.out.os, HB2.out.tape, HB2.out.output, HB2.out.size, HB2.out.block⟩
      have hO5 := (HO.out.below hb2 (Nat.le_refl _)).below (below_box4 w2 (.cells #[.slice xa l1 xd, .int .u64 (es : Int), .int .u8 (ek.toNat : Int)] 36)) (Nat.le_refl _)
      have h3 := H3.out
      have hs2 := hb2.size
      refine step_pushK rfl (.tmp 11) (.tmp 15) rfl (eu, es, ek) rfl rfl HLEN.out hO5 ⟨HRX.out.1, neb_of HRX.out.2 HLOW.out HRX.out.1, fun a n c e => by have h9 := HRX.out.2 a n c e; have h8 : W.drew.heap.size = W.heap.size := rfl; omega⟩  HMX.out (by omega) ?_
      intro g4 c4 w4 hO4 hgr
      obtain ⟨cs5, hrow5, _⟩ := hO5
      obtain ⟨hc4, hf4, hK4, hP4, hB4⟩ := push_round (v4 := .slice (some ⟨g4, 0, none⟩) (pre.length + 1) c4) HBW.out HC.out HF.out hrow5 hb2 h3 hgr w3.heap.size
      have HK4 : Hid _ := hK4
      have HP4 : Hid _ := hP4
      have HB4 : Hid _ := hB4
      have HO4 : Hid _ := hO4
      clear hK4 hP4 hB4 hO4 hgr hrow5 h3 hs2 hb2
      refine hK _ _ ?_
      clear hK K
      refine wpAnyIn_ready (rs := [6]) (by kernel_rfl) (by simp) ?_
      refine AllReadyIn.cons rfl (fun K hK => ?_) AllReadyIn.nil
      go_simp
      refine hK _ _ ?_
      clear hK K
      refine wpAnyIn_done (by kernel_rfl) ?_ _
      refine ⟨HK4.out, HP4.out, some ⟨g4, 0, none⟩, c4, ?_⟩
      rw [HLN.out, HSN.out]
      exact ⟨⟨World.cell?_setCell_same' _ _ _ (by rw [hc4]; rfl), by simpa [World.frozen?_setCell] using hf4⟩, OwnKF.set HO4.out (by omega) _, HB4.out⟩
    refine AllReadyIn.cons rfl (fun K hK => ?_) AllReadyIn.nil
    go_simp
    refine hK _ _ ?_
    clear hK K
    refine wpAnyIn_ready (rs := [0, 2]) (by kernel_rfl) (by simp) ?_
    refine AllReadyIn.cons rfl (fun K hK => ?_) ?_
    · go_simp
      refine hK _ _ ?_
      clear hK K
      refine wpAnyIn_ready (rs := [2]) (by kernel_rfl) (by simp) ?_
      refine AllReadyIn.cons rfl (fun K hK => ?_) AllReadyIn.nil
      go_simp
      refine ⟨trivial, ?_⟩
      gi_at_call 34
      refine (CallsIn.inRound l (callsIn_wide.2 HAP.out)).mono ?_
      rintro e w2 ⟨xv, yv, rfl, rx, ry, hlb, hb2⟩
      obtain ⟨xa, xd, rfl⟩ := rx.1.len
      obtain ⟨ya, yd, rfl⟩ := ry.1.len
      obtain ⟨l1, hl1⟩ : ∃ n, eu.length = n := ⟨_, rfl⟩
      obtain ⟨l2, hl2⟩ : ∃ n, ev.length = n := ⟨_, rfl⟩
      rw [hl1] at rx hlb ⊢
      rw [hl2] at ry hlb ⊢
      have hcz : w2.cell? ⟨w.heap.size, 0, none⟩ = some (.slice va pre.length vc) := (hb2.cell (p := ⟨w.heap.size, 0, none⟩) (World.block_lt_of_cell? _ _ HC.out)).trans HC.out
      have hfz : w2.frozen? ⟨w.heap.size, 0, none⟩ = false := (hb2.frozen (p := ⟨w.heap.size, 0, none⟩) (World.block_lt_of_cell? _ _ HC.out)).trans HF.out
      have HRX : Hid _ := rx
      have HRY : Hid _ := ry
      have HLB : Hid _ := hlb
      have HB2 : Hid _ := hb2
      clear rx ry hlb hb2 hl1 hl2 hc hf
      refine hK _ _ ?_
      clear hK K
      refine wpAnyIn_ready (rs := [3]) (by kernel_rfl) (by simp) ?_
      refine AllReadyIn.cons rfl (fun K hK => ?_) AllReadyIn.nil
      go_simp
      refine hK _ _ ?_
      clear hK K
      refine wpAnyIn_ready (rs := [4]) (by kernel_rfl) (by simp) ?_
      refine AllReadyIn.cons rfl (fun K hK => ?_) AllReadyIn.nil
      go_simp
      refine hK _ _ ?_
      clear hK K
      refine wpAnyIn_ready (rs := [5]) (by kernel_rfl) (by simp) ?_
      refine AllReadyIn.cons rfl (fun K hK => ?_) AllReadyIn.nil
      have hb2 : Below W.heap.size W w2 := ⟨HB2.out.os, HB2.out.tape, HB2.out.output, HB2.out.size, HB2.out.block⟩
      have hO5 := (HO.out.below hb2 (Nat.le_refl _)).below (below_box4 w2 (.cells #[.slice xa l1 xd, .int .u64 (es : Int), .int .u8 (ek.toNat : Int)] 36)) (Nat.le_refl _)
      have h3 := H3.out
      have hs2 := hb2.size
      refine step_pushK rfl (.tmp 11) (.tmp 15) rfl (eu, es, ek) rfl rfl HLEN.out hO5 ⟨HRX.out.1, neb_of HRX.out.2 HLOW.out HRX.out.1, fun a n c e => by have h9 := HRX.out.2 a n c e; have h8 : W.drew.heap.size = W.heap.size := rfl; omega⟩  HMX.out (by omega) ?_
      intro g4 c4 w4 hO4 hgr
      obtain ⟨cs5, hrow5, _⟩ := hO5
      obtain ⟨hc4, hf4, hK4, hP4, hB4⟩ := push_round (v4 := .slice (some ⟨g4, 0, none⟩) (pre.length + 1) c4) HBW.out HC.out HF.out hrow5 hb2 h3 hgr w3.heap.size
      have HK4 : Hid _ := hK4
      have HP4 : Hid _ := hP4
      have HB4 : Hid _ := hB4
      have HO4 : Hid _ := hO4
      clear hK4 hP4 hB4 hO4 hgr hrow5 h3 hs2 hb2
      refine hK _ _ ?_
      clear hK K
      refine wpAnyIn_ready (rs := [6]) (by kernel_rfl) (by simp) ?_
      refine AllReadyIn.cons rfl (fun K hK => ?_) AllReadyIn.nil
      go_simp
      refine hK _ _ ?_
      clear hK K
      refine wpAnyIn_done (by kernel_rfl) ?_ _
      refine ⟨HK4.out, HP4.out, some ⟨g4, 0, none⟩, c4, ?_⟩
      rw [HLN.out, HSN.out]
      exact ⟨⟨World.cell?_setCell_same' _ _ _ (by rw [hc4]; rfl), by simpa [World.frozen?_setCell] using hf4⟩, OwnKF.set HO4.out (by omega) _, HB4.out⟩
    refine AllReadyIn.cons rfl (fun K hK => ?_) AllReadyIn.nil
    go_simp
    refine ⟨trivial, ?_⟩
    gi_at_call 34
    refine (CallsIn.inRound l (callsIn_wide.2 HAP.out)).mono ?_
    rintro e w2 ⟨xv, yv, rfl, rx, ry, hlb, hb2⟩
    obtain ⟨xa, xd, rfl⟩ := rx.1.len
    obtain ⟨ya, yd, rfl⟩ := ry.1.len
    obtain ⟨l1, hl1⟩ : ∃ n, eu.length = n := ⟨_, rfl⟩
    obtain ⟨l2, hl2⟩ : ∃ n, ev.length = n := ⟨_, rfl⟩
    rw [hl1] at rx hlb ⊢
    rw [hl2] at ry hlb ⊢
    have hcz : w2.cell? ⟨w.heap.size, 0, none⟩ = some (.slice va pre.length vc) := (hb2.cell (p := ⟨w.heap.size, 0, none⟩) (World.block_lt_of_cell? _ _ HC.out)).trans HC.out
    have hfz : w2.frozen? ⟨w.heap.size, 0, none⟩ = false := (hb2.frozen (p := ⟨w.heap.size, 0, none⟩) (World.block_lt_of_cell? _ _ HC.out)).trans HF.out
    have HRX : Hid _ := rx
    have HRY : Hid _ := ry
    have HLB : Hid _ := hlb
    have HB2 : Hid _ := hb2
    clear rx ry hlb hb2 hl1 hl2 hc hf
    refine hK _ _ ?_
    clear hK K
    refine wpAnyIn_ready (rs := [0, 3]) (by kernel_rfl) (by simp) ?_
    refine AllReadyIn.cons rfl (fun K hK => ?_) ?_
    · go_simp
      refine hK _ _ ?_
      clear hK K
      refine wpAnyIn_ready (rs := [3]) (by kernel_rfl) (by simp) ?_
      refine AllReadyIn.cons rfl (fun K hK => ?_) AllReadyIn.nil
      go_simp
      refine hK _ _ ?_
      clear hK K
      refine wpAnyIn_ready (rs := [4]) (by kernel_rfl) (by simp) ?_
      refine AllReadyIn.cons rfl (fun K hK => ?_) AllReadyIn.nil
      go_simp
      refine hK _ _ ?_
      clear hK K
      refine wpAnyIn_ready (rs := [5]) (by kernel_rfl) (by simp) ?_
      refine AllReadyIn.cons rfl (fun K hK => ?_) AllReadyIn.nil
      have hb2 : Below W.heap.size W w2 := ⟨HB2.out.os, HB2.out.tape, HB2.out.output, HB2.out.size, HB2.out.block⟩
      have hO5 := (HO.out.below hb2 (Nat.le_refl _)).below (below_box4 w2 (.cells #[.slice xa l1 xd, .int .u64 (es : Int), .int .u8 (ek.toNat : Int)] 36)) (Nat.le_refl _)
      have h3 := H3.out
      have hs2 := hb2.size
      refine step_pushK rfl (.tmp 11) (.tmp 15) rfl (eu, es, ek) rfl rfl HLEN.out hO5 ⟨HRX.out.1, neb_of HRX.out.2 HLOW.out HRX.out.1, fun a n c e => by have h9 := HRX.out.2 a n c e; have h8 : W.drew.heap.size = W.heap.size := rfl; omega⟩  HMX.out (by omega) ?_
      intro g4 c4 w4 hO4 hgr
      obtain ⟨cs5, hrow5, _⟩ := hO5
      obtain ⟨hc4, hf4, hK4, hP4, hB4⟩ := push_round (v4 := .slice (some ⟨g4, 0, none⟩) (pre.length + 1) c4) HBW.out HC.out HF.out hrow5 hb2 h3 hgr w3.heap.size
      have HK4 : Hid _ := hK4
      have HP4 : Hid _ := hP4
      have HB4 : Hid _ := hB4
      have HO4 : Hid _ := hO4
      clear hK4 hP4 hB4 hO4 hgr hrow5 h3 hs2 hb2
      refine hK _ _ ?_
      clear hK K
      refine wpAnyIn_ready (rs := [6]) (by kernel_rfl) (by simp) ?_
      refine AllReadyIn.cons rfl (fun K hK => ?_) AllReadyIn.nil
      go_simp
      refine hK _ _ ?_
      clear hK K
      refine wpAnyIn_done (by kernel_rfl) ?_ _
      refine ⟨HK4.out, HP4.out, some ⟨g4, 0, none⟩, c4, ?_⟩
      rw [HLN.out, HSN.out]
      exact ⟨⟨World.cell?_setCell_same' _ _ _ (by rw [hc4]; rfl), by simpa [World.frozen?_setCell] using hf4⟩, OwnKF.set HO4.out (by omega) _, HB4.out⟩
    refine AllReadyIn.cons rfl (fun K hK => ?_) AllReadyIn.nil
    go_simp
    refine hK _ _ ?_
    clear hK K
    refine wpAnyIn_ready (rs := [0, 4]) (by kernel_rfl) (by simp) ?_
    refine AllReadyIn.cons rfl (fun K hK => ?_) ?_
    · go_simp
      refine hK _ _ ?_
      clear hK K
      refine wpAnyIn_ready (rs := [4]) (by kernel_rfl) (by simp) ?_
      refine AllReadyIn.cons rfl (fun K hK => ?_) AllReadyIn.nil
      go_simp
      refine hK _ _ ?_
      clear hK K
      refine wpAnyIn_ready (rs := [5]) (by kernel_rfl) (by simp) ?_
      refine AllReadyIn.cons rfl (fun K hK => ?_) AllReadyIn.nil
      have hb2 : Below W.heap.size W w2 := ⟨HB2.out.os, HB2.out.tape, HB2.out.output, HB2.out.size, HB2.out.block⟩
      have hO5 := (HO.out.below hb2 (Nat.le_refl _)).below (below_box4 w2 (.cells #[.slice xa l1 xd, .int .u64 (es : Int), .int .u8 (ek.toNat : Int)] 36)) (Nat.le_refl _)
      have h3 := H3.out
      have hs2 := hb2.size
      refine step_pushK rfl (.tmp 11) (.tmp 15) rfl (eu, es, ek) rfl rfl HLEN.out hO5 ⟨HRX.out.1, neb_of HRX.out.2 HLOW.out HRX.out.1, fun a n c e => by have h9 := HRX.out.2 a n c e; have h8 : W.drew.heap.size = W.heap.size := rfl; omega⟩  HMX.out (by omega) ?_
      intro g4 c4 w4 hO4 hgr
      obtain ⟨cs5, hrow5, _⟩ := hO5
      obtain ⟨hc4, hf4, hK4, hP4, hB4⟩ := push_round (v4 := .slice (some ⟨g4, 0, none⟩) (pre.length + 1) c4) HBW.out HC.out HF.out hrow5 hb2 h3 hgr w3.heap.size
      have HK4 : Hid _ := hK4
      have HP4 : Hid _ := hP4
      have HB4 : Hid _ := hB4
      have HO4 : Hid _ := hO4
      clear hK4 hP4 hB4 hO4 hgr hrow5 h3 hs2 hb2
      refine hK _ _ ?_
      clear hK K
      refine wpAnyIn_ready (rs := [6]) (by kernel_rfl) (by simp) ?_
      refine AllReadyIn.cons rfl (fun K hK => ?_) AllReadyIn.nil
      go_simp
      refine hK _ _ ?_
      clear hK K
      refine wpAnyIn_done (by kernel_rfl) ?_ _
      refine ⟨HK4.out, HP4.out, some ⟨g4, 0, none⟩, c4, ?_⟩
      rw [HLN.out, HSN.out]
      exact ⟨⟨World.cell?_setCell_same' _ _ _ (by rw [hc4]; rfl), by simpa [World.frozen?_setCell] using hf4⟩, OwnKF.set HO4.out (by omega) _, HB4.out⟩
    refine AllReadyIn.cons rfl (fun K hK => ?_) AllReadyIn.nil
    go_simp
    refine hK _ _ ?_
    clear hK K
    · have hcy := cell_alloc_l (.cells #[.slice xa l1 xd, .int .u64 (es : Int), .int .u8 (ek.toNat : Int)] 36) hcz
      change wpAnyIn _ _ _ _ _ _ _ _ _ (w2.alloc (.cells #[.slice xa l1 xd, .int .u64 (es : Int), .int .u8 (ek.toNat : Int)] 36))
      refine wpAnyIn_ready (rs := [0]) (by kernel_rfl) (by simp) ?_
      refine AllReadyIn.cons rfl (fun K hK => ?_) AllReadyIn.nil
      go_simp
      refine hK _ _ ?_
      clear hK K
      refine wpAnyIn_ready (rs := [5]) (by kernel_rfl) (by simp) ?_
      refine AllReadyIn.cons rfl (fun K hK => ?_) AllReadyIn.nil
      have hb2 : Below W.heap.size W w2 := ⟨HB2.out.os, HB2.out.tape, HB2.out.output, HB2.out.size, HB2.out.block⟩
      have hO5 := (HO.out.below hb2 (Nat.le_refl _)).below (below_box4 w2 (.cells #[.slice xa l1 xd, .int .u64 (es : Int), .int .u8 (ek.toNat : Int)] 36)) (Nat.le_refl _)
      have h3 := H3.out
      have hs2 := hb2.size
      refine step_pushK rfl (.tmp 11) (.tmp 15) rfl (eu, es, ek) rfl rfl HLEN.out hO5 ⟨HRX.out.1, neb_of HRX.out.2 HLOW.out HRX.out.1, fun a n c e => by have h9 := HRX.out.2 a n c e; have h8 : W.drew.heap.size = W.heap.size := rfl; omega⟩  HMX.out (by omega) ?_
      intro g4 c4 w4 hO4 hgr
      obtain ⟨cs5, hrow5, _⟩ := hO5
      obtain ⟨hc4, hf4, hK4, hP4, hB4⟩ := push_round (v4 := .slice (some ⟨g4, 0, none⟩) (pre.length + 1) c4) HBW.out HC.out HF.out hrow5 hb2 h3 hgr w3.heap.size
      have HK4 : Hid _ := hK4
      have HP4 : Hid _ := hP4
      have HB4 : Hid _ := hB4
      have HO4 : Hid _ := hO4
      clear hK4 hP4 hB4 hO4 hgr hrow5 h3 hs2 hb2
      refine hK _ _ ?_
      clear hK K
      refine wpAnyIn_ready (rs := [6]) (by kernel_rfl) (by simp) ?_
      refine AllReadyIn.cons rfl (fun K hK => ?_) AllReadyIn.nil
      go_simp
      refine hK _ _ ?_
      clear hK K
      refine wpAnyIn_done (by kernel_rfl) ?_ _
      refine ⟨HK4.out, HP4.out, some ⟨g4, 0, none⟩, c4, ?_⟩
      rw [HLN.out, HSN.out]
      exact ⟨⟨World.cell?_setCell_same' _ _ _ (by rw [hc4]; rfl), by simpa [World.frozen?_setCell] using hf4⟩, OwnKF.set HO4.out (by omega) _, HB4.out⟩
  case done =>
    rintro D ys W hD hys ⟨va, vc, ⟨hc, hf⟩, hO, hBW⟩ hK
    have hyl : ys.length = (rowT ts q).length := by have := congrArg List.length hys; rwa [List.length_map] at this
    rw [hyl] at hc hO
    rw [hys] at hO
    have HO : Hid (OwnKF (w.heap.size + 3) W (.slice va (rowT ts q).length vc) (ksT (rowT ts q))) := hO
    clear hO
    gi_wp2
    refine ⟨by simp, .inl ⟨_, _, rfl, run_takeDeferred hK, ?_⟩⟩
    refine ⟨.slice va (rowT ts q).length vc, ?_, ⟨_, rfl, HO.out.aside (grownBy_putObj' _ D (.deferred none)) (fun r e => by cases e; exact .inr ⟨_, hK, rfl⟩), hBW.trans (belowK_b (w := w) (Nat.le_refl _) _ D _ _ (by omega) hK rfl rfl)⟩⟩
    simp [results, Try.f21, go_sem]
  case stop =>
    rintro D c pre W hD hpre hF hK
    exact hF.elim

end Go.Proofs.Ytekmlbbfipldoaa

/- (*skip.List).Insert. -/
namespace Go.Proofs.Ytekmlbbfipldoaa
set_option maxRecDepth 20000
open Go.RowKit
set_option linter.unusedVariables false
set_option linter.unusedSimpArgs false

theorem arr8_of (w : World) (v0 v1 v2 v3 v4 v5 v6 v7 : Value) (t : TypeId) (V : Nat → Value) (h0 : V 0 = v0) (h1 : V 1 = v1) (h2 : V 2 = v2) (h3 : V 3 = v3) (h4 : V 4 = v4) (h5 : V 5 = v5) (h6 : V 6 = v6) (h7 : V 7 = v7) : Arr8 (w.alloc (.cells #[v0, v1, v2, v3, v4, v5, v6, v7] t)) w.heap.size V := by
  have h := heap_alloc_new w (.cells #[v0, v1, v2, v3, v4, v5, v6, v7] t)
  subst h0 h1 h2 h3 h4 h5 h6 h7
  refine ⟨fun r hr => ?_, fun r hr => frozen_of_row _ w.heap.size r _ t h⟩
  have c := cell_of_row _ w.heap.size r _ t (0, 0) h
  have : r = 0 ∨ r = 1 ∨ r = 2 ∨ r = 3 ∨ r = 4 ∨ r = 5 ∨ r = 6 ∨ r = 7 := by omega
  rcases this with rfl | rfl | rfl | rfl | rfl | rfl | rfl | rfl <;> exact c.trans rfl

theorem blk_set {w : World} {b : Nat} (h : ∃ ca ty, w.heap[b]? = some (.cells ca ty (0, 0))) (p : Addr) (u : Value) : ∃ ca ty, (w.setCell p u).heap[b]? = some (.cells ca ty (0, 0)) := by
  obtain ⟨ca, ty, h⟩ := h
  by_cases e : b = p.block
  · subst e
    simp only [World.setCell, Array.getElem?_modify, h, if_true, Option.map_some]
    exact ⟨_, _, rfl⟩
  · exact ⟨ca, ty, by rw [Below.heap_setCell _ _ _ _ e]; exact h⟩

/-- so many of the new tower's rows are done -/
structure InsI (w wr : World) (l tb : Nat) (ts : List Tow) (A : Nat → Nat) (j : Nat) : Prop where
  kp : Keeps (fun i => (∃ a, a ≤ ts.length ∧ i = nb l ts a) ∨ i = tb) w wr
  nc : ∀ a, a ≤ ts.length → ∀ r, r < 8 → wr.cell? ⟨nb l ts a, 4 + r, none⟩ = (if r < j ∧ a = A r then some (ptrT (some tb)) else w.cell? ⟨nb l ts a, 4 + r, none⟩)
  nz : ∀ a, a ≤ ts.length → ∀ r, r < 8 → wr.frozen? ⟨nb l ts a, 4 + r, none⟩ = false
  ne : ∀ a, a ≤ ts.length → ∀ i, i < 4 → wr.cell? ⟨nb l ts a, i, none⟩ = w.cell? ⟨nb l ts a, i, none⟩
  nk : ∀ a, a ≤ ts.length → ∃ ca ty, wr.heap[nb l ts a]? = some (.cells ca ty (0, 0))
  tc : ∀ r, r < 8 → wr.cell? ⟨tb, 4 + r, none⟩ = some (if r < j then ptrT (fstT (ts.drop (A r)) r) else .pointer none)
  tz : ∀ r, r < 8 → wr.frozen? ⟨tb, 4 + r, none⟩ = false
  te : ∀ i, i < 4 → wr.cell? ⟨tb, i, none⟩ = w.cell? ⟨tb, i, none⟩
  tk : ∃ ca ty, wr.heap[tb]? = some (.cells ca ty (0, 0))

theorem cell_same (w : World) (b i j : Nat) (u v : Value) (h : w.cell? ⟨b, i, none⟩ = some v) (hij : j ≠ i) : (w.setCell ⟨b, i, none⟩ u).cell? ⟨b, j, none⟩ = w.cell? ⟨b, j, none⟩ := by
  simp [go_sem, h, hij]

theorem cell_here (w : World) (b i : Nat) (u v : Value) (h : w.cell? ⟨b, i, none⟩ = some v) : (w.setCell ⟨b, i, none⟩ u).cell? ⟨b, i, none⟩ = some u := by
  simp [go_sem, h]

theorem InsI.drew {w wr : World} {l tb : Nat} {ts : List Tow} {A : Nat → Nat} {j : Nat} (h : InsI w wr l tb ts A j) : InsI w wr.drew l tb ts A j := ⟨h.kp.drew, h.nc, h.nz, h.ne, h.nk, h.tc, h.tz, h.te, h.tk⟩

/-- one row more -/
theorem InsI.step {w wr : World} {l tb : Nat} {ts : List Tow} {A : Nat → Nat} {j : Nat} (h : InsI w wr l tb ts A j) (hS : SkAt w l ts) (hj : j < 8) (hA : A j ≤ ts.length) (hnew : ∀ a, a ≤ ts.length → tb ≠ nb l ts a) (hc : w.cell? ⟨nb l ts (A j), 4 + j, none⟩ = some (ptrT (fstT (ts.drop (A j)) j))) :
    InsI w ((wr.setCell ⟨tb, 4 + j, none⟩ (ptrT (fstT (ts.drop (A j)) j))).setCell ⟨nb l ts (A j), 4 + j, none⟩ (ptrT (some tb))) l tb ts A (j + 1) := by
  have htc := h.tc j hj
  have hnc := h.nc (A j) hA j hj
  rw [if_neg (by omega), hc] at hnc
  have hnj := hnew (A j) hA
  have hnc2 : (wr.setCell ⟨tb, 4 + j, none⟩ (ptrT (fstT (ts.drop (A j)) j))).cell? ⟨nb l ts (A j), 4 + j, none⟩ = some (ptrT (fstT (ts.drop (A j)) j)) := by
    rw [cell_other wr ⟨tb, 4 + j, none⟩ ⟨nb l ts (A j), 4 + j, none⟩ _ (Ne.symm hnj)]; exact hnc
  refine ⟨?_, fun a ha r hr => ?_, fun a ha r hr => ?_, fun a ha i hi => ?_, fun a ha => ?_, fun r hr => ?_, fun r hr => ?_, fun i hi => ?_, ?_⟩
  · exact (h.kp.setCell (p := ⟨tb, 4 + j, none⟩) (.inr rfl) _).setCell (p := ⟨nb l ts (A j), 4 + j, none⟩) (.inl ⟨A j, hA, rfl⟩) _
  · by_cases e : a = A j
    · subst e
      by_cases er : r = j
      · subst er
        rw [cell_here _ _ _ _ _ hnc2, if_pos ⟨by omega, rfl⟩]
      · rw [cell_same _ _ _ _ _ _ hnc2 (by omega), cell_other wr ⟨tb, 4 + j, none⟩ ⟨nb l ts (A j), 4 + r, none⟩ _ (Ne.symm hnj), h.nc (A j) ha r hr]
        by_cases h1 : r < j ∧ A j = A r
        · rw [if_pos h1, if_pos ⟨by omega, h1.2⟩]
        · rw [if_neg h1, if_neg (fun h2 => h1 ⟨by omega, h2.2⟩)]
    · have hne : nb l ts a ≠ nb l ts (A j) := fun e2 => e (hS.inj a (A j) ha hA e2)
      rw [cell_other _ ⟨nb l ts (A j), 4 + j, none⟩ ⟨nb l ts a, 4 + r, none⟩ _ hne, cell_other wr ⟨tb, 4 + j, none⟩ ⟨nb l ts a, 4 + r, none⟩ _ (Ne.symm (hnew a ha)), h.nc a ha r hr]
      by_cases h1 : r < j ∧ a = A r
      · rw [if_pos h1, if_pos ⟨by omega, h1.2⟩]
      · rw [if_neg h1, if_neg (fun h2 => h1 ⟨by
          by_cases er : r = j
          · subst er; exact absurd h2.2 e
          · omega, h2.2⟩)]
  · rw [World.frozen?_setCell, World.frozen?_setCell]; exact h.nz a ha r hr
  · by_cases e : a = A j
    · subst e
      rw [cell_same _ _ _ _ _ _ hnc2 (by omega), cell_other wr ⟨tb, 4 + j, none⟩ ⟨nb l ts (A j), i, none⟩ _ (Ne.symm hnj)]
      exact h.ne _ ha i hi
    · have hne : nb l ts a ≠ nb l ts (A j) := fun e2 => e (hS.inj a (A j) ha hA e2)
      rw [cell_other _ ⟨nb l ts (A j), 4 + j, none⟩ ⟨nb l ts a, i, none⟩ _ hne, cell_other wr ⟨tb, 4 + j, none⟩ ⟨nb l ts a, i, none⟩ _ (Ne.symm (hnew a ha))]
      exact h.ne a ha i hi
  · exact blk_set (blk_set (h.nk a ha) _ _) _ _
  · rw [cell_other _ ⟨nb l ts (A j), 4 + j, none⟩ ⟨tb, 4 + r, none⟩ _ hnj]
    by_cases er : r = j
    · subst er
      rw [cell_here _ _ _ _ _ htc, if_pos (by omega)]
    · rw [cell_same _ _ _ _ _ _ htc (by omega), h.tc r hr]
      by_cases h1 : r < j
      · rw [if_pos h1, if_pos (by omega)]
      · rw [if_neg h1, if_neg (by omega)]
  · rw [World.frozen?_setCell, World.frozen?_setCell]; exact h.tz r hr
  · rw [cell_other _ ⟨nb l ts (A j), 4 + j, none⟩ ⟨tb, i, none⟩ _ hnj, cell_same _ _ _ _ _ _ htc (by omega)]
    exact h.te i hi
  · exact blk_set (blk_set h.tk _ _) _ _

/-- what is like a version stands where one looks for it, or nowhere -/
theorem any_at {ts : List Tow} {K : EnB} {c : Nat} (h : PredT ts K 0 c) (hh : ∀ t ∈ ts, 1 ≤ t.h ∧ t.h ≤ 8) (hr : riseB (ts.map (·.e)) = true) : anyE (esT ts) K = true ↔ ∃ hc : c < ts.length, cmpE ts[c].e K = 0 := by
  unfold anyE
  rw [List.any_eq_true]
  constructor
  · rintro ⟨x, hx, hs⟩
    obtain ⟨i, hi, rfl⟩ := List.getElem_of_mem hx
    rw [esT_len] at hi
    rw [esT_get hi] at hs
    have h0 := sameE_iff.1 hs
    by_cases hic : i < c
    · have := h.lt i hi hic
      unfold ltE at this
      rw [decide_eq_true_eq] at this
      omega
    · by_cases e : i = c
      · subst e; exact ⟨hi, h0⟩
      · exfalso
        have hcl : c < ts.length := by omega
        have h1 := h.no c hcl (Nat.le_refl _) (by have := (hh _ (List.getElem_mem hcl)).1; omega)
        unfold ltE at h1
        rw [decide_eq_false_iff_not] at h1
        have h2 := rise_lt (es := esT ts) hr c i (by rw [esT_len]; exact hi) (by omega)
        rw [esT_get hcl, esT_get hi] at h2
        have h3 := cmpE_neg ts[c].e K
        have h4 : cmpE ts[c].e K < 0 := by
          have h5 : cmpE ts[c].e K = cmpE ts[c].e ts[i].e := by
            obtain ⟨e1, e2, e3⟩ := Mth.cmpK_zero.1 h0
            unfold cmpE
            rw [e1, e2, e3]
          omega
        omega
  · rintro ⟨hc, h0⟩
    exact ⟨ts[c].e, by unfold esT; exact List.mem_map.2 ⟨_, List.getElem_mem hc, rfl⟩, sameE_iff.2 h0⟩

theorem chkSk_ok {e : EnB} {h : Int} (hc : chkSk e h = 0) : 1 ≤ h ∧ h ≤ 8 := by
  unfold chkSk at hc
  split at hc
  · split at hc
    · assumption
    · cases hc
  · rename_i h0; exact absurd hc h0

structure Box3 (w : World) (b : Nat) (v0 v1 v2 : Value) : Prop where
  c0 : w.cell? ⟨b, 0, none⟩ = some v0
  c1 : w.cell? ⟨b, 1, none⟩ = some v1
  c2 : w.cell? ⟨b, 2, none⟩ = some v2

theorem Box3.below {w w' : World} {b : Nat} {v0 v1 v2 : Value} (h : Box3 w b v0 v1 v2) (hb : Below w.heap.size w w') : Box3 w' b v0 v1 v2 :=
  ⟨(hb.cell (World.block_lt_of_cell? w _ h.c0)).trans h.c0, (hb.cell (World.block_lt_of_cell? w _ h.c1)).trans h.c1, (hb.cell (World.block_lt_of_cell? w _ h.c2)).trans h.c2⟩

/-- what Insert answers -/
def InsPost (l : Nat) (ts : List Tow) (e : EnB) (hh : Int) (w w' : World) (o : Ending) : Prop :=
  (¬ chkSk e hh = 0 ∧ o = .returned (.int .i64 (chkSk e hh)) ∧ Below w.heap.size w w') ∨
  (chkSk e hh = 0 ∧ anyE (esT ts) e = true ∧ o = .returned (.int .i64 7) ∧ Below w.heap.size w w') ∨
  (chkSk e hh = 0 ∧ anyE (esT ts) e = false ∧ o = .returned (.int .i64 0) ∧ ∃ T : Tow, T.e = e ∧ (T.h : Int) = hh ∧ w.heap.size ≤ T.b ∧ SkAt w' l (insT ts (cntE (esT ts) e) T) ∧ Keeps (fun i => ∃ a, a ≤ ts.length ∧ i = nb l ts a) w w')

/-- what it holds lies behind all that was there -/
def InsPost2 (l : Nat) (ts : List Tow) (e : EnB) (hh : Int) (w w' : World) (o : Ending) : Prop :=
  (¬ chkSk e hh = 0 ∧ o = .returned (.int .i64 (chkSk e hh)) ∧ Below w.heap.size w w') ∨
  (chkSk e hh = 0 ∧ anyE (esT ts) e = true ∧ o = .returned (.int .i64 7) ∧ Below w.heap.size w w') ∨
  (chkSk e hh = 0 ∧ anyE (esT ts) e = false ∧ o = .returned (.int .i64 0) ∧ ∃ T : Tow, T.e = e ∧ (T.h : Int) = hh ∧ (w.heap.size ≤ T.b ∧ From w.heap.size T.x ∧ From w.heap.size T.y) ∧ SkAt w' l (insT ts (cntE (esT ts) e) T) ∧ Keeps (fun i => ∃ a, a ≤ ts.length ∧ i = nb l ts a) w w')

theorem InsPost2.post {l : Nat} {ts : List Tow} {e : EnB} {hh : Int} {w w' : World} {o : Ending} (h : InsPost2 l ts e hh w w' o) : InsPost l ts e hh w w' o := by
  rcases h with h | h | ⟨h1, h2, h3, T, h4, h5, h6, h7⟩
  · exact .inl h
  · exact .inr (.inl h)
  · exact .inr (.inr ⟨h1, h2, h3, T, h4, h5, h6.1, h7⟩)


set_option maxHeartbeats 8000000 in
theorem skinsert_own (w : World) (l : Nat) (ts : List Tow) (xv yv : Value) (e : EnB) (hh : Int) (hS : SkAt w l ts) (hx : Rd w xv e.1) (hy : Rd w yv e.2.2.2) (hl1 : e.1.length ≤ 1000000) (hl2 : e.2.2.2.length ≤ 1000000) (hlen : ts.length + 1 ≤ 1000) :
    Calls Try.prog 13 #[.pointer (some ⟨l, 0, none⟩), enV xv (e.2.1 : Int) (e.2.2.1.toNat : Int) yv, .int .i64 hh] w fun o w' => InsPost2 l ts e hh w w' o := by
  have HS : Hid (SkAt w l ts) := hS
  have HLEN : Hid (ts.length + 1 ≤ 1000) := hlen
  obtain ⟨xa, xc, rfl⟩ := hx.len
  obtain ⟨ya, yc, rfl⟩ := hy.len
  obtain ⟨nl, hnl⟩ : ∃ z, e.1.length = z := ⟨_, rfl⟩
  obtain ⟨ml, hml⟩ : ∃ z, e.2.2.2.length = z := ⟨_, rfl⟩
  obtain ⟨s, hs⟩ : ∃ z : Int, (e.2.1 : Int) = z := ⟨_, rfl⟩
  obtain ⟨k, hk⟩ : ∃ z : Int, (e.2.2.1.toNat : Int) = z := ⟨_, rfl⟩
  have HE : Hid ((e.2.1 : Int) = s ∧ (e.2.2.1.toNat : Int) = k ∧ e.1.length = nl ∧ e.2.2.2.length = ml) := ⟨hs, hk, hnl, hml⟩
  have HLL : Hid (e.1.length ≤ 1000000 ∧ e.2.2.2.length ≤ 1000000) := ⟨hl1, hl2⟩
  have HX : Hid (Rd w (.slice xa nl xc) e.1 ∧ Rd w (.slice ya ml yc) e.2.2.2) := by rw [← hnl, ← hml]; exact ⟨hx, hy⟩
  obtain ⟨c, hc⟩ : ∃ c, chkSk e hh = c := ⟨_, rfl⟩
  have HC : Hid (chkSk e hh = c) := hc
  have hb0 := below_box4 w (.cells #[.slice xa nl xc, .int .u64 s, .int .u8 k, .slice ya ml yc] 38)
  have HB0 : Hid (Below w.heap.size w (w.alloc (.cells #[.slice xa nl xc, .int .u64 s, .int .u8 k, .slice ya ml yc] 38))) := hb0
  have B0 := box4_new w (.slice xa nl xc) (.int .u64 s) (.int .u8 k) (.slice ya ml yc) 38
  have hck := skcheck_any (w.alloc (.cells #[.slice xa nl xc, .int .u64 s, .int .u8 k, .slice ya ml yc] 38)) xa ya xc yc e hh c hc
  rw [hnl, hml, hs, hk] at hck
  rw [hnl, hml, hs, hk]
  obtain ⟨c0, c1, c2, c3⟩ := B0
  have B0 := box4_new w (.slice xa nl xc) (.int .u64 s) (.int .u8 k) (.slice ya ml yc) 38
  clear hS hx hy hl1 hl2 hlen hnl hml hs hk hc hb0
  go_enter Try.func13, Try.ntmps13
  go_wp2_with fail
  refine hck.mono ?_
  rintro o w1 ⟨rfl, hb1⟩
  have HB1 : Hid (Below w.heap.size w w1) := bsplit HB0.out hb1
  have B1 := B0.below hb1 (Nat.le_refl _)
  clear hck hb1 c0 c1 c2 c3 B0
  by_cases h0 : c = 0
  case neg =>
    have h0b : (c == 0) = false := by simpa using h0
    go_wp2
    go_ret
    exact .inl ⟨by rw [HC.out]; exact h0, by rw [HC.out]; rfl, HB1.out⟩
  subst h0
  have hS1 := HS.out.below HB1.out
  have hah := ahead_any w1 l ts (.slice xa nl xc) e hS1 (HX.out.1.below HB1.out (Nat.le_refl _))
  rw [HE.out.1, HE.out.2.1] at hah
  obtain ⟨c0, c1, c2, c3⟩ := B1
  have B1 : Box4 w1 w.heap.size (.slice xa nl xc) (.int .u64 s) (.int .u8 k) (.slice ya ml yc) := ⟨c0, c1, c2, c3⟩
  clear hS1
  go_wp2_with fail
  refine hah.mono ?_
  rintro o w2 ⟨A, rfl, hA, hb2⟩
  clear c0 c1 c2 c3
  have HA : Hid (∀ r, r < 8 → PredT ts e r (A r)) := hA
  have HB2 : Hid (Below w.heap.size w w2) := bsplit HB1.out hb2
  have hba := below_box4 w2 (.cells #[ndP l ts (A 0), ndP l ts (A 1), ndP l ts (A 2), ndP l ts (A 3), ndP l ts (A 4), ndP l ts (A 5), ndP l ts (A 6), ndP l ts (A 7)] 65)
  have AR2 := arr8_of w2 (ndP l ts (A 0)) (ndP l ts (A 1)) (ndP l ts (A 2)) (ndP l ts (A 3)) (ndP l ts (A 4)) (ndP l ts (A 5)) (ndP l ts (A 6)) (ndP l ts (A 7)) 65 (fun r => ndP l ts (A r)) rfl rfl rfl rfl rfl rfl rfl rfl
  have B2 := (B1.below hb2 (Nat.le_refl _)).below hba (Nat.le_refl _)
  obtain ⟨W, hW⟩ : ∃ W, w2.alloc (.cells #[ndP l ts (A 0), ndP l ts (A 1), ndP l ts (A 2), ndP l ts (A 3), ndP l ts (A 4), ndP l ts (A 5), ndP l ts (A 6), ndP l ts (A 7)] 65) = W := ⟨_, rfl⟩
  obtain ⟨ab, hab⟩ : ∃ b, w2.heap.size = b := ⟨_, rfl⟩
  rw [hW] at hba AR2 B2
  rw [hab] at AR2
  have HBW : Hid (Below w.heap.size w W) := bsplit HB2.out hba
  have hSW := HS.out.below HBW.out
  have hP0 := hA 0 (by omega)
  have hcnt := hP0.cnt HS.out.ht
  have hany := any_at hP0 HS.out.ht HS.out.ris
  have a0 := AR2.cel 0 (by omega)
  have n0 := (hSW.nod (A 0) hP0.le).cel 0 (by omega)
  rw [if_pos hP0.hi, fst_low HS.out.ht, Nat.add_zero] at n0
  have HAR : Hid (Arr8 W ab (fun r => ndP l ts (A r))) := AR2
  have HABN : Hid (ab ≠ w.heap.size ∧ w.heap.size < ab ∧ ab < W.heap.size) := ⟨by have := (B1.below hb2 (Nat.le_refl _)).lt; omega, by have := (B1.below hb2 (Nat.le_refl _)).lt; omega, AR2.lt⟩
  clear hah hA hb2 hba B1 AR2
  obtain ⟨AY, hAY⟩ : ∃ r, anyE (esT ts) e = r := ⟨_, rfl⟩
  have HAY : Hid (anyE (esT ts) e = AY) := hAY
  rw [hAY] at hany
  have HANY : Hid (AY = true ↔ ∃ hc : A 0 < ts.length, cmpE ts[A 0].e e = 0) := hany
  have HCNT : Hid (cntE (esT ts) e = A 0) := hcnt
  have HB2h : Hid (Box4 W w.heap.size (.slice xa nl xc) (.int .u64 s) (.int .u8 k) (.slice ya ml yc)) := B2
  have HSW : Hid (SkAt W l ts) := hSW
  obtain ⟨cc, hcc⟩ : ∃ z, nb l ts (A 0) = z := ⟨_, rfl⟩
  have a0' : W.cell? ⟨ab, 0, none⟩ = some (.pointer (some ⟨cc, 0, none⟩)) := by rw [a0]; show some (Value.pointer (some ⟨nb l ts (A 0), 0, none⟩)) = _; rw [hcc]
  rw [hcc] at n0
  obtain ⟨nx, hnx⟩ : ∃ v, ptrT ((ts[A 0]?).map (·.b)) = v := ⟨_, rfl⟩
  rw [hnx] at n0
  have HNX : Hid (ptrT ((ts[A 0]?).map (·.b)) = nx) := hnx
  have HCC : Hid (nb l ts (A 0) = cc) := hcc
  clear a0 hAY hany hcnt hSW hP0 hnx hcc B2
  go_upto_region 8 with fail
  clear hW a0' n0
  go_cut [42] (fun bv wx => bv = .bool AY ∧ Hid (Below W.heap.size W wx))
  case first =>
    by_cases hlt : A 0 < ts.length
    · obtain ⟨t, ht⟩ : ∃ t, ts[A 0] = t := ⟨_, rfl⟩
      obtain ⟨tq, htq⟩ : ∃ z, t.b = z := ⟨_, rfl⟩
      have hnx : nx = .pointer (some ⟨tq, 0, none⟩) := by rw [← HNX.out, List.getElem?_eq_getElem hlt, ht, ← htq]; rfl
      subst hnx
      have hent := HSW.out.ent t (by rw [← ht]; exact List.getElem_mem hlt)
      obtain ⟨⟨c0, c1, c2, c3⟩, rx, ry⟩ := hent
      obtain ⟨x1, x2, ex⟩ := rx.len
      rw [ex] at c0 rx
      obtain ⟨tn, htn⟩ : ∃ z, t.e.1.length = z := ⟨_, rfl⟩
      obtain ⟨sq, hsq⟩ : ∃ z : Int, (t.e.2.1 : Int) = z := ⟨_, rfl⟩
      obtain ⟨ek, hek⟩ : ∃ z : Int, (t.e.2.2.1.toNat : Int) = z := ⟨_, rfl⟩
      rw [htq] at c0 c1 c2
      rw [htn] at c0 rx
      rw [hsq] at c1
      rw [hek] at c2
      obtain ⟨cr, hcr⟩ : ∃ r, cmpE t.e e = r := ⟨_, rfl⟩
      have hcm := compare_any W.drew (.slice x1 tn x2) (.slice xa nl xc) t.e.1 e.1 sq ek s k cr rx.drew (HX.out.1.below HBW.out (Nat.le_refl _)).drew (by rw [← hcr, ← hsq, ← hek, ← HE.out.1, ← HE.out.2.1]; rfl)
      have HAE : Hid (AY = true ↔ cr = 0) := ⟨fun h => by obtain ⟨_, h2⟩ := HANY.out.1 h; rw [ht, hcr] at h2; exact h2, fun h => HANY.out.2 ⟨hlt, by rw [ht, hcr]; exact h⟩⟩
      obtain ⟨b0, b1, b2, b3⟩ := HB2h.out
      have A0 : Box3 W.drew tq (.slice x1 tn x2) (.int .u64 sq) (.int .u8 ek) := ⟨c0, c1, c2⟩
      have E0 := HB2h.out.drew
      clear rx ry ex htn hsq hek hcr ht htq c3 hlt
      go_region_held3 (fun w' => (w'.cell? ⟨tq, 0, none⟩ = some (.slice x1 tn x2) ∧ w'.cell? ⟨tq, 1, none⟩ = some (.int .u64 sq) ∧ w'.cell? ⟨tq, 2, none⟩ = some (.int .u8 ek)) ∧ (w'.cell? ⟨w.heap.size, 0, none⟩ = some (.slice xa nl xc) ∧ w'.cell? ⟨w.heap.size, 1, none⟩ = some (.int .u64 s) ∧ w'.cell? ⟨w.heap.size, 2, none⟩ = some (.int .u8 k)))
        (first | with_reducible exact ⟨⟨A6.c0, A6.c1, A6.c2⟩, ⟨E6.c0, E6.c1, E6.c2⟩⟩ | exact ⟨⟨A0.c0, A0.c1, A0.c2⟩, ⟨E0.c0, E0.c1, E0.c2⟩⟩)
        (first
          | (go_at_call 33; refine hcm.mono ?_; rintro o w6 ⟨rfl, hb6⟩
             have A6 := A0.below hb6
             have E6 := E0.below hb6 (Nat.le_refl _)
             have HB6 : Hid (Below W.heap.size W w6) := bsplit (Below.refl _ _).drew hb6
             clear hcm hb6)
          | fail)
      go_wp2_with fail
      go_meet
      refine ⟨?_, HB6⟩
      congr 1
      rw [Bool.eq_iff_iff, HAE.out]
      simp
    · have hnx : nx = .pointer none := by rw [← HNX.out, List.getElem?_eq_none (by omega)]; rfl
      subst hnx
      have HF : Hid (AY = false) := by
        show AY = false
        cases ha : AY with
        | false => rfl
        | true => obtain ⟨h1, _⟩ := HANY.out.1 ha; exact absurd h1 hlt
      clear hlt
      go_quiet (fail)
      go_wp2_with fail
      go_meet
      exact ⟨by rw [HF.out], below_drewN (Below.refl _ _) _⟩
  case rest =>
    obtain ⟨rfl, HBX⟩ := hcut
    have HBWX : Hid (Below w.heap.size w wc) := bsplit HBW.out HBX.out
    cases AY with
    | true =>
      go_wp2
      go_ret
      exact .inr (.inl ⟨HC.out, HAY.out, rfl, HBWX.out⟩)
    | false =>
      have hap := skapart_any wc (.slice xa nl xc) (.slice ya ml yc) e.1 e.2.2.2 s k (HX.out.1.below HBWX.out (Nat.le_refl _)) (HX.out.2.below HBWX.out (Nat.le_refl _)) HLL.out.1 HLL.out.2
      obtain ⟨b0, b1, b2, b3⟩ := HB2h.out.below HBX.out (Nat.le_refl _)
      go_wp2_with fail
      refine hap.mono ?_
      rintro o w4 ⟨x, y, rfl, rx, ry, lb, hb4⟩
      obtain ⟨x2, xc2, ex⟩ := rx.1.len
      obtain ⟨y2, yc2, ey⟩ := ry.1.len
      rw [HE.out.2.2.1] at ex
      rw [HE.out.2.2.2] at ey
      subst ex ey
      have HXY : Hid ((Rd w4 (.slice x2 nl xc2) e.1 ∧ From (wc.heap.size + 2) (.slice x2 nl xc2)) ∧ (Rd w4 (.slice y2 ml yc2) e.2.2.2 ∧ From (wc.heap.size + 2) (.slice y2 ml yc2)) ∧ (LtB w4 (.slice x2 nl xc2) ∧ LtB w4 (.slice y2 ml yc2))) := ⟨rx, ry, lb⟩
      have HB4 : Hid (Below w.heap.size w w4) := bsplit HBWX.out hb4
      have hbt := below_box4 w4 (.cells #[.slice x2 nl xc2, .int .u64 s, .int .u8 k, .slice y2 ml yc2, .pointer none, .pointer none, .pointer none, .pointer none, .pointer none, .pointer none, .pointer none, .pointer none] 67)
      have hnw := heap_alloc_new w4 (.cells #[.slice x2 nl xc2, .int .u64 s, .int .u8 k, .slice y2 ml yc2, .pointer none, .pointer none, .pointer none, .pointer none, .pointer none, .pointer none, .pointer none, .pointer none] 67)
      have ht4 : Box4 (w4.alloc (.cells #[.slice x2 nl xc2, .int .u64 s, .int .u8 k, .slice y2 ml yc2, .pointer none, .pointer none, .pointer none, .pointer none, .pointer none, .pointer none, .pointer none, .pointer none] 67)) w4.heap.size (.slice x2 nl xc2) (.int .u64 s) (.int .u8 k) (.slice y2 ml yc2) := by
        have c := fun i => cell_of_row (w4.alloc (.cells #[.slice x2 nl xc2, .int .u64 s, .int .u8 k, .slice y2 ml yc2, .pointer none, .pointer none, .pointer none, .pointer none, .pointer none, .pointer none, .pointer none, .pointer none] 67)) w4.heap.size i _ _ (0, 0) hnw
        exact ⟨(c 0).trans rfl, (c 1).trans rfl, (c 2).trans rfl, (c 3).trans rfl⟩
      have htc : ∀ r, r < 8 → (w4.alloc (.cells #[.slice x2 nl xc2, .int .u64 s, .int .u8 k, .slice y2 ml yc2, .pointer none, .pointer none, .pointer none, .pointer none, .pointer none, .pointer none, .pointer none, .pointer none] 67)).cell? ⟨w4.heap.size, 4 + r, none⟩ = some (.pointer none) := fun r hr => by
        have c := cell_of_row (w4.alloc (.cells #[.slice x2 nl xc2, .int .u64 s, .int .u8 k, .slice y2 ml yc2, .pointer none, .pointer none, .pointer none, .pointer none, .pointer none, .pointer none, .pointer none, .pointer none] 67)) w4.heap.size (4 + r) _ _ (0, 0) hnw
        have : r = 0 ∨ r = 1 ∨ r = 2 ∨ r = 3 ∨ r = 4 ∨ r = 5 ∨ r = 6 ∨ r = 7 := by omega
        rcases this with rfl | rfl | rfl | rfl | rfl | rfl | rfl | rfl <;> exact c.trans rfl
      have htz : ∀ r, r < 8 → (w4.alloc (.cells #[.slice x2 nl xc2, .int .u64 s, .int .u8 k, .slice y2 ml yc2, .pointer none, .pointer none, .pointer none, .pointer none, .pointer none, .pointer none, .pointer none, .pointer none] 67)).frozen? ⟨w4.heap.size, 4 + r, none⟩ = false := fun r hr => frozen_of_row _ w4.heap.size (4 + r) _ _ hnw
      obtain ⟨w5, hw5⟩ : ∃ V, w4.alloc (.cells #[.slice x2 nl xc2, .int .u64 s, .int .u8 k, .slice y2 ml yc2, .pointer none, .pointer none, .pointer none, .pointer none, .pointer none, .pointer none, .pointer none, .pointer none] 67) = V := ⟨_, rfl⟩
      obtain ⟨tb, htb⟩ : ∃ z, w4.heap.size = z := ⟨_, rfl⟩
      rw [hw5] at hbt hnw ht4 htc htz
      rw [htb] at hnw ht4 htc htz
      have HB5 : Hid (Below w.heap.size w w5) := bsplit HB4.out hbt
      have HS5 : Hid (SkAt w5 l ts) := HS.out.below HB5.out
      have HTB : Hid (w.heap.size ≤ tb ∧ ab < tb ∧ (∀ a, a ≤ ts.length → nb l ts a < w.heap.size)) := by
        refine ⟨by rw [← htb]; exact HB4.out.size, ?_, fun a ha => (HS.out.nod a ha).lt⟩
        have := HABN.out.2.2
        have := HBX.out.size
        have := hb4.size
        omega
      have HAR5 : Hid (∀ r, r < 8 → w5.cell? ⟨ab, r, none⟩ = some (ndP l ts (A r))) := fun r hr => (((HAR.out.below HBX.out).below hb4).below hbt).cel r hr
      have HI0 : Hid (InsI w5 w5 l tb ts A 0) := ⟨Keeps.refl _ _, fun a ha r hr => by rw [if_neg (by omega)], fun a ha r hr => (HS5.out.nod a ha).frz r hr, fun a ha i hi => rfl, fun a ha => (HS5.out.nod a ha).blk, fun r hr => by rw [if_neg (by omega)]; exact htc r hr, htz, fun i hi => rfl, ⟨_, _, hnw⟩⟩
      have HT4 : Hid (Box4 w5 tb (.slice x2 nl xc2) (.int .u64 s) (.int .u8 k) (.slice y2 ml yc2)) := ht4
      have HXY5 : Hid (Rd w5 (.slice x2 nl xc2) e.1 ∧ Rd w5 (.slice y2 ml yc2) e.2.2.2 ∧ LtB w5 (.slice x2 nl xc2) ∧ LtB w5 (.slice y2 ml yc2)) := ⟨rx.1.below hbt (Nat.le_refl _), ry.1.below hbt (Nat.le_refl _), lb.1.grow hbt.size, lb.2.grow hbt.size⟩
      have HTL : Hid (w4.heap.size = tb) := htb
      obtain ⟨hh1, hh8⟩ := chkSk_ok HC.out
      obtain ⟨hn, rfl⟩ : ∃ n : Nat, hh = (n : Int) := ⟨hh.toNat, by omega⟩
      have hn8 : hn ≤ 8 := by omega
      have hn1 : 1 ≤ hn := by omega
      clear hap hb4 rx ry lb hbt hnw ht4 htc htz b0 b1 b2 b3
      go_wp2_with fail
      clear hw5 htb
      go_loopg [48] hn (fun gk iv wr => ∃ j : Nat, gk + j = hn ∧ iv = .int .i64 (j : Int) ∧ Hid (InsI w5 wr l tb ts A j))
      case atStart => exact ⟨0, by omega, rfl, HI0⟩
      case round =>
        obtain ⟨j, hj, rfl, HI⟩ := hrel
        by_cases hlt : j < hn
        · obtain ⟨q1, q2⟩ := gk_nxt hj hlt
          have hPj := HA.out j (by omega)
          have a1 : wr.cell? ⟨ab, j, none⟩ = some (ndP l ts (A j)) := HI.out.kp.cell (p := ⟨ab, j, none⟩) (by
            rintro (⟨a, ha, he⟩ | he)
            · have h1 := HTB.out.2.2 a ha
              have h2 := HABN.out.2.1
              have : ab = nb l ts a := he
              omega
            · have h1 := HTB.out.2.1
              have : ab = tb := he
              omega) (HAR5.out j (by omega))
          have hc5 := (HS5.out.nod (A j) hPj.le).cel j (by omega)
          rw [if_pos hPj.hi] at hc5
          have n1 := HI.out.nc (A j) hPj.le j (by omega)
          rw [if_neg (by omega), hc5] at n1
          have z1 := HI.out.nz (A j) hPj.le j (by omega)
          have t1 := HI.out.tc j (by omega)
          rw [if_neg (by omega)] at t1
          have y1 := HI.out.tz j (by omega)
          have HST : Hid (InsI w5 ((wr.setCell ⟨tb, 4 + j, none⟩ (ptrT (fstT (ts.drop (A j)) j))).setCell ⟨nb l ts (A j), 4 + j, none⟩ (ptrT (some tb))) l tb ts A (j + 1)) := HI.out.step HS5.out (by omega) hPj.le (fun a ha e => by have h1 := HTB.out.2.2 a ha; have h2 := HTB.out.1; omega) hc5
          have e1 : ¬ ab = tb := by have := HTB.out.2.1; omega
          have e2 : ¬ nb l ts (A j) = tb := by have h1 := HTB.out.2.2 (A j) hPj.le; have h2 := HTB.out.1; omega
          obtain ⟨na, hna⟩ : ∃ z, nb l ts (A j) = z := ⟨_, rfl⟩
          have a1' : wr.cell? ⟨ab, j, none⟩ = some (.pointer (some ⟨na, 0, none⟩)) := by rw [a1, ← hna]
          rw [hna] at n1 z1 HST e2
          have j0 : (0 : Int) ≤ (j : Int) := by omega
          have j8 : (j : Int) < 8 := by omega
          have jn : (j : Int) < (hn : Int) := by omega
          clear a1 hc5 hPj hna
          cases hfs : fstT (ts.drop (A j)) j with
          | none =>
            rw [hfs] at n1 HST
            simp only [ptrT] at n1 HST
            clear hfs
            go_wp2_with fail
            go_region
            go_wp2_with fail
            go_roundg (gk - 1)
            case measure => exact q1
            case rel => exact ⟨j + 1, q2, by go_num, HST.out.drew⟩
          | some fb =>
            rw [hfs] at n1 HST
            simp only [ptrT] at n1 HST
            clear hfs
            go_wp2_with fail
            go_region
            go_wp2_with fail
            go_roundg (gk - 1)
            case measure => exact q1
            case rel => exact ⟨j + 1, q2, by go_num, HST.out.drew⟩
        · have hjn : j = hn := by omega
          subst hjn
          have hni : ¬ (j : Int) < (j : Int) := by omega
          have HFIN : Hid (SkAt wr l (insT ts (A 0) ⟨tb, .slice x2 nl xc2, .slice y2 ml yc2, e, j⟩)) := by
            have kp := HI.out.kp
            have hnode : ∀ a, a ≤ ts.length → tb ≠ nb l ts a := fun a ha e => by have h1 := HTB.out.2.2 a ha; have h2 := HTB.out.1; omega
            have hfx : ∀ {v : Value}, From (wc.heap.size + 2) v → ∀ a, a ≤ ts.length → ∀ q, v.ownBlock = some q → q ≠ nb l ts a := fun {v} hf a ha => from_ne hf (by have h1 := HTB.out.2.2 a ha; have h2 := HBWX.out.size; omega)
            have hlx : ∀ {v : Value}, LtB w4 v → ∀ q, v.ownBlock = some q → q ≠ tb := fun {v} hv q hq e => by have h1 := hv q hq; rw [HTL.out] at h1; omega
            have hrd : ∀ {v : Value} {lst : List UInt8}, Rd w5 v lst → From (wc.heap.size + 2) v → LtB w4 v → Rd wr v lst := fun {v lst} hr hf hv => by
              rcases hr with hr | ⟨b, off, cap, rfl, k1, k2, k3⟩
              · exact .inl hr
              · refine .inr ⟨b, off, cap, rfl, k1, k2, fun i u hu => kp.cell (p := ⟨b, off + i, none⟩) ?_ (k3 i u hu)⟩
                rintro (⟨a, ha, he⟩ | he)
                · exact hfx hf a ha b rfl he
                · exact hlx hv b rfl he
            refine sk_insert (T := ⟨tb, .slice x2 nl xc2, .slice y2 ml yc2, e, j⟩) HS5.out HA.out ⟨hn1, hn8⟩ hnode kp HI.out.nc HI.out.nz HI.out.nk HI.out.tk (fun t ht i hi => ?_) HI.out.tc HI.out.tz ⟨⟨?_, ?_, ?_, ?_⟩, hrd HXY5.out.1 HXY.out.1.2 HXY.out.2.2.1, hrd HXY5.out.2.1 HXY.out.2.1.2 HXY.out.2.2.2⟩ (fun a ha => ⟨hfx HXY.out.1.2 a ha, hfx HXY.out.2.1.2 a ha⟩) ⟨hlx HXY.out.2.2.1, hlx HXY.out.2.2.2⟩ (fun t ht => ?_) ⟨HXY5.out.2.2.1.grow kp.size, HXY5.out.2.2.2.grow kp.size⟩ HAY.out HLEN.out
            · obtain ⟨i0, hi0, rfl⟩ := List.getElem_of_mem ht
              have h1 := HI.out.ne (i0 + 1) (by omega) i hi
              rw [nb_succ l hi0] at h1
              exact h1
            · show wr.cell? ⟨tb, 0, none⟩ = _; rw [HI.out.te 0 (by omega)]; exact HT4.out.c0
            · show wr.cell? ⟨tb, 1, none⟩ = some (.int .u64 (e.2.1 : Int)); rw [HI.out.te 1 (by omega), HE.out.1]; exact HT4.out.c1
            · show wr.cell? ⟨tb, 2, none⟩ = some (.int .u8 (e.2.2.1.toNat : Int)); rw [HI.out.te 2 (by omega), HE.out.2.1]; exact HT4.out.c2
            · show wr.cell? ⟨tb, 3, none⟩ = _; rw [HI.out.te 3 (by omega)]; exact HT4.out.c3
            · have h1 := HS.out.inn t ht
              exact ⟨fun q hq e => by have h2 := h1.1 q hq; have h3 := HTB.out.1; have e' : q = tb := e; omega, fun q hq e => by have h2 := h1.2 q hq; have h3 := HTB.out.1; have e' : q = tb := e; omega⟩
          have HKP : Hid (Keeps (fun i => ∃ a, a ≤ ts.length ∧ i = nb l ts a) w wr) := by
            have kp := HI.out.kp
            refine ⟨kp.os.trans HB5.out.os, kp.tape.trans HB5.out.tape, kp.output.trans HB5.out.output, Nat.le_trans HB5.out.size kp.size, fun i hi hno => ?_⟩
            rw [kp.block i (Nat.lt_of_lt_of_le hi HB5.out.size) (fun h => by
              rcases h with h | h
              · exact hno h
              · have h3 := HTB.out.1; omega)]
            exact HB5.out.block i hi
          go_wp2
          go_ret
          exact .inr (.inr ⟨HC.out, HAY.out, rfl, ⟨tb, .slice x2 nl xc2, .slice y2 ml yc2, e, j⟩, rfl, rfl, ⟨HTB.out.1, fun a n c e => by have h1 := HXY.out.1.2 a n c e; have h2 := HBWX.out.size; omega, fun a n c e => by have h1 := HXY.out.2.1.2 a n c e; have h2 := HBWX.out.size; omega⟩, by rw [HCNT.out]; exact HFIN.out, HKP.out⟩)

theorem skinsert_any (w : World) (l : Nat) (ts : List Tow) (xv yv : Value) (e : EnB) (hh : Int) (hS : SkAt w l ts) (hx : Rd w xv e.1) (hy : Rd w yv e.2.2.2) (hl1 : e.1.length ≤ 1000000) (hl2 : e.2.2.2.length ≤ 1000000) (hlen : ts.length + 1 ≤ 1000) :
    Calls Try.prog 13 #[.pointer (some ⟨l, 0, none⟩), enV xv (e.2.1 : Int) (e.2.2.1.toNat : Int) yv, .int .i64 hh] w fun o w' => InsPost l ts e hh w w' o :=
  (skinsert_own w l ts xv yv e hh hS hx hy hl1 hl2 hlen).mono (fun _ _ h => h.post)

end Go.Proofs.Ytekmlbbfipldoaa

/- bartizanlaw08.entry, awake. -/
namespace Go.Proofs.Ytekmlbbfipldoaa
open Go.RowKit Go.Shelf
set_option linter.unusedVariables false

set_option maxHeartbeats 1000000 in
theorem entry8_any (w : World) (t : ByteArray) (s : Nat) (l : List UInt8) (hl : t.data.toList = l) (hl2 : l.length ≤ 100) :
    Calls Try.prog 28 #[.string t, .int .u64 (s : Int)] w fun e w' => ∃ x, e = .returned (.agg #[x, .int .u64 (s : Int), .int .u8 2, .slice none 0 0]) ∧ Rd w' x l ∧ Below w.heap.size w w' := by
  have hb0 := below_box4 w (.cells #[.slice none 0 0, .int .u64 0, .int .u8 0, .slice none 0 0] 38)
  have br := box4f_new w (.slice none 0 0) (.int .u64 0) (.int .u8 0) (.slice none 0 0) 38
  obtain ⟨cap, w1, hc, hr, hb, hs⟩ := conv_str (w.alloc (.cells #[.slice none 0 0, .int .u64 0, .int .u8 0, .slice none 0 0] 38)) t l hl hl2
  obtain ⟨⟨c0, c1, c2, c3⟩, f0, f1, f2, f3⟩ := br.below hb (Nat.le_refl _)
  have HB : Hid (Below w.heap.size w w1) := bsplit hb0 hb
  rw [show (w.alloc (.cells #[.slice none 0 0, .int .u64 0, .int .u8 0, .slice none 0 0] 38)).heap.size = w.heap.size + 1 by simp] at hc hr hs
  have HR : Hid (Rd w1 (.slice (some ⟨w.heap.size + 1, 0, none⟩) l.length cap) l) := hr
  clear hb0 br hb hr hs hl
  go_enter Try.func28, Try.ntmps28
  go_wp2
  refine bodyPost_ret (v := .agg #[.slice (some ⟨w.heap.size + 1, 0, none⟩) l.length cap, .int .u64 (s : Int), .int .u8 2, .slice none 0 0]) (by simp [results, Try.results28, go_sem, c0, c1, c2, c3]) rfl ⟨_, rfl, rd_store4 HR.out (fun g hg => ?_) _ _ _ _, below_store4 HB.out (Nat.le_refl _) _ _ _ _⟩
  simp only [Value.ownBlock, Option.some.injEq] at hg; omega

/-- what Insert does, where it does it -/
theorem ins_ok {l : Nat} {ts : List Tow} {e : EnB} {hh : Int} {w w' : World} {o : Ending} (h : InsPost l ts e hh w w' o) (h1 : chkSk e hh = 0) (h2 : anyE (esT ts) e = false) :
    o = .returned (.int .i64 0) ∧ ∃ T : Tow, T.e = e ∧ (T.h : Int) = hh ∧ w.heap.size ≤ T.b ∧ SkAt w' l (insT ts (cntE (esT ts) e) T) ∧ Keeps (fun i => ∃ a, a ≤ ts.length ∧ i = nb l ts a) w w' := by
  rcases h with ⟨h, _⟩ | ⟨_, h, _⟩ | ⟨_, _, ho, hT⟩
  · exact absurd h1 h
  · rw [h2] at h; cases h
  · exact ⟨ho, hT⟩

/-- the version of an entry -/
theorem fld_key (w : World) (x a b y : Value) : (Instr.field 38 (.agg #[x, a, b, y]) 0).run Try.prog w = .ok (.agg #[x, a, b]) w := by rfl

theorem aw1 : chkSk ([98], 1, 2, []) 2 = 0 := by decide +kernel
theorem aw2 : chkSk ([97], 1, 2, []) 1 = 0 := by decide +kernel
theorem aw3 : anyE [([98], 1, 2, [])] ([97], 1, 2, []) = false := by decide +kernel
theorem aw4 : cntE [([98], 1, 2, [])] ([97], 1, 2, []) = 0 := by decide +kernel
theorem aw5 : cntE [([97], 1, 2, []), ([98], 1, 2, [])] ([98], 5, 2, []) = 1 := by decide +kernel

set_option maxRecDepth 100000 in
set_option maxHeartbeats 4000000 in
theorem skawake_any (w : World) :
    Calls Try.prog 9 #[] w fun e w' => e = .returned (.bool true) ∧ Below w.heap.size w w' := by
  go_enter Try.func9, Try.ntmps9
  go_wp2_with fail
  refine (sknew_any w).mono ?_
  rintro e w1 ⟨rfl, hS1, hb1⟩
  have HS1 : Hid _ := hS1
  have HB1 : Hid (Below w.heap.size w w1) := hb1
  clear hS1 hb1
  go_wp2_with fail
  refine (entry8_any w1 _ 1 [98] rfl (by simp)).mono ?_
  rintro e w2 ⟨x2, rfl, rx2, hb2⟩
  have HB2 : Hid (Below w.heap.size w w2) := bsplit HB1.out hb2
  have hin1 := skinsert_any w2 w.heap.size [] x2 (.slice none 0 0) ([98], 1, 2, []) 2 (SkAt.below HS1.out hb2) rx2 (.inl ⟨rfl, rfl⟩) (by simp) (by simp) (by simp)
  obtain ⟨xa2, xc2, rfl⟩ := rx2.len
  simp only [enV] at hin1
  clear rx2 hb2
  go_wp2_with fail
  refine hin1.mono ?_
  rintro e w3 hp3
  obtain ⟨rfl, T, hTe, hTh, hTb, hS3, hk3⟩ := ins_ok hp3 aw1 rfl
  have HS3 : Hid (SkAt w3 w.heap.size [T]) := hS3
  have HB3 : Hid (Below w.heap.size w w3) := HB2.out.trans (hk3.below (fun i ⟨a, ha, e⟩ => by have : a = 0 := by simpa using ha
                                                                                              subst this; rw [e]; exact Nat.le_refl _) HB2.out.size)
  have HT : Hid (T.e = ([98], 1, 2, []) ∧ T.h = 2 ∧ w.heap.size ≤ T.b) := ⟨hTe, by omega, by have := HB2.out.size; omega⟩
  clear hin1 hp3 hTe hTh hTb hS3 hk3
  go_wp2_with fail
  refine (entry8_any w3 _ 1 [97] rfl (by simp)).mono ?_
  rintro e w4 ⟨x4, rfl, rx4, hb4⟩
  have HB4 : Hid (Below w.heap.size w w4) := bsplit HB3.out hb4
  have hin2 := skinsert_any w4 w.heap.size [T] x4 (.slice none 0 0) ([97], 1, 2, []) 1 (SkAt.below HS3.out hb4) rx4 (.inl ⟨rfl, rfl⟩) (by simp) (by simp) (by simp)
  obtain ⟨xa4, xc4, rfl⟩ := rx4.len
  simp only [enV] at hin2
  clear rx4 hb4
  go_wp2_with fail
  refine hin2.mono ?_
  rintro e w5 hp5
  have hes : esT [T] = [([98], 1, 2, [])] := by simp [esT, HT.out.1]
  obtain ⟨rfl, T2, h2e, h2h, h2b, hS5, hk5⟩ := ins_ok hp5 aw2 (by rw [hes]; exact aw3)
  rw [hes, aw4] at hS5
  have HS5 : Hid (SkAt w5 w.heap.size [T2, T]) := hS5
  have HB5 : Hid (Below w.heap.size w w5) := HB4.out.trans (hk5.below (fun i ⟨a, ha, e⟩ => by
    have ha' : a = 0 ∨ a = 1 := by simp at ha; omega
    rcases ha' with rfl | rfl
    · rw [e]; exact Nat.le_refl _
    · rw [e]; exact HT.out.2.2) HB4.out.size)
  have HES : Hid (esT [T2, T] = [([97], 1, 2, []), ([98], 1, 2, [])]) := by show _ = _; simp [esT, HT.out.1, h2e]
  have HRW : Hid (ksT (rowT [T2, T] 1) = [([98], 1, 2)]) := by
    have e1 : T2.h = 1 := by omega
    show _ = _; simp [ksT, rowT, kyE, HT.out.1, HT.out.2.1, e1]
  have HSM : Hid (∀ t ∈ [T2, T], t.e.1.length ≤ 1000 ∧ t.e.2.2.2.length ≤ 1000) := by
    intro t ht
    simp at ht
    rcases ht with rfl | rfl
    · rw [h2e]; simp
    · rw [HT.out.1]; simp
  clear hin2 hp5 h2e h2h h2b hS5 hk5 hes
  go_wp2_with fail
  refine (entry8_any w5 _ 5 [98] rfl (by simp)).mono ?_
  rintro e w6 ⟨x6, rfl, rx6, hb6⟩
  have HS6 : Hid (SkAt w6 w.heap.size [T2, T]) := SkAt.below HS5.out hb6
  have HB6 : Hid (Below w.heap.size w w6) := bsplit HB5.out hb6
  have hbf := skbefore_any w6 w.heap.size [T2, T] x6 ([98], 5, 2, []) HS6.out rx6 (fun t ht => by have := HSM.out t ht; omega)
  rw [HES.out, aw5] at hbf
  obtain ⟨xa6, xc6, rfl⟩ := rx6.len
  clear rx6 hb6
  have hfd := fld_key w6 (.slice xa6 1 xc6) (.int .u64 5) (.int .u8 2) (.slice none 0 0)
  go_wp2_with fail
  refine hbf.mono ?_
  rintro e w7 ⟨hb7, hq7⟩
  simp only [Nat.succ_ne_zero, ite_false, Nat.sub_self, List.getElem?_cons_zero] at hq7
  obtain ⟨x7, y7, rfl, rx7, ry7⟩ := hq7
  have HS7 : Hid (SkAt w7 w.heap.size [T2, T]) := SkAt.below HS6.out hb7
  have HB7 : Hid (Below w.heap.size w w7) := bsplit HB6.out hb7
  obtain ⟨xa7, xc7, rfl⟩ := rx7.1.len
  obtain ⟨ya7, yc7, rfl⟩ := ry7.1.len
  have HR7 : Hid _ := rx7.1
  clear hbf hb7 rx7 ry7
  simp only [enV]
  go_wp2_with fail
  have hb8 := below_box4 w7 (.cells #[.slice xa7 1 xc7, .int .u64 1, .int .u8 2, .slice ya7 0 yc7] 38)
  have bx8 := box4_new w7 (.slice xa7 1 xc7) (.int .u64 1) (.int .u8 2) (.slice ya7 0 yc7) 38
  have hrw := skrows_any _ w.heap.size [T2, T] (SkAt.below HS7.out hb8) HSM.out 2 1 rfl (by omega)
  rw [HRW.out] at hrw
  have HB8 : Hid _ := bsplit HB7.out hb8
  have HS8 : Hid _ := SkAt.below HS7.out hb8
  have HR8 : Hid _ := Rd.below HR7.out hb8 (Nat.le_refl _)
  have HX8 : Hid _ := bx8
  clear hb8 bx8 hfd
  refine hrw.mono ?_
  rintro e w9 ⟨v, rfl, hO9, hb9⟩
  have HS9 : Hid (SkAt w9 w.heap.size [T2, T]) := SkAt.below HS8.out hb9
  have HB9 : Hid (Below w.heap.size w w9) := bsplit HB8.out hb9
  have hr7 := Rd.below HR8.out hb9 (Nat.le_refl _)
  obtain ⟨e0, _, _, _⟩ := Box4.below HX8.out hb9 (Nat.le_refl _)
  have hcv7 := conv_rd hr7
  obtain ⟨cs, hrow, hel⟩ := hO9
  obtain ⟨x9, k0, _, _, rx9⟩ := hel 0 (by simp)
  obtain ⟨g9, c9, hv, hg9, hl9⟩ := hrow.form (by simp)
  subst hv
  have hcell := hrow.cells (g := g9) rfl _ _ k0
  rw [Addr.add_lit] at hcell
  have hcv9 := conv_rd rx9.1
  obtain ⟨xa9, xc9, rfl⟩ := rx9.1.len
  have hln := sklen_any w9 w.heap.size [T2, T] HS9.out
  simp only [List.length_cons, List.length_nil, Nat.zero_add, Nat.zero_mul, Nat.add_zero, List.getElem_cons_zero] at hcell hcv9 hcv7 hln e0 ⊢
  clear hrw hb9 hr7 hel hrow k0 rx9
  go_wp2_with fail
  refine hln.mono ?_
  rintro e w10 ⟨rfl, hb10⟩
  have HB10 : Hid (Below w.heap.size w w10) := bsplit HB9.out hb10
  clear hb10 hln
  go_wp2
  go_ret
  exact ⟨rfl, HB10.out⟩

end Go.Proofs.Ytekmlbbfipldoaa

/- Rows of puts (an entry and a height); bartizanlaw08.few. -/
namespace Go.Proofs.Ytekmlbbfipldoaa
set_option maxRecDepth 20000
open Go.ChangeShapes Go.WideShapes Go.ChangeAt Go.RowKit
set_option linter.unusedVariables false

theorem OwnEF.lt {B : Nat} {w : World} {v : Value} {es : List EnB} (h : OwnEF B w v es) (q : Nat) (hq : v.ownBlock = some q) : B ≤ q ∧ q < w.heap.size := by
  obtain ⟨cs, hr, _⟩ := h
  exact hr.lt q hq
theorem OwnEF.drew {B : Nat} {w : World} {v : Value} {es : List EnB} (h : OwnEF B w v es) : OwnEF B w.drew v es := h

set_option maxRecDepth 20000 in
set_option maxHeartbeats 4000000 in
theorem fewEF_any (w : World) (v : Value) (es : List EnB) (n : Nat) (hv : ArgE w v es) (hn : n ≤ 1000) :
    Calls Try.prog 29 #[v, .int .i64 (n : Int)] w fun e w' => ∃ x, e = .returned x ∧ OwnEF w.heap.size w' x (fewE n es) ∧ Below w.heap.size w w' := by
  obtain ⟨i0, hi, hz0, hz1, hz2⟩ := info_parts infoEn
  have hv0 := hv
  obtain ⟨ao, cap, rfl, h1, h2, h3⟩ := hv
  unfold maxLen at h2
  have H3 : Hid _ := hv0
  obtain ⟨N, hN⟩ : ∃ N, es.length = N := ⟨_, rfl⟩
  rw [hN] at h1 ⊢
  have HN : Hid (es.length = N) := hN
  clear hv0 h3 hN
  go_enter Try.func29, Try.ntmps29
  go_wp2_with fail
  go_loopg [5, 10] N (fun gk pv iv wr => ∃ j n' c' : Nat, ∃ a' : Option Addr, gk + j = N ∧ iv = .int .i64 (j : Int) ∧ pv = .slice a' n' c' ∧ Hid (OwnEF w.heap.size wr pv (fewE n (es.take j))) ∧ Hid (Below w.heap.size w wr))
  case atStart => exact ⟨0, 0, 0, none, by omega, rfl, rfl, by show OwnEF _ _ _ _; rw [List.take_zero, show fewE n [] = [] by simp [fewE]]; exact OwnEF.nil _ _, Below.refl _ _⟩
  case round =>
    obtain ⟨j, n', c', a', hj, rfl, rfl, HO, HB⟩ := hrel
    by_cases hlt : j < N
    · have hlt2 : j < es.length := by rw [HN.out]; exact hlt
      obtain ⟨_, _, e, _, _, h3⟩ := argE_below (show ArgE w _ es from H3.out) HB.out (Nat.le_refl _)
      cases e
      obtain ⟨b, off, rfl, xv, yv, c0, c1, c2, c3, rx, ry⟩ := h3 j hlt2
      obtain ⟨x1, x2, ex⟩ := Arg.shape rx
      obtain ⟨y1, y2, ey⟩ := Arg.shape ry
      subst ex ey
      obtain ⟨⟨ol, osq, ok, oo⟩, ho⟩ : ∃ o, es[j] = o := ⟨_, rfl⟩
      rw [ho] at c0 c1 c2 c3 rx ry
      obtain ⟨q1, q2⟩ : gk - 1 < gk ∧ gk - 1 + (j + 1) = N := by omega
      have hfl : (fewE n (es.take j)).length = min n j := by unfold fewE; rw [List.length_map, List.length_take, List.length_take, Nat.min_eq_left (show j ≤ es.length by omega)]
      have hnl : n' = min n j := by
        obtain ⟨cs, hrow, _⟩ := HO.out
        rw [ownrow_len hrow, hfl]
      have HTL : Hid ((fewE n (es.take j)).length = n') := by show _ = _; rw [hfl, hnl]
      have HNB : Hid (n' ≤ 1000) := by show _ ≤ _; omega
      obtain ⟨kk, hkk⟩ : ∃ kk, ok.toNat = kk := ⟨_, rfl⟩
      have HKK : Hid (ok.toNat = kk) := hkk
      simp only at c0 c1 c2 c3 rx ry
      rw [hkk] at c2
      obtain ⟨nl, hnlq⟩ : ∃ nl, ol.length = nl := ⟨_, rfl⟩
      obtain ⟨oln, holn⟩ : ∃ oln, oo.length = oln := ⟨_, rfl⟩
      rw [hnlq] at rx c0
      rw [holn] at ry c3
      have HRX : Hid (Arg wr (.slice x1 nl x2) ol) := rx
      have HRY : Hid (Arg wr (.slice y1 oln y2) oo) := ry
      clear hkk rx ry h3 hnlq holn hnl hfl
      by_cases hjn : j < n
      · have hjI : (j : Int) < (n : Int) := by omega
        obtain ⟨ck, HCK⟩ : ∃ ck, Hid (ol.take 80 = ck) := ⟨_, rfl⟩
        obtain ⟨co, HCO⟩ : ∃ co, Hid (oo.take 600 = co) := ⟨_, rfl⟩
        have HR : Hid (fewE n (es.take (j + 1)) = fewE n (es.take j) ++ [(ck, osq, ok, co)]) := by show _ = _; rw [fewE_take hlt2 hjn, ho]; unfold cutE; rw [← HCK.out, ← HCO.out]
        have hb0 := below_box4 wr (.cells #[.slice x1 nl x2, .int .u64 (osq : Int), .int .u8 (kk : Int), .slice y1 oln y2] 38)
        have bx := (box4_new wr (.slice x1 nl x2) (.int .u64 (osq : Int)) (.int .u8 (kk : Int)) (.slice y1 oln y2) 38).drew
        have rx0 := arg_drew (HRX.out.below hb0 (Nat.le_refl _))
        have ry0 := arg_drew (HRY.out.below hb0 (Nat.le_refl _))
        have HO0 : Hid (OwnEF w.heap.size (wr.alloc (.cells #[.slice x1 nl x2, .int .u64 (osq : Int), .int .u8 (kk : Int), .slice y1 oln y2] 38)).drew (.slice a' n' c') (fewE n (es.take j))) := (HO.out.below hb0 (Nat.le_refl _)).drew
        have HB0 : Hid (Below w.heap.size w (wr.alloc (.cells #[.slice x1 nl x2, .int .u64 (osq : Int), .int .u8 (kk : Int), .slice y1 oln y2] 38)).drew) := (HB.out.alloc HB.out.size _).drew
        have HNE : Hid (some wr.heap.size ≠ (Value.slice a' n' c').ownBlock) := by
          obtain ⟨cs, hrow, _⟩ := HO.out
          exact own_ne_new hrow
        clear ho hb0
        go_wp2_with fail
        go_region_held3 (fun w' => w'.cell? ⟨wr.heap.size, 0, none⟩ = some (.slice x1 nl x2) ∧ w'.cell? ⟨wr.heap.size, 1, none⟩ = some (.int .u64 (osq : Int)) ∧ w'.cell? ⟨wr.heap.size, 2, none⟩ = some (.int .u8 (kk : Int)) ∧ w'.cell? ⟨wr.heap.size, 3, none⟩ = some (.slice y1 oln y2))
          (first | exact ⟨b4.c0, b4.c1, b4.c2, b4.c3⟩ | exact ⟨be.c0, be.c1, be.c2, be.c3⟩ | exact ⟨by2.c0, by2.c1, by2.c2, by2.c3⟩ | exact ⟨bx2.c0, bx2.c1, bx2.c2, bx2.c3⟩ | exact ⟨bx.c0, bx.c1, bx.c2, bx.c3⟩)
          (first
            | (go_at_call 39; refine (cut_any _ _ ol 80 rx0 (by omega)).mono ?_; rintro e wx ⟨x, rfl, ox, hbx⟩; rw [HCK.out] at ox; obtain ⟨gx, kx, hx⟩ := ox.shape; subst hx; have bx2 := bx.below hbx (Nat.le_refl _); clear rx0)
            | (go_at_call 39; refine (cut_any _ _ oo 600 (ry0.below hbx (Nat.le_refl _)) (by omega)).mono ?_; rintro e wy ⟨y, rfl, oy, hby⟩; rw [HCO.out] at oy; obtain ⟨gy, ky, hy⟩ := oy.shape; subst hy; have by2 := bx2.below hby (Nat.le_refl _); have be := by2.alloc (.cells #[.slice (some ⟨gx, 0, none⟩) ck.length kx, .int .u64 (osq : Int), .int .u8 (kk : Int), .slice (some ⟨gy, 0, none⟩) co.length ky] 38))
            | (have hbe := below_box4 wy (.cells #[.slice (some ⟨gx, 0, none⟩) ck.length kx, .int .u64 (osq : Int), .int .u8 (kk : Int), .slice (some ⟨gy, 0, none⟩) co.length ky] 38)
               have hOe := ((HO0.out.below hbx (Nat.le_refl _)).below hby (Nat.le_refl _)).below hbe (Nat.le_refl _)
               have hBx := HB0.out.trans (hbx.mono HB0.out.size)
               have hBy := hBx.trans (hby.mono hBx.size)
               have hBe := hBy.trans (hbe.mono hBy.size)
               have oxe := ((ox.below hby (Nat.le_refl _)).below hbe (Nat.le_refl _))
               have oye := (oy.below hbe (Nat.le_refl _))
               obtain ⟨cs, hrow, hel⟩ := hOe
               rw [HTL.out] at hrow
               have hsz : w.heap.size ≤ wy.heap.size := hBy.size
               have hnb9 := HNB.out
               have hlow : ∀ q, (Value.slice a' n' c').ownBlock = some q → q < (wr.alloc (.cells #[.slice x1 nl x2, .int .u64 (osq : Int), .int .u8 (kk : Int), .slice y1 oln y2] 38)).drew.heap.size := fun q hq => (HO0.out.lt q hq).2
               have hlow2 : ∀ q, (Value.slice a' n' c').ownBlock = some q → q < wx.heap.size := fun q hq => Nat.lt_of_lt_of_le (hlow q hq) hbx.size
               refine step_append_lies _ rfl (.tmp 18) (.tmp 34) 28 rfl w.heap.size 38 i0 (.agg #[.slice none 0 0, .int .u64 0, .int .u8 0, .slice none 0 0]) 4 64 Try.underlying28 hi hz0 hz1 hz2 rfl (by decide) (.slice a' n' c') n' cs rfl hrow ⟨wy.heap.size, 0, none⟩ 1 1 [.slice (some ⟨gx, 0, none⟩) ck.length kx, .int .u64 (osq : Int), .int .u8 (kk : Int), .slice (some ⟨gy, 0, none⟩) co.length ky] rfl rfl (laid4 _ _ _ _ _ _) (oneE _ _ _ _ _ _ _ _) (by decide) (by simp only [maxLen]; omega) (by omega) hBe.size _ rfl ?_
               intro g4 c4 w4 hown hgrow hat hlt4
               have b4 := be.grown hgrow HNE.out
               have hown' := hown
               rw [← HKK.out] at hown'
               have HP : Hid (OwnEF w.heap.size w4 (.slice (some ⟨g4, 0, none⟩) (n' + 1) c4) (fewE n (es.take j) ++ [(ck, osq, ok, co)])) := OwnEF.push (ck, osq, ok, co) HTL.out hrow hel ⟨oxe.rd, neb_of ox.from hlow oxe.rd, fun a n c e => Nat.le_trans HB0.out.size (ox.from a n c e)⟩ ⟨oye.rd, neb_of oy.from hlow2 oye.rd, fun a n c e => Nat.le_trans hBx.size (oy.from a n c e)⟩ hown' hgrow hat
               have HB4 : Hid (Below w.heap.size w w4) := hBe.grown hgrow hBe.size (fun k' e => (hrow.lt k' e).1))
            | fail)
        all_goals
          clear bx ry0
          go_wp2_with fail
          go_roundg (gk - 1)
          case measure => exact q1
          case rel => exact ⟨j + 1, _, c4, _, q2, by go_num, rfl, by show OwnEF _ _ _ _; rw [HR.out]; exact HP.out, HB4⟩
      · have hjI : ¬ (j : Int) < (n : Int) := by omega
        have HST : Hid (fewE n (es.take (j + 1)) = fewE n (es.take j)) := fewE_stay hjn
        have hb0 := below_box4 wr (.cells #[.slice x1 nl x2, .int .u64 (osq : Int), .int .u8 (kk : Int), .slice y1 oln y2] 38)
        have HO9 : Hid _ := HO.out.below hb0 (Nat.le_refl _)
        have HB9 : Hid _ := HB.out.alloc HB.out.size (.cells #[.slice x1 nl x2, .int .u64 (osq : Int), .int .u8 (kk : Int), .slice y1 oln y2] 38)
        clear ho hb0
        go_wp2_with fail
        go_roundg (gk - 1)
        case measure => exact q1
        case rel => exact ⟨j + 1, n', c', a', q2, by go_num, rfl, by show OwnEF _ _ _ _; rw [HST.out]; exact HO9.out, HB9.out⟩
    · have hjN : j = N := by omega
      subst hjN
      have HE : Hid (fewE n (es.take j) = fewE n es) := by show _ = _; rw [← HN.out, List.take_length]
      go_wp2
      go_ret
      exact ⟨_, rfl, by rw [← HE.out]; exact HO.out, HB.out⟩


/-- an entry and a height -/
abbrev PtB := EnB × Int

/-- the five cells of a put -/
def PtAt (R : World → Value → List UInt8 → Prop) (w : World) (b o : Nat) (p : PtB) : Prop :=
  ∃ x y, w.cell? ⟨b, o, none⟩ = some x ∧ w.cell? ⟨b, o + 1, none⟩ = some (.int .u64 (p.1.2.1 : Int)) ∧ w.cell? ⟨b, o + 2, none⟩ = some (.int .u8 (p.1.2.2.1.toNat : Int)) ∧ w.cell? ⟨b, o + 3, none⟩ = some y ∧ w.cell? ⟨b, o + 4, none⟩ = some (.int .i64 p.2) ∧ R w x p.1.1 ∧ R w y p.1.2.2.2

/-- a slice of puts -/
def LsP (R : World → Value → List UInt8 → Prop) (w : World) (v : Value) (ps : List PtB) : Prop :=
  ∃ ao cap, v = .slice ao ps.length cap ∧ ps.length ≤ cap ∧ cap ≤ maxLen ∧ ∀ j (h : j < ps.length), ∃ b off, ao = some ⟨b, off, none⟩ ∧ PtAt R w b (off + j * 5) ps[j]

abbrev RdPt := LsP Rd
abbrev ArgPt := LsP Arg

theorem LsP.belowR {R : World → Value → List UInt8 → Prop} {B : Nat} {w w' : World} {v : Value} {es : List PtB} (h : LsP R w v es) (hR : ∀ x l, R w x l → R w' x l) (hb : Below B w w') (hB : w.heap.size ≤ B) : LsP R w' v es := by
  obtain ⟨ao, cap, rfl, h1, h2, h3⟩ := h
  refine ⟨ao, cap, rfl, h1, h2, fun j hj => ?_⟩
  obtain ⟨b, off, e, x, y, c0, c1, c2, c3, c4, rx, ry⟩ := h3 j hj
  have hl : b < B := Nat.lt_of_lt_of_le (World.block_lt_of_cell? w _ c0) hB
  exact ⟨b, off, e, x, y, (hb.cell (p := ⟨b, off + j * 5, none⟩) hl).trans c0, (hb.cell (p := ⟨b, off + j * 5 + 1, none⟩) hl).trans c1, (hb.cell (p := ⟨b, off + j * 5 + 2, none⟩) hl).trans c2, (hb.cell (p := ⟨b, off + j * 5 + 3, none⟩) hl).trans c3, (hb.cell (p := ⟨b, off + j * 5 + 4, none⟩) hl).trans c4, hR _ _ rx, hR _ _ ry⟩

theorem rdPt_below {B : Nat} {w w' : World} {v : Value} {es : List PtB} (h : RdPt w v es) (hb : Below B w w') (hB : w.heap.size ≤ B) : RdPt w' v es := h.belowR (fun _ _ hr => hr.below hb hB) hb hB
theorem argPt_below {B : Nat} {w w' : World} {v : Value} {es : List PtB} (h : ArgPt w v es) (hb : Below B w w') (hB : w.heap.size ≤ B) : ArgPt w' v es := h.belowR (fun _ _ hr => hr.below hb hB) hb hB
theorem LsP.nil (R : World → Value → List UInt8 → Prop) (w : World) : LsP R w (.slice none 0 0) [] := ⟨none, 0, rfl, Nat.le_refl _, Nat.zero_le _, fun j h => absurd h (Nat.not_lt_zero _)⟩

/-- puts in a row of the call's own; what they hold lies elsewhere -/
def OwnPt (B : Nat) (w : World) (v : Value) (es : List PtB) : Prop :=
  ∃ cs, w.ownsRow B 40 5 v es.length cs ∧ ∀ j (h : j < es.length), ∃ x y, cs[j * 5]? = some x ∧ cs[j * 5 + 1]? = some (.int .u64 (es[j].1.2.1 : Int)) ∧ cs[j * 5 + 2]? = some (.int .u8 (es[j].1.2.2.1.toNat : Int)) ∧ cs[j * 5 + 3]? = some y ∧ cs[j * 5 + 4]? = some (.int .i64 es[j].2) ∧ (Rd w x es[j].1.1 ∧ NeB x es[j].1.1 v ∧ From B x) ∧ (Rd w y es[j].1.2.2.2 ∧ NeB y es[j].1.2.2.2 v ∧ From B y)

theorem OwnPt.nil (B : Nat) (w : World) : OwnPt B w (.slice none 0 0) [] := ⟨[], World.ownsRow_nil _ _ _ _, fun _ h => absurd h (Nat.not_lt_zero _)⟩

theorem OwnPt.below {B C : Nat} {w w' : World} {v : Value} {es : List PtB} (h : OwnPt B w v es) (hb : Below C w w') (hC : w.heap.size ≤ C) : OwnPt B w' v es := by
  obtain ⟨cs, hr, hj⟩ := h
  have hb' : Below w.heap.size w w' := ⟨hb.os, hb.tape, hb.output, hb.size, fun i hi => hb.block i (Nat.lt_of_lt_of_le hi hC)⟩
  refine ⟨cs, row_below hr hb', fun j h => ?_⟩
  obtain ⟨x, y, c0, c1, c2, c3, c4, ox, oy⟩ := hj j h
  exact ⟨x, y, c0, c1, c2, c3, c4, ⟨ox.1.below hb hC, ox.2⟩, ⟨oy.1.below hb hC, oy.2⟩⟩

theorem OwnPt.drew {B : Nat} {w : World} {v : Value} {es : List PtB} (h : OwnPt B w v es) : OwnPt B w.drew v es := h

theorem OwnPt.rd {B : Nat} {w : World} {v : Value} {es : List PtB} (h : OwnPt B w v es) : RdPt w v es := by
  obtain ⟨cs, hr, hj⟩ := h
  have hr2 := hr
  rcases hr.2 with ⟨e, hn⟩ | ⟨g, cap, cur, e, hb, hg, h1, h2, h3, h4⟩
  · exact ⟨none, 0, by rw [e, hn], by omega, Nat.zero_le _, fun j hj => by omega⟩
  · subst e
    refine ⟨_, cap, rfl, h1, h2, fun j h => ⟨g, 0, rfl, ?_⟩⟩
    obtain ⟨x, y, c0, c1, c2, c3, c4, ox, oy⟩ := hj j h
    have hc := hr2.cells (g := g) rfl
    refine ⟨x, y, ?_, ?_, ?_, ?_, ?_, ox.1, oy.1⟩
    · have := hc _ _ c0; rwa [Addr.add_lit] at this
    · have := hc _ _ c1; rwa [Addr.add_lit] at this
    · have := hc _ _ c2; rwa [Addr.add_lit] at this
    · have := hc _ _ c3; rwa [Addr.add_lit] at this
    · have := hc _ _ c4; rwa [Addr.add_lit] at this

theorem OwnPt.lt {B : Nat} {w : World} {v : Value} {es : List PtB} (h : OwnPt B w v es) (q : Nat) (hq : v.ownBlock = some q) : B ≤ q ∧ q < w.heap.size := by
  obtain ⟨cs, hr, _⟩ := h
  exact hr.lt q hq

theorem own_pushPt {B g c n : Nat} {w w' : World} {v x y : Value} {es : List PtB} {cs : List Value} (o : PtB) (hl : es.length = n) (hrow : w.ownsRow B 40 5 v n cs)
    (hel : ∀ j (h : j < es.length), ∃ x y, cs[j * 5]? = some x ∧ cs[j * 5 + 1]? = some (.int .u64 (es[j].1.2.1 : Int)) ∧ cs[j * 5 + 2]? = some (.int .u8 (es[j].1.2.2.1.toNat : Int)) ∧ cs[j * 5 + 3]? = some y ∧ cs[j * 5 + 4]? = some (.int .i64 es[j].2) ∧ (Rd w x es[j].1.1 ∧ NeB x es[j].1.1 v ∧ From B x) ∧ (Rd w y es[j].1.2.2.2 ∧ NeB y es[j].1.2.2.2 v ∧ From B y))
    (hx : Rd w x o.1.1 ∧ NeB x o.1.1 v ∧ From B x) (hy : Rd w y o.1.2.2.2 ∧ NeB y o.1.2.2.2 v ∧ From B y) (hn : w'.ownsRow B 40 5 (.slice (some ⟨g, 0, none⟩) (n + 1) c) (n + 1) (cs ++ [x, .int .u64 (o.1.2.1 : Int), .int .u8 (o.1.2.2.1.toNat : Int), y, .int .i64 o.2])) (hg : w.grownBy w' v.ownBlock) (hat : v.ownBlock = some g ∨ g = w.heap.size) : OwnPt B w' (.slice (some ⟨g, 0, none⟩) (n + 1) c) (es ++ [o]) := by
  subst hl
  have hcl : cs.length = es.length * 5 := hrow.1
  refine ⟨_, by rw [List.length_append]; exact hn, fun j h => ?_⟩
  by_cases hj : j < es.length
  · obtain ⟨x', y', c0, c1, c2, c3, c4, ox, oy⟩ := hel j hj
    refine ⟨x', y', ?_, ?_, ?_, ?_, ?_, ?_, ?_⟩
    · rw [List.getElem?_append_left (by omega)]; exact c0
    · rw [List.getElem?_append_left (by omega), List.getElem_append_left hj]; exact c1
    · rw [List.getElem?_append_left (by omega), List.getElem_append_left hj]; exact c2
    · rw [List.getElem?_append_left (by omega)]; exact c3
    · rw [List.getElem?_append_left (by omega), List.getElem_append_left hj]; exact c4
    · rw [List.getElem_append_left hj]; exact ⟨rd_grown ox.1 hg ox.2.1, neb_step ox.2.1 ox.1 hat, ox.2.2⟩
    · rw [List.getElem_append_left hj]; exact ⟨rd_grown oy.1 hg oy.2.1, neb_step oy.2.1 oy.1 hat, oy.2.2⟩
  · have hje : j = es.length := by rw [List.length_append] at h; simp at h; omega
    subst hje
    have e : (es ++ [o])[es.length]'h = o := by simp
    rw [e]
    refine ⟨x, y, ?_, ?_, ?_, ?_, ?_, ⟨rd_grown hx.1 hg hx.2.1, neb_step hx.2.1 hx.1 hat, hx.2.2⟩, ⟨rd_grown hy.1 hg hy.2.1, neb_step hy.2.1 hy.1 hat, hy.2.2⟩⟩
    · rw [List.getElem?_append_right (by omega), show es.length * 5 - cs.length = 0 by omega]; rfl
    · rw [List.getElem?_append_right (by omega), show es.length * 5 + 1 - cs.length = 1 by omega]; rfl
    · rw [List.getElem?_append_right (by omega), show es.length * 5 + 2 - cs.length = 2 by omega]; rfl
    · rw [List.getElem?_append_right (by omega), show es.length * 5 + 3 - cs.length = 3 by omega]; rfl
    · rw [List.getElem?_append_right (by omega), show es.length * 5 + 4 - cs.length = 4 by omega]; rfl

theorem infoPt : (Try.prog.info? 40).map (fun i => (i.zero, i.size, i.bytes)) = some (some (.agg #[.slice none 0 0, .int .u64 0, .int .u8 0, .slice none 0 0, .int .i64 0]), 5, 72) := by kernel_rfl

theorem onePt (k s h : Int) (a b : Option Addr) (n m c d : Nat) : ∀ u ∈ [Value.slice a n c, .int .u64 s, .int .u8 k, .slice b m d, .int .i64 h], u.oneCell' = true := by
  intro u hu
  simp at hu
  rcases hu with rfl | rfl | rfl | rfl | rfl <;> rfl

/-- five cells in block b -/
structure Box5 (w : World) (b : Nat) (v0 v1 v2 v3 v4 : Value) : Prop where
  c0 : w.cell? ⟨b, 0, none⟩ = some v0
  c1 : w.cell? ⟨b, 1, none⟩ = some v1
  c2 : w.cell? ⟨b, 2, none⟩ = some v2
  c3 : w.cell? ⟨b, 3, none⟩ = some v3
  c4 : w.cell? ⟨b, 4, none⟩ = some v4

theorem box5_new (w : World) (v0 v1 v2 v3 v4 : Value) (t : TypeId) : Box5 (w.alloc (.cells #[v0, v1, v2, v3, v4] t)) w.heap.size v0 v1 v2 v3 v4 := by
  have h := heap_alloc_new w (.cells #[v0, v1, v2, v3, v4] t)
  have c := fun i => cell_of_row (w.alloc (.cells #[v0, v1, v2, v3, v4] t)) w.heap.size i _ t (0, 0) h
  exact ⟨by rw [c]; rfl, by rw [c]; rfl, by rw [c]; rfl, by rw [c]; rfl, by rw [c]; rfl⟩

theorem Box5.lt {w : World} {b : Nat} {v0 v1 v2 v3 v4 : Value} (h : Box5 w b v0 v1 v2 v3 v4) : b < w.heap.size := World.block_lt_of_cell? w _ h.c0

theorem Box5.below {B : Nat} {w w' : World} {b : Nat} {v0 v1 v2 v3 v4 : Value} (h : Box5 w b v0 v1 v2 v3 v4) (hb : Below B w w') (hB : w.heap.size ≤ B) : Box5 w' b v0 v1 v2 v3 v4 := by
  have hl : b < B := Nat.lt_of_lt_of_le h.lt hB
  exact ⟨by rw [hb.cell (p := ⟨b, 0, none⟩) hl]; exact h.c0, by rw [hb.cell (p := ⟨b, 1, none⟩) hl]; exact h.c1, by rw [hb.cell (p := ⟨b, 2, none⟩) hl]; exact h.c2, by rw [hb.cell (p := ⟨b, 3, none⟩) hl]; exact h.c3, by rw [hb.cell (p := ⟨b, 4, none⟩) hl]; exact h.c4⟩

theorem Box5.drew {w : World} {b : Nat} {v0 v1 v2 v3 v4 : Value} (h : Box5 w b v0 v1 v2 v3 v4) : Box5 w.drew b v0 v1 v2 v3 v4 := ⟨h.c0, h.c1, h.c2, h.c3, h.c4⟩
theorem Box5.alloc {w : World} {b : Nat} {v0 v1 v2 v3 v4 : Value} (h : Box5 w b v0 v1 v2 v3 v4) (o : Obj) : Box5 (w.alloc o) b v0 v1 v2 v3 v4 := h.below (below_box4 w o) (Nat.le_refl _)
theorem Box5.grown {w w' : World} {b : Nat} {v0 v1 v2 v3 v4 : Value} {row : Option Nat} (h : Box5 w b v0 v1 v2 v3 v4) (hg : w.grownBy w' row) (hne : some b ≠ row) : Box5 w' b v0 v1 v2 v3 v4 := by
  have e : w'.heap[b]? = w.heap[b]? := hg.block b h.lt hne
  exact ⟨(World.cell?_of_block (a := ⟨b, 0, none⟩) e).trans h.c0, (World.cell?_of_block (a := ⟨b, 1, none⟩) e).trans h.c1, (World.cell?_of_block (a := ⟨b, 2, none⟩) e).trans h.c2, (World.cell?_of_block (a := ⟨b, 3, none⟩) e).trans h.c3, (World.cell?_of_block (a := ⟨b, 4, none⟩) e).trans h.c4⟩

def cutP (p : PtB) : PtB := (cutE p.1, p.2)
def fewP (ps : List PtB) : List PtB := (ps.take 60).map cutP

theorem fewP_take {es : List PtB} {j : Nat} (h : j < es.length) (hn : j < 60) : fewP (es.take (j + 1)) = fewP (es.take j) ++ [cutP es[j]] := by
  unfold fewP
  rw [List.take_take, List.take_take, Nat.min_eq_right (by omega), Nat.min_eq_right (by omega), List.take_succ_eq_append_getElem h, List.map_append]
  rfl
theorem fewP_stay {es : List PtB} {j : Nat} (hn : ¬ j < 60) : fewP (es.take (j + 1)) = fewP (es.take j) := by
  unfold fewP
  rw [List.take_take, List.take_take, Nat.min_eq_left (by omega), Nat.min_eq_left (by omega)]
theorem fewP_len (es : List PtB) : (fewP es).length ≤ 60 := by
  unfold fewP; rw [List.length_map, List.length_take]; omega

theorem argE_one (w : World) (x y : Value) (e : EnB) (hx : Arg w x e.1) (hy : Arg w y e.2.2.2) : ArgE (w.alloc (.cells #[x, .int .u64 (e.2.1 : Int), .int .u8 (e.2.2.1.toNat : Int), y] 38)) (.slice (some ⟨w.heap.size, 0, none⟩) 1 1) [e] := by
  have hb := below_box4 w (.cells #[x, .int .u64 (e.2.1 : Int), .int .u8 (e.2.2.1.toNat : Int), y] 38)
  obtain ⟨c0, c1, c2, c3⟩ := box4_new w x (.int .u64 (e.2.1 : Int)) (.int .u8 (e.2.2.1.toNat : Int)) y 38
  refine ⟨_, 1, rfl, Nat.le_refl _, by decide, fun j hj => ?_⟩
  obtain rfl : j = 0 := by simp at hj; exact hj
  exact ⟨w.heap.size, 0, rfl, x, y, c0, c1, c2, c3, hx.below hb (Nat.le_refl _), hy.below hb (Nat.le_refl _)⟩

set_option maxRecDepth 20000 in
set_option maxHeartbeats 4000000 in
theorem fewP_any (w : World) (v : Value) (es : List PtB) (hv : ArgPt w v es) :
    Calls Try.prog 11 #[v] w fun e w' => ∃ x, e = .returned x ∧ OwnPt w.heap.size w' x (fewP es) ∧ Below w.heap.size w w' := by
  obtain ⟨i0, hi, hz0, hz1, hz2⟩ := info_parts infoPt
  have hv0 := hv
  obtain ⟨ao, cap, rfl, h1, h2, h3⟩ := hv
  unfold maxLen at h2
  have H3 : Hid _ := hv0
  obtain ⟨N, hN⟩ : ∃ N, es.length = N := ⟨_, rfl⟩
  rw [hN] at h1 ⊢
  have HN : Hid (es.length = N) := hN
  clear hv0 h3 hN
  go_enter Try.func11, Try.ntmps11
  go_wp2_with fail
  go_loopg [3, 8] N (fun gk pv iv wr => ∃ j n' c' : Nat, ∃ a' : Option Addr, gk + j = N ∧ iv = .int .i64 (j : Int) ∧ pv = .slice a' n' c' ∧ Hid (OwnPt w.heap.size wr pv (fewP (es.take j))) ∧ Hid (Below w.heap.size w wr))
  case atStart => exact ⟨0, 0, 0, none, by omega, rfl, rfl, by show OwnPt _ _ _ _; rw [List.take_zero, show fewP [] = [] by simp [fewP]]; exact OwnPt.nil _ _, Below.refl _ _⟩
  case round =>
    obtain ⟨j, n', c', a', hj, rfl, rfl, HO, HB⟩ := hrel
    by_cases hlt : j < N
    · have hlt2 : j < es.length := by rw [HN.out]; exact hlt
      obtain ⟨_, _, e, _, _, h3⟩ := argPt_below (show ArgPt w _ es from H3.out) HB.out (Nat.le_refl _)
      cases e
      obtain ⟨b, off, rfl, xv, yv, c0, c1, c2, c3, c4, rx, ry⟩ := h3 j hlt2
      obtain ⟨x1, x2, ex⟩ := Arg.shape rx
      obtain ⟨y1, y2, ey⟩ := Arg.shape ry
      subst ex ey
      obtain ⟨⟨⟨ol, osq, ok, oo⟩, oh⟩, ho⟩ : ∃ o, es[j] = o := ⟨_, rfl⟩
      rw [ho] at c0 c1 c2 c3 c4 rx ry
      obtain ⟨q1, q2⟩ : gk - 1 < gk ∧ gk - 1 + (j + 1) = N := by omega
      have hfl : (fewP (es.take j)).length = min 60 j := by unfold fewP; rw [List.length_map, List.length_take, List.length_take, Nat.min_eq_left (show j ≤ es.length by omega)]
      have hnl : n' = min 60 j := by
        obtain ⟨cs, hrow, _⟩ := HO.out
        rw [ownrow_len hrow, hfl]
      have HTL : Hid ((fewP (es.take j)).length = n') := by show _ = _; rw [hfl, hnl]
      have HNB : Hid (n' ≤ 1000) := by show _ ≤ _; omega
      obtain ⟨kk, hkk⟩ : ∃ kk, ok.toNat = kk := ⟨_, rfl⟩
      have HKK : Hid (ok.toNat = kk) := hkk
      simp only at c0 c1 c2 c3 c4 rx ry
      rw [hkk] at c2
      have HRX0 : Hid (Arg wr _ ol) := rx
      have HRY0 : Hid (Arg wr _ oo) := ry
      obtain ⟨nl, hnlq⟩ : ∃ nl, ol.length = nl := ⟨_, rfl⟩
      obtain ⟨oln, holn⟩ : ∃ oln, oo.length = oln := ⟨_, rfl⟩
      rw [hnlq] at rx c0
      rw [holn] at ry c3
      have HRX : Hid (Arg wr (.slice x1 nl x2) ol) := rx
      have HRY : Hid (Arg wr (.slice y1 oln y2) oo) := ry
      clear hkk rx ry h3 hnlq holn hnl hfl HRX0 HRY0
      by_cases hjn : j < 60
      · have hjI : (j : Int) < 60 := by omega
        obtain ⟨ck, HCK⟩ : ∃ ck, Hid (ol.take 80 = ck) := ⟨_, rfl⟩
        obtain ⟨co, HCO⟩ : ∃ co, Hid (oo.take 600 = co) := ⟨_, rfl⟩
        have HR : Hid (fewP (es.take (j + 1)) = fewP (es.take j) ++ [((ck, osq, ok, co), oh)]) := by show _ = _; rw [fewP_take hlt2 hjn, ho]; unfold cutP cutE; rw [← HCK.out, ← HCO.out]
        have hb0 := below_box4 wr (.cells #[.slice x1 nl x2, .int .u64 (osq : Int), .int .u8 (kk : Int), .slice y1 oln y2, .int .i64 oh] 40)
        have bx := (box5_new wr (.slice x1 nl x2) (.int .u64 (osq : Int)) (.int .u8 (kk : Int)) (.slice y1 oln y2) (.int .i64 oh) 40).drew
        have rx0 := HRX.out.below hb0 (Nat.le_refl _)
        have ry0 := HRY.out.below hb0 (Nat.le_refl _)
        have hae := argE_one (wr.alloc (.cells #[.slice x1 nl x2, .int .u64 (osq : Int), .int .u8 (kk : Int), .slice y1 oln y2, .int .i64 oh] 40)) _ _ (ol, osq, ok, oo) rx0 ry0
        simp only [HKK.out] at hae
        rw [show (wr.alloc (.cells #[.slice x1 nl x2, .int .u64 (osq : Int), .int .u8 (kk : Int), .slice y1 oln y2, .int .i64 oh] 40)).heap.size = wr.heap.size + 1 by simp] at hae
        have hfw := fewEF_any ((wr.alloc (.cells #[.slice x1 nl x2, .int .u64 (osq : Int), .int .u8 (kk : Int), .slice y1 oln y2, .int .i64 oh] 40)).alloc (.cells #[.slice x1 nl x2, .int .u64 (osq : Int), .int .u8 (kk : Int), .slice y1 oln y2] 38)).drew _ [(ol, osq, ok, oo)] 1 (argE_below hae (Below.refl _ _).drew (Nat.le_refl _)) (by omega)
        have HFW : Hid _ := hfw
        have HFE : Hid (fewE 1 [(ol, osq, ok, oo)] = [(ck, osq, ok, co)]) := by show _ = _; simp [fewE, cutE, HCK.out, HCO.out]
        have hb1 := below_box4 (wr.alloc (.cells #[.slice x1 nl x2, .int .u64 (osq : Int), .int .u8 (kk : Int), .slice y1 oln y2, .int .i64 oh] 40)) (.cells #[.slice x1 nl x2, .int .u64 (osq : Int), .int .u8 (kk : Int), .slice y1 oln y2] 38)
        have HO0 : Hid (OwnPt w.heap.size ((wr.alloc (.cells #[.slice x1 nl x2, .int .u64 (osq : Int), .int .u8 (kk : Int), .slice y1 oln y2, .int .i64 oh] 40)).alloc (.cells #[.slice x1 nl x2, .int .u64 (osq : Int), .int .u8 (kk : Int), .slice y1 oln y2] 38)).drew (.slice a' n' c') (fewP (es.take j))) := ((HO.out.below hb0 (Nat.le_refl _)).below hb1 (Nat.le_refl _)).drew
        have HB0 : Hid (Below w.heap.size w ((wr.alloc (.cells #[.slice x1 nl x2, .int .u64 (osq : Int), .int .u8 (kk : Int), .slice y1 oln y2, .int .i64 oh] 40)).alloc (.cells #[.slice x1 nl x2, .int .u64 (osq : Int), .int .u8 (kk : Int), .slice y1 oln y2] 38)).drew) := (bsplit (bsplit HB.out hb0) hb1).drew
        clear hb1
        have HNE : Hid (some wr.heap.size ≠ (Value.slice a' n' c').ownBlock) := by
          obtain ⟨cs, hrow, _⟩ := HO.out
          exact own_ne_new hrow
        clear ho hb0 rx0 ry0 hfw hae
        have be0 := ((box5_new wr (.slice x1 nl x2) (.int .u64 (osq : Int)) (.int .u8 (kk : Int)) (.slice y1 oln y2) (.int .i64 oh) 40).alloc (.cells #[.slice x1 nl x2, .int .u64 (osq : Int), .int .u8 (kk : Int), .slice y1 oln y2] 38)).drew
        go_wp2_with fail
        go_region_law
          (first
            | (go_simp
               go_at_call 29
               refine Calls.mono HFW.out ?_
               rintro e wf ⟨xf, rfl, of, hbf⟩
               rw [HFE.out] at of
               obtain ⟨csf, hrowf, helf⟩ := of
               obtain ⟨xk, yk, k0, k1, k2, k3, ox, oy⟩ := helf 0 (by simp)
               obtain ⟨gf, cf, hv, hg9, hl9⟩ := hrowf.form (by simp)
               subst hv
               have hcf := hrowf.cells (g := gf) rfl
               have z0 := hcf _ _ k0
               have z1 := hcf _ _ k1
               have z2 := hcf _ _ k2
               have z3 := hcf _ _ k3
               obtain ⟨xa9, xc9, rfl⟩ := ox.1.len
               obtain ⟨ya9, yc9, rfl⟩ := oy.1.len
               simp only [Addr.add_lit, List.getElem_cons_zero, List.length_cons, List.length_nil, Nat.zero_add, Nat.zero_mul, HKK.out] at z0 z1 z2 z3 ox oy ⊢
               obtain ⟨l1, hl1⟩ : ∃ n, ck.length = n := ⟨_, rfl⟩
               obtain ⟨l2, hl2⟩ : ∃ n, co.length = n := ⟨_, rfl⟩
               rw [hl1] at z0 ox
               rw [hl2] at z3 oy
               have HOX : Hid _ := ox
               have HOY : Hid _ := oy
               have HBF : Hid _ := hbf
               have bf := be0.below hbf (Nat.le_refl _)
               have bfc := bf.c4
               have be := bf.alloc (.cells #[.slice xa9 l1 xc9, .int .u64 (osq : Int), .int .u8 (kk : Int), .slice ya9 l2 yc9, .int .i64 oh] 40)
               clear hrowf helf k0 k1 k2 k3 hcf ox oy hbf hl1 hl2 hg9 hl9)
            | (have hbe := below_box4 wf (.cells #[.slice xa9 l1 xc9, .int .u64 (osq : Int), .int .u8 (kk : Int), .slice ya9 l2 yc9, .int .i64 oh] 40)
               have hlow : ∀ q, (Value.slice a' n' c').ownBlock = some q → q < ((wr.alloc (.cells #[.slice x1 nl x2, .int .u64 (osq : Int), .int .u8 (kk : Int), .slice y1 oln y2, .int .i64 oh] 40)).alloc (.cells #[.slice x1 nl x2, .int .u64 (osq : Int), .int .u8 (kk : Int), .slice y1 oln y2] 38)).drew.heap.size := fun q hq => (HO0.out.lt q hq).2
               have hBx := HB0.out.trans (HBF.out.mono HB0.out.size)
               have hBe := hBx.trans (hbe.mono hBx.size)
               have hOe := (HO0.out.below HBF.out (Nat.le_refl _)).below hbe (Nat.le_refl _)
               obtain ⟨cs, hrow, hel⟩ := hOe
               rw [HTL.out] at hrow
               have hnb9 := HNB.out
               refine step_append_lies _ rfl (.tmp 15) (.tmp 25) 22 rfl w.heap.size 40 i0 (.agg #[.slice none 0 0, .int .u64 0, .int .u8 0, .slice none 0 0, .int .i64 0]) 5 72 Try.underlying22 hi hz0 hz1 hz2 rfl (by decide) (.slice a' n' c') n' cs rfl hrow ⟨wf.heap.size, 0, none⟩ 1 1 [.slice xa9 l1 xc9, .int .u64 (osq : Int), .int .u8 (kk : Int), .slice ya9 l2 yc9, .int .i64 oh] rfl rfl (World.news_of_block (heap_alloc_new wf _)) (onePt _ _ _ _ _ _ _ _ _) (by decide) (by simp only [maxLen]; omega) (by omega) hBe.size _ rfl ?_
               intro g4 c4 w4 hown hgrow hat hlt4
               have b4 := be.grown hgrow HNE.out
               have hown' := hown
               rw [← HKK.out] at hown'
               have HP : Hid (OwnPt w.heap.size w4 (.slice (some ⟨g4, 0, none⟩) (n' + 1) c4) (fewP (es.take j) ++ [((ck, osq, ok, co), oh)])) := own_pushPt ((ck, osq, ok, co), oh) HTL.out hrow hel ⟨HOX.out.1.below hbe (Nat.le_refl _), neb_of HOX.out.2.2 hlow HOX.out.1, fun a n c e => Nat.le_trans HB0.out.size (HOX.out.2.2 a n c e)⟩ ⟨HOY.out.1.below hbe (Nat.le_refl _), neb_of HOY.out.2.2 hlow HOY.out.1, fun a n c e => Nat.le_trans HB0.out.size (HOY.out.2.2 a n c e)⟩ hown' hgrow hat
               have HB4 : Hid (Below w.heap.size w w4) := hBe.grown hgrow hBe.size (fun k' e => (hrow.lt k' e).1))
            | fail)
        all_goals
          clear bx be0
          go_wp2_with fail
          go_roundg (gk - 1)
          case measure => exact q1
          case rel => exact ⟨j + 1, _, c4, _, q2, by go_num, rfl, by show OwnPt _ _ _ _; rw [HR.out]; exact HP.out, HB4⟩
      · have hjI : ¬ (j : Int) < 60 := by omega
        have HST : Hid (fewP (es.take (j + 1)) = fewP (es.take j)) := fewP_stay hjn
        have hb0 := below_box4 wr (.cells #[.slice x1 nl x2, .int .u64 (osq : Int), .int .u8 (kk : Int), .slice y1 oln y2, .int .i64 oh] 40)
        have HO9 : Hid _ := HO.out.below hb0 (Nat.le_refl _)
        have HB9 : Hid _ := HB.out.alloc HB.out.size (.cells #[.slice x1 nl x2, .int .u64 (osq : Int), .int .u8 (kk : Int), .slice y1 oln y2, .int .i64 oh] 40)
        clear ho hb0
        go_wp2_with fail
        go_roundg (gk - 1)
        case measure => exact q1
        case rel => exact ⟨j + 1, n', c', a', q2, by go_num, rfl, by show OwnPt _ _ _ _; rw [HST.out]; exact HO9.out, HB9.out⟩
    · have hjN : j = N := by omega
      subst hjN
      have HE : Hid (fewP (es.take j) = fewP es) := by show _ = _; rw [← HN.out, List.take_length]
      go_wp2
      go_ret
      exact ⟨_, rfl, by rw [← HE.out]; exact HO.out, HB.out⟩

end Go.Proofs.Ytekmlbbfipldoaa

/- bartizanref03.SameEntry, SameEntries. -/
namespace Go.Proofs.Ytekmlbbfipldoaa
open Go.RowKit
set_option linter.unusedVariables false

set_option maxRecDepth 20000 in
set_option maxHeartbeats 4000000 in
theorem sameen_any (w : World) (xa ya xb yb : Value) (la ma lb mb : List UInt8) (s k t j : Int) (r : Bool) (hxa : Rd w xa la) (hya : Rd w ya ma) (hxb : Rd w xb lb) (hyb : Rd w yb mb) (hr : decide ((la = lb ∧ s = t ∧ k = j) ∧ ma = mb) = r) :
    Calls Try.prog 15 #[.agg #[xa, .int .u64 s, .int .u8 k, ya], .agg #[xb, .int .u64 t, .int .u8 j, yb]] w fun e w' => e = .returned (.bool r) ∧ Below w.heap.size w w' := by
  obtain ⟨a1, a2, rfl⟩ := hxa.len
  obtain ⟨a3, a4, rfl⟩ := hya.len
  obtain ⟨b1, b2, rfl⟩ := hxb.len
  obtain ⟨b3, b4, rfl⟩ := hyb.len
  obtain ⟨n1, h1⟩ : ∃ n, la.length = n := ⟨_, rfl⟩
  obtain ⟨n2, h2⟩ : ∃ n, ma.length = n := ⟨_, rfl⟩
  obtain ⟨n3, h3⟩ : ∃ n, lb.length = n := ⟨_, rfl⟩
  obtain ⟨n4, h4⟩ : ∃ n, mb.length = n := ⟨_, rfl⟩
  rw [h1] at hxa ⊢
  rw [h2] at hya ⊢
  rw [h3] at hxb ⊢
  rw [h4] at hyb ⊢
  have hb0 := below_box4 w (.cells #[.slice a1 n1 a2, .int .u64 s, .int .u8 k, .slice a3 n2 a4] 38)
  have hb1 := below_box4 (w.alloc (.cells #[.slice a1 n1 a2, .int .u64 s, .int .u8 k, .slice a3 n2 a4] 38)) (.cells #[.slice b1 n3 b2, .int .u64 t, .int .u8 j, .slice b3 n4 b4] 38)
  have BA := (box4_new w (.slice a1 n1 a2) (.int .u64 s) (.int .u8 k) (.slice a3 n2 a4) 38).below hb1 (Nat.le_refl _)
  have BB := box4_new (w.alloc (.cells #[.slice a1 n1 a2, .int .u64 s, .int .u8 k, .slice a3 n2 a4] 38)) (.slice b1 n3 b2) (.int .u64 t) (.int .u8 j) (.slice b3 n4 b4) 38
  rw [show (w.alloc (.cells #[.slice a1 n1 a2, .int .u64 s, .int .u8 k, .slice a3 n2 a4] 38)).heap.size = w.heap.size + 1 by simp] at BB
  have hB1 := bsplit hb0 hb1
  have hks := keysame_any ((w.alloc (.cells #[.slice a1 n1 a2, .int .u64 s, .int .u8 k, .slice a3 n2 a4] 38)).alloc (.cells #[.slice b1 n3 b2, .int .u64 t, .int .u8 j, .slice b3 n4 b4] 38)) _ _ la lb s k t j (decide (la = lb ∧ s = t ∧ k = j)) (hxa.below hB1 (Nat.le_refl _)) (hxb.below hB1 (Nat.le_refl _)) rfl
  have HY : Hid (Rd w (.slice a3 n2 a4) ma ∧ Rd w (.slice b3 n4 b4) mb) := ⟨hya, hyb⟩
  have HB1 : Hid _ := hB1
  have HR : Hid (decide ((la = lb ∧ s = t ∧ k = j) ∧ ma = mb) = r) := hr
  obtain ⟨q, hq⟩ : ∃ q, decide (la = lb ∧ s = t ∧ k = j) = q := ⟨_, rfl⟩
  have HQ : Hid (decide (la = lb ∧ s = t ∧ k = j) = q) := hq
  rw [hq] at hks
  clear hxa hya hxb hyb hr h1 h2 h3 h4 hb0 hb1 hB1 hq
  go_enter Try.func15, Try.ntmps15
  cases q with
  | false =>
    have HF : Hid (r = false) := by
      show r = false
      rw [← HR.out]
      have := of_decide_eq_false HQ.out
      simp only [decide_eq_false_iff_not]
      exact fun h => this h.1
    obtain ⟨c0, c1, c2, c3⟩ := BA
    obtain ⟨d0, d1, d2, d3⟩ := BB
    go_wp2_with fail
    refine hks.mono ?_
    rintro e w1 ⟨rfl, hb⟩
    have HB2 : Hid (Below w.heap.size w w1) := bsplit HB1.out hb
    clear hks hb
    go_wp2
    go_ret
    exact ⟨ret_bool (by rw [HF.out]), HB2.out⟩
  | true =>
    have HT : Hid ((ma == mb) = r) := by
      show (ma == mb) = r
      rw [← HR.out]
      have := of_decide_eq_true HQ.out
      rw [Bool.eq_iff_iff]
      simp only [beq_iff_eq, decide_eq_true_eq]
      exact ⟨fun h => ⟨this, h⟩, fun h => h.2⟩
    have BA' := BA
    have BB' := BB
    obtain ⟨c0, c1, c2, c3⟩ := BA'
    obtain ⟨d0, d1, d2, d3⟩ := BB'
    go_wp2_with fail
    refine hks.mono ?_
    rintro e w1 ⟨rfl, hb⟩
    have HB2 : Hid (Below w.heap.size w w1) := bsplit HB1.out hb
    clear c0 c1 c2 c3 d0 d1 d2 d3
    obtain ⟨c0, c1, c2, c3⟩ := BA.below hb (Nat.le_refl _)
    obtain ⟨d0, d1, d2, d3⟩ := BB.below hb (Nat.le_refl _)
    have hsb := same_b w1 _ _ ma mb r (HY.out.1.below HB2.out (Nat.le_refl _)) (HY.out.2.below HB2.out (Nat.le_refl _)) HT.out
    clear hks hb BA BB
    go_wp2_with fail
    refine hsb.mono ?_
    rintro e w2 ⟨rfl, rfl⟩
    clear hsb
    go_wp2
    go_ret
    exact ⟨rfl, HB2.out⟩

set_option maxRecDepth 20000 in
set_option maxHeartbeats 4000000 in
theorem sameens_any (w : World) (va vb : Value) (us bs : List EnB) (r : Bool) (ha : RdE w va us) (hb : RdE w vb bs) (hr : us = bs ↔ r = true) :
    Calls Try.prog 16 #[va, vb] w fun e w' => e = .returned (.bool r) ∧ Below w.heap.size w w' := by
  have HA : Hid (RdE w va us) := ha
  have HBb : Hid (RdE w vb bs) := hb
  obtain ⟨a1, a2, rfl, ha1, ha2, _⟩ := ha
  obtain ⟨b1, b2, rfl, hb1, hb2, _⟩ := hb
  unfold maxLen at ha2 hb2
  obtain ⟨N, hN⟩ : ∃ n, us.length = n := ⟨_, rfl⟩
  obtain ⟨M, hM⟩ : ∃ n, bs.length = n := ⟨_, rfl⟩
  rw [hN] at ha1 HA ⊢
  rw [hM] at hb1 HBb ⊢
  have HNM : Hid (us.length = N ∧ bs.length = M) := ⟨hN, hM⟩
  have HR : Hid (us = bs ↔ r = true) := hr
  clear hN hM hr
  go_enter Try.func16, Try.ntmps16
  by_cases hnm : N = M
  · subst hnm
    go_wp2_with fail
    go_loopg [13] N (fun gk iv wr => ∃ j : Nat, gk + j = N ∧ iv = .int .i64 (j : Int) ∧ Hid (∀ i, i < j → us[i]? = bs[i]?) ∧ Hid (Below w.heap.size w wr))
    case atStart => exact ⟨0, by omega, rfl, fun i hi => absurd hi (Nat.not_lt_zero _), Below.refl _ _⟩
    case round =>
      obtain ⟨j, hj, rfl, HS, HB⟩ := hrel
      by_cases hlt : j < N
      · have l1 : j < us.length := by rw [HNM.out.1]; exact hlt
        have l2 : j < bs.length := by rw [HNM.out.2]; exact hlt
        obtain ⟨_, _, e, _, _, h3⟩ := rdE_below HA.out HB.out (Nat.le_refl _)
        rw [HNM.out.1] at e
        cases e
        obtain ⟨_, _, e, _, _, h4⟩ := rdE_below HBb.out HB.out (Nat.le_refl _)
        rw [HNM.out.2] at e
        cases e
        obtain ⟨p1, o1, rfl, x1, y1, c0, c1, c2, c3, rx1, ry1⟩ := h3 j l1
        obtain ⟨p2, o2, rfl, x2, y2, d0, d1, d2, d3, rx2, ry2⟩ := h4 j l2
        obtain ⟨q1, q2⟩ := gk_nxt hj hlt
        obtain ⟨t1, t2, hx1⟩ := rx1.len
        obtain ⟨t3, t4, hy1⟩ := ry1.len
        obtain ⟨t5, t6, hx2⟩ := rx2.len
        obtain ⟨t7, t8, hy2⟩ := ry2.len
        have hsm := sameen_any wr.drew x1 y1 x2 y2 us[j].1 us[j].2.2.2 bs[j].1 bs[j].2.2.2 (us[j].2.1 : Int) (us[j].2.2.1.toNat : Int) (bs[j].2.1 : Int) (bs[j].2.2.1.toNat : Int) (decide (us[j] = bs[j])) rx1.drew ry1.drew rx2.drew ry2.drew (by
          rw [decide_eq_decide]
          constructor
          · rintro ⟨⟨e1, e2, e3⟩, e4⟩
            have e2' : us[j].2.1 = bs[j].2.1 := by omega
            have e3' : us[j].2.2.1 = bs[j].2.2.1 := UInt8.toNat_inj.1 (by omega)
            exact Prod.ext e1 (Prod.ext e2' (Prod.ext e3' e4))
          · intro e
            rw [e]
            exact ⟨⟨rfl, rfl, rfl⟩, rfl⟩)
        have h1I : (j : Int) < (a2 : Int) := by omega
        have h2I : (j : Int) < (b2 : Int) := by omega
        rw [hx1] at c0 hsm
        rw [hy1] at c3 hsm
        rw [hx2] at d0 hsm
        rw [hy2] at d3 hsm
        obtain ⟨z1, hz1⟩ : ∃ z, (us[j].2.1 : Int) = z := ⟨_, rfl⟩
        obtain ⟨z2, hz2⟩ : ∃ z, (us[j].2.2.1.toNat : Int) = z := ⟨_, rfl⟩
        obtain ⟨z3, hz3⟩ : ∃ z, (bs[j].2.1 : Int) = z := ⟨_, rfl⟩
        obtain ⟨z4, hz4⟩ : ∃ z, (bs[j].2.2.1.toNat : Int) = z := ⟨_, rfl⟩
        obtain ⟨m1, hm1⟩ : ∃ z, us[j].1.length = z := ⟨_, rfl⟩
        obtain ⟨m2, hm2⟩ : ∃ z, us[j].2.2.2.length = z := ⟨_, rfl⟩
        obtain ⟨m3, hm3⟩ : ∃ z, bs[j].1.length = z := ⟨_, rfl⟩
        obtain ⟨m4, hm4⟩ : ∃ z, bs[j].2.2.2.length = z := ⟨_, rfl⟩
        rw [hz1] at c1 hsm
        rw [hz2] at c2 hsm
        rw [hz3] at d1 hsm
        rw [hz4] at d2 hsm
        rw [hm1] at c0 hsm
        rw [hm2] at c3 hsm
        rw [hm3] at d0 hsm
        rw [hm4] at d3 hsm
        obtain ⟨q, hq⟩ : ∃ q, decide (us[j] = bs[j]) = q := ⟨_, rfl⟩
        have HQ : Hid (decide (us[j] = bs[j]) = q) := hq
        rw [hq] at hsm
        have c0' := c0; have c1' := c1; have c2' := c2; have c3' := c3; have d0' := d0; have d1' := d1; have d2' := d2; have d3' := d3
        clear h3 h4 rx1 ry1 rx2 ry2 hx1 hy1 hx2 hy2 hz1 hz2 hz3 hz4 hm1 hm2 hm3 hm4 hq
        cases q with
        | true =>
          go_wp2_with fail
          go_region_held3 (fun w' => (w'.cell? ⟨p1, o1 + j * 4, none⟩ = some (.slice t1 m1 t2) ∧ w'.cell? ⟨p1, o1 + j * 4 + 1, none⟩ = some (.int .u64 z1) ∧ w'.cell? ⟨p1, o1 + j * 4 + 2, none⟩ = some (.int .u8 z2) ∧ w'.cell? ⟨p1, o1 + j * 4 + 3, none⟩ = some (.slice t3 m2 t4)) ∧ (w'.cell? ⟨p2, o2 + j * 4, none⟩ = some (.slice t5 m3 t6) ∧ w'.cell? ⟨p2, o2 + j * 4 + 1, none⟩ = some (.int .u64 z3) ∧ w'.cell? ⟨p2, o2 + j * 4 + 2, none⟩ = some (.int .u8 z4) ∧ w'.cell? ⟨p2, o2 + j * 4 + 3, none⟩ = some (.slice t7 m4 t8)))
            (first | with_reducible exact ⟨⟨e0, e1, e2, e3⟩, ⟨e4, e5, e6, e7⟩⟩ | exact ⟨⟨c0', c1', c2', c3'⟩, ⟨d0', d1', d2', d3'⟩⟩)
            (first
              | (go_at_call 15; refine hsm.mono ?_; rintro e w5 ⟨rfl, hb5⟩
                 have HB5 : Hid (Below w.heap.size w w5) := bsplit HB.out.drew hb5
                 have b1 := World.block_lt_of_cell? wr _ c0'
                 have b2 := World.block_lt_of_cell? wr _ d0'
                 have e0 := (hb5.cell (p := ⟨p1, o1 + j * 4, none⟩) b1).trans c0'
                 have e1 := (hb5.cell (p := ⟨p1, o1 + j * 4 + 1, none⟩) b1).trans c1'
                 have e2 := (hb5.cell (p := ⟨p1, o1 + j * 4 + 2, none⟩) b1).trans c2'
                 have e3 := (hb5.cell (p := ⟨p1, o1 + j * 4 + 3, none⟩) b1).trans c3'
                 have e4 := (hb5.cell (p := ⟨p2, o2 + j * 4, none⟩) b2).trans d0'
                 have e5 := (hb5.cell (p := ⟨p2, o2 + j * 4 + 1, none⟩) b2).trans d1'
                 have e6 := (hb5.cell (p := ⟨p2, o2 + j * 4 + 2, none⟩) b2).trans d2'
                 have e7 := (hb5.cell (p := ⟨p2, o2 + j * 4 + 3, none⟩) b2).trans d3')
              | fail)
          go_wp2_with fail
          go_roundg (gk - 1)
          case measure => exact q1
          case rel => exact ⟨j + 1, q2, by go_num, fun i hi => by
            by_cases e : i = j
            · subst e; rw [List.getElem?_eq_getElem l1, List.getElem?_eq_getElem l2, of_decide_eq_true HQ.out]
            · exact HS.out i (by omega), HB5⟩
        | false =>
          go_wp2_with fail
          go_region_held3 (fun w' => (w'.cell? ⟨p1, o1 + j * 4, none⟩ = some (.slice t1 m1 t2) ∧ w'.cell? ⟨p1, o1 + j * 4 + 1, none⟩ = some (.int .u64 z1) ∧ w'.cell? ⟨p1, o1 + j * 4 + 2, none⟩ = some (.int .u8 z2) ∧ w'.cell? ⟨p1, o1 + j * 4 + 3, none⟩ = some (.slice t3 m2 t4)) ∧ (w'.cell? ⟨p2, o2 + j * 4, none⟩ = some (.slice t5 m3 t6) ∧ w'.cell? ⟨p2, o2 + j * 4 + 1, none⟩ = some (.int .u64 z3) ∧ w'.cell? ⟨p2, o2 + j * 4 + 2, none⟩ = some (.int .u8 z4) ∧ w'.cell? ⟨p2, o2 + j * 4 + 3, none⟩ = some (.slice t7 m4 t8)))
            (first | with_reducible exact ⟨⟨e0, e1, e2, e3⟩, ⟨e4, e5, e6, e7⟩⟩ | exact ⟨⟨c0', c1', c2', c3'⟩, ⟨d0', d1', d2', d3'⟩⟩)
            (first
              | (go_at_call 15; refine hsm.mono ?_; rintro e w5 ⟨rfl, hb5⟩
                 have HB5 : Hid (Below w.heap.size w w5) := bsplit HB.out.drew hb5
                 have b1 := World.block_lt_of_cell? wr _ c0'
                 have b2 := World.block_lt_of_cell? wr _ d0'
                 have e0 := (hb5.cell (p := ⟨p1, o1 + j * 4, none⟩) b1).trans c0'
                 have e1 := (hb5.cell (p := ⟨p1, o1 + j * 4 + 1, none⟩) b1).trans c1'
                 have e2 := (hb5.cell (p := ⟨p1, o1 + j * 4 + 2, none⟩) b1).trans c2'
                 have e3 := (hb5.cell (p := ⟨p1, o1 + j * 4 + 3, none⟩) b1).trans c3'
                 have e4 := (hb5.cell (p := ⟨p2, o2 + j * 4, none⟩) b2).trans d0'
                 have e5 := (hb5.cell (p := ⟨p2, o2 + j * 4 + 1, none⟩) b2).trans d1'
                 have e6 := (hb5.cell (p := ⟨p2, o2 + j * 4 + 2, none⟩) b2).trans d2'
                 have e7 := (hb5.cell (p := ⟨p2, o2 + j * 4 + 3, none⟩) b2).trans d3')
              | fail)
          have HF : Hid (r = false) := by
            show r = false
            cases hrr : r with
            | false => rfl
            | true =>
              have h9 := HR.out.2 hrr
              subst h9
              exact absurd rfl (of_decide_eq_false HQ.out)
          go_wp2
          go_ret
          exact ⟨ret_bool (by rw [HF.out]), HB5.out⟩
      · have hjN : j = N := by omega
        subst hjN
        have HT : Hid (r = true) := HR.out.1 (List.ext_getElem? (fun i => by
          by_cases hi : i < j
          · exact HS.out i hi
          · rw [List.getElem?_eq_none (by rw [HNM.out.1]; omega), List.getElem?_eq_none (by rw [HNM.out.2]; omega)]))
        go_wp2
        go_ret
        exact ⟨ret_bool (by rw [HT.out]), HB.out⟩
  · have hnmI : ¬ (N : Int) = (M : Int) := by omega
    have HF : Hid (r = false) := by
      show r = false
      cases hrr : r with
      | false => rfl
      | true =>
        have h9 := HR.out.2 hrr
        exact absurd (by rw [← HNM.out.1, ← HNM.out.2, h9]) hnm
    go_wp2
    go_ret
    exact ⟨ret_bool (by rw [HF.out]), Below.refl _ _⟩

end Go.Proofs.Ytekmlbbfipldoaa

/- A list that is filled with puts, one after another. -/
namespace Go.Proofs.Ytekmlbbfipldoaa
open Go.RowKit Go.Shelf
set_option linter.unusedVariables false

theorem OwnPt.mono {B C : Nat} {w : World} {v : Value} {es : List PtB} (h : OwnPt B w v es) (hC : C ≤ B) : OwnPt C w v es := by
  obtain ⟨cs, hr, hj⟩ := h
  refine ⟨cs, ⟨hr.1, hr.2.imp id (fun ⟨g, cap, cur, e1, hb, r⟩ => ⟨g, cap, cur, e1, Nat.le_trans hC hb, r⟩)⟩, fun j h => ?_⟩
  obtain ⟨x, y, c0, c1, c2, c3, c4, ox, oy⟩ := hj j h
  exact ⟨x, y, c0, c1, c2, c3, c4, ⟨ox.1, ox.2.1, fun a n c e => Nat.le_trans hC (ox.2.2 a n c e)⟩, ⟨oy.1, oy.2.1, fun a n c e => Nat.le_trans hC (oy.2.2 a n c e)⟩⟩

theorem rd_keeps {B : Nat} {F : Nat → Prop} {w w' : World} {x : Value} {l : List UInt8} (h : Rd w x l) (hf : From B x) (hk : Keeps F w w') (hF : ∀ i, F i → i < B ∨ w.heap.size ≤ i) : Rd w' x l := by
  rcases h with h | ⟨b, off, cap, rfl, h1, h2, h3⟩
  · exact .inl h
  · refine .inr ⟨b, off, cap, rfl, h1, h2, fun j u hu => hk.cell (p := ⟨b, off + j, none⟩) (fun hfb => ?_) (h3 j u hu)⟩
    have := World.block_lt_of_cell? w _ (h3 j u hu)
    have h9 : B ≤ b := hf ⟨b, off, none⟩ _ _ rfl
    have h8 : b < w.heap.size := this
    rcases hF b hfb with h | h <;> omega

theorem row_keeps {B n s : Nat} {e : TypeId} {cs : List Value} {F : Nat → Prop} {w w' : World} {v : Value} (h : w.ownsRow B e s v n cs) (hk : Keeps F w w') (hF : ∀ i, F i → i < B ∨ w.heap.size ≤ i) : w'.ownsRow B e s v n cs := by
  refine ⟨h.1, ?_⟩
  rcases h.2 with h | ⟨g, cap, cur, e1, hb, hg, r⟩
  · exact .inl h
  · have hlt := (Array.getElem?_eq_some_iff.1 hg).1
    refine .inr ⟨g, cap, cur, e1, hb, ?_, r⟩
    rw [hk.block g hlt (fun hf => by rcases hF g hf with h | h <;> omega)]
    exact hg

theorem OwnPt.keeps {B : Nat} {F : Nat → Prop} {w w' : World} {v : Value} {es : List PtB} (h : OwnPt B w v es) (hk : Keeps F w w') (hF : ∀ i, F i → i < B ∨ w.heap.size ≤ i) : OwnPt B w' v es := by
  obtain ⟨cs, hr, hj⟩ := h
  refine ⟨cs, row_keeps hr hk hF, fun j h => ?_⟩
  obtain ⟨x, y, c0, c1, c2, c3, c4, ox, oy⟩ := hj j h
  exact ⟨x, y, c0, c1, c2, c3, c4, ⟨rd_keeps ox.1 ox.2.2 hk hF, ox.2⟩, ⟨rd_keeps oy.1 oy.2.2 hk hF, oy.2⟩⟩

/-- so many puts of the row are in -/
structure Fill (w wf : World) (l : Nat) (j : Nat) (wr : World) (ts : List Tow) : Prop where
  sk : SkAt wr l ts
  len : LenT ts 1000
  cnt : ts.length ≤ j
  tow : ∀ t ∈ ts, wf.heap.size ≤ t.b
  kp : Keeps (fun i => i = l ∨ wf.heap.size ≤ i) wf wr
  be : Below w.heap.size w wr
  ok : ∀ t ∈ ts, chk t.e.1.length (t.e.2.1 : Int) (t.e.2.2.1.toNat : Int) = 0 ∧ t.e.1.length ≤ 80 ∧ t.e.2.2.2.length ≤ 600

theorem chkSk_key {e : EnB} {h : Int} (hc : chkSk e h = 0) : chk e.1.length (e.2.1 : Int) (e.2.2.1.toNat : Int) = 0 := by
  unfold chkSk at hc
  split at hc
  · assumption
  · exact hc

theorem Fill.below {w wf wr w' : World} {l j : Nat} {ts : List Tow} (h : Fill w wf l j wr ts) (hb : Below wr.heap.size wr w') : Fill w wf l j w' ts :=
  ⟨h.sk.below hb, h.len, h.cnt, h.tow, h.kp.trans (Below.keeps hb _), bsplit h.be hb, h.ok⟩

theorem Fill.row {w wf wr : World} {l j : Nat} {ts : List Tow} {v : Value} {ps : List PtB} (h : Fill w wf l j wr ts) (ho : OwnPt (l + 1) wf v ps) : OwnPt (l + 1) wr v ps :=
  ho.keeps h.kp (fun i hi => by rcases hi with h | h <;> omega)

theorem insT_mem {ts : List Tow} {c : Nat} {T t : Tow} (h : t ∈ insT ts c T) : t = T ∨ t ∈ ts := by
  unfold insT at h
  rcases List.mem_append.1 h with h | h
  · exact .inr (List.mem_of_mem_take h)
  · rcases List.mem_cons.1 h with h | h
    · exact .inl h
    · exact .inr (List.mem_of_mem_drop h)

theorem nb_cases {l : Nat} {ts : List Tow} {a : Nat} (ha : a ≤ ts.length) : nb l ts a = l ∨ ∃ t ∈ ts, nb l ts a = t.b := by
  rcases a with _ | a
  · exact .inl rfl
  · exact .inr ⟨ts[a], List.getElem_mem _, nb_succ l (by omega)⟩

theorem Fill.ins {w wf wr w' : World} {l j : Nat} {ts : List Tow} {e : EnB} {hh : Int} {o : Ending} (h : Fill w wf l j wr ts) (hl : w.heap.size ≤ l) (hwf : w.heap.size ≤ wf.heap.size) (he : e.1.length ≤ 80 ∧ e.2.2.2.length ≤ 600) (hp : InsPost l ts e hh wr w' o) :
    ∃ c ts', o = .returned (.int .i64 c) ∧ Fill w wf l (j + 1) w' ts' := by
  rcases hp with ⟨_, ho, hb⟩ | ⟨_, _, ho, hb⟩ | ⟨hck, _, ho, T, hTe, hTh, hTb, hS, hk⟩
  · have h' := h.below hb
    exact ⟨_, ts, ho, ⟨h'.sk, h'.len, Nat.le_succ_of_le h'.cnt, h'.tow, h'.kp, h'.be, h'.ok⟩⟩
  · have h' := h.below hb
    exact ⟨_, ts, ho, ⟨h'.sk, h'.len, Nat.le_succ_of_le h'.cnt, h'.tow, h'.kp, h'.be, h'.ok⟩⟩
  · have hc : cntE (esT ts) e ≤ ts.length := by
      have h9 : cntE (esT ts) e ≤ (esT ts).length := List.countP_le_length
      rwa [esT_len] at h9
    refine ⟨_, _, ho, ⟨hS, fun t ht => ?_, ?_, fun t ht => ?_, h.kp.trans (hk.mono (fun i ⟨a, ha, e⟩ => ?_)), h.be.trans (hk.below (fun i ⟨a, ha, e⟩ => ?_) h.be.size), fun t ht => ?_⟩⟩
    · rcases insT_mem ht with rfl | ht
      · rw [hTe]; omega
      · exact h.len t ht
    · rw [insT_len hc]; have := h.cnt; omega
    · rcases insT_mem ht with rfl | ht
      · exact Nat.le_trans h.kp.size hTb
      · exact h.tow t ht
    · rcases nb_cases (l := l) ha with h1 | ⟨t, ht, h1⟩
      · exact .inl (e.trans h1)
      · exact .inr (by rw [e, h1]; exact h.tow t ht)
    · rcases nb_cases (l := l) ha with h1 | ⟨t, ht, h1⟩
      · rw [e, h1]; exact hl
      · rw [e, h1]; exact Nat.le_trans hwf (h.tow t ht)
    · rcases insT_mem ht with rfl | ht
      · rw [hTe]; exact ⟨chkSk_key hck, he⟩
      · exact h.ok t ht

theorem fewP_short {es : List PtB} : ∀ p ∈ fewP es, p.1.1.length ≤ 80 ∧ p.1.2.2.2.length ≤ 600 := by
  intro p hp
  unfold fewP at hp
  obtain ⟨q, _, rfl⟩ := List.mem_map.1 hp
  simp only [cutP, cutE, List.length_take]
  omega

/-- each stands behind just those ahead of it -/
theorem cnt_own {es : List EnB} (h : riseB es = true) {i : Nat} (hi : i < es.length) : cntE es es[i] = i := by
  refine cnt_split (by omega) (fun x hx hxi => ?_) (fun x hx hix => ?_)
  · unfold ltE
    exact decide_eq_true (rise_lt h x i hi hxi)
  · unfold ltE
    refine decide_eq_false ?_
    rcases Nat.lt_or_ge i x with h1 | h1
    · have h2 := rise_lt h i x hx h1
      have h3 := cmpE_neg es[i] es[x]
      omega
    · have : x = i := by omega
      subst this
      have h3 := cmpE_neg es[x] es[x]
      omega

end Go.Proofs.Ytekmlbbfipldoaa

/- Two lists side by side; what is inserted, in whatever order; names seen, as a map. -/
namespace Go.Proofs.Ytekmlbbfipldoaa
open Go.RowKit Go.Shelf Go.Maps Go.WideShapes
set_option linter.unusedVariables false

theorem insT_perm (ts : List Tow) (c : Nat) (T : Tow) : (esT (insT ts c T)).Perm (T.e :: esT ts) := by
  unfold esT insT
  rw [List.map_append, List.map_cons]
  refine List.perm_middle.trans (List.Perm.cons _ ?_)
  rw [← List.map_append, List.take_append_drop]

theorem rise_pw {es : List EnB} (h : riseB es = true) : es.Pairwise (fun a b => cmpE a b < 0) :=
  List.pairwise_iff_getElem.2 (fun i j hi hj hij => rise_lt h i j hj hij)

/-- what rises stands in one order alone -/
theorem rise_unique {es fs : List EnB} (ha : riseB es = true) (hb : riseB fs = true) (hp : es.Perm fs) : es = fs :=
  List.Perm.eq_of_pairwise (le := fun a b => cmpE a b < 0) (fun a b _ _ h1 h2 => by have := cmpE_neg a b; omega) (rise_pw ha) (rise_pw hb) hp

theorem NodeAt.keeps {F : Nat → Prop} {w w' : World} {b hh : Nat} {rest : List Tow} (h : NodeAt w b hh rest) (hk : Keeps F w w') (hF : ¬ F b) : NodeAt w' b hh rest := by
  have e := hk.block b h.lt hF
  refine ⟨fun r hr => hk.cell (p := ⟨b, 4 + r, none⟩) hF (h.cel r hr), fun r hr => ?_, by rw [e]; exact h.blk⟩
  have h1 := h.frz r hr
  unfold World.frozen? at h1 ⊢
  rw [e]
  exact h1

theorem rd_keep {F : Nat → Prop} {w w' : World} {x : Value} {l : List UInt8} (h : Rd w x l) (hk : Keeps F w w') (hF : ∀ q, x.ownBlock = some q → ¬ F q) : Rd w' x l := by
  rcases h with h | ⟨b, off, cap, rfl, h1, h2, h3⟩
  · exact .inl h
  · exact .inr ⟨b, off, cap, rfl, h1, h2, fun j u hu => hk.cell (p := ⟨b, off + j, none⟩) (hF b rfl) (h3 j u hu)⟩

/-- a list stays while other blocks are written -/
theorem SkAt.keeps {F : Nat → Prop} {w w' : World} {l : Nat} {ts : List Tow} (h : SkAt w l ts) (hk : Keeps F w w') (h0 : ¬ F l) (hb : ∀ t ∈ ts, ¬ F t.b) (hxy : ∀ t ∈ ts, (∀ q, t.x.ownBlock = some q → ¬ F q) ∧ (∀ q, t.y.ownBlock = some q → ¬ F q)) : SkAt w' l ts := by
  refine ⟨fun a ha => (h.nod a ha).keeps hk ?_, fun t ht => ?_, h.inj, h.ht, h.out, h.ris, h.len, fun t ht => ⟨(h.inn t ht).1.grow hk.size, (h.inn t ht).2.grow hk.size⟩⟩
  · rcases nb_cases (l := l) ha with e | ⟨t, ht, e⟩
    · rw [e]; exact h0
    · rw [e]; exact hb t ht
  · have e := h.ent t ht
    have hf := hb t ht
    exact ⟨⟨hk.cell (p := ⟨t.b, 0, none⟩) hf e.bx.c0, hk.cell (p := ⟨t.b, 1, none⟩) hf e.bx.c1, hk.cell (p := ⟨t.b, 2, none⟩) hf e.bx.c2, hk.cell (p := ⟨t.b, 3, none⟩) hf e.bx.c3⟩, rd_keep e.rx hk (hxy t ht).1, rd_keep e.ry hk (hxy t ht).2⟩

/-- so many are in; what they hold is the list's own -/
structure Fill2 (w wf : World) (l : Nat) (j : Nat) (wr : World) (ts : List Tow) : Prop where
  fi : Fill w wf l j wr ts
  xy : ∀ t ∈ ts, From wf.heap.size t.x ∧ From wf.heap.size t.y

theorem Fill2.start {w wf : World} {l : Nat} (hS : SkAt wf l []) (hb : Below w.heap.size w wf) : Fill2 w wf l 0 wf [] :=
  ⟨⟨hS, fun t ht => by simp at ht, Nat.le_refl _, fun t ht => by simp at ht, Keeps.refl _ _, hb, fun t ht => by simp at ht⟩, fun t ht => by simp at ht⟩

theorem Fill2.below {w wf wr w' : World} {l j : Nat} {ts : List Tow} (h : Fill2 w wf l j wr ts) (hb : Below wr.heap.size wr w') : Fill2 w wf l j w' ts := ⟨h.fi.below hb, h.xy⟩

/-- one that isn't there yet is put in, or it is refused, whatever its height is -/
theorem Fill2.ins {w wf wr w' : World} {l j : Nat} {ts : List Tow} {e : EnB} {hh : Int} {o : Ending} (h : Fill2 w wf l j wr ts) (hl : w.heap.size ≤ l) (hwf : w.heap.size ≤ wf.heap.size) (he : e.1.length ≤ 80 ∧ e.2.2.2.length ≤ 600) (hp : InsPost2 l ts e hh wr w' o) :
    ∃ c ts', o = .returned (.int .i64 c) ∧ Fill2 w wf l (j + 1) w' ts' ∧ ((chkSk e hh = 0 ∧ anyE (esT ts) e = false ∧ c = 0 ∧ ∃ T : Tow, T.e = e ∧ (T.h : Int) = hh ∧ (wr.heap.size ≤ T.b ∧ From wr.heap.size T.x ∧ From wr.heap.size T.y) ∧ ts' = insT ts (cntE (esT ts) e) T) ∨ (chkSk e hh = 0 ∧ anyE (esT ts) e = true ∧ c = 7 ∧ ts' = ts) ∨ (¬ chkSk e hh = 0 ∧ c = chkSk e hh ∧ ts' = ts)) := by
  rcases hp with ⟨hn, ho, hb⟩ | ⟨hck, hany, ho, hb⟩ | ⟨hck, hany, ho, T, hTe, hTh, hTb, hS, hk⟩
  · have h' := (h.below hb).fi
    exact ⟨_, ts, ho, ⟨⟨h'.sk, h'.len, Nat.le_succ_of_le h'.cnt, h'.tow, h'.kp, h'.be, h'.ok⟩, h.xy⟩, .inr (.inr ⟨hn, rfl, rfl⟩)⟩
  · have h' := (h.below hb).fi
    exact ⟨_, ts, ho, ⟨⟨h'.sk, h'.len, Nat.le_succ_of_le h'.cnt, h'.tow, h'.kp, h'.be, h'.ok⟩, h.xy⟩, .inr (.inl ⟨hck, hany, rfl, rfl⟩)⟩
  · have hc : cntE (esT ts) e ≤ ts.length := by
      have h9 : cntE (esT ts) e ≤ (esT ts).length := List.countP_le_length
      rwa [esT_len] at h9
    have hg := h.fi.kp.size
    refine ⟨_, _, ho, ⟨⟨hS, fun t ht => ?_, ?_, fun t ht => ?_, h.fi.kp.trans (hk.mono (fun i ⟨a, ha, e⟩ => ?_)), h.fi.be.trans (hk.below (fun i ⟨a, ha, e⟩ => ?_) h.fi.be.size), fun t ht => ?_⟩, fun t ht => ?_⟩, .inl ⟨hck, hany, rfl, T, hTe, hTh, hTb, rfl⟩⟩
    · rcases insT_mem ht with rfl | ht
      · rw [hTe]; omega
      · exact h.fi.len t ht
    · rw [insT_len hc]; have := h.fi.cnt; omega
    · rcases insT_mem ht with rfl | ht
      · exact Nat.le_trans hg hTb.1
      · exact h.fi.tow t ht
    · rcases nb_cases (l := l) ha with h1 | ⟨t, ht, h1⟩
      · exact .inl (e.trans h1)
      · exact .inr (by rw [e, h1]; exact h.fi.tow t ht)
    · rcases nb_cases (l := l) ha with h1 | ⟨t, ht, h1⟩
      · rw [e, h1]; exact hl
      · rw [e, h1]; exact Nat.le_trans hwf (h.fi.tow t ht)
    · rcases insT_mem ht with rfl | ht
      · rw [hTe]; exact ⟨chkSk_key hck, he⟩
      · exact h.fi.ok t ht
    · rcases insT_mem ht with rfl | ht
      · exact ⟨fun a n c e => Nat.le_trans hg (hTb.2.1 a n c e), fun a n c e => Nat.le_trans hg (hTb.2.2 a n c e)⟩
      · exact h.xy t ht

theorem own_from {B : Nat} {v : Value} (h : From B v) {q : Nat} (hq : v.ownBlock = some q) : B ≤ q := by
  cases v with
  | slice a n c =>
    cases a with
    | none => simp [Value.ownBlock] at hq
    | some a =>
      have h9 := h a n c rfl
      simp only [Value.ownBlock, Option.some.injEq] at hq
      omega
  | _ => simp [Value.ownBlock] at hq

/-- a list that is full stays while another one is filled behind it -/
theorem Fill2.stays {w wf wr w' : World} {l j m : Nat} {ts : List Tow} (h : Fill2 w wf l j wr ts) (hk : Keeps (fun i => i = m ∨ wr.heap.size ≤ i) wr w') (hm : m ≠ l) (hmf : m < wf.heap.size) : SkAt w' l ts := by
  refine h.fi.sk.keeps hk ?_ (fun t ht => ?_) (fun t ht => ⟨fun q hq => ?_, fun q hq => ?_⟩)
  · rintro (e | e)
    · exact hm e.symm
    · have := (h.fi.sk.nod 0 (Nat.zero_le _)).lt
      have e2 : nb l ts 0 = l := rfl
      rw [e2] at this
      omega
  · rintro (e | e)
    · have := h.fi.tow t ht; omega
    · obtain ⟨i, hi, rfl⟩ := List.getElem_of_mem ht
      have := (h.fi.sk.nod (i + 1) (by omega)).lt
      rw [nb_succ l hi] at this
      omega
  · have h1 := own_from (h.xy t ht).1 hq
    have h2 := (h.fi.sk.inn t ht).1 q hq
    omega
  · have h1 := own_from (h.xy t ht).2 hq
    have h2 := (h.fi.sk.inn t ht).2 q hq
    omega

/-- the height plays no part -/
theorem chkSk_en {e : EnB} {h : Int} (h1 : 1 ≤ h) (h8 : h ≤ 8) : chkSk e h = chkEn e := by
  unfold chkSk chkEn
  simp [h1, h8]

def okE (e : EnB) : Bool := decide (chkEn e = 0)

theorem anyE_no {es : List EnB} {e : EnB} (h : ∀ x ∈ es, kyE x ≠ kyE e) : anyE es e = false := by
  unfold anyE
  rw [List.any_eq_false]
  intro x hx hs
  unfold sameE at hs
  obtain ⟨e1, e2, e3⟩ := of_decide_eq_true hs
  refine h x hx ?_
  unfold kyE
  rw [e1, show x.2.1 = e.2.1 by omega, show x.2.2.1 = e.2.2.1 from UInt8.toNat_inj.1 (by omega)]

/-- one more, of those that are alike by no version -/
theorem ins_perm {ts ts' : List Tow} {e : EnB} {hh c : Int} {L : List EnB} {wr : World} (h1 : 1 ≤ hh) (h8 : hh ≤ 8) (hp : (esT ts).Perm (L.filter okE)) (hd : ∀ x ∈ L, kyE x ≠ kyE e)
    (hi : (chkSk e hh = 0 ∧ anyE (esT ts) e = false ∧ c = 0 ∧ ∃ T : Tow, T.e = e ∧ (T.h : Int) = hh ∧ (wr.heap.size ≤ T.b ∧ From wr.heap.size T.x ∧ From wr.heap.size T.y) ∧ ts' = insT ts (cntE (esT ts) e) T) ∨ (chkSk e hh = 0 ∧ anyE (esT ts) e = true ∧ c = 7 ∧ ts' = ts) ∨ (¬ chkSk e hh = 0 ∧ c = chkSk e hh ∧ ts' = ts)) :
    (esT ts').Perm ((e :: L).filter okE) := by
  have hno : anyE (esT ts) e = false := anyE_no (fun x hx => hd x (List.mem_filter.1 (hp.mem_iff.1 hx)).1)
  rcases hi with ⟨hck, _, _, T, hTe, _, _, rfl⟩ | ⟨_, hany, _⟩ | ⟨hn, _, rfl⟩
  · rw [chkSk_en h1 h8] at hck
    rw [List.filter_cons_of_pos (by unfold okE; exact decide_eq_true hck)]
    refine (insT_perm _ _ _).trans ?_
    rw [hTe]
    exact hp.cons _
  · rw [hno] at hany; cases hany
  · rw [chkSk_en h1 h8] at hn
    rw [List.filter_cons_of_neg (by unfold okE; simpa using hn)]
    exact hp

/-- the name that a version is seen by -/
def nameE (k : KyT) : List UInt8 := k.1 ++ [0, UInt8.ofNat (k.2.1 % 256), UInt8.ofNat (k.2.1 / 256 % 256), k.2.2]

/-- the names that were seen -/
structure Seen (w : World) (m n : Nat) (O : List EnB) (D : DataW Unit) : Prop where
  mp : w.ownsMap Try.prog 9 (plainElem Try.prog 4) m n D
  at_ : ∀ l : List UInt8, D.atKey (.string l) (.lit (.bool false)) = .lit (.bool (decide (l ∈ O.map (fun e => nameE (kyE e)))))
  nd : (O.map (fun e => nameE (kyE e))).Nodup

theorem plainElem_bool_inv {H : Type} {P : Program} {e : TypeId} (he : P.underlying e = some .bool) {v : Value} {z : DataW H × List MemPlace} (h : plainElem P e v = some z) : ∃ b, v = .bool b ∧ z = (.lit (.bool b), []) := by
  unfold plainElem at h
  rw [he] at h
  cases v <;> simp at h
  exact ⟨_, rfl, h.symm⟩

theorem nm_key {s : ByteArray} {l : List UInt8} (hs : s.data.toList = l) (hl : l.length ≤ 1000000) : keyOf Try.prog 9 (.string s) = some (.string l) := by
  have hsz : s.size ≤ maxLen := by
    have e : s.size = l.length := by rw [← hs, Array.length_toList]; rfl
    unfold maxLen
    omega
  subst hs
  exact WideMaps.keyOf_string_mk Try.underlying9 hsz

theorem zero_bool (w : World) : (zeroValue 4).run Try.prog w = .ok (.bool false) w := by kernel_rfl

theorem Seen.look {w : World} {m n : Nat} {O : List EnB} {D : DataW Unit} (h : Seen w m n O D) (s : ByteArray) (l : List UInt8) (hs : s.data.toList = l) (hl : l.length ≤ 1000000) :
    (Instr.lookup 56 (.map (some m)) (.string s) false).run Try.prog w = .ok (.bool (decide (l ∈ O.map (fun e => nameE (kyE e))))) w := by
  obtain ⟨v, ps, hrun, hv⟩ := h.mp.lookup (string_keyed Try.underlying9) Try.underlying56 (zero_bool w) (plainElem_bool Try.underlying4 false) (key := .string s) (kl := .string l) (nm_key hs hl)
  rw [h.at_ l] at hv
  obtain ⟨b, rfl, hz⟩ := plainElem_bool_inv Try.underlying4 hv
  simp only [Prod.mk.injEq, DataW.lit.injEq, Lit.bool.injEq] at hz
  rw [hrun, hz.1]

theorem Seen.made (w : World) : Seen (w.alloc (.map #[] 0)) w.heap.size 0 [] (.map []) :=
  ⟨World.ownsMap_made _ _ _ _, fun l => by simp [DataW.atKey], by simp⟩

theorem Seen.put {w w' : World} {m n : Nat} {O : List EnB} {D : DataW Unit} {e : EnB} (h : Seen w m n O D) (hn : nameE (kyE e) ∉ O.map (fun e => nameE (kyE e))) (hm : w'.ownsMap Try.prog 9 (plainElem Try.prog 4) m (n + 1) (D.put (.string (nameE (kyE e))) (.lit (.bool true)))) :
    Seen w' m (n + 1) (O ++ [e]) (D.put (.string (nameE (kyE e))) (.lit (.bool true))) := by
  refine ⟨hm, fun l => ?_, ?_⟩
  · by_cases hl : l = nameE (kyE e)
    · subst hl
      rw [atKey_put_same h.mp.isMap (k := .string (nameE (kyE e))) (by simp [WideAt.IsKeyLit])]
      simp
    · rw [atKey_put_other (fun he => hl (by injection he))]
      rw [h.at_ l]
      simp [hl]
  · rw [List.map_append, List.nodup_append]
    exact ⟨h.nd, by simp, fun a ha b hb => by
      simp at hb
      subst hb
      exact fun e2 => hn (e2 ▸ ha)⟩

theorem Seen.kept {w w' : World} {m n : Nat} {O : List EnB} {D : DataW Unit} {row : Option Nat} (h : Seen w m n O D) (hg : w.grownBy w' row) (hne : some m ≠ row) : Seen w' m n O D := ⟨h.mp.kept hg hne, h.at_, h.nd⟩

theorem Seen.below {w w' : World} {m n : Nat} {O : List EnB} {D : DataW Unit} (h : Seen w m n O D) (hb : Below w.heap.size w w') : Seen w' m n O D := by
  have hlt := h.mp.lt
  obtain ⟨es, clock, hb2, F, hs, hD⟩ := h.mp
  exact ⟨⟨es, clock, by rw [hb.block m hlt]; exact hb2, F, hs, hD⟩, h.at_, h.nd⟩

/-- names that are apart are versions that are -/
theorem names_apart {O : List EnB} (h : (O.map (fun e => nameE (kyE e))).Nodup) : O.Pairwise (fun a b => kyE a ≠ kyE b) := by
  have h1 := List.pairwise_map.1 h
  exact h1.imp (fun h2 e => h2 (by rw [e]))

/-- entries in a row of one's own; what they hold was there in the world wf -/
def OnceR (B : Nat) (wf w : World) (v : Value) (O : List EnB) : Prop :=
  ∃ cs, w.ownsRow B 38 4 v O.length cs ∧ ∀ j (h : j < O.length), ∃ x y, cs[j * 4]? = some x ∧ cs[j * 4 + 1]? = some (.int .u64 (O[j].2.1 : Int)) ∧ cs[j * 4 + 2]? = some (.int .u8 (O[j].2.2.1.toNat : Int)) ∧ cs[j * 4 + 3]? = some y ∧ Rd wf x O[j].1 ∧ Rd wf y O[j].2.2.2

theorem OnceR.nil (B : Nat) (wf w : World) : OnceR B wf w (.slice none 0 0) [] := ⟨[], World.ownsRow_nil _ _ _ _, fun _ h => absurd h (Nat.not_lt_zero _)⟩

theorem OnceR.keeps {B : Nat} {F : Nat → Prop} {wf w w' : World} {v : Value} {O : List EnB} (h : OnceR B wf w v O) (hk : Keeps F w w') (hF : ∀ i, F i → i < B ∨ w.heap.size ≤ i) : OnceR B wf w' v O := by
  obtain ⟨cs, hr, hj⟩ := h
  exact ⟨cs, row_keeps hr hk hF, hj⟩

theorem OnceR.below {B : Nat} {wf w w' : World} {v : Value} {O : List EnB} (h : OnceR B wf w v O) (hb : Below w.heap.size w w') : OnceR B wf w' v O := by
  obtain ⟨cs, hr, hj⟩ := h
  exact ⟨cs, row_below hr hb, hj⟩

theorem OnceR.rd {B : Nat} {wf w : World} {v : Value} {O : List EnB} (h : OnceR B wf w v O) (hb : Below wf.heap.size wf w) : RdE w v O := by
  obtain ⟨cs, hr, hj⟩ := h
  have hr2 := hr
  rcases hr.2 with ⟨e, hn⟩ | ⟨g, cap, cur, e, hb0, hg, h1, h2, h3, h4⟩
  · exact ⟨none, 0, by rw [e, hn], by omega, Nat.zero_le _, fun j hj => by omega⟩
  · subst e
    refine ⟨_, cap, rfl, h1, h2, fun j h => ⟨g, 0, rfl, ?_⟩⟩
    obtain ⟨x, y, c0, c1, c2, c3, ox, oy⟩ := hj j h
    have hc := hr2.cells (g := g) rfl
    refine ⟨x, y, ?_, ?_, ?_, ?_, ox.below hb (Nat.le_refl _), oy.below hb (Nat.le_refl _)⟩
    · have := hc _ _ c0; rwa [Addr.add_lit] at this
    · have := hc _ _ c1; rwa [Addr.add_lit] at this
    · have := hc _ _ c2; rwa [Addr.add_lit] at this
    · have := hc _ _ c3; rwa [Addr.add_lit] at this

theorem OnceR.push {B g c n : Nat} {wf w' : World} {x y : Value} {O : List EnB} {cs : List Value} (o : EnB) (hl : O.length = n) (hcl : cs.length = n * 4)
    (hel : ∀ j (h : j < O.length), ∃ x y, cs[j * 4]? = some x ∧ cs[j * 4 + 1]? = some (.int .u64 (O[j].2.1 : Int)) ∧ cs[j * 4 + 2]? = some (.int .u8 (O[j].2.2.1.toNat : Int)) ∧ cs[j * 4 + 3]? = some y ∧ Rd wf x O[j].1 ∧ Rd wf y O[j].2.2.2)
    (hx : Rd wf x o.1) (hy : Rd wf y o.2.2.2) (hn : w'.ownsRow B 38 4 (.slice (some ⟨g, 0, none⟩) (n + 1) c) (n + 1) (cs ++ [x, .int .u64 (o.2.1 : Int), .int .u8 (o.2.2.1.toNat : Int), y])) : OnceR B wf w' (.slice (some ⟨g, 0, none⟩) (n + 1) c) (O ++ [o]) := by
  subst hl
  refine ⟨_, by rw [List.length_append]; exact hn, fun j h => ?_⟩
  by_cases hj : j < O.length
  · obtain ⟨x', y', c0, c1, c2, c3, ox, oy⟩ := hel j hj
    refine ⟨x', y', ?_, ?_, ?_, ?_, ?_, ?_⟩
    · rw [List.getElem?_append_left (by omega)]; exact c0
    · rw [List.getElem?_append_left (by omega), List.getElem_append_left hj]; exact c1
    · rw [List.getElem?_append_left (by omega), List.getElem_append_left hj]; exact c2
    · rw [List.getElem?_append_left (by omega)]; exact c3
    · rw [List.getElem_append_left hj]; exact ox
    · rw [List.getElem_append_left hj]; exact oy
  · have hje : j = O.length := by rw [List.length_append] at h; simp at h; omega
    subst hje
    have e : (O ++ [o])[O.length]'h = o := by simp
    rw [e]
    refine ⟨x, y, ?_, ?_, ?_, ?_, hx, hy⟩
    · rw [List.getElem?_append_right (by omega), show O.length * 4 - cs.length = 0 by omega]; rfl
    · rw [List.getElem?_append_right (by omega), show O.length * 4 + 1 - cs.length = 1 by omega]; rfl
    · rw [List.getElem?_append_right (by omega), show O.length * 4 + 2 - cs.length = 2 by omega]; rfl
    · rw [List.getElem?_append_right (by omega), show O.length * 4 + 3 - cs.length = 3 by omega]; rfl

end Go.Proofs.Ytekmlbbfipldoaa

/- Puts that came in. -/
namespace Go.Proofs.Ytekmlbbfipldoaa
set_option maxRecDepth 20000
open Go.ChangeShapes Go.WideShapes Go.ChangeAt Go.RowKit
set_option linter.unusedVariables false

theorem pt_of {H : Type} {enc : TypeId × Value → H} {w : World} {n : Nat} {v0 v1 v2 v3 v4 : Value} {y : DataW H × List MemPlace}
    (h : DataW.trod enc Try.prog w 0 (fun _ => true) true n 40 [v0, v1, v2, v3, v4] = some y) : ∃ o : PtB, v1 = .int .u64 (o.1.2.1 : Int) ∧ v2 = .int .u8 (o.1.2.2.1.toNat : Int) ∧ v4 = .int .i64 o.2 ∧ Arg w v0 o.1.1 ∧ Arg w v3 o.1.2.2.2 := by
  obtain ⟨y0, y1, n', _, _, h0, h1⟩ := ChangeShapes.trod_struct2 Try.underlying40 h
  have c38 : Try.prog.cellsOf 38 = 4 := by kernel_rfl
  have c3 : Try.prog.cellsOf 3 = 1 := by kernel_rfl
  simp only [c38, c3] at h0 h1
  simp at h0 h1
  obtain ⟨o, e1, e2, _, r1, r2⟩ := en_of h0
  obtain ⟨k, e4, _, _⟩ := DataW.trod_int Try.underlying3 h1
  simp at e4
  exact ⟨(o, k), e1, e2, e4, r1, r2⟩

/-- puts that came in -/
theorem putsArg_of {H : Type} {enc : TypeId × Value → H} {w : World} {a : Option Addr} {len cap : Nat} {d : DataW H} {ps : List MemPlace}
    (h : DataW.Trod enc Try.prog w 0 (fun _ => true) true 22 (.slice a len cap) d ps) : ∃ es, ArgPt w (.slice a len cap) es ∧ True := by
  obtain ⟨fuel, hf⟩ := h
  rcases Deep.open_slice Try.underlying22 hf with ⟨hcs, _⟩ | ⟨x, len', cap', m, n, D, Pl, hcs, _, hl, hm, hmm, _, hall⟩
  · simp [Value.cells] at hcs
    obtain ⟨rfl, rfl, rfl⟩ := hcs
    exact ⟨[], LsP.nil _ w, trivial⟩
  · simp [Value.cells] at hcs
    obtain ⟨rfl, rfl, rfl⟩ := hcs
    simp only [if_true] at hmm
    subst hmm
    have c5 : Try.prog.cellsOf 40 = 5 := by kernel_rfl
    rw [c5] at hall
    have hsp : 0 < len → x.spot = none := by
      intro h0
      obtain ⟨cs', h1, _⟩ := hall 0 (by omega)
      obtain ⟨_, hlen, hcell⟩ := World.cells?_some h1
      match cs', hlen with
      | [v0, v1, v2, v3, v4], _ =>
        have k0 : w.cell? ((x.add (0 * 5)).add 0) = some v0 := hcell 0 (by decide)
        simpa [Addr.add] using World.cell?_spot k0
    have hex : ∀ i, i < len → ∃ o : PtB, ∃ b off, x = ⟨b, off, none⟩ ∧ PtAt Arg w b (off + i * 5) o := by
      intro i hi
      obtain ⟨cs', h1, h2⟩ := hall i (by omega)
      obtain ⟨_, hlen, hcell⟩ := World.cells?_some h1
      match cs', hlen with
      | [v0, v1, v2, v3, v4], _ =>
        obtain ⟨o, rfl, rfl, rfl, r1, r2⟩ := pt_of h2
        have k0 : w.cell? ((x.add (i * 5)).add 0) = some v0 := hcell 0 (by decide)
        have k1 : w.cell? ((x.add (i * 5)).add 1) = some (.int .u64 (o.1.2.1 : Int)) := hcell 1 (by decide)
        have k2 : w.cell? ((x.add (i * 5)).add 2) = some (.int .u8 (o.1.2.2.1.toNat : Int)) := hcell 2 (by decide)
        have k3 : w.cell? ((x.add (i * 5)).add 3) = some v3 := hcell 3 (by decide)
        have k4 : w.cell? ((x.add (i * 5)).add 4) = some (.int .i64 o.2) := hcell 4 (by decide)
        have hspot := hsp (by omega)
        obtain ⟨b, off, spot⟩ := x
        simp only at hspot
        subst hspot
        simp only [Addr.add_lit] at k0 k1 k2 k3 k4
        exact ⟨o, b, off, rfl, ⟨v0, v3, k0, k1, k2, k3, k4, r1, r2⟩⟩
    obtain ⟨L, hL⟩ := Deep.choose_lt hex
    refine ⟨(List.range len).map L, ⟨some x, m, by simp, by simp; omega, hm, fun j hj => ?_⟩, trivial⟩
    have hj' : j < len := by simpa using hj
    obtain ⟨b, off, rfl, ho⟩ := hL j hj'
    exact ⟨b, off, rfl, by simpa using ho⟩

end Go.Proofs.Ytekmlbbfipldoaa

/- SkipHeights. -/
namespace Go.Proofs.Ytekmlbbfipldoaa
open Go.RowKit Go.Shelf Go.Maps
set_option linter.unusedVariables false

theorem name4_own (W : World) (ks : Nat) (kd : UInt8) (r1 r2 kk : Nat) (h1 : ks % 256 = r1) (h2 : ks / 256 % 256 = r2) (h3 : kd.toNat = kk) :
    Own W.heap.size (W.alloc (.cells #[.int .u8 0, .int .u8 (r1 : Int), .int .u8 (r2 : Int), .int .u8 (kk : Int)] 5)) (.slice (some ⟨W.heap.size, 0, none⟩) 4 4) [0, UInt8.ofNat (ks % 256), UInt8.ofNat (ks / 256 % 256), kd] :=
  own_lit W W.heap.size (Nat.le_refl _) [0, UInt8.ofNat (ks % 256), UInt8.ofNat (ks / 256 % 256), kd] (by simp [maxLen]) _ (by simp [bv]; omega)

theorem tmod8 (j : Nat) : (j : Int).tmod 8 = ((j % 8 : Nat) : Int) := by
  rw [Int.tmod_eq_emod_of_nonneg (by omega)]
  omega

theorem Keeps.grown {F : Nat → Prop} {a b c : World} {row : Option Nat} (h : Keeps F a b) (hg : b.grownBy c row) (hr : ∀ r, row = some r → F r) : Keeps F a c :=
  ⟨hg.os.trans h.os, hg.tape.trans h.tape, hg.output.trans h.output, Nat.le_trans h.size hg.size, fun i hi hn => (hg.block i (Nat.lt_of_lt_of_le hi h.size) (fun e => hn (hr i e.symm))).trans (h.block i hi hn)⟩

theorem Seen.more {w : World} {m n : Nat} {O : List EnB} {D : DataW Unit} (h : Seen w m n O D) : Seen w m (n + 1) O D := ⟨h.mp.mono (Nat.le_succ _), h.at_, h.nd⟩

theorem OnceR.at {B : Nat} {wf w : World} {a : Option Addr} {m c : Nat} {O : List EnB} (h : OnceR B wf w (.slice a m c) O) (hb : Below wf.heap.size wf w) (hl : O.length = m) {j : Nat} (hj : j < m) :
    ∃ g x y, a = some ⟨g, 0, none⟩ ∧ m ≤ c ∧ c ≤ 9223372036854775807 ∧ w.cell? ⟨g, j * 4, none⟩ = some x ∧ w.cell? ⟨g, j * 4 + 1, none⟩ = some (.int .u64 ((O[j]'(by omega)).2.1 : Int)) ∧ w.cell? ⟨g, j * 4 + 2, none⟩ = some (.int .u8 ((O[j]'(by omega)).2.2.1.toNat : Int)) ∧ w.cell? ⟨g, j * 4 + 3, none⟩ = some y ∧ Rd w x (O[j]'(by omega)).1 ∧ Rd w y (O[j]'(by omega)).2.2.2 := by
  subst hl
  obtain ⟨cs, hr, hel⟩ := h
  obtain ⟨x, y, c0, c1, c2, c3, ox, oy⟩ := hel j hj
  rcases hr.2 with ⟨e, hn⟩ | ⟨g, cap, cur, e, _, _, h1, h2, _⟩
  · omega
  · cases e
    have hc := hr.cells (g := g) rfl
    unfold maxLen at h2
    refine ⟨g, x, y, rfl, h1, h2, ?_, ?_, ?_, ?_, ox.below hb (Nat.le_refl _), oy.below hb (Nat.le_refl _)⟩
    · have := hc _ _ c0; rw [Addr.add_lit, Nat.zero_add] at this; exact this
    · have := hc _ _ c1; rw [Addr.add_lit, Nat.zero_add] at this; exact this
    · have := hc _ _ c2; rw [Addr.add_lit, Nat.zero_add] at this; exact this
    · have := hc _ _ c3; rw [Addr.add_lit, Nat.zero_add] at this; exact this

theorem sub_nxt {i n : Nat} (h : i < n) : n - i = n - (i + 1) + 1 := by omega

theorem perm_snoc {ts : List EnB} {L : List EnB} {e : EnB} (h : ts.Perm ((e :: L).filter okE)) : ts.Perm ((L ++ [e]).filter okE) :=
  h.trans ((List.perm_append_singleton e L).symm.filter okE)

theorem pw_front {O : List EnB} (h : O.Pairwise (fun a b => kyE a ≠ kyE b)) {j : Nat} (hj : j < O.length) : ∀ x ∈ O.take j, kyE x ≠ kyE O[j] := fun x hx => by
  obtain ⟨i, hi, rfl⟩ := List.getElem_of_mem hx
  rw [List.length_take] at hi
  rw [List.getElem_take]
  exact List.pairwise_iff_getElem.1 h i j (by omega) hj (by omega)

theorem pw_behind {O : List EnB} (h : O.Pairwise (fun a b => kyE a ≠ kyE b)) {j : Nat} (hj : j < O.length) : ∀ x ∈ O.drop (j + 1), kyE x ≠ kyE O[j] := fun x hx => by
  obtain ⟨i, hi, rfl⟩ := List.getElem_of_mem hx
  rw [List.length_drop] at hi
  rw [List.getElem_drop]
  exact (List.pairwise_iff_getElem.1 h j (j + 1 + i) hj (by omega) (by omega)).symm

set_option maxRecDepth 100000 in
set_option maxHeartbeats 8000000 in
theorem skipHeights_at (w : World) (a0 : Option Addr) (n0 c0 : Nat) (es : List PtB) (hv : ArgPt w (.slice a0 n0 c0) es) (ha : Option Addr) (hn hc : Nat) (hgs : List UInt8) (hw : Arg w (.slice ha hn hc) hgs) :
    Calls Try.prog 4 #[.slice a0 n0 c0, .slice ha hn hc] w fun e w' => e = .returned (.bool true) ∧ Below w.heap.size w w' := by
  obtain ⟨i0, hi', hz0, hz1, hz2⟩ := info_parts infoEn
  have HV : Hid (ArgPt w (.slice a0 n0 c0) es) := hv
  have HW : Hid (Arg w (.slice ha hn hc) hgs) := hw
  clear hv hw
  have hmk : ∀ w : World, (Instr.makeMap 56 none).run Try.prog w = .ok (.map (some w.heap.size)) (w.alloc (.map #[] 0)) := fun w => run_makeMap _ w
  go_enter Try.func4, Try.ntmps4
  go_wp2_with fail
  refine (skawake_any w).mono ?_
  rintro e w1 ⟨rfl, hb1⟩
  have HB1 : Hid (Below w.heap.size w w1) := hb1
  clear hb1
  go_wp2_with fail
  refine (fewP_any w1 _ es (argPt_below HV.out HB1.out (Nat.le_refl _))).mono ?_
  rintro e wf ⟨fv, rfl, hO, hbf⟩
  have HBF : Hid (Below w.heap.size w wf) := bsplit HB1.out hbf
  have HRF : Hid (RdPt wf fv (fewP es)) := hO.rd
  obtain ⟨fa, fc, hfv, h1, h2, _⟩ := hO.rd
  subst hfv
  obtain ⟨ps, hps⟩ : ∃ ps, fewP es = ps := ⟨_, rfl⟩
  have HSH : Hid (∀ p ∈ ps, p.1.1.length ≤ 80 ∧ p.1.2.2.2.length ≤ 600) := by intro p hp; rw [← hps] at hp; exact fewP_short p hp
  have hp60 : ps.length ≤ 60 := by rw [← hps]; exact fewP_len es
  rw [hps] at HRF h1 ⊢
  obtain ⟨N, hN⟩ : ∃ N, ps.length = N := ⟨_, rfl⟩
  have HN : Hid (ps.length = N) := hN
  rw [hN] at h1 hp60 ⊢
  unfold maxLen at h2
  have HN60 : Hid (N ≤ 60) := hp60
  have hbm := below_box4 wf (.map #[] 0)
  have hsn := Seen.made wf
  obtain ⟨wm, hwm⟩ : ∃ wm, wf.alloc (.map #[] 0) = wm := ⟨_, rfl⟩
  rw [hwm] at hbm hsn
  have HSN : Hid (Seen wm wf.heap.size 0 [] (.map [])) := hsn
  have HBM : Hid (Below wf.heap.size wf wm) := hbm
  have HMB : Hid (wf.heap.size < wm.heap.size) := hsn.mp.lt
  clear hO hbf hps hN hp60 hbm hsn
  go_wp2_with fail
  refine (sknew_any wm).mono ?_
  rintro e wa ⟨rfl, hSa, hba⟩
  have HSA : Hid (SkAt wa wm.heap.size []) := hSa
  have HBA : Hid (Below wm.heap.size wm wa) := hba
  clear hSa hba hwm
  go_wp2_with fail
  refine (sknew_any wa).mono ?_
  rintro e w2 ⟨rfl, hSb, hbb⟩
  have HSB : Hid (SkAt w2 wa.heap.size []) := hSb
  have HSA2 : Hid (SkAt w2 wm.heap.size []) := SkAt.below HSA.out hbb
  have HLA : Hid (wm.heap.size < wa.heap.size) := (HSA.out.nod 0 (Nat.zero_le _)).lt
  have HLB : Hid (wa.heap.size < w2.heap.size) := (HSB.out.nod 0 (Nat.zero_le _)).lt
  have HSN2 : Hid (Seen w2 wf.heap.size 0 [] (.map [])) := (HSN.out.below HBA.out).below hbb
  have HBM2 : Hid (Below wf.heap.size wf w2) := bsplit (bsplit HBM.out HBA.out) hbb
  obtain ⟨la, hla⟩ : ∃ l, wm.heap.size = l := ⟨_, rfl⟩
  obtain ⟨lb, hlb⟩ : ∃ l, wa.heap.size = l := ⟨_, rfl⟩
  obtain ⟨mb, hmb⟩ : ∃ l, wf.heap.size = l := ⟨_, rfl⟩
  have HORD : Hid (wf.heap.size = mb ∧ mb < la ∧ la < lb ∧ lb < w2.heap.size ∧ w.heap.size ≤ mb) := ⟨hmb, by rw [← hmb, ← hla]; exact HMB.out, by rw [← hla, ← hlb]; exact HLA.out, by rw [← hlb]; exact HLB.out, by rw [← hmb]; exact HBF.out.size⟩
  rw [hlb] at HSB
  rw [hla] at HSA2
  rw [hmb] at HSN2
  rw [hla, hlb, hmb]
  clear hSb hbb HSA HSN HBM HBA HMB HLA HLB hla hlb hmb
  go_wp2_with fail
  go_loopg [8, 25] N (fun gk ov iv wr => ∃ (j m c : Nat) (a : Option Addr) (O : List EnB) (D : DataW Unit), gk + j = N ∧ iv = .int .i64 (j : Int) ∧ ov = .slice a m c ∧ m ≤ j ∧ Hid (O.length = m) ∧ Hid (OnceR w2.heap.size wf wr (.slice a m c) O) ∧ Hid (Seen wr mb j O D) ∧ Hid (∀ e ∈ O, e.1.length ≤ 80 ∧ e.2.2.2.length ≤ 600) ∧ Hid (Keeps (fun i => i = mb ∨ w2.heap.size ≤ i) w2 wr))
  case atStart => exact ⟨0, 0, 0, none, [], .map [], by omega, rfl, rfl, Nat.le_refl _, rfl, OnceR.nil _ _ _, HSN2, fun e he => by simp at he, Keeps.refl _ _⟩
  case round =>
    obtain ⟨j, m, c, a, O, D, hj, rfl, rfl, hmj, HOL, HO, HSE, HES, HKP⟩ := hrel
    have HBR : Hid (Below wf.heap.size wf wr) := HBM2.out.trans (HKP.out.below (fun i hi => by have h9 := HORD.out; have h8 := HBM2.out.size; rcases hi with h | h <;> omega) HBM2.out.size)
    by_cases hlt : j < N
    · have hlt2 : j < ps.length := by rw [HN.out]; exact hlt
      obtain ⟨_, _, e, _, _, h3⟩ := rdPt_below (show RdPt wf _ ps from HRF.out) HBR.out (Nat.le_refl _)
      cases e
      obtain ⟨b, off, rfl, xv, yv, c0, c1, c2, c3, c4, rx, ry⟩ := h3 j hlt2
      obtain ⟨_, _, e, _, _, h3f⟩ := HRF.out
      cases e
      obtain ⟨b', off', ebo, xw, yw, d0, _, _, d3, _, rxf, ryf⟩ := h3f j hlt2
      cases ebo
      obtain ⟨rfl, rfl⟩ : xw = xv ∧ yw = yv := by
        have e0 := HBR.out.cell (p := ⟨b, off + j * 5, none⟩) (World.block_lt_of_cell? _ _ d0)
        have e3 := HBR.out.cell (p := ⟨b, off + j * 5 + 3, none⟩) (World.block_lt_of_cell? _ _ d3)
        rw [e0, d0] at c0
        rw [e3, d3] at c3
        exact ⟨Option.some.inj c0, Option.some.inj c3⟩
      obtain ⟨x1, x2, ex⟩ := rx.len
      obtain ⟨y1, y2, ey⟩ := ry.len
      subst ex ey
      have hsh := HSH.out _ (List.getElem_mem hlt2)
      obtain ⟨⟨⟨ku, ks, kd, kv⟩, oh⟩, ho⟩ : ∃ o, ps[j] = o := ⟨_, rfl⟩
      rw [ho] at c0 c1 c2 c3 c4 rx ry rxf ryf hsh
      obtain ⟨q1, q2⟩ : gk - 1 < gk ∧ gk - 1 + (j + 1) = N := by omega
      simp only at c0 c1 c2 c3 c4 rx ry rxf ryf hsh
      have HEL : Hid (ku.length ≤ 80 ∧ kv.length ≤ 600) := hsh
      obtain ⟨kk, hkk⟩ : ∃ kk, kd.toNat = kk := ⟨_, rfl⟩
      obtain ⟨nl, hnl⟩ : ∃ nl, ku.length = nl := ⟨_, rfl⟩
      obtain ⟨vl, hvl⟩ : ∃ vl, kv.length = vl := ⟨_, rfl⟩
      rw [hkk] at c2
      rw [hnl] at c0 rx rxf
      rw [hvl] at c3 ry ryf
      have HXF : Hid (Rd wf (.slice x1 nl x2) ku) := rxf
      have HYF : Hid (Rd wf (.slice y1 vl y2) kv) := ryf
      have HKK : Hid (kd.toNat = kk) := hkk
      have hb0 := below_box4 wr (.cells #[.slice x1 nl x2, .int .u64 (ks : Int), .int .u8 (kk : Int), .slice y1 vl y2, .int .i64 oh] 40)
      have bx0 := box5_new wr (.slice x1 nl x2) (.int .u64 (ks : Int)) (.int .u8 (kk : Int)) (.slice y1 vl y2) (.int .i64 oh) 40
      have hcv1 := conv_rd (rx.below hb0 (Nat.le_refl _))
      have hq : (ks : Int) / 256 = ((ks / 256 : Nat) : Int) := by omega
      have hw1 : IntKind.u8.wrap (ks : Int) = ((ks % 256 : Nat) : Int) := by rw [IntKind.wrap_u8]; omega
      have hw2 : IntKind.u8.wrap ((ks / 256 : Nat) : Int) = ((ks / 256 % 256 : Nat) : Int) := by rw [IntKind.wrap_u8]; omega
      obtain ⟨qq, hqq⟩ : ∃ q, ks / 256 = q := ⟨_, rfl⟩
      obtain ⟨r1, hr1⟩ : ∃ q, ks % 256 = q := ⟨_, rfl⟩
      obtain ⟨r2, hr2⟩ : ∃ q, ks / 256 % 256 = q := ⟨_, rfl⟩
      rw [hqq] at hq
      rw [hr1] at hw1
      rw [hr2, hqq] at hw2
      have hlit := name4_own (wr.alloc (.cells #[.slice x1 nl x2, .int .u64 (ks : Int), .int .u8 (kk : Int), .slice y1 vl y2, .int .i64 oh] 40)) ks kd r1 r2 kk hr1 hr2 hkk
      have hb2 := below_box4 (wr.alloc (.cells #[.slice x1 nl x2, .int .u64 (ks : Int), .int .u8 (kk : Int), .slice y1 vl y2, .int .i64 oh] 40)) (.cells #[.int .u8 0, .int .u8 (r1 : Int), .int .u8 (r2 : Int), .int .u8 (kk : Int)] 5)
      have hcv2 := conv_rd hlit.rd
      simp only [World.size_alloc] at hcv2
      have hbW := bsplit hb0 hb2
      have HSE2 : Hid (Seen _ mb j O D) := HSE.out.below hbW
      have HO2 : Hid (OnceR w2.heap.size wf _ (.slice a m c) O) := HO.out.below hbW
      have HKP2 : Hid (Keeps (fun i => i = mb ∨ w2.heap.size ≤ i) w2 _) := HKP.out.trans (Below.keeps hbW _)
      have bx2 := bx0.below hb2 (Nat.le_refl _)
      have HNM : Hid ((⟨ku.toArray⟩ ++ ⟨[0, UInt8.ofNat (ks % 256), UInt8.ofNat (ks / 256 % 256), kd].toArray⟩ : ByteArray).data.toList = nameE (kyE (ku, ks, kd, kv))) := by
        show _ = _
        simp [nameE, kyE]
      obtain ⟨s4, hs4⟩ : ∃ s4 : ByteArray, (⟨[0, UInt8.ofNat (ks % 256), UInt8.ofNat (ks / 256 % 256), kd].toArray⟩ : ByteArray) = s4 := ⟨_, rfl⟩
      obtain ⟨s1, hs1⟩ : ∃ s1 : ByteArray, (⟨ku.toArray⟩ : ByteArray) = s1 := ⟨_, rfl⟩
      rw [hs4] at hcv2 HNM
      rw [hs1] at hcv1 HNM
      have hsz1 : s1.size ≤ 80 := by rw [← hs1]; show ku.toArray.size ≤ 80; rw [List.size_toArray]; exact HEL.out.1
      have hsz4 : s4.size = 4 := by rw [← hs4]; rfl
      have HLN : Hid ((nameE (kyE (ku, ks, kd, kv))).length ≤ 1000000) := by
        show _ ≤ _
        have := HEL.out.1
        simp [nameE, kyE]
        omega
      clear ho h3 h3f rx ry rxf ryf hsh hkk hnl hvl hb0 bx0 hqq hr1 hr2 hlit hb2 hs1 hs4 hbW d0 d3
      have hlk := HSE2.out.look (s1 ++ s4) _ HNM.out HLN.out
      by_cases hin : nameE (kyE (ku, ks, kd, kv)) ∈ O.map (fun e => nameE (kyE e))
      · rw [decide_eq_true hin] at hlk
        clear hin
        go_wp2_with fail
        go_roundg (gk - 1)
        case measure => exact q1
        case rel => exact ⟨j + 1, m, c, a, O, D, q2, by go_num, rfl, Nat.le_succ_of_le hmj, HOL, HO2, HSE2.out.more, HES, HKP2⟩
      · rw [decide_eq_false hin] at hlk
        have HIN : Hid (nameE (kyE (ku, ks, kd, kv)) ∉ O.map (fun e => nameE (kyE e))) := hin
        have HJ : Hid (j < 60 ∧ m ≤ j) := ⟨by have := HN60.out; omega, hmj⟩
        have HBX : Hid (Box5 _ wr.heap.size (.slice x1 nl x2) (.int .u64 (ks : Int)) (.int .u8 (kk : Int)) (.slice y1 vl y2) (.int .i64 oh)) := bx2
        have HWR : Hid (w2.heap.size ≤ wr.heap.size ∧ wr.heap.size ≤ ((wr.alloc (.cells #[.slice x1 nl x2, .int .u64 (ks : Int), .int .u8 (kk : Int), .slice y1 vl y2, .int .i64 oh] 40)).alloc (.cells #[.int .u8 0, .int .u8 (r1 : Int), .int .u8 (r2 : Int), .int .u8 (kk : Int)] 5)).heap.size) := ⟨HKP.out.size, by simp; omega⟩
        obtain ⟨cs, hrow, hel⟩ := HO2.out
        have HRW : Hid (World.ownsRow ((wr.alloc (.cells #[.slice x1 nl x2, .int .u64 (ks : Int), .int .u8 (kk : Int), .slice y1 vl y2, .int .i64 oh] 40)).alloc (.cells #[.int .u8 0, .int .u8 (r1 : Int), .int .u8 (r2 : Int), .int .u8 (kk : Int)] 5)) w2.heap.size 38 4 (.slice a m c) m cs) := by rw [HOL.out] at hrow; exact hrow
        have HEL2 : Hid (∀ j (h : j < O.length), ∃ x y, cs[j * 4]? = some x ∧ cs[j * 4 + 1]? = some (.int .u64 (O[j].2.1 : Int)) ∧ cs[j * 4 + 2]? = some (.int .u8 (O[j].2.2.1.toNat : Int)) ∧ cs[j * 4 + 3]? = some y ∧ Rd wf x O[j].1 ∧ Rd wf y O[j].2.2.2) := hel
        clear hin hrow hel bx2
        go_wp2_with (first
          | (at_mapUpdate
             refine wpList_mapUpdate_own _ rfl _ _ _ 56 rfl 9 4 (string_keyed Try.underlying9) Try.underlying56 _ mb j D rfl HSE2.out.mp (by have := HJ.out; unfold maxLen; omega) _ _ _ rfl rfl (nm_key HNM.out HLN.out) _ [] (plainElem_bool Try.underlying4 true) ?_
             intro w5 hown5 hgrow5
             obtain ⟨k0, k1, k2, k3, _⟩ := HBX.out.grown hgrow5 (fun e => by have h8 := HORD.out; have h9 := HWR.out; cases e; omega)
             have hrow5 : w5.ownsRow w2.heap.size 38 4 (.slice a m c) m cs := row_aside HRW.out hgrow5 (fun r e => by cases e; exact .inl (by have := HORD.out; omega))
             have hbe := below_box4 w5 (.cells #[.slice x1 nl x2, .int .u64 (ks : Int), .int .u8 (kk : Int), .slice y1 vl y2] 38)
             have hlit := laid4 w5 (.slice x1 nl x2) (.int .u64 (ks : Int)) (.int .u8 (kk : Int)) (.slice y1 vl y2) 38
             have hrow6 := row_below hrow5 hbe
             have hse : w2.heap.size ≤ (w5.alloc (.cells #[.slice x1 nl x2, .int .u64 (ks : Int), .int .u8 (kk : Int), .slice y1 vl y2] 38)).heap.size := Nat.le_trans HKP2.out.size (Nat.le_trans hgrow5.size hbe.size)
             have HSE5 : Hid (Seen _ mb (j + 1) (O ++ [(ku, ks, kd, kv)]) _) := (HSE2.out.put HIN.out hown5).below hbe
             have HKP5 : Hid (Keeps (fun i => i = mb ∨ w2.heap.size ≤ i) w2 (w5.alloc (.cells #[.slice x1 nl x2, .int .u64 (ks : Int), .int .u8 (kk : Int), .slice y1 vl y2] 38))) := (HKP2.out.grown hgrow5 (fun r e => by cases e; exact .inl rfl)).trans (Below.keeps hbe _)
             have HR6 : Hid (World.ownsRow _ w2.heap.size 38 4 (.slice a m c) m cs) := hrow6
             clear hown5 hgrow5 hrow5 hbe)
          | (at_builtin
             refine wpList_append_lies _ rfl (.tmp 57) (.tmp 60) 28 rfl w2.heap.size 38 i0 (.agg #[.slice none 0 0, .int .u64 0, .int .u8 0, .slice none 0 0]) 4 64 Try.underlying28 hi' hz0 hz1 hz2 rfl (by decide) (.slice a m c) m cs rfl hrow6 ⟨w5.heap.size, 0, none⟩ 1 1 [.slice x1 nl x2, .int .u64 (ks : Int), .int .u8 (kk : Int), .slice y1 vl y2] rfl rfl hlit (oneE _ _ _ _ _ _ _ _) (by decide) (by have := HJ.out; simp only [maxLen]; omega) (by have := HJ.out; omega) hse _ rfl ?_
             intro g4 c4 w4 hown hgrow hat hlt4
             rw [← HKK.out] at hown
             have HP : Hid (OnceR w2.heap.size wf w4 (.slice (some ⟨g4, 0, none⟩) (m + 1) c4) (O ++ [(ku, ks, kd, kv)])) := OnceR.push (ku, ks, kd, kv) HOL.out HRW.out.1 HEL2.out HXF.out HYF.out hown
             have HS4 : Hid (Seen w4 mb (j + 1) (O ++ [(ku, ks, kd, kv)]) _) := HSE5.out.kept hgrow (fun e => by have h9 := (HR6.out.lt mb e.symm).1; have h8 := HORD.out; omega)
             have HK4 : Hid (Keeps (fun i => i = mb ∨ w2.heap.size ≤ i) w2 w4) := HKP5.out.grown hgrow (fun r e => .inr (HR6.out.lt r e).1)
             clear hown hgrow hat hlt4)
          | fail)
        clear hrow6 hlit hse
        go_roundg (gk - 1)
        case measure => exact q1
        case rel => exact ⟨j + 1, m + 1, c4, _, O ++ [(ku, ks, kd, kv)], _, q2, by go_num, rfl, by omega, by show _ = _; rw [List.length_append, HOL.out]; rfl, HP, HS4, fun e he => by
          rcases List.mem_append.1 he with h | h
          · exact HES.out e h
          · simp at h; subst h; exact HEL.out, HK4⟩
    · have hjN : j = N := by omega
      have hm60 : m ≤ 60 := by have := HN60.out; omega
      have HM60 : Hid (m ≤ 60) := hm60
      have HPW : Hid (O.Pairwise (fun a b => kyE a ≠ kyE b)) := names_apart HSE.out.nd
      have HBW3 : Hid (Below w.heap.size w wr) := HBF.out.trans (HBR.out.mono HBF.out.size)
      have HNF : Hid (¬ (la = mb ∨ w2.heap.size ≤ la) ∧ ¬ (lb = mb ∨ w2.heap.size ≤ lb)) := by have := HORD.out; constructor <;> omega
      have HFA0 : Hid (Fill2 w wr la 0 wr []) := Fill2.start (SkAt.keeps HSA2.out HKP.out HNF.out.1 (fun t ht => by simp at ht) (fun t ht => by simp at ht)) HBW3.out
      have HSB3 : Hid (SkAt wr lb []) := SkAt.keeps HSB.out HKP.out HNF.out.2 (fun t ht => by simp at ht) (fun t ht => by simp at ht)
      have HSZ3 : Hid (w2.heap.size ≤ wr.heap.size) := HKP.out.size
      obtain ⟨w3, hw3⟩ : ∃ w3, w3 = wr := ⟨_, rfl⟩
      subst hw3
      clear hj hjN HSE HRF
      go_wp2_with fail
      go_loopg [65] m (fun gk iv wr => ∃ (j : Nat) (ts : List Tow), gk + j = m ∧ iv = .int .i64 (j : Int) ∧ Hid (Fill2 w w3 la j wr ts) ∧ Hid ((esT ts).Perm ((O.take j).filter okE)))
      case atStart => exact ⟨0, [], by omega, rfl, HFA0, by show List.Perm _ _; simp [esT]⟩
      case round =>
        obtain ⟨j2, ts, hj, rfl, HF, HPM⟩ := hrel
        by_cases hlt3 : j2 < m
        · obtain ⟨q1, q2⟩ : gk - 1 < gk ∧ gk - 1 + (j2 + 1) = m := by omega
          have hj2 : j2 < O.length := by rw [HOL.out]; exact hlt3
          have hOr := HO.out.keeps HF.out.fi.kp (fun i hi => by have h9 := HORD.out; rcases hi with h | h <;> omega)
          have hBr : Below wf.heap.size wf wr := HBR.out.trans (HF.out.fi.kp.below (fun i hi => by have h9 := HORD.out; have h8 := HBR.out.size; rcases hi with h | h <;> omega) HBR.out.size)
          obtain ⟨g, x, y, rfl, g1, g2, c0, c1, c2, c3, rx, ry⟩ := hOr.at hBr HOL.out hlt3
          obtain ⟨x1, x2, ex⟩ := rx.len
          obtain ⟨y1, y2, ey⟩ := ry.len
          subst ex ey
          have hsh := HES.out _ (List.getElem_mem hj2)
          have hap := pw_front HPW.out hj2
          have htk : O.take (j2 + 1) = O.take j2 ++ [O[j2]] := List.take_succ_eq_append_getElem hj2
          obtain ⟨⟨ku, ks, kd, kv⟩, ho⟩ : ∃ o, O[j2] = o := ⟨_, rfl⟩
          rw [ho] at c0 c1 c2 c3 rx ry hsh hap htk
          simp only at c0 c1 c2 c3 rx ry hsh
          obtain ⟨r, hr⟩ : ∃ r, j2 % 8 = r := ⟨_, rfl⟩
          have hmod := tmod8 j2
          rw [hr] at hmod
          have hr8 : r < 8 := by omega
          have HHH : Hid ((1 : Int) ≤ 1 + (r : Int) ∧ 1 + (r : Int) ≤ 8) := by constructor <;> omega
          have hb0 := below_box4 wr (.cells #[.slice x1 ku.length x2, .int .u64 (ks : Int), .int .u8 (kd.toNat : Int), .slice y1 kv.length y2] 38)
          obtain ⟨z0, z1, z2, z3⟩ := box4_new wr (.slice x1 ku.length x2) (.int .u64 (ks : Int)) (.int .u8 (kd.toNat : Int)) (.slice y1 kv.length y2) 38
          have hF1 := HF.out.below hb0
          have HF1 : Hid (Fill2 w w3 la j2 _ ts) := hF1
          have hcn := HF.out.fi.cnt
          have hin := skinsert_own _ la ts _ _ (ku, ks, kd, kv) (1 + (r : Int)) hF1.fi.sk (rx.below hb0 (Nat.le_refl _)) (ry.below hb0 (Nat.le_refl _)) (by simp only; omega) (by simp only; omega) (by omega)
          have HE : Hid (ku.length ≤ 80 ∧ kv.length ≤ 600) := hsh
          have HAP : Hid (∀ x ∈ O.take j2, kyE x ≠ kyE (ku, ks, kd, kv)) := hap
          have HTK : Hid (O.take (j2 + 1) = O.take j2 ++ [(ku, ks, kd, kv)]) := htk
          simp only [enV] at hin
          obtain ⟨kk, hkk⟩ : ∃ kk, kd.toNat = kk := ⟨_, rfl⟩
          obtain ⟨nl, hnlq⟩ : ∃ nl, ku.length = nl := ⟨_, rfl⟩
          obtain ⟨oln, holn⟩ : ∃ oln, kv.length = oln := ⟨_, rfl⟩
          rw [hkk, hnlq, holn] at hin HF1
          rw [hkk, hnlq, holn] at z0 z1 z2 z3
          rw [hkk] at c2
          rw [hnlq] at c0
          rw [holn] at c3
          clear ho hb0 rx ry hsh hcn hkk hnlq holn hap htk hF1 hOr hBr hr
          go_wp2_with fail
          refine hin.mono ?_
          rintro e5 w5 hp5
          obtain ⟨cc, ts', rfl, hF5, hcase⟩ := HF1.out.ins (by have := HORD.out; omega) HBW3.out.size HE.out hp5
          have HF5 : Hid (Fill2 w w3 la (j2 + 1) w5 ts') := hF5
          have HP5 : Hid ((esT ts').Perm ((O.take (j2 + 1)).filter okE)) := by
            show List.Perm _ _
            rw [HTK.out]
            exact perm_snoc (ins_perm HHH.out.1 HHH.out.2 HPM.out HAP.out hcase)
          clear hin hp5 hF5 hcase z0 z1 z2 z3 c0 c1 c2 c3
          go_wp2_with fail
          go_roundg (gk - 1)
          case measure => exact q1
          case rel => exact ⟨j2 + 1, ts', q2, by go_num, HF5, HP5⟩
        · have hjm : j2 = m := by omega
          subst hjm
          have HPA : Hid ((esT ts).Perm (O.filter okE)) := by
            have h := HPM.out
            rw [← HOL.out, List.take_length] at h
            exact h
          obtain ⟨w4, hw4⟩ : ∃ w4, w4 = wr := ⟨_, rfl⟩
          subst hw4
          have HSB4 : Hid (SkAt w4 lb []) := SkAt.keeps HSB3.out HF.out.fi.kp (by have h9 := HORD.out; have h8 := HSZ3.out; omega) (fun t ht => by simp at ht) (fun t ht => by simp at ht)
          have HFB0 : Hid (Fill2 w w4 lb 0 w4 []) := Fill2.start HSB4.out HF.out.fi.be
          have HO4 : Hid (OnceR w2.heap.size wf w4 (.slice a j2 c) O) := HO.out.keeps HF.out.fi.kp (fun i hi => by have h9 := HORD.out; rcases hi with h | h <;> omega)
          have HBR4 : Hid (Below wf.heap.size wf w4) := HBR.out.trans (HF.out.fi.kp.below (fun i hi => by have h9 := HORD.out; have h8 := HBR.out.size; rcases hi with h | h <;> omega) HBR.out.size)
          have HSZ4 : Hid (w2.heap.size ≤ w4.heap.size ∧ w3.heap.size ≤ w4.heap.size) := ⟨Nat.le_trans HSZ3.out HF.out.fi.kp.size, HF.out.fi.kp.size⟩
          clear hj hlt3 HO
          go_wp2_with fail
          go_loopg [14] j2 (fun gk iv wr => ∃ (k : Nat) (z : Int) (tb : List Tow), gk = k ∧ k ≤ j2 ∧ iv = .int .i64 z ∧ Hid (z = (k : Int) - 1) ∧ Hid (Fill2 w w4 lb (j2 - k) wr tb) ∧ Hid ((esT tb).Perm ((O.drop k).filter okE)))
          case atStart => exact ⟨j2, (j2 : Int) - 1, [], rfl, Nat.le_refl _, by go_num, rfl, by show Fill2 _ _ _ _ _ _; rw [Nat.sub_self]; exact HFB0.out, by show List.Perm _ _; rw [← HOL.out, List.drop_length]; simp [esT]⟩
          case round =>
            obtain ⟨k, z, tb, hk, hkj, rfl, HZ, HG, HPB⟩ := hrel
            have HWH : Hid (Below w.heap.size w wr) := HG.out.fi.be
            rcases k with _ | i
            · obtain rfl : z = -1 := by have := HZ.out; omega
              have HEQ : Hid (esT ts = esT tb) := rise_unique HF.out.fi.sk.ris HG.out.fi.sk.ris (by
                have h := HPB.out
                rw [List.drop_zero] at h
                exact HPA.out.trans h.symm)
              have hsa : SkAt wr la ts := HF.out.stays HG.out.fi.kp (by have h9 := HORD.out; omega) (by have h9 := HORD.out; have h8 := HSZ3.out; omega)
              have HLA2 : Hid (LenT ts 1000) := HF.out.fi.len
              have HLB2 : Hid (LenT tb 1000) := HG.out.fi.len
              have hall := skall_any wr la ts hsa HLA2.out
              have HSA9 : Hid (SkAt wr la ts) := hsa
              clear hk hkj hsa
              go_wp2_with fail
              refine hall.mono ?_
              rintro e w5 ⟨v5, rfl, hO5, hb5⟩
              have hall2 := skall_any w5 lb tb (HG.out.fi.sk.below hb5) HLB2.out
              have HO5 : Hid (OwnEF _ w5 v5 (esT ts)) := hO5
              have HB5 : Hid (Below wr.heap.size wr w5) := hb5
              obtain ⟨va5, vc5, hv5, _⟩ := hO5.own.rd
              subst hv5
              clear hall hO5 hb5
              go_wp2_with fail
              refine hall2.mono ?_
              rintro e w6 ⟨v6, rfl, hO6, hb6⟩
              have hsm := sameens_any w6 _ v6 (esT ts) (esT tb) true (HO5.out.below hb6 (Nat.le_refl _)).own.rd hO6.own.rd (by rw [HEQ.out]; simp)
              have HB6 : Hid (Below wr.heap.size wr w6) := bsplit HB5.out hb6
              obtain ⟨va6, vc6, hv6, _⟩ := hO6.own.rd
              subst hv6
              clear hall2 hO6 hb6
              go_wp2_with fail
              refine hsm.mono ?_
              rintro e w7 ⟨rfl, hb7⟩
              have HB7 : Hid (Below wr.heap.size wr w7) := bsplit HB6.out hb7
              have hsz := sksize_any w7 la ts (HSA9.out.below HB7.out) HLA2.out
              clear hsm hb7
              go_wp2_with fail
              refine hsz.mono ?_
              rintro e w8 ⟨rfl, hb8⟩
              have HB8 : Hid (Below wr.heap.size wr w8) := bsplit HB7.out hb8
              have hsz2 := sksize_any w8 lb tb (HG.out.fi.sk.below HB8.out) HLB2.out
              have he : sizT tb = sizT ts := by unfold sizT; rw [HEQ.out]
              rw [he] at hsz2
              clear hsz hb8 he
              go_wp2_with fail
              refine hsz2.mono ?_
              rintro e w9 ⟨rfl, hb9⟩
              have HB9 : Hid (Below w.heap.size w w9) := bsplit HWH.out (bsplit HB8.out hb9)
              clear hsz2 hb9
              go_wp2
              go_ret
              exact ⟨rfl, HB9.out⟩
            · obtain rfl : z = (i : Int) := by have := HZ.out; omega
              have hij : i < j2 := by omega
              have hi2 : i < O.length := by rw [HOL.out]; exact hij
              obtain ⟨q1, q2⟩ : i < gk ∧ i ≤ j2 := by omega
              have hOr := HO4.out.keeps HG.out.fi.kp (fun k hk => by have h9 := HORD.out; have h8 := HSZ4.out; rcases hk with h | h <;> omega)
              have hBr : Below wf.heap.size wf wr := HBR4.out.trans (HG.out.fi.kp.below (fun k hk => by have h9 := HORD.out; have h8 := HBR4.out.size; rcases hk with h | h <;> omega) HBR4.out.size)
              obtain ⟨g, x, y, rfl, g1, g2, c0, c1, c2, c3, rx, ry⟩ := hOr.at hBr HOL.out hij
              obtain ⟨x1, x2, ex⟩ := rx.len
              obtain ⟨y1, y2, ey⟩ := ry.len
              subst ex ey
              have hsh := HES.out _ (List.getElem_mem hi2)
              have hap := pw_behind HPW.out hi2
              have hdk : O.drop i = O[i] :: O.drop (i + 1) := List.drop_eq_getElem_cons hi2
              obtain ⟨⟨ku, ks, kd, kv⟩, ho⟩ : ∃ o, O[i] = o := ⟨_, rfl⟩
              rw [ho] at c0 c1 c2 c3 rx ry hsh hap hdk
              simp only at c0 c1 c2 c3 rx ry hsh
              have hcn := HG.out.fi.cnt
              have hins : ∀ hh : Int, Calls Try.prog 13 #[.pointer (some ⟨lb, 0, none⟩), enV (.slice x1 ku.length x2) (ks : Int) (kd.toNat : Int) (.slice y1 kv.length y2), .int .i64 hh] wr fun o w' => InsPost2 lb tb (ku, ks, kd, kv) hh wr w' o := fun hh => skinsert_own wr lb tb _ _ (ku, ks, kd, kv) hh HG.out.fi.sk rx ry (by simp only; omega) (by simp only; omega) (by omega)
              have HINS : Hid (∀ (hh : Int) w5 o5, 1 ≤ hh → hh ≤ 8 → InsPost2 lb tb (ku, ks, kd, kv) hh wr w5 o5 → ∃ cc ts', o5 = .returned (.int .i64 cc) ∧ Fill2 w w4 lb (j2 - i) w5 ts' ∧ (esT ts').Perm ((O.drop i).filter okE)) := fun hh w5 o5 h1 h8 hp => by
                obtain ⟨cc, ts', e5, hF5, hcase⟩ := HG.out.ins (by have := HORD.out; omega) HF.out.fi.be.size hsh hp
                refine ⟨cc, ts', e5, ?_, ?_⟩
                · rw [sub_nxt hij]; exact hF5
                · rw [hdk]; exact ins_perm h1 h8 HPB.out hap hcase
              simp only [enV] at hins
              obtain ⟨kk, hkk⟩ : ∃ kk, kd.toNat = kk := ⟨_, rfl⟩
              obtain ⟨nl, hnlq⟩ : ∃ nl, ku.length = nl := ⟨_, rfl⟩
              obtain ⟨oln, holn⟩ : ∃ oln, kv.length = oln := ⟨_, rfl⟩
              rw [hkk] at c2
              rw [hnlq] at c0
              rw [holn] at c3
              simp only [hkk, hnlq, holn] at hins
              have hI : Calls Try.prog 13 #[.pointer (some ⟨lb, 0, none⟩), .agg #[.slice x1 nl x2, .int .u64 (ks : Int), .int .u8 (kk : Int), .slice y1 oln y2], .int .i64 1] wr fun o w' => InsPost2 lb tb (ku, ks, kd, kv) 1 wr w' o := hins 1
              by_cases hih : i < hn
              · obtain ⟨bb, hcb⟩ : ∃ bb : UInt8, ∃ A, ha = some A ∧ wr.cell? (A.add i) = some (.int .u8 (bb.toNat : Int)) := by
                  have hA := HW.out.below HWH.out (Nat.le_refl _)
                  rcases hA with ⟨e, _⟩ | ⟨ad, cap, e, _, _, h3a⟩
                  · cases e; omega
                  · cases e
                    exact ⟨hgs[i], ad, rfl, h3a i _ (bv_get hgs i hih)⟩
                obtain ⟨A, rfl, hcc⟩ := hcb
                have hbl := bb.toNat_lt
                obtain ⟨bn, hbn⟩ : ∃ n, bb.toNat = n := ⟨_, rfl⟩
                rw [hbn] at hcc hbl
                obtain ⟨r, hr⟩ : ∃ r, bn % 8 = r := ⟨_, rfl⟩
                have hmod := tmod8 bn
                rw [hr] at hmod
                have hr8 : r < 8 := by omega
                have HHH : Hid ((1 : Int) ≤ 1 + (r : Int) ∧ 1 + (r : Int) ≤ 8) := by constructor <;> omega
                have hI2 : Calls Try.prog 13 #[.pointer (some ⟨lb, 0, none⟩), .agg #[.slice x1 nl x2, .int .u64 (ks : Int), .int .u8 (kk : Int), .slice y1 oln y2], .int .i64 (1 + (r : Int))] wr fun o w' => InsPost2 lb tb (ku, ks, kd, kv) (1 + (r : Int)) wr w' o := hins (1 + (r : Int))
                clear hI hins hsh hap hdk hcn hOr hBr rx ry ho hkk hnlq holn hr hbn hk
                go_wp2_with fail
                refine hI2.mono ?_
                rintro e5 w5 hp5
                obtain ⟨cc, ts', rfl, hF5, hP5⟩ := HINS.out _ _ _ HHH.out.1 HHH.out.2 hp5
                have HF5 : Hid (Fill2 w w4 lb (j2 - i) w5 ts') := hF5
                have HP5 : Hid ((esT ts').Perm ((O.drop i).filter okE)) := hP5
                clear hI2 hp5 hF5 hP5 c0 c1 c2 c3 hcc
                go_wp2_with fail
                go_roundg i
                case measure => exact q1
                case rel => exact ⟨i, _, ts', rfl, q2, by go_num, rfl, HF5, HP5⟩
              · have hih2 : hn ≤ i := by omega
                clear hins hsh hap hdk hcn hOr hBr rx ry ho hkk hnlq holn hk
                go_wp2_with fail
                refine hI.mono ?_
                rintro e5 w5 hp5
                obtain ⟨cc, ts', rfl, hF5, hP5⟩ := HINS.out _ _ _ (by decide) (by decide) hp5
                have HF5 : Hid (Fill2 w w4 lb (j2 - i) w5 ts') := hF5
                have HP5 : Hid ((esT ts').Perm ((O.drop i).filter okE)) := hP5
                clear hI hp5 hF5 hP5 c0 c1 c2 c3
                go_wp2_with fail
                go_roundg i
                case measure => exact q1
                case rel => exact ⟨i, _, ts', rfl, q2, by go_num, rfl, HF5, HP5⟩

theorem skipHeights_walk (a0 : Option Addr) (len0 cap0 : Nat) (z0 : List PtB) (a1 : Option Addr) (len1 cap1 : Nat) (z1 : List Int) (w : World) (w0 : ArgPt w (.slice a0 len0 cap0) z0 ∧ True) (w1 : IsRow .u8 w a1 len1 cap1 z1) :
    Calls Try.prog 4 #[.slice a0 len0 cap0, .slice a1 len1 cap1] w fun e w' => e = .returned (.bool true) ∧ Below w.heap.size w w' := skipHeights_at w a0 len0 cap0 z0 w0.1 a1 len1 cap1 _ (arg_of w1)

end Go.Proofs.Ytekmlbbfipldoaa
