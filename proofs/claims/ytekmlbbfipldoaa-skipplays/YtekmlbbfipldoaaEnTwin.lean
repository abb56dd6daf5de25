/- bartizanref03.Twin, Twins: entries of their own. -/
import Derived.Test.YtekmlbbfipldoaaEnFew
namespace Go.Proofs.Ytekmlbbfipldoaa
open Go.RowKit
set_option linter.unusedVariables false

/-- an entry's value -/
abbrev enV (x : Value) (s k : Int) (y : Value) : Value := .agg #[x, .int .u64 s, .int .u8 k, y]

set_option maxRecDepth 20000 in
set_option maxHeartbeats 4000000 in
theorem twin_any (w : World) (xv yv : Value) (l m : List UInt8) (s k : Int) (hx : Arg w xv l) (hy : Arg w yv m) (hl : l.length ≤ 1000000) (hm : m.length ≤ 1000000) :
    Calls Try.prog 12 #[enV xv s k yv] w fun e w' => ∃ x y, e = .returned (enV x s k y) ∧ (Rd w' x l ∧ From w.heap.size x) ∧ (Rd w' y m ∧ From w.heap.size y) ∧ Below w.heap.size w w' := by
  obtain ⟨x1, x2, ex⟩ := Arg.shape hx
  obtain ⟨y1, y2, ey⟩ := Arg.shape hy
  subst ex ey
  obtain ⟨nl, hnl⟩ : ∃ nl, l.length = nl := ⟨_, rfl⟩
  obtain ⟨ml, hml⟩ : ∃ ml, m.length = ml := ⟨_, rfl⟩
  rw [hnl] at hx ⊢
  rw [hml] at hy ⊢
  have HLM : Hid (l.length ≤ 1000000 ∧ m.length ≤ 1000000) := ⟨hl, hm⟩
  have hb0 := below_box4 w (.cells #[.slice x1 nl x2, .int .u64 s, .int .u8 k, .slice y1 ml y2] 38)
  have hb1 := below_box4 (w.alloc (.cells #[.slice x1 nl x2, .int .u64 s, .int .u8 k, .slice y1 ml y2] 38)) (.cells #[.slice none 0 0, .int .u64 0, .int .u8 0, .slice none 0 0] 38)
  have bx := ((box4_new w (.slice x1 nl x2) (.int .u64 s) (.int .u8 k) (.slice y1 ml y2) 38).below hb1 (Nat.le_refl _)).drew
  have br := box4f_new (w.alloc (.cells #[.slice x1 nl x2, .int .u64 s, .int .u8 k, .slice y1 ml y2] 38)) (.slice none 0 0) (.int .u64 0) (.int .u8 0) (.slice none 0 0) 38
  rw [show (w.alloc (.cells #[.slice x1 nl x2, .int .u64 s, .int .u8 k, .slice y1 ml y2] 38)).heap.size = w.heap.size + 1 by simp] at br
  have rx0 := arg_drew ((hx.below hb0 (Nat.le_refl _)).below hb1 (Nat.le_refl _))
  have ry0 := arg_drew ((hy.below hb0 (Nat.le_refl _)).below hb1 (Nat.le_refl _))
  have HB1 : Hid (Below w.heap.size w ((w.alloc (.cells #[.slice x1 nl x2, .int .u64 s, .int .u8 k, .slice y1 ml y2] 38)).alloc (.cells #[.slice none 0 0, .int .u64 0, .int .u8 0, .slice none 0 0] 38)).drew) := (hb0.trans (hb1.mono hb0.size)).drew
  have HSZ : Hid (((w.alloc (.cells #[.slice x1 nl x2, .int .u64 s, .int .u8 k, .slice y1 ml y2] 38)).alloc (.cells #[.slice none 0 0, .int .u64 0, .int .u8 0, .slice none 0 0] 38)).drew.heap.size = w.heap.size + 2) := by show _ = _; simp
  have HBR : Hid (Box4f ((w.alloc (.cells #[.slice x1 nl x2, .int .u64 s, .int .u8 k, .slice y1 ml y2] 38)).alloc (.cells #[.slice none 0 0, .int .u64 0, .int .u8 0, .slice none 0 0] 38)).drew (w.heap.size + 1) (.slice none 0 0) (.int .u64 0) (.int .u8 0) (.slice none 0 0)) := ⟨br.bx.drew, br.f0, br.f1, br.f2, br.f3⟩
  clear hx hy hl hm hnl hml hb0 hb1 br
  go_enter Try.func12, Try.ntmps12
  go_wp2_with fail
  go_region_held3 (fun w' => w'.cell? ⟨w.heap.size, 0, none⟩ = some (.slice x1 nl x2) ∧ w'.cell? ⟨w.heap.size, 1, none⟩ = some (.int .u64 s) ∧ w'.cell? ⟨w.heap.size, 2, none⟩ = some (.int .u8 k) ∧ w'.cell? ⟨w.heap.size, 3, none⟩ = some (.slice y1 ml y2))
    (first | with_reducible exact ⟨bs.c0, bs.c1, bs.c2, bs.c3⟩ | with_reducible exact ⟨by2.c0, by2.c1, by2.c2, by2.c3⟩ | with_reducible exact ⟨bx2.c0, bx2.c1, bx2.c2, bx2.c3⟩ | with_reducible exact ⟨bx.c0, bx.c1, bx.c2, bx.c3⟩)
    (first
      | (go_at_call 30; refine (copy_any _ _ l rx0 (by have := HLM.out.1; omega)).mono ?_; rintro e wx ⟨x, rfl, ox, hbx⟩; obtain ⟨gx, kx, hx⟩ := ox.shape; subst hx; have bx2 := bx.below hbx (Nat.le_refl _); clear rx0)
      | (go_at_call 30; refine (copy_any _ _ m (ry0.below hbx (Nat.le_refl _)) (by have := HLM.out.2; omega)).mono ?_; rintro e wy ⟨y, rfl, oy, hby⟩; obtain ⟨gy, ky, hy⟩ := oy.shape; subst hy; have by2 := bx2.below hby (Nat.le_refl _)
         have HBY : Hid (Below w.heap.size w wy) := bsplit (bsplit HB1.out hbx) hby
         have HOX : Hid (Rd wy (.slice (some ⟨gx, 0, none⟩) l.length kx) l ∧ w.heap.size + 2 ≤ gx) := ⟨(ox.below hby (Nat.le_refl _)).rd, by have := ox.lt.1; rw [HSZ.out] at this; exact this⟩
         have HOY : Hid (Rd wy (.slice (some ⟨gy, 0, none⟩) m.length ky) m ∧ w.heap.size + 2 ≤ gy) := ⟨oy.rd, by have := oy.lt.1; have h8 := hbx.size; rw [HSZ.out] at h8; omega⟩
         have bs := by2.stored (w.heap.size + 1) (by omega) (.slice (some ⟨gx, 0, none⟩) l.length kx) (.int .u64 s) (.int .u8 k) (.slice (some ⟨gy, 0, none⟩) m.length ky)
         obtain ⟨⟨c0, c1, c2, c3⟩, f0, f1, f2, f3⟩ := (HBR.out.below hbx (Nat.le_refl _)).below hby (Nat.le_refl _))
      | fail)
  go_wp2
  refine bodyPost_ret (v := enV (.slice (some ⟨gx, 0, none⟩) l.length kx) s k (.slice (some ⟨gy, 0, none⟩) m.length ky)) (by simp [results, Try.results12, go_sem, c0, c1, c2, c3]) rfl ⟨_, _, rfl, ⟨rd_store4 HOX.out.1 (fun g hg => ?_) _ _ _ _, from_at ?_⟩, ⟨rd_store4 HOY.out.1 (fun g hg => ?_) _ _ _ _, from_at ?_⟩, below_store4 HBY.out (Nat.le_succ _) _ _ _ _⟩
  · have h9 := HOX.out.2
    simp only [Value.ownBlock, Option.some.injEq] at hg
    omega
  · have h9 := HOX.out.2
    omega
  · have h9 := HOY.out.2
    simp only [Value.ownBlock, Option.some.injEq] at hg
    omega
  · have h9 := HOY.out.2
    omega

set_option maxRecDepth 20000 in
set_option maxHeartbeats 4000000 in
theorem twins_any (w : World) (v : Value) (es : List EnB) (hv : ArgE w v es) (hn : es.length ≤ 1000) (hm : ∀ e ∈ es, e.1.length ≤ 1000000 ∧ e.2.2.2.length ≤ 1000000) :
    Calls Try.prog 27 #[v] w fun e w' => ∃ x, e = .returned x ∧ OwnE w.heap.size w' x es ∧ Below w.heap.size w w' := by
  obtain ⟨i0, hi, hz0, hz1, hz2⟩ := info_parts infoEn
  have hv0 := hv
  obtain ⟨ao, cap, rfl, h1, h2, h3⟩ := hv
  unfold maxLen at h2
  have H3 : Hid _ := hv0
  have HM : Hid _ := hm
  obtain ⟨N, hN⟩ : ∃ N, es.length = N := ⟨_, rfl⟩
  rw [hN] at h1 hn ⊢
  have HN : Hid (es.length = N) := hN
  have HNB : Hid (N ≤ 1000) := hn
  clear hv0 h3 hN hm hn
  go_enter Try.func27, Try.ntmps27
  go_wp2_with fail
  go_loopg [3, 8] N (fun gk pv iv wr => ∃ j c' : Nat, ∃ a' : Option Addr, gk + j = N ∧ iv = .int .i64 (j : Int) ∧ pv = .slice a' j c' ∧ Hid (OwnE w.heap.size wr pv (es.take j)) ∧ Hid (Below w.heap.size w wr))
  case atStart => exact ⟨0, 0, none, by omega, rfl, rfl, by show OwnE _ _ _ _; rw [List.take_zero]; exact OwnE.nil _ _, Below.refl _ _⟩
  case round =>
    obtain ⟨j, c', a', hj, rfl, rfl, HO, HB⟩ := hrel
    by_cases hlt : j < N
    · have hlt2 : j < es.length := by rw [HN.out]; exact hlt
      obtain ⟨_, _, e, _, _, h3⟩ := argE_below (show ArgE w _ es from H3.out) HB.out (Nat.le_refl _)
      cases e
      obtain ⟨b, off, rfl, xv, yv, c0, c1, c2, c3, rx, ry⟩ := h3 j hlt2
      obtain ⟨x1, x2, ex⟩ := Arg.shape rx
      obtain ⟨y1, y2, ey⟩ := Arg.shape ry
      subst ex ey
      have hbd := HM.out _ (List.getElem_mem hlt2)
      obtain ⟨⟨ol, osq, ok, oo⟩, ho⟩ : ∃ o, es[j] = o := ⟨_, rfl⟩
      rw [ho] at c0 c1 c2 c3 rx ry hbd
      obtain ⟨q1, q2⟩ := gk_nxt hj hlt
      have HTL : Hid ((es.take j).length = j) := by show _ = _; rw [List.length_take, HN.out]; omega
      have HJ : Hid (j ≤ 1000) := by show j ≤ _; have := HNB.out; omega
      obtain ⟨kk, hkk⟩ : ∃ kk, ok.toNat = kk := ⟨_, rfl⟩
      have HKK : Hid (ok.toNat = kk) := hkk
      simp only at c0 c1 c2 c3 rx ry hbd
      rw [hkk] at c2
      obtain ⟨nl, hnlq⟩ : ∃ nl, ol.length = nl := ⟨_, rfl⟩
      obtain ⟨oln, holn⟩ : ∃ oln, oo.length = oln := ⟨_, rfl⟩
      rw [hnlq] at rx c0
      rw [holn] at ry c3
      have HR : Hid (es.take (j + 1) = es.take j ++ [(ol, osq, ok, oo)]) := by show _ = _; rw [List.take_succ_eq_append_getElem hlt2, ho]
      have hb0 := below_box4 wr (.cells #[.slice x1 nl x2, .int .u64 (osq : Int), .int .u8 (kk : Int), .slice y1 oln y2] 38)
      obtain ⟨z0, z1, z2, z3⟩ := box4_new wr (.slice x1 nl x2) (.int .u64 (osq : Int)) (.int .u8 (kk : Int)) (.slice y1 oln y2) 38
      have htw := twin_any (wr.alloc (.cells #[.slice x1 nl x2, .int .u64 (osq : Int), .int .u8 (kk : Int), .slice y1 oln y2] 38)) _ _ ol oo (osq : Int) (kk : Int) (rx.below hb0 (Nat.le_refl _)) (ry.below hb0 (Nat.le_refl _)) hbd.1 hbd.2
      have HO0 : Hid (OwnE w.heap.size (wr.alloc (.cells #[.slice x1 nl x2, .int .u64 (osq : Int), .int .u8 (kk : Int), .slice y1 oln y2] 38)) (.slice a' j c') (es.take j)) := HO.out.below hb0 (Nat.le_refl _)
      have HB0 : Hid (Below w.heap.size w (wr.alloc (.cells #[.slice x1 nl x2, .int .u64 (osq : Int), .int .u8 (kk : Int), .slice y1 oln y2] 38))) := bsplit HB.out hb0
      clear ho hb0 h3 rx ry hbd hnlq holn hkk
      go_wp2_with fail
      refine htw.mono ?_
      rintro e w2 ⟨x, y, rfl, rx, ry, hb2⟩
      obtain ⟨xa, xc, rfl⟩ := rx.1.len
      obtain ⟨ya, yc, rfl⟩ := ry.1.len
      obtain ⟨l1, hl1⟩ : ∃ n, ol.length = n := ⟨_, rfl⟩
      obtain ⟨l2, hl2⟩ : ∃ n, oo.length = n := ⟨_, rfl⟩
      rw [hl1] at rx ⊢
      rw [hl2] at ry ⊢
      have hbe := below_box4 w2 (.cells #[.slice xa l1 xc, .int .u64 (osq : Int), .int .u8 (kk : Int), .slice ya l2 yc] 38)
      have hlit := laid4 w2 (.slice xa l1 xc) (.int .u64 (osq : Int)) (.int .u8 (kk : Int)) (.slice ya l2 yc) 38
      have hlow : ∀ q, (Value.slice a' j c').ownBlock = some q → q < (wr.alloc (.cells #[.slice x1 nl x2, .int .u64 (osq : Int), .int .u8 (kk : Int), .slice y1 oln y2] 38)).heap.size := fun q hq => (HO0.out.lt q hq).2
      have HXE : Hid (Rd _ (.slice xa l1 xc) ol ∧ NeB (.slice xa l1 xc) ol (.slice a' j c')) := ⟨rx.1.below hbe (Nat.le_refl _), neb_of rx.2 hlow rx.1⟩
      have HYE : Hid (Rd _ (.slice ya l2 yc) oo ∧ NeB (.slice ya l2 yc) oo (.slice a' j c')) := ⟨ry.1.below hbe (Nat.le_refl _), neb_of ry.2 hlow ry.1⟩
      have HBE : Hid (Below w.heap.size w (w2.alloc (.cells #[.slice xa l1 xc, .int .u64 (osq : Int), .int .u8 (kk : Int), .slice ya l2 yc] 38))) := bsplit (bsplit HB0.out hb2) hbe
      have hse := HBE.out.size
      obtain ⟨cs, hrow, hel⟩ := (HO0.out.below hb2 (Nat.le_refl _)).below hbe (Nat.le_refl _)
      rw [HTL.out] at hrow
      have HEL : Hid _ := hel
      have HRW : Hid _ := hrow
      clear htw hb2 rx ry hl1 hl2 hbe hel hlow z0 z1 z2 z3
      go_wp2_with (first | (at_builtin; refine wpList_append_lies _ rfl (.tmp 12) (.tmp 15) 28 rfl w.heap.size 38 i0 (.agg #[.slice none 0 0, .int .u64 0, .int .u8 0, .slice none 0 0]) 4 64 Try.underlying28 hi hz0 hz1 hz2 rfl (by decide) (.slice a' j c') j cs rfl hrow ⟨w2.heap.size, 0, none⟩ 1 1 [.slice xa l1 xc, .int .u64 (osq : Int), .int .u8 (kk : Int), .slice ya l2 yc] rfl rfl hlit (oneE _ _ _ _ _ _ _ _) (by decide) (by have := HJ.out; simp only [maxLen]; omega) (by have := HJ.out; omega) hse _ rfl ?_; intro g4 c4 w4 hown hgrow hat hlt4; rw [← HKK.out] at hown; have HP : Hid (OwnE w.heap.size w4 (.slice (some ⟨g4, 0, none⟩) (j + 1) c4) (es.take j ++ [(ol, osq, ok, oo)])) := own_pushE (ol, osq, ok, oo) HTL.out HRW.out HEL.out HXE.out HYE.out hown hgrow hat; have HB4 : Hid (Below w.heap.size w w4) := HBE.out.grown hgrow HBE.out.size (fun k' e => (hrow.lt k' e).1); clear hown hgrow hat hlt4) | fail)
      clear hrow hlit hse
      go_roundg (gk - 1)
      case measure => exact q1
      case rel => exact ⟨j + 1, c4, _, q2, by go_num, rfl, by show OwnE _ _ _ _; rw [HR.out]; exact HP.out, HB4⟩
    · have hjN : j = N := by omega
      subst hjN
      have HE : Hid (es.take j = es) := by show _ = _; rw [← HN.out, List.take_length]
      go_wp2
      go_ret
      exact ⟨_, rfl, by rw [← HE.out]; exact HO.out, HB.out⟩

end Go.Proofs.Ytekmlbbfipldoaa
