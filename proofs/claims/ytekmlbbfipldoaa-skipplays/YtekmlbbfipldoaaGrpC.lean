/- Several texts in one. -/
import Derived.Test.YtekmlbbfipldoaaGrpA
import Derived.Test.YtekmlbbfipldoaaGrpB
import Derived.Test.YtekmlbbfipldoaaConvStr
import Derived.Test.YtekmlbbfipldoaaEnFew
import Derived.Test.YtekmlbbfipldoaaKeyCmp
import Derived.Maps.OwnSet
import Derived.BigQuiet

/- bartizanlaw08.entry, awake. -/
namespace Go.Proofs.Ytekmlbbfipldoaa
open Go.RowKit Go.Shelf
set_option linter.unusedVariables false

set_option maxHeartbeats 1000000 in
theorem entry8_any (w : World) (t : ByteArray) (s : Nat) (l : List UInt8) (hl : t.data.toList = l) (hl2 : l.length ≤ 100) :
    Calls Try.prog 28 #[.string t, .int .u64 (s : Int)] w fun e w' => ∃ x, e = .returned (.agg #[x, .int .u64 (s : Int), .int .u8 2, .slice none 0 0]) ∧ Rd w' x l ∧ Below w.heap.size w w' := by
  have hb0 := below_box4 w (.cells #[.slice none 0 0, .int .u64 0, .int .u8 0, .slice none 0 0] 38)
  have br := box4f_new w (.slice none 0 0) (.int .u64 0) (.int .u8 0) (.slice none 0 0) 38
  obtain ⟨cap, w1, hc, hr, hb, hs⟩ := conv_str (w.alloc (.cells #[.slice none 0 0, .int .u64 0, .int .u8 0, .slice none 0 0] 38)) t l hl hl2
  obtain ⟨⟨c0, c1, c2, c3⟩, f0, f1, f2, f3⟩ := br.below hb (Nat.le_refl _)
  have HB : Hid (Below w.heap.size w w1) := bsplit hb0 hb
  rw [show (w.alloc (.cells #[.slice none 0 0, .int .u64 0, .int .u8 0, .slice none 0 0] 38)).heap.size = w.heap.size + 1 by simp] at hc hr hs
  have HR : Hid (Rd w1 (.slice (some ⟨w.heap.size + 1, 0, none⟩) l.length cap) l) := hr
  clear hb0 br hb hr hs hl
  go_enter Try.func28, Try.ntmps28
  go_wp2
  refine bodyPost_ret (v := .agg #[.slice (some ⟨w.heap.size + 1, 0, none⟩) l.length cap, .int .u64 (s : Int), .int .u8 2, .slice none 0 0]) (by simp [results, Try.results28, go_sem, c0, c1, c2, c3]) rfl ⟨_, rfl, rd_store4 HR.out (fun g hg => ?_) _ _ _ _, below_store4 HB.out (Nat.le_refl _) _ _ _ _⟩
  simp only [Value.ownBlock, Option.some.injEq] at hg; omega

/-- what Insert does, where it does it -/
theorem ins_ok {l : Nat} {ts : List Tow} {e : EnB} {hh : Int} {w w' : World} {o : Ending} (h : InsPost l ts e hh w w' o) (h1 : chkSk e hh = 0) (h2 : anyE (esT ts) e = false) :
    o = .returned (.int .i64 0) ∧ ∃ T : Tow, T.e = e ∧ (T.h : Int) = hh ∧ w.heap.size ≤ T.b ∧ SkAt w' l (insT ts (cntE (esT ts) e) T) ∧ Keeps (fun i => ∃ a, a ≤ ts.length ∧ i = nb l ts a) w w' := by
  rcases h with ⟨h, _⟩ | ⟨_, h, _⟩ | ⟨_, _, ho, hT⟩
  · exact absurd h1 h
  · rw [h2] at h; cases h
  · exact ⟨ho, hT⟩

/-- the version of an entry -/
theorem fld_key (w : World) (x a b y : Value) : (Instr.field 38 (.agg #[x, a, b, y]) 0).run Try.prog w = .ok (.agg #[x, a, b]) w := by rfl

theorem aw1 : chkSk ([98], 1, 2, []) 2 = 0 := by decide +kernel
theorem aw2 : chkSk ([97], 1, 2, []) 1 = 0 := by decide +kernel
theorem aw3 : anyE [([98], 1, 2, [])] ([97], 1, 2, []) = false := by decide +kernel
theorem aw4 : cntE [([98], 1, 2, [])] ([97], 1, 2, []) = 0 := by decide +kernel
theorem aw5 : cntE [([97], 1, 2, []), ([98], 1, 2, [])] ([98], 5, 2, []) = 1 := by decide +kernel

set_option maxRecDepth 100000 in
set_option maxHeartbeats 4000000 in
theorem skawake_any (w : World) :
    Calls Try.prog 9 #[] w fun e w' => e = .returned (.bool true) ∧ Below w.heap.size w w' := by
  go_enter Try.func9, Try.ntmps9
  go_wp2_with fail
  refine (sknew_any w).mono ?_
  rintro e w1 ⟨rfl, hS1, hb1⟩
  have HS1 : Hid _ := hS1
  have HB1 : Hid (Below w.heap.size w w1) := hb1
  clear hS1 hb1
  go_wp2_with fail
  refine (entry8_any w1 _ 1 [98] rfl (by simp)).mono ?_
  rintro e w2 ⟨x2, rfl, rx2, hb2⟩
  have HB2 : Hid (Below w.heap.size w w2) := bsplit HB1.out hb2
  have hin1 := skinsert_any w2 w.heap.size [] x2 (.slice none 0 0) ([98], 1, 2, []) 2 (SkAt.below HS1.out hb2) rx2 (.inl ⟨rfl, rfl⟩) (by simp) (by simp) (by simp)
  obtain ⟨xa2, xc2, rfl⟩ := rx2.len
  simp only [enV] at hin1
  clear rx2 hb2
  go_wp2_with fail
  refine hin1.mono ?_
  rintro e w3 hp3
  obtain ⟨rfl, T, hTe, hTh, hTb, hS3, hk3⟩ := ins_ok hp3 aw1 rfl
  have HS3 : Hid (SkAt w3 w.heap.size [T]) := hS3
  have HB3 : Hid (Below w.heap.size w w3) := HB2.out.trans (hk3.below (fun i ⟨a, ha, e⟩ => by have : a = 0 := by simpa using ha
                                                                                              subst this; rw [e]; exact Nat.le_refl _) HB2.out.size)
  have HT : Hid (T.e = ([98], 1, 2, []) ∧ T.h = 2 ∧ w.heap.size ≤ T.b) := ⟨hTe, by omega, by have := HB2.out.size; omega⟩
  clear hin1 hp3 hTe hTh hTb hS3 hk3
  go_wp2_with fail
  refine (entry8_any w3 _ 1 [97] rfl (by simp)).mono ?_
  rintro e w4 ⟨x4, rfl, rx4, hb4⟩
  have HB4 : Hid (Below w.heap.size w w4) := bsplit HB3.out hb4
  have hin2 := skinsert_any w4 w.heap.size [T] x4 (.slice none 0 0) ([97], 1, 2, []) 1 (SkAt.below HS3.out hb4) rx4 (.inl ⟨rfl, rfl⟩) (by simp) (by simp) (by simp)
  obtain ⟨xa4, xc4, rfl⟩ := rx4.len
  simp only [enV] at hin2
  clear rx4 hb4
  go_wp2_with fail
  refine hin2.mono ?_
  rintro e w5 hp5
  have hes : esT [T] = [([98], 1, 2, [])] := by simp [esT, HT.out.1]
  obtain ⟨rfl, T2, h2e, h2h, h2b, hS5, hk5⟩ := ins_ok hp5 aw2 (by rw [hes]; exact aw3)
  rw [hes, aw4] at hS5
  have HS5 : Hid (SkAt w5 w.heap.size [T2, T]) := hS5
  have HB5 : Hid (Below w.heap.size w w5) := HB4.out.trans (hk5.below (fun i ⟨a, ha, e⟩ => by
    have ha' : a = 0 ∨ a = 1 := by simp at ha; omega
    rcases ha' with rfl | rfl
    · rw [e]; exact Nat.le_refl _
    · rw [e]; exact HT.out.2.2) HB4.out.size)
  have HES : Hid (esT [T2, T] = [([97], 1, 2, []), ([98], 1, 2, [])]) := by show _ = _; simp [esT, HT.out.1, h2e]
  have HRW : Hid (ksT (rowT [T2, T] 1) = [([98], 1, 2)]) := by
    have e1 : T2.h = 1 := by omega
    show _ = _; simp [ksT, rowT, kyE, HT.out.1, HT.out.2.1, e1]
  have HSM : Hid (∀ t ∈ [T2, T], t.e.1.length ≤ 1000 ∧ t.e.2.2.2.length ≤ 1000) := by
    intro t ht
    simp at ht
    rcases ht with rfl | rfl
    · rw [h2e]; simp
    · rw [HT.out.1]; simp
  clear hin2 hp5 h2e h2h h2b hS5 hk5 hes
  go_wp2_with fail
  refine (entry8_any w5 _ 5 [98] rfl (by simp)).mono ?_
  rintro e w6 ⟨x6, rfl, rx6, hb6⟩
  have HS6 : Hid (SkAt w6 w.heap.size [T2, T]) := SkAt.below HS5.out hb6
  have HB6 : Hid (Below w.heap.size w w6) := bsplit HB5.out hb6
  have hbf := skbefore_any w6 w.heap.size [T2, T] x6 ([98], 5, 2, []) HS6.out rx6 (fun t ht => by have := HSM.out t ht; omega)
  rw [HES.out, aw5] at hbf
  obtain ⟨xa6, xc6, rfl⟩ := rx6.len
  clear rx6 hb6
  have hfd := fld_key w6 (.slice xa6 1 xc6) (.int .u64 5) (.int .u8 2) (.slice none 0 0)
  go_wp2_with fail
  refine hbf.mono ?_
  rintro e w7 ⟨hb7, hq7⟩
  simp only [Nat.succ_ne_zero, ite_false, Nat.sub_self, List.getElem?_cons_zero] at hq7
  obtain ⟨x7, y7, rfl, rx7, ry7⟩ := hq7
  have HS7 : Hid (SkAt w7 w.heap.size [T2, T]) := SkAt.below HS6.out hb7
  have HB7 : Hid (Below w.heap.size w w7) := bsplit HB6.out hb7
  obtain ⟨xa7, xc7, rfl⟩ := rx7.1.len
  obtain ⟨ya7, yc7, rfl⟩ := ry7.1.len
  have HR7 : Hid _ := rx7.1
  clear hbf hb7 rx7 ry7
  simp only [enV]
  go_wp2_with fail
  have hb8 := below_box4 w7 (.cells #[.slice xa7 1 xc7, .int .u64 1, .int .u8 2, .slice ya7 0 yc7] 38)
  have bx8 := box4_new w7 (.slice xa7 1 xc7) (.int .u64 1) (.int .u8 2) (.slice ya7 0 yc7) 38
  have hrw := skrows_any _ w.heap.size [T2, T] (SkAt.below HS7.out hb8) HSM.out 2 1 rfl (by omega)
  rw [HRW.out] at hrw
  have HB8 : Hid _ := bsplit HB7.out hb8
  have HS8 : Hid _ := SkAt.below HS7.out hb8
  have HR8 : Hid _ := Rd.below HR7.out hb8 (Nat.le_refl _)
  have HX8 : Hid _ := bx8
  clear hb8 bx8 hfd
  refine hrw.mono ?_
  rintro e w9 ⟨v, rfl, hO9, hb9⟩
  have HS9 : Hid (SkAt w9 w.heap.size [T2, T]) := SkAt.below HS8.out hb9
  have HB9 : Hid (Below w.heap.size w w9) := bsplit HB8.out hb9
  have hr7 := Rd.below HR8.out hb9 (Nat.le_refl _)
  obtain ⟨e0, _, _, _⟩ := Box4.below HX8.out hb9 (Nat.le_refl _)
  have hcv7 := conv_rd hr7
  obtain ⟨cs, hrow, hel⟩ := hO9
  obtain ⟨x9, k0, _, _, rx9⟩ := hel 0 (by simp)
  obtain ⟨g9, c9, hv, hg9, hl9⟩ := hrow.form (by simp)
  subst hv
  have hcell := hrow.cells (g := g9) rfl _ _ k0
  rw [Addr.add_lit] at hcell
  have hcv9 := conv_rd rx9.1
  obtain ⟨xa9, xc9, rfl⟩ := rx9.1.len
  have hln := sklen_any w9 w.heap.size [T2, T] HS9.out
  simp only [List.length_cons, List.length_nil, Nat.zero_add, Nat.zero_mul, Nat.add_zero, List.getElem_cons_zero] at hcell hcv9 hcv7 hln e0 ⊢
  clear hrw hb9 hr7 hel hrow k0 rx9
  go_wp2_with fail
  refine hln.mono ?_
  rintro e w10 ⟨rfl, hb10⟩
  have HB10 : Hid (Below w.heap.size w w10) := bsplit HB9.out hb10
  clear hb10 hln
  go_wp2
  go_ret
  exact ⟨rfl, HB10.out⟩

end Go.Proofs.Ytekmlbbfipldoaa

/- Rows of puts (an entry and a height); bartizanlaw08.few. -/
namespace Go.Proofs.Ytekmlbbfipldoaa
set_option maxRecDepth 20000
open Go.ChangeShapes Go.WideShapes Go.ChangeAt Go.RowKit
set_option linter.unusedVariables false

theorem OwnEF.lt {B : Nat} {w : World} {v : Value} {es : List EnB} (h : OwnEF B w v es) (q : Nat) (hq : v.ownBlock = some q) : B ≤ q ∧ q < w.heap.size := by
  obtain ⟨cs, hr, _⟩ := h
  exact hr.lt q hq
theorem OwnEF.drew {B : Nat} {w : World} {v : Value} {es : List EnB} (h : OwnEF B w v es) : OwnEF B w.drew v es := h

set_option maxRecDepth 20000 in
set_option maxHeartbeats 4000000 in
theorem fewEF_any (w : World) (v : Value) (es : List EnB) (n : Nat) (hv : ArgE w v es) (hn : n ≤ 1000) :
    Calls Try.prog 29 #[v, .int .i64 (n : Int)] w fun e w' => ∃ x, e = .returned x ∧ OwnEF w.heap.size w' x (fewE n es) ∧ Below w.heap.size w w' := by
  obtain ⟨i0, hi, hz0, hz1, hz2⟩ := info_parts infoEn
  have hv0 := hv
  obtain ⟨ao, cap, rfl, h1, h2, h3⟩ := hv
  unfold maxLen at h2
  have H3 : Hid _ := hv0
  obtain ⟨N, hN⟩ : ∃ N, es.length = N := ⟨_, rfl⟩
  rw [hN] at h1 ⊢
  have HN : Hid (es.length = N) := hN
  clear hv0 h3 hN
  go_enter Try.func29, Try.ntmps29
  go_wp2_with fail
  go_loopg [5, 10] N (fun gk pv iv wr => ∃ j n' c' : Nat, ∃ a' : Option Addr, gk + j = N ∧ iv = .int .i64 (j : Int) ∧ pv = .slice a' n' c' ∧ Hid (OwnEF w.heap.size wr pv (fewE n (es.take j))) ∧ Hid (Below w.heap.size w wr))
  case atStart => exact ⟨0, 0, 0, none, by omega, rfl, rfl, by show OwnEF _ _ _ _; rw [List.take_zero, show fewE n [] = [] by simp [fewE]]; exact OwnEF.nil _ _, Below.refl _ _⟩
  case round =>
    obtain ⟨j, n', c', a', hj, rfl, rfl, HO, HB⟩ := hrel
    by_cases hlt : j < N
    · have hlt2 : j < es.length := by rw [HN.out]; exact hlt
      obtain ⟨_, _, e, _, _, h3⟩ := argE_below (show ArgE w _ es from H3.out) HB.out (Nat.le_refl _)
      cases e
      obtain ⟨b, off, rfl, xv, yv, c0, c1, c2, c3, rx, ry⟩ := h3 j hlt2
      obtain ⟨x1, x2, ex⟩ := Arg.shape rx
      obtain ⟨y1, y2, ey⟩ := Arg.shape ry
      subst ex ey
      obtain ⟨⟨ol, osq, ok, oo⟩, ho⟩ : ∃ o, es[j] = o := ⟨_, rfl⟩
      rw [ho] at c0 c1 c2 c3 rx ry
      obtain ⟨q1, q2⟩ : gk - 1 < gk ∧ gk - 1 + (j + 1) = N := by omega
      have hfl : (fewE n (es.take j)).length = min n j := by unfold fewE; rw [List.length_map, List.length_take, List.length_take, Nat.min_eq_left (show j ≤ es.length by omega)]
      have hnl : n' = min n j := by
        obtain ⟨cs, hrow, _⟩ := HO.out
        rw [ownrow_len hrow, hfl]
      have HTL : Hid ((fewE n (es.take j)).length = n') := by show _ = _; rw [hfl, hnl]
      have HNB : Hid (n' ≤ 1000) := by show _ ≤ _; omega
      obtain ⟨kk, hkk⟩ : ∃ kk, ok.toNat = kk := ⟨_, rfl⟩
      have HKK : Hid (ok.toNat = kk) := hkk
      simp only at c0 c1 c2 c3 rx ry
      rw [hkk] at c2
      obtain ⟨nl, hnlq⟩ : ∃ nl, ol.length = nl := ⟨_, rfl⟩
      obtain ⟨oln, holn⟩ : ∃ oln, oo.length = oln := ⟨_, rfl⟩
      rw [hnlq] at rx c0
      rw [holn] at ry c3
      have HRX : Hid (Arg wr (.slice x1 nl x2) ol) := rx
      have HRY : Hid (Arg wr (.slice y1 oln y2) oo) := ry
      clear hkk rx ry h3 hnlq holn hnl hfl
      by_cases hjn : j < n
      · have hjI : (j : Int) < (n : Int) := by omega
        obtain ⟨ck, HCK⟩ : ∃ ck, Hid (ol.take 80 = ck) := ⟨_, rfl⟩
        obtain ⟨co, HCO⟩ : ∃ co, Hid (oo.take 600 = co) := ⟨_, rfl⟩
        have HR : Hid (fewE n (es.take (j + 1)) = fewE n (es.take j) ++ [(ck, osq, ok, co)]) := by show _ = _; rw [fewE_take hlt2 hjn, ho]; unfold cutE; rw [← HCK.out, ← HCO.out]
        have hb0 := below_box4 wr (.cells #[.slice x1 nl x2, .int .u64 (osq : Int), .int .u8 (kk : Int), .slice y1 oln y2] 38)
        have bx := (box4_new wr (.slice x1 nl x2) (.int .u64 (osq : Int)) (.int .u8 (kk : Int)) (.slice y1 oln y2) 38).drew
        have rx0 := arg_drew (HRX.out.below hb0 (Nat.le_refl _))
        have ry0 := arg_drew (HRY.out.below hb0 (Nat.le_refl _))
        have HO0 : Hid (OwnEF w.heap.size (wr.alloc (.cells #[.slice x1 nl x2, .int .u64 (osq : Int), .int .u8 (kk : Int), .slice y1 oln y2] 38)).drew (.slice a' n' c') (fewE n (es.take j))) := (HO.out.below hb0 (Nat.le_refl _)).drew
        have HB0 : Hid (Below w.heap.size w (wr.alloc (.cells #[.slice x1 nl x2, .int .u64 (osq : Int), .int .u8 (kk : Int), .slice y1 oln y2] 38)).drew) := (HB.out.alloc HB.out.size _).drew
        have HNE : Hid (some wr.heap.size ≠ (Value.slice a' n' c').ownBlock) := by
          obtain ⟨cs, hrow, _⟩ := HO.out
          exact own_ne_new hrow
        clear ho hb0
        go_wp2_with fail
        go_region_held3 (fun w' => w'.cell? ⟨wr.heap.size, 0, none⟩ = some (.slice x1 nl x2) ∧ w'.cell? ⟨wr.heap.size, 1, none⟩ = some (.int .u64 (osq : Int)) ∧ w'.cell? ⟨wr.heap.size, 2, none⟩ = some (.int .u8 (kk : Int)) ∧ w'.cell? ⟨wr.heap.size, 3, none⟩ = some (.slice y1 oln y2))
          (first | exact ⟨b4.c0, b4.c1, b4.c2, b4.c3⟩ | exact ⟨be.c0, be.c1, be.c2, be.c3⟩ | exact ⟨by2.c0, by2.c1, by2.c2, by2.c3⟩ | exact ⟨bx2.c0, bx2.c1, bx2.c2, bx2.c3⟩ | exact ⟨bx.c0, bx.c1, bx.c2, bx.c3⟩)
          (first
            | (go_at_call 39; refine (cut_any _ _ ol 80 rx0 (by omega)).mono ?_; rintro e wx ⟨x, rfl, ox, hbx⟩; rw [HCK.out] at ox; obtain ⟨gx, kx, hx⟩ := ox.shape; subst hx; have bx2 := bx.below hbx (Nat.le_refl _); clear rx0)
            | (go_at_call 39; refine (cut_any _ _ oo 600 (ry0.below hbx (Nat.le_refl _)) (by omega)).mono ?_; rintro e wy ⟨y, rfl, oy, hby⟩; rw [HCO.out] at oy; obtain ⟨gy, ky, hy⟩ := oy.shape; subst hy; have by2 := bx2.below hby (Nat.le_refl _); have be := by2.alloc (.cells #[.slice (some ⟨gx, 0, none⟩) ck.length kx, .int .u64 (osq : Int), .int .u8 (kk : Int), .slice (some ⟨gy, 0, none⟩) co.length ky] 38))
            | (have hbe := below_box4 wy (.cells #[.slice (some ⟨gx, 0, none⟩) ck.length kx, .int .u64 (osq : Int), .int .u8 (kk : Int), .slice (some ⟨gy, 0, none⟩) co.length ky] 38)
               have hOe := ((HO0.out.below hbx (Nat.le_refl _)).below hby (Nat.le_refl _)).below hbe (Nat.le_refl _)
               have hBx := HB0.out.trans (hbx.mono HB0.out.size)
               have hBy := hBx.trans (hby.mono hBx.size)
               have hBe := hBy.trans (hbe.mono hBy.size)
               have oxe := ((ox.below hby (Nat.le_refl _)).below hbe (Nat.le_refl _))
               have oye := (oy.below hbe (Nat.le_refl _))
               obtain ⟨cs, hrow, hel⟩ := hOe
               rw [HTL.out] at hrow
               have hsz : w.heap.size ≤ wy.heap.size := hBy.size
               have hnb9 := HNB.out
               have hlow : ∀ q, (Value.slice a' n' c').ownBlock = some q → q < (wr.alloc (.cells #[.slice x1 nl x2, .int .u64 (osq : Int), .int .u8 (kk : Int), .slice y1 oln y2] 38)).drew.heap.size := fun q hq => (HO0.out.lt q hq).2
               have hlow2 : ∀ q, (Value.slice a' n' c').ownBlock = some q → q < wx.heap.size := fun q hq => Nat.lt_of_lt_of_le (hlow q hq) hbx.size
               refine step_append_lies _ rfl (.tmp 18) (.tmp 34) 28 rfl w.heap.size 38 i0 (.agg #[.slice none 0 0, .int .u64 0, .int .u8 0, .slice none 0 0]) 4 64 Try.underlying28 hi hz0 hz1 hz2 rfl (by decide) (.slice a' n' c') n' cs rfl hrow ⟨wy.heap.size, 0, none⟩ 1 1 [.slice (some ⟨gx, 0, none⟩) ck.length kx, .int .u64 (osq : Int), .int .u8 (kk : Int), .slice (some ⟨gy, 0, none⟩) co.length ky] rfl rfl (laid4 _ _ _ _ _ _) (oneE _ _ _ _ _ _ _ _) (by decide) (by simp only [maxLen]; omega) (by omega) hBe.size _ rfl ?_
               intro g4 c4 w4 hown hgrow hat hlt4
               have b4 := be.grown hgrow HNE.out
               have hown' := hown
               rw [← HKK.out] at hown'
               have HP : Hid (OwnEF w.heap.size w4 (.slice (some ⟨g4, 0, none⟩) (n' + 1) c4) (fewE n (es.take j) ++ [(ck, osq, ok, co)])) := OwnEF.push (ck, osq, ok, co) HTL.out hrow hel ⟨oxe.rd, neb_of ox.from hlow oxe.rd, fun a n c e => Nat.le_trans HB0.out.size (ox.from a n c e)⟩ ⟨oye.rd, neb_of oy.from hlow2 oye.rd, fun a n c e => Nat.le_trans hBx.size (oy.from a n c e)⟩ hown' hgrow hat
               have HB4 : Hid (Below w.heap.size w w4) := hBe.grown hgrow hBe.size (fun k' e => (hrow.lt k' e).1))
            | fail)
        all_goals
          clear bx ry0
          go_wp2_with fail
          go_roundg (gk - 1)
          case measure => exact q1
          case rel => exact ⟨j + 1, _, c4, _, q2, by go_num, rfl, by show OwnEF _ _ _ _; rw [HR.out]; exact HP.out, HB4⟩
      · have hjI : ¬ (j : Int) < (n : Int) := by omega
        have HST : Hid (fewE n (es.take (j + 1)) = fewE n (es.take j)) := fewE_stay hjn
        have hb0 := below_box4 wr (.cells #[.slice x1 nl x2, .int .u64 (osq : Int), .int .u8 (kk : Int), .slice y1 oln y2] 38)
        have HO9 : Hid _ := HO.out.below hb0 (Nat.le_refl _)
        have HB9 : Hid _ := HB.out.alloc HB.out.size (.cells #[.slice x1 nl x2, .int .u64 (osq : Int), .int .u8 (kk : Int), .slice y1 oln y2] 38)
        clear ho hb0
        go_wp2_with fail
        go_roundg (gk - 1)
        case measure => exact q1
        case rel => exact ⟨j + 1, n', c', a', q2, by go_num, rfl, by show OwnEF _ _ _ _; rw [HST.out]; exact HO9.out, HB9.out⟩
    · have hjN : j = N := by omega
      subst hjN
      have HE : Hid (fewE n (es.take j) = fewE n es) := by show _ = _; rw [← HN.out, List.take_length]
      go_wp2
      go_ret
      exact ⟨_, rfl, by rw [← HE.out]; exact HO.out, HB.out⟩


/-- an entry and a height -/
abbrev PtB := EnB × Int

/-- the five cells of a put -/
def PtAt (R : World → Value → List UInt8 → Prop) (w : World) (b o : Nat) (p : PtB) : Prop :=
  ∃ x y, w.cell? ⟨b, o, none⟩ = some x ∧ w.cell? ⟨b, o + 1, none⟩ = some (.int .u64 (p.1.2.1 : Int)) ∧ w.cell? ⟨b, o + 2, none⟩ = some (.int .u8 (p.1.2.2.1.toNat : Int)) ∧ w.cell? ⟨b, o + 3, none⟩ = some y ∧ w.cell? ⟨b, o + 4, none⟩ = some (.int .i64 p.2) ∧ R w x p.1.1 ∧ R w y p.1.2.2.2

/-- a slice of puts -/
def LsP (R : World → Value → List UInt8 → Prop) (w : World) (v : Value) (ps : List PtB) : Prop :=
  ∃ ao cap, v = .slice ao ps.length cap ∧ ps.length ≤ cap ∧ cap ≤ maxLen ∧ ∀ j (h : j < ps.length), ∃ b off, ao = some ⟨b, off, none⟩ ∧ PtAt R w b (off + j * 5) ps[j]

abbrev RdPt := LsP Rd
abbrev ArgPt := LsP Arg

theorem LsP.belowR {R : World → Value → List UInt8 → Prop} {B : Nat} {w w' : World} {v : Value} {es : List PtB} (h : LsP R w v es) (hR : ∀ x l, R w x l → R w' x l) (hb : Below B w w') (hB : w.heap.size ≤ B) : LsP R w' v es := by
  obtain ⟨ao, cap, rfl, h1, h2, h3⟩ := h
  refine ⟨ao, cap, rfl, h1, h2, fun j hj => ?_⟩
  obtain ⟨b, off, e, x, y, c0, c1, c2, c3, c4, rx, ry⟩ := h3 j hj
  have hl : b < B := Nat.lt_of_lt_of_le (World.block_lt_of_cell? w _ c0) hB
  exact ⟨b, off, e, x, y, (hb.cell (p := ⟨b, off + j * 5, none⟩) hl).trans c0, (hb.cell (p := ⟨b, off + j * 5 + 1, none⟩) hl).trans c1, (hb.cell (p := ⟨b, off + j * 5 + 2, none⟩) hl).trans c2, (hb.cell (p := ⟨b, off + j * 5 + 3, none⟩) hl).trans c3, (hb.cell (p := ⟨b, off + j * 5 + 4, none⟩) hl).trans c4, hR _ _ rx, hR _ _ ry⟩

theorem rdPt_below {B : Nat} {w w' : World} {v : Value} {es : List PtB} (h : RdPt w v es) (hb : Below B w w') (hB : w.heap.size ≤ B) : RdPt w' v es := h.belowR (fun _ _ hr => hr.below hb hB) hb hB
theorem argPt_below {B : Nat} {w w' : World} {v : Value} {es : List PtB} (h : ArgPt w v es) (hb : Below B w w') (hB : w.heap.size ≤ B) : ArgPt w' v es := h.belowR (fun _ _ hr => hr.below hb hB) hb hB
theorem LsP.nil (R : World → Value → List UInt8 → Prop) (w : World) : LsP R w (.slice none 0 0) [] := ⟨none, 0, rfl, Nat.le_refl _, Nat.zero_le _, fun j h => absurd h (Nat.not_lt_zero _)⟩

/-- puts in a row of the call's own; what they hold lies elsewhere -/
def OwnPt (B : Nat) (w : World) (v : Value) (es : List PtB) : Prop :=
  ∃ cs, w.ownsRow B 40 5 v es.length cs ∧ ∀ j (h : j < es.length), ∃ x y, cs[j * 5]? = some x ∧ cs[j * 5 + 1]? = some (.int .u64 (es[j].1.2.1 : Int)) ∧ cs[j * 5 + 2]? = some (.int .u8 (es[j].1.2.2.1.toNat : Int)) ∧ cs[j * 5 + 3]? = some y ∧ cs[j * 5 + 4]? = some (.int .i64 es[j].2) ∧ (Rd w x es[j].1.1 ∧ NeB x es[j].1.1 v ∧ From B x) ∧ (Rd w y es[j].1.2.2.2 ∧ NeB y es[j].1.2.2.2 v ∧ From B y)

theorem OwnPt.nil (B : Nat) (w : World) : OwnPt B w (.slice none 0 0) [] := ⟨[], World.ownsRow_nil _ _ _ _, fun _ h => absurd h (Nat.not_lt_zero _)⟩

theorem OwnPt.below {B C : Nat} {w w' : World} {v : Value} {es : List PtB} (h : OwnPt B w v es) (hb : Below C w w') (hC : w.heap.size ≤ C) : OwnPt B w' v es := by
  obtain ⟨cs, hr, hj⟩ := h
  have hb' : Below w.heap.size w w' := ⟨hb.os, hb.tape, hb.output, hb.size, fun i hi => hb.block i (Nat.lt_of_lt_of_le hi hC)⟩
  refine ⟨cs, row_below hr hb', fun j h => ?_⟩
  obtain ⟨x, y, c0, c1, c2, c3, c4, ox, oy⟩ := hj j h
  exact ⟨x, y, c0, c1, c2, c3, c4, ⟨ox.1.below hb hC, ox.2⟩, ⟨oy.1.below hb hC, oy.2⟩⟩

theorem OwnPt.drew {B : Nat} {w : World} {v : Value} {es : List PtB} (h : OwnPt B w v es) : OwnPt B w.drew v es := h

theorem OwnPt.rd {B : Nat} {w : World} {v : Value} {es : List PtB} (h : OwnPt B w v es) : RdPt w v es := by
  obtain ⟨cs, hr, hj⟩ := h
  have hr2 := hr
  rcases hr.2 with ⟨e, hn⟩ | ⟨g, cap, cur, e, hb, hg, h1, h2, h3, h4⟩
  · exact ⟨none, 0, by rw [e, hn], by omega, Nat.zero_le _, fun j hj => by omega⟩
  · subst e
    refine ⟨_, cap, rfl, h1, h2, fun j h => ⟨g, 0, rfl, ?_⟩⟩
    obtain ⟨x, y, c0, c1, c2, c3, c4, ox, oy⟩ := hj j h
    have hc := hr2.cells (g := g) rfl
    refine ⟨x, y, ?_, ?_, ?_, ?_, ?_, ox.1, oy.1⟩
    · have := hc _ _ c0; rwa [Addr.add_lit] at this
    · have := hc _ _ c1; rwa [Addr.add_lit] at this
    · have := hc _ _ c2; rwa [Addr.add_lit] at this
    · have := hc _ _ c3; rwa [Addr.add_lit] at this
    · have := hc _ _ c4; rwa [Addr.add_lit] at this

theorem OwnPt.lt {B : Nat} {w : World} {v : Value} {es : List PtB} (h : OwnPt B w v es) (q : Nat) (hq : v.ownBlock = some q) : B ≤ q ∧ q < w.heap.size := by
  obtain ⟨cs, hr, _⟩ := h
  exact hr.lt q hq

theorem own_pushPt {B g c n : Nat} {w w' : World} {v x y : Value} {es : List PtB} {cs : List Value} (o : PtB) (hl : es.length = n) (hrow : w.ownsRow B 40 5 v n cs)
    (hel : ∀ j (h : j < es.length), ∃ x y, cs[j * 5]? = some x ∧ cs[j * 5 + 1]? = some (.int .u64 (es[j].1.2.1 : Int)) ∧ cs[j * 5 + 2]? = some (.int .u8 (es[j].1.2.2.1.toNat : Int)) ∧ cs[j * 5 + 3]? = some y ∧ cs[j * 5 + 4]? = some (.int .i64 es[j].2) ∧ (Rd w x es[j].1.1 ∧ NeB x es[j].1.1 v ∧ From B x) ∧ (Rd w y es[j].1.2.2.2 ∧ NeB y es[j].1.2.2.2 v ∧ From B y))
    (hx : Rd w x o.1.1 ∧ NeB x o.1.1 v ∧ From B x) (hy : Rd w y o.1.2.2.2 ∧ NeB y o.1.2.2.2 v ∧ From B y) (hn : w'.ownsRow B 40 5 (.slice (some ⟨g, 0, none⟩) (n + 1) c) (n + 1) (cs ++ [x, .int .u64 (o.1.2.1 : Int), .int .u8 (o.1.2.2.1.toNat : Int), y, .int .i64 o.2])) (hg : w.grownBy w' v.ownBlock) (hat : v.ownBlock = some g ∨ g = w.heap.size) : OwnPt B w' (.slice (some ⟨g, 0, none⟩) (n + 1) c) (es ++ [o]) := by
  subst hl
  have hcl : cs.length = es.length * 5 := hrow.1
  refine ⟨_, by rw [List.length_append]; exact hn, fun j h => ?_⟩
  by_cases hj : j < es.length
  · obtain ⟨x', y', c0, c1, c2, c3, c4, ox, oy⟩ := hel j hj
    refine ⟨x', y', ?_, ?_, ?_, ?_, ?_, ?_, ?_⟩
    · rw [List.getElem?_append_left (by omega)]; exact c0
    · rw [List.getElem?_append_left (by omega), List.getElem_append_left hj]; exact c1
    · rw [List.getElem?_append_left (by omega), List.getElem_append_left hj]; exact c2
    · rw [List.getElem?_append_left (by omega)]; exact c3
    · rw [List.getElem?_append_left (by omega), List.getElem_append_left hj]; exact c4
    · rw [List.getElem_append_left hj]; exact ⟨rd_grown ox.1 hg ox.2.1, neb_step ox.2.1 ox.1 hat, ox.2.2⟩
    · rw [List.getElem_append_left hj]; exact ⟨rd_grown oy.1 hg oy.2.1, neb_step oy.2.1 oy.1 hat, oy.2.2⟩
  · have hje : j = es.length := by rw [List.length_append] at h; simp at h; omega
    subst hje
    have e : (es ++ [o])[es.length]'h = o := by simp
    rw [e]
    refine ⟨x, y, ?_, ?_, ?_, ?_, ?_, ⟨rd_grown hx.1 hg hx.2.1, neb_step hx.2.1 hx.1 hat, hx.2.2⟩, ⟨rd_grown hy.1 hg hy.2.1, neb_step hy.2.1 hy.1 hat, hy.2.2⟩⟩
    · rw [List.getElem?_append_right (by omega), show es.length * 5 - cs.length = 0 by omega]; rfl
    · rw [List.getElem?_append_right (by omega), show es.length * 5 + 1 - cs.length = 1 by omega]; rfl
    · rw [List.getElem?_append_right (by omega), show es.length * 5 + 2 - cs.length = 2 by omega]; rfl
    · rw [List.getElem?_append_right (by omega), show es.length * 5 + 3 - cs.length = 3 by omega]; rfl
    · rw [List.getElem?_append_right (by omega), show es.length * 5 + 4 - cs.length = 4 by omega]; rfl

theorem infoPt : (Try.prog.info? 40).map (fun i => (i.zero, i.size, i.bytes)) = some (some (.agg #[.slice none 0 0, .int .u64 0, .int .u8 0, .slice none 0 0, .int .i64 0]), 5, 72) := by kernel_rfl

theorem onePt (k s h : Int) (a b : Option Addr) (n m c d : Nat) : ∀ u ∈ [Value.slice a n c, .int .u64 s, .int .u8 k, .slice b m d, .int .i64 h], u.oneCell' = true := by
  intro u hu
  simp at hu
  rcases hu with rfl | rfl | rfl | rfl | rfl <;> rfl

/-- five cells in block b -/
structure Box5 (w : World) (b : Nat) (v0 v1 v2 v3 v4 : Value) : Prop where
  c0 : w.cell? ⟨b, 0, none⟩ = some v0
  c1 : w.cell? ⟨b, 1, none⟩ = some v1
  c2 : w.cell? ⟨b, 2, none⟩ = some v2
  c3 : w.cell? ⟨b, 3, none⟩ = some v3
  c4 : w.cell? ⟨b, 4, none⟩ = some v4

theorem box5_new (w : World) (v0 v1 v2 v3 v4 : Value) (t : TypeId) : Box5 (w.alloc (.cells #[v0, v1, v2, v3, v4] t)) w.heap.size v0 v1 v2 v3 v4 := by
  have h := heap_alloc_new w (.cells #[v0, v1, v2, v3, v4] t)
  have c := fun i => cell_of_row (w.alloc (.cells #[v0, v1, v2, v3, v4] t)) w.heap.size i _ t (0, 0) h
  exact ⟨by rw [c]; rfl, by rw [c]; rfl, by rw [c]; rfl, by rw [c]; rfl, by rw [c]; rfl⟩

theorem Box5.lt {w : World} {b : Nat} {v0 v1 v2 v3 v4 : Value} (h : Box5 w b v0 v1 v2 v3 v4) : b < w.heap.size := World.block_lt_of_cell? w _ h.c0

theorem Box5.below {B : Nat} {w w' : World} {b : Nat} {v0 v1 v2 v3 v4 : Value} (h : Box5 w b v0 v1 v2 v3 v4) (hb : Below B w w') (hB : w.heap.size ≤ B) : Box5 w' b v0 v1 v2 v3 v4 := by
  have hl : b < B := Nat.lt_of_lt_of_le h.lt hB
  exact ⟨by rw [hb.cell (p := ⟨b, 0, none⟩) hl]; exact h.c0, by rw [hb.cell (p := ⟨b, 1, none⟩) hl]; exact h.c1, by rw [hb.cell (p := ⟨b, 2, none⟩) hl]; exact h.c2, by rw [hb.cell (p := ⟨b, 3, none⟩) hl]; exact h.c3, by rw [hb.cell (p := ⟨b, 4, none⟩) hl]; exact h.c4⟩

theorem Box5.drew {w : World} {b : Nat} {v0 v1 v2 v3 v4 : Value} (h : Box5 w b v0 v1 v2 v3 v4) : Box5 w.drew b v0 v1 v2 v3 v4 := ⟨h.c0, h.c1, h.c2, h.c3, h.c4⟩
theorem Box5.alloc {w : World} {b : Nat} {v0 v1 v2 v3 v4 : Value} (h : Box5 w b v0 v1 v2 v3 v4) (o : Obj) : Box5 (w.alloc o) b v0 v1 v2 v3 v4 := h.below (below_box4 w o) (Nat.le_refl _)
theorem Box5.grown {w w' : World} {b : Nat} {v0 v1 v2 v3 v4 : Value} {row : Option Nat} (h : Box5 w b v0 v1 v2 v3 v4) (hg : w.grownBy w' row) (hne : some b ≠ row) : Box5 w' b v0 v1 v2 v3 v4 := by
  have e : w'.heap[b]? = w.heap[b]? := hg.block b h.lt hne
  exact ⟨(World.cell?_of_block (a := ⟨b, 0, none⟩) e).trans h.c0, (World.cell?_of_block (a := ⟨b, 1, none⟩) e).trans h.c1, (World.cell?_of_block (a := ⟨b, 2, none⟩) e).trans h.c2, (World.cell?_of_block (a := ⟨b, 3, none⟩) e).trans h.c3, (World.cell?_of_block (a := ⟨b, 4, none⟩) e).trans h.c4⟩

def cutP (p : PtB) : PtB := (cutE p.1, p.2)
def fewP (ps : List PtB) : List PtB := (ps.take 60).map cutP

theorem fewP_take {es : List PtB} {j : Nat} (h : j < es.length) (hn : j < 60) : fewP (es.take (j + 1)) = fewP (es.take j) ++ [cutP es[j]] := by
  unfold fewP
  rw [List.take_take, List.take_take, Nat.min_eq_right (by omega), Nat.min_eq_right (by omega), List.take_succ_eq_append_getElem h, List.map_append]
  rfl
theorem fewP_stay {es : List PtB} {j : Nat} (hn : ¬ j < 60) : fewP (es.take (j + 1)) = fewP (es.take j) := by
  unfold fewP
  rw [List.take_take, List.take_take, Nat.min_eq_left (by omega), Nat.min_eq_left (by omega)]
theorem fewP_len (es : List PtB) : (fewP es).length ≤ 60 := by
  unfold fewP; rw [List.length_map, List.length_take]; omega

theorem argE_one (w : World) (x y : Value) (e : EnB) (hx : Arg w x e.1) (hy : Arg w y e.2.2.2) : ArgE (w.alloc (.cells #[x, .int .u64 (e.2.1 : Int), .int .u8 (e.2.2.1.toNat : Int), y] 38)) (.slice (some ⟨w.heap.size, 0, none⟩) 1 1) [e] := by
  have hb := below_box4 w (.cells #[x, .int .u64 (e.2.1 : Int), .int .u8 (e.2.2.1.toNat : Int), y] 38)
  obtain ⟨c0, c1, c2, c3⟩ := box4_new w x (.int .u64 (e.2.1 : Int)) (.int .u8 (e.2.2.1.toNat : Int)) y 38
  refine ⟨_, 1, rfl, Nat.le_refl _, by decide, fun j hj => ?_⟩
  obtain rfl : j = 0 := by simp at hj; exact hj
  exact ⟨w.heap.size, 0, rfl, x, y, c0, c1, c2, c3, hx.below hb (Nat.le_refl _), hy.below hb (Nat.le_refl _)⟩

set_option maxRecDepth 20000 in
set_option maxHeartbeats 4000000 in
theorem fewP_any (w : World) (v : Value) (es : List PtB) (hv : ArgPt w v es) :
    Calls Try.prog 11 #[v] w fun e w' => ∃ x, e = .returned x ∧ OwnPt w.heap.size w' x (fewP es) ∧ Below w.heap.size w w' := by
  obtain ⟨i0, hi, hz0, hz1, hz2⟩ := info_parts infoPt
  have hv0 := hv
  obtain ⟨ao, cap, rfl, h1, h2, h3⟩ := hv
  unfold maxLen at h2
  have H3 : Hid _ := hv0
  obtain ⟨N, hN⟩ : ∃ N, es.length = N := ⟨_, rfl⟩
  rw [hN] at h1 ⊢
  have HN : Hid (es.length = N) := hN
  clear hv0 h3 hN
  go_enter Try.func11, Try.ntmps11
  go_wp2_with fail
  go_loopg [3, 8] N (fun gk pv iv wr => ∃ j n' c' : Nat, ∃ a' : Option Addr, gk + j = N ∧ iv = .int .i64 (j : Int) ∧ pv = .slice a' n' c' ∧ Hid (OwnPt w.heap.size wr pv (fewP (es.take j))) ∧ Hid (Below w.heap.size w wr))
  case atStart => exact ⟨0, 0, 0, none, by omega, rfl, rfl, by show OwnPt _ _ _ _; rw [List.take_zero, show fewP [] = [] by simp [fewP]]; exact OwnPt.nil _ _, Below.refl _ _⟩
  case round =>
    obtain ⟨j, n', c', a', hj, rfl, rfl, HO, HB⟩ := hrel
    by_cases hlt : j < N
    · have hlt2 : j < es.length := by rw [HN.out]; exact hlt
      obtain ⟨_, _, e, _, _, h3⟩ := argPt_below (show ArgPt w _ es from H3.out) HB.out (Nat.le_refl _)
      cases e
      obtain ⟨b, off, rfl, xv, yv, c0, c1, c2, c3, c4, rx, ry⟩ := h3 j hlt2
      obtain ⟨x1, x2, ex⟩ := Arg.shape rx
      obtain ⟨y1, y2, ey⟩ := Arg.shape ry
      subst ex ey
      obtain ⟨⟨⟨ol, osq, ok, oo⟩, oh⟩, ho⟩ : ∃ o, es[j] = o := ⟨_, rfl⟩
      rw [ho] at c0 c1 c2 c3 c4 rx ry
      obtain ⟨q1, q2⟩ : gk - 1 < gk ∧ gk - 1 + (j + 1) = N := by omega
      have hfl : (fewP (es.take j)).length = min 60 j := by unfold fewP; rw [List.length_map, List.length_take, List.length_take, Nat.min_eq_left (show j ≤ es.length by omega)]
      have hnl : n' = min 60 j := by
        obtain ⟨cs, hrow, _⟩ := HO.out
        rw [ownrow_len hrow, hfl]
      have HTL : Hid ((fewP (es.take j)).length = n') := by show _ = _; rw [hfl, hnl]
      have HNB : Hid (n' ≤ 1000) := by show _ ≤ _; omega
      obtain ⟨kk, hkk⟩ : ∃ kk, ok.toNat = kk := ⟨_, rfl⟩
      have HKK : Hid (ok.toNat = kk) := hkk
      simp only at c0 c1 c2 c3 c4 rx ry
      rw [hkk] at c2
      have HRX0 : Hid (Arg wr _ ol) := rx
      have HRY0 : Hid (Arg wr _ oo) := ry
      obtain ⟨nl, hnlq⟩ : ∃ nl, ol.length = nl := ⟨_, rfl⟩
      obtain ⟨oln, holn⟩ : ∃ oln, oo.length = oln := ⟨_, rfl⟩
      rw [hnlq] at rx c0
      rw [holn] at ry c3
      have HRX : Hid (Arg wr (.slice x1 nl x2) ol) := rx
      have HRY : Hid (Arg wr (.slice y1 oln y2) oo) := ry
      clear hkk rx ry h3 hnlq holn hnl hfl HRX0 HRY0
      by_cases hjn : j < 60
      · have hjI : (j : Int) < 60 := by omega
        obtain ⟨ck, HCK⟩ : ∃ ck, Hid (ol.take 80 = ck) := ⟨_, rfl⟩
        obtain ⟨co, HCO⟩ : ∃ co, Hid (oo.take 600 = co) := ⟨_, rfl⟩
        have HR : Hid (fewP (es.take (j + 1)) = fewP (es.take j) ++ [((ck, osq, ok, co), oh)]) := by show _ = _; rw [fewP_take hlt2 hjn, ho]; unfold cutP cutE; rw [← HCK.out, ← HCO.out]
        have hb0 := below_box4 wr (.cells #[.slice x1 nl x2, .int .u64 (osq : Int), .int .u8 (kk : Int), .slice y1 oln y2, .int .i64 oh] 40)
        have bx := (box5_new wr (.slice x1 nl x2) (.int .u64 (osq : Int)) (.int .u8 (kk : Int)) (.slice y1 oln y2) (.int .i64 oh) 40).drew
        have rx0 := HRX.out.below hb0 (Nat.le_refl _)
        have ry0 := HRY.out.below hb0 (Nat.le_refl _)
        have hae := argE_one (wr.alloc (.cells #[.slice x1 nl x2, .int .u64 (osq : Int), .int .u8 (kk : Int), .slice y1 oln y2, .int .i64 oh] 40)) _ _ (ol, osq, ok, oo) rx0 ry0
        simp only [HKK.out] at hae
        rw [show (wr.alloc (.cells #[.slice x1 nl x2, .int .u64 (osq : Int), .int .u8 (kk : Int), .slice y1 oln y2, .int .i64 oh] 40)).heap.size = wr.heap.size + 1 by simp] at hae
        have hfw := fewEF_any ((wr.alloc (.cells #[.slice x1 nl x2, .int .u64 (osq : Int), .int .u8 (kk : Int), .slice y1 oln y2, .int .i64 oh] 40)).alloc (.cells #[.slice x1 nl x2, .int .u64 (osq : Int), .int .u8 (kk : Int), .slice y1 oln y2] 38)).drew _ [(ol, osq, ok, oo)] 1 (argE_below hae (Below.refl _ _).drew (Nat.le_refl _)) (by omega)
        have HFW : Hid _ := hfw
        have HFE : Hid (fewE 1 [(ol, osq, ok, oo)] = [(ck, osq, ok, co)]) := by show _ = _; simp [fewE, cutE, HCK.out, HCO.out]
        have hb1 := below_box4 (wr.alloc (.cells #[.slice x1 nl x2, .int .u64 (osq : Int), .int .u8 (kk : Int), .slice y1 oln y2, .int .i64 oh] 40)) (.cells #[.slice x1 nl x2, .int .u64 (osq : Int), .int .u8 (kk : Int), .slice y1 oln y2] 38)
        have HO0 : Hid (OwnPt w.heap.size ((wr.alloc (.cells #[.slice x1 nl x2, .int .u64 (osq : Int), .int .u8 (kk : Int), .slice y1 oln y2, .int .i64 oh] 40)).alloc (.cells #[.slice x1 nl x2, .int .u64 (osq : Int), .int .u8 (kk : Int), .slice y1 oln y2] 38)).drew (.slice a' n' c') (fewP (es.take j))) := ((HO.out.below hb0 (Nat.le_refl _)).below hb1 (Nat.le_refl _)).drew
        have HB0 : Hid (Below w.heap.size w ((wr.alloc (.cells #[.slice x1 nl x2, .int .u64 (osq : Int), .int .u8 (kk : Int), .slice y1 oln y2, .int .i64 oh] 40)).alloc (.cells #[.slice x1 nl x2, .int .u64 (osq : Int), .int .u8 (kk : Int), .slice y1 oln y2] 38)).drew) := (bsplit (bsplit HB.out hb0) hb1).drew
        clear hb1
        have HNE : Hid (some wr.heap.size ≠ (Value.slice a' n' c').ownBlock) := by
          obtain ⟨cs, hrow, _⟩ := HO.out
          exact own_ne_new hrow
        clear ho hb0 rx0 ry0 hfw hae
        have be0 := ((box5_new wr (.slice x1 nl x2) (.int .u64 (osq : Int)) (.int .u8 (kk : Int)) (.slice y1 oln y2) (.int .i64 oh) 40).alloc (.cells #[.slice x1 nl x2, .int .u64 (osq : Int), .int .u8 (kk : Int), .slice y1 oln y2] 38)).drew
        go_wp2_with fail
        go_region_law
          (first
            | (go_simp
               go_at_call 29
               refine Calls.mono HFW.out ?_
               rintro e wf ⟨xf, rfl, of, hbf⟩
               rw [HFE.out] at of
               obtain ⟨csf, hrowf, helf⟩ := of
               obtain ⟨xk, yk, k0, k1, k2, k3, ox, oy⟩ := helf 0 (by simp)
               obtain ⟨gf, cf, hv, hg9, hl9⟩ := hrowf.form (by simp)
               subst hv
               have hcf := hrowf.cells (g := gf) rfl
               have z0 := hcf _ _ k0
               have z1 := hcf _ _ k1
               have z2 := hcf _ _ k2
               have z3 := hcf _ _ k3
               obtain ⟨xa9, xc9, rfl⟩ := ox.1.len
               obtain ⟨ya9, yc9, rfl⟩ := oy.1.len
               simp only [Addr.add_lit, List.getElem_cons_zero, List.length_cons, List.length_nil, Nat.zero_add, Nat.zero_mul, HKK.out] at z0 z1 z2 z3 ox oy ⊢
               obtain ⟨l1, hl1⟩ : ∃ n, ck.length = n := ⟨_, rfl⟩
               obtain ⟨l2, hl2⟩ : ∃ n, co.length = n := ⟨_, rfl⟩
               rw [hl1] at z0 ox
               rw [hl2] at z3 oy
               have HOX : Hid _ := ox
               have HOY : Hid _ := oy
               have HBF : Hid _ := hbf
               have bf := be0.below hbf (Nat.le_refl _)
               have bfc := bf.c4
               have be := bf.alloc (.cells #[.slice xa9 l1 xc9, .int .u64 (osq : Int), .int .u8 (kk : Int), .slice ya9 l2 yc9, .int .i64 oh] 40)
               clear hrowf helf k0 k1 k2 k3 hcf ox oy hbf hl1 hl2 hg9 hl9)
            | (have hbe := below_box4 wf (.cells #[.slice xa9 l1 xc9, .int .u64 (osq : Int), .int .u8 (kk : Int), .slice ya9 l2 yc9, .int .i64 oh] 40)
               have hlow : ∀ q, (Value.slice a' n' c').ownBlock = some q → q < ((wr.alloc (.cells #[.slice x1 nl x2, .int .u64 (osq : Int), .int .u8 (kk : Int), .slice y1 oln y2, .int .i64 oh] 40)).alloc (.cells #[.slice x1 nl x2, .int .u64 (osq : Int), .int .u8 (kk : Int), .slice y1 oln y2] 38)).drew.heap.size := fun q hq => (HO0.out.lt q hq).2
               have hBx := HB0.out.trans (HBF.out.mono HB0.out.size)
               have hBe := hBx.trans (hbe.mono hBx.size)
               have hOe := (HO0.out.below HBF.out (Nat.le_refl _)).below hbe (Nat.le_refl _)
               obtain ⟨cs, hrow, hel⟩ := hOe
               rw [HTL.out] at hrow
               have hnb9 := HNB.out
               refine step_append_lies _ rfl (.tmp 15) (.tmp 25) 22 rfl w.heap.size 40 i0 (.agg #[.slice none 0 0, .int .u64 0, .int .u8 0, .slice none 0 0, .int .i64 0]) 5 72 Try.underlying22 hi hz0 hz1 hz2 rfl (by decide) (.slice a' n' c') n' cs rfl hrow ⟨wf.heap.size, 0, none⟩ 1 1 [.slice xa9 l1 xc9, .int .u64 (osq : Int), .int .u8 (kk : Int), .slice ya9 l2 yc9, .int .i64 oh] rfl rfl (World.news_of_block (heap_alloc_new wf _)) (onePt _ _ _ _ _ _ _ _ _) (by decide) (by simp only [maxLen]; omega) (by omega) hBe.size _ rfl ?_
               intro g4 c4 w4 hown hgrow hat hlt4
               have b4 := be.grown hgrow HNE.out
               have hown' := hown
               rw [← HKK.out] at hown'
               have HP : Hid (OwnPt w.heap.size w4 (.slice (some ⟨g4, 0, none⟩) (n' + 1) c4) (fewP (es.take j) ++ [((ck, osq, ok, co), oh)])) := own_pushPt ((ck, osq, ok, co), oh) HTL.out hrow hel ⟨HOX.out.1.below hbe (Nat.le_refl _), neb_of HOX.out.2.2 hlow HOX.out.1, fun a n c e => Nat.le_trans HB0.out.size (HOX.out.2.2 a n c e)⟩ ⟨HOY.out.1.below hbe (Nat.le_refl _), neb_of HOY.out.2.2 hlow HOY.out.1, fun a n c e => Nat.le_trans HB0.out.size (HOY.out.2.2 a n c e)⟩ hown' hgrow hat
               have HB4 : Hid (Below w.heap.size w w4) := hBe.grown hgrow hBe.size (fun k' e => (hrow.lt k' e).1))
            | fail)
        all_goals
          clear bx be0
          go_wp2_with fail
          go_roundg (gk - 1)
          case measure => exact q1
          case rel => exact ⟨j + 1, _, c4, _, q2, by go_num, rfl, by show OwnPt _ _ _ _; rw [HR.out]; exact HP.out, HB4⟩
      · have hjI : ¬ (j : Int) < 60 := by omega
        have HST : Hid (fewP (es.take (j + 1)) = fewP (es.take j)) := fewP_stay hjn
        have hb0 := below_box4 wr (.cells #[.slice x1 nl x2, .int .u64 (osq : Int), .int .u8 (kk : Int), .slice y1 oln y2, .int .i64 oh] 40)
        have HO9 : Hid _ := HO.out.below hb0 (Nat.le_refl _)
        have HB9 : Hid _ := HB.out.alloc HB.out.size (.cells #[.slice x1 nl x2, .int .u64 (osq : Int), .int .u8 (kk : Int), .slice y1 oln y2, .int .i64 oh] 40)
        clear ho hb0
        go_wp2_with fail
        go_roundg (gk - 1)
        case measure => exact q1
        case rel => exact ⟨j + 1, n', c', a', q2, by go_num, rfl, by show OwnPt _ _ _ _; rw [HST.out]; exact HO9.out, HB9.out⟩
    · have hjN : j = N := by omega
      subst hjN
      have HE : Hid (fewP (es.take j) = fewP es) := by show _ = _; rw [← HN.out, List.take_length]
      go_wp2
      go_ret
      exact ⟨_, rfl, by rw [← HE.out]; exact HO.out, HB.out⟩

end Go.Proofs.Ytekmlbbfipldoaa

/- bartizanref03.SameEntry, SameEntries. -/
namespace Go.Proofs.Ytekmlbbfipldoaa
open Go.RowKit
set_option linter.unusedVariables false

set_option maxRecDepth 20000 in
set_option maxHeartbeats 4000000 in
theorem sameen_any (w : World) (xa ya xb yb : Value) (la ma lb mb : List UInt8) (s k t j : Int) (r : Bool) (hxa : Rd w xa la) (hya : Rd w ya ma) (hxb : Rd w xb lb) (hyb : Rd w yb mb) (hr : decide ((la = lb ∧ s = t ∧ k = j) ∧ ma = mb) = r) :
    Calls Try.prog 15 #[.agg #[xa, .int .u64 s, .int .u8 k, ya], .agg #[xb, .int .u64 t, .int .u8 j, yb]] w fun e w' => e = .returned (.bool r) ∧ Below w.heap.size w w' := by
  obtain ⟨a1, a2, rfl⟩ := hxa.len
  obtain ⟨a3, a4, rfl⟩ := hya.len
  obtain ⟨b1, b2, rfl⟩ := hxb.len
  obtain ⟨b3, b4, rfl⟩ := hyb.len
  obtain ⟨n1, h1⟩ : ∃ n, la.length = n := ⟨_, rfl⟩
  obtain ⟨n2, h2⟩ : ∃ n, ma.length = n := ⟨_, rfl⟩
  obtain ⟨n3, h3⟩ : ∃ n, lb.length = n := ⟨_, rfl⟩
  obtain ⟨n4, h4⟩ : ∃ n, mb.length = n := ⟨_, rfl⟩
  rw [h1] at hxa ⊢
  rw [h2] at hya ⊢
  rw [h3] at hxb ⊢
  rw [h4] at hyb ⊢
  have hb0 := below_box4 w (.cells #[.slice a1 n1 a2, .int .u64 s, .int .u8 k, .slice a3 n2 a4] 38)
  have hb1 := below_box4 (w.alloc (.cells #[.slice a1 n1 a2, .int .u64 s, .int .u8 k, .slice a3 n2 a4] 38)) (.cells #[.slice b1 n3 b2, .int .u64 t, .int .u8 j, .slice b3 n4 b4] 38)
  have BA := (box4_new w (.slice a1 n1 a2) (.int .u64 s) (.int .u8 k) (.slice a3 n2 a4) 38).below hb1 (Nat.le_refl _)
  have BB := box4_new (w.alloc (.cells #[.slice a1 n1 a2, .int .u64 s, .int .u8 k, .slice a3 n2 a4] 38)) (.slice b1 n3 b2) (.int .u64 t) (.int .u8 j) (.slice b3 n4 b4) 38
  rw [show (w.alloc (.cells #[.slice a1 n1 a2, .int .u64 s, .int .u8 k, .slice a3 n2 a4] 38)).heap.size = w.heap.size + 1 by simp] at BB
  have hB1 := bsplit hb0 hb1
  have hks := keysame_any ((w.alloc (.cells #[.slice a1 n1 a2, .int .u64 s, .int .u8 k, .slice a3 n2 a4] 38)).alloc (.cells #[.slice b1 n3 b2, .int .u64 t, .int .u8 j, .slice b3 n4 b4] 38)) _ _ la lb s k t j (decide (la = lb ∧ s = t ∧ k = j)) (hxa.below hB1 (Nat.le_refl _)) (hxb.below hB1 (Nat.le_refl _)) rfl
  have HY : Hid (Rd w (.slice a3 n2 a4) ma ∧ Rd w (.slice b3 n4 b4) mb) := ⟨hya, hyb⟩
  have HB1 : Hid _ := hB1
  have HR : Hid (decide ((la = lb ∧ s = t ∧ k = j) ∧ ma = mb) = r) := hr
  obtain ⟨q, hq⟩ : ∃ q, decide (la = lb ∧ s = t ∧ k = j) = q := ⟨_, rfl⟩
  have HQ : Hid (decide (la = lb ∧ s = t ∧ k = j) = q) := hq
  rw [hq] at hks
  clear hxa hya hxb hyb hr h1 h2 h3 h4 hb0 hb1 hB1 hq
  go_enter Try.func15, Try.ntmps15
  cases q with
  | false =>
    have HF : Hid (r = false) := by
      show r = false
      rw [← HR.out]
      have := of_decide_eq_false HQ.out
      simp only [decide_eq_false_iff_not]
      exact fun h => this h.1
    obtain ⟨c0, c1, c2, c3⟩ := BA
    obtain ⟨d0, d1, d2, d3⟩ := BB
    go_wp2_with fail
    refine hks.mono ?_
    rintro e w1 ⟨rfl, hb⟩
    have HB2 : Hid (Below w.heap.size w w1) := bsplit HB1.out hb
    clear hks hb
    go_wp2
    go_ret
    exact ⟨ret_bool (by rw [HF.out]), HB2.out⟩
  | true =>
    have HT : Hid ((ma == mb) = r) := by
      show (ma == mb) = r
      rw [← HR.out]
      have := of_decide_eq_true HQ.out
      rw [Bool.eq_iff_iff]
      simp only [beq_iff_eq, decide_eq_true_eq]
      exact ⟨fun h => ⟨this, h⟩, fun h => h.2⟩
    have BA' := BA
    have BB' := BB
    obtain ⟨c0, c1, c2, c3⟩ := BA'
    obtain ⟨d0, d1, d2, d3⟩ := BB'
    go_wp2_with fail
    refine hks.mono ?_
    rintro e w1 ⟨rfl, hb⟩
    have HB2 : Hid (Below w.heap.size w w1) := bsplit HB1.out hb
    clear c0 c1 c2 c3 d0 d1 d2 d3
    obtain ⟨c0, c1, c2, c3⟩ := BA.below hb (Nat.le_refl _)
    obtain ⟨d0, d1, d2, d3⟩ := BB.below hb (Nat.le_refl _)
    have hsb := same_b w1 _ _ ma mb r (HY.out.1.below HB2.out (Nat.le_refl _)) (HY.out.2.below HB2.out (Nat.le_refl _)) HT.out
    clear hks hb BA BB
    go_wp2_with fail
    refine hsb.mono ?_
    rintro e w2 ⟨rfl, rfl⟩
    clear hsb
    go_wp2
    go_ret
    exact ⟨rfl, HB2.out⟩

set_option maxRecDepth 20000 in
set_option maxHeartbeats 4000000 in
theorem sameens_any (w : World) (va vb : Value) (us bs : List EnB) (r : Bool) (ha : RdE w va us) (hb : RdE w vb bs) (hr : us = bs ↔ r = true) :
    Calls Try.prog 16 #[va, vb] w fun e w' => e = .returned (.bool r) ∧ Below w.heap.size w w' := by
  have HA : Hid (RdE w va us) := ha
  have HBb : Hid (RdE w vb bs) := hb
  obtain ⟨a1, a2, rfl, ha1, ha2, _⟩ := ha
  obtain ⟨b1, b2, rfl, hb1, hb2, _⟩ := hb
  unfold maxLen at ha2 hb2
  obtain ⟨N, hN⟩ : ∃ n, us.length = n := ⟨_, rfl⟩
  obtain ⟨M, hM⟩ : ∃ n, bs.length = n := ⟨_, rfl⟩
  rw [hN] at ha1 HA ⊢
  rw [hM] at hb1 HBb ⊢
  have HNM : Hid (us.length = N ∧ bs.length = M) := ⟨hN, hM⟩
  have HR : Hid (us = bs ↔ r = true) := hr
  clear hN hM hr
  go_enter Try.func16, Try.ntmps16
  by_cases hnm : N = M
  · subst hnm
    go_wp2_with fail
    go_loopg [13] N (fun gk iv wr => ∃ j : Nat, gk + j = N ∧ iv = .int .i64 (j : Int) ∧ Hid (∀ i, i < j → us[i]? = bs[i]?) ∧ Hid (Below w.heap.size w wr))
    case atStart => exact ⟨0, by omega, rfl, fun i hi => absurd hi (Nat.not_lt_zero _), Below.refl _ _⟩
    case round =>
      obtain ⟨j, hj, rfl, HS, HB⟩ := hrel
      by_cases hlt : j < N
      · have l1 : j < us.length := by rw [HNM.out.1]; exact hlt
        have l2 : j < bs.length := by rw [HNM.out.2]; exact hlt
        obtain ⟨_, _, e, _, _, h3⟩ := rdE_below HA.out HB.out (Nat.le_refl _)
        rw [HNM.out.1] at e
        cases e
        obtain ⟨_, _, e, _, _, h4⟩ := rdE_below HBb.out HB.out (Nat.le_refl _)
        rw [HNM.out.2] at e
        cases e
        obtain ⟨p1, o1, rfl, x1, y1, c0, c1, c2, c3, rx1, ry1⟩ := h3 j l1
        obtain ⟨p2, o2, rfl, x2, y2, d0, d1, d2, d3, rx2, ry2⟩ := h4 j l2
        obtain ⟨q1, q2⟩ := gk_nxt hj hlt
        obtain ⟨t1, t2, hx1⟩ := rx1.len
        obtain ⟨t3, t4, hy1⟩ := ry1.len
        obtain ⟨t5, t6, hx2⟩ := rx2.len
        obtain ⟨t7, t8, hy2⟩ := ry2.len
        have hsm := sameen_any wr.drew x1 y1 x2 y2 us[j].1 us[j].2.2.2 bs[j].1 bs[j].2.2.2 (us[j].2.1 : Int) (us[j].2.2.1.toNat : Int) (bs[j].2.1 : Int) (bs[j].2.2.1.toNat : Int) (decide (us[j] = bs[j])) rx1.drew ry1.drew rx2.drew ry2.drew (by
          rw [decide_eq_decide]
          constructor
          · rintro ⟨⟨e1, e2, e3⟩, e4⟩
            have e2' : us[j].2.1 = bs[j].2.1 := by omega
            have e3' : us[j].2.2.1 = bs[j].2.2.1 := UInt8.toNat_inj.1 (by omega)
            exact Prod.ext e1 (Prod.ext e2' (Prod.ext e3' e4))
          · intro e
            rw [e]
            exact ⟨⟨rfl, rfl, rfl⟩, rfl⟩)
        have h1I : (j : Int) < (a2 : Int) := by omega
        have h2I : (j : Int) < (b2 : Int) := by omega
        rw [hx1] at c0 hsm
        rw [hy1] at c3 hsm
        rw [hx2] at d0 hsm
        rw [hy2] at d3 hsm
        obtain ⟨z1, hz1⟩ : ∃ z, (us[j].2.1 : Int) = z := ⟨_, rfl⟩
        obtain ⟨z2, hz2⟩ : ∃ z, (us[j].2.2.1.toNat : Int) = z := ⟨_, rfl⟩
        obtain ⟨z3, hz3⟩ : ∃ z, (bs[j].2.1 : Int) = z := ⟨_, rfl⟩
        obtain ⟨z4, hz4⟩ : ∃ z, (bs[j].2.2.1.toNat : Int) = z := ⟨_, rfl⟩
        obtain ⟨m1, hm1⟩ : ∃ z, us[j].1.length = z := ⟨_, rfl⟩
        obtain ⟨m2, hm2⟩ : ∃ z, us[j].2.2.2.length = z := ⟨_, rfl⟩
        obtain ⟨m3, hm3⟩ : ∃ z, bs[j].1.length = z := ⟨_, rfl⟩
        obtain ⟨m4, hm4⟩ : ∃ z, bs[j].2.2.2.length = z := ⟨_, rfl⟩
        rw [hz1] at c1 hsm
        rw [hz2] at c2 hsm
        rw [hz3] at d1 hsm
        rw [hz4] at d2 hsm
        rw [hm1] at c0 hsm
        rw [hm2] at c3 hsm
        rw [hm3] at d0 hsm
        rw [hm4] at d3 hsm
        obtain ⟨q, hq⟩ : ∃ q, decide (us[j] = bs[j]) = q := ⟨_, rfl⟩
        have HQ : Hid (decide (us[j] = bs[j]) = q) := hq
        rw [hq] at hsm
        have c0' := c0; have c1' := c1; have c2' := c2; have c3' := c3; have d0' := d0; have d1' := d1; have d2' := d2; have d3' := d3
        clear h3 h4 rx1 ry1 rx2 ry2 hx1 hy1 hx2 hy2 hz1 hz2 hz3 hz4 hm1 hm2 hm3 hm4 hq
        cases q with
        | true =>
          go_wp2_with fail
          go_region_held3 (fun w' => (w'.cell? ⟨p1, o1 + j * 4, none⟩ = some (.slice t1 m1 t2) ∧ w'.cell? ⟨p1, o1 + j * 4 + 1, none⟩ = some (.int .u64 z1) ∧ w'.cell? ⟨p1, o1 + j * 4 + 2, none⟩ = some (.int .u8 z2) ∧ w'.cell? ⟨p1, o1 + j * 4 + 3, none⟩ = some (.slice t3 m2 t4)) ∧ (w'.cell? ⟨p2, o2 + j * 4, none⟩ = some (.slice t5 m3 t6) ∧ w'.cell? ⟨p2, o2 + j * 4 + 1, none⟩ = some (.int .u64 z3) ∧ w'.cell? ⟨p2, o2 + j * 4 + 2, none⟩ = some (.int .u8 z4) ∧ w'.cell? ⟨p2, o2 + j * 4 + 3, none⟩ = some (.slice t7 m4 t8)))
            (first | with_reducible exact ⟨⟨e0, e1, e2, e3⟩, ⟨e4, e5, e6, e7⟩⟩ | exact ⟨⟨c0', c1', c2', c3'⟩, ⟨d0', d1', d2', d3'⟩⟩)
            (first
              | (go_at_call 15; refine hsm.mono ?_; rintro e w5 ⟨rfl, hb5⟩
                 have HB5 : Hid (Below w.heap.size w w5) := bsplit HB.out.drew hb5
                 have b1 := World.block_lt_of_cell? wr _ c0'
                 have b2 := World.block_lt_of_cell? wr _ d0'
                 have e0 := (hb5.cell (p := ⟨p1, o1 + j * 4, none⟩) b1).trans c0'
                 have e1 := (hb5.cell (p := ⟨p1, o1 + j * 4 + 1, none⟩) b1).trans c1'
                 have e2 := (hb5.cell (p := ⟨p1, o1 + j * 4 + 2, none⟩) b1).trans c2'
                 have e3 := (hb5.cell (p := ⟨p1, o1 + j * 4 + 3, none⟩) b1).trans c3'
                 have e4 := (hb5.cell (p := ⟨p2, o2 + j * 4, none⟩) b2).trans d0'
                 have e5 := (hb5.cell (p := ⟨p2, o2 + j * 4 + 1, none⟩) b2).trans d1'
                 have e6 := (hb5.cell (p := ⟨p2, o2 + j * 4 + 2, none⟩) b2).trans d2'
                 have e7 := (hb5.cell (p := ⟨p2, o2 + j * 4 + 3, none⟩) b2).trans d3')
              | fail)
          go_wp2_with fail
          go_roundg (gk - 1)
          case measure => exact q1
          case rel => exact ⟨j + 1, q2, by go_num, fun i hi => by
            by_cases e : i = j
            · subst e; rw [List.getElem?_eq_getElem l1, List.getElem?_eq_getElem l2, of_decide_eq_true HQ.out]
            · exact HS.out i (by omega), HB5⟩
        | false =>
          go_wp2_with fail
          go_region_held3 (fun w' => (w'.cell? ⟨p1, o1 + j * 4, none⟩ = some (.slice t1 m1 t2) ∧ w'.cell? ⟨p1, o1 + j * 4 + 1, none⟩ = some (.int .u64 z1) ∧ w'.cell? ⟨p1, o1 + j * 4 + 2, none⟩ = some (.int .u8 z2) ∧ w'.cell? ⟨p1, o1 + j * 4 + 3, none⟩ = some (.slice t3 m2 t4)) ∧ (w'.cell? ⟨p2, o2 + j * 4, none⟩ = some (.slice t5 m3 t6) ∧ w'.cell? ⟨p2, o2 + j * 4 + 1, none⟩ = some (.int .u64 z3) ∧ w'.cell? ⟨p2, o2 + j * 4 + 2, none⟩ = some (.int .u8 z4) ∧ w'.cell? ⟨p2, o2 + j * 4 + 3, none⟩ = some (.slice t7 m4 t8)))
            (first | with_reducible exact ⟨⟨e0, e1, e2, e3⟩, ⟨e4, e5, e6, e7⟩⟩ | exact ⟨⟨c0', c1', c2', c3'⟩, ⟨d0', d1', d2', d3'⟩⟩)
            (first
              | (go_at_call 15; refine hsm.mono ?_; rintro e w5 ⟨rfl, hb5⟩
                 have HB5 : Hid (Below w.heap.size w w5) := bsplit HB.out.drew hb5
                 have b1 := World.block_lt_of_cell? wr _ c0'
                 have b2 := World.block_lt_of_cell? wr _ d0'
                 have e0 := (hb5.cell (p := ⟨p1, o1 + j * 4, none⟩) b1).trans c0'
                 have e1 := (hb5.cell (p := ⟨p1, o1 + j * 4 + 1, none⟩) b1).trans c1'
                 have e2 := (hb5.cell (p := ⟨p1, o1 + j * 4 + 2, none⟩) b1).trans c2'
                 have e3 := (hb5.cell (p := ⟨p1, o1 + j * 4 + 3, none⟩) b1).trans c3'
                 have e4 := (hb5.cell (p := ⟨p2, o2 + j * 4, none⟩) b2).trans d0'
                 have e5 := (hb5.cell (p := ⟨p2, o2 + j * 4 + 1, none⟩) b2).trans d1'
                 have e6 := (hb5.cell (p := ⟨p2, o2 + j * 4 + 2, none⟩) b2).trans d2'
                 have e7 := (hb5.cell (p := ⟨p2, o2 + j * 4 + 3, none⟩) b2).trans d3')
              | fail)
          have HF : Hid (r = false) := by
            show r = false
            cases hrr : r with
            | false => rfl
            | true =>
              have h9 := HR.out.2 hrr
              subst h9
              exact absurd rfl (of_decide_eq_false HQ.out)
          go_wp2
          go_ret
          exact ⟨ret_bool (by rw [HF.out]), HB5.out⟩
      · have hjN : j = N := by omega
        subst hjN
        have HT : Hid (r = true) := HR.out.1 (List.ext_getElem? (fun i => by
          by_cases hi : i < j
          · exact HS.out i hi
          · rw [List.getElem?_eq_none (by rw [HNM.out.1]; omega), List.getElem?_eq_none (by rw [HNM.out.2]; omega)]))
        go_wp2
        go_ret
        exact ⟨ret_bool (by rw [HT.out]), HB.out⟩
  · have hnmI : ¬ (N : Int) = (M : Int) := by omega
    have HF : Hid (r = false) := by
      show r = false
      cases hrr : r with
      | false => rfl
      | true =>
        have h9 := HR.out.2 hrr
        exact absurd (by rw [← HNM.out.1, ← HNM.out.2, h9]) hnm
    go_wp2
    go_ret
    exact ⟨ret_bool (by rw [HF.out]), Below.refl _ _⟩

end Go.Proofs.Ytekmlbbfipldoaa

/- A list that is filled with puts, one after another. -/
namespace Go.Proofs.Ytekmlbbfipldoaa
open Go.RowKit Go.Shelf
set_option linter.unusedVariables false

theorem OwnPt.mono {B C : Nat} {w : World} {v : Value} {es : List PtB} (h : OwnPt B w v es) (hC : C ≤ B) : OwnPt C w v es := by
  obtain ⟨cs, hr, hj⟩ := h
  refine ⟨cs, ⟨hr.1, hr.2.imp id (fun ⟨g, cap, cur, e1, hb, r⟩ => ⟨g, cap, cur, e1, Nat.le_trans hC hb, r⟩)⟩, fun j h => ?_⟩
  obtain ⟨x, y, c0, c1, c2, c3, c4, ox, oy⟩ := hj j h
  exact ⟨x, y, c0, c1, c2, c3, c4, ⟨ox.1, ox.2.1, fun a n c e => Nat.le_trans hC (ox.2.2 a n c e)⟩, ⟨oy.1, oy.2.1, fun a n c e => Nat.le_trans hC (oy.2.2 a n c e)⟩⟩

theorem rd_keeps {B : Nat} {F : Nat → Prop} {w w' : World} {x : Value} {l : List UInt8} (h : Rd w x l) (hf : From B x) (hk : Keeps F w w') (hF : ∀ i, F i → i < B ∨ w.heap.size ≤ i) : Rd w' x l := by
  rcases h with h | ⟨b, off, cap, rfl, h1, h2, h3⟩
  · exact .inl h
  · refine .inr ⟨b, off, cap, rfl, h1, h2, fun j u hu => hk.cell (p := ⟨b, off + j, none⟩) (fun hfb => ?_) (h3 j u hu)⟩
    have := World.block_lt_of_cell? w _ (h3 j u hu)
    have h9 : B ≤ b := hf ⟨b, off, none⟩ _ _ rfl
    have h8 : b < w.heap.size := this
    rcases hF b hfb with h | h <;> omega

theorem row_keeps {B n s : Nat} {e : TypeId} {cs : List Value} {F : Nat → Prop} {w w' : World} {v : Value} (h : w.ownsRow B e s v n cs) (hk : Keeps F w w') (hF : ∀ i, F i → i < B ∨ w.heap.size ≤ i) : w'.ownsRow B e s v n cs := by
  refine ⟨h.1, ?_⟩
  rcases h.2 with h | ⟨g, cap, cur, e1, hb, hg, r⟩
  · exact .inl h
  · have hlt := (Array.getElem?_eq_some_iff.1 hg).1
    refine .inr ⟨g, cap, cur, e1, hb, ?_, r⟩
    rw [hk.block g hlt (fun hf => by rcases hF g hf with h | h <;> omega)]
    exact hg

theorem OwnPt.keeps {B : Nat} {F : Nat → Prop} {w w' : World} {v : Value} {es : List PtB} (h : OwnPt B w v es) (hk : Keeps F w w') (hF : ∀ i, F i → i < B ∨ w.heap.size ≤ i) : OwnPt B w' v es := by
  obtain ⟨cs, hr, hj⟩ := h
  refine ⟨cs, row_keeps hr hk hF, fun j h => ?_⟩
  obtain ⟨x, y, c0, c1, c2, c3, c4, ox, oy⟩ := hj j h
  exact ⟨x, y, c0, c1, c2, c3, c4, ⟨rd_keeps ox.1 ox.2.2 hk hF, ox.2⟩, ⟨rd_keeps oy.1 oy.2.2 hk hF, oy.2⟩⟩

/-- so many puts of the row are in -/
structure Fill (w wf : World) (l : Nat) (j : Nat) (wr : World) (ts : List Tow) : Prop where
  sk : SkAt wr l ts
  len : LenT ts 1000
  cnt : ts.length ≤ j
  tow : ∀ t ∈ ts, wf.heap.size ≤ t.b
  kp : Keeps (fun i => i = l ∨ wf.heap.size ≤ i) wf wr
  be : Below w.heap.size w wr
  ok : ∀ t ∈ ts, chk t.e.1.length (t.e.2.1 : Int) (t.e.2.2.1.toNat : Int) = 0 ∧ t.e.1.length ≤ 80 ∧ t.e.2.2.2.length ≤ 600

theorem chkSk_key {e : EnB} {h : Int} (hc : chkSk e h = 0) : chk e.1.length (e.2.1 : Int) (e.2.2.1.toNat : Int) = 0 := by
  unfold chkSk at hc
  split at hc
  · assumption
  · exact hc

theorem Fill.below {w wf wr w' : World} {l j : Nat} {ts : List Tow} (h : Fill w wf l j wr ts) (hb : Below wr.heap.size wr w') : Fill w wf l j w' ts :=
  ⟨h.sk.below hb, h.len, h.cnt, h.tow, h.kp.trans (Below.keeps hb _), bsplit h.be hb, h.ok⟩

theorem Fill.row {w wf wr : World} {l j : Nat} {ts : List Tow} {v : Value} {ps : List PtB} (h : Fill w wf l j wr ts) (ho : OwnPt (l + 1) wf v ps) : OwnPt (l + 1) wr v ps :=
  ho.keeps h.kp (fun i hi => by rcases hi with h | h <;> omega)

theorem insT_mem {ts : List Tow} {c : Nat} {T t : Tow} (h : t ∈ insT ts c T) : t = T ∨ t ∈ ts := by
  unfold insT at h
  rcases List.mem_append.1 h with h | h
  · exact .inr (List.mem_of_mem_take h)
  · rcases List.mem_cons.1 h with h | h
    · exact .inl h
    · exact .inr (List.mem_of_mem_drop h)

theorem nb_cases {l : Nat} {ts : List Tow} {a : Nat} (ha : a ≤ ts.length) : nb l ts a = l ∨ ∃ t ∈ ts, nb l ts a = t.b := by
  rcases a with _ | a
  · exact .inl rfl
  · exact .inr ⟨ts[a], List.getElem_mem _, nb_succ l (by omega)⟩

theorem Fill.ins {w wf wr w' : World} {l j : Nat} {ts : List Tow} {e : EnB} {hh : Int} {o : Ending} (h : Fill w wf l j wr ts) (hl : w.heap.size ≤ l) (hwf : w.heap.size ≤ wf.heap.size) (he : e.1.length ≤ 80 ∧ e.2.2.2.length ≤ 600) (hp : InsPost l ts e hh wr w' o) :
    ∃ c ts', o = .returned (.int .i64 c) ∧ Fill w wf l (j + 1) w' ts' := by
  rcases hp with ⟨_, ho, hb⟩ | ⟨_, _, ho, hb⟩ | ⟨hck, _, ho, T, hTe, hTh, hTb, hS, hk⟩
  · have h' := h.below hb
    exact ⟨_, ts, ho, ⟨h'.sk, h'.len, Nat.le_succ_of_le h'.cnt, h'.tow, h'.kp, h'.be, h'.ok⟩⟩
  · have h' := h.below hb
    exact ⟨_, ts, ho, ⟨h'.sk, h'.len, Nat.le_succ_of_le h'.cnt, h'.tow, h'.kp, h'.be, h'.ok⟩⟩
  · have hc : cntE (esT ts) e ≤ ts.length := by
      have h9 : cntE (esT ts) e ≤ (esT ts).length := List.countP_le_length
      rwa [esT_len] at h9
    refine ⟨_, _, ho, ⟨hS, fun t ht => ?_, ?_, fun t ht => ?_, h.kp.trans (hk.mono (fun i ⟨a, ha, e⟩ => ?_)), h.be.trans (hk.below (fun i ⟨a, ha, e⟩ => ?_) h.be.size), fun t ht => ?_⟩⟩
    · rcases insT_mem ht with rfl | ht
      · rw [hTe]; omega
      · exact h.len t ht
    · rw [insT_len hc]; have := h.cnt; omega
    · rcases insT_mem ht with rfl | ht
      · exact Nat.le_trans h.kp.size hTb
      · exact h.tow t ht
    · rcases nb_cases (l := l) ha with h1 | ⟨t, ht, h1⟩
      · exact .inl (e.trans h1)
      · exact .inr (by rw [e, h1]; exact h.tow t ht)
    · rcases nb_cases (l := l) ha with h1 | ⟨t, ht, h1⟩
      · rw [e, h1]; exact hl
      · rw [e, h1]; exact Nat.le_trans hwf (h.tow t ht)
    · rcases insT_mem ht with rfl | ht
      · rw [hTe]; exact ⟨chkSk_key hck, he⟩
      · exact h.ok t ht

theorem fewP_short {es : List PtB} : ∀ p ∈ fewP es, p.1.1.length ≤ 80 ∧ p.1.2.2.2.length ≤ 600 := by
  intro p hp
  unfold fewP at hp
  obtain ⟨q, _, rfl⟩ := List.mem_map.1 hp
  simp only [cutP, cutE, List.length_take]
  omega

/-- each stands behind just those ahead of it -/
theorem cnt_own {es : List EnB} (h : riseB es = true) {i : Nat} (hi : i < es.length) : cntE es es[i] = i := by
  refine cnt_split (by omega) (fun x hx hxi => ?_) (fun x hx hix => ?_)
  · unfold ltE
    exact decide_eq_true (rise_lt h x i hi hxi)
  · unfold ltE
    refine decide_eq_false ?_
    rcases Nat.lt_or_ge i x with h1 | h1
    · have h2 := rise_lt h i x hx h1
      have h3 := cmpE_neg es[i] es[x]
      omega
    · have : x = i := by omega
      subst this
      have h3 := cmpE_neg es[x] es[x]
      omega

end Go.Proofs.Ytekmlbbfipldoaa

/- Two lists side by side; what is inserted, in whatever order; names seen, as a map. -/
namespace Go.Proofs.Ytekmlbbfipldoaa
open Go.RowKit Go.Shelf Go.Maps Go.WideShapes
set_option linter.unusedVariables false

theorem insT_perm (ts : List Tow) (c : Nat) (T : Tow) : (esT (insT ts c T)).Perm (T.e :: esT ts) := by
  unfold esT insT
  rw [List.map_append, List.map_cons]
  refine List.perm_middle.trans (List.Perm.cons _ ?_)
  rw [← List.map_append, List.take_append_drop]

theorem rise_pw {es : List EnB} (h : riseB es = true) : es.Pairwise (fun a b => cmpE a b < 0) :=
  List.pairwise_iff_getElem.2 (fun i j hi hj hij => rise_lt h i j hj hij)

/-- what rises stands in one order alone -/
theorem rise_unique {es fs : List EnB} (ha : riseB es = true) (hb : riseB fs = true) (hp : es.Perm fs) : es = fs :=
  List.Perm.eq_of_pairwise (le := fun a b => cmpE a b < 0) (fun a b _ _ h1 h2 => by have := cmpE_neg a b; omega) (rise_pw ha) (rise_pw hb) hp

theorem NodeAt.keeps {F : Nat → Prop} {w w' : World} {b hh : Nat} {rest : List Tow} (h : NodeAt w b hh rest) (hk : Keeps F w w') (hF : ¬ F b) : NodeAt w' b hh rest := by
  have e := hk.block b h.lt hF
  refine ⟨fun r hr => hk.cell (p := ⟨b, 4 + r, none⟩) hF (h.cel r hr), fun r hr => ?_, by rw [e]; exact h.blk⟩
  have h1 := h.frz r hr
  unfold World.frozen? at h1 ⊢
  rw [e]
  exact h1

theorem rd_keep {F : Nat → Prop} {w w' : World} {x : Value} {l : List UInt8} (h : Rd w x l) (hk : Keeps F w w') (hF : ∀ q, x.ownBlock = some q → ¬ F q) : Rd w' x l := by
  rcases h with h | ⟨b, off, cap, rfl, h1, h2, h3⟩
  · exact .inl h
  · exact .inr ⟨b, off, cap, rfl, h1, h2, fun j u hu => hk.cell (p := ⟨b, off + j, none⟩) (hF b rfl) (h3 j u hu)⟩

/-- a list stays while other blocks are written -/
theorem SkAt.keeps {F : Nat → Prop} {w w' : World} {l : Nat} {ts : List Tow} (h : SkAt w l ts) (hk : Keeps F w w') (h0 : ¬ F l) (hb : ∀ t ∈ ts, ¬ F t.b) (hxy : ∀ t ∈ ts, (∀ q, t.x.ownBlock = some q → ¬ F q) ∧ (∀ q, t.y.ownBlock = some q → ¬ F q)) : SkAt w' l ts := by
  refine ⟨fun a ha => (h.nod a ha).keeps hk ?_, fun t ht => ?_, h.inj, h.ht, h.out, h.ris, h.len, fun t ht => ⟨(h.inn t ht).1.grow hk.size, (h.inn t ht).2.grow hk.size⟩⟩
  · rcases nb_cases (l := l) ha with e | ⟨t, ht, e⟩
    · rw [e]; exact h0
    · rw [e]; exact hb t ht
  · have e := h.ent t ht
    have hf := hb t ht
    exact ⟨⟨hk.cell (p := ⟨t.b, 0, none⟩) hf e.bx.c0, hk.cell (p := ⟨t.b, 1, none⟩) hf e.bx.c1, hk.cell (p := ⟨t.b, 2, none⟩) hf e.bx.c2, hk.cell (p := ⟨t.b, 3, none⟩) hf e.bx.c3⟩, rd_keep e.rx hk (hxy t ht).1, rd_keep e.ry hk (hxy t ht).2⟩

/-- so many are in; what they hold is the list's own -/
structure Fill2 (w wf : World) (l : Nat) (j : Nat) (wr : World) (ts : List Tow) : Prop where
  fi : Fill w wf l j wr ts
  xy : ∀ t ∈ ts, From wf.heap.size t.x ∧ From wf.heap.size t.y

theorem Fill2.start {w wf : World} {l : Nat} (hS : SkAt wf l []) (hb : Below w.heap.size w wf) : Fill2 w wf l 0 wf [] :=
  ⟨⟨hS, fun t ht => by simp at ht, Nat.le_refl _, fun t ht => by simp at ht, Keeps.refl _ _, hb, fun t ht => by simp at ht⟩, fun t ht => by simp at ht⟩

theorem Fill2.below {w wf wr w' : World} {l j : Nat} {ts : List Tow} (h : Fill2 w wf l j wr ts) (hb : Below wr.heap.size wr w') : Fill2 w wf l j w' ts := ⟨h.fi.below hb, h.xy⟩

/-- one that isn't there yet is put in, or it is refused, whatever its height is -/
theorem Fill2.ins {w wf wr w' : World} {l j : Nat} {ts : List Tow} {e : EnB} {hh : Int} {o : Ending} (h : Fill2 w wf l j wr ts) (hl : w.heap.size ≤ l) (hwf : w.heap.size ≤ wf.heap.size) (he : e.1.length ≤ 80 ∧ e.2.2.2.length ≤ 600) (hp : InsPost2 l ts e hh wr w' o) :
    ∃ c ts', o = .returned (.int .i64 c) ∧ Fill2 w wf l (j + 1) w' ts' ∧ ((chkSk e hh = 0 ∧ anyE (esT ts) e = false ∧ c = 0 ∧ ∃ T : Tow, T.e = e ∧ (T.h : Int) = hh ∧ (wr.heap.size ≤ T.b ∧ From wr.heap.size T.x ∧ From wr.heap.size T.y) ∧ ts' = insT ts (cntE (esT ts) e) T) ∨ (chkSk e hh = 0 ∧ anyE (esT ts) e = true ∧ c = 7 ∧ ts' = ts) ∨ (¬ chkSk e hh = 0 ∧ c = chkSk e hh ∧ ts' = ts)) := by
  rcases hp with ⟨hn, ho, hb⟩ | ⟨hck, hany, ho, hb⟩ | ⟨hck, hany, ho, T, hTe, hTh, hTb, hS, hk⟩
  · have h' := (h.below hb).fi
    exact ⟨_, ts, ho, ⟨⟨h'.sk, h'.len, Nat.le_succ_of_le h'.cnt, h'.tow, h'.kp, h'.be, h'.ok⟩, h.xy⟩, .inr (.inr ⟨hn, rfl, rfl⟩)⟩
  · have h' := (h.below hb).fi
    exact ⟨_, ts, ho, ⟨⟨h'.sk, h'.len, Nat.le_succ_of_le h'.cnt, h'.tow, h'.kp, h'.be, h'.ok⟩, h.xy⟩, .inr (.inl ⟨hck, hany, rfl, rfl⟩)⟩
  · have hc : cntE (esT ts) e ≤ ts.length := by
      have h9 : cntE (esT ts) e ≤ (esT ts).length := List.countP_le_length
      rwa [esT_len] at h9
    have hg := h.fi.kp.size
    refine ⟨_, _, ho, ⟨⟨hS, fun t ht => ?_, ?_, fun t ht => ?_, h.fi.kp.trans (hk.mono (fun i ⟨a, ha, e⟩ => ?_)), h.fi.be.trans (hk.below (fun i ⟨a, ha, e⟩ => ?_) h.fi.be.size), fun t ht => ?_⟩, fun t ht => ?_⟩, .inl ⟨hck, hany, rfl, T, hTe, hTh, hTb, rfl⟩⟩
    · rcases insT_mem ht with rfl | ht
      · rw [hTe]; omega
      · exact h.fi.len t ht
    · rw [insT_len hc]; have := h.fi.cnt; omega
    · rcases insT_mem ht with rfl | ht
      · exact Nat.le_trans hg hTb.1
      · exact h.fi.tow t ht
    · rcases nb_cases (l := l) ha with h1 | ⟨t, ht, h1⟩
      · exact .inl (e.trans h1)
      · exact .inr (by rw [e, h1]; exact h.fi.tow t ht)
    · rcases nb_cases (l := l) ha with h1 | ⟨t, ht, h1⟩
      · rw [e, h1]; exact hl
      · rw [e, h1]; exact Nat.le_trans hwf (h.fi.tow t ht)
    · rcases insT_mem ht with rfl | ht
      · rw [hTe]; exact ⟨chkSk_key hck, he⟩
      · exact h.fi.ok t ht
    · rcases insT_mem ht with rfl | ht
      · exact ⟨fun a n c e => Nat.le_trans hg (hTb.2.1 a n c e), fun a n c e => Nat.le_trans hg (hTb.2.2 a n c e)⟩
      · exact h.xy t ht

theorem own_from {B : Nat} {v : Value} (h : From B v) {q : Nat} (hq : v.ownBlock = some q) : B ≤ q := by
  cases v with
  | slice a n c =>
    cases a with
    | none => simp [Value.ownBlock] at hq
    | some a =>
      have h9 := h a n c rfl
      simp only [Value.ownBlock, Option.some.injEq] at hq
      omega
  | _ => simp [Value.ownBlock] at hq

/-- a list that is full stays while another one is filled behind it -/
theorem Fill2.stays {w wf wr w' : World} {l j m : Nat} {ts : List Tow} (h : Fill2 w wf l j wr ts) (hk : Keeps (fun i => i = m ∨ wr.heap.size ≤ i) wr w') (hm : m ≠ l) (hmf : m < wf.heap.size) : SkAt w' l ts := by
  refine h.fi.sk.keeps hk ?_ (fun t ht => ?_) (fun t ht => ⟨fun q hq => ?_, fun q hq => ?_⟩)
  · rintro (e | e)
    · exact hm e.symm
    · have := (h.fi.sk.nod 0 (Nat.zero_le _)).lt
      have e2 : nb l ts 0 = l := rfl
      rw [e2] at this
      omega
  · rintro (e | e)
    · have := h.fi.tow t ht; omega
    · obtain ⟨i, hi, rfl⟩ := List.getElem_of_mem ht
      have := (h.fi.sk.nod (i + 1) (by omega)).lt
      rw [nb_succ l hi] at this
      omega
  · have h1 := own_from (h.xy t ht).1 hq
    have h2 := (h.fi.sk.inn t ht).1 q hq
    omega
  · have h1 := own_from (h.xy t ht).2 hq
    have h2 := (h.fi.sk.inn t ht).2 q hq
    omega

/-- the height plays no part -/
theorem chkSk_en {e : EnB} {h : Int} (h1 : 1 ≤ h) (h8 : h ≤ 8) : chkSk e h = chkEn e := by
  unfold chkSk chkEn
  simp [h1, h8]

def okE (e : EnB) : Bool := decide (chkEn e = 0)

theorem anyE_no {es : List EnB} {e : EnB} (h : ∀ x ∈ es, kyE x ≠ kyE e) : anyE es e = false := by
  unfold anyE
  rw [List.any_eq_false]
  intro x hx hs
  unfold sameE at hs
  obtain ⟨e1, e2, e3⟩ := of_decide_eq_true hs
  refine h x hx ?_
  unfold kyE
  rw [e1, show x.2.1 = e.2.1 by omega, show x.2.2.1 = e.2.2.1 from UInt8.toNat_inj.1 (by omega)]

/-- one more, of those that are alike by no version -/
theorem ins_perm {ts ts' : List Tow} {e : EnB} {hh c : Int} {L : List EnB} {wr : World} (h1 : 1 ≤ hh) (h8 : hh ≤ 8) (hp : (esT ts).Perm (L.filter okE)) (hd : ∀ x ∈ L, kyE x ≠ kyE e)
    (hi : (chkSk e hh = 0 ∧ anyE (esT ts) e = false ∧ c = 0 ∧ ∃ T : Tow, T.e = e ∧ (T.h : Int) = hh ∧ (wr.heap.size ≤ T.b ∧ From wr.heap.size T.x ∧ From wr.heap.size T.y) ∧ ts' = insT ts (cntE (esT ts) e) T) ∨ (chkSk e hh = 0 ∧ anyE (esT ts) e = true ∧ c = 7 ∧ ts' = ts) ∨ (¬ chkSk e hh = 0 ∧ c = chkSk e hh ∧ ts' = ts)) :
    (esT ts').Perm ((e :: L).filter okE) := by
  have hno : anyE (esT ts) e = false := anyE_no (fun x hx => hd x (List.mem_filter.1 (hp.mem_iff.1 hx)).1)
  rcases hi with ⟨hck, _, _, T, hTe, _, _, rfl⟩ | ⟨_, hany, _⟩ | ⟨hn, _, rfl⟩
  · rw [chkSk_en h1 h8] at hck
    rw [List.filter_cons_of_pos (by unfold okE; exact decide_eq_true hck)]
    refine (insT_perm _ _ _).trans ?_
    rw [hTe]
    exact hp.cons _
  · rw [hno] at hany; cases hany
  · rw [chkSk_en h1 h8] at hn
    rw [List.filter_cons_of_neg (by unfold okE; simpa using hn)]
    exact hp

/-- the name that a version is seen by -/
def nameE (k : KyT) : List UInt8 := k.1 ++ [0, UInt8.ofNat (k.2.1 % 256), UInt8.ofNat (k.2.1 / 256 % 256), k.2.2]

/-- the names that were seen -/
structure Seen (w : World) (m n : Nat) (O : List EnB) (D : DataW Unit) : Prop where
  mp : w.ownsMap Try.prog 9 (plainElem Try.prog 4) m n D
  at_ : ∀ l : List UInt8, D.atKey (.string l) (.lit (.bool false)) = .lit (.bool (decide (l ∈ O.map (fun e => nameE (kyE e)))))
  nd : (O.map (fun e => nameE (kyE e))).Nodup

theorem plainElem_bool_inv {H : Type} {P : Program} {e : TypeId} (he : P.underlying e = some .bool) {v : Value} {z : DataW H × List MemPlace} (h : plainElem P e v = some z) : ∃ b, v = .bool b ∧ z = (.lit (.bool b), []) := by
  unfold plainElem at h
  rw [he] at h
  cases v <;> simp at h
  exact ⟨_, rfl, h.symm⟩

theorem nm_key {s : ByteArray} {l : List UInt8} (hs : s.data.toList = l) (hl : l.length ≤ 1000000) : keyOf Try.prog 9 (.string s) = some (.string l) := by
  have hsz : s.size ≤ maxLen := by
    have e : s.size = l.length := by rw [← hs, Array.length_toList]; rfl
    unfold maxLen
    omega
  subst hs
  exact WideMaps.keyOf_string_mk Try.underlying9 hsz

theorem zero_bool (w : World) : (zeroValue 4).run Try.prog w = .ok (.bool false) w := by kernel_rfl

theorem Seen.look {w : World} {m n : Nat} {O : List EnB} {D : DataW Unit} (h : Seen w m n O D) (s : ByteArray) (l : List UInt8) (hs : s.data.toList = l) (hl : l.length ≤ 1000000) :
    (Instr.lookup 56 (.map (some m)) (.string s) false).run Try.prog w = .ok (.bool (decide (l ∈ O.map (fun e => nameE (kyE e))))) w := by
  obtain ⟨v, ps, hrun, hv⟩ := h.mp.lookup (string_keyed Try.underlying9) Try.underlying56 (zero_bool w) (plainElem_bool Try.underlying4 false) (key := .string s) (kl := .string l) (nm_key hs hl)
  rw [h.at_ l] at hv
  obtain ⟨b, rfl, hz⟩ := plainElem_bool_inv Try.underlying4 hv
  simp only [Prod.mk.injEq, DataW.lit.injEq, Lit.bool.injEq] at hz
  rw [hrun, hz.1]

theorem Seen.made (w : World) : Seen (w.alloc (.map #[] 0)) w.heap.size 0 [] (.map []) :=
  ⟨World.ownsMap_made _ _ _ _, fun l => by simp [DataW.atKey], by simp⟩

theorem Seen.put {w w' : World} {m n : Nat} {O : List EnB} {D : DataW Unit} {e : EnB} (h : Seen w m n O D) (hn : nameE (kyE e) ∉ O.map (fun e => nameE (kyE e))) (hm : w'.ownsMap Try.prog 9 (plainElem Try.prog 4) m (n + 1) (D.put (.string (nameE (kyE e))) (.lit (.bool true)))) :
    Seen w' m (n + 1) (O ++ [e]) (D.put (.string (nameE (kyE e))) (.lit (.bool true))) := by
  refine ⟨hm, fun l => ?_, ?_⟩
  · by_cases hl : l = nameE (kyE e)
    · subst hl
      rw [atKey_put_same h.mp.isMap (k := .string (nameE (kyE e))) (by simp [WideAt.IsKeyLit])]
      simp
    · rw [atKey_put_other (fun he => hl (by injection he))]
      rw [h.at_ l]
      simp [hl]
  · rw [List.map_append, List.nodup_append]
    exact ⟨h.nd, by simp, fun a ha b hb => by
      simp at hb
      subst hb
      exact fun e2 => hn (e2 ▸ ha)⟩

theorem Seen.kept {w w' : World} {m n : Nat} {O : List EnB} {D : DataW Unit} {row : Option Nat} (h : Seen w m n O D) (hg : w.grownBy w' row) (hne : some m ≠ row) : Seen w' m n O D := ⟨h.mp.kept hg hne, h.at_, h.nd⟩

theorem Seen.below {w w' : World} {m n : Nat} {O : List EnB} {D : DataW Unit} (h : Seen w m n O D) (hb : Below w.heap.size w w') : Seen w' m n O D := by
  have hlt := h.mp.lt
  obtain ⟨es, clock, hb2, F, hs, hD⟩ := h.mp
  exact ⟨⟨es, clock, by rw [hb.block m hlt]; exact hb2, F, hs, hD⟩, h.at_, h.nd⟩

/-- names that are apart are versions that are -/
theorem names_apart {O : List EnB} (h : (O.map (fun e => nameE (kyE e))).Nodup) : O.Pairwise (fun a b => kyE a ≠ kyE b) := by
  have h1 := List.pairwise_map.1 h
  exact h1.imp (fun h2 e => h2 (by rw [e]))

/-- entries in a row of one's own; what they hold was there in the world wf -/
def OnceR (B : Nat) (wf w : World) (v : Value) (O : List EnB) : Prop :=
  ∃ cs, w.ownsRow B 38 4 v O.length cs ∧ ∀ j (h : j < O.length), ∃ x y, cs[j * 4]? = some x ∧ cs[j * 4 + 1]? = some (.int .u64 (O[j].2.1 : Int)) ∧ cs[j * 4 + 2]? = some (.int .u8 (O[j].2.2.1.toNat : Int)) ∧ cs[j * 4 + 3]? = some y ∧ Rd wf x O[j].1 ∧ Rd wf y O[j].2.2.2

theorem OnceR.nil (B : Nat) (wf w : World) : OnceR B wf w (.slice none 0 0) [] := ⟨[], World.ownsRow_nil _ _ _ _, fun _ h => absurd h (Nat.not_lt_zero _)⟩

theorem OnceR.keeps {B : Nat} {F : Nat → Prop} {wf w w' : World} {v : Value} {O : List EnB} (h : OnceR B wf w v O) (hk : Keeps F w w') (hF : ∀ i, F i → i < B ∨ w.heap.size ≤ i) : OnceR B wf w' v O := by
  obtain ⟨cs, hr, hj⟩ := h
  exact ⟨cs, row_keeps hr hk hF, hj⟩

theorem OnceR.below {B : Nat} {wf w w' : World} {v : Value} {O : List EnB} (h : OnceR B wf w v O) (hb : Below w.heap.size w w') : OnceR B wf w' v O := by
  obtain ⟨cs, hr, hj⟩ := h
  exact ⟨cs, row_below hr hb, hj⟩

theorem OnceR.rd {B : Nat} {wf w : World} {v : Value} {O : List EnB} (h : OnceR B wf w v O) (hb : Below wf.heap.size wf w) : RdE w v O := by
  obtain ⟨cs, hr, hj⟩ := h
  have hr2 := hr
  rcases hr.2 with ⟨e, hn⟩ | ⟨g, cap, cur, e, hb0, hg, h1, h2, h3, h4⟩
  · exact ⟨none, 0, by rw [e, hn], by omega, Nat.zero_le _, fun j hj => by omega⟩
  · subst e
    refine ⟨_, cap, rfl, h1, h2, fun j h => ⟨g, 0, rfl, ?_⟩⟩
    obtain ⟨x, y, c0, c1, c2, c3, ox, oy⟩ := hj j h
    have hc := hr2.cells (g := g) rfl
    refine ⟨x, y, ?_, ?_, ?_, ?_, ox.below hb (Nat.le_refl _), oy.below hb (Nat.le_refl _)⟩
    · have := hc _ _ c0; rwa [Addr.add_lit] at this
    · have := hc _ _ c1; rwa [Addr.add_lit] at this
    · have := hc _ _ c2; rwa [Addr.add_lit] at this
    · have := hc _ _ c3; rwa [Addr.add_lit] at this

theorem OnceR.push {B g c n : Nat} {wf w' : World} {x y : Value} {O : List EnB} {cs : List Value} (o : EnB) (hl : O.length = n) (hcl : cs.length = n * 4)
    (hel : ∀ j (h : j < O.length), ∃ x y, cs[j * 4]? = some x ∧ cs[j * 4 + 1]? = some (.int .u64 (O[j].2.1 : Int)) ∧ cs[j * 4 + 2]? = some (.int .u8 (O[j].2.2.1.toNat : Int)) ∧ cs[j * 4 + 3]? = some y ∧ Rd wf x O[j].1 ∧ Rd wf y O[j].2.2.2)
    (hx : Rd wf x o.1) (hy : Rd wf y o.2.2.2) (hn : w'.ownsRow B 38 4 (.slice (some ⟨g, 0, none⟩) (n + 1) c) (n + 1) (cs ++ [x, .int .u64 (o.2.1 : Int), .int .u8 (o.2.2.1.toNat : Int), y])) : OnceR B wf w' (.slice (some ⟨g, 0, none⟩) (n + 1) c) (O ++ [o]) := by
  subst hl
  refine ⟨_, by rw [List.length_append]; exact hn, fun j h => ?_⟩
  by_cases hj : j < O.length
  · obtain ⟨x', y', c0, c1, c2, c3, ox, oy⟩ := hel j hj
    refine ⟨x', y', ?_, ?_, ?_, ?_, ?_, ?_⟩
    · rw [List.getElem?_append_left (by omega)]; exact c0
    · rw [List.getElem?_append_left (by omega), List.getElem_append_left hj]; exact c1
    · rw [List.getElem?_append_left (by omega), List.getElem_append_left hj]; exact c2
    · rw [List.getElem?_append_left (by omega)]; exact c3
    · rw [List.getElem_append_left hj]; exact ox
    · rw [List.getElem_append_left hj]; exact oy
  · have hje : j = O.length := by rw [List.length_append] at h; simp at h; omega
    subst hje
    have e : (O ++ [o])[O.length]'h = o := by simp
    rw [e]
    refine ⟨x, y, ?_, ?_, ?_, ?_, hx, hy⟩
    · rw [List.getElem?_append_right (by omega), show O.length * 4 - cs.length = 0 by omega]; rfl
    · rw [List.getElem?_append_right (by omega), show O.length * 4 + 1 - cs.length = 1 by omega]; rfl
    · rw [List.getElem?_append_right (by omega), show O.length * 4 + 2 - cs.length = 2 by omega]; rfl
    · rw [List.getElem?_append_right (by omega), show O.length * 4 + 3 - cs.length = 3 by omega]; rfl

end Go.Proofs.Ytekmlbbfipldoaa

/- bartizanref08's list: entries and heights. -/
namespace Go.Proofs.Ytekmlbbfipldoaa
open Go.RowKit Go.Shelf
set_option linter.unusedVariables false

/-- the cells of entries; what holds of their texts -/
def CellsR (R : Value → List UInt8 → Prop) (cs : List Value) (es : List EnB) : Prop :=
  cs.length = es.length * 4 ∧ ∀ j (h : j < es.length), ∃ x y, cs[j * 4]? = some x ∧ cs[j * 4 + 1]? = some (.int .u64 (es[j].2.1 : Int)) ∧ cs[j * 4 + 2]? = some (.int .u8 (es[j].2.2.1.toNat : Int)) ∧ cs[j * 4 + 3]? = some y ∧ R x es[j].1 ∧ R y es[j].2.2.2

theorem CellsR.nil (R : Value → List UInt8 → Prop) : CellsR R [] [] := ⟨rfl, fun j h => absurd h (Nat.not_lt_zero _)⟩

theorem CellsR.append {R : Value → List UInt8 → Prop} {cs ds : List Value} {es fs : List EnB} (h : CellsR R cs es) (h2 : CellsR R ds fs) : CellsR R (cs ++ ds) (es ++ fs) := by
  obtain ⟨hl, hj⟩ := h
  obtain ⟨hl2, hj2⟩ := h2
  refine ⟨by rw [List.length_append, List.length_append, hl, hl2]; omega, fun j hjl => ?_⟩
  by_cases hh : j < es.length
  · obtain ⟨x, y, c0, c1, c2, c3, rx, ry⟩ := hj j hh
    refine ⟨x, y, ?_, ?_, ?_, ?_, ?_, ?_⟩
    · rw [List.getElem?_append_left (by omega)]; exact c0
    · rw [List.getElem?_append_left (by omega), List.getElem_append_left hh]; exact c1
    · rw [List.getElem?_append_left (by omega), List.getElem_append_left hh]; exact c2
    · rw [List.getElem?_append_left (by omega)]; exact c3
    · rw [List.getElem_append_left hh]; exact rx
    · rw [List.getElem_append_left hh]; exact ry
  · have hk : j - es.length < fs.length := by rw [List.length_append] at hjl; omega
    obtain ⟨x, y, c0, c1, c2, c3, rx, ry⟩ := hj2 (j - es.length) hk
    refine ⟨x, y, ?_, ?_, ?_, ?_, ?_, ?_⟩
    · rw [List.getElem?_append_right (by omega), show j * 4 - cs.length = (j - es.length) * 4 by omega]; exact c0
    · rw [List.getElem?_append_right (by omega), List.getElem_append_right (by omega), show j * 4 + 1 - cs.length = (j - es.length) * 4 + 1 by omega]; exact c1
    · rw [List.getElem?_append_right (by omega), List.getElem_append_right (by omega), show j * 4 + 2 - cs.length = (j - es.length) * 4 + 2 by omega]; exact c2
    · rw [List.getElem?_append_right (by omega), show j * 4 + 3 - cs.length = (j - es.length) * 4 + 3 by omega]; exact c3
    · rw [List.getElem_append_right (by omega)]; exact rx
    · rw [List.getElem_append_right (by omega)]; exact ry

theorem CellsR.take {R : Value → List UInt8 → Prop} {cs : List Value} {es : List EnB} (h : CellsR R cs es) (k : Nat) (hk : k ≤ es.length) : CellsR R (cs.take (k * 4)) (es.take k) := by
  obtain ⟨hl, hj⟩ := h
  have htl : (es.take k).length = k := by rw [List.length_take]; omega
  refine ⟨by rw [List.length_take, htl]; omega, fun j hjl => ?_⟩
  rw [htl] at hjl
  obtain ⟨x, y, c0, c1, c2, c3, rx, ry⟩ := hj j (by omega)
  refine ⟨x, y, ?_, ?_, ?_, ?_, ?_, ?_⟩
  · rw [List.getElem?_take_of_lt (by omega)]; exact c0
  · rw [List.getElem?_take_of_lt (by omega), List.getElem_take]; exact c1
  · rw [List.getElem?_take_of_lt (by omega), List.getElem_take]; exact c2
  · rw [List.getElem?_take_of_lt (by omega)]; exact c3
  · rw [List.getElem_take]; exact rx
  · rw [List.getElem_take]; exact ry

theorem CellsR.drop {R : Value → List UInt8 → Prop} {cs : List Value} {es : List EnB} (h : CellsR R cs es) (k : Nat) (hk : k ≤ es.length) : CellsR R (cs.drop (k * 4)) (es.drop k) := by
  obtain ⟨hl, hj⟩ := h
  refine ⟨by rw [List.length_drop, List.length_drop]; omega, fun j hjl => ?_⟩
  rw [List.length_drop] at hjl
  obtain ⟨x, y, c0, c1, c2, c3, rx, ry⟩ := hj (k + j) (by omega)
  refine ⟨x, y, ?_, ?_, ?_, ?_, ?_, ?_⟩
  · rw [List.getElem?_drop, show k * 4 + j * 4 = (k + j) * 4 by omega]; exact c0
  · rw [List.getElem?_drop, List.getElem_drop, show k * 4 + (j * 4 + 1) = (k + j) * 4 + 1 by omega]; exact c1
  · rw [List.getElem?_drop, List.getElem_drop, show k * 4 + (j * 4 + 2) = (k + j) * 4 + 2 by omega]; exact c2
  · rw [List.getElem?_drop, show k * 4 + (j * 4 + 3) = (k + j) * 4 + 3 by omega]; exact c3
  · rw [List.getElem_drop]; exact rx
  · rw [List.getElem_drop]; exact ry

theorem CellsR.one {R : Value → List UInt8 → Prop} {x y : Value} (e : EnB) (hx : R x e.1) (hy : R y e.2.2.2) : CellsR R [x, .int .u64 (e.2.1 : Int), .int .u8 (e.2.2.1.toNat : Int), y] [e] :=
  ⟨rfl, fun j h => by
    obtain rfl : j = 0 := by simp at h; exact h
    exact ⟨x, y, rfl, rfl, rfl, rfl, hx, hy⟩⟩

theorem CellsR.ones {R : Value → List UInt8 → Prop} {cs : List Value} {es : List EnB} (hR : ∀ x l, R x l → x.oneCell' = true) (h : CellsR R cs es) : ∀ u ∈ cs, u.oneCell' = true := by
  intro u hu
  obtain ⟨i, hi, rfl⟩ := List.getElem_of_mem hu
  have hj : i / 4 < es.length := by have := h.1; omega
  obtain ⟨x, y, c0, c1, c2, c3, rx, ry⟩ := h.2 (i / 4) hj
  have h4 : i % 4 = 0 ∨ i % 4 = 1 ∨ i % 4 = 2 ∨ i % 4 = 3 := by omega
  have hg := List.getElem?_eq_getElem hi
  rcases h4 with h | h | h | h
  · rw [show i / 4 * 4 = i by omega, hg] at c0; rw [Option.some.inj c0]; exact hR _ _ rx
  · rw [show i / 4 * 4 + 1 = i by omega, hg] at c1; rw [Option.some.inj c1]; rfl
  · rw [show i / 4 * 4 + 2 = i by omega, hg] at c2; rw [Option.some.inj c2]; rfl
  · rw [show i / 4 * 4 + 3 = i by omega, hg] at c3; rw [Option.some.inj c3]; exact hR _ _ ry

theorem CellsR.imp {R R' : Value → List UInt8 → Prop} {cs : List Value} {es : List EnB} (h : CellsR R cs es) (hR : ∀ x l, R x l → R' x l) : CellsR R' cs es :=
  ⟨h.1, fun j hj => by
    obtain ⟨x, y, c0, c1, c2, c3, rx, ry⟩ := h.2 j hj
    exact ⟨x, y, c0, c1, c2, c3, hR _ _ rx, hR _ _ ry⟩⟩

/-- bytes that are read; they lie in blocks of G -/
def RdG (G : Nat → Prop) (w : World) (x : Value) (l : List UInt8) : Prop := Rd w x l ∧ ∀ q, x.ownBlock = some q → G q

theorem RdG.below {G : Nat → Prop} {w w' : World} {x : Value} {l : List UInt8} (h : RdG G w x l) (hb : Below w.heap.size w w') : RdG G w' x l := ⟨h.1.below hb (Nat.le_refl _), h.2⟩
theorem RdG.mono {G G' : Nat → Prop} {w : World} {x : Value} {l : List UInt8} (h : RdG G w x l) (hG : ∀ i, G i → G' i) : RdG G' w x l := ⟨h.1, fun q hq => hG q (h.2 q hq)⟩
theorem RdG.keeps {G F : Nat → Prop} {w w' : World} {x : Value} {l : List UInt8} (h : RdG G w x l) (hk : Keeps F w w') (hGF : ∀ i, G i → ¬ F i) : RdG G w' x l := ⟨rd_keep h.1 hk (fun q hq => hGF q (h.2 q hq)), h.2⟩
theorem rdG_one {G : Nat → Prop} {w : World} {x : Value} {l : List UInt8} (h : RdG G w x l) : x.oneCell' = true := by
  obtain ⟨a, c, rfl⟩ := h.1.len; rfl

/-- entries in a row; all of it in blocks of G -/
def RowL (G : Nat → Prop) (w : World) (v : Value) (L : List EnB) : Prop :=
  (∀ q, v.ownBlock = some q → G q) ∧ ∃ cs, w.ownsRow 0 38 4 v L.length cs ∧ CellsR (RdG G w) cs L

def zv (H : List Int) : List Value := H.map (fun z => Value.int .i64 z)

/-- heights in a row, in a block of G -/
def RowH (G : Nat → Prop) (w : World) (v : Value) (H : List Int) : Prop :=
  (∀ q, v.ownBlock = some q → G q) ∧ w.ownsRow 0 3 1 v H.length (zv H)

theorem row_keeps0 {n s : Nat} {e : TypeId} {cs : List Value} {F G : Nat → Prop} {w w' : World} {v : Value} (h : w.ownsRow 0 e s v n cs) (hG : ∀ q, v.ownBlock = some q → G q) (hk : Keeps F w w') (hGF : ∀ i, G i → ¬ F i) : w'.ownsRow 0 e s v n cs := by
  refine ⟨h.1, ?_⟩
  rcases h.2 with h | ⟨g, cap, cur, e1, hb, hg, r⟩
  · exact .inl h
  · have hlt := (Array.getElem?_eq_some_iff.1 hg).1
    refine .inr ⟨g, cap, cur, e1, hb, ?_, r⟩
    rw [hk.block g hlt (hGF g (hG g (by rw [e1]; rfl)))]
    exact hg

theorem RowL.keeps {G F : Nat → Prop} {w w' : World} {v : Value} {L : List EnB} (h : RowL G w v L) (hk : Keeps F w w') (hGF : ∀ i, G i → ¬ F i) : RowL G w' v L := by
  obtain ⟨hg, cs, hr, hc⟩ := h
  exact ⟨hg, cs, row_keeps0 hr hg hk hGF, hc.imp (fun x l hx => hx.keeps hk hGF)⟩

theorem RowH.keeps {G F : Nat → Prop} {w w' : World} {v : Value} {H : List Int} (h : RowH G w v H) (hk : Keeps F w w') (hGF : ∀ i, G i → ¬ F i) : RowH G w' v H := ⟨h.1, row_keeps0 h.2 h.1 hk hGF⟩

theorem RowL.mono {G G' : Nat → Prop} {w : World} {v : Value} {L : List EnB} (h : RowL G w v L) (hG : ∀ i, G i → G' i) : RowL G' w v L := by
  obtain ⟨hg, cs, hr, hc⟩ := h
  exact ⟨fun q hq => hG q (hg q hq), cs, hr, hc.imp (fun x l hx => hx.mono hG)⟩

theorem RowH.mono {G G' : Nat → Prop} {w : World} {v : Value} {H : List Int} (h : RowH G w v H) (hG : ∀ i, G i → G' i) : RowH G' w v H := ⟨fun q hq => hG q (h.1 q hq), h.2⟩

theorem RowL.rd {G : Nat → Prop} {w : World} {v : Value} {L : List EnB} (h : RowL G w v L) : RdE w v L := by
  obtain ⟨_, cs, hr, hj⟩ := h
  have hr2 := hr
  rcases hr.2 with ⟨e, hn⟩ | ⟨g, cap, cur, e, hb', hg, h1, h2, h3, h4⟩
  · exact ⟨none, 0, by rw [e, hn], by omega, Nat.zero_le _, fun j hj => by omega⟩
  · subst e
    refine ⟨_, cap, rfl, h1, h2, fun j h => ⟨g, 0, rfl, ?_⟩⟩
    obtain ⟨x, y, c0, c1, c2, c3, ox, oy⟩ := hj.2 j h
    have hc := hr2.cells (g := g) rfl
    refine ⟨x, y, ?_, ?_, ?_, ?_, ox.1, oy.1⟩
    · have := hc _ _ c0; rwa [Addr.add_lit] at this
    · have := hc _ _ c1; rwa [Addr.add_lit] at this
    · have := hc _ _ c2; rwa [Addr.add_lit] at this
    · have := hc _ _ c3; rwa [Addr.add_lit] at this

/-- the document's list: where its two rows lie, and what they hold; all of it in blocks of G -/
structure RefAt (G : Nat → Prop) (w : World) (b : Nat) (L : List EnB) (H : List Int) : Prop where
  gb : G b
  len : L.length = H.length
  blk : ∃ ca ty, ty ≠ 5 ∧ w.heap[b]? = some (.cells ca ty (0, 0))
  row : ∃ va vb, w.cell? ⟨b, 0, none⟩ = some va ∧ w.cell? ⟨b, 1, none⟩ = some vb ∧ RowL (fun i => G i ∧ i ≠ b) w va L ∧ RowH (fun i => G i ∧ i ≠ b) w vb H

theorem RefAt.keeps {G F : Nat → Prop} {w w' : World} {b : Nat} {L : List EnB} {H : List Int} (h : RefAt G w b L H) (hk : Keeps F w w') (hGF : ∀ i, G i → ¬ F i) : RefAt G w' b L H := by
  obtain ⟨va, vb, c0, c1, hl, hh⟩ := h.row
  obtain ⟨ca, ty, ht, hb⟩ := h.blk
  have hn := hGF b h.gb
  exact ⟨h.gb, h.len, ⟨ca, ty, ht, by rw [hk.block b (Array.getElem?_eq_some_iff.1 hb).1 hn]; exact hb⟩, va, vb, hk.cell (p := ⟨b, 0, none⟩) hn c0, hk.cell (p := ⟨b, 1, none⟩) hn c1, hl.keeps hk (fun i hi => hGF i hi.1), hh.keeps hk (fun i hi => hGF i hi.1)⟩

theorem RefAt.mono {G G' : Nat → Prop} {w : World} {b : Nat} {L : List EnB} {H : List Int} (h : RefAt G w b L H) (hG : ∀ i, G i → G' i) : RefAt G' w b L H := by
  obtain ⟨va, vb, c0, c1, hl, hh⟩ := h.row
  exact ⟨hG b h.gb, h.len, h.blk, va, vb, c0, c1, hl.mono (fun i hi => ⟨hG i hi.1, hi.2⟩), hh.mono (fun i hi => ⟨hG i hi.1, hi.2⟩)⟩

theorem RefAt.below {G : Nat → Prop} {w w' : World} {b : Nat} {L : List EnB} {H : List Int} (h : RefAt G w b L H) (hb : Below w.heap.size w w') : RefAt G w' b L H :=
  h.keeps (F := fun _ => False) (Below.keeps hb _) (fun _ _ h => h)

theorem RefAt.new (w : World) (t : TypeId) (ht : t ≠ 5) : RefAt (fun i => i = w.heap.size) (w.alloc (.cells #[.slice none 0 0, .slice none 0 0] t)) w.heap.size [] [] :=
  ⟨rfl, rfl, ⟨_, t, ht, heap_alloc_new w _⟩, .slice none 0 0, .slice none 0 0, by rw [cell_of_row _ _ 0 _ _ _ (heap_alloc_new w _)]; rfl, by rw [cell_of_row _ _ 1 _ _ _ (heap_alloc_new w _)]; rfl, ⟨fun q hq => by simp [Value.ownBlock] at hq, [], World.ownsRow_nil _ _ _ _, CellsR.nil _⟩, ⟨fun q hq => by simp [Value.ownBlock] at hq, World.ownsRow_nil _ _ _ _⟩⟩

theorem sizL_take {es : List EnB} {j : Nat} (h : j < es.length) : sizL (es.take (j + 1)) = sizL (es.take j) + (es[j].1.length + es[j].2.2.2.length + 16) := by
  rw [List.take_succ_eq_append_getElem h]
  unfold sizL
  rw [List.map_append, List.sum_append]
  simp [sizE]

set_option maxHeartbeats 2000000 in
theorem r8size_any (w : World) (v : Value) (es : List EnB) (hv : RdE w v es) (hn : es.length ≤ 1000) (hm : ∀ e ∈ es, e.1.length ≤ 1000 ∧ e.2.2.2.length ≤ 1000) :
    Calls Try.prog 20 #[v] w fun e w' => e = .returned (.int .i64 (sizL es : Int)) ∧ Below w.heap.size w w' := by
  have HV : Hid (RdE w v es) := hv
  obtain ⟨ao, cap, rfl, h1, h2, _⟩ := hv
  unfold maxLen at h2
  have HM : Hid (∀ e ∈ es, e.1.length ≤ 1000 ∧ e.2.2.2.length ≤ 1000) := hm
  obtain ⟨N, hN⟩ : ∃ N, es.length = N := ⟨_, rfl⟩
  have HN : Hid (es.length = N) := hN
  rw [hN] at h1 hn ⊢
  clear hN hm
  go_enter Try.func20, Try.ntmps20
  go_wp2_with fail
  go_loopg [3, 8] N (fun gk sv iv wr => ∃ (j s : Nat), gk + j = N ∧ iv = .int .i64 (j : Int) ∧ sv = .int .i64 (s : Int) ∧ s ≤ j * 2016 ∧ Hid (s = sizL (es.take j)) ∧ Hid (Below w.heap.size w wr))
  case atStart => exact ⟨0, 0, by omega, rfl, rfl, by omega, by show _ = _; simp [sizL], Below.refl _ _⟩
  case round =>
    obtain ⟨j, s, hj, rfl, rfl, hs, HS, HB⟩ := hrel
    by_cases hlt : j < N
    · have hlt2 : j < es.length := by rw [HN.out]; exact hlt
      obtain ⟨_, _, e, _, _, h3⟩ := rdE_below (show RdE w _ es from HV.out) HB.out (Nat.le_refl _)
      cases e
      obtain ⟨b, off, rfl, xv, yv, c0, c1, c2, c3, rx, ry⟩ := h3 j hlt2
      obtain ⟨x1, x2, ex⟩ := rx.len
      obtain ⟨y1, y2, ey⟩ := ry.len
      subst ex ey
      have hbd := HM.out _ (List.getElem_mem hlt2)
      have HSN : Hid (sizL (es.take (j + 1)) = s + (es[j].1.length + es[j].2.2.2.length + 16)) := by
        show _ = _
        rw [HS.out]
        exact sizL_take hlt2
      obtain ⟨q1, q2⟩ : gk - 1 < gk ∧ gk - 1 + (j + 1) = N := by omega
      obtain ⟨⟨ku, ks, kd, kv⟩, ho⟩ : ∃ o, es[j] = o := ⟨_, rfl⟩
      rw [ho] at c0 c1 c2 c3 hbd HSN
      simp only at c0 c1 c2 c3 hbd HSN
      obtain ⟨n1, hn1⟩ : ∃ n, ku.length = n := ⟨_, rfl⟩
      obtain ⟨n2, hn2⟩ : ∃ n, kv.length = n := ⟨_, rfl⟩
      rw [hn1, hn2] at hbd HSN
      rw [hn1] at c0
      rw [hn2] at c3
      have hb0 := below_box4 wr (.cells #[.slice x1 n1 x2, .int .u64 (ks : Int), .int .u8 (kd.toNat : Int), .slice y1 n2 y2] 38)
      have HB0 : Hid (Below w.heap.size w _) := bsplit HB.out hb0
      obtain ⟨z0, z1, z2, z3⟩ := box4_new wr (.slice x1 n1 x2) (.int .u64 (ks : Int)) (.int .u8 (kd.toNat : Int)) (.slice y1 n2 y2) 38
      have hI1 : (n1 : Int) ≤ 1000 := by omega
      have hI2 : (n2 : Int) ≤ 1000 := by omega
      have hI3 : (s : Int) ≤ 2016000 := by omega
      have hs2 : s + (n1 + n2 + 16) ≤ (j + 1) * 2016 := by omega
      clear ho h3 rx ry hb0 hn1 hn2
      go_wp2
      go_roundg (gk - 1)
      case measure => exact q1
      case rel => exact ⟨j + 1, s + (n1 + n2 + 16), q2, by go_num, by go_num, hs2, HSN.out.symm, HB0⟩
    · have hjN : j = N := by omega
      subst hjN
      have HE : Hid (s = sizL es) := by
        have h := HS.out
        rw [← HN.out, List.take_length] at h
        exact h
      go_wp2
      go_ret
      exact ⟨by rw [← HE.out]; rfl, HB.out⟩

end Go.Proofs.Ytekmlbbfipldoaa

/- Versions in a row, read; each row of a list stands within the one below. -/
namespace Go.Proofs.Ytekmlbbfipldoaa
open Go.RowKit Go.Shelf
set_option linter.unusedVariables false

/-- a slice of versions -/
def RdKs (w : World) (v : Value) (ks : List KyT) : Prop :=
  ∃ a cap, v = .slice a ks.length cap ∧ ks.length ≤ cap ∧ cap ≤ maxLen ∧ ∀ j (h : j < ks.length), ∃ b off, a = some ⟨b, off, none⟩ ∧ ∃ x, w.cell? ⟨b, off + j * 3, none⟩ = some x ∧ w.cell? ⟨b, off + j * 3 + 1, none⟩ = some (.int .u64 (ks[j].2.1 : Int)) ∧ w.cell? ⟨b, off + j * 3 + 2, none⟩ = some (.int .u8 (ks[j].2.2.toNat : Int)) ∧ Rd w x ks[j].1

theorem RdKs.below {w w' : World} {v : Value} {ks : List KyT} (h : RdKs w v ks) (hb : Below w.heap.size w w') : RdKs w' v ks := by
  obtain ⟨a, cap, e, h1, h2, h3⟩ := h
  refine ⟨a, cap, e, h1, h2, fun j hj => ?_⟩
  obtain ⟨b, off, e, x, c0, c1, c2, r⟩ := h3 j hj
  exact ⟨b, off, e, x, (hb.cell (p := ⟨b, off + j * 3, none⟩) (World.block_lt_of_cell? _ _ c0)).trans c0, (hb.cell (p := ⟨b, off + j * 3 + 1, none⟩) (World.block_lt_of_cell? _ _ c1)).trans c1, (hb.cell (p := ⟨b, off + j * 3 + 2, none⟩) (World.block_lt_of_cell? _ _ c2)).trans c2, r.below hb (Nat.le_refl _)⟩

theorem OwnKF.rd {B : Nat} {w : World} {v : Value} {ks : List KyT} (h : OwnKF B w v ks) : RdKs w v ks := by
  obtain ⟨cs, hr, hj⟩ := h
  have hr2 := hr
  rcases hr.2 with ⟨e, hn⟩ | ⟨g, cap, cur, e, hb, hg, h1, h2, h3, h4⟩
  · exact ⟨none, 0, by rw [e, hn], by omega, Nat.zero_le _, fun j hj => by omega⟩
  · subst e
    refine ⟨_, cap, rfl, h1, h2, fun j h => ⟨g, 0, rfl, ?_⟩⟩
    obtain ⟨x, c0, c1, c2, ox⟩ := hj j h
    have hc := hr2.cells (g := g) rfl
    refine ⟨x, ?_, ?_, ?_, ox.1⟩
    · have := hc _ _ c0; rwa [Addr.add_lit] at this
    · have := hc _ _ c1; rwa [Addr.add_lit] at this
    · have := hc _ _ c2; rwa [Addr.add_lit] at this

theorem kyE_cmp {a b : EnB} (h : kyE a = kyE b) : ¬ cmpE a b < 0 := by
  obtain ⟨au, aq, ak, av⟩ := a
  obtain ⟨bu, bq, bk, bv⟩ := b
  simp only [kyE, Prod.mk.injEq] at h
  obtain ⟨rfl, rfl, rfl⟩ := h
  have h1 : cmpE (au, aq, ak, av) (au, aq, ak, bv) = cmpE (au, aq, ak, av) (au, aq, ak, av) := rfl
  rw [h1]
  have := cmpE_neg (au, aq, ak, av) (au, aq, ak, av)
  omega

theorem keys_apart {ts : List Tow} (h : riseB (esT ts) = true) : ts.Pairwise (fun a b => kyE a.e ≠ kyE b.e) := by
  rw [List.pairwise_iff_getElem]
  intro i j hi hj hij e
  have h1 := rise_lt h i j (by rw [esT_len]; exact hj) hij
  have h2 : (esT ts)[i]'(by rw [esT_len]; exact hi) = ts[i].e := by simp [esT]
  have h3 : (esT ts)[j]'(by rw [esT_len]; exact hj) = ts[j].e := by simp [esT]
  rw [h2, h3] at h1
  exact kyE_cmp e h1

theorem row_row (ts : List Tow) (q : Nat) : rowT ts (q + 1) = (rowT ts q).filter (fun t => decide (q + 1 < t.h)) := by
  unfold rowT
  rw [List.filter_filter]
  congr 1
  funext t
  by_cases h : q + 1 < t.h
  · have : q < t.h := by omega
    simp [h, this]
  · simp [h]

/-- how many of the first i of a row reach the one above -/
def tallN (X : List Tow) (q i : Nat) : Nat := ((X.take i).filter (fun t => decide (q + 1 < t.h))).length

theorem tallN_zero (X : List Tow) (q : Nat) : tallN X q 0 = 0 := by simp [tallN]
theorem tallN_le (X : List Tow) (q i : Nat) : tallN X q i ≤ i := by
  unfold tallN
  refine Nat.le_trans (List.length_filter_le _ _) ?_
  rw [List.length_take]
  omega
theorem tallN_all (ts : List Tow) (q : Nat) : tallN (rowT ts q) q (ksT (rowT ts q)).length = (ksT (rowT ts (q + 1))).length := by
  rw [ksT_len, ksT_len, row_row]
  unfold tallN
  rw [List.take_length]

theorem tall_next (X : List Tow) (q i : Nat) (hi : i < X.length) : tallN X q (i + 1) = if q + 1 < X[i].h then tallN X q i + 1 else tallN X q i := by
  unfold tallN
  rw [List.take_succ_eq_append_getElem hi, List.filter_append, List.length_append]
  by_cases h : q + 1 < X[i].h
  · simp [h]
  · simp [h]

theorem tall_split (X : List Tow) (q i : Nat) : X.filter (fun t => decide (q + 1 < t.h)) = (X.take i).filter (fun t => decide (q + 1 < t.h)) ++ (X.drop i).filter (fun t => decide (q + 1 < t.h)) := by
  conv => lhs; rw [← List.take_append_drop i X, List.filter_append]

/-- a version of a row is the next one above, or none that is left there -/
theorem tall_step {ts : List Tow} (h : riseB (esT ts) = true) (q i k : Nat) (hi : i < (ksT (rowT ts q)).length) (hk : k = tallN (rowT ts q) q i) :
    (∃ hk2 : k < (ksT (rowT ts (q + 1))).length, (ksT (rowT ts (q + 1)))[k] = (ksT (rowT ts q))[i] ∧ tallN (rowT ts q) q (i + 1) = k + 1) ∨ ((∀ hk2 : k < (ksT (rowT ts (q + 1))).length, (ksT (rowT ts (q + 1)))[k] ≠ (ksT (rowT ts q))[i]) ∧ tallN (rowT ts q) q (i + 1) = k) := by
  have hi2 : i < (rowT ts q).length := by rw [← ksT_len]; exact hi
  have hpw : (rowT ts q).Pairwise (fun a b => kyE a.e ≠ kyE b.e) := (keys_apart h).sublist List.filter_sublist
  have e1 : (ksT (rowT ts q))[i] = kyE (rowT ts q)[i].e := by simp [ksT]
  have hsp := tall_split (rowT ts q) q i
  rw [← row_row] at hsp
  have hst := tall_next (rowT ts q) q i hi2
  by_cases ht : q + 1 < (rowT ts q)[i].h
  · rw [if_pos ht] at hst
    refine .inl ?_
    have e2 : (rowT ts q).drop i = (rowT ts q)[i] :: (rowT ts q).drop (i + 1) := List.drop_eq_getElem_cons hi2
    rw [e2, List.filter_cons_of_pos (by simpa using ht)] at hsp
    have hkl : k = (((rowT ts q).take i).filter (fun t => decide (q + 1 < t.h))).length := hk
    have hlt : k < (rowT ts (q + 1)).length := by rw [hsp, List.length_append, ← hkl]; simp
    refine ⟨by rw [ksT_len]; exact hlt, ?_, by rw [hst, ← hk]⟩
    rw [e1]
    have e3 : (ksT (rowT ts (q + 1)))[k]'(by rw [ksT_len]; exact hlt) = kyE ((rowT ts (q + 1))[k]).e := by simp [ksT]
    rw [e3]
    have e4 : (rowT ts (q + 1))[k]? = some (rowT ts q)[i] := by
      rw [hsp, List.getElem?_append_right (by omega), ← hkl, Nat.sub_self]
      rfl
    have e5 := List.getElem?_eq_getElem hlt
    rw [e4] at e5
    rw [← Option.some.inj e5]
  · rw [if_neg ht] at hst
    refine .inr ⟨fun hk2 e => ?_, by rw [hst, ← hk]⟩
    have hlt : k < (rowT ts (q + 1)).length := by rw [← ksT_len]; exact hk2
    have e3 : (ksT (rowT ts (q + 1)))[k] = kyE ((rowT ts (q + 1))[k]).e := by simp [ksT]
    rw [e1, e3] at e
    have e2 : (rowT ts q).drop i = (rowT ts q)[i] :: (rowT ts q).drop (i + 1) := List.drop_eq_getElem_cons hi2
    rw [e2, List.filter_cons_of_neg (by simpa using ht)] at hsp
    have hkl : k = (((rowT ts q).take i).filter (fun t => decide (q + 1 < t.h))).length := hk
    have hmem : (rowT ts (q + 1))[k] ∈ (rowT ts q).drop (i + 1) := by
      obtain ⟨y, hy⟩ : ∃ y, (rowT ts (q + 1))[k] = y := ⟨_, rfl⟩
      have e5 := List.getElem?_eq_getElem hlt
      rw [hy] at e5 ⊢
      rw [hsp, List.getElem?_append_right (by omega), ← hkl, Nat.sub_self] at e5
      exact (List.mem_filter.1 (List.mem_of_getElem? e5)).1
    obtain ⟨j, hj, e6⟩ := List.getElem_of_mem hmem
    rw [List.length_drop] at hj
    rw [List.getElem_drop] at e6
    have := List.pairwise_iff_getElem.1 hpw i (i + 1 + j) hi2 (by omega) (by omega)
    rw [e6] at this
    exact this e.symm

end Go.Proofs.Ytekmlbbfipldoaa

/- Puts that came in. -/
namespace Go.Proofs.Ytekmlbbfipldoaa
set_option maxRecDepth 20000
open Go.ChangeShapes Go.WideShapes Go.ChangeAt Go.RowKit
set_option linter.unusedVariables false

theorem pt_of {H : Type} {enc : TypeId × Value → H} {w : World} {n : Nat} {v0 v1 v2 v3 v4 : Value} {y : DataW H × List MemPlace}
    (h : DataW.trod enc Try.prog w 0 (fun _ => true) true n 40 [v0, v1, v2, v3, v4] = some y) : ∃ o : PtB, v1 = .int .u64 (o.1.2.1 : Int) ∧ v2 = .int .u8 (o.1.2.2.1.toNat : Int) ∧ v4 = .int .i64 o.2 ∧ Arg w v0 o.1.1 ∧ Arg w v3 o.1.2.2.2 := by
  obtain ⟨y0, y1, n', _, _, h0, h1⟩ := ChangeShapes.trod_struct2 Try.underlying40 h
  have c38 : Try.prog.cellsOf 38 = 4 := by kernel_rfl
  have c3 : Try.prog.cellsOf 3 = 1 := by kernel_rfl
  simp only [c38, c3] at h0 h1
  simp at h0 h1
  obtain ⟨o, e1, e2, _, r1, r2⟩ := en_of h0
  obtain ⟨k, e4, _, _⟩ := DataW.trod_int Try.underlying3 h1
  simp at e4
  exact ⟨(o, k), e1, e2, e4, r1, r2⟩

/-- puts that came in -/
theorem putsArg_of {H : Type} {enc : TypeId × Value → H} {w : World} {a : Option Addr} {len cap : Nat} {d : DataW H} {ps : List MemPlace}
    (h : DataW.Trod enc Try.prog w 0 (fun _ => true) true 22 (.slice a len cap) d ps) : ∃ es, ArgPt w (.slice a len cap) es ∧ True := by
  obtain ⟨fuel, hf⟩ := h
  rcases Deep.open_slice Try.underlying22 hf with ⟨hcs, _⟩ | ⟨x, len', cap', m, n, D, Pl, hcs, _, hl, hm, hmm, _, hall⟩
  · simp [Value.cells] at hcs
    obtain ⟨rfl, rfl, rfl⟩ := hcs
    exact ⟨[], LsP.nil _ w, trivial⟩
  · simp [Value.cells] at hcs
    obtain ⟨rfl, rfl, rfl⟩ := hcs
    simp only [if_true] at hmm
    subst hmm
    have c5 : Try.prog.cellsOf 40 = 5 := by kernel_rfl
    rw [c5] at hall
    have hsp : 0 < len → x.spot = none := by
      intro h0
      obtain ⟨cs', h1, _⟩ := hall 0 (by omega)
      obtain ⟨_, hlen, hcell⟩ := World.cells?_some h1
      match cs', hlen with
      | [v0, v1, v2, v3, v4], _ =>
        have k0 : w.cell? ((x.add (0 * 5)).add 0) = some v0 := hcell 0 (by decide)
        simpa [Addr.add] using World.cell?_spot k0
    have hex : ∀ i, i < len → ∃ o : PtB, ∃ b off, x = ⟨b, off, none⟩ ∧ PtAt Arg w b (off + i * 5) o := by
      intro i hi
      obtain ⟨cs', h1, h2⟩ := hall i (by omega)
      obtain ⟨_, hlen, hcell⟩ := World.cells?_some h1
      match cs', hlen with
      | [v0, v1, v2, v3, v4], _ =>
        obtain ⟨o, rfl, rfl, rfl, r1, r2⟩ := pt_of h2
        have k0 : w.cell? ((x.add (i * 5)).add 0) = some v0 := hcell 0 (by decide)
        have k1 : w.cell? ((x.add (i * 5)).add 1) = some (.int .u64 (o.1.2.1 : Int)) := hcell 1 (by decide)
        have k2 : w.cell? ((x.add (i * 5)).add 2) = some (.int .u8 (o.1.2.2.1.toNat : Int)) := hcell 2 (by decide)
        have k3 : w.cell? ((x.add (i * 5)).add 3) = some v3 := hcell 3 (by decide)
        have k4 : w.cell? ((x.add (i * 5)).add 4) = some (.int .i64 o.2) := hcell 4 (by decide)
        have hspot := hsp (by omega)
        obtain ⟨b, off, spot⟩ := x
        simp only at hspot
        subst hspot
        simp only [Addr.add_lit] at k0 k1 k2 k3 k4
        exact ⟨o, b, off, rfl, ⟨v0, v3, k0, k1, k2, k3, k4, r1, r2⟩⟩
    obtain ⟨L, hL⟩ := Deep.choose_lt hex
    refine ⟨(List.range len).map L, ⟨some x, m, by simp, by simp; omega, hm, fun j hj => ?_⟩, trivial⟩
    have hj' : j < len := by simpa using hj
    obtain ⟨b, off, rfl, ho⟩ := hL j hj'
    exact ⟨b, off, rfl, by simpa using ho⟩

end Go.Proofs.Ytekmlbbfipldoaa

/- Versions that came in. -/
namespace Go.Proofs.Ytekmlbbfipldoaa
set_option maxRecDepth 20000
open Go.ChangeShapes Go.WideShapes Go.ChangeAt Go.RowKit
set_option linter.unusedVariables false

def KyAt (R : World → Value → List UInt8 → Prop) (w : World) (b o : Nat) (k : KyT) : Prop :=
  ∃ x, w.cell? ⟨b, o, none⟩ = some x ∧ w.cell? ⟨b, o + 1, none⟩ = some (.int .u64 (k.2.1 : Int)) ∧ w.cell? ⟨b, o + 2, none⟩ = some (.int .u8 (k.2.2.toNat : Int)) ∧ R w x k.1

/-- a slice of versions -/
def LsK (R : World → Value → List UInt8 → Prop) (w : World) (v : Value) (ks : List KyT) : Prop :=
  ∃ ao cap, v = .slice ao ks.length cap ∧ ks.length ≤ cap ∧ cap ≤ maxLen ∧ ∀ j (h : j < ks.length), ∃ b off, ao = some ⟨b, off, none⟩ ∧ KyAt R w b (off + j * 3) ks[j]

abbrev ArgKs := LsK Arg

theorem LsK.nil (R : World → Value → List UInt8 → Prop) (w : World) : LsK R w (.slice none 0 0) [] := ⟨none, 0, rfl, Nat.le_refl _, Nat.zero_le _, fun j h => absurd h (Nat.not_lt_zero _)⟩

theorem argKs_below {w w' : World} {v : Value} {ks : List KyT} {B : Nat} (h : ArgKs w v ks) (hb : Below B w w') (hB : w.heap.size ≤ B) : ArgKs w' v ks := by
  obtain ⟨ao, cap, e, h1, h2, h3⟩ := h
  refine ⟨ao, cap, e, h1, h2, fun j hj => ?_⟩
  obtain ⟨b, off, e, x, c0, c1, c2, r⟩ := h3 j hj
  exact ⟨b, off, e, x, (hb.cell (p := ⟨b, off + j * 3, none⟩) (Nat.lt_of_lt_of_le (World.block_lt_of_cell? _ _ c0) hB)).trans c0, (hb.cell (p := ⟨b, off + j * 3 + 1, none⟩) (Nat.lt_of_lt_of_le (World.block_lt_of_cell? _ _ c1) hB)).trans c1, (hb.cell (p := ⟨b, off + j * 3 + 2, none⟩) (Nat.lt_of_lt_of_le (World.block_lt_of_cell? _ _ c2) hB)).trans c2, r.below hb hB⟩

theorem ky_of {H : Type} {enc : TypeId × Value → H} {w : World} {n : Nat} {v0 v1 v2 : Value} {y : DataW H × List MemPlace}
    (h : DataW.trod enc Try.prog w 0 (fun _ => true) true n 36 [v0, v1, v2] = some y) : ∃ o : KyT, v1 = .int .u64 (o.2.1 : Int) ∧ v2 = .int .u8 (o.2.2.toNat : Int) ∧ Arg w v0 o.1 := by
  have c25 : Try.prog.cellsOf 33 = 1 := by kernel_rfl
  have c8 : Try.prog.cellsOf 34 = 1 := by kernel_rfl
  have c5 : Try.prog.cellsOf 5 = 1 := by kernel_rfl
  obtain ⟨z0, z1, z2, n2, _, _, k0, k1, k2⟩ := Deep.trod_struct3 Try.underlying36 h
  simp only [c25, c8, c5] at k0 k1 k2
  simp at k0 k1 k2
  obtain ⟨a1, l1, q1, zz1, rfl, r1⟩ := row_of_trod k0
  obtain ⟨s, e1, _, ws⟩ := DataW.trod_int Try.underlying34 k1
  obtain ⟨k, e2, _, wk⟩ := DataW.trod_int Try.underlying5 k2
  simp at e1 e2
  subst e1 e2
  have hs := bounds_u64 ws
  have hk := bounds_u8 wk
  refine ⟨(_, s.toNat, UInt8.ofNat k.toNat), ?_, ?_, arg_of r1⟩
  · rw [show ((s.toNat : Nat) : Int) = s by omega]
  · simp only [UInt8.toNat_ofNat', Value.int.injEq, true_and]; omega

/-- versions that came in -/
theorem keysArg_of {H : Type} {enc : TypeId × Value → H} {w : World} {a : Option Addr} {len cap : Nat} {d : DataW H} {ps : List MemPlace}
    (h : DataW.Trod enc Try.prog w 0 (fun _ => true) true 23 (.slice a len cap) d ps) : ∃ es, ArgKs w (.slice a len cap) es ∧ True := by
  obtain ⟨fuel, hf⟩ := h
  rcases Deep.open_slice Try.underlying23 hf with ⟨hcs, _⟩ | ⟨x, len', cap', m, n, D, Pl, hcs, _, hl, hm, hmm, _, hall⟩
  · simp [Value.cells] at hcs
    obtain ⟨rfl, rfl, rfl⟩ := hcs
    exact ⟨[], LsK.nil _ w, trivial⟩
  · simp [Value.cells] at hcs
    obtain ⟨rfl, rfl, rfl⟩ := hcs
    simp only [if_true] at hmm
    subst hmm
    have c3k : Try.prog.cellsOf 36 = 3 := by kernel_rfl
    rw [c3k] at hall
    have hsp : 0 < len → x.spot = none := by
      intro h0
      obtain ⟨cs', h1, _⟩ := hall 0 (by omega)
      obtain ⟨_, hlen, hcell⟩ := World.cells?_some h1
      match cs', hlen with
      | [v0, v1, v2], _ =>
        have k0 : w.cell? ((x.add (0 * 3)).add 0) = some v0 := hcell 0 (by decide)
        simpa [Addr.add] using World.cell?_spot k0
    have hex : ∀ i, i < len → ∃ o : KyT, ∃ b off, x = ⟨b, off, none⟩ ∧ KyAt Arg w b (off + i * 3) o := by
      intro i hi
      obtain ⟨cs', h1, h2⟩ := hall i (by omega)
      obtain ⟨_, hlen, hcell⟩ := World.cells?_some h1
      match cs', hlen with
      | [v0, v1, v2], _ =>
        obtain ⟨o, rfl, rfl, r1⟩ := ky_of h2
        have k0 : w.cell? ((x.add (i * 3)).add 0) = some v0 := hcell 0 (by decide)
        have k1 : w.cell? ((x.add (i * 3)).add 1) = some (.int .u64 (o.2.1 : Int)) := hcell 1 (by decide)
        have k2 : w.cell? ((x.add (i * 3)).add 2) = some (.int .u8 (o.2.2.toNat : Int)) := hcell 2 (by decide)
        have hspot := hsp (by omega)
        obtain ⟨b, off, spot⟩ := x
        simp only at hspot
        subst hspot
        simp only [Addr.add_lit] at k0 k1 k2
        exact ⟨o, b, off, rfl, ⟨v0, k0, k1, k2, r1⟩⟩
    obtain ⟨L, hL⟩ := Deep.choose_lt hex
    refine ⟨(List.range len).map L, ⟨some x, m, by simp, by simp; omega, hm, fun j hj => ?_⟩, trivial⟩
    have hj' : j < len := by simpa using hj
    obtain ⟨b, off, rfl, ho⟩ := hL j hj'
    exact ⟨b, off, rfl, by simpa using ho⟩

end Go.Proofs.Ytekmlbbfipldoaa
