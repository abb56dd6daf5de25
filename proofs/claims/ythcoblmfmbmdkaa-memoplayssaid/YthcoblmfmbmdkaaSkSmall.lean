/- skip's small functions. -/
import Derived.Test.YthcoblmfmbmdkaaSkAhead
import Derived.Test.YthcoblmfmbmdkaaEnTwin
import Derived.Test.YthcoblmfmbmdkaaKeyCheck
import Derived.Test.YthcoblmfmbmdkaaClone
namespace Go.Proofs.Ythcoblmfmbmdkaa
set_option maxRecDepth 20000
open Go.RowKit
set_option linter.unusedVariables false
set_option linter.unusedSimpArgs false

theorem isRow_any (w : World) (h : Int) (r : Bool) (hr : decide (1 ≤ h ∧ h ≤ 8) = r) :
    Calls Try.prog 73 #[.int .i64 h] w fun e w' => e = .returned (.bool r) ∧ w' = w := by
  by_cases h1 : 1 ≤ h
  · by_cases h2 : h ≤ 8
    · have : r = true := by rw [← hr]; simp [h1, h2]
      subst this
      clear hr
      go_enter Try.func73, Try.ntmps73
      go_wp2
      go_ret
      exact ⟨rfl, rfl⟩
    · have : r = false := by rw [← hr]; simp [h2]
      subst this
      clear hr
      go_enter Try.func73, Try.ntmps73
      go_wp2
      go_ret
      exact ⟨ret_bool (by simp), rfl⟩
  · have : r = false := by rw [← hr]; simp; omega
    subst this
    clear hr
    go_enter Try.func73, Try.ntmps73
    go_wp2
    go_ret
    exact ⟨rfl, rfl⟩

/-- may an entry of this height be inserted? -/
def chkSk (e : EnB) (h : Int) : Int := if chk e.1.length (e.2.1 : Int) (e.2.2.1.toNat : Int) = 0 then (if 1 ≤ h ∧ h ≤ 8 then (if 512 < e.2.2.2.length then 3 else 0) else 1) else chk e.1.length (e.2.1 : Int) (e.2.2.1.toNat : Int)

set_option maxHeartbeats 2000000 in
theorem skcheck_any (w : World) (xa ya : Option Addr) (xc yc : Nat) (e : EnB) (h c : Int) (hc : chkSk e h = c) :
    Calls Try.prog 80 #[enV (.slice xa e.1.length xc) (e.2.1 : Int) (e.2.2.1.toNat : Int) (.slice ya e.2.2.2.length yc), .int .i64 h] w fun o w' => o = .returned (.int .i64 c) ∧ Below w.heap.size w w' := by
  obtain ⟨nl, hnl⟩ : ∃ z, e.1.length = z := ⟨_, rfl⟩
  obtain ⟨ml, hml⟩ : ∃ z, e.2.2.2.length = z := ⟨_, rfl⟩
  obtain ⟨s, hs⟩ : ∃ z : Int, (e.2.1 : Int) = z := ⟨_, rfl⟩
  obtain ⟨k, hk⟩ : ∃ z : Int, (e.2.2.1.toNat : Int) = z := ⟨_, rfl⟩
  obtain ⟨ck, hck⟩ : ∃ z, chk nl s k = z := ⟨_, rfl⟩
  unfold chkSk at hc
  rw [hnl, hml, hs, hk, hck] at hc
  rw [hnl, hml, hs, hk]
  have HC : Hid ((if ck = 0 then (if 1 ≤ h ∧ h ≤ 8 then (if 512 < ml then 3 else 0) else 1) else ck) = c) := hc
  have hb0 := below_box4 w (.cells #[.slice xa nl xc, .int .u64 s, .int .u8 k, .slice ya ml yc] 44)
  have HB0 : Hid (Below w.heap.size w (w.alloc (.cells #[.slice xa nl xc, .int .u64 s, .int .u8 k, .slice ya ml yc] 44))) := hb0
  have B0 := box4_new w (.slice xa nl xc) (.int .u64 s) (.int .u8 k) (.slice ya ml yc) 44
  have hcv := check_any (w.alloc (.cells #[.slice xa nl xc, .int .u64 s, .int .u8 k, .slice ya ml yc] 44)) xa nl xc s k (by omega) (by omega)
  rw [hck] at hcv
  obtain ⟨c0, c1, c2, c3⟩ := B0
  have B0 := box4_new w (.slice xa nl xc) (.int .u64 s) (.int .u8 k) (.slice ya ml yc) 44
  clear hc hnl hml hs hk hck hb0
  go_enter Try.func80, Try.ntmps80
  go_wp2_with fail
  refine hcv.mono ?_
  rintro o w1 ⟨rfl, hb1⟩
  have HB1 : Hid (Below w.heap.size w w1) := bsplit HB0.out hb1
  clear c0 c1 c2 c3
  obtain ⟨c0, c1, c2, c3⟩ := B0.below hb1 (Nat.le_refl _)
  clear hcv hb1
  by_cases h0 : ck = 0
  · subst h0
    by_cases hr : 1 ≤ h ∧ h ≤ 8
    · have hir := isRow_any w1 h true (decide_eq_true hr)
      by_cases hm : 512 < ml
      · have hmI : (512 : Int) < (ml : Int) := by omega
        have HE : Hid (c = 3) := by show c = 3; rw [← HC.out, if_pos rfl, if_pos hr, if_pos hm]
        clear hr
        go_wp2_with fail
        refine hir.mono ?_
        rintro o w2 ⟨rfl, rfl⟩
        go_wp2
        go_ret
        exact ⟨by rw [HE.out]; rfl, HB1.out⟩
      · have hmI : ¬ (512 : Int) < (ml : Int) := by omega
        have HE : Hid (c = 0) := by show c = 0; rw [← HC.out, if_pos rfl, if_pos hr, if_neg hm]
        clear hr
        go_wp2_with fail
        refine hir.mono ?_
        rintro o w2 ⟨rfl, rfl⟩
        go_wp2
        go_ret
        exact ⟨by rw [HE.out]; rfl, HB1.out⟩
    · have hir := isRow_any w1 h false (decide_eq_false hr)
      have HE : Hid (c = 1) := by show c = 1; rw [← HC.out, if_pos rfl, if_neg hr]
      clear hr
      go_wp2_with fail
      refine hir.mono ?_
      rintro o w2 ⟨rfl, rfl⟩
      go_wp2
      go_ret
      exact ⟨by rw [HE.out]; rfl, HB1.out⟩
  · have h0b : (ck == 0) = false := by simpa using h0
    have HE : Hid (c = ck) := by show c = ck; rw [← HC.out, if_neg h0]
    go_wp2
    go_ret
    exact ⟨by rw [HE.out]; rfl, HB1.out⟩

theorem ltB_ownN {B : Nat} {w : World} {x : Value} {l : List UInt8} (h : OwnN B w x l) : LtB w x := fun q hq => by
  rcases h with ⟨rfl, _⟩ | h
  · simp [Value.ownBlock] at hq
  · obtain ⟨g, k, e⟩ := h.shape
    subst e
    simp only [Value.ownBlock, Option.some.injEq] at hq
    subst hq
    exact h.lt.2

theorem from_ownN {B : Nat} {w : World} {x : Value} {l : List UInt8} (h : OwnN B w x l) : From B x := fun a n c e => by
  rcases h with ⟨h, _⟩ | h
  · rw [h] at e; cases e
  · exact h.from a n c e

theorem Box4.other {w : World} {b : Nat} {v0 v1 v2 v3 : Value} (h : Box4 w b v0 v1 v2 v3) (p : Addr) (hne : b ≠ p.block) (u : Value) : Box4 (w.setCell p u) b v0 v1 v2 v3 :=
  ⟨by rw [cell_other w p ⟨b, 0, none⟩ u hne]; exact h.c0, by rw [cell_other w p ⟨b, 1, none⟩ u hne]; exact h.c1, by rw [cell_other w p ⟨b, 2, none⟩ u hne]; exact h.c2, by rw [cell_other w p ⟨b, 3, none⟩ u hne]; exact h.c3⟩

theorem box_other4 {w : World} {b b' : Nat} {v0 v1 v2 : Value} (h : Box w b v0 v1 v2) (hne : b ≠ b') (u0 u1 u2 u3 : Value) : Box ((((w.setCell ⟨b', 0, none⟩ u0).setCell ⟨b', 1, none⟩ u1).setCell ⟨b', 2, none⟩ u2).setCell ⟨b', 3, none⟩ u3) b v0 v1 v2 :=
  (((h.other ⟨b', 0, none⟩ hne u0).other ⟨b', 1, none⟩ hne u1).other ⟨b', 2, none⟩ hne u2).other ⟨b', 3, none⟩ hne u3

theorem rd_store3 {w : World} {v : Value} {l : List UInt8} {b : Nat} (h : Rd w v l) (hb : ∀ g, v.ownBlock = some g → g ≠ b) (u0 u1 u2 : Value) : Rd (((w.setCell ⟨b, 0, none⟩ u0).setCell ⟨b, 1, none⟩ u1).setCell ⟨b, 2, none⟩ u2) v l := by
  rcases h with h | ⟨g, off, cap, rfl, h1, h2, h3⟩
  · exact .inl h
  · have h0 : Rd w (.slice (some ⟨g, off, none⟩) l.length cap) l := .inr ⟨g, off, cap, rfl, h1, h2, h3⟩
    have hne := hb g rfl
    exact ((h0.other ⟨b, 0, none⟩ hne u0).other ⟨b, 1, none⟩ hne u1).other ⟨b, 2, none⟩ hne u2

theorem from_ne {B b : Nat} {v : Value} (hf : From B v) (h : b < B) : ∀ g, v.ownBlock = some g → g ≠ b := fun g hg => by
  cases v with
  | slice a n c =>
    cases a with
    | none => simp [Value.ownBlock] at hg
    | some a =>
      have h9 := hf a n c rfl
      simp only [Value.ownBlock, Option.some.injEq] at hg
      omega
  | _ => simp [Value.ownBlock] at hg

theorem clone_keep {W w2 : World} {o : Obj} {x : Value} {l : List UInt8} (h : OwnN (W.alloc o).drew.heap.size w2 x l) (u0 u1 u2 : Value) : Rd (((w2.setCell ⟨W.heap.size, 0, none⟩ u0).setCell ⟨W.heap.size, 1, none⟩ u1).setCell ⟨W.heap.size, 2, none⟩ u2) x l ∧ From W.heap.size x ∧ LtB (((w2.setCell ⟨W.heap.size, 0, none⟩ u0).setCell ⟨W.heap.size, 1, none⟩ u1).setCell ⟨W.heap.size, 2, none⟩ u2) x := by
  have hs : (W.alloc o).drew.heap.size = W.heap.size + 1 := by simp
  have hf := from_ownN h
  rw [hs] at hf
  exact ⟨rd_store3 h.rd (from_ne hf (Nat.lt_succ_self _)) _ _ _, fun a n c e => by have := hf a n c e; omega, (ltB_ownN h).grow (by simp)⟩

theorem box_stored {w : World} {b : Nat} {v0 v1 v2 : Value} (h : Box w b v0 v1 v2) (u0 u1 u2 : Value) : Box (((w.setCell ⟨b, 0, none⟩ u0).setCell ⟨b, 1, none⟩ u1).setCell ⟨b, 2, none⟩ u2) b u0 u1 u2 :=
  ⟨by simp [go_sem, h.c0, h.c1, h.c2], by simp [go_sem, h.c0, h.c1, h.c2], by simp [go_sem, h.c0, h.c1, h.c2], by simp [go_sem, h.f0], by simp [go_sem, h.f1], by simp [go_sem, h.f2]⟩

set_option maxHeartbeats 4000000 in
theorem skapart_any (w : World) (xv yv : Value) (l m : List UInt8) (s k : Int) (hx : Rd w xv l) (hy : Rd w yv m) (hl : l.length ≤ 1000000) (hm : m.length ≤ 1000000) :
    Calls Try.prog 61 #[enV xv s k yv] w fun e w' => ∃ x y, e = .returned (enV x s k y) ∧ (Rd w' x l ∧ From (w.heap.size + 2) x) ∧ (Rd w' y m ∧ From (w.heap.size + 2) y) ∧ (LtB w' x ∧ LtB w' y) ∧ Below w.heap.size w w' := by
  obtain ⟨xa, xc, rfl⟩ := hx.len
  obtain ⟨ya, yc, rfl⟩ := hy.len
  obtain ⟨nl, hnl⟩ : ∃ z, l.length = z := ⟨_, rfl⟩
  obtain ⟨ml, hml⟩ : ∃ z, m.length = z := ⟨_, rfl⟩
  have HNL : Hid (l.length = nl ∧ m.length = ml ∧ nl ≤ 1000000 ∧ ml ≤ 1000000) := ⟨hnl, hml, by omega, by omega⟩
  rw [hnl] at hx ⊢
  rw [hml] at hy ⊢
  have hb0 := below_box4 w (.cells #[.slice xa nl xc, .int .u64 s, .int .u8 k, .slice ya ml yc] 44)
  have hb1 := below_box4 (w.alloc (.cells #[.slice xa nl xc, .int .u64 s, .int .u8 k, .slice ya ml yc] 44)) (.cells #[.slice none 0 0, .int .u64 0, .int .u8 0, .slice none 0 0] 44)
  have s1 : (w.alloc (.cells #[.slice xa nl xc, .int .u64 s, .int .u8 k, .slice ya ml yc] 44)).heap.size = w.heap.size + 1 := by simp
  have s2 : ((w.alloc (.cells #[.slice xa nl xc, .int .u64 s, .int .u8 k, .slice ya ml yc] 44)).alloc (.cells #[.slice none 0 0, .int .u64 0, .int .u8 0, .slice none 0 0] 44)).heap.size = w.heap.size + 2 := by simp
  have BE := (box4_new w (.slice xa nl xc) (.int .u64 s) (.int .u8 k) (.slice ya ml yc) 44).below hb1 (Nat.le_refl _)
  have BR := box4f_new (w.alloc (.cells #[.slice xa nl xc, .int .u64 s, .int .u8 k, .slice ya ml yc] 44)) (.slice none 0 0) (.int .u64 0) (.int .u8 0) (.slice none 0 0) 44
  rw [s1] at BR
  obtain ⟨W, hW⟩ : ∃ W, (w.alloc (.cells #[.slice xa nl xc, .int .u64 s, .int .u8 k, .slice ya ml yc] 44)).alloc (.cells #[.slice none 0 0, .int .u64 0, .int .u8 0, .slice none 0 0] 44) = W := ⟨_, rfl⟩
  have hBW := bsplit hb0 hb1
  rw [hW] at BE BR hBW s2
  have HBW : Hid (Below w.heap.size w W) := hBW
  have HSZ : Hid (W.heap.size = w.heap.size + 2) := s2
  have HX : Hid (∀ V, Below W.heap.size W V → Arg V (.slice xa nl xc) l) := fun V hV => ((hx.below hBW (Nat.le_refl _)).below hV (Nat.le_refl _)).arg
  have HY : Hid (∀ V, Below W.heap.size W V → Arg V (.slice ya ml yc) m) := fun V hV => ((hy.below hBW (Nat.le_refl _)).below hV (Nat.le_refl _)).arg
  have pW0 : Below W.heap.size W W.drew := (Below.refl _ _).drew
  have pW1 : Below W.heap.size W (W.alloc (.cells #[.slice none 0 0, .int .u64 0, .int .u8 0] 42)).drew := (below_box4 W _).drew
  have BK1 := (box_new W (.slice none 0 0) (.int .u64 0) (.int .u8 0) 42).drew
  have BE0 := BE.below pW0 (Nat.le_refl _)
  have BE1 := BE.below pW1 (Nat.le_refl _)
  clear hx hy hl hm hnl hml hb0 hb1 s1 s2 hBW
  go_enter Try.func61, Try.ntmps61
  go_upto_region 1 with fail
  clear hW
  go_cut [3] (fun kv wx => ∃ (bk : Nat) (xa2 : Option Addr) (xc2 : Nat), kv = .pointer (some ⟨bk, 0, none⟩) ∧ W.heap.size ≤ bk ∧ Hid (Box wx bk (.slice xa2 nl xc2) (.int .u64 s) (.int .u8 k)) ∧ Hid (Rd wx (.slice xa2 nl xc2) l ∧ From W.heap.size (.slice xa2 nl xc2) ∧ LtB wx (.slice xa2 nl xc2)) ∧ Hid (Below W.heap.size W wx))
  case first =>
    go_region_held3 (fun w' => w'.cell? ⟨w.heap.size, 0, none⟩ = some (.slice xa nl xc) ∧ w'.cell? ⟨w.heap.size, 1, none⟩ = some (.int .u64 s) ∧ w'.cell? ⟨w.heap.size, 2, none⟩ = some (.int .u8 k))
      (first | with_reducible exact ⟨BE4.c0, BE4.c1, BE4.c2⟩ | with_reducible exact ⟨BE3.c0, BE3.c1, BE3.c2⟩ | with_reducible exact ⟨BE2s.c0, BE2s.c1, BE2s.c2⟩ | with_reducible exact ⟨BE2.c0, BE2.c1, BE2.c2⟩ | with_reducible exact ⟨BE1.c0, BE1.c1, BE1.c2⟩ | exact ⟨BE0.c0, BE0.c1, BE0.c2⟩)
      (first
        | (go_at_call 74
           refine (clone_any _ _ l (by first | with_reducible exact HX.out _ pW0 | with_reducible exact HX.out _ pW1) (by have := HNL.out; omega)).mono ?_
           rintro e w2 ⟨x2, rfl, o2, hb2⟩
           obtain ⟨xa2, xc2, ex2⟩ := o2.rd.len
           rw [HNL.out.1] at ex2
           subst ex2
           have HB2 : Hid (Below W.heap.size W w2) := by first | exact bsplit pW0 hb2 | exact bsplit pW1 hb2
           have BE2 := BE.below HB2.out (Nat.le_refl _)
           have BE4 := BE2.below (below_box4 w2 (.cells #[.slice none 0 0, .int .u64 0, .int .u8 0] 42)) (Nat.le_refl _)
           have BE3 := BE2.below (below_box4 w2 (.cells #[.slice xa2 nl xc2, .int .u64 s, .int .u8 k] 42)) (Nat.le_refl _)
           have BE2s : Box4 (((w2.setCell ⟨W.heap.size, 0, none⟩ (.slice xa2 nl xc2)).setCell ⟨W.heap.size, 1, none⟩ (.int .u64 s)).setCell ⟨W.heap.size, 2, none⟩ (.int .u8 k)) w.heap.size (.slice xa nl xc) (.int .u64 s) (.int .u8 k) (.slice ya ml yc) := by
             have hne : w.heap.size ≠ W.heap.size := by rw [HSZ.out]; omega
             exact ((BE2.other ⟨W.heap.size, 0, none⟩ hne _).other ⟨W.heap.size, 1, none⟩ hne _).other ⟨W.heap.size, 2, none⟩ hne _
           first
             | (have BK2 := BK1.below hb2 (Nat.le_refl _)
                obtain ⟨c0, c1, c2, f0, f1, f2⟩ := BK2)
             | skip)
        | fail)
    all_goals (go_wp2_with fail; go_meet; first
      | exact ⟨_, xa2, xc2, rfl, HB2.out.size, box_new w2 _ _ _ _, ⟨o2.rd.below (below_box4 w2 _) (Nat.le_refl _), from_ownN o2, (ltB_ownN o2).grow (below_box4 w2 _).size⟩, bsplit HB2.out (below_box4 w2 _)⟩
      | exact ⟨_, xa2, xc2, rfl, Nat.le_refl _, box_stored (BK1.below hb2 (Nat.le_refl _)) _ _ _, clone_keep o2 _ _ _, below_store3 HB2.out (Nat.le_refl _) _ _ _⟩)
  case rest =>
    obtain ⟨bk, xa2, xc2, rfl, hbk, BK, HX2, HB2⟩ := hcut
    have hcl := clone_any wc.drew _ m (arg_drew (HY.out _ HB2.out)) (by have := HNL.out; omega)
    have BEc := (BE.below HB2.out (Nat.le_refl _)).drew
    have BKc := BK.out.drew
    have BRc := BR.below HB2.out (Nat.le_refl _)
    have HBX : Hid (Below w.heap.size w wc) := bsplit HBW.out HB2.out
    have HWC : Hid (w.heap.size + 2 ≤ wc.heap.size) := by have := HB2.out.size; rw [HSZ.out] at this; exact this
    have HNE : Hid (w.heap.size ≠ w.heap.size + 1 ∧ bk ≠ w.heap.size + 1) := ⟨by omega, by rw [HSZ.out] at hbk; omega⟩
    clear pW0 pW1 BK1 BE0 BE1
    obtain ⟨d0, d1, d2, d3⟩ := BEc
    have BEc := (BE.below HB2.out (Nat.le_refl _)).drew
    obtain ⟨e0, e1, e2, _⟩ := BK.out
    go_wp2_with fail
    go_region_held3 (fun w' => (w'.cell? ⟨bk, 0, none⟩ = some (.slice xa2 nl xc2) ∧ w'.cell? ⟨bk, 1, none⟩ = some (.int .u64 s) ∧ w'.cell? ⟨bk, 2, none⟩ = some (.int .u8 k)) ∧ w'.cell? ⟨w.heap.size, 3, none⟩ = some (.slice ya ml yc))
      (first | with_reducible exact ⟨⟨b7.c0, b7.c1, b7.c2⟩, E7.c3⟩ | with_reducible exact ⟨⟨b6.c0, b6.c1, b6.c2⟩, E6.c3⟩ | exact ⟨⟨BKc.c0, BKc.c1, BKc.c2⟩, BEc.c3⟩)
      (first
        | (go_at_call 74; refine hcl.mono ?_; rintro e w6 ⟨y, rfl, oy, hb6⟩
           obtain ⟨ya2, yc2, ey2⟩ := oy.rd.len
           rw [HNL.out.2.1] at ey2
           subst ey2
           have HB6 : Hid (Below w.heap.size w w6) := bsplit HBX.out.drew hb6
           obtain ⟨⟨c0, c1, c2, c3⟩, f0, f1, f2, f3⟩ := BRc.below (bsplit (Below.refl _ _).drew hb6) (Nat.le_refl _)
           have b6 := BKc.below hb6 (Nat.le_refl _)
           have E6 := BEc.below hb6 (Nat.le_refl _)
           have b7 := box_other4 b6 HNE.out.2 (.slice xa2 nl xc2) (.int .u64 s) (.int .u8 k) (.slice ya2 ml yc2)
           have E7 := E6.stored (w.heap.size + 1) HNE.out.1 (.slice xa2 nl xc2) (.int .u64 s) (.int .u8 k) (.slice ya2 ml yc2)
           have HX6 : Hid (Rd w6 (.slice xa2 nl xc2) l ∧ From (w.heap.size + 2) (.slice xa2 nl xc2)) := ⟨HX2.out.1.drew.below hb6 (Nat.le_refl _), by rw [← HSZ.out]; exact HX2.out.2.1⟩
           have HLB : Hid (LtB w6 (.slice xa2 nl xc2) ∧ LtB w6 (.slice ya2 ml yc2)) := ⟨HX2.out.2.2.grow hb6.size, ltB_ownN oy⟩
           have HY6 : Hid (Rd w6 (.slice ya2 ml yc2) m ∧ From (w.heap.size + 2) (.slice ya2 ml yc2)) := ⟨oy.rd, fun a n c e => Nat.le_trans HWC.out (from_ownN oy a n c e)⟩
           clear hb6 oy)
        | fail)
    clear hcl d0 d1 d2 d3 e0 e1 e2 BKc BEc b6 b7 E6 E7
    go_wp2
    refine bodyPost_ret (v := enV (.slice xa2 nl xc2) s k (.slice ya2 ml yc2)) (by simp [results, Try.results61, go_sem, c0, c1, c2, c3]) rfl ⟨_, _, rfl, ⟨rd_store4 HX6.out.1 (from_ne HX6.out.2 (by omega)) _ _ _ _, HX6.out.2⟩, ⟨rd_store4 HY6.out.1 (from_ne HY6.out.2 (by omega)) _ _ _ _, HY6.out.2⟩, ⟨HLB.out.1.grow (by simp), HLB.out.2.grow (by simp)⟩, below_store4 HB6.out (Nat.le_succ _) _ _ _ _⟩

end Go.Proofs.Ythcoblmfmbmdkaa
