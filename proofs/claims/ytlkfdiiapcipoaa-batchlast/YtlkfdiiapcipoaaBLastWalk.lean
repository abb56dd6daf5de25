/- BatchLast answers true: which op is the last of a key isn't changed by what is of other keys. -/
import Derived.Test.YtlkfdiiapcipoaaBundle
import Derived.Deep.RegionHeld3
import Derived.Deep.DeepCutAuto
namespace Go.Proofs.Ytlkfdiiapcipoaa
open Go.RowKit

theorem Bun.setco {w W : World} {BX : List Bx} {SL : List (Value × List UInt8)} {cv cv' : Value} {cs cs' : List OpB} {C : Nat} (h : Bun w W BX SL cv cs) (ho : OwnO C W cv' cs') (hC : w.heap.size ≤ C) (hl : ∀ t ∈ BX, t.1 < C) : Bun w W BX SL cv' cs' := by
  refine ⟨h.bx, h.sl, ho.mono hC, fun t ht e => ?_, h.bel⟩
  obtain ⟨rs, hr, _⟩ := ho
  have := (hr.lt _ e.symm).1
  have := hl t ht
  omega

theorem Bun.addS {w W : World} {BX : List Bx} {SL : List (Value × List UInt8)} {cv : Value} {cs : List OpB} {C : Nat} {x : Value} {l : List UInt8} (h : Bun w W BX SL cv cs) (hx : OwnN C W x l) (hC : w.heap.size ≤ C) : Bun w W BX ((x, l) :: SL) cv cs :=
  ⟨h.bx, fun p hp => by rcases List.mem_cons.1 hp with rfl | hp; exact hx.mono hC; exact h.sl p hp, h.co, h.ne, h.bel⟩

theorem copy_step (w W : World) (BX : List Bx) (SL : List (Value × List UInt8)) (vl : Value) (fs : List OpB) (h : Bun w W BX SL vl fs) (hn : fs.length ≤ 1000) (hb : ∀ o ∈ fs, o.2.1.length ≤ 1000000 ∧ o.2.2.length ≤ 1000000) :
    Calls Try.prog 16 #[vl] W fun e W' => ∃ ca cc, e = .returned (.slice ca fs.length cc) ∧ Bun w W' BX SL (.slice ca fs.length cc) fs := by
  refine (opcopy_any W vl fs h.co.rd.arg hn hb).mono ?_
  rintro e W' ⟨vc, rfl, oc, hbc⟩
  obtain ⟨ca, cc, rfl⟩ := oc.shape
  exact ⟨ca, cc, rfl, (h.below hbc).setco oc h.bel.size (fun t ht => BoxT.lt (h.bx t ht))⟩

theorem over_step (w W : World) (BX : List Bx) (SL : List (Value × List UInt8)) (cv vk : Value) (cs : List OpB) (key : List UInt8) (k : UInt8) (l m : List UInt8) (b : Bool) (h : Bun w W BX SL cv cs) (hk : (vk, key) ∈ SL) (hb : ∀ o ∈ cs, o.2.1.length ≤ 1000000 ∧ o.2.2.length ≤ 1000000) (hr : resO (overO cs key) = ((k, l, m), b)) :
    Calls Try.prog 25 #[cv, vk] W fun e W' => ∃ x1 x2 y1 y2, e = .returned (.tuple #[.agg #[.int .u8 (k.toNat : Int), .slice x1 l.length x2, .slice y1 m.length y2], .bool b]) ∧ Bun w W' BX ((.slice x1 l.length x2, l) :: (.slice y1 m.length y2, m) :: SL) cv cs := by
  refine (over_any W cv vk cs key _ h.co.rd (h.sl _ hk).rd hb hr).mono ?_
  rintro e W' ⟨x, y, rfl, ox, oy, hbo⟩
  obtain ⟨x1, x2, rfl⟩ := ox.len
  obtain ⟨y1, y2, rfl⟩ := oy.len
  exact ⟨x1, x2, y1, y2, rfl, ((h.below hbo).addS oy h.bel.size).addS ox h.bel.size⟩

theorem Bun.memz {w W : World} {BX : List Bx} {SL : List (Value × List UInt8)} {cv : Value} {cs : List OpB} {z : Nat} (_h : Bun w W BX SL cv cs) (hm : ((z, .int .u8 0, .slice none 0 0, .slice none 0 0) : Bx) ∈ BX) : ((z, .int .u8 0, .slice none 0 0, .slice none 0 0) : Bx) ∈ BX := hm

theorem Bun.storeZ {w W : World} {BX : List Bx} {SL : List (Value × List UInt8)} {cv : Value} {cs : List OpB} (h : Bun w W BX SL cv cs) (z : Nat) (hm : ((z, .int .u8 0, .slice none 0 0, .slice none 0 0) : Bx) ∈ BX) (hw : w.heap.size ≤ z) (q7 q5 : Bx) (h7 : q7 ∈ BX) (h5 : q5 ∈ BX) (n7 : q7.1 ≠ z) (n5 : q5.1 ≠ z) (u0 u1 u2 : Value) :
    Bun w (((W.setCell ⟨z, 0, none⟩ u0).setCell ⟨z, 1, none⟩ u1).setCell ⟨z, 2, none⟩ u2) [(z, u0, u1, u2), q7, q5] SL cv cs :=
  h.store (BX' := [q7, q5]) (z, .int .u8 0, .slice none 0 0, .slice none 0 0) hm hw (fun q hq => by
    rcases List.mem_cons.1 hq with rfl | hq
    · exact ⟨h7, n7⟩
    · rcases List.mem_cons.1 hq with rfl | hq
      · exact ⟨h5, n5⟩
      · cases hq) u0 u1 u2

theorem same_one (w W : World) (k : UInt8) (l m : List UInt8) (x y x' y' : Value) (hx : Rd W x l) (hy : Rd W y m) (hx' : Rd W x' l) (hy' : Rd W y' m) (hB : Below w.heap.size w W) :
    Calls Try.prog 20 #[.slice (some ⟨W.heap.size, 0, none⟩) 1 1, .slice (some ⟨W.heap.size + 1, 0, none⟩) 1 1] ((W.alloc (.cells #[.int .u8 (k.toNat : Int), x, y] 27)).alloc (.cells #[.int .u8 (k.toNat : Int), x', y'] 27)) fun e w' => e = .returned (.bool true) ∧ Below w.heap.size w w' := by
  have g1 := below_mark W (.cells #[.int .u8 (k.toNat : Int), x, y] 27)
  have r1 := rdo_one W x y l m k _ rfl hx hy
  have r2 := rdo_one _ x' y' l m k _ rfl (hx'.below g1 (Nat.le_refl _)) (hy'.below g1 (Nat.le_refl _))
  rw [show (W.alloc (.cells #[.int .u8 (k.toNat : Int), x, y] 27)).heap.size = W.heap.size + 1 by simp] at r2
  have g2 := below_mark (W.alloc (.cells #[.int .u8 (k.toNat : Int), x, y] 27)) (.cells #[.int .u8 (k.toNat : Int), x', y'] 27)
  refine (sameops_any _ _ _ _ _ true (LsO.below r1 g2 (Nat.le_refl _)) r2 (by simp)).mono ?_
  rintro e w' ⟨rfl, n, rfl⟩
  exact ⟨rfl, below_drewN ((hB.trans (g1.mono hB.size)).trans (g2.mono (Nat.le_trans hB.size g1.size))) _⟩

set_option maxHeartbeats 8000000 in
set_option maxRecDepth 20000 in
theorem blast_walk (w : World) (v vk : Value) (os fs : List OpB) (lk ck : List UInt8) (x y : Value) (o : OpB) (HF : Hid (fewO 40 os = fs)) (HK : Hid (lk.take 80 = ck)) (hv : ArgO w v os) (hk : Arg w vk lk) (hx : Arg w x o.2.1) (hy : Arg w y o.2.2) :
    Calls Try.prog 9 #[v, vk, .agg #[.int .u8 (o.1.toNat : Int), x, y]] w fun e w' => e = .returned (.bool true) ∧ Below w.heap.size w w' := by
  obtain ⟨x1, x2, ex⟩ := Arg.shape hx
  obtain ⟨y1, y2, ey⟩ := Arg.shape hy
  subst ex ey
  have H0 : Bun w (w.alloc (.cells #[.int .u8 (o.1.toNat : Int), .slice x1 o.2.1.length x2, .slice y1 o.2.2.length y2] 27)) [(w.heap.size, .int .u8 (o.1.toNat : Int), .slice x1 o.2.1.length x2, .slice y1 o.2.2.length y2)] [] (.slice none 0 0) [] :=
    (Bun.mk (fun _ h => by simp at h) (fun _ h => by simp at h) (OwnO.nil _ _) (fun _ h => by simp at h) (Below.refl _ _) : Bun w w [] [] (.slice none 0 0) []).box _ _ _
  have HV : Hid _ := hv
  have HA : Hid _ := hk
  have HX : Hid _ := hx
  have HY : Hid _ := hy
  clear hv hk hx hy
  obtain ⟨⟨pk, pl, pm⟩, hp⟩ : ∃ p, cutOp o = p := ⟨_, rfl⟩
  have HP : Hid _ := hp
  have hpl : pl.length ≤ 80 := by rw [show pl = (cutOp o).2.1 by rw [hp]]; exact List.length_take_le _ _
  have hpm : pm.length ≤ 600 := by rw [show pm = (cutOp o).2.2 by rw [hp]]; exact List.length_take_le _ _
  have hfl : fs.length ≤ 40 := by rw [← HF.out]; exact fewO_length _ _
  have HFB : Hid (∀ o ∈ fs, o.2.1.length ≤ 1000000 ∧ o.2.2.length ≤ 1000000) := by
    intro o ho
    rw [← HF.out] at ho
    have := fewO_bound _ _ o ho
    omega
  have HFP : Hid (∀ o ∈ fs ++ [(pk, pl, pm)], o.2.1.length ≤ 1000000 ∧ o.2.2.length ≤ 1000000) := by
    intro o ho
    rcases List.mem_append.1 ho with h | h
    · exact HFB.out o h
    · simp at h; subst h; simp only; omega
  clear hp
  go_enter Try.func9, Try.ntmps9
  go_wp2_with fail
  refine (bawake_any _).mono ?_
  rintro e w1 ⟨rfl, hb⟩
  have H1 := H0.below hb
  clear H0 hb
  have hv1 : ArgO w1 v os := LsO.belowA (show ArgO w v os from HV.out) H1.bel (Nat.le_refl _)
  have hs1 : w.heap.size < w1.heap.size := BoxT.lt (H1.bx (w.heap.size, .int .u8 (o.1.toNat : Int), .slice x1 o.2.1.length x2, .slice y1 o.2.2.length y2) (by simp))
  go_wp2_with fail
  refine (fewop_any _ _ os 40 hv1 (by omega)).mono ?_
  rintro e w2 ⟨vl, rfl, ol2, hb⟩
  rw [HF.out] at ol2
  obtain ⟨la, lc, hvl⟩ := ol2.shape
  subst hvl
  have H2 := (H1.below hb).setco ol2 (by omega) (fun t ht => by simp at ht; subst ht; exact hs1)
  clear H1 hb hv1 ol2
  have hk2 : Arg w2 vk lk := Arg.below (show Arg w vk lk from HA.out) H2.bel (Nat.le_refl _)
  go_wp2_with fail
  refine (cut_any _ _ lk 80 hk2 (by omega)).mono ?_
  rintro e w3 ⟨k3, rfl, ok3, hb⟩
  rw [HK.out] at ok3
  obtain ⟨gky, kk, hgk⟩ := ok3.shape
  subst hgk
  have H3 := (H2.below hb).addS (.inr ok3) H2.bel.size
  clear H2 hb hk2 ok3
  have hx3 : Arg w3 _ o.2.1 := Arg.below (show Arg w (.slice x1 o.2.1.length x2) o.2.1 from HX.out) H3.bel (Nat.le_refl _)
  have hy3 : Arg w3 _ o.2.2 := Arg.below (show Arg w (.slice y1 o.2.2.length y2) o.2.2 from HY.out) H3.bel (Nat.le_refl _)
  have ao := argo_one w3 _ _ o hx3 hy3
  have hba := below_mark w3 (.cells #[.int .u8 (o.1.toNat : Int), .slice x1 o.2.1.length x2, .slice y1 o.2.2.length y2] 27)
  have b3 := BoxT.box (H3.bx (w.heap.size, .int .u8 (o.1.toNat : Int), .slice x1 o.2.1.length x2, .slice y1 o.2.2.length y2) (by simp))
  have b3c0 := b3.c0; have b3c1 := b3.c1; have b3c2 := b3.c2
  simp only at b3c0 b3c1 b3c2
  go_wp2_with fail
  clear b3c0 b3c1 b3c2 b3
  refine (fewop_any _ _ [o] 1 ao (by omega)).mono ?_
  rintro e w4 ⟨v4, rfl, o4, hb⟩
  rw [show fewO 1 [o] = [(pk, pl, pm)] by unfold fewO; simp; exact HP.out] at o4
  obtain ⟨g4, k4, px, py, rfl, hg4, hg4', p0, p1, p2, opx, opy⟩ := own_first o4
  obtain ⟨px1, px2, hpx⟩ := opx.len
  subst hpx
  obtain ⟨py1, py2, hpy⟩ := opy.len
  subst hpy
  simp only at p0 p1 p2 opx opy
  have hs3 : w.heap.size < w3.heap.size := BoxT.lt (H3.bx (w.heap.size, .int .u8 (o.1.toNat : Int), .slice x1 o.2.1.length x2, .slice y1 o.2.2.length y2) (by simp))
  have hC : w.heap.size ≤ (w3.alloc (.cells #[.int .u8 (o.1.toNat : Int), .slice x1 o.2.1.length x2, .slice y1 o.2.2.length y2] 27)).heap.size := by simp; omega
  have hne4 : ¬ g4 = w.heap.size := by simp at hg4; omega
  have H4 := (((H3.below hba).below hb).addS opy hC).addS opx hC
  have H5 := H4.store (BX' := []) (w.heap.size, .int .u8 (o.1.toNat : Int), .slice x1 o.2.1.length x2, .slice y1 o.2.2.length y2) (by simp) (Nat.le_refl _) (by simp) (.int .u8 (pk.toNat : Int)) (.slice px1 pl.length px2) (.slice py1 pm.length py2)
  have b4 := BoxT.box (H4.bx (w.heap.size, .int .u8 (o.1.toNat : Int), .slice x1 o.2.1.length x2, .slice y1 o.2.2.length y2) (by simp))
  obtain ⟨d0, d1, d2, f0, f1, f2⟩ := b4
  simp only at d0 d1 d2 f0 f1 f2 H5
  clear H3 hb hba ao hx3 hy3 o4 opx opy H4 hg4 hg4' hC
  go_wp2_with fail
  clear d0 d1 d2 f0 f1 f2 p0 p1 p2
  generalize (((w4.setCell ⟨w.heap.size, 0, none⟩ (.int .u8 (pk.toNat : Int))).setCell ⟨w.heap.size, 1, none⟩ (.slice px1 pl.length px2)).setCell ⟨w.heap.size, 2, none⟩ (.slice py1 pm.length py2)) = w5 at *
  obtain ⟨⟨⟨ak, al, am⟩, aok⟩, hr1⟩ : ∃ r, resO (overO fs ck) = r := ⟨_, rfl⟩
  obtain ⟨⟨⟨bk, bl, bm⟩, bok⟩, hr2⟩ : ∃ r, resO (overO (fs ++ [(pk, pl, pm)]) ck) = r := ⟨_, rfl⟩
  have HR1 : Hid _ := hr1
  have HR2 : Hid _ := hr2
  obtain ⟨d, hd⟩ : ∃ d, cov (pk.toNat : Int) pl pm ck = d := ⟨_, rfl⟩
  have HD : Hid _ := hd
  have hfin : Hid (if d = true then (bk = pk ∧ bl = pl ∧ bm = pm ∧ bok = true) else (bk = ak ∧ bl = al ∧ bm = am ∧ bok = aok)) := by
    have e := overO_snoc fs (pk, pl, pm) ck
    rw [show covB (pk, pl, pm) ck = d from hd] at e
    rw [e] at hr2
    cases d
    · simp only [Bool.false_eq_true, if_false] at hr2 ⊢
      rw [hr1] at hr2
      simp only [Prod.mk.injEq] at hr2
      exact ⟨hr2.1.1.symm, hr2.1.2.1.symm, hr2.1.2.2.symm, hr2.2.symm⟩
    · simp only [if_true, resO, Prod.mk.injEq] at hr2 ⊢
      exact ⟨hr2.1.1.symm, hr2.1.2.1.symm, hr2.1.2.2.symm, hr2.2.symm⟩
  clear hr1 hr2 hd
  refine (over_step w w5 _ _ _ _ fs ck ak al am aok H5 (by simp) HFB.out HR1.out).mono ?_
  rintro e w6 ⟨xa1, xa2, ya1, ya2, rfl, H6⟩
  have H7 := H6.box (.int .u8 (ak.toNat : Int)) (.slice xa1 al.length xa2) (.slice ya1 am.length ya2)
  have hw6 : w.heap.size < w6.heap.size := BoxT.lt (H6.bx (w.heap.size, .int .u8 (pk.toNat : Int), .slice px1 pl.length px2, .slice py1 pm.length py2) (by simp))
  clear H5 H6
  go_wp2_with fail
  generalize hw7 : w6.alloc (.cells #[.int .u8 (ak.toNat : Int), .slice xa1 al.length xa2, .slice ya1 am.length ya2] 27) = w7 at *
  have hs7 : w6.heap.size < w7.heap.size := by rw [← hw7]; simp
  clear hw7
  have H7d := H7.drew
  have s7 : Box _ w.heap.size (.int .u8 (pk.toNat : Int)) (.slice px1 pl.length px2) (.slice py1 pm.length py2) := BoxT.box (H7d.bx (w.heap.size, .int .u8 (pk.toNat : Int), .slice px1 pl.length px2, .slice py1 pm.length py2) (by simp))
  have zlow : ∀ {W : World} {BX : List Bx} {SL : List (Value × List UInt8)} {cv : Value} {cs : List OpB} {z : Nat}, Bun w W BX SL cv cs → ((z, .int .u8 0, .slice none 0 0, .slice none 0 0) : Bx) ∈ BX → w.heap.size < z → w.heap.size < z := fun _ _ h => h
  have zlow7 : ∀ {W : World} {BX : List Bx} {SL : List (Value × List UInt8)} {cv : Value} {cs : List OpB} {z : Nat}, Bun w W BX SL cv cs → ((z, .int .u8 0, .slice none 0 0, .slice none 0 0) : Bx) ∈ BX → w6.heap.size < z → w6.heap.size < z := fun _ _ h => h
  go_cut [9, 10] (fun bv okv wx => ∃ zf xb1 xb2 yb1 yb2, bv = .pointer (some ⟨zf, 0, none⟩) ∧ okv = .bool bok ∧ ∃ cv cs, Bun w wx [(zf, .int .u8 (bk.toNat : Int), .slice xb1 bl.length xb2, .slice yb1 bm.length yb2), (w6.heap.size, .int .u8 (ak.toNat : Int), .slice xa1 al.length xa2, .slice ya1 am.length ya2), (w.heap.size, .int .u8 (pk.toNat : Int), .slice px1 pl.length px2, .slice py1 pm.length py2)] [(.slice xb1 bl.length xb2, bl), (.slice yb1 bm.length yb2, bm), (.slice xa1 al.length xa2, al), (.slice ya1 am.length ya2, am), (.slice px1 pl.length px2, pl), (.slice py1 pm.length py2, pm), (.slice (some ⟨gky, 0, none⟩) ck.length kk, ck)] cv cs)
  case first =>
    go_region_held3 (fun w' => w'.cell? ⟨w.heap.size, 0, none⟩ = some (.int .u8 (pk.toNat : Int)) ∧ w'.cell? ⟨w.heap.size, 1, none⟩ = some (.slice px1 pl.length px2) ∧ w'.cell? ⟨w.heap.size, 2, none⟩ = some (.slice py1 pm.length py2))
      (first | exact ⟨(ss).c0, (ss).c1, (ss).c2⟩ | exact ⟨(sr).c0, (sr).c1, (sr).c2⟩ | exact ⟨(sr.alloc _).c0, (sr.alloc _).c1, (sr.alloc _).c2⟩ | exact ⟨(sq).c0, (sq).c1, (sq).c2⟩ | exact ⟨(sq.alloc _).c0, (sq.alloc _).c1, (sq.alloc _).c2⟩ | exact ⟨(sc).c0, (sc).c1, (sc).c2⟩ | exact ⟨(sc.alloc _).c0, (sc.alloc _).c1, (sc.alloc _).c2⟩ | exact ⟨((sc.alloc _).alloc _).c0, ((sc.alloc _).alloc _).c1, ((sc.alloc _).alloc _).c2⟩ | exact ⟨(s7).c0, (s7).c1, (s7).c2⟩ | exact ⟨(s7.alloc _).c0, (s7.alloc _).c1, (s7.alloc _).c2⟩ | exact ⟨((s7.alloc _).alloc _).c0, ((s7.alloc _).alloc _).c1, ((s7.alloc _).alloc _).c2⟩)
      (first
        | (go_at_call 16; refine (copy_step w _ _ _ _ fs (by first | exact H7d | exact (H7d.boxAt (w7.heap.size) (by simp) (.int .u8 (pk.toNat : Int)) (.slice px1 pl.length px2) (.slice py1 pm.length py2)) | exact (H7d.boxAt (w7.heap.size) (by simp) (.int .u8 0) (.slice none 0 0) (.slice none 0 0)) | exact ((H7d.boxAt (w7.heap.size) (by simp) (.int .u8 (pk.toNat : Int)) (.slice px1 pl.length px2) (.slice py1 pm.length py2)).boxAt (w7.heap.size + 1) (by simp) (.int .u8 0) (.slice none 0 0) (.slice none 0 0)) | exact ((H7d.boxAt (w7.heap.size) (by simp) (.int .u8 0) (.slice none 0 0) (.slice none 0 0)).boxAt (w7.heap.size + 1) (by simp) (.int .u8 (pk.toNat : Int)) (.slice px1 pl.length px2) (.slice py1 pm.length py2))) (by omega) HFB.out).mono ?_; rintro e wc ⟨ca, cc, rfl, Hc⟩; have sc : Box _ w.heap.size (.int .u8 (pk.toNat : Int)) (.slice px1 pl.length px2) (.slice py1 pm.length py2) := BoxT.box (Hc.bx (w.heap.size, .int .u8 (pk.toNat : Int), .slice px1 pl.length px2, .slice py1 pm.length py2) (by simp)); have lc := sc.lt; have lc7 : w6.heap.size < wc.heap.size := BoxT.lt (Hc.bx (w6.heap.size, .int .u8 (ak.toNat : Int), .slice xa1 al.length xa2, .slice ya1 am.length ya2) (by simp)))
        | (refine Bun.append (p := (pk, pl, pm)) (x1 := px1) (x2 := px2) (y1 := py1) (y2 := py2) rfl (by first | exact Hc | exact (Hc.boxAt (wc.heap.size) (by simp) (.int .u8 (pk.toNat : Int)) (.slice px1 pl.length px2) (.slice py1 pm.length py2)) | exact (Hc.boxAt (wc.heap.size) (by simp) (.int .u8 0) (.slice none 0 0) (.slice none 0 0)) | exact ((Hc.boxAt (wc.heap.size) (by simp) (.int .u8 (pk.toNat : Int)) (.slice px1 pl.length px2) (.slice py1 pm.length py2)).boxAt (wc.heap.size + 1) (by simp) (.int .u8 0) (.slice none 0 0) (.slice none 0 0)) | exact ((Hc.boxAt (wc.heap.size) (by simp) (.int .u8 0) (.slice none 0 0) (.slice none 0 0)).boxAt (wc.heap.size + 1) (by simp) (.int .u8 (pk.toNat : Int)) (.slice px1 pl.length px2) (.slice py1 pm.length py2))) rfl (.tmp 30) (.tmp 32) rfl (by simp) (by simp) (by simp) rfl rfl (by omega) ?_; intro gq cq wq Hq; have sq : Box _ w.heap.size (.int .u8 (pk.toNat : Int)) (.slice px1 pl.length px2) (.slice py1 pm.length py2) := BoxT.box (Hq.bx (w.heap.size, .int .u8 (pk.toNat : Int), .slice px1 pl.length px2, .slice py1 pm.length py2) (by simp)); have lq := sq.lt; have lq7 : w6.heap.size < wq.heap.size := BoxT.lt (Hq.bx (w6.heap.size, .int .u8 (ak.toNat : Int), .slice xa1 al.length xa2, .slice ya1 am.length ya2) (by simp)))
        | (go_at_call 25; refine (over_step w _ _ _ _ _ (fs ++ [(pk, pl, pm)]) ck bk bl bm bok (by first | exact Hq | exact (Hq.boxAt (wq.heap.size) (by simp) (.int .u8 (pk.toNat : Int)) (.slice px1 pl.length px2) (.slice py1 pm.length py2)) | exact (Hq.boxAt (wq.heap.size) (by simp) (.int .u8 0) (.slice none 0 0) (.slice none 0 0)) | exact ((Hq.boxAt (wq.heap.size) (by simp) (.int .u8 (pk.toNat : Int)) (.slice px1 pl.length px2) (.slice py1 pm.length py2)).boxAt (wq.heap.size + 1) (by simp) (.int .u8 0) (.slice none 0 0) (.slice none 0 0)) | exact ((Hq.boxAt (wq.heap.size) (by simp) (.int .u8 0) (.slice none 0 0) (.slice none 0 0)).boxAt (wq.heap.size + 1) (by simp) (.int .u8 (pk.toNat : Int)) (.slice px1 pl.length px2) (.slice py1 pm.length py2))) (by simp) HFP.out HR2.out).mono ?_; rintro e wr ⟨xb1, xb2, yb1, yb2, rfl, Hr⟩; have sr : Box _ w.heap.size (.int .u8 (pk.toNat : Int)) (.slice px1 pl.length px2) (.slice py1 pm.length py2) := BoxT.box (Hr.bx (w.heap.size, .int .u8 (pk.toNat : Int), .slice px1 pl.length px2, .slice py1 pm.length py2) (by simp)); (first | (have zm := Hr.memz (List.Mem.head _)) | (have zm := Hr.memz (List.Mem.tail _ (List.Mem.head _))) | skip); (first | (fail_if_success (have _q := zm)) | ((first | (have bzT := Hr.bx _ zm) | fail "A0"); (first | (have bz := BoxT.box bzT) | fail "A1"); (first | (simp only at bz) | fail "A2"); (first | (have zl : w.heap.size < _ := zlow Hr zm (by omega)) | fail "A3"); (first | (have ss := ((sr.other ⟨_, 0, none⟩ (Nat.ne_of_lt zl) (.int .u8 (bk.toNat : Int))).other ⟨_, 1, none⟩ (Nat.ne_of_lt zl) (.slice xb1 bl.length xb2)).other ⟨_, 2, none⟩ (Nat.ne_of_lt zl) (.slice yb1 bm.length yb2)) | fail "A4"); (first | (have HS := Hr.storeZ _ zm (Nat.le_of_lt zl) (w6.heap.size, .int .u8 (ak.toNat : Int), .slice xa1 al.length xa2, .slice ya1 am.length ya2) (w.heap.size, .int .u8 (pk.toNat : Int), .slice px1 pl.length px2, .slice py1 pm.length py2) (by simp) (by simp) (Nat.ne_of_lt (zlow7 Hr zm (by omega))) (Nat.ne_of_lt zl) (.int .u8 (bk.toNat : Int)) (.slice xb1 bl.length xb2) (.slice yb1 bm.length yb2)) | fail "A5"); (first | (obtain ⟨ez0, ez1, ez2, fz0, fz1, fz2⟩ := bz) | fail "A6")))))
    all_goals
      go_wp2_with fail
      go_meet
      first
        | exact ⟨_, xb1, xb2, yb1, yb2, rfl, rfl, _, _, HS⟩
        | exact ⟨_, xb1, xb2, yb1, yb2, rfl, rfl, _, _, (Hr.box (.int .u8 (bk.toNat : Int)) (.slice xb1 bl.length xb2) (.slice yb1 bm.length yb2)).sub (by simp) (by simp)⟩
        | exact ⟨_, xb1, xb2, yb1, yb2, rfl, rfl, _, _, (Hr.box (.int .u8 (bk.toNat : Int)) (.slice xb1 bl.length xb2) (.slice yb1 bm.length yb2)).sub (by intro t ht; simp at ht ⊢; rcases ht with rfl | rfl | rfl <;> simp) (by simp)⟩
  case rest =>
    obtain ⟨zf, xb1, xb2, yb1, yb2, rfl, rfl, cv, cs, H8⟩ := hcut
    clear H7 H7d s7 zlow zlow7
    have b5 := BoxT.box (H8.bx (w.heap.size, .int .u8 (pk.toNat : Int), .slice px1 pl.length px2, .slice py1 pm.length py2) (by simp))
    have b5c0 := b5.c0; have b5c1 := b5.c1; have b5c2 := b5.c2
    simp only at b5c0 b5c1 b5c2
    have rpx : Rd wc (.slice px1 pl.length px2) pl := (H8.sl (.slice px1 pl.length px2, pl) (by simp)).rd
    have rpy : Rd wc (.slice py1 pm.length py2) pm := (H8.sl (.slice py1 pm.length py2, pm) (by simp)).rd
    have rky : Rd wc (.slice (some ⟨gky, 0, none⟩) ck.length kk) ck := (H8.sl (.slice (some ⟨gky, 0, none⟩) ck.length kk, ck) (by simp)).rd
    go_wp2_with fail
    refine (covers_any _ _ _ _ pl pm ck pk.toNat d rpx rpy rky HD.out).mono ?_
    rintro e w9 ⟨rfl, hb⟩
    have H9 := H8.below hb
    clear b5 b5c0 b5c1 b5c2 rpx rpy rky H8 hb
    have t5 := BoxT.box (H9.bx (w.heap.size, .int .u8 (pk.toNat : Int), .slice px1 pl.length px2, .slice py1 pm.length py2) (by simp))
    have t7 := BoxT.box (H9.bx (w6.heap.size, .int .u8 (ak.toNat : Int), .slice xa1 al.length xa2, .slice ya1 am.length ya2) (by simp))
    have t9 := BoxT.box (H9.bx (zf, .int .u8 (bk.toNat : Int), .slice xb1 bl.length xb2, .slice yb1 bm.length yb2) (by simp))
    have rpx : Rd w9 (.slice px1 pl.length px2) pl := (H9.sl (.slice px1 pl.length px2, pl) (by simp)).rd
    have rpy : Rd w9 (.slice py1 pm.length py2) pm := (H9.sl (.slice py1 pm.length py2, pm) (by simp)).rd
    have rxa : Rd w9 (.slice xa1 al.length xa2) al := (H9.sl (.slice xa1 al.length xa2, al) (by simp)).rd
    have rya : Rd w9 (.slice ya1 am.length ya2) am := (H9.sl (.slice ya1 am.length ya2, am) (by simp)).rd
    have rxb : Rd w9 (.slice xb1 bl.length xb2) bl := (H9.sl (.slice xb1 bl.length xb2, bl) (by simp)).rd
    have ryb : Rd w9 (.slice yb1 bm.length yb2) bm := (H9.sl (.slice yb1 bm.length yb2, bm) (by simp)).rd
    have hB9 := H9.bel
    simp only at t5 t7 t9
    clear H9
    have hf := hfin.out
    cases d
    · simp only [Bool.false_eq_true, if_false] at hf
      obtain ⟨rfl, rfl, rfl, rfl⟩ := hf
      have t7' := t7.alloc (.cells #[.int .u8 (bk.toNat : Int), .slice xa1 bl.length xa2, .slice ya1 bm.length ya2] 27)
      have t9' := t9.alloc (.cells #[.int .u8 (bk.toNat : Int), .slice xa1 bl.length xa2, .slice ya1 bm.length ya2] 27)
      have e0 := t7.c0; have e1 := t7.c1; have e2 := t7.c2
      have g0 := t9'.c0; have g1 := t9'.c1; have g2 := t9'.c2
      clear t5 t7 t9 t7' t9' rpx rpy hfin HD HR1 HR2
      go_wp2_with fail
      refine (same_one w w9 bk bl bm _ _ _ _ rxa rya rxb ryb hB9).mono ?_
      rintro e w10 ⟨rfl, hB10⟩
      go_wp2
      go_ret
      exact ⟨ret_bool (by simp), hB10⟩
    · simp only [if_true] at hf
      obtain ⟨rfl, rfl, rfl, rfl⟩ := hf
      have t5' := t5.alloc (.cells #[.int .u8 (bk.toNat : Int), .slice xb1 bl.length xb2, .slice yb1 bm.length yb2] 27)
      have e0 := t9.c0; have e1 := t9.c1; have e2 := t9.c2
      have g0 := t5'.c0; have g1 := t5'.c1; have g2 := t5'.c2
      clear t5 t7 t9 t5' rxa rya hfin HD HR1 HR2
      go_wp2_with fail
      refine (same_one w w9 bk bl bm _ _ _ _ rxb ryb rpx rpy hB9).mono ?_
      rintro e w10 ⟨rfl, hB10⟩
      go_wp2
      go_ret
      exact ⟨ret_bool (by simp), hB10⟩

theorem batchLast_walk (a0 : Option Addr) (len0 cap0 : Nat) (z0 : List OpB) (a1 : Option Addr) (len1 cap1 : Nat) (z1 : List Int) (v2 : Value) (o2 : OpB) (w : World) (w0 : ArgO w (.slice a0 len0 cap0) z0) (w1 : IsRow .u8 w a1 len1 cap1 z1) (w2 : ∃ x y, v2 = .agg #[.int .u8 (o2.1.toNat : Int), x, y] ∧ Arg w x o2.2.1 ∧ Arg w y o2.2.2) :
    Calls Try.prog 9 #[.slice a0 len0 cap0, .slice a1 len1 cap1, v2] w fun e w' => e = .returned (.bool true) ∧ Below w.heap.size w w' := by
  obtain ⟨x, y, rfl, hx, hy⟩ := w2
  exact blast_walk w _ _ z0 _ _ _ x y o2 rfl rfl w0 (arg_of w1) hx hy

end Go.Proofs.Ytlkfdiiapcipoaa
