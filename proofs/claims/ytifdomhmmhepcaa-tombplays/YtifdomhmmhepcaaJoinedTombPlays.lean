/- Several texts in one. -/
import Derived.Test.YtifdomhmmhepcaaTbRowT
import Derived.Test.YtifdomhmmhepcaaTbAppSeq
import Derived.BigQuiet
import Derived.Deep.RegionLaw
import Derived.Test.YtifdomhmmhepcaaTbCover
import Derived.Test.YtifdomhmmhepcaaCut
import Derived.Deep.RegionHeld3
import Derived.Test.YtifdomhmmhepcaaBoxes
import Derived.Lib.ConvBytes
import Derived.Lib.SmallJoins
import Derived.Test.YtifdomhmmhepcaaBase
import Derived.Test.YtifdomhmmhepcaaLists

/- slices.DeleteFunc of spans, as tomb.Fragments calls it. -/
namespace Go.Proofs.Ytifdomhmmhepcaa
set_option maxRecDepth 20000
open Go.RowKit
set_option linter.unusedVariables false
set_option linter.unusedSimpArgs false

/-- does it cover the place? -/
def covT (k : List UInt8) (t : SpC) : Bool := covB t.e.1 t.e.2.1 k

/-- the function that is handed in: away with what doesn't cover the place -/
theorem delcl_any (w : World) (x y kv : Value) (l m k : List UInt8) (s : Int) (fb : Nat) (r : Bool) (hx : Rd w x l) (hy : Rd w y m) (hc : w.cell? ⟨fb, 0, none⟩ = some kv) (hk : Rd w kv k) (hr : covB l m k = r) :
    Calls Try.prog 37 #[spV x y s, .pointer (some ⟨fb, 0, none⟩)] w fun e w' => e = .returned (.bool (!r)) ∧ Below w.heap.size w w' := by
  obtain ⟨xa, xc, rfl⟩ := hx.len
  obtain ⟨ya, yc, rfl⟩ := hy.len
  obtain ⟨ka, kc, rfl⟩ := hk.len
  have hb0 := below_box w #[.slice xa l.length xc, .slice ya m.length yc, .int .u64 s] 32
  have HB0 : Hid (Below w.heap.size w (w.alloc (.cells #[.slice xa l.length xc, .slice ya m.length yc, .int .u64 s] 32))) := hb0
  have e1 := covers_any (w.alloc (.cells #[.slice xa l.length xc, .slice ya m.length yc, .int .u64 s] 32)) _ _ _ l m k s r (hx.below hb0 (Nat.le_refl _)) (hy.below hb0 (Nat.le_refl _)) (hk.below hb0 (Nat.le_refl _)) hr
  obtain ⟨c0, c1, c2, _, _, _⟩ := box_new w (.slice xa l.length xc) (.slice ya m.length yc) (.int .u64 s) 32
  have c3 : (w.alloc (.cells #[.slice xa l.length xc, .slice ya m.length yc, .int .u64 s] 32)).cell? ⟨fb, 0, none⟩ = some (.slice ka k.length kc) := (hb0.cell (p := ⟨fb, 0, none⟩) (World.block_lt_of_cell? w _ hc)).trans hc
  clear hx hy hk hb0 hc hr
  go_enter Try.func37, Try.ntmps37
  go_wp2_with fail
  refine e1.mono ?_
  rintro o w1 ⟨rfl, hb1⟩
  have HB1 : Hid (Below w.heap.size w w1) := bsplit HB0.out hb1
  clear e1 hb1
  go_wp2
  go_ret
  exact ⟨rfl, HB1.out⟩

/-- where the first one is that doesn't cover the place -/
def IdxT (k : List UInt8) (ts : List SpC) (r : Int) : Prop := (r = -1 ∧ ∀ t ∈ ts, covT k t = true) ∨ ∃ i, ∃ h : i < ts.length, r = (i : Int) ∧ covT k ts[i] = false ∧ ∀ j (hj : j < i), covT k (ts[j]'(by omega)) = true

set_option maxHeartbeats 4000000 in
theorem tidx_any (w0 w : World) (B fb : Nat) (v kv : Value) (k : List UInt8) (ts : List SpC) (hR : RowT w0 B w v ts) (hb : Below w0.heap.size w0 w) (hc : w.cell? ⟨fb, 0, none⟩ = some kv) (hk : Rd w0 kv k) :
    Calls Try.prog 51 #[v, .func (.func 37) #[] #[.pointer (some ⟨fb, 0, none⟩)]] w fun e w' => ∃ r, e = .returned (.int .i64 r) ∧ IdxT k ts r ∧ Below w.heap.size w w' := by
  obtain ⟨a, cap, rfl, h1, h2⟩ := hR.shape
  obtain ⟨N, hN⟩ : ∃ N, ts.length = N := ⟨_, rfl⟩
  have HR : Hid (RowT w0 B w (.slice a ts.length cap) ts) := hR
  rw [hN] at h1 HR ⊢
  have HN : Hid (ts.length = N) := hN
  have HW : Hid (Below w0.heap.size w0 w) := hb
  have HK : Hid (Rd w0 kv k) := hk
  have HC : Hid (w.cell? ⟨fb, 0, none⟩ = some kv) := hc
  clear hN hb hk hc hR
  go_enter Try.func51, Try.ntmps51
  go_wp2_with fail
  go_loopg [8] N (fun gk iv wr => ∃ j : Nat, gk + j = N ∧ iv = .int .i64 (j : Int) ∧ Hid (∀ i (h : i < ts.length), i < j → covT k ts[i] = true) ∧ Hid (Below w.heap.size w wr))
  case atStart => exact ⟨0, by omega, rfl, fun i _ h => absurd h (Nat.not_lt_zero _), Below.refl _ _⟩
  case round =>
    obtain ⟨j, hj, rfl, HS, HB⟩ := hrel
    by_cases hlt : j < N
    · have hlt2 : j < ts.length := by rw [HN.out]; exact hlt
      have hRr := HR.out.below HB.out
      obtain ⟨g, c', eg, _⟩ := hRr.form (by omega)
      cases eg
      obtain ⟨c0, c1, c2, _⟩ := hRr.at HN.out j hlt2
      obtain ⟨rx, ry⟩ := hRr.2 ts[j] (List.getElem_mem hlt2)
      have hbr : Below w0.heap.size w0 wr := bsplit HW.out HB.out
      obtain ⟨q1, q2⟩ := gk_nxt hj hlt
      have hr : covB ts[j].e.1 ts[j].e.2.1 k = covT k ts[j] := rfl
      have hcl := delcl_any wr ts[j].x ts[j].y kv _ _ k (ts[j].e.2.2 : Int) fb _ (rx.below hbr (Nat.le_refl _)) (ry.below hbr (Nat.le_refl _)) ((HB.out.cell (p := ⟨fb, 0, none⟩) (World.block_lt_of_cell? w _ HC.out)).trans HC.out) (HK.out.below hbr (Nat.le_refl _)) hr
      obtain ⟨x1, x2, ex⟩ := rx.len
      obtain ⟨y1, y2, ey⟩ := ry.len
      rw [ex, ey] at hcl
      rw [ex] at c0
      rw [ey] at c1
      obtain ⟨nl, hnl⟩ : ∃ nl, ts[j].e.1.length = nl := ⟨_, rfl⟩
      obtain ⟨ml, hml⟩ : ∃ ml, ts[j].e.2.1.length = ml := ⟨_, rfl⟩
      obtain ⟨sq, hsq⟩ : ∃ z : Int, (ts[j].e.2.2 : Int) = z := ⟨_, rfl⟩
      obtain ⟨r, hr9⟩ : ∃ r, covT k ts[j] = r := ⟨_, rfl⟩
      rw [hnl, hml, hsq, hr9] at hcl
      rw [hnl] at c0
      rw [hml] at c1
      rw [hsq] at c2
      have HRR : Hid (covT k ts[j] = r) := hr9
      clear rx ry hbr hr hnl hml hsq hr9 ex ey hRr
      go_wp2_with fail
      refine hcl.mono ?_
      rintro o w2 ⟨rfl, hb2⟩
      have HB2 : Hid (Below w.heap.size w w2) := bsplit HB.out hb2
      clear hcl hb2 c0 c1 c2
      cases r
      · go_wp2_with fail
        go_wp2
        go_ret
        exact ⟨_, rfl, .inr ⟨j, hlt2, rfl, HRR.out, fun i hi => HS.out i (by omega) hi⟩, HB2.out⟩
      · go_wp2_with fail
        go_roundg (gk - 1)
        case measure => exact q1
        case rel =>
          refine ⟨j + 1, q2, by go_num, fun i hi h => ?_, HB2⟩
          by_cases h9 : i = j
          · subst h9; exact HRR.out
          · exact HS.out i hi (by omega)
    · have hjN : j = N := by omega
      subst hjN
      go_wp2_with fail
      go_wp2
      go_ret
      refine ⟨_, rfl, .inl ⟨rfl, fun t ht => ?_⟩, HB.out⟩
      obtain ⟨i, hi, rfl⟩ := List.getElem_of_mem ht
      exact HS.out i hi (by rw [← HN.out]; exact hi)

end Go.Proofs.Ytifdomhmmhepcaa

/- slices.DeleteFunc of spans, as tomb.Fragments calls it: the loop. -/
namespace Go.Proofs.Ytifdomhmmhepcaa
set_option maxRecDepth 20000
open Go.RowKit
set_option linter.unusedVariables false
set_option linter.unusedSimpArgs false

theorem infoSpZ : ∀ w, (zeroValue 32).run Try.prog w = .ok (.agg #[.slice none 0 0, .slice none 0 0, .int .u64 0]) w := Try.zeroValue32

/-- so far has it come: the first i are what stays of the first j, from j on it is as it was -/
def DelI (k : List UInt8) (ts D : List SpC) (i j : Nat) : Prop := D.length = ts.length ∧ i < j ∧ D.take i = (ts.take j).filter (covT k) ∧ D.drop j = ts.drop j

theorem DelI.start {k : List UInt8} {ts : List SpC} {i : Nat} (hi : i < ts.length) (hf : covT k ts[i] = false) (ha : ∀ j (hj : j < i), covT k (ts[j]'(by omega)) = true) : DelI k ts ts i (i + 1) := by
  refine ⟨rfl, by omega, ?_, rfl⟩
  rw [List.take_succ_eq_append_getElem hi, List.filter_append]
  have e1 : (ts.take i).filter (covT k) = ts.take i := List.filter_eq_self.2 (fun t ht => by
    obtain ⟨j, hj, rfl⟩ := List.getElem_of_mem ht
    rw [List.length_take] at hj
    rw [List.getElem_take]
    exact ha j (by omega))
  rw [e1]
  simp [hf]

theorem DelI.skip {k : List UInt8} {ts D : List SpC} {i j : Nat} (h : DelI k ts D i j) (hj : j < ts.length) (hf : covT k ts[j] = false) : DelI k ts D i (j + 1) := by
  obtain ⟨h1, h2, h3, h4⟩ := h
  refine ⟨h1, by omega, ?_, ?_⟩
  · rw [h3, List.take_succ_eq_append_getElem hj, List.filter_append]
    simp [hf]
  · rw [← List.drop_drop, h4, List.drop_drop]

theorem DelI.keep {k : List UInt8} {ts D : List SpC} {i j : Nat} (h : DelI k ts D i j) (hj : j < ts.length) (hf : covT k ts[j] = true) : DelI k ts (D.set i ts[j]) (i + 1) (j + 1) := by
  obtain ⟨h1, h2, h3, h4⟩ := h
  have hi : i < D.length := by omega
  refine ⟨by rw [List.length_set]; exact h1, by omega, ?_, ?_⟩
  · rw [List.take_succ_eq_append_getElem (by rw [List.length_set]; exact hi), List.getElem_set_self, List.take_set_of_le (Nat.le_refl _), h3, List.take_succ_eq_append_getElem hj, List.filter_append]
    simp [hf]
  · rw [List.drop_set_of_lt (by omega), ← List.drop_drop, h4, List.drop_drop]

theorem DelI.at {k : List UInt8} {ts D : List SpC} {i j : Nat} (h : DelI k ts D i j) (hj : j < ts.length) : ∃ hD : j < D.length, D[j] = ts[j] := by
  obtain ⟨h1, h2, h3, h4⟩ := h
  refine ⟨by omega, ?_⟩
  have e1 : (D.drop j)[0]? = D[j]? := by simp
  have e2 : (ts.drop j)[0]? = ts[j]? := by simp
  have h9 := e1.symm.trans ((congrArg (·[0]?) h4).trans e2)
  rw [List.getElem?_eq_getElem (by omega), List.getElem?_eq_getElem hj] at h9
  exact Option.some.inj h9

/-- what slices.DeleteFunc leaves -/
def DelPost (w0 : World) (B : Nat) (w : World) (v : Value) (k : List UInt8) (ts : List SpC) (e : Ending) (w' : World) : Prop :=
  ∃ v', e = .returned v' ∧ RowT w0 B w' v' (ts.filter (covT k)) ∧ w.grownBy w' v.ownBlock ∧ v'.ownBlock = v.ownBlock

set_option maxHeartbeats 4000000 in
theorem tdel_any (w0 w : World) (B fb : Nat) (v kv : Value) (k : List UInt8) (ts : List SpC) (hR : RowT w0 B w v ts) (hb : Below w0.heap.size w0 w) (hB : w0.heap.size ≤ B) (hc : w.cell? ⟨fb, 0, none⟩ = some kv) (hk : Rd w0 kv k) (hfb : v.ownBlock ≠ some fb) :
    Calls Try.prog 36 #[v, .func (.func 37) #[] #[.pointer (some ⟨fb, 0, none⟩)]] w (DelPost w0 B w v k ts) := by
  have hix := tidx_any w0 w B fb v kv k ts hR hb hc hk
  have HR : Hid (RowT w0 B w v ts) := hR
  have HW : Hid (Below w0.heap.size w0 w) := hb
  have HK : Hid (Rd w0 kv k) := hk
  have HC : Hid (w.cell? ⟨fb, 0, none⟩ = some kv) := hc
  obtain ⟨a, cap, rfl, h1, h2⟩ := hR.shape
  obtain ⟨N, hN⟩ : ∃ N, ts.length = N := ⟨_, rfl⟩
  rw [hN] at h1 hix HR hfb ⊢
  have HN : Hid (ts.length = N) := hN
  clear hN hR hb hk hc
  go_enter Try.func36, Try.ntmps36
  go_wp2_with fail
  refine hix.mono ?_
  rintro o w1 ⟨r, rfl, hI, hb1⟩
  have HB1 : Hid (Below w.heap.size w w1) := hb1
  clear hix hb1
  rcases hI with ⟨rfl, hall⟩ | ⟨i0, hi0, rfl, hf0, ha0⟩
  · have HA : Hid (ts.filter (covT k) = ts) := List.filter_eq_self.2 hall
    clear hall
    go_wp2
    go_ret
    refine ⟨_, rfl, ?_, grownBy_of_below HB1.out _, rfl⟩
    rw [HA.out]
    exact HR.out.below HB1.out
  have hi1 : i0 < N := by rw [← HN.out]; exact hi0
  have hne : ((i0 : Int) == -1) = false := beq_eq_false_iff_ne.2 (by omega)
  have HD0 : Hid (DelI k ts ts i0 (i0 + 1)) := DelI.start hi0 hf0 ha0
  obtain ⟨g, c', eg, hgc1, hgc2⟩ := HR.out.form (by rw [HN.out]; omega)
  rw [HN.out] at eg
  cases eg
  have HG : Hid (g ≠ fb) := fun e => hfb (by rw [e]; rfl)
  have HR1 : Hid (RowT w0 B w1 (.slice (some ⟨g, 0, none⟩) N cap) ts) := HR.out.below HB1.out
  have HFB : Hid (w1.cell? ⟨fb, 0, none⟩ = some kv) := (HB1.out.cell (p := ⟨fb, 0, none⟩) (World.block_lt_of_cell? w _ HC.out)).trans HC.out
  have HW1 : Hid (Below w0.heap.size w0 w1) := bsplit HW.out HB1.out
  have HGB : Hid (B ≤ g ∧ g < w1.heap.size) := by have := HR1.out.1.lt g rfl; exact this
  clear hf0 ha0 hfb hi0 HC
  go_wp2_with fail
  go_loopg [5, 6, 7] N (fun gk iv jv _ wr => ∃ i j : Nat, ∃ D : List SpC, (N ≤ gk + j ∧ j ≤ N) ∧ iv = .int .i64 (i : Int) ∧ jv = .int .i64 (j : Int) ∧ Hid (DelI k ts D i j) ∧ Hid (RowT w0 B wr (.slice (some ⟨g, 0, none⟩) N cap) D) ∧ Hid (w1.grownBy wr (some g)))
  case atStart => exact ⟨i0, i0 + 1, ts, by omega, rfl, by go_num, HD0, HR1, ⟨rfl, rfl, rfl, Nat.le_refl _, fun _ _ _ => rfl⟩⟩
  case round =>
    obtain ⟨i, j, D, hj, rfl, rfl, HD, HRD, HGR⟩ := hrel
    have hij : i < j := HD.out.2.1
    have HDL : Hid (D.length = N) := HD.out.1.trans HN.out
    by_cases hlt : j < N
    · have hlt2 : j < ts.length := by rw [HN.out]; exact hlt
      obtain ⟨hjD, eD⟩ := HD.out.at hlt2
      obtain ⟨c0, c1, c2, _⟩ := HRD.out.at HDL.out j hjD
      have hiD : i < D.length := by omega
      obtain ⟨d0, d1, d2, f0, f1, f2⟩ := HRD.out.at HDL.out i hiD
      have q1 : gk - 1 < gk := by omega
      have q2 : N ≤ gk - 1 + (j + 1) ∧ j + 1 ≤ N := by omega
      obtain ⟨rx, ry⟩ := HRD.out.2 D[j] (List.getElem_mem hjD)
      have HGD : Hid (GdS w0 D[j]) := ⟨rx, ry⟩
      have hbr : Below w0.heap.size w0 wr := HW1.out.grown HGR.out (HW1.out.size) (fun q hq => by cases hq; have := HGB.out.1; omega)
      have hcf : wr.cell? ⟨fb, 0, none⟩ = some kv := HGR.out.cell HFB.out (fun e => HG.out (by cases e; rfl))
      obtain ⟨xa, xc, ex⟩ := rx.len
      obtain ⟨ya, yc, ey⟩ := ry.len
      have HEE : Hid (D[j].x = .slice xa D[j].e.1.length xc ∧ D[j].y = .slice ya D[j].e.2.1.length yc) := ⟨ex, ey⟩
      rw [ex] at c0
      rw [ey] at c1
      obtain ⟨nl, hnl⟩ : ∃ nl, D[j].e.1.length = nl := ⟨_, rfl⟩
      obtain ⟨ml, hml⟩ : ∃ ml, D[j].e.2.1.length = ml := ⟨_, rfl⟩
      obtain ⟨sq, hsq⟩ : ∃ z : Int, (D[j].e.2.2 : Int) = z := ⟨_, rfl⟩
      obtain ⟨r, hr9⟩ : ∃ r, covT k D[j] = r := ⟨_, rfl⟩
      have hbx := below_box wr #[.slice xa nl xc, .slice ya ml yc, .int .u64 sq] 32
      have BX := box_new wr (.slice xa nl xc) (.slice ya ml yc) (.int .u64 sq) 32
      have hbr2 : Below w0.heap.size w0 (wr.alloc (.cells #[.slice xa nl xc, .slice ya ml yc, .int .u64 sq] 32)) := bsplit hbr hbx
      have hcl := delcl_any (wr.alloc (.cells #[.slice xa nl xc, .slice ya ml yc, .int .u64 sq] 32)) D[j].x D[j].y kv _ _ k (D[j].e.2.2 : Int) fb r (rx.below hbr2 (Nat.le_refl _)) (ry.below hbr2 (Nat.le_refl _)) ((hbx.cell (p := ⟨fb, 0, none⟩) (World.block_lt_of_cell? wr _ hcf)).trans hcf) (HK.out.below hbr2 (Nat.le_refl _)) hr9
      have HSQ : Hid (D[j].e.1.length = nl ∧ D[j].e.2.1.length = ml ∧ (D[j].e.2.2 : Int) = sq) := ⟨hnl, hml, hsq⟩
      rw [ex, ey, hnl, hml, hsq] at hcl
      rw [hnl] at c0
      rw [hml] at c1
      rw [hsq] at c2
      have HRR : Hid (covT k ts[j] = r) := by show _ = _; rw [← eD]; exact hr9
      have HED : Hid (D[j] = ts[j]) := eD
      have HBX : Hid (Below wr.heap.size wr (wr.alloc (.cells #[.slice xa nl xc, .slice ya ml yc, .int .u64 sq] 32))) := hbx
      have HDF : Hid (i < D.length) := hiD
      have BX' := BX
      obtain ⟨z0, z1, z2, _, _, _⟩ := BX'
      clear rx ry hbr hnl hml hsq hr9 ex ey hbr2 hbx eD hcf d0 d1 d2 f0 f1 f2
      go_wp2_with fail
      refine hcl.mono ?_
      rintro o w2 ⟨rfl, hb2⟩
      have hb2' : Below wr.heap.size wr w2 := bsplit HBX.out hb2
      clear z0 z1 z2
      obtain ⟨z0, z1, z2, _, _, _⟩ := BX.below hb2 (Nat.le_refl _)
      have HR2 : Hid (RowT w0 B w2 (.slice (some ⟨g, 0, none⟩) N cap) D) := HRD.out.below hb2'
      have HG2 : Hid (w1.grownBy w2 (some g)) := grownBy_trans HGR.out (grownBy_of_below hb2' _)
      obtain ⟨d0, d1, d2, f0, f1, f2⟩ := HR2.out.at HDL.out i HDF.out
      clear hcl hb2 hb2' BX c0 c1 c2
      cases r
      · go_wp2_with fail
        go_roundg (gk - 1)
        case measure => exact q1
        case rel => exact ⟨i, j + 1, D, q2, rfl, by go_num, HD.out.skip hlt2 HRR.out, HR2, HG2⟩
      · obtain ⟨kp, kg⟩ := HR2.out.put HDL.out i HDF.out D[j] HGD.out
        rw [HEE.out.1, HEE.out.2, HSQ.out.1, HSQ.out.2.1, HSQ.out.2.2] at kp kg
        have HKP : Hid _ := kp
        have HKG : Hid _ := kg
        clear kp kg
        go_wp2_with fail
        go_roundg (gk - 1)
        case measure => exact q1
        case rel => exact ⟨i + 1, j + 1, D.set i D[j], q2, by go_num, by go_num, (by rw [HED.out]; exact HD.out.keep hlt2 HRR.out), HKP, grownBy_trans HG2.out HKG.out⟩
    · have hjN : j = N := by omega
      subst hjN
      have HFI : Hid (D.take i = ts.filter (covT k)) := by
        show _ = _
        rw [HD.out.2.2.1, ← HN.out, List.take_length]
      obtain ⟨w9, hcl, hrow, hgr⟩ := clear_own (P := Try.prog) (t := 22) (ty := 0) Try.underlying22 infoSpZ (size := 3) rfl (by decide) (by intro u hu; simp [Value.cells] at hu; rcases hu with rfl | rfl | rfl <;> rfl) (by have h := HRD.out.1; rw [HDL.out] at h; exact h) hij
      have HRW : Hid _ := hrow
      have HGG : Hid _ := hgr
      clear hrow hgr
      go_wp2_with fail
      go_ret
      have hli : (ts.filter (covT k)).length = i := by rw [← HFI.out, List.length_take, HDL.out]; omega
      refine ⟨_, rfl, ⟨?_, fun t ht => HR.out.2 t (List.mem_filter.1 ht).1⟩, grownBy_trans (grownBy_of_below HB1.out _) (grownBy_trans HGR.out HGG.out), rfl⟩
      rw [hli, ← HFI.out, ← flatS_take]
      exact HRW.out

end Go.Proofs.Ytifdomhmmhepcaa

/- What tomb.Fragments holds from round to round. -/
namespace Go.Proofs.Ytifdomhmmhepcaa
set_option maxRecDepth 20000
open Go.RowKit
set_option linter.unusedVariables false
set_option linter.unusedSimpArgs false

/-- spans of one's own, their bytes too -/
def AllS (B : Nat) (w : World) (v : Value) (es : List SpB) : Prop :=
  ∃ cs, w.ownsRow B 32 3 v es.length cs ∧ ∀ j (h : j < es.length), ∃ x y, cs[j * 3]? = some x ∧ cs[j * 3 + 1]? = some y ∧ cs[j * 3 + 2]? = some (.int .u64 (es[j].2.2 : Int)) ∧ OwnN B w x es[j].1 ∧ OwnN B w y es[j].2.1

theorem AllS.nil (B : Nat) (w : World) : AllS B w (.slice none 0 0) [] := ⟨[], World.ownsRow_nil _ _ _ _, fun _ h => absurd h (Nat.not_lt_zero _)⟩

theorem AllS.kept {B B' n : Nat} {w w' : World} {v o : Value} {es : List SpB} {cs : List Value} (h : AllS B w v es) (hr : w.ownsRow B' 32 3 o n cs) (hg : w.grownBy w' o.ownBlock) (hne : v.ownBlock = none ∨ v.ownBlock ≠ o.ownBlock) : AllS B w' v es := by
  obtain ⟨ds, h1, h2⟩ := h
  refine ⟨ds, h1.kept hg hne, fun j hj => ?_⟩
  obtain ⟨x, y, c0, c1, c2, ox, oy⟩ := h2 j hj
  exact ⟨x, y, c0, c1, c2, ownN_kept ox (by decide) hr hg, ownN_kept oy (by decide) hr hg⟩

theorem AllS.below {B : Nat} {w w' : World} {v : Value} {es : List SpB} (h : AllS B w v es) (hb : Below w.heap.size w w') : AllS B w' v es := by
  obtain ⟨ds, h1, h2⟩ := h
  refine ⟨ds, row_below h1 hb, fun j hj => ?_⟩
  obtain ⟨x, y, c0, c1, c2, ox, oy⟩ := h2 j hj
  exact ⟨x, y, c0, c1, c2, ox.below hb (Nat.le_refl _), oy.below hb (Nat.le_refl _)⟩

theorem AllS.rd {B : Nat} {w : World} {v : Value} {es : List SpB} (h : AllS B w v es) : RdS w v es := by
  obtain ⟨cs, hr, hj⟩ := h
  have hr2 := hr
  rcases hr.2 with ⟨e, hn⟩ | ⟨g, cap, cur, e, hb, hg, h1, h2, h3, h4⟩
  · exact ⟨none, 0, by rw [e, hn], by omega, Nat.zero_le _, fun j hj => by omega⟩
  · subst e
    refine ⟨_, cap, rfl, h1, h2, fun j h => ⟨g, 0, rfl, ?_⟩⟩
    obtain ⟨x, y, c0, c1, c2, ox, oy⟩ := hj j h
    have hc := hr2.cells (g := g) rfl
    refine ⟨x, y, ?_, ?_, ?_, ox.rd, oy.rd⟩
    · have := hc _ _ c0; rwa [Addr.add_lit] at this
    · have := hc _ _ c1; rwa [Addr.add_lit] at this
    · have := hc _ _ c2; rwa [Addr.add_lit] at this

/-- one more -/
theorem AllS.push {B g c n : Nat} {w w' : World} {v x y : Value} {es : List SpB} {cs : List Value} (o : SpB) (hl : es.length = n) (hrow : w.ownsRow B 32 3 v n cs)
    (hel : ∀ j (h : j < es.length), ∃ x y, cs[j * 3]? = some x ∧ cs[j * 3 + 1]? = some y ∧ cs[j * 3 + 2]? = some (.int .u64 (es[j].2.2 : Int)) ∧ OwnN B w x es[j].1 ∧ OwnN B w y es[j].2.1)
    (hx : OwnN B w x o.1) (hy : OwnN B w y o.2.1) (hn : w'.ownsRow B 32 3 (.slice (some ⟨g, 0, none⟩) (n + 1) c) (n + 1) (cs ++ [x, y, .int .u64 (o.2.2 : Int)])) (hg : w.grownBy w' v.ownBlock) : AllS B w' (.slice (some ⟨g, 0, none⟩) (n + 1) c) (es ++ [o]) := by
  subst hl
  have hcl : cs.length = es.length * 3 := hrow.1
  refine ⟨_, by rw [List.length_append]; exact hn, fun j h => ?_⟩
  by_cases hj : j < es.length
  · obtain ⟨x', y', c0, c1, c2, ox, oy⟩ := hel j hj
    refine ⟨x', y', ?_, ?_, ?_, ?_, ?_⟩
    · rw [List.getElem?_append_left (by omega)]; exact c0
    · rw [List.getElem?_append_left (by omega)]; exact c1
    · rw [List.getElem?_append_left (by omega), List.getElem_append_left hj]; exact c2
    · rw [List.getElem_append_left hj]; exact ownN_kept ox (by decide) hrow hg
    · rw [List.getElem_append_left hj]; exact ownN_kept oy (by decide) hrow hg
  · have hje : j = es.length := by rw [List.length_append] at h; simp at h; omega
    subst hje
    have e : (es ++ [o])[es.length]'h = o := by simp
    rw [e]
    refine ⟨x, y, ?_, ?_, ?_, ownN_kept hx (by decide) hrow hg, ownN_kept hy (by decide) hrow hg⟩
    · rw [List.getElem?_append_right (by omega), show es.length * 3 - cs.length = 0 by omega]; rfl
    · rw [List.getElem?_append_right (by omega), show es.length * 3 + 1 - cs.length = 1 by omega]; rfl
    · rw [List.getElem?_append_right (by omega), show es.length * 3 + 2 - cs.length = 2 by omega]; rfl

/-- the four rows: places, what has not begun, what is over the place, all that there is so far -/
structure FrS (w wr : World) (gp M cp : Nat) (ps : List PlC) (gb N cb : Nat) (ts : List SpC) (ov : Value) (os : List SpC) (av : Value) (fs : List SpB) : Prop where
  bel : Below w.heap.size w wr
  plc : RowP w w.heap.size wr (.slice (some ⟨gp, 0, none⟩) M cp) ps
  beg : RowT w w.heap.size wr (.slice (some ⟨gb, 0, none⟩) N cb) ts
  ovr : RowT w w.heap.size wr ov os
  all : AllS w.heap.size wr av fs
  n1 : ov.ownBlock ≠ some gb
  n3 : av.ownBlock ≠ some gb
  n5 : av.ownBlock = none ∨ av.ownBlock ≠ ov.ownBlock

theorem AllS.lt {B : Nat} {w : World} {v : Value} {es : List SpB} (h : AllS B w v es) : ∀ q, v.ownBlock = some q → B ≤ q ∧ q < w.heap.size := by
  obtain ⟨cs, hr, _⟩ := h
  exact fun q hq => hr.lt q hq

theorem FrS.below {w wr w' : World} {gp M cp : Nat} {ps : List PlC} {gb N cb : Nat} {ts : List SpC} {ov : Value} {os : List SpC} {av : Value} {fs : List SpB} (h : FrS w wr gp M cp ps gb N cb ts ov os av fs) (hb : Below wr.heap.size wr w') : FrS w w' gp M cp ps gb N cb ts ov os av fs :=
  ⟨bsplit h.bel hb, h.plc.below hb, h.beg.below hb, h.ovr.below hb, h.all.below hb, h.n1, h.n3, h.n5⟩

theorem neP {w wr : World} {B B' gp M cp n : Nat} {ps : List PlC} {o : Value} {cs : List Value} (hp : RowP w B wr (.slice (some ⟨gp, 0, none⟩) M cp) ps) (hr : wr.ownsRow B' 32 3 o n cs) : (Value.slice (some ⟨gp, 0, none⟩) M cp).ownBlock = none ∨ (Value.slice (some ⟨gp, 0, none⟩) M cp).ownBlock ≠ o.ownBlock := rows_ne (by decide) hr hp.1

/-- what is over the place is another row -/
theorem FrS.ov {w wr w' : World} {gp M cp : Nat} {ps : List PlC} {gb N cb : Nat} {ts : List SpC} {ov ov' : Value} {os os' : List SpC} {av : Value} {fs : List SpB} (h : FrS w wr gp M cp ps gb N cb ts ov os av fs) (hg : wr.grownBy w' ov.ownBlock) (hr : RowT w w.heap.size w' ov' os') (hat : ov'.ownBlock = ov.ownBlock ∨ ∃ g, ov'.ownBlock = some g ∧ wr.heap.size ≤ g) : FrS w w' gp M cp ps gb N cb ts ov' os' av fs := by
  have hbl := h.beg.1.lt gb rfl
  refine ⟨h.bel.grown hg h.bel.size (fun q hq => (h.ovr.1.lt q hq).1), h.plc.kept hg (neP h.plc h.ovr.1), h.beg.kept hg (.inr (fun e => h.n1 e.symm)), hr, h.all.kept h.ovr.1 hg h.n5, ?_, h.n3, ?_⟩
  · rcases hat with e | ⟨g, e, hg⟩
    · rw [e]; exact h.n1
    · rw [e]; intro e2; cases e2; omega
  · rcases hat with e | ⟨g, e, hg⟩
    · rw [e]; exact h.n5
    · rw [e]
      refine .inr (fun e2 => ?_)
      have := (h.all.lt g e2).2
      omega

/-- one more is told -/
theorem FrS.al {w wr w' : World} {gp M cp : Nat} {ps : List PlC} {gb N cb : Nat} {ts : List SpC} {ov : Value} {os : List SpC} {av av' : Value} {fs fs' : List SpB} (h : FrS w wr gp M cp ps gb N cb ts ov os av fs) (hg : wr.grownBy w' av.ownBlock) (hr : AllS w.heap.size w' av' fs') (hat : av'.ownBlock = av.ownBlock ∨ ∃ g, av'.ownBlock = some g ∧ wr.heap.size ≤ g) : FrS w w' gp M cp ps gb N cb ts ov os av' fs' := by
  have hbl := h.beg.1.lt gb rfl
  obtain ⟨cs, hrow, _⟩ := h.all
  have n5' : ov.ownBlock = none ∨ ov.ownBlock ≠ av.ownBlock := by
    rcases h.n5 with e | e
    · rw [e]; cases hh : ov.ownBlock with
      | none => exact .inl rfl
      | some q => exact .inr (by simp)
    · exact .inr (fun e2 => e e2.symm)
  refine ⟨h.bel.grown hg h.bel.size (fun q hq => (h.all.lt q hq).1), h.plc.kept hg (neP h.plc hrow), h.beg.kept hg (.inr (fun e => h.n3 e.symm)), h.ovr.kept hg n5', hr, h.n1, ?_, ?_⟩
  · rcases hat with e | ⟨g, e, hg⟩
    · rw [e]; exact h.n3
    · rw [e]; intro e2; cases e2; omega
  · rcases hat with e | ⟨g, e, hg⟩
    · rw [e]; exact h.n5
    · rw [e]
      refine .inr (fun e2 => ?_)
      have := (h.ovr.1.lt g e2.symm).2
      omega

/-- what is over the places, in pure terms: i rounds are done, q have begun -/
structure OvI (P : List (List UInt8)) (ts os : List SpC) (i q : Nat) : Prop where
  le : q ≤ ts.length
  len : os.length ≤ q
  sub : ∀ t ∈ os, t ∈ ts.take q
  has : ∀ t ∈ ts.take q, ∀ j (h : j < P.length), i ≤ j → covT P[j] t = true → t ∈ os
  low : ∀ t ∈ ts.take q, ∀ j (h : j < P.length), i ≤ j → ¬ Lib.compareBytes P[j] t.e.1 < 0
  hi : ∀ t ∈ ts.drop q, ∀ j (h : j < P.length), j < i → Lib.compareBytes P[j] t.e.1 < 0

theorem OvI.start (P : List (List UInt8)) (ts : List SpC) : OvI P ts [] 0 0 :=
  ⟨Nat.zero_le _, Nat.le_refl _, by simp, by simp, by simp, fun t ht j h hj => absurd hj (Nat.not_lt_zero _)⟩

/-- within round i: what is over the place is what has begun and covers it -/
structure OvM (P : List (List UInt8)) (ts os : List SpC) (i q : Nat) (hi : i < P.length) : Prop where
  le : q ≤ ts.length
  len : os.length ≤ q
  iff : ∀ t, t ∈ os ↔ t ∈ ts.take q ∧ covT P[i] t = true
  low : ∀ t ∈ ts.take q, ¬ Lib.compareBytes P[i] t.e.1 < 0
  hi : ∀ t ∈ ts.drop q, ∀ j (h : j < P.length), j < i → Lib.compareBytes P[j] t.e.1 < 0

theorem OvI.del {P : List (List UInt8)} {ts os : List SpC} {i q : Nat} (h : OvI P ts os i q) (hi : i < P.length) : OvM P ts (os.filter (covT P[i])) i q hi := by
  refine ⟨h.le, Nat.le_trans (List.length_filter_le _ _) h.len, fun t => ?_, fun t ht => h.low t ht i hi (Nat.le_refl _), h.hi⟩
  rw [List.mem_filter]
  exact ⟨fun ⟨h1, h2⟩ => ⟨h.sub t h1, h2⟩, fun ⟨h1, h2⟩ => ⟨h.has t h1 i hi (Nat.le_refl _) h2, h2⟩⟩

/-- the places rise -/
def RiseL (P : List (List UInt8)) : Prop := ∀ i j (hj : j < P.length) (h : i < j), Lib.compareBytes (P[i]'(by omega)) P[j] < 0

theorem OvM.next {P : List (List UInt8)} {ts os : List SpC} {i q : Nat} {hi : i < P.length} (h : OvM P ts os i q hi) (hq : q < ts.length) (hP : RiseL P) (hm : ∀ t ∈ ts, t.e.1 ∈ P) (hU : ∀ t ∈ ts, Lib.compareBytes t.e.1 t.e.2.1 < 0) (hb : ¬ Lib.compareBytes P[i] ts[q].e.1 < 0) : OvM P ts (os ++ [ts[q]]) i (q + 1) hi := by
  have htk : ts.take (q + 1) = ts.take q ++ [ts[q]] := List.take_succ_eq_append_getElem hq
  have hc : covT P[i] ts[q] = true := by
    unfold covT
    rw [cov_iff]
    refine ⟨hb, ?_⟩
    obtain ⟨a, ha, ea⟩ := List.getElem_of_mem (hm ts[q] (List.getElem_mem hq))
    have hai : a = i := by
      rcases Nat.lt_trichotomy a i with h1 | h1 | h1
      · have h2 := h.hi ts[q] (List.mem_drop_iff_getElem.2 ⟨0, by omega, by simp⟩) a ha h1
        rw [ea, Mth.cmp_zero.2 rfl] at h2
        omega
      · exact h1
      · have h2 := hP i a ha h1
        rw [ea] at h2
        exact absurd h2 hb
    subst hai
    rw [ea]
    exact hU _ (List.getElem_mem hq)
  refine ⟨hq, by rw [List.length_append]; have := h.len; simp; omega, fun t => ?_, fun t ht => ?_, fun t ht j hj hji => h.hi t ?_ j hj hji⟩
  · rw [htk, List.mem_append, List.mem_append, h.iff t, List.mem_singleton]
    constructor
    · rintro (⟨h1, h2⟩ | rfl)
      · exact ⟨.inl h1, h2⟩
      · exact ⟨.inr rfl, hc⟩
    · rintro ⟨h1 | rfl, h2⟩
      · exact .inl ⟨h1, h2⟩
      · exact .inr rfl
  · rw [htk, List.mem_append, List.mem_singleton] at ht
    rcases ht with ht | rfl
    · exact h.low t ht
    · exact hb
  · rw [List.drop_eq_getElem_cons hq]
    exact List.mem_cons_of_mem _ ht

theorem OvM.done {P : List (List UInt8)} {ts os : List SpC} {i q : Nat} {hi : i < P.length} (h : OvM P ts os i q hi) (hP : RiseL P) (hb : ∀ t ∈ ts.drop q, Lib.compareBytes P[i] t.e.1 < 0) : OvI P ts os (i + 1) q := by
  refine ⟨h.le, h.len, fun t ht => ((h.iff t).1 ht).1, fun t ht j hj hij hc => (h.iff t).2 ⟨ht, ?_⟩, fun t ht j hj hij hlt => ?_, fun t ht j hj hji => ?_⟩
  · unfold covT at hc ⊢
    rw [cov_iff] at hc ⊢
    exact ⟨h.low t ht, Mth.cmp_trans (hP i j hj (by omega)) hc.2⟩
  · exact h.low t ht (Mth.cmp_trans (hP i j hj (by omega)) hlt)
  · by_cases e : j = i
    · subst e; exact hb t ht
    · exact h.hi t ht j hj (by omega)

/-- the numbers over the place -/
theorem OvM.nums {P : List (List UInt8)} {ts os : List SpC} {i q : Nat} {hi : i < P.length} {ss : List SpB} (h : OvM P ts os i q hi) (hb : ∀ t ∈ ts.drop q, Lib.compareBytes P[i] t.e.1 < 0) (hp : (ts.map (·.e)).Perm ss) : srtU gtNN (os.map (·.e.2.2)) = sqs ss P[i] := by
  unfold sqs
  refine srtU_is ordN (pw_srtU ordN _) (fun n => ?_)
  rw [mem_srtU ordN, List.mem_map, List.mem_map]
  constructor
  · rintro ⟨t, ht, rfl⟩
    obtain ⟨h1, h2⟩ := (h.iff t).1 ht
    exact ⟨t.e, List.mem_filter.2 ⟨hp.mem_iff.1 (List.mem_map.2 ⟨t, List.mem_of_mem_take h1, rfl⟩), h2⟩, rfl⟩
  · rintro ⟨s, hs, rfl⟩
    obtain ⟨h1, h2⟩ := List.mem_filter.1 hs
    obtain ⟨t, ht, rfl⟩ := List.mem_map.1 (hp.mem_iff.2 h1)
    refine ⟨t, (h.iff t).2 ⟨?_, h2⟩, rfl⟩
    rw [← List.take_append_drop q ts, List.mem_append] at ht
    rcases ht with ht | ht
    · exact ht
    · have h3 := hb t ht
      exact absurd h3 (cov_iff.1 h2).1

theorem rise_drop {ts : List SpC} (h : RiseT ts) {q : Nat} (hq : q < ts.length) {p : List UInt8} (hb : Lib.compareBytes p ts[q].e.1 < 0) : ∀ t ∈ ts.drop q, Lib.compareBytes p t.e.1 < 0 := by
  intro t ht
  rw [List.drop_eq_getElem_cons hq] at ht
  rcases List.mem_cons.1 ht with rfl | ht
  · exact hb
  · obtain ⟨i, hi, rfl⟩ := List.getElem_of_mem ht
    rw [List.length_drop] at hi
    rw [List.getElem_drop]
    exact cb_lt_le hb (List.pairwise_iff_getElem.1 h q (q + 1 + i) hq (by omega) (by omega))

end Go.Proofs.Ytifdomhmmhepcaa

/- (*tomb.Set).Fragments. -/
namespace Go.Proofs.Ytifdomhmmhepcaa
set_option maxRecDepth 100000
open Go.RowKit
set_option linter.unusedVariables false
set_option linter.unusedSimpArgs false

theorem own_mono9 {w : World} {B B' : Nat} {e : TypeId} {k n : Nat} {v : Value} {xs : List Value} (h : w.ownsRow B e k v n xs) (hB : B' ≤ B) : w.ownsRow B' e k v n xs := by
  refine ⟨h.1, ?_⟩
  rcases h.2 with h | ⟨g, cap, cur, e1, hb, hr⟩
  · exact .inl h
  · exact .inr ⟨g, cap, cur, e1, Nat.le_trans hB hb, hr⟩

theorem rowT_own {w0 w1 w : World} {B B' : Nat} {wr : World} {v : Value} {ts cs : List SpC} (h : RowT w1 B wr v ts) (hB : B' ≤ B) (hp : ts.Perm cs) (hg : ∀ t ∈ cs, GdS w0 t) : RowT w0 B' wr v ts := ⟨own_mono9 h.1 hB, fun t ht => hg t (hp.mem_iff.1 ht)⟩
theorem rowP_own {w0 w1 : World} {B B' : Nat} {wr : World} {v : Value} {ps : List PlC} {cs : List SpC} (h : RowP w1 B wr v ps) (hB : B' ≤ B) (hp : ∀ p ∈ ps, p ∈ plC cs) (hg : ∀ t ∈ cs, GdS w0 t) : RowP w0 B' wr v ps := ⟨own_mono9 h.1 hB, fun t ht => plC_gd hg t (hp t ht)⟩

theorem wrapS9 {a lf a1 : Int} (h : a + lf = a1) (h0 : 0 ≤ a1) (h1 : a1 ≤ 2000000) : IntKind.i64.wrap (a + lf) = a1 ∧ wrap64 (a + lf) = a1 ∧ IntKind.i64.wrap a1 = a1 ∧ wrap64 a1 = a1 := by
  rw [h]
  refine ⟨?_, ?_, ?_, ?_⟩
  · rw [IntKind.wrap_i64]; omega
  · unfold wrap64; omega
  · rw [IntKind.wrap_i64]; omega
  · unfold wrap64; omega

theorem less_q9 (w : World) (a b : Value) (l m : List UInt8) (x : Bool) (ha : Rd w a l) (hb : Rd w b m) (hx : decide (Lib.compareBytes l m < 0) = x) : Calls Try.prog 29 #[a, b] w fun e w' => e = .returned (.bool x) ∧ ∃ n, w' = w.drewN n :=
  (less_b w a b l m x ha hb hx).mono (fun e w' h => ⟨h.1, 0, h.2⟩)

theorem fragTo_part (ss : List SpB) (P : List (List UInt8)) (i : Nat) (hi : i + 1 < P.length) : fragTo ss P (i + 1) = fragTo ss P i ++ (sqs ss P[i]).map (fun n => (P[i], P[i + 1], n)) := by
  rw [fragTo_next]
  have e1 : P.getD i [] = P[i] := by simp [List.getD, List.getElem?_eq_getElem (show i < P.length by omega)]
  have e2 : P.getD (i + 1) [] = P[i + 1] := by simp [List.getD, List.getElem?_eq_getElem hi]
  rw [e1, e2]

/-- what Fragments answers -/
def FrgPost (w : World) (ss : List SpB) (e : Ending) (w' : World) : Prop := ∃ v', e = .returned v' ∧ RdS w' v' (fragN ss) ∧ Below w.heap.size w w'

set_option maxHeartbeats 8000000 in
theorem tfrag_any (w : World) (t : Nat) (v : Value) (ss : List SpB) (hc : w.cell? ⟨t, 0, none⟩ = some v) (hv : RdS w v ss) (hU : Up9 ss) (hn : ss.length ≤ 1000) (hL : ∀ s ∈ ss, s.1.length ≤ 1000 ∧ s.2.1.length ≤ 1000) :
    Calls Try.prog 18 #[.pointer (some ⟨t, 0, none⟩)] w (FrgPost w ss) := by
  obtain ⟨cs, hcs, hce⟩ := RdC.of hv
  obtain ⟨i0, hi, hz0, hz1, hz2⟩ := info_parts infoSp
  have HGD : Hid (∀ t ∈ cs, GdS w t) := hcs.gd
  obtain ⟨va, vc, rfl⟩ := hv.shape
  obtain ⟨N, hN⟩ : ∃ N, ss.length = N := ⟨_, rfl⟩
  rw [hN] at hc hcs hn
  have HN : Hid (ss.length = N ∧ cs.length = N) := ⟨hN, by rw [← hN, ← hce, List.length_map]⟩
  have HCE : Hid (cs.map (·.e) = ss) := hce
  have he : ∀ w : World, (binOp .eql 27 (.pointer (some ⟨t, 0, none⟩)) (.pointer none)).run Try.prog w = .ok (.bool false) w := fun _ => rfl
  have hvl := vals_any w va N vc
  have hb1 : Below w.heap.size w (w.alloc (.cells #[.slice va N vc] 22)) := (Below.refl _ w).alloc (Nat.le_refl _) _
  have hs1 := sorted_any (w.alloc (.cells #[.slice va N vc] 22)) w.heap.size (.slice va N vc) cs (hcs.below hb1 (Nat.le_refl _)) (Boxed.new w 22 (.slice va N vc)).cell (by have := HN.out.2; omega)
  have HB1 : Hid (Below w.heap.size w (w.alloc (.cells #[.slice va N vc] 22))) := hb1
  have HCS : Hid (RdC w (.slice va N vc) cs) := hcs
  have HC : Hid (w.cell? ⟨t, 0, none⟩ = some (.slice va N vc)) := hc
  have HU : Hid (Up9 ss) := hU
  have HL : Hid (∀ s ∈ ss, s.1.length ≤ 1000 ∧ s.2.1.length ≤ 1000) := hL
  clear hN hce hv hcs hb1 hU hL
  go_enter Try.func18, Try.ntmps18
  go_wp2_with fail
  refine hvl.mono ?_
  rintro e w1 ⟨rfl, rfl⟩
  clear hvl
  go_wp2_with fail
  refine hs1.mono ?_
  rintro e w2 ⟨bv, ts, rfl, hp, hr, hrow, hb2⟩
  have HB2 : Hid (Below w.heap.size w w2) := HB1.out.trans (hb2.mono HB1.out.size)
  have HT : Hid (ts.Perm cs ∧ RiseT ts) := ⟨hp, hr⟩
  have HBG : Hid (RowT w w.heap.size w2 bv ts) := rowT_own (w := w) hrow HB1.out.size hp HGD.out
  have hpl := tplaces_any w2 t _ cs ((HB2.out.cell (p := ⟨t, 0, none⟩) (World.block_lt_of_cell? w _ HC.out)).trans HC.out) (HCS.out.below HB2.out (Nat.le_refl _)) (by have := HN.out.2; omega)
  clear hs1 hp hr hrow hb2 hc
  go_wp2_with fail
  refine hpl.mono ?_
  rintro e w3 ⟨pv, ps, rfl, hrp, hpe, hpm, hb3⟩
  have HB3 : Hid (Below w.heap.size w w3) := bsplit HB2.out hb3
  have HPL : Hid (RowP w w.heap.size w3 pv ps) := rowP_own hrp HB2.out.size hpm HGD.out
  have HPE : Hid (ps.map (·.2) = plcs ss) := by show _ = _; rw [hpe, HCE.out]
  have HBG3 : Hid (RowT w w.heap.size w3 bv ts) := HBG.out.below hb3
  have HTN : Hid (ts.length = N) := by show _ = _; rw [HT.out.1.length_eq]; exact HN.out.2
  clear hpl hrp hpe hpm hb3 HBG
  obtain ⟨pa, pc, epv, hpc1, hpc2⟩ := HPL.out.shape
  obtain ⟨ba, bc, ebv, hbc1, hbc2⟩ := HBG3.out.shape
  rw [HTN.out] at ebv hbc1
  subst ebv
  obtain ⟨M, hM⟩ : ∃ M, ps.length = M := ⟨_, rfl⟩
  rw [hM] at epv hpc1
  subst epv
  have HM : Hid (ps.length = M) := hM
  clear hM
  have HTM : Hid (∀ t ∈ ts, t.e ∈ ss) := fun t ht => by rw [← HCE.out]; exact List.mem_map.2 ⟨t, HT.out.1.mem_iff.1 ht, rfl⟩
  have HPR : Hid (RiseL (plcs ss)) := plcs_lt ss
  have HPLN : Hid ((plcs ss).length = M) := by show _ = _; rw [← HPE.out, List.length_map]; exact HM.out
  by_cases hN0 : N = 0
  · have hss : ss = [] := List.eq_nil_of_length_eq_zero (HN.out.1.trans hN0)
    have hM0 : M = 0 := by
      have h9 := HPLN.out
      rw [hss] at h9
      exact h9.symm
    subst hM0
    have hlt : ¬ (0 : Int) < -1 := by omega
    have HF : Hid (fragN ss = []) := by show _ = _; rw [hss]; rfl
    clear hss
    go_wp2_with fail
    go_loopg [3, 25] 0 (fun gk av iv wr => av = .slice none 0 0 ∧ iv = .int .i64 0 ∧ wr = w3)
    case atStart => exact ⟨rfl, rfl, rfl⟩
    case round =>
      obtain ⟨rfl, rfl, rfl⟩ := hrel
      go_wp2_with fail
      go_wp2
      go_ret
      exact ⟨_, rfl, by rw [HF.out]; exact LsS.nil _ _, HB3.out⟩
  have hNp : 0 < N := by omega
  have hM0 : 0 < M := by
    have hs0 : 0 < ss.length := by rw [HN.out.1]; exact hNp
    have h9 := List.length_pos_of_mem (mem_plcs.2 ⟨ss[0], List.getElem_mem hs0, .inl rfl⟩)
    rw [HPLN.out] at h9
    exact h9
  obtain ⟨gp, c9, eg, _⟩ := HPL.out.form (by rw [HM.out]; exact hM0)
  rw [HM.out] at eg
  cases eg
  obtain ⟨gb, c9, eg, _⟩ := HBG3.out.form (by rw [HTN.out]; exact hNp)
  rw [HTN.out] at eg
  cases eg
  obtain ⟨K, hK⟩ : ∃ K, M - 1 = K := ⟨_, rfl⟩
  have hKI : (M : Int) - 1 = (K : Int) := by omega
  have HKM : Hid (M = K + 1) := by show _ = _; omega
  have hMb : M ≤ 2000 := by have h9 := plcs_len ss; rw [HPLN.out, HN.out.1] at h9; omega
  clear hK
  have HST : Hid (FrS w w3 gp M pc ps gb N bc ts (.slice none 0 0) [] (.slice none 0 0) []) := ⟨HB3.out, HPL.out, HBG3.out, RowT.nil _ _ _, AllS.nil _ _, by simp [Value.ownBlock], by simp [Value.ownBlock], .inl rfl⟩
  clear HBG3 HPL
  go_wp2_with fail
  go_loopg [3, 4, 5, 25] K (fun gk av ov bv iv wr => ∃ i q m o c n l d f : Nat, ∃ aa oa : Option Addr, ∃ os : List SpC, gk + i = K ∧ iv = .int .i64 (i : Int) ∧ bv = .slice (some ⟨gb, o, none⟩) m c ∧ ov = .slice oa n l ∧ av = .slice aa d f ∧ (m ≤ c ∧ c ≤ 9223372036854775807) ∧ Hid ((m = 0 ∨ o = q * 3) ∧ m + q = N ∧ os.length = n ∧ (fragTo ss (plcs ss) i).length = d) ∧ Hid (OvI (plcs ss) ts os i q) ∧ Hid (FrS w wr gp M pc ps gb N bc ts ov os av (fragTo ss (plcs ss) i)))
  case atStart => exact ⟨0, 0, N, 0, bc, 0, 0, 0, 0, none, none, [], by omega, rfl, rfl, rfl, rfl, ⟨hbc1, hbc2⟩, ⟨.inr rfl, rfl, rfl, rfl⟩, OvI.start _ _, HST⟩
  case round =>
    obtain ⟨i, q, m, o, c, n, l, d, f, aa, oa, os, hj, rfl, rfl, rfl, rfl, hmc, HX, HO, HS⟩ := hrel
    by_cases hlt : i < K
    · obtain ⟨q1, q2⟩ := gk_nxt hj hlt
      have hKM := HKM.out
      have hiP : i < (plcs ss).length := by rw [HPLN.out]; omega
      have hiP2 : i + 1 < (plcs ss).length := by rw [HPLN.out]; omega
      have hip : i < ps.length := by rw [HM.out]; omega
      have hip2 : i + 1 < ps.length := by rw [HM.out]; omega
      obtain ⟨c0, _⟩ := HS.out.plc.at HM.out i hip
      obtain ⟨c1, _⟩ := HS.out.plc.at HM.out (i + 1) hip2
      have rx := HS.out.plc.2 ps[i] (List.getElem_mem hip)
      have ry := HS.out.plc.2 ps[i + 1] (List.getElem_mem hip2)
      have e1 : ps[i].2 = (plcs ss)[i] := by simp only [← HPE.out, List.getElem_map]
      have e2 : ps[i + 1].2 = (plcs ss)[i + 1] := by simp only [← HPE.out, List.getElem_map]
      unfold GdP at rx ry
      rw [e1] at rx
      rw [e2] at ry
      obtain ⟨p, hp⟩ : ∃ p, (plcs ss)[i] = p := ⟨_, rfl⟩
      obtain ⟨p2, hp2⟩ : ∃ p, (plcs ss)[i + 1] = p := ⟨_, rfl⟩
      rw [hp] at rx
      rw [hp2] at ry
      have HP : Hid ((plcs ss)[i] = p ∧ (plcs ss)[i + 1] = p2) := ⟨hp, hp2⟩
      obtain ⟨xa, xc, ex⟩ := rx.len
      obtain ⟨ya, yc, ey⟩ := ry.len
      rw [ex] at c0 rx
      rw [ey] at c1 ry
      obtain ⟨pl, hpl⟩ : ∃ n, p.length = n := ⟨_, rfl⟩
      obtain ⟨pl2, hpl2⟩ : ∃ n, p2.length = n := ⟨_, rfl⟩
      rw [hpl] at c0 rx
      rw [hpl2] at c1 ry
      have HRX : Hid (Rd w (.slice xa pl xc) p ∧ Rd w (.slice ya pl2 yc) p2) := ⟨rx, ry⟩
      obtain ⟨i2, hi2⟩ : ∃ z, i + 1 = z := ⟨_, rfl⟩
      have hI2 : (i : Int) + 1 = (i2 : Int) := by omega
      have HI2 : Hid (i + 1 = i2) := hi2
      have hiM : i < M := by omega
      have hiM2 : i2 < M := by omega
      have hiI0 : (0 : Int) ≤ (i : Int) := by omega
      have hiI1 : (i : Int) < (M : Int) := by omega
      have hiJ0 : (0 : Int) ≤ (i2 : Int) := by omega
      have hiJ1 : (i2 : Int) < (M : Int) := by omega
      have HW : Hid _ := wrapS9 hI2 hiJ0 (by omega)
      rw [hi2] at c1
      clear hi2
      clear rx ry e1 e2 hp hp2 ex ey hpl hpl2 hKM
      have hgp : gp < wr.heap.size := World.block_lt_of_cell? _ _ c0
      have c0 : wr.drew.cell? ⟨gp, i, none⟩ = some (.slice xa pl xc) := c0
      have c1 : wr.drew.cell? ⟨gp, i2, none⟩ = some (.slice ya pl2 yc) := c1
      have hbA := below_box4 wr (.cells #[.slice none 0 0] 29)
      have hbB := below_box4 wr (.cells #[.slice xa pl xc] 29)
      have d0 : (wr.alloc (.cells #[.slice none 0 0] 29)).drew.cell? ⟨gp, i, none⟩ = some (.slice xa pl xc) := (hbA.cell (p := ⟨gp, i, none⟩) hgp).trans c0
      have d1 : (wr.alloc (.cells #[.slice none 0 0] 29)).drew.cell? ⟨gp, i2, none⟩ = some (.slice ya pl2 yc) := (hbA.cell (p := ⟨gp, i2, none⟩) hgp).trans c1
      have s0 : (wr.alloc (.cells #[.slice xa pl xc] 29)).drew.cell? ⟨gp, i, none⟩ = some (.slice xa pl xc) := (hbB.cell (p := ⟨gp, i, none⟩) hgp).trans c0
      have s1 : (wr.alloc (.cells #[.slice xa pl xc] 29)).drew.cell? ⟨gp, i2, none⟩ = some (.slice ya pl2 yc) := (hbB.cell (p := ⟨gp, i2, none⟩) hgp).trans c1
      clear hbA hbB
      go_wp2_with fail
      obtain ⟨W1, W2, W3, W4⟩ := HW.out
      go_region_held3 (fun w' => w'.cell? ⟨gp, i, none⟩ = some (.slice xa pl xc) ∧ w'.cell? ⟨gp, i2, none⟩ = some (.slice ya pl2 yc)) (first | with_reducible exact ⟨s0, s1⟩ | with_reducible exact ⟨d0, d1⟩ | with_reducible exact ⟨c0, c1⟩) (fail)
      clear W1 W2 W3 W4
      obtain ⟨fb, hfb⟩ : ∃ z, wr.heap.size = z := ⟨_, rfl⟩
      obtain ⟨w4, hw4⟩ : ∃ W, (wr.alloc (.cells #[.slice xa pl xc] 29)).drew = W := ⟨_, rfl⟩
      rw [hw4, hfb]
      have hb4 : Below wr.heap.size wr w4 := by rw [← hw4]; exact (below_box4 wr _).drew
      have HBX : Hid (Boxed w4 fb 29 (.slice xa pl xc)) := by show Boxed _ _ _ _; rw [← hw4, ← hfb]; exact Boxed.new wr _ _
      have HS4 : Hid (FrS w w4 gp M pc ps gb N bc ts (.slice oa n l) os (.slice aa d f) (fragTo ss (plcs ss) i)) := HS.out.below hb4
      have HNF : Hid ((Value.slice oa n l).ownBlock ≠ some fb) := fun e => by have := (HS.out.ovr.1.lt fb e).2; omega
      have hdl := tdel_any w w4 w.heap.size fb (.slice oa n l) (.slice xa pl xc) p os HS4.out.ovr HS4.out.bel (Nat.le_refl _) HBX.out.cell HRX.out.1 HNF.out
      have HPB : Hid (p.length ≤ 1000 ∧ p2.length ≤ 1000) := by
        have hpl : ∀ x ∈ plcs ss, x.length ≤ 1000 := fun x hx => by
          obtain ⟨s, hs, h⟩ := mem_plcs.1 hx
          rcases h with rfl | rfl
          · exact (HL.out s hs).1
          · exact (HL.out s hs).2
        exact ⟨by rw [← HP.out.1]; exact hpl _ (List.getElem_mem _), by rw [← HP.out.2]; exact hpl _ (List.getElem_mem _)⟩
      clear hb4 hw4 hfb hgp c0 c1 d0 d1 s0 s1 hI2 hiM hiM2 hiI0 hiI1 hiJ0 hiJ1 HI2 HW HST HB1 HB2 HB3
      go_wp2_with fail
      refine hdl.mono ?_
      rintro e w5 ⟨v5, rfl, hr5, hg5, ho5⟩
      have HS5 : Hid (FrS w w5 gp M pc ps gb N bc ts v5 (os.filter (covT p)) (.slice aa d f) (fragTo ss (plcs ss) i)) := HS4.out.ov hg5 hr5 (.inl ho5)
      have HBX5 : Hid (Boxed w5 fb 29 (.slice xa pl xc)) := HBX.out.kept hg5 (fun e => HNF.out e.symm)
      have HM5 : Hid (OvM (plcs ss) ts (os.filter (covT p)) i q hiP) := by
        have h9 := HO.out.del hiP
        rw [HP.out.1] at h9
        exact h9
      obtain ⟨oa5, l5, e5, _⟩ := hr5.shape
      subst e5
      obtain ⟨n5, hn5⟩ : ∃ z, (os.filter (covT p)).length = z := ⟨_, rfl⟩
      rw [hn5] at HS5 ⊢
      have HX5 : Hid ((m = 0 ∨ o = q * 3) ∧ m + q = N ∧ (os.filter (covT p)).length = n5 ∧ (fragTo ss (plcs ss) i).length = d) := ⟨HX.out.1, HX.out.2.1, hn5, HX.out.2.2.2⟩
      obtain ⟨os5, hos5⟩ : ∃ z, os.filter (covT p) = z := ⟨_, rfl⟩
      rw [hos5] at HS5 HM5 HX5
      obtain ⟨G, hG⟩ : ∃ G, gk = G := ⟨_, rfl⟩
      rw [hG] at q1 q2
      clear hdl hr5 hg5 ho5 hn5 hos5 HS4 HNF HS HO HX HBX
      go_wp2_with fail
      go_loopg [4, 5] N (fun gq ov bv wr => ∃ q m o c n l : Nat, ∃ oa : Option Addr, ∃ os : List SpC, (N ≤ gq + q ∧ q ≤ N) ∧ bv = .slice (some ⟨gb, o, none⟩) m c ∧ ov = .slice oa n l ∧ (m ≤ c ∧ c ≤ 9223372036854775807) ∧ Hid ((m = 0 ∨ o = q * 3) ∧ m + q = N ∧ os.length = n ∧ (fragTo ss (plcs ss) i).length = d) ∧ Hid (OvM (plcs ss) ts os i q hiP) ∧ Hid (FrS w wr gp M pc ps gb N bc ts ov os (.slice aa d f) (fragTo ss (plcs ss) i)) ∧ Hid (Boxed wr fb 29 (.slice xa pl xc)))
      case atStart => exact ⟨q, m, o, c, n5, l5, oa5, os5, ⟨by omega, by have := HX5.out.2.1; omega⟩, rfl, rfl, hmc, HX5, HM5, HS5, HBX5⟩
      case round =>
        clear HS5 HBX5 HM5 HX5 hmc
        obtain ⟨q, m, o, c, n, l, oa, os, hqN, rfl, rfl, hmc, HX, HM9, HS, HBX⟩ := hrel
        have kb := HBX.out.cell
        by_cases hm0 : m = 0
        · subst hm0
          have hd0 : decide ((0 : Int) > 0) = false := by decide
          have HBD : Hid (∀ t ∈ ts.drop q, Lib.compareBytes (plcs ss)[i] t.e.1 < 0) := by
            intro t ht
            rw [List.drop_eq_nil_of_le (by have := HX.out.2.1; have := HTN.out; omega)] at ht
            exact absurd ht (List.not_mem_nil)
          go_wp2_with fail
          go_quiet (fail)
          clear kb
          obtain ⟨wX, hwX⟩ : ∃ W, wr.drewN nq = W := ⟨_, rfl⟩
          rw [hwX]
          have hbX : Below wr.heap.size wr wX := by rw [← hwX]; exact below_drewN (Below.refl _ _) _
          have HSX : Hid (FrS w wX gp M pc ps gb N bc ts (.slice oa n l) os (.slice aa d f) (fragTo ss (plcs ss) i)) := HS.out.below hbX
          have HBXX : Hid (Boxed wX fb 29 (.slice xa pl xc)) := (hbX.block fb HBX.out.lt).trans HBX.out
          obtain ⟨wr0, hwr0⟩ : ∃ z, wX.heap.size = z := ⟨_, rfl⟩
          have HW0 : Hid (wX.heap.size = wr0) := hwr0
          clear hwX hbX hwr0
          have hsq := tseqs_any wX (.slice oa n l) os (HSX.out.ovr.rdc HSX.out.bel) (by have := HM9.out.len; have := HM9.out.le; have := HTN.out; omega)
          go_wp2_with fail
          refine hsq.mono ?_
          rintro e w6 ⟨nv, ns, rfl, hrn, hne, hb6⟩
          rw [HW0.out] at hrn
          have HNS : Hid (ns = sqs ss (plcs ss)[i]) := by show _ = _; rw [hne]; exact HM9.out.nums HBD.out (by rw [← HCE.out]; exact HT.out.1.map _)
          have HS6 : Hid (FrS w w6 gp M pc ps gb N bc ts (.slice oa n l) os (.slice aa d f) (fragTo ss (plcs ss) i)) := HSX.out.below hb6
          have HBX6 : Hid (Boxed w6 fb 29 (.slice xa pl xc)) := (hb6.block fb HBXX.out.lt).trans HBXX.out
          have HRN : Hid (RowN wr0 w6 nv ns) := hrn
          obtain ⟨na, nc, env, hnc1, hnc2⟩ := hrn.shape
          obtain ⟨L, hLn⟩ : ∃ L, ns.length = L := ⟨_, rfl⟩
          rw [hLn] at env hnc1
          subst env
          have HLL : Hid (ns.length = L) := hLn
          have HOV : Hid (OvI (plcs ss) ts os (i + 1) q) := HM9.out.done HPR.out HBD.out
          have HLB : Hid (L ≤ 1000) := by
            show L ≤ 1000
            have h9 := sqs_len ss (plcs ss)[i]
            rw [← HNS.out, HLL.out, HN.out.1] at h9
            omega
          clear hsq hrn hne hb6 hLn
          go_wp2_with fail
          go_loopg [3, 63] L (fun gy av jv wz => ∃ j d f : Nat, ∃ aa : Option Addr, gy + j = L ∧ jv = .int .i64 (j : Int) ∧ av = .slice aa d f ∧ Hid (((fragTo ss (plcs ss) i) ++ (ns.take j).map (fun n => (p, p2, n))).length = d) ∧ Hid (FrS w wz gp M pc ps gb N bc ts (.slice oa n l) os av ((fragTo ss (plcs ss) i) ++ (ns.take j).map (fun n => (p, p2, n)))) ∧ Hid (Boxed wz fb 29 (.slice xa pl xc)) ∧ Hid (RowN wr0 wz (.slice na L nc) ns))
          case atStart => exact ⟨0, d, f, aa, by omega, rfl, rfl, by show _ = _; rw [List.take_zero, List.map_nil, List.append_nil]; exact HX.out.2.2.2, by show FrS _ _ _ _ _ _ _ _ _ _ _ _ _ _; rw [List.take_zero, List.map_nil, List.append_nil]; exact HS6.out, HBX6, HRN⟩
          case round =>
            obtain ⟨j, d, f, aa, hjL, rfl, rfl, HD, HSZ, HBZ, HNZ⟩ := hrel
            by_cases hltj : j < L
            · have hj2 : j < ns.length := by rw [HLL.out]; exact hltj
              obtain ⟨y1, y2⟩ := gk_nxt hjL hltj
              obtain ⟨gn, c9, eg, _⟩ := HNZ.out.form (by rw [HLL.out]; omega)
              rw [HLL.out] at eg
              cases eg
              obtain ⟨k0, _⟩ := HNZ.out.at HLL.out j hj2
              obtain ⟨sq, hsq⟩ : ∃ z : Nat, ns[j] = z := ⟨_, rfl⟩
              rw [hsq] at k0
              have HNX : Hid ((ns.take (j + 1)).map (fun n => (p, p2, n)) = (ns.take j).map (fun n => (p, p2, n)) ++ [(p, p2, sq)]) := by
                show _ = _
                rw [List.take_succ_eq_append_getElem hj2, List.map_append, hsq]
                rfl
              have kb := HBZ.out.cell
              have hap := tapart_any wr (.slice xa pl xc) (.slice ya pl2 yc) p p2 (sq : Int) ((HRX.out.1.below HSZ.out.bel (Nat.le_refl _)).arg) ((HRX.out.2.below HSZ.out.bel (Nat.le_refl _)).arg) (by have := HPB.out.1; omega) (by have := HPB.out.2; omega)
              clear hsq
              go_wp2_with fail
              refine hap.mono ?_
              rintro e w7 ⟨ux, uy, rfl, ox, oy, hb7⟩
              obtain ⟨u1, u2, rfl⟩ := ox.rd.len
              obtain ⟨u3, u4, rfl⟩ := oy.rd.len
              obtain ⟨l1, hl1⟩ : ∃ n, p.length = n := ⟨_, rfl⟩
              obtain ⟨l2, hl2⟩ : ∃ n, p2.length = n := ⟨_, rfl⟩
              rw [hl1] at ox ⊢
              rw [hl2] at oy ⊢
              have hbe := below_box4 w7 (.cells #[.slice u1 l1 u2, .slice u3 l2 u4, .int .u64 (sq : Int)] 32)
              have hlit := laidT3 w7 (.slice u1 l1 u2) (.slice u3 l2 u4) (.int .u64 (sq : Int)) 32
              have hbt := bsplit hb7 hbe
              have HSE : Hid (FrS w (w7.alloc (.cells #[.slice u1 l1 u2, .slice u3 l2 u4, .int .u64 (sq : Int)] 32)) gp M pc ps gb N bc ts (.slice oa n l) os (.slice aa d f) ((fragTo ss (plcs ss) i) ++ (ns.take j).map (fun n => (p, p2, n)))) := HSZ.out.below hbt
              have HBE : Hid (Boxed (w7.alloc (.cells #[.slice u1 l1 u2, .slice u3 l2 u4, .int .u64 (sq : Int)] 32)) fb 29 (.slice xa pl xc)) := (hbt.block fb HBZ.out.lt).trans HBZ.out
              have HNE : Hid (RowN wr0 (w7.alloc (.cells #[.slice u1 l1 u2, .slice u3 l2 u4, .int .u64 (sq : Int)] 32)) (.slice (some ⟨gn, 0, none⟩) L nc) ns) := HNZ.out.below hbt
              have HWS : Hid (w.heap.size ≤ wr.heap.size) := HSZ.out.bel.size
              have HOX : Hid (OwnN w.heap.size _ (.slice u1 l1 u2) p) := (ox.below hbe (Nat.le_refl _)).mono (by have := HWS.out; omega)
              have HOY : Hid (OwnN w.heap.size _ (.slice u3 l2 u4) p2) := (oy.below hbe (Nat.le_refl _)).mono (by have := HWS.out; omega)
              have hse := HSE.out.bel.size
              obtain ⟨cs9, hrow, hel⟩ := HSE.out.all
              rw [HD.out] at hrow
              have HROW : Hid _ := hrow
              have HEL : Hid _ := hel
              have hd9 : d ≤ 3000000 := by
                have h9 := HD.out
                rw [List.length_append, List.length_map, List.length_take, HLL.out] at h9
                have h8 := fragTo_len ss (plcs ss) i
                rw [HN.out.1] at h8
                have h7 : i * N ≤ 2000 * 1000 := Nat.mul_le_mul (by omega) (by omega)
                have := HLB.out
                omega
              have HPS : Hid (∀ g4 c4 w4, w4.ownsRow w.heap.size 32 3 (.slice (some ⟨g4, 0, none⟩) (d + 1) c4) (d + 1) (cs9 ++ [.slice u1 l1 u2, .slice u3 l2 u4, .int .u64 (sq : Int)]) → (w7.alloc (.cells #[.slice u1 l1 u2, .slice u3 l2 u4, .int .u64 (sq : Int)] 32)).grownBy w4 (Value.slice aa d f).ownBlock → ((Value.slice aa d f).ownBlock = some g4 ∨ g4 = (w7.alloc (.cells #[.slice u1 l1 u2, .slice u3 l2 u4, .int .u64 (sq : Int)] 32)).heap.size) → (((fragTo ss (plcs ss) i) ++ (ns.take (j + 1)).map (fun n => (p, p2, n))).length = d + 1) ∧ FrS w w4 gp M pc ps gb N bc ts (.slice oa n l) os (.slice (some ⟨g4, 0, none⟩) (d + 1) c4) ((fragTo ss (plcs ss) i) ++ (ns.take (j + 1)).map (fun n => (p, p2, n))) ∧ Boxed w4 fb 29 (.slice xa pl xc) ∧ RowN wr0 w4 (.slice (some ⟨gn, 0, none⟩) L nc) ns) := by
                intro g4 c4 w4 hown hgrow hat
                rw [HNX.out, ← List.append_assoc]
                refine ⟨by rw [List.length_append, HD.out]; rfl, HSE.out.al hgrow (AllS.push (p, p2, sq) HD.out HROW.out HEL.out HOX.out HOY.out hown hgrow) ?_, HBE.out.kept hgrow (HBE.out.not_row (by decide) HROW.out), World.ownsRow.kept HNE.out hgrow (rows_ne (by decide) HROW.out HNE.out)⟩
                rcases hat with h9 | h9
                · exact .inl h9.symm
                · exact .inr ⟨g4, rfl, by rw [h9]; exact Nat.le_refl _⟩
              clear hap hb7 ox oy hl1 hl2 hbe hbt hel kb k0
              go_wp2_with (first | (at_builtin; refine wpList_append_lies _ rfl (.tmp 67) (.tmp 73) 22 rfl w.heap.size 32 i0 (.agg #[.slice none 0 0, .slice none 0 0, .int .u64 0]) 3 56 Try.underlying22 hi hz0 hz1 hz2 rfl (by decide) (.slice aa d f) d cs9 rfl hrow ⟨w7.heap.size, 0, none⟩ 1 1 [.slice u1 l1 u2, .slice u3 l2 u4, .int .u64 (sq : Int)] rfl rfl hlit (oneS _ _ _ _ _ _ _) (by decide) (by simp only [maxLen]; omega) (by omega) hse _ rfl ?_; intro g4 c4 w4 hown hgrow hat hlt4; have HP4 : Hid _ := HPS.out g4 c4 w4 hown hgrow hat; clear hown hgrow hat hlt4) | fail)
              clear hrow hlit hse
              go_roundg (gk - 1)
              case measure => exact y1
              case rel => exact ⟨j + 1, d + 1, c4, _, y2, by go_num, rfl, HP4.out.1, HP4.out.2.1, HP4.out.2.2.1, HP4.out.2.2.2⟩
            · have hjE : j = L := by omega
              subst hjE
              have HFE : Hid (fragTo ss (plcs ss) (i + 1) = (fragTo ss (plcs ss) i) ++ (ns.take j).map (fun n => (p, p2, n))) := by
                show _ = _
                rw [fragTo_part ss (plcs ss) i hiP2, ← HNS.out, ← HLL.out, List.take_length, HP.out.1, HP.out.2]
              go_wp2_with fail
              go_roundg (G - 1)
              case measure => omega
              case rel => exact ⟨i + 1, q, 0, o, c, n, l, d, f, aa, oa, os, q2, by go_num, rfl, rfl, rfl, hmc, ⟨.inl rfl, HX.out.2.1, HX.out.2.2.1, by rw [HFE.out]; exact HD.out⟩, HOV, by show FrS _ _ _ _ _ _ _ _ _ _ _ _ _ _; rw [HFE.out]; exact HSZ.out⟩
        · have hq1 : q < N := by have := HX.out.2.1; omega
          have hq2 : q < ts.length := by rw [HTN.out]; exact hq1
          obtain ⟨b0, b1, b2, _⟩ := HS.out.beg.at HTN.out q hq2
          have HO1 : Hid (o = q * 3) := HX.out.1.elim (fun h => absurd h hm0) (fun h => h)
          rw [← HO1.out] at b0 b1 b2
          obtain ⟨rx, ry⟩ := HS.out.beg.2 ts[q] (List.getElem_mem hq2)
          have HGT : Hid (GdS w ts[q]) := ⟨rx, ry⟩
          obtain ⟨x1, x2, ex⟩ := rx.len
          obtain ⟨y1, y2, ey⟩ := ry.len
          obtain ⟨nl, hnl⟩ : ∃ nl, ts[q].e.1.length = nl := ⟨_, rfl⟩
          obtain ⟨ml, hml⟩ : ∃ ml, ts[q].e.2.1.length = ml := ⟨_, rfl⟩
          obtain ⟨sq, hsq⟩ : ∃ z : Int, (ts[q].e.2.2 : Int) = z := ⟨_, rfl⟩
          obtain ⟨r, hr⟩ : ∃ r, decide (Lib.compareBytes p ts[q].e.1 < 0) = r := ⟨_, rfl⟩
          rw [ex, hnl] at b0 rx
          rw [ey, hml] at b1
          rw [hsq] at b2
          have HEE : Hid (ts[q].x = .slice x1 nl x2 ∧ ts[q].y = .slice y1 ml y2 ∧ (ts[q].e.2.2 : Int) = sq) := ⟨by rw [ex, hnl], by rw [ey, hml], hsq⟩
          obtain ⟨fl, hfl⟩ : ∃ z, ts[q].e.1 = z := ⟨_, rfl⟩
          rw [hfl] at hr rx
          have rp := HRX.out.1.below HS.out.bel (Nat.le_refl _)
          have rq := rx.below HS.out.bel (Nat.le_refl _)
          have HRR : Hid (decide (Lib.compareBytes p fl < 0) = r) := hr
          have HFL : Hid (ts[q].e.1 = fl) := hfl
          have hmI : (0 : Int) < (m : Int) := by omega
          have hmN : 0 < m := by omega
          have hd1 : decide ((m : Int) > 0) = true := decide_eq_true hmI
          clear rx ry ex ey hnl hml hsq hr hfl
          go_wp2_with fail
          go_quiet (first | (go_at_call 29; refine Calls.quiet_of (less_q9 _ _ _ p fl r (by exact rp) (by exact rq) HRR.out)))
          clear rp rq kb b0 b1 b2
          obtain ⟨wX, hwX⟩ : ∃ W, wr.drewN nq = W := ⟨_, rfl⟩
          rw [hwX]
          have hbX : Below wr.heap.size wr wX := by rw [← hwX]; exact below_drewN (Below.refl _ _) _
          have HSX : Hid (FrS w wX gp M pc ps gb N bc ts (.slice oa n l) os (.slice aa d f) (fragTo ss (plcs ss) i)) := HS.out.below hbX
          have HBXX : Hid (Boxed wX fb 29 (.slice xa pl xc)) := (hbX.block fb HBX.out.lt).trans HBX.out
          obtain ⟨wr0, hwr0⟩ : ∃ z, wX.heap.size = z := ⟨_, rfl⟩
          have HW0 : Hid (wX.heap.size = wr0) := hwr0
          clear hwX hbX hwr0
          cases r
          · have HNB : Hid (¬ Lib.compareBytes p fl < 0) := of_decide_eq_false HRR.out
            obtain ⟨b0, b1, b2, _⟩ := HSX.out.beg.at HTN.out q hq2
            rw [← HO1.out] at b0 b1 b2
            rw [HEE.out.1] at b0
            rw [HEE.out.2.1] at b1
            rw [HEE.out.2.2] at b2
            have hbe := below_box4 wX (.cells #[.slice x1 nl x2, .slice y1 ml y2, .int .u64 sq] 32)
            have hlit := laidT3 wX (.slice x1 nl x2) (.slice y1 ml y2) (.int .u64 sq) 32
            have HSE : Hid (FrS w (wX.alloc (.cells #[.slice x1 nl x2, .slice y1 ml y2, .int .u64 sq] 32)) gp M pc ps gb N bc ts (.slice oa n l) os (.slice aa d f) (fragTo ss (plcs ss) i)) := HSX.out.below hbe
            have HBE : Hid (Boxed (wX.alloc (.cells #[.slice x1 nl x2, .slice y1 ml y2, .int .u64 sq] 32)) fb 29 (.slice xa pl xc)) := (hbe.block fb HBXX.out.lt).trans HBXX.out
            have hrow := HSE.out.ovr.1
            rw [HX.out.2.2.1] at hrow
            have hse := HSE.out.bel.size
            have hn9 : n ≤ 1000 := by have := HM9.out.len; have := HM9.out.le; have := HTN.out; have := HX.out.2.2.1; omega
            have HPS : Hid (∀ g4 c4 w4, w4.ownsRow w.heap.size 32 3 (.slice (some ⟨g4, 0, none⟩) (n + 1) c4) (n + 1) (flatS os ++ [.slice x1 nl x2, .slice y1 ml y2, .int .u64 sq]) → (wX.alloc (.cells #[.slice x1 nl x2, .slice y1 ml y2, .int .u64 sq] 32)).grownBy w4 (Value.slice oa n l).ownBlock → ((Value.slice oa n l).ownBlock = some g4 ∨ g4 = (wX.alloc (.cells #[.slice x1 nl x2, .slice y1 ml y2, .int .u64 sq] 32)).heap.size) → ((os ++ [ts[q]]).length = n + 1) ∧ FrS w w4 gp M pc ps gb N bc ts (.slice (some ⟨g4, 0, none⟩) (n + 1) c4) (os ++ [ts[q]]) (.slice aa d f) (fragTo ss (plcs ss) i) ∧ Boxed w4 fb 29 (.slice xa pl xc)) := by
              intro g4 c4 w4 hown hgrow hat
              have hln : (os ++ [ts[q]]).length = n + 1 := by rw [List.length_append, HX.out.2.2.1]; rfl
              refine ⟨hln, HSE.out.ov hgrow ⟨?_, fun t ht => ?_⟩ ?_, HBE.out.kept hgrow (HBE.out.not_row (by decide) HSE.out.ovr.1)⟩
              · rw [hln, flatS_push, HEE.out.1, HEE.out.2.1, HEE.out.2.2]
                exact hown
              · rcases List.mem_append.1 ht with h9 | h9
                · exact HSE.out.ovr.2 t h9
                · rw [List.mem_singleton] at h9
                  rw [h9]
                  exact HGT.out
              · rcases hat with h9 | h9
                · exact .inl h9.symm
                · exact .inr ⟨g4, rfl, by rw [h9]; exact Nat.le_refl _⟩
            have HMN : Hid (OvM (plcs ss) ts (os ++ [ts[q]]) i (q + 1) hiP) := HM9.out.next hq2 HPR.out (fun t ht => mem_plcs.2 ⟨t.e, HTM.out t ht, .inl rfl⟩) (fun t ht => HU.out t.e (HTM.out t ht)) (by rw [HP.out.1, HFL.out]; exact HNB.out)
            clear hbe
            go_wp2_with (first | (at_builtin; refine wpList_append_lies _ rfl (.tmp 52) (.tmp 56) 22 rfl w.heap.size 32 i0 (.agg #[.slice none 0 0, .slice none 0 0, .int .u64 0]) 3 56 Try.underlying22 hi hz0 hz1 hz2 rfl (by decide) (.slice oa n l) n (flatS os) rfl hrow ⟨wX.heap.size, 0, none⟩ 1 1 [.slice x1 nl x2, .slice y1 ml y2, .int .u64 sq] rfl rfl hlit (oneS _ _ _ _ _ _ _) (by decide) (by simp only [maxLen]; omega) (by omega) hse _ rfl ?_; intro g4 c4 w4 hown hgrow hat hlt4; have HP4 : Hid _ := HPS.out g4 c4 w4 hown hgrow hat; clear hown hgrow hat hlt4) | fail)
            clear hrow hlit hse b0 b1 b2
            · go_roundg (gk - 1)
              case measure => omega
              case rel => exact ⟨q + 1, m - 1, o, 0, n + 1, c4, _, os ++ [ts[q]], by omega, rfl, rfl, by omega, ⟨.inl (by omega), by have := HX.out.2.1; omega, HP4.out.1, HX.out.2.2.2⟩, HMN, HP4.out.2.1, HP4.out.2.2⟩
            · go_roundg (gk - 1)
              case measure => omega
              case rel => exact ⟨q + 1, m - 1, o + 3, c - 1, n + 1, c4, _, os ++ [ts[q]], by omega, rfl, rfl, by omega, ⟨.inr (by have := HO1.out; omega), by have := HX.out.2.1; omega, HP4.out.1, HX.out.2.2.2⟩, HMN, HP4.out.2.1, HP4.out.2.2⟩
          · have HBD : Hid (∀ t ∈ ts.drop q, Lib.compareBytes (plcs ss)[i] t.e.1 < 0) := rise_drop HT.out.2 hq2 (by rw [HP.out.1, HFL.out]; exact of_decide_eq_true HRR.out)
            have hsq := tseqs_any wX (.slice oa n l) os (HSX.out.ovr.rdc HSX.out.bel) (by have := HM9.out.len; have := HM9.out.le; have := HTN.out; omega)
            go_wp2_with fail
            refine hsq.mono ?_
            rintro e w6 ⟨nv, ns, rfl, hrn, hne, hb6⟩
            rw [HW0.out] at hrn
            have HNS : Hid (ns = sqs ss (plcs ss)[i]) := by show _ = _; rw [hne]; exact HM9.out.nums HBD.out (by rw [← HCE.out]; exact HT.out.1.map _)
            have HS6 : Hid (FrS w w6 gp M pc ps gb N bc ts (.slice oa n l) os (.slice aa d f) (fragTo ss (plcs ss) i)) := HSX.out.below hb6
            have HBX6 : Hid (Boxed w6 fb 29 (.slice xa pl xc)) := (hb6.block fb HBXX.out.lt).trans HBXX.out
            have HRN : Hid (RowN wr0 w6 nv ns) := hrn
            obtain ⟨na, nc, env, hnc1, hnc2⟩ := hrn.shape
            obtain ⟨L, hLn⟩ : ∃ L, ns.length = L := ⟨_, rfl⟩
            rw [hLn] at env hnc1
            subst env
            have HLL : Hid (ns.length = L) := hLn
            have HOV : Hid (OvI (plcs ss) ts os (i + 1) q) := HM9.out.done HPR.out HBD.out
            have HLB : Hid (L ≤ 1000) := by
              show L ≤ 1000
              have h9 := sqs_len ss (plcs ss)[i]
              rw [← HNS.out, HLL.out, HN.out.1] at h9
              omega
            clear hsq hrn hne hb6 hLn
            go_wp2_with fail
            go_loopg [3, 63] L (fun gy av jv wz => ∃ j d f : Nat, ∃ aa : Option Addr, gy + j = L ∧ jv = .int .i64 (j : Int) ∧ av = .slice aa d f ∧ Hid (((fragTo ss (plcs ss) i) ++ (ns.take j).map (fun n => (p, p2, n))).length = d) ∧ Hid (FrS w wz gp M pc ps gb N bc ts (.slice oa n l) os av ((fragTo ss (plcs ss) i) ++ (ns.take j).map (fun n => (p, p2, n)))) ∧ Hid (Boxed wz fb 29 (.slice xa pl xc)) ∧ Hid (RowN wr0 wz (.slice na L nc) ns))
            case atStart => exact ⟨0, d, f, aa, by omega, rfl, rfl, by show _ = _; rw [List.take_zero, List.map_nil, List.append_nil]; exact HX.out.2.2.2, by show FrS _ _ _ _ _ _ _ _ _ _ _ _ _ _; rw [List.take_zero, List.map_nil, List.append_nil]; exact HS6.out, HBX6, HRN⟩
            case round =>
              obtain ⟨j, d, f, aa, hjL, rfl, rfl, HD, HSZ, HBZ, HNZ⟩ := hrel
              by_cases hltj : j < L
              · have hj2 : j < ns.length := by rw [HLL.out]; exact hltj
                obtain ⟨y1, y2⟩ := gk_nxt hjL hltj
                obtain ⟨gn, c9, eg, _⟩ := HNZ.out.form (by rw [HLL.out]; omega)
                rw [HLL.out] at eg
                cases eg
                obtain ⟨k0, _⟩ := HNZ.out.at HLL.out j hj2
                obtain ⟨sq, hsq⟩ : ∃ z : Nat, ns[j] = z := ⟨_, rfl⟩
                rw [hsq] at k0
                have HNX : Hid ((ns.take (j + 1)).map (fun n => (p, p2, n)) = (ns.take j).map (fun n => (p, p2, n)) ++ [(p, p2, sq)]) := by
                  show _ = _
                  rw [List.take_succ_eq_append_getElem hj2, List.map_append, hsq]
                  rfl
                have kb := HBZ.out.cell
                have hap := tapart_any wr (.slice xa pl xc) (.slice ya pl2 yc) p p2 (sq : Int) ((HRX.out.1.below HSZ.out.bel (Nat.le_refl _)).arg) ((HRX.out.2.below HSZ.out.bel (Nat.le_refl _)).arg) (by have := HPB.out.1; omega) (by have := HPB.out.2; omega)
                clear hsq
                go_wp2_with fail
                refine hap.mono ?_
                rintro e w7 ⟨ux, uy, rfl, ox, oy, hb7⟩
                obtain ⟨u1, u2, rfl⟩ := ox.rd.len
                obtain ⟨u3, u4, rfl⟩ := oy.rd.len
                obtain ⟨l1, hl1⟩ : ∃ n, p.length = n := ⟨_, rfl⟩
                obtain ⟨l2, hl2⟩ : ∃ n, p2.length = n := ⟨_, rfl⟩
                rw [hl1] at ox ⊢
                rw [hl2] at oy ⊢
                have hbe := below_box4 w7 (.cells #[.slice u1 l1 u2, .slice u3 l2 u4, .int .u64 (sq : Int)] 32)
                have hlit := laidT3 w7 (.slice u1 l1 u2) (.slice u3 l2 u4) (.int .u64 (sq : Int)) 32
                have hbt := bsplit hb7 hbe
                have HSE : Hid (FrS w (w7.alloc (.cells #[.slice u1 l1 u2, .slice u3 l2 u4, .int .u64 (sq : Int)] 32)) gp M pc ps gb N bc ts (.slice oa n l) os (.slice aa d f) ((fragTo ss (plcs ss) i) ++ (ns.take j).map (fun n => (p, p2, n)))) := HSZ.out.below hbt
                have HBE : Hid (Boxed (w7.alloc (.cells #[.slice u1 l1 u2, .slice u3 l2 u4, .int .u64 (sq : Int)] 32)) fb 29 (.slice xa pl xc)) := (hbt.block fb HBZ.out.lt).trans HBZ.out
                have HNE : Hid (RowN wr0 (w7.alloc (.cells #[.slice u1 l1 u2, .slice u3 l2 u4, .int .u64 (sq : Int)] 32)) (.slice (some ⟨gn, 0, none⟩) L nc) ns) := HNZ.out.below hbt
                have HWS : Hid (w.heap.size ≤ wr.heap.size) := HSZ.out.bel.size
                have HOX : Hid (OwnN w.heap.size _ (.slice u1 l1 u2) p) := (ox.below hbe (Nat.le_refl _)).mono (by have := HWS.out; omega)
                have HOY : Hid (OwnN w.heap.size _ (.slice u3 l2 u4) p2) := (oy.below hbe (Nat.le_refl _)).mono (by have := HWS.out; omega)
                have hse := HSE.out.bel.size
                obtain ⟨cs9, hrow, hel⟩ := HSE.out.all
                rw [HD.out] at hrow
                have HROW : Hid _ := hrow
                have HEL : Hid _ := hel
                have hd9 : d ≤ 3000000 := by
                  have h9 := HD.out
                  rw [List.length_append, List.length_map, List.length_take, HLL.out] at h9
                  have h8 := fragTo_len ss (plcs ss) i
                  rw [HN.out.1] at h8
                  have h7 : i * N ≤ 2000 * 1000 := Nat.mul_le_mul (by omega) (by omega)
                  have := HLB.out
                  omega
                have HPS : Hid (∀ g4 c4 w4, w4.ownsRow w.heap.size 32 3 (.slice (some ⟨g4, 0, none⟩) (d + 1) c4) (d + 1) (cs9 ++ [.slice u1 l1 u2, .slice u3 l2 u4, .int .u64 (sq : Int)]) → (w7.alloc (.cells #[.slice u1 l1 u2, .slice u3 l2 u4, .int .u64 (sq : Int)] 32)).grownBy w4 (Value.slice aa d f).ownBlock → ((Value.slice aa d f).ownBlock = some g4 ∨ g4 = (w7.alloc (.cells #[.slice u1 l1 u2, .slice u3 l2 u4, .int .u64 (sq : Int)] 32)).heap.size) → (((fragTo ss (plcs ss) i) ++ (ns.take (j + 1)).map (fun n => (p, p2, n))).length = d + 1) ∧ FrS w w4 gp M pc ps gb N bc ts (.slice oa n l) os (.slice (some ⟨g4, 0, none⟩) (d + 1) c4) ((fragTo ss (plcs ss) i) ++ (ns.take (j + 1)).map (fun n => (p, p2, n))) ∧ Boxed w4 fb 29 (.slice xa pl xc) ∧ RowN wr0 w4 (.slice (some ⟨gn, 0, none⟩) L nc) ns) := by
                  intro g4 c4 w4 hown hgrow hat
                  rw [HNX.out, ← List.append_assoc]
                  refine ⟨by rw [List.length_append, HD.out]; rfl, HSE.out.al hgrow (AllS.push (p, p2, sq) HD.out HROW.out HEL.out HOX.out HOY.out hown hgrow) ?_, HBE.out.kept hgrow (HBE.out.not_row (by decide) HROW.out), World.ownsRow.kept HNE.out hgrow (rows_ne (by decide) HROW.out HNE.out)⟩
                  rcases hat with h9 | h9
                  · exact .inl h9.symm
                  · exact .inr ⟨g4, rfl, by rw [h9]; exact Nat.le_refl _⟩
                clear hap hb7 ox oy hl1 hl2 hbe hbt hel kb k0
                go_wp2_with (first | (at_builtin; refine wpList_append_lies _ rfl (.tmp 67) (.tmp 73) 22 rfl w.heap.size 32 i0 (.agg #[.slice none 0 0, .slice none 0 0, .int .u64 0]) 3 56 Try.underlying22 hi hz0 hz1 hz2 rfl (by decide) (.slice aa d f) d cs9 rfl hrow ⟨w7.heap.size, 0, none⟩ 1 1 [.slice u1 l1 u2, .slice u3 l2 u4, .int .u64 (sq : Int)] rfl rfl hlit (oneS _ _ _ _ _ _ _) (by decide) (by simp only [maxLen]; omega) (by omega) hse _ rfl ?_; intro g4 c4 w4 hown hgrow hat hlt4; have HP4 : Hid _ := HPS.out g4 c4 w4 hown hgrow hat; clear hown hgrow hat hlt4) | fail)
                clear hrow hlit hse
                go_roundg (gk - 1)
                case measure => exact y1
                case rel => exact ⟨j + 1, d + 1, c4, _, y2, by go_num, rfl, HP4.out.1, HP4.out.2.1, HP4.out.2.2.1, HP4.out.2.2.2⟩
              · have hjE : j = L := by omega
                subst hjE
                have HFE : Hid (fragTo ss (plcs ss) (i + 1) = (fragTo ss (plcs ss) i) ++ (ns.take j).map (fun n => (p, p2, n))) := by
                  show _ = _
                  rw [fragTo_part ss (plcs ss) i hiP2, ← HNS.out, ← HLL.out, List.take_length, HP.out.1, HP.out.2]
                go_wp2_with fail
                go_roundg (G - 1)
                case measure => omega
                case rel => exact ⟨i + 1, q, m, o, c, n, l, d, f, aa, oa, os, q2, by go_num, rfl, rfl, rfl, hmc, ⟨HX.out.1, HX.out.2.1, HX.out.2.2.1, by rw [HFE.out]; exact HD.out⟩, HOV, by show FrS _ _ _ _ _ _ _ _ _ _ _ _ _ _; rw [HFE.out]; exact HSZ.out⟩
    · have hiK : i = K := by omega
      subst hiK
      go_wp2_with fail
      go_wp2
      go_ret
      have hfr : fragTo ss (plcs ss) i = fragN ss := by
        unfold fragN
        rw [HPLN.out]
        have := HKM.out
        rw [show M - 1 = i by omega]
      exact ⟨_, rfl, by rw [← hfr]; exact HS.out.all.rd, HS.out.bel⟩

end Go.Proofs.Ytifdomhmmhepcaa

/- (*tomb.Set).Add. -/
namespace Go.Proofs.Ytifdomhmmhepcaa
set_option maxRecDepth 100000
open Go.RowKit
set_option linter.unusedVariables false
set_option linter.unusedSimpArgs false

/-- a set that is one's own: from block B on -/
def SetO (B : Nat) (w : World) (t : Nat) (ss : List SpB) : Prop := B ≤ t ∧ ∃ v, Boxed w t 52 v ∧ AllS B w v ss

theorem SetO.at {B t : Nat} {w : World} {ss : List SpB} (h : SetO B w t ss) : SetAt w t ss := by
  obtain ⟨_, v, hv, ha⟩ := h
  exact ⟨v, hv.cell, ha.rd⟩

theorem SetO.below {B t : Nat} {w w' : World} {ss : List SpB} (h : SetO B w t ss) (hb : Below w.heap.size w w') : SetO B w' t ss := by
  obtain ⟨h0, v, hv, ha⟩ := h
  exact ⟨h0, v, (hb.block t hv.lt).trans hv, ha.below hb⟩

/-- what turns lies ahead of it -/
theorem SetO.aside {B t r : Nat} {w w' : World} {ss : List SpB} (h : SetO B w t ss) (hg : w.grownBy w' (some r)) (hr : r < B) : SetO B w' t ss := by
  obtain ⟨h0, v, hv, cs, hrow, hel⟩ := h
  have hk : ∀ q, B ≤ q → q < w.heap.size → w'.heap[q]? = w.heap[q]? := fun q h1 h2 => hg.block q h2 (fun e => by cases e; omega)
  have hN : ∀ x l, OwnN B w x l → OwnN B w' x l := fun x l ho => by
    rcases ho with ho | ho
    · exact .inl ho
    · obtain ⟨g, c, rfl⟩ := ho.shape
      exact .inr (Own.of_row (ho.row.kept hg (.inr (fun e => by have h9 := (ho.row.lt g rfl).1; simp [Value.ownBlock] at e; omega))) (by simp))
  refine ⟨h0, v, (hk t h0 hv.lt).trans hv, cs, hrow.kept hg ?_, fun j hj => ?_⟩
  · cases hb : v.ownBlock with
    | none => exact .inl rfl
    | some q => exact .inr (fun e => by have := (hrow.lt q hb).1; cases e; omega)
  · obtain ⟨x, y, c0, c1, c2, ox, oy⟩ := hel j hj
    exact ⟨x, y, c0, c1, c2, hN _ _ ox, hN _ _ oy⟩

/-- its box is written over -/
theorem AllS.kept9 {B t : Nat} {T : TypeId} {w : World} {v u o : Value} {es : List SpB} (h : AllS B w v es) (hb : Boxed w t T o) (hT : T ≠ 32 ∧ T ≠ 5 := by decide) : AllS B (w.setCell ⟨t, 0, none⟩ u) v es := by
  obtain ⟨cs, hrow, hel⟩ := h
  have hg := grownBy_setCell' w t u
  have hN : ∀ x l, OwnN B w x l → OwnN B (w.setCell ⟨t, 0, none⟩ u) x l := fun x l ho => by
    rcases ho with ho | ho
    · exact .inl ho
    · obtain ⟨g, c, rfl⟩ := ho.shape
      exact .inr (Own.of_row (ho.row.kept hg (.inr (fun e => hb.not_row hT.2 ho.row e.symm))) (by simp))
  refine ⟨cs, hrow.kept hg ?_, fun j hj => ?_⟩
  · exact .inr (fun e => hb.not_row hT.1 hrow e.symm)
  · obtain ⟨x, y, c0, c1, c2, ox, oy⟩ := hel j hj
    exact ⟨x, y, c0, c1, c2, hN _ _ ox, hN _ _ oy⟩

/-- what Add answers -/
def AddPost (B : Nat) (w : World) (t : Nat) (ss : List SpB) (o : SpB) (c : Int) (e : Ending) (w' : World) : Prop :=
  e = .returned (.int .i64 c) ∧ SetO B w' t (if c = 0 then ss ++ [o] else ss) ∧ Below B w w'

theorem boxed_set9 {w : World} {t : Nat} {T : TypeId} {v u : Value} (h : Boxed w t T v) : Boxed (w.setCell ⟨t, 0, none⟩ u) t T u := h.set u

set_option maxHeartbeats 4000000 in
theorem tadd_any (w : World) (B t : Nat) (ss : List SpB) (x y : Value) (l m : List UInt8) (s : Nat) (c : Int) (hS : SetO B w t ss) (hB : B ≤ w.heap.size) (hx : Rd w x l) (hy : Rd w y m) (hn : ss.length ≤ 100000) (hc : chkSp l m (s : Int) = c) :
    Calls Try.prog 13 #[.pointer (some ⟨t, 0, none⟩), spV x y (s : Int)] w (AddPost B w t ss (l, m, s) c) := by
  obtain ⟨i0, hi, hz0, hz1, hz2⟩ := info_parts infoSp
  obtain ⟨hBt, v, hv, ha⟩ := hS
  obtain ⟨xa, xc, rfl⟩ := hx.len
  obtain ⟨ya, yc, rfl⟩ := hy.len
  obtain ⟨nl, hnl⟩ : ∃ nl, l.length = nl := ⟨_, rfl⟩
  obtain ⟨ml, hml⟩ : ∃ ml, m.length = ml := ⟨_, rfl⟩
  rw [hnl] at hx ⊢
  rw [hml] at hy ⊢
  obtain ⟨va, vc, ev⟩ := ha.rd.shape
  subst ev
  obtain ⟨N, hN⟩ : ∃ N, ss.length = N := ⟨_, rfl⟩
  rw [hN] at hv ha hn
  have HN : Hid (ss.length = N) := hN
  have hb0 := below_box w #[.slice xa nl xc, .slice ya ml yc, .int .u64 (s : Int)] 32
  have HB0 : Hid (Below w.heap.size w (w.alloc (.cells #[.slice xa nl xc, .slice ya ml yc, .int .u64 (s : Int)] 32))) := hb0
  have BX := box_new w (.slice xa nl xc) (.slice ya ml yc) (.int .u64 (s : Int)) 32
  have hck := tcheck_any (w.alloc (.cells #[.slice xa nl xc, .slice ya ml yc, .int .u64 (s : Int)] 32)) (.slice xa nl xc) (.slice ya ml yc) l m (s : Int) c (hx.below hb0 (Nat.le_refl _)) (hy.below hb0 (Nat.le_refl _)) hc
  have he : ∀ w : World, (binOp .eql 27 (.pointer (some ⟨t, 0, none⟩)) (.pointer none)).run Try.prog w = .ok (.bool false) w := fun _ => rfl
  have HS : Hid (B ≤ t ∧ Boxed w t 52 (.slice va N vc) ∧ AllS B w (.slice va N vc) ss) := ⟨hBt, hv, ha⟩
  have HX : Hid (Rd w (.slice xa nl xc) l ∧ Rd w (.slice ya ml yc) m) := ⟨hx, hy⟩
  have HLM : Hid (l.length = nl ∧ m.length = ml) := ⟨hnl, hml⟩
  have HC : Hid (chkSp l m (s : Int) = c) := hc
  have BX' := BX
  obtain ⟨z0, z1, z2, _, _, _⟩ := BX'
  clear hN hb0 hx hy hnl hml hc ha
  go_enter Try.func13, Try.ntmps13
  go_wp2_with fail
  refine hck.mono ?_
  rintro e w1 ⟨rfl, hb1⟩
  have hbw : Below w.heap.size w w1 := bsplit HB0.out hb1
  have HBW : Hid (Below w.heap.size w w1) := hbw
  have HB1 : Hid (Below B w w1) := hbw.mono hB
  have HS1 : Hid (Boxed w1 t 52 (.slice va N vc) ∧ AllS B w1 (.slice va N vc) ss) := ⟨(hbw.block t HS.out.2.1.lt).trans HS.out.2.1, HS.out.2.2.below hbw⟩
  clear z0 z1 z2
  have B1 := BX.below hb1 (Nat.le_refl _)
  clear hck hb1 hbw BX
  by_cases h0 : c = 0
  · subst h0
    have hlen : l.length ≤ 64 ∧ m.length ≤ 64 := by
      have h9 := HC.out
      unfold chkSp at h9
      split at h9
      · rename_i hh; exact ⟨hh.1.2, hh.2.1.2⟩
      · omega
    have ra := (HX.out.1.below HBW.out (Nat.le_refl _)).arg
    have rb := (HX.out.2.below HBW.out (Nat.le_refl _)).arg
    have hap := tapart_any w1.drew (.slice xa nl xc) (.slice ya ml yc) l m (s : Int) (arg_drew ra) (arg_drew rb) (by omega) (by omega)
    have tb : w1.drew.cell? ⟨t, 0, none⟩ = some (.slice va N vc) := HS1.out.1.cell
    have bs := B1.drew
    have HNE : Hid (t ≠ w.heap.size ∧ ∀ q, (Value.slice va N vc).ownBlock = some q → q < w.heap.size) := ⟨by have := HS.out.2.1.lt; omega, fun q hq => (HS.out.2.2.lt q hq).2⟩
    have HSD : Hid (Boxed w1.drew t 52 (.slice va N vc) ∧ AllS B w1.drew (.slice va N vc) ss) := HS1.out
    have HBD : Hid (Below w.heap.size w w1.drew) := HBW.out.drew
    clear hlen ra rb B1
    go_wp2_with fail
    obtain ⟨z0, z1, z2, _, _, _⟩ := bs
    go_region_law
      (first
        | (go_simp
           go_at_call 30
           refine Calls.mono hap ?_
           rintro e w2 ⟨ux, uy, rfl, ox, oy, hb2⟩
           obtain ⟨u1, u2, hu⟩ := ox.rd.len
           subst hu
           obtain ⟨u3, u4, hu⟩ := oy.rd.len
           subst hu
           rw [HLM.out.1] at ox ⊢
           rw [HLM.out.2] at oy ⊢
           have t2 := (hb2.cell (p := ⟨t, 0, none⟩) (World.block_lt_of_cell? _ _ tb)).trans tb
           have hbe := below_box4 w2 (.cells #[.slice u1 nl u2, .slice u3 ml u4, .int .u64 (s : Int)] 32)
           have t3 := (hbe.cell (p := ⟨t, 0, none⟩) (World.block_lt_of_cell? _ _ t2)).trans t2)
        | (have hA2 := (HSD.out.2.below hb2).below hbe
           have hT2 : Boxed (w2.alloc (.cells #[.slice u1 nl u2, .slice u3 ml u4, .int .u64 (s : Int)] 32)) t 52 (.slice va N vc) := (hbe.block t (Nat.lt_of_lt_of_le HSD.out.1.lt hb2.size)).trans ((hb2.block t HSD.out.1.lt).trans HSD.out.1)
           have hB2 : Below B w (w2.alloc (.cells #[.slice u1 nl u2, .slice u3 ml u4, .int .u64 (s : Int)] 32)) := (bsplit (bsplit HBD.out hb2) hbe).mono hB
           have oxe := (ox.below hbe (Nat.le_refl _)).mono (C := B) (by have := HBD.out.size; omega)
           have oye := (oy.below hbe (Nat.le_refl _)).mono (C := B) (by have := HBD.out.size; omega)
           obtain ⟨cs, hrow, hel⟩ := hA2
           rw [HN.out] at hrow
           refine step_append_lies _ rfl (.tmp 17) (.tmp 20) 22 rfl B 32 i0 (.agg #[.slice none 0 0, .slice none 0 0, .int .u64 0]) 3 56 Try.underlying22 hi hz0 hz1 hz2 rfl (by decide) (.slice va N vc) N cs rfl hrow ⟨w2.heap.size, 0, none⟩ 1 1 [.slice u1 nl u2, .slice u3 ml u4, .int .u64 (s : Int)] rfl rfl (laidT3 _ _ _ _ _) (oneS _ _ _ _ _ _ _) (by decide) (by simp only [maxLen]; omega) (by omega) (Nat.le_trans hB (bsplit (bsplit HBD.out hb2) hbe).size) _ rfl ?_
           intro g4 c4 w4 hown hgrow hat hlt4
           have hT4 := hT2.kept hgrow (hT2.not_row (by decide) hrow)
           have t4 := hT4.cell
           have f4 := hT4.frozen
           have HPU : Hid (AllS B w4 (.slice (some ⟨g4, 0, none⟩) (N + 1) c4) (ss ++ [(l, m, s)])) := AllS.push (l, m, s) HN.out hrow hel oxe oye hown hgrow
           have HB4 : Hid (Below B w w4) := hB2.grown hgrow (Nat.le_trans hB hB2.size) (fun k' e => (hrow.lt k' e).1)
           have HT4 : Hid (Boxed w4 t 52 (.slice va N vc)) := hT4)
        | fail)
    all_goals
      go_wp2
      go_ret
      refine ⟨rfl, ?_, HB4.out.setCell (p := ⟨t, 0, none⟩) HS.out.1 _⟩
      rw [if_pos rfl]
      obtain ⟨cs4, hr4, he4⟩ := HPU.out
      exact ⟨HS.out.1, _, HT4.out.set _, AllS.kept9 HPU.out HT4.out⟩
  · go_wp2
    go_ret
    refine ⟨rfl, ?_, HB1.out⟩
    rw [if_neg h0]
    exact ⟨HS.out.1, _, HS1.out.1, HS1.out.2⟩

end Go.Proofs.Ytifdomhmmhepcaa

/- tomb.New, All, Len; a nil set. -/
namespace Go.Proofs.Ytifdomhmmhepcaa
set_option maxRecDepth 100000
open Go.RowKit
set_option linter.unusedVariables false
set_option linter.unusedSimpArgs false

/-- is a span right? -/
def okS (e : SpB) : Bool := decide (chkSp e.1 e.2.1 (e.2.2 : Int) = 0)
def rightS (es : List SpB) : List SpB := es.filter okS

theorem rightS_next {es : List SpB} {j : Nat} (h : j < es.length) : rightS (es.take (j + 1)) = if chkSp es[j].1 es[j].2.1 (es[j].2.2 : Int) = 0 then rightS (es.take j) ++ [es[j]] else rightS (es.take j) := by
  unfold rightS
  rw [List.take_succ_eq_append_getElem h, List.filter_append]
  by_cases h0 : chkSp es[j].1 es[j].2.1 (es[j].2.2 : Int) = 0
  · rw [if_pos h0]
    have : okS es[j] = true := by unfold okS; exact decide_eq_true h0
    simp [this]
  · rw [if_neg h0]
    have : okS es[j] = false := by unfold okS; exact decide_eq_false h0
    simp [this]

theorem rightS_len (es : List SpB) : (rightS es).length ≤ es.length := List.length_filter_le _ _

theorem chk_ok {e : SpB} (h : okS e = true) : (1 ≤ e.1.length ∧ e.1.length ≤ 64) ∧ (1 ≤ e.2.1.length ∧ e.2.1.length ≤ 64) ∧ Lib.compareBytes e.1 e.2.1 < 0 ∧ 1 ≤ e.2.2 ∧ e.2.2 ≤ 72057594037927935 := by
  unfold okS chkSp at h
  rw [decide_eq_true_iff] at h
  split at h
  · rename_i hh; exact ⟨hh.1, hh.2.1, hh.2.2.1, by omega, by omega⟩
  · omega

theorem right_up (es : List SpB) : Up9 (rightS es) := fun s hs => (chk_ok (List.mem_filter.1 hs).2).2.2.1

theorem right_lens (es : List SpB) : ∀ s ∈ rightS es, s.1.length ≤ 1000 ∧ s.2.1.length ≤ 1000 := fun s hs => by
  have h := chk_ok (List.mem_filter.1 hs).2
  omega

set_option maxHeartbeats 4000000 in
theorem tnew_any (w : World) (v : Value) (es : List SpB) (hv : RdS w v es) (hn : es.length ≤ 2000) :
    Calls Try.prog 10 #[v] w fun e w' => e = .returned (.pointer (some ⟨w.heap.size, 0, none⟩)) ∧ SetO w.heap.size w' w.heap.size (rightS es) ∧ Below w.heap.size w w' := by
  have HV : Hid (RdS w v es) := hv
  obtain ⟨ao, cap, rfl, h1, h2, _⟩ := hv
  unfold maxLen at h2
  obtain ⟨N, hN⟩ : ∃ N, es.length = N := ⟨_, rfl⟩
  rw [hN] at h1 HV hn ⊢
  have HN : Hid (es.length = N) := hN
  have HB0 : Hid (Below w.heap.size w (w.alloc (.cells #[.slice none 0 0] 52))) := below_box4 w _
  have HS0 : Hid (SetO w.heap.size (w.alloc (.cells #[.slice none 0 0] 52)) w.heap.size (rightS [])) := ⟨Nat.le_refl _, _, Boxed.new w _ _, AllS.nil _ _⟩
  clear hN
  go_enter Try.func10, Try.ntmps10
  go_wp2_with fail
  go_loopg [10] N (fun gk iv wr => ∃ j : Nat, gk + j = N ∧ iv = .int .i64 (j : Int) ∧ Hid (SetO w.heap.size wr w.heap.size (rightS (es.take j))) ∧ Hid (Below w.heap.size w wr))
  case atStart => exact ⟨0, by omega, rfl, by rw [List.take_zero]; exact HS0, HB0⟩
  case round =>
    obtain ⟨j, hj, rfl, HS, HB⟩ := hrel
    by_cases hlt : j < N
    · have hlt2 : j < es.length := by rw [HN.out]; exact hlt
      obtain ⟨_, _, e, _, _, h3⟩ := rdS_below HV.out HB.out (Nat.le_refl _)
      rw [HN.out] at e
      cases e
      obtain ⟨b, off, rfl, xv, yv, c0, c1, c2, rx, ry⟩ := h3 j hlt2
      obtain ⟨x1, x2, ex⟩ := rx.len
      obtain ⟨y1, y2, ey⟩ := ry.len
      subst ex ey
      obtain ⟨q1, q2⟩ := gk_nxt hj hlt
      obtain ⟨⟨sl, sm, sq⟩, ho⟩ : ∃ o, es[j] = o := ⟨_, rfl⟩
      rw [ho] at c0 c1 c2 rx ry
      simp only at c0 c1 c2 rx ry
      have hb0 := below_box wr #[.slice x1 sl.length x2, .slice y1 sm.length y2, .int .u64 (sq : Int)] 32
      obtain ⟨z0, z1, z2, _, _, _⟩ := box_new wr (.slice x1 sl.length x2) (.slice y1 sm.length y2) (.int .u64 (sq : Int)) 32
      obtain ⟨c, hc⟩ : ∃ c, chkSp sl sm (sq : Int) = c := ⟨_, rfl⟩
      have had := tadd_any (wr.alloc (.cells #[.slice x1 sl.length x2, .slice y1 sm.length y2, .int .u64 (sq : Int)] 32)) w.heap.size w.heap.size (rightS (es.take j)) (.slice x1 sl.length x2) (.slice y1 sm.length y2) sl sm sq c (HS.out.below hb0) (Nat.le_trans HB.out.size hb0.size) (rx.below hb0 (Nat.le_refl _)) (ry.below hb0 (Nat.le_refl _)) (by have h9 := rightS_len (es.take j); rw [List.length_take] at h9; omega) hc
      have HNX : Hid (rightS (es.take (j + 1)) = if c = 0 then rightS (es.take j) ++ [(sl, sm, sq)] else rightS (es.take j)) := by show _ = _; rw [rightS_next hlt2, ho, ← hc]
      have HB1 : Hid (Below w.heap.size w (wr.alloc (.cells #[.slice x1 sl.length x2, .slice y1 sm.length y2, .int .u64 (sq : Int)] 32))) := bsplit HB.out hb0
      obtain ⟨nl, hnl⟩ : ∃ nl, sl.length = nl := ⟨_, rfl⟩
      obtain ⟨ml, hml⟩ : ∃ ml, sm.length = ml := ⟨_, rfl⟩
      rw [hnl, hml] at had HB1 z0 z1 z2
      rw [hnl] at c0
      rw [hml] at c1
      clear ho hb0 h3 rx ry hc hnl hml
      go_wp2_with fail
      refine had.mono ?_
      rintro e w2 ⟨rfl, hs2, hb2⟩
      have HS2 : Hid (SetO w.heap.size w2 w.heap.size (rightS (es.take (j + 1)))) := by show SetO _ _ _ _; rw [HNX.out]; exact hs2
      have HB2 : Hid (Below w.heap.size w w2) := HB1.out.trans hb2
      clear had hs2 hb2 z0 z1 z2 c0 c1 c2
      go_wp2_with fail
      go_roundg (gk - 1)
      case measure => exact q1
      case rel => exact ⟨j + 1, q2, by go_num, HS2, HB2⟩
    · have hjN : j = N := by omega
      subst hjN
      have HT : Hid (es.take j = es) := by show _ = _; rw [← HN.out, List.take_length]
      go_wp2_with fail
      go_wp2
      go_ret
      refine ⟨rfl, ?_, HB.out⟩
      have h9 := HS.out
      rw [HT.out] at h9
      exact h9

set_option maxHeartbeats 4000000 in
theorem tall_any (w : World) (t : Nat) (ss : List SpB) (ht : SetAt w t ss) (hn : ss.length ≤ 2000) (hL : ∀ s ∈ ss, s.1.length ≤ 1000 ∧ s.2.1.length ≤ 1000) :
    Calls Try.prog 16 #[.pointer (some ⟨t, 0, none⟩)] w fun e w' => ∃ v, e = .returned v ∧ AllS w.heap.size w' v ss ∧ Below w.heap.size w w' := by
  obtain ⟨i0, hi, hz0, hz1, hz2⟩ := info_parts infoSp
  obtain ⟨v, hc, hv⟩ := ht
  have HV : Hid (RdS w v ss) := hv
  obtain ⟨ao, cap, rfl, h1, h2, _⟩ := hv
  unfold maxLen at h2
  obtain ⟨N, hN⟩ : ∃ N, ss.length = N := ⟨_, rfl⟩
  rw [hN] at h1 HV hn hc
  have HN : Hid (ss.length = N) := hN
  have HL : Hid (∀ s ∈ ss, s.1.length ≤ 1000 ∧ s.2.1.length ≤ 1000) := hL
  have he : ∀ w : World, (binOp .eql 27 (.pointer (some ⟨t, 0, none⟩)) (.pointer none)).run Try.prog w = .ok (.bool false) w := fun _ => rfl
  clear hN hL
  go_enter Try.func16, Try.ntmps16
  go_wp2_with fail
  go_loopg [3, 13] N (fun gk av iv wr => ∃ j f : Nat, ∃ aa : Option Addr, gk + j = N ∧ iv = .int .i64 (j : Int) ∧ av = .slice aa j f ∧ Hid (AllS w.heap.size wr av (ss.take j)) ∧ Hid (Below w.heap.size w wr))
  case atStart => exact ⟨0, 0, none, by omega, rfl, rfl, by rw [List.take_zero]; exact AllS.nil _ _, Below.refl _ _⟩
  case round =>
    obtain ⟨j, f, aa, hj, rfl, rfl, HA, HB⟩ := hrel
    by_cases hlt : j < N
    · have hlt2 : j < ss.length := by rw [HN.out]; exact hlt
      obtain ⟨_, _, e, _, _, h3⟩ := rdS_below HV.out HB.out (Nat.le_refl _)
      rw [HN.out] at e
      cases e
      obtain ⟨b, off, rfl, xv, yv, c0, c1, c2, rx, ry⟩ := h3 j hlt2
      obtain ⟨x1, x2, ex⟩ := rx.len
      obtain ⟨y1, y2, ey⟩ := ry.len
      subst ex ey
      obtain ⟨q1, q2⟩ := gk_nxt hj hlt
      have hbd := HL.out _ (List.getElem_mem hlt2)
      obtain ⟨⟨sl, sm, sq⟩, ho⟩ : ∃ o, ss[j] = o := ⟨_, rfl⟩
      rw [ho] at c0 c1 c2 rx ry hbd
      simp only at c0 c1 c2 rx ry hbd
      have HTL : Hid ((ss.take j).length = j) := by show _ = _; rw [List.length_take, HN.out]; omega
      have HR : Hid (ss.take (j + 1) = ss.take j ++ [(sl, sm, sq)]) := by show _ = _; rw [List.take_succ_eq_append_getElem hlt2, ho]
      have hb0 := below_box wr #[.slice x1 sl.length x2, .slice y1 sm.length y2, .int .u64 (sq : Int)] 32
      obtain ⟨z0, z1, z2, _, _, _⟩ := box_new wr (.slice x1 sl.length x2) (.slice y1 sm.length y2) (.int .u64 (sq : Int)) 32
      have hap := tapart_any (wr.alloc (.cells #[.slice x1 sl.length x2, .slice y1 sm.length y2, .int .u64 (sq : Int)] 32)) (.slice x1 sl.length x2) (.slice y1 sm.length y2) sl sm (sq : Int) (rx.below hb0 (Nat.le_refl _)).arg (ry.below hb0 (Nat.le_refl _)).arg (by omega) (by omega)
      have HA1 : Hid (AllS w.heap.size (wr.alloc (.cells #[.slice x1 sl.length x2, .slice y1 sm.length y2, .int .u64 (sq : Int)] 32)) (.slice aa j f) (ss.take j)) := HA.out.below hb0
      have HB1 : Hid (Below w.heap.size w (wr.alloc (.cells #[.slice x1 sl.length x2, .slice y1 sm.length y2, .int .u64 (sq : Int)] 32))) := bsplit HB.out hb0
      obtain ⟨nl, hnl⟩ : ∃ nl, sl.length = nl := ⟨_, rfl⟩
      obtain ⟨ml, hml⟩ : ∃ ml, sm.length = ml := ⟨_, rfl⟩
      rw [hnl, hml] at hap HA1 HB1 z0 z1 z2
      rw [hnl] at c0
      rw [hml] at c1
      have HLM : Hid (sl.length = nl ∧ sm.length = ml) := ⟨hnl, hml⟩
      clear ho hb0 h3 rx ry hnl hml hbd
      go_wp2_with fail
      refine hap.mono ?_
      rintro e w7 ⟨ux, uy, rfl, ox, oy, hb7⟩
      obtain ⟨u1, u2, rfl⟩ := ox.rd.len
      obtain ⟨u3, u4, rfl⟩ := oy.rd.len
      rw [HLM.out.1] at ox ⊢
      rw [HLM.out.2] at oy ⊢
      have hbe := below_box4 w7 (.cells #[.slice u1 nl u2, .slice u3 ml u4, .int .u64 (sq : Int)] 32)
      have hlit := laidT3 w7 (.slice u1 nl u2) (.slice u3 ml u4) (.int .u64 (sq : Int)) 32
      have HBE : Hid (Below w.heap.size w (w7.alloc (.cells #[.slice u1 nl u2, .slice u3 ml u4, .int .u64 (sq : Int)] 32))) := bsplit (bsplit HB1.out hb7) hbe
      have hse := HBE.out.size
      have HS9 : Hid (w.heap.size ≤ (wr.alloc (.cells #[.slice x1 nl x2, .slice y1 ml y2, .int .u64 (sq : Int)] 32)).heap.size) := HB1.out.size
      have oxe := (ox.below hbe (Nat.le_refl _)).mono (C := w.heap.size) (by have := HS9.out; omega)
      have oye := (oy.below hbe (Nat.le_refl _)).mono (C := w.heap.size) (by have := HS9.out; omega)
      obtain ⟨cs9, hrow, hel⟩ := (HA1.out.below hb7).below hbe
      rw [HTL.out] at hrow
      have HPS : Hid (∀ g4 c4 w4, w4.ownsRow w.heap.size 32 3 (.slice (some ⟨g4, 0, none⟩) (j + 1) c4) (j + 1) (cs9 ++ [.slice u1 nl u2, .slice u3 ml u4, .int .u64 (sq : Int)]) → (w7.alloc (.cells #[.slice u1 nl u2, .slice u3 ml u4, .int .u64 (sq : Int)] 32)).grownBy w4 (Value.slice aa j f).ownBlock → AllS w.heap.size w4 (.slice (some ⟨g4, 0, none⟩) (j + 1) c4) (ss.take (j + 1)) ∧ Below w.heap.size w w4) := by
        intro g4 c4 w4 hown hgrow
        rw [HR.out]
        exact ⟨AllS.push (sl, sm, sq) HTL.out hrow hel oxe oye hown hgrow, HBE.out.grown hgrow HBE.out.size (fun k' e => (hrow.lt k' e).1)⟩
      clear hap hb7 ox oy hbe hel oxe oye z0 z1 z2 c0 c1 c2
      go_wp2_with (first | (at_builtin; refine wpList_append_lies _ rfl (.tmp 17) (.tmp 20) 22 rfl w.heap.size 32 i0 (.agg #[.slice none 0 0, .slice none 0 0, .int .u64 0]) 3 56 Try.underlying22 hi hz0 hz1 hz2 rfl (by decide) (.slice aa j f) j cs9 rfl hrow ⟨w7.heap.size, 0, none⟩ 1 1 [.slice u1 nl u2, .slice u3 ml u4, .int .u64 (sq : Int)] rfl rfl hlit (oneS _ _ _ _ _ _ _) (by decide) (by simp only [maxLen]; omega) (by omega) hse _ rfl ?_; intro g4 c4 w4 hown hgrow hat hlt4; have HP4 : Hid _ := HPS.out g4 c4 w4 hown hgrow; clear hown hgrow hat hlt4) | fail)
      clear hrow hlit hse
      go_roundg (gk - 1)
      case measure => exact q1
      case rel => exact ⟨j + 1, c4, _, q2, by go_num, rfl, HP4.out.1, HP4.out.2⟩
    · have hjN : j = N := by omega
      subst hjN
      have HT : Hid (ss.take j = ss) := by show _ = _; rw [← HN.out, List.take_length]
      go_wp2_with fail
      go_wp2
      go_ret
      refine ⟨_, rfl, ?_, HB.out⟩
      have h9 := HA.out
      rw [HT.out] at h9
      exact h9

theorem tlen_any (w : World) (t : Nat) (ss : List SpB) (ht : SetAt w t ss) :
    Calls Try.prog 17 #[.pointer (some ⟨t, 0, none⟩)] w fun e w' => e = .returned (.int .i64 (ss.length : Int)) ∧ w' = w := by
  obtain ⟨v, hc, hv⟩ := ht
  obtain ⟨a, c, rfl⟩ := hv.shape
  obtain ⟨N, hN⟩ : ∃ N, ss.length = N := ⟨_, rfl⟩
  rw [hN] at hc ⊢
  have he : ∀ w : World, (binOp .eql 27 (.pointer (some ⟨t, 0, none⟩)) (.pointer none)).run Try.prog w = .ok (.bool false) w := fun _ => rfl
  clear hv hN
  go_enter Try.func17, Try.ntmps17
  go_wp2
  go_ret
  exact ⟨rfl, rfl⟩

theorem eqNil9 : ∀ w : World, (binOp .eql 27 (.pointer none) (.pointer none)).run Try.prog w = .ok (.bool true) w := fun _ => rfl

theorem nilLen_any (w : World) : Calls Try.prog 17 #[.pointer none] w fun e w' => e = .returned (.int .i64 0) ∧ w' = w := by
  have he := eqNil9
  go_enter Try.func17, Try.ntmps17
  go_wp2
  go_ret
  exact ⟨rfl, rfl⟩

theorem nilAll_any (w : World) : Calls Try.prog 16 #[.pointer none] w fun e w' => e = .returned (.slice none 0 0) ∧ w' = w := by
  have he := eqNil9
  go_enter Try.func16, Try.ntmps16
  go_wp2
  go_ret
  exact ⟨rfl, rfl⟩

theorem nilFrag_any (w : World) : Calls Try.prog 18 #[.pointer none] w fun e w' => e = .returned (.slice none 0 0) ∧ w' = w := by
  have he := eqNil9
  go_enter Try.func18, Try.ntmps18
  go_wp2
  go_ret
  exact ⟨rfl, rfl⟩

theorem nilCover_any (w : World) (a : Option Addr) (n c : Nat) (s : Int) : Calls Try.prog 19 #[.pointer none, .slice a n c, .int .u64 s] w fun e w' => e = .returned (.int .u64 0) ∧ w' = w := by
  have he := eqNil9
  go_enter Try.func19, Try.ntmps19
  go_wp2
  go_ret
  exact ⟨rfl, rfl⟩

theorem nilAdd_any (w : World) (a b : Option Addr) (n c m d : Nat) (s : Int) : Calls Try.prog 13 #[.pointer none, spV (.slice a n c) (.slice b m d) s] w fun e w' => e = .returned (.int .i64 6) ∧ Below w.heap.size w w' := by
  have he := eqNil9
  have HB : Hid (Below w.heap.size w (w.alloc (.cells #[.slice a n c, .slice b m d, .int .u64 s] 32))) := below_box4 w _
  go_enter Try.func13, Try.ntmps13
  go_wp2
  go_ret
  exact ⟨rfl, HB.out⟩

end Go.Proofs.Ytifdomhmmhepcaa

/- The document's answer for tomb: Check, Covers, Cover. -/
namespace Go.Proofs.Ytifdomhmmhepcaa
set_option maxRecDepth 20000
open Go.RowKit
set_option linter.unusedVariables false
set_option linter.unusedSimpArgs false

set_option maxHeartbeats 2000000 in
theorem rtcovers_any (w : World) (x y kv : Value) (l m k : List UInt8) (s : Int) (r : Bool) (hx : Rd w x l) (hy : Rd w y m) (hk : Rd w kv k) (hr : covB l m k = r) :
    Calls Try.prog 40 #[spV x y s, kv] w fun e w' => e = .returned (.bool r) ∧ Below w.heap.size w w' := by
  obtain ⟨xa, xc, rfl⟩ := hx.len
  obtain ⟨ya, yc, rfl⟩ := hy.len
  obtain ⟨ka, kc, rfl⟩ := hk.len
  have hb0 := below_box w #[.slice xa l.length xc, .slice ya m.length yc, .int .u64 s] 32
  have HB0 : Hid (Below w.heap.size w (w.alloc (.cells #[.slice xa l.length xc, .slice ya m.length yc, .int .u64 s] 32))) := hb0
  obtain ⟨r1, hr1⟩ : ∃ r, decide (Lib.compareBytes k l < 0) = r := ⟨_, rfl⟩
  obtain ⟨r2, hr2⟩ : ∃ r, decide (Lib.compareBytes k m < 0) = r := ⟨_, rfl⟩
  have HC : Hid (r = (!r1 && r2)) := by show r = _; rw [← hr, ← hr1, ← hr2]; rfl
  have e1 := refless_any (w.alloc (.cells #[.slice xa l.length xc, .slice ya m.length yc, .int .u64 s] 32)) _ _ k l r1 (hk.below hb0 (Nat.le_refl _)) (hx.below hb0 (Nat.le_refl _)) hr1
  have e2 := refless_any (w.alloc (.cells #[.slice xa l.length xc, .slice ya m.length yc, .int .u64 s] 32)) _ _ k m r2 (hk.below hb0 (Nat.le_refl _)) (hy.below hb0 (Nat.le_refl _)) hr2
  obtain ⟨c0, c1, c2, _, _, _⟩ := box_new w (.slice xa l.length xc) (.slice ya m.length yc) (.int .u64 s) 32
  clear hr hr1 hr2 hx hy hk hb0
  go_enter Try.func40, Try.ntmps40
  go_wp2_with fail
  refine e1.mono ?_
  rintro o w1 ⟨rfl, rfl⟩
  cases r1
  · go_wp2_with fail
    refine e2.mono ?_
    rintro o w1 ⟨rfl, rfl⟩
    go_wp2
    go_ret
    exact ⟨ret_bool (by rw [HC.out]; simp), HB0.out⟩
  · go_wp2
    go_ret
    exact ⟨ret_bool (by rw [HC.out]; rfl), HB0.out⟩

set_option maxHeartbeats 2000000 in
theorem rtcheck_any (w : World) (x y : Value) (l m : List UInt8) (s c : Int) (hx : Rd w x l) (hy : Rd w y m) (hc : chkSp l m s = c) :
    Calls Try.prog 12 #[spV x y s] w fun e w' => e = .returned (.int .i64 c) ∧ Below w.heap.size w w' := by
  obtain ⟨xa, xc, rfl⟩ := hx.len
  obtain ⟨ya, yc, rfl⟩ := hy.len
  have hb0 := below_box w #[.slice xa l.length xc, .slice ya m.length yc, .int .u64 s] 32
  have HB0 : Hid (Below w.heap.size w (w.alloc (.cells #[.slice xa l.length xc, .slice ya m.length yc, .int .u64 s] 32))) := hb0
  obtain ⟨r3, hr3⟩ : ∃ r, decide (Lib.compareBytes l m < 0) = r := ⟨_, rfl⟩
  have e3 := refless_any (w.alloc (.cells #[.slice xa l.length xc, .slice ya m.length yc, .int .u64 s] 32)) _ _ l m r3 (hx.below hb0 (Nat.le_refl _)) (hy.below hb0 (Nat.le_refl _)) hr3
  obtain ⟨nl, hnl⟩ : ∃ z, l.length = z := ⟨_, rfl⟩
  obtain ⟨ml, hml⟩ : ∃ z, m.length = z := ⟨_, rfl⟩
  have HC : Hid (c = if (1 ≤ nl ∧ nl ≤ 64) ∧ (1 ≤ ml ∧ ml ≤ 64) ∧ r3 = true ∧ 1 ≤ s ∧ s ≤ 72057594037927935 then 0 else 4) := by
    show c = _
    rw [← hc, ← hr3, ← hnl, ← hml]
    unfold chkSp
    simp
  rw [hnl, hml] at e3 HB0 ⊢
  obtain ⟨c0, c1, c2, _, _, _⟩ := box_new w (.slice xa nl xc) (.slice ya ml yc) (.int .u64 s) 32
  clear hc hr3 hx hy hb0 hnl hml
  cases r3
  all_goals
    go_enter Try.func12, Try.ntmps12
    go_wp2_with (go_at_call 24; refine e3.mono ?_; rintro o w1 ⟨rfl, rfl⟩)
    all_goals go_ret
    all_goals (refine ⟨ret_int ?_, HB0.out⟩; rw [HC.out]; simp <;> omega)

set_option maxHeartbeats 4000000 in
theorem rtcover_any (w : World) (v : Value) (ss : List SpB) (kv : Value) (k : List UInt8) (seq : Int) (hv : RdS w v ss) (hk : Rd w kv k) :
    Calls Try.prog 21 #[v, kv, .int .u64 seq] w fun e w' => e = .returned (.int .u64 (covN ss k seq : Int)) ∧ Below w.heap.size w w' := by
  obtain ⟨ka, kc, rfl⟩ := hk.len
  obtain ⟨kl, hkl⟩ : ∃ z, k.length = z := ⟨_, rfl⟩
  rw [hkl] at hk ⊢
  have HK : Hid (Rd w (.slice ka kl kc) k) := hk
  have HV : Hid (RdS w v ss) := hv
  obtain ⟨ao, cap, rfl, h1, h2, _⟩ := hv
  unfold maxLen at h2
  obtain ⟨N, hN⟩ : ∃ N, ss.length = N := ⟨_, rfl⟩
  rw [hN] at h1 HV ⊢
  have HN : Hid (ss.length = N) := hN
  clear hN hk hkl
  go_enter Try.func21, Try.ntmps21
  go_wp2_with fail
  go_loopg [12, 7] N (fun gk iv mv wr => ∃ j m : Nat, gk + j = N ∧ iv = .int .i64 (j : Int) ∧ mv = .int .u64 (m : Int) ∧ Hid (m = covN (ss.take j) k seq) ∧ Hid (Below w.heap.size w wr))
  case atStart => exact ⟨0, 0, by omega, rfl, rfl, rfl, Below.refl _ _⟩
  case round =>
    obtain ⟨j, m, hj, rfl, rfl, HS, HB⟩ := hrel
    by_cases hlt : j < N
    · have hlt2 : j < ss.length := by rw [HN.out]; exact hlt
      obtain ⟨_, _, e, _, _, h3⟩ := rdS_below HV.out HB.out (Nat.le_refl _)
      rw [HN.out] at e
      cases e
      obtain ⟨b, off, rfl, xv, yv, c0, c1, c2, rx, ry⟩ := h3 j hlt2
      obtain ⟨x1, x2, ex⟩ := rx.len
      obtain ⟨y1, y2, ey⟩ := ry.len
      subst ex ey
      obtain ⟨⟨sl, sm, sq⟩, ho⟩ : ∃ o, ss[j] = o := ⟨_, rfl⟩
      rw [ho] at c0 c1 c2 rx ry
      obtain ⟨q1, q2⟩ := gk_nxt hj hlt
      simp only at c0 c1 c2 rx ry
      obtain ⟨nl, hnl⟩ : ∃ nl, sl.length = nl := ⟨_, rfl⟩
      obtain ⟨ml, hml⟩ : ∃ ml, sm.length = ml := ⟨_, rfl⟩
      rw [hnl] at c0 rx
      rw [hml] at c1 ry
      have hb0 := below_box wr #[.slice x1 nl x2, .slice y1 ml y2, .int .u64 (sq : Int)] 32
      have HB0 : Hid (Below w.heap.size w (wr.alloc (.cells #[.slice x1 nl x2, .slice y1 ml y2, .int .u64 (sq : Int)] 32))) := bsplit HB.out hb0
      have BX := box_new wr (.slice x1 nl x2) (.slice y1 ml y2) (.int .u64 (sq : Int)) 32
      obtain ⟨r, hr⟩ : ∃ r, covB sl sm k = r := ⟨_, rfl⟩
      have hcv := rtcovers_any (wr.alloc (.cells #[.slice x1 nl x2, .slice y1 ml y2, .int .u64 (sq : Int)] 32)) (.slice x1 nl x2) (.slice y1 ml y2) (.slice ka kl kc) sl sm k (sq : Int) r (rx.below hb0 (Nat.le_refl _)) (ry.below hb0 (Nat.le_refl _)) ((HK.out.below HB.out (Nat.le_refl _)).below hb0 (Nat.le_refl _)) hr
      have HX : Hid (covN (ss.take (j + 1)) k seq = if (sq : Int) ≤ seq ∧ r = true then max m sq else m) := by
        show _ = _
        rw [covN_next ss k seq j hlt2, ho, ← HS.out, ← hr]
        rfl
      have BX' := BX
      obtain ⟨z0, z1, z2, _, _, _⟩ := BX'
      clear ho hb0 h3 rx ry hnl hml hr
      by_cases hle : (sq : Int) ≤ seq
      · by_cases hgt : (m : Int) < (sq : Int)
        · have hmx : max m sq = sq := by omega
          rw [hmx] at HX
          go_wp2_with fail
          refine hcv.mono ?_
          rintro e w2 ⟨rfl, hb2⟩
          have HB2 : Hid (Below w.heap.size w w2) := bsplit HB0.out hb2
          clear z0 z1 z2
          obtain ⟨z0, z1, z2, _, _, _⟩ := BX.below hb2 (Nat.le_refl _)
          clear hcv hb2 BX hmx
          cases r
          · go_wp2_with fail
            go_roundg (gk - 1)
            case measure => exact q1
            case rel => exact ⟨j + 1, m, q2, by go_num, rfl, by show _ = _; rw [HX.out, if_neg (by simp)], HB2⟩
          · go_wp2_with fail
            go_roundg (gk - 1)
            case measure => exact q1
            case rel => exact ⟨j + 1, sq, q2, by go_num, rfl, by show _ = _; rw [HX.out, if_pos (by simp [hle])], HB2⟩
        · have hmx : max m sq = m := by omega
          rw [hmx] at HX
          go_wp2_with fail
          refine hcv.mono ?_
          rintro e w2 ⟨rfl, hb2⟩
          have HB2 : Hid (Below w.heap.size w w2) := bsplit HB0.out hb2
          clear z0 z1 z2
          obtain ⟨z0, z1, z2, _, _, _⟩ := BX.below hb2 (Nat.le_refl _)
          clear hcv hb2 BX hmx
          cases r
          all_goals
            go_wp2_with fail
            go_roundg (gk - 1)
            case measure => exact q1
            case rel => exact ⟨j + 1, m, q2, by go_num, rfl, by show _ = _; rw [HX.out, ite_self], HB2⟩
      · go_wp2_with fail
        refine hcv.mono ?_
        rintro e w2 ⟨rfl, hb2⟩
        have HB2 : Hid (Below w.heap.size w w2) := bsplit HB0.out hb2
        clear z0 z1 z2
        obtain ⟨z0, z1, z2, _, _, _⟩ := BX.below hb2 (Nat.le_refl _)
        clear hcv hb2 BX
        cases r
        all_goals
          go_wp2_with fail
          go_roundg (gk - 1)
          case measure => exact q1
          case rel => exact ⟨j + 1, m, q2, by go_num, rfl, by show _ = _; rw [HX.out, if_neg (fun h => by have := h.1; omega)], HB2⟩
    · have hjN : j = N := by omega
      subst hjN
      go_wp2_with fail
      go_wp2
      go_ret
      exact ⟨ret_int (by rw [HS.out, ← HN.out, List.take_length]), HB.out⟩

end Go.Proofs.Ytifdomhmmhepcaa

/- bartizanref09.Few and Right. -/
namespace Go.Proofs.Ytifdomhmmhepcaa
set_option maxRecDepth 20000
open Go.RowKit
set_option linter.unusedVariables false
set_option linter.unusedSimpArgs false

def cutS (e : SpB) : SpB := (e.1.take 80, e.2.1.take 80, e.2.2)
def fewS (n : Nat) (es : List SpB) : List SpB := (es.take n).map cutS

theorem fewS_take {n j : Nat} {es : List SpB} (h : j < es.length) (hn : j < n) : fewS n (es.take (j + 1)) = fewS n (es.take j) ++ [cutS es[j]] := by
  unfold fewS
  rw [List.take_take, List.take_take, Nat.min_eq_right (by omega), Nat.min_eq_right (by omega), List.take_succ_eq_append_getElem h, List.map_append]
  rfl

theorem fewS_stay {n j : Nat} {es : List SpB} (hn : ¬ j < n) : fewS n (es.take (j + 1)) = fewS n (es.take j) := by
  unfold fewS
  rw [List.take_take, List.take_take, Nat.min_eq_left (by omega), Nat.min_eq_left (by omega)]

theorem fewS_len (n : Nat) (es : List SpB) : (fewS n es).length ≤ n := by unfold fewS; rw [List.length_map, List.length_take]; omega

theorem fewS_lens (n : Nat) (es : List SpB) : ∀ s ∈ fewS n es, s.1.length ≤ 80 ∧ s.2.1.length ≤ 80 := fun s hs => by
  obtain ⟨e, _, rfl⟩ := List.mem_map.1 hs
  unfold cutS
  simp only [List.length_take]
  omega

set_option maxHeartbeats 4000000 in
theorem fewsp_any (w : World) (v : Value) (es : List SpB) (n : Nat) (hv : ArgS w v es) (hn : n ≤ 1000) :
    Calls Try.prog 9 #[v, .int .i64 (n : Int)] w fun e w' => ∃ x, e = .returned x ∧ AllS w.heap.size w' x (fewS n es) ∧ Below w.heap.size w w' := by
  obtain ⟨i0, hi, hz0, hz1, hz2⟩ := info_parts infoSp
  have HV : Hid (ArgS w v es) := hv
  obtain ⟨ao, cap, rfl, h1, h2, _⟩ := hv
  unfold maxLen at h2
  obtain ⟨N, hN⟩ : ∃ N, es.length = N := ⟨_, rfl⟩
  rw [hN] at h1 HV ⊢
  have HN : Hid (es.length = N) := hN
  clear hN
  go_enter Try.func9, Try.ntmps9
  go_wp2_with fail
  go_loopg [5, 10] N (fun gk pv iv wr => ∃ j d f : Nat, ∃ aa : Option Addr, gk + j = N ∧ iv = .int .i64 (j : Int) ∧ pv = .slice aa d f ∧ Hid ((fewS n (es.take j)).length = d) ∧ Hid (AllS w.heap.size wr pv (fewS n (es.take j))) ∧ Hid (Below w.heap.size w wr))
  case atStart => exact ⟨0, 0, 0, none, by omega, rfl, rfl, by show _ = _; unfold fewS; simp, by show AllS _ _ _ _; unfold fewS; simp only [List.take_zero, List.take_nil, List.map_nil]; exact AllS.nil _ _, Below.refl _ _⟩
  case round =>
    obtain ⟨j, d, f, aa, hj, rfl, rfl, HD, HA, HB⟩ := hrel
    by_cases hlt : j < N
    · have hlt2 : j < es.length := by rw [HN.out]; exact hlt
      obtain ⟨_, _, e, _, _, h3⟩ := argS_below HV.out HB.out (Nat.le_refl _)
      rw [HN.out] at e
      cases e
      obtain ⟨b, off, rfl, xv, yv, c0, c1, c2, rx, ry⟩ := h3 j hlt2
      obtain ⟨x1, x2, ex⟩ := Arg.shape rx
      obtain ⟨y1, y2, ey⟩ := Arg.shape ry
      subst ex ey
      obtain ⟨q1, q2⟩ := gk_nxt hj hlt
      obtain ⟨⟨sl, sm, sq⟩, ho⟩ : ∃ o, es[j] = o := ⟨_, rfl⟩
      rw [ho] at c0 c1 c2 rx ry
      simp only at c0 c1 c2 rx ry
      obtain ⟨nl, hnl⟩ : ∃ nl, sl.length = nl := ⟨_, rfl⟩
      obtain ⟨ml, hml⟩ : ∃ ml, sm.length = ml := ⟨_, rfl⟩
      rw [hnl] at c0 rx
      rw [hml] at c1 ry
      have hb0 := below_box4 wr (.cells #[.slice x1 nl x2, .slice y1 ml y2, .int .u64 (sq : Int)] 32)
      have bx := (box_new wr (.slice x1 nl x2) (.slice y1 ml y2) (.int .u64 (sq : Int)) 32).drew
      have HBx : Hid (Box (wr.alloc (.cells #[.slice x1 nl x2, .slice y1 ml y2, .int .u64 (sq : Int)] 32)) wr.heap.size (.slice x1 nl x2) (.slice y1 ml y2) (.int .u64 (sq : Int))) := box_new wr _ _ _ _
      by_cases hjn : j < n
      · have hjI : (j : Int) < (n : Int) := by omega
        obtain ⟨ck, HCK⟩ : ∃ ck, Hid (sl.take 80 = ck) := ⟨_, rfl⟩
        obtain ⟨co, HCO⟩ : ∃ co, Hid (sm.take 80 = co) := ⟨_, rfl⟩
        have HR : Hid (fewS n (es.take (j + 1)) = fewS n (es.take j) ++ [(ck, co, sq)]) := by show _ = _; rw [fewS_take hlt2 hjn, ho]; unfold cutS; rw [← HCK.out, ← HCO.out]
        have rx0 := arg_drew (rx.below hb0 (Nat.le_refl _))
        have ry0 := arg_drew (ry.below hb0 (Nat.le_refl _))
        have HA0 : Hid (AllS w.heap.size (wr.alloc (.cells #[.slice x1 nl x2, .slice y1 ml y2, .int .u64 (sq : Int)] 32)).drew (.slice aa d f) (fewS n (es.take j))) := HA.out.below hb0.drew
        have HB0 : Hid (Below w.heap.size w (wr.alloc (.cells #[.slice x1 nl x2, .slice y1 ml y2, .int .u64 (sq : Int)] 32)).drew) := (bsplit HB.out hb0).drew
        have HNE : Hid (some wr.heap.size ≠ (Value.slice aa d f).ownBlock) := fun e => by have := (HA.out.lt _ e.symm).2; omega
        have HDB : Hid (d ≤ 1000) := by show d ≤ 1000; have h9 := fewS_len n (es.take j); rw [HD.out] at h9; omega
        clear ho hb0 h3 rx ry hnl hml
        go_wp2_with fail
        go_region_held3 (fun w' => w'.cell? ⟨wr.heap.size, 0, none⟩ = some (.slice x1 nl x2) ∧ w'.cell? ⟨wr.heap.size, 1, none⟩ = some (.slice y1 ml y2) ∧ w'.cell? ⟨wr.heap.size, 2, none⟩ = some (.int .u64 (sq : Int)))
          (first | with_reducible exact ⟨b4.c0, b4.c1, b4.c2⟩ | with_reducible exact ⟨be.c0, be.c1, be.c2⟩ | with_reducible exact ⟨by2.c0, by2.c1, by2.c2⟩ | with_reducible exact ⟨bx2.c0, bx2.c1, bx2.c2⟩ | with_reducible exact ⟨bx.c0, bx.c1, bx.c2⟩)
          (first
            | (go_at_call 20; refine (cut_any _ _ sl 80 rx0 (by omega)).mono ?_; rintro e wx ⟨x, rfl, ox, hbx⟩; rw [HCK.out] at ox; obtain ⟨gx, kx, hx⟩ := ox.shape; subst hx; have bx2 := bx.below hbx (Nat.le_refl _); clear rx0)
            | (go_at_call 20; refine (cut_any _ _ sm 80 (ry0.below hbx (Nat.le_refl _)) (by omega)).mono ?_; rintro e wy ⟨y, rfl, oy, hby⟩; rw [HCO.out] at oy; obtain ⟨gy, ky, hy⟩ := oy.shape; subst hy; have by2 := bx2.below hby (Nat.le_refl _); have be := by2.alloc (.cells #[.slice (some ⟨gx, 0, none⟩) ck.length kx, .slice (some ⟨gy, 0, none⟩) co.length ky, .int .u64 (sq : Int)] 32))
            | (have hbe := below_box4 wy (.cells #[.slice (some ⟨gx, 0, none⟩) ck.length kx, .slice (some ⟨gy, 0, none⟩) co.length ky, .int .u64 (sq : Int)] 32)
               have hA9 := ((HA0.out.below hbx).below hby).below hbe
               have hB9 := bsplit (bsplit (bsplit HB0.out hbx) hby) hbe
               have oxe := (OwnN.mono (.inr ((ox.below hby (Nat.le_refl _)).below hbe (Nat.le_refl _))) (by have := HB0.out.size; omega) : OwnN w.heap.size _ _ ck)
               have oye := (OwnN.mono (.inr (oy.below hbe (Nat.le_refl _))) (by have := HB0.out.size; have := hbx.size; omega) : OwnN w.heap.size _ _ co)
               obtain ⟨cs, hrow, hel⟩ := hA9
               rw [HD.out] at hrow
               have hd9 := HDB.out
               refine step_append_lies _ rfl (.tmp 18) (.tmp 28) 22 rfl w.heap.size 32 i0 (.agg #[.slice none 0 0, .slice none 0 0, .int .u64 0]) 3 56 Try.underlying22 hi hz0 hz1 hz2 rfl (by decide) (.slice aa d f) d cs rfl hrow ⟨wy.heap.size, 0, none⟩ 1 1 [.slice (some ⟨gx, 0, none⟩) ck.length kx, .slice (some ⟨gy, 0, none⟩) co.length ky, .int .u64 (sq : Int)] rfl rfl (laidT3 _ _ _ _ _) (oneS _ _ _ _ _ _ _) (by decide) (by simp only [maxLen]; omega) (by omega) hB9.size _ rfl ?_
               intro g4 c4 w4 hown hgrow hat hlt4
               have b4 := be.grown hgrow HNE.out
               have HPU : Hid (AllS w.heap.size w4 (.slice (some ⟨g4, 0, none⟩) (d + 1) c4) (fewS n (es.take j) ++ [(ck, co, sq)])) := AllS.push (ck, co, sq) HD.out hrow hel oxe oye hown hgrow
               have HB4 : Hid (Below w.heap.size w w4) := hB9.grown hgrow hB9.size (fun k' e => (hrow.lt k' e).1)))
        go_wp2_with fail
        go_roundg (gk - 1)
        case measure => exact q1
        case rel => exact ⟨j + 1, d + 1, c4, _, q2, by go_num, rfl, by show _ = _; rw [HR.out, List.length_append, HD.out]; rfl, by show AllS _ _ _ _; rw [HR.out]; exact HPU.out, HB4⟩
      · have hjI : ¬ (j : Int) < (n : Int) := by omega
        have HST : Hid (fewS n (es.take (j + 1)) = fewS n (es.take j)) := fewS_stay hjn
        have HA0 : Hid (AllS w.heap.size (wr.alloc (.cells #[.slice x1 nl x2, .slice y1 ml y2, .int .u64 (sq : Int)] 32)) (.slice aa d f) (fewS n (es.take j))) := HA.out.below hb0
        have HB0 : Hid (Below w.heap.size w (wr.alloc (.cells #[.slice x1 nl x2, .slice y1 ml y2, .int .u64 (sq : Int)] 32))) := bsplit HB.out hb0
        clear ho hb0 h3 rx ry hnl hml bx
        go_wp2_with fail
        go_roundg (gk - 1)
        case measure => exact q1
        case rel => exact ⟨j + 1, d, f, aa, q2, by go_num, rfl, by show _ = _; rw [HST.out]; exact HD.out, by show AllS _ _ _ _; rw [HST.out]; exact HA0.out, HB0⟩
    · have hjN : j = N := by omega
      subst hjN
      have HT : Hid (es.take j = es) := by show _ = _; rw [← HN.out, List.take_length]
      go_wp2_with fail
      go_wp2
      go_ret
      refine ⟨_, rfl, ?_, HB.out⟩
      have h9 := HA.out
      rw [HT.out] at h9
      exact h9

end Go.Proofs.Ytifdomhmmhepcaa

/- bartizanref09.Same. -/
namespace Go.Proofs.Ytifdomhmmhepcaa
open Go.RowKit
set_option linter.unusedVariables false
set_option linter.unusedSimpArgs false

theorem sameq9 (w : World) (a b : Value) (l l' : List UInt8) (x : Bool) (ha : Rd w a l) (hb : Rd w b l') (hx : (l == l') = x) :
    Calls Try.prog 23 #[a, b] w fun e w' => e = .returned (.bool x) ∧ ∃ n, w' = w.drewN n :=
  (same_b w a b l l' x ha hb hx).mono (fun e w' h => ⟨h.1, 0, h.2⟩)

theorem retB9 {a b : Bool} (h : a = b) : Ending.returned (.bool a) = .returned (.bool b) := by rw [h]

set_option maxHeartbeats 16000000 in
set_option maxRecDepth 20000 in
theorem samesp_any (w : World) (va vb : Value) (os ps : List SpB) (r : Bool) (ha : RdS w va os) (hb : RdS w vb ps) (hr : os = ps ↔ r = true) :
    Calls Try.prog 15 #[va, vb] w fun e w' => e = .returned (.bool r) ∧ ∃ n, w' = w.drewN n := by
  obtain ⟨ao, ac, rfl, h1, h2, h3⟩ := ha
  obtain ⟨bo, bc, rfl, g1, g2, g3⟩ := hb
  unfold maxLen at h2 g2
  have H3 : Hid _ := h3
  have G3 : Hid _ := g3
  have HR : Hid _ := hr
  clear h3 g3 hr
  by_cases hl : os.length = ps.length
  · have HL : Hid _ := hl
    obtain ⟨n, hn⟩ : ∃ n, os.length = n := ⟨_, rfl⟩
    rw [hn] at hl h1 ⊢
    rw [← hl] at g1 ⊢
    have HN : Hid _ := hn
    clear hn hl
    go_enter Try.func15, Try.ntmps15
    go_wp2_with fail
    go_loopg [13] n (fun gk iv wr => ∃ j m : Nat, gk + j = n ∧ iv = .int .i64 (j : Int) ∧ wr = w.drewN m ∧ os.take j = ps.take j)
    case atStart => exact ⟨0, 0, rfl, rfl, rfl, by simp⟩
    case round =>
      obtain ⟨j, m, hj, rfl, hwr, ht⟩ := hrel
      have HW : Hid (∀ n, wr.drewN n = w.drewN (m + n)) := by intro n; rw [hwr]; exact World.drewN_drewN _ _ _
      have HW0 : Hid _ := hwr
      have HT : Hid _ := ht
      clear ht
      by_cases hlt : j < n
      · have hlo : j < os.length := by rw [HN.out]; exact hlt
        have hlp : j < ps.length := by rw [← HL.out, HN.out]; exact hlt
        obtain ⟨b, off, rfl, xv, yv, c0, c1, c2, rx, ry⟩ := H3.out j hlo
        obtain ⟨b', off', rfl, xv', yv', d0, d1, d2, rx', ry'⟩ := G3.out j hlp
        obtain ⟨⟨ol, oo, osq⟩, ho⟩ : ∃ o, os[j] = o := ⟨_, rfl⟩
        obtain ⟨⟨pl, po, psq⟩, hp⟩ : ∃ o, ps[j] = o := ⟨_, rfl⟩
        rw [ho] at c2 rx ry
        rw [hp] at d2 rx' ry'
        simp only at c2 rx ry d2 rx' ry'
        have e0 : ∀ p, w.cell? p = wr.cell? p := by intro p; rw [hwr]; rfl
        have e1 : ∀ v l, Rd w v l → Rd wr v l := by rw [hwr]; exact fun _ _ h => h
        rw [e0] at c0 c1 c2 d0 d1 d2
        replace rx := e1 _ _ rx
        replace rx' := e1 _ _ rx'
        replace ry := e1 _ _ ry
        replace ry' := e1 _ _ ry'
        clear e0 e1
        clear hwr
        have HO : Hid (os[j] = (ol, oo, osq)) := ho
        have HP : Hid (ps[j] = (pl, po, psq)) := hp
        clear ho hp
        obtain ⟨q, hq⟩ : ∃ q, (ol == pl) = q := ⟨_, rfl⟩
        have HQ : Hid _ := hq
        obtain ⟨q2, hq2⟩ : ∃ q2, (oo == po) = q2 := ⟨_, rfl⟩
        have HQ2 : Hid _ := hq2
        clear hq hq2
        cases q
        · have hno : Hid (r = false) := by
            show _ = _
            rw [← Bool.not_eq_true]
            intro hrt
            have heq := HR.out.2 hrt
            subst heq
            have e := HO.out.symm.trans HP.out
            simp only [Prod.mk.injEq] at e
            have := HQ.out
            rw [e.1] at this
            simp at this
          go_wp2_with fail
          go_quiet (first
            | (go_at_call 23; refine Calls.quiet_of (sameq9 _ _ _ ol pl false (by exact rx) (by exact rx') HQ.out)))
          go_wp2
          go_ret
          exact ⟨retB9 (by rw [hno.out]), _, HW.out _⟩
        · cases q2
          · have hno : Hid (r = false) := by
              show _ = _
              rw [← Bool.not_eq_true]
              intro hrt
              have heq := HR.out.2 hrt
              subst heq
              have e := HO.out.symm.trans HP.out
              simp only [Prod.mk.injEq] at e
              have := HQ2.out
              rw [e.2.1] at this
              simp at this
            go_wp2_with fail
            go_quiet (first
              | (go_at_call 23; refine Calls.quiet_of (sameq9 _ _ _ ol pl true (by exact rx) (by exact rx') HQ.out))
              | (go_at_call 23; refine Calls.quiet_of (sameq9 _ _ _ oo po false (by exact ry) (by exact ry') HQ2.out)))
            go_wp2
            go_ret
            exact ⟨retB9 (by rw [hno.out]), _, HW.out _⟩
          · by_cases hs : osq = psq
            · subst hs
              have hyes : Hid (os.take (j + 1) = ps.take (j + 1)) := by
                show _ = _
                rw [List.take_succ_eq_append_getElem hlo, List.take_succ_eq_append_getElem hlp, HT.out, HO.out, HP.out, eq_of_beq HQ.out, eq_of_beq HQ2.out]
              go_wp2_with fail
              go_quiet (first
                | (go_at_call 23; refine Calls.quiet_of (sameq9 _ _ _ ol pl true (by exact rx) (by exact rx') HQ.out))
                | (go_at_call 23; refine Calls.quiet_of (sameq9 _ _ _ oo po true (by exact ry) (by exact ry') HQ2.out)))
              go_wp2
              go_roundg (gk - 1)
              case measure => omega
              case rel => exact ⟨j + 1, _, by omega, by go_num, HW.out _, hyes.out⟩
            · have hsI : ¬ (osq : Int) = (psq : Int) := by omega
              have hsq : decide ((osq : Int) = (psq : Int)) = false := decide_eq_false hsI
              have hsq2 : ((osq : Int) != (psq : Int)) = true := by simp [hsI]
              have hno : Hid (r = false) := by
                show _ = _
                rw [← Bool.not_eq_true]
                intro hrt
                have heq := HR.out.2 hrt
                subst heq
                have e := HO.out.symm.trans HP.out
                simp only [Prod.mk.injEq] at e
                exact hs e.2.2
              go_wp2_with fail
              go_quiet (first
                | (go_at_call 23; refine Calls.quiet_of (sameq9 _ _ _ ol pl true (by exact rx) (by exact rx') HQ.out))
                | (go_at_call 23; refine Calls.quiet_of (sameq9 _ _ _ oo po true (by exact ry) (by exact ry') HQ2.out)))
              go_wp2
              go_ret
              exact ⟨retB9 (by rw [hno.out]), _, HW.out _⟩
      · obtain rfl : j = n := by omega
        have hyes : Hid (r = true) := by
          show _ = _
          apply HR.out.1
          have e := HT.out
          rw [List.take_of_length_le (by rw [HN.out]; omega), List.take_of_length_le (by rw [← HL.out, HN.out]; omega)] at e
          exact e
        clear hwr
        go_wp2
        go_ret
        exact ⟨retB9 (by rw [hyes.out]), _, HW0.out⟩
  · have hno : Hid (r = false) := by
      show _ = _
      rw [← Bool.not_eq_true]
      intro hrt
      exact hl (by rw [HR.out.2 hrt])
    obtain ⟨n, hn⟩ : ∃ n, os.length = n := ⟨_, rfl⟩
    obtain ⟨m, hm⟩ : ∃ n, ps.length = n := ⟨_, rfl⟩
    rw [hn, hm] at hl ⊢
    have hI : ¬ (n : Int) = (m : Int) := by omega
    have hbq : ((n : Int) == (m : Int)) = false := by simpa using hI
    clear hn hm hl h1 h2 g1 g2
    go_enter Try.func15, Try.ntmps15
    go_wp2
    go_ret
    exact ⟨retB9 (by rw [hno.out]), 0, rfl⟩

end Go.Proofs.Ytifdomhmmhepcaa

/- []byte(s): a row of the call's own that reads as the string's bytes. -/
namespace Go.Proofs.Ytifdomhmmhepcaa
open Go.RowKit

theorem conv_str (w : World) (t : ByteArray) (l : List UInt8) (hl : t.data.toList = l) (hm : l.length ≤ 100) :
    ∃ cap w', (convert 9 29 (.string t)).run Try.prog w = .ok (.slice (some ⟨w.heap.size, 0, none⟩) l.length cap) w' ∧ Rd w' (.slice (some ⟨w.heap.size, 0, none⟩) l.length cap) l ∧ Below w.heap.size w w' ∧ w'.heap.size = w.heap.size + 1 := by
  subst hl
  have hsz : t.size = t.data.toList.length := by rw [Array.length_toList]; rfl
  have hcap := grownCap_ge w t.size 0 5
  have hcap2 := grownCap_le_maxLen w t.size 0 5 (by rw [hsz]; unfold maxLen; omega)
  refine ⟨grownCap w t.size 0 5, Lib.bytesWorld w 5 t, ?_, .inr ⟨w.heap.size, 0, grownCap w t.size 0 5, rfl, by rw [← hsz]; exact hcap, hcap2, fun j u hu => ?_⟩, ?_, Lib.bytesWorld_size w 5 t⟩
  · have := Lib.run_convert_string_bytes (P := Try.prog) w 9 29 5 t Try.underlying9 Try.underlying29 Try.underlying5
    rw [this, hsz]
  · have hj : j < t.data.toList.length := by have := (List.getElem?_eq_some_iff.1 hu).1; rwa [bv_length] at this
    rw [Nat.zero_add, Lib.bytesWorld_cell w 5 t j (by rw [hsz]; exact hj), ← hu, bv_get _ j hj]
    have hj2 : j < t.data.size := by rwa [Array.length_toList] at hj
    have e : t.data[j]? = some t.data[j] := Array.getElem?_eq_getElem hj2
    simp [List.getD]
    rw [e]
    rfl
  · refine ⟨?_, ?_, ?_, ?_, fun k hk => Lib.bytesWorld_at_old w 5 t k hk⟩
    all_goals first | rfl | (rw [Lib.bytesWorld_size]; omega)

end Go.Proofs.Ytifdomhmmhepcaa

/- bartizanlaw09.span, awake. -/
namespace Go.Proofs.Ytifdomhmmhepcaa
set_option maxRecDepth 100000
open Go.RowKit
set_option linter.unusedVariables false
set_option linter.unusedSimpArgs false

set_option maxHeartbeats 1000000 in
theorem span9_any (w : World) (t u : ByteArray) (s : Nat) (l m : List UInt8) (hl : t.data.toList = l) (hl2 : l.length ≤ 100) (hm : u.data.toList = m) (hm2 : m.length ≤ 100) :
    Calls Try.prog 27 #[.string t, .string u, .int .u64 (s : Int)] w fun e w' => ∃ x y, e = .returned (spV x y (s : Int)) ∧ Rd w' x l ∧ Rd w' y m ∧ Below w.heap.size w w' := by
  have hb0 := below_box4 w (.cells #[.slice none 0 0, .slice none 0 0, .int .u64 0] 32)
  have br := box_new w (.slice none 0 0) (.slice none 0 0) (.int .u64 0) 32
  obtain ⟨cap, w1, hc, hr, hb, hs⟩ := conv_str (w.alloc (.cells #[.slice none 0 0, .slice none 0 0, .int .u64 0] 32)) t l hl hl2
  obtain ⟨cap2, w2, hc2, hr2, hb2, hs2⟩ := conv_str w1 u m hm hm2
  obtain ⟨c0, c1, c2, f0, f1, f2⟩ := (br.below hb (Nat.le_refl _)).below hb2 (Nat.le_refl _)
  have e1 : (w.alloc (.cells #[.slice none 0 0, .slice none 0 0, .int .u64 0] 32)).heap.size = w.heap.size + 1 := by simp
  have HB : Hid (Below w.heap.size w w2) := bsplit (bsplit hb0 hb) hb2
  rw [e1] at hc hr hs
  rw [hs] at hc2 hr2
  have HR : Hid (Rd w2 (.slice (some ⟨w.heap.size + 1, 0, none⟩) l.length cap) l ∧ Rd w2 (.slice (some ⟨w.heap.size + 1 + 1, 0, none⟩) m.length cap2) m) := ⟨hr.below hb2 (Nat.le_refl _), hr2⟩
  clear hb0 br hb hr hs hl hb2 hr2 hs2 hm e1
  go_enter Try.func27, Try.ntmps27
  go_wp2
  have hst : ∀ (g n c : Nat) (b : List UInt8), g ≠ w.heap.size → ∀ u0 u1 u2, Rd w2 (.slice (some ⟨g, 0, none⟩) n c) b → Rd (((w2.setCell ⟨w.heap.size, 0, none⟩ u0).setCell ⟨w.heap.size, 1, none⟩ u1).setCell ⟨w.heap.size, 2, none⟩ u2) (.slice (some ⟨g, 0, none⟩) n c) b := fun g n c b hg u0 u1 u2 h => by
    have go : ∀ (W : World) (i : Nat) (u : Value), Rd W (.slice (some ⟨g, 0, none⟩) n c) b → Rd (W.setCell ⟨w.heap.size, i, none⟩ u) (.slice (some ⟨g, 0, none⟩) n c) b := fun W i u h => by
      rcases h with ⟨h, _⟩ | ⟨b1, off, cc, e, h1, h2, h3⟩
      · simp at h
      · cases e
        exact .inr ⟨_, _, _, rfl, h1, h2, fun j v hv => (cell_other _ ⟨w.heap.size, i, none⟩ ⟨g, 0 + j, none⟩ _ hg).trans (h3 j v hv)⟩
    exact go _ _ _ (go _ _ _ (go _ _ _ h))
  exact bodyPost_ret (v := spV (.slice (some ⟨w.heap.size + 1, 0, none⟩) l.length cap) (.slice (some ⟨w.heap.size + 1 + 1, 0, none⟩) m.length cap2) (s : Int)) (by simp [results, Try.results27, go_sem, c0, c1, c2]) rfl ⟨_, _, rfl, hst _ _ _ _ (by omega) _ _ _ HR.out.1, hst _ _ _ _ (by omega) _ _ _ HR.out.2, below_store3 HB.out (Nat.le_refl _) _ _ _⟩

theorem rd9one (w : World) (b : UInt8) (i : Int) (hi : (b.toNat : Int) = i) : Rd (w.alloc (.cells #[.int .u8 i] 5 (1, 2))) (.slice (some ⟨w.heap.size, 0, none⟩) 1 1) [b] := by
  refine .inr ⟨w.heap.size, 0, 1, rfl, by simp, by simp [maxLen], fun j u hu => ?_⟩
  rw [World.cell?_alloc_mark]
  subst hi
  have hj : j = 0 := by have := (List.getElem?_eq_some_iff.1 hu).1; simp [bv] at this; omega
  subst hj
  simpa [bv] using hu

theorem conv9one (w : World) (i : Int) (g : Nat) (hg : g = w.heap.size) : (convert 29 29 (.slice (some ⟨g, 0, none⟩) 1 1)).run Try.prog (w.alloc (.cells #[.int .u8 i] 5)) = .ok (.slice (some ⟨g, 0, none⟩) 1 1) (w.alloc (.cells #[.int .u8 i] 5 (1, 2))) :=
  Joins.run_convert_bytes_const_at w 29 5 _ 1 1 g hg Try.underlying29 Try.underlying5

/-- spans as they are typed -/
theorem rdS_lit (w : World) (ts : List SpC) (h : ∀ t ∈ ts, GdS w t) (hn : ts.length ≤ 1000) : RdS (w.alloc (.cells (flatS ts).toArray 32)) (.slice (some ⟨w.heap.size, 0, none⟩) ts.length ts.length) (ts.map (·.e)) := by
  have hb := below_box4 w (.cells (flatS ts).toArray 32)
  have hr : RowT w w.heap.size (w.alloc (.cells (flatS ts).toArray 32)) (.slice (some ⟨w.heap.size, 0, none⟩) ts.length ts.length) ts := by
    refine ⟨?_, h⟩
    have h9 := World.ownsRow_lit (base := w.heap.size) (e := 32) (size := 3) w (flatS ts).toArray ts.length (Nat.le_refl _) (by unfold maxLen; omega) (by simp [flatS_len])
    simpa using h9
  exact hr.rd hb

def exA : List SpB := [([97], [99], 5), ([98], [100], 7)]
theorem exA1 : rightS exA = exA := by decide +kernel
theorem exA2 : fragN exA = [([97], [98], 5), ([98], [99], 7), ([98], [99], 5), ([99], [100], 7)] := by decide +kernel
theorem exA3 : covN exA [98] 9 = 7 := by decide +kernel
theorem exA4 : covN exA [98] 6 = 5 := by decide +kernel
theorem exA5 : covN exA [99] 6 = 0 := by decide +kernel

set_option maxHeartbeats 4000000 in
theorem tawake_any (w : World) : Calls Try.prog 8 #[] w fun e w' => e = .returned (.bool true) ∧ Below w.heap.size w w' := by
  go_enter Try.func8, Try.ntmps8
  go_wp2_with fail
  refine (span9_any w _ _ 5 [97] [99] rfl (by simp) rfl (by simp)).mono ?_
  rintro e w1 ⟨x1, y1, rfl, rx1, ry1, hb1⟩
  go_wp2_with fail
  refine (span9_any w1 _ _ 7 [98] [100] rfl (by simp) rfl (by simp)).mono ?_
  rintro e w2 ⟨x2, y2, rfl, rx2, ry2, hb2⟩
  have HB2 : Hid (Below w.heap.size w w2) := bsplit hb1 hb2
  have hlit := rdS_lit w2 [⟨x1, y1, ([97], [99], 5)⟩, ⟨x2, y2, ([98], [100], 7)⟩] (by
    intro t ht
    simp at ht
    rcases ht with rfl | rfl
    · exact ⟨rx1.below hb2 (Nat.le_refl _), ry1.below hb2 (Nat.le_refl _)⟩
    · exact ⟨rx2, ry2⟩) (by simp)
  obtain ⟨xa1, xc1, rfl⟩ := rx1.len
  obtain ⟨ya1, yc1, rfl⟩ := ry1.len
  obtain ⟨xa2, xc2, rfl⟩ := rx2.len
  obtain ⟨ya2, yc2, rfl⟩ := ry2.len
  have hnw := tnew_any _ _ _ hlit (by simp)
  have HB3 : Hid (Below w.heap.size w (w2.alloc (.cells (flatS [⟨.slice xa1 [97].length xc1, .slice ya1 [99].length yc1, ([97], [99], 5)⟩, ⟨.slice xa2 [98].length xc2, .slice ya2 [100].length yc2, ([98], [100], 7)⟩]).toArray 32))) := bsplit HB2.out (below_box4 w2 _)
  simp only [flatS, celS, List.flatMap_cons, List.flatMap_nil, List.append_nil, List.cons_append, List.nil_append, List.length_cons, List.length_nil, Nat.zero_add, List.map_cons, List.map_nil, Nat.reduceAdd, Int.cast_ofNat_Int] at hnw HB3
  clear hlit rx1 ry1 rx2 ry2 hb1 hb2
  go_wp2_with fail
  refine hnw.mono ?_
  rintro e w4 ⟨rfl, hs4, hb4⟩
  have HB4 : Hid (Below w.heap.size w w4) := bsplit HB3.out hb4
  obtain ⟨tb, htb⟩ : ∃ z, (w2.alloc (.cells #[.slice xa1 1 xc1, .slice ya1 1 yc1, .int .u64 5, .slice xa2 1 xc2, .slice ya2 1 yc2, .int .u64 7] 32)).heap.size = z := ⟨_, rfl⟩
  rw [htb] at hs4 ⊢
  have HS4 : Hid (SetO tb w4 tb exA) := by
    change SetO tb w4 tb (rightS exA) at hs4
    rw [exA1] at hs4
    exact hs4
  clear hnw hs4 hb4 htb HB3 HB2
  have k1 := conv9one w4 98 w4.heap.size rfl
  have g1 := below_box4 w4 (.cells #[.int .u8 98] 5 (1, 2))
  have HR1 : Hid (Rd (w4.alloc (.cells #[.int .u8 98] 5 (1, 2))) (.slice (some ⟨w4.heap.size, 0, none⟩) 1 1) [98]) := rd9one w4 98 98 rfl
  have HB5 : Hid (Below w.heap.size w (w4.alloc (.cells #[.int .u8 98] 5 (1, 2)))) := bsplit HB4.out g1
  have HS5 : Hid (SetO tb (w4.alloc (.cells #[.int .u8 98] 5 (1, 2))) tb exA) := HS4.out.below g1
  have hc1 := tcover_any (w4.alloc (.cells #[.int .u8 98] 5 (1, 2))) tb exA (.slice (some ⟨w4.heap.size, 0, none⟩) 1 1) [98] 9 HS5.out.at HR1.out
  rw [exA3] at hc1
  clear g1
  go_wp2_with fail
  refine hc1.mono ?_
  rintro e w5 ⟨rfl, hb5⟩
  have HB6 : Hid (Below w.heap.size w w5) := bsplit HB5.out hb5
  have HS6 : Hid (SetO tb w5 tb exA) := HS5.out.below hb5
  have HR6 : Hid (Rd w5 (.slice (some ⟨w4.heap.size, 0, none⟩) 1 1) [98]) := HR1.out.below hb5 (Nat.le_refl _)
  have hc2 := tcover_any w5 tb exA (.slice (some ⟨w4.heap.size, 0, none⟩) 1 1) [98] 6 HS6.out.at HR6.out
  rw [exA4] at hc2
  clear hc1 hb5 k1
  go_wp2_with fail
  refine hc2.mono ?_
  rintro e w6 ⟨rfl, hb6⟩
  have HB7 : Hid (Below w.heap.size w w6) := bsplit HB6.out hb6
  have HS7 : Hid (SetO tb w6 tb exA) := HS6.out.below hb6
  have k1 := conv9one w6 99 w6.heap.size rfl
  have g1 := below_box4 w6 (.cells #[.int .u8 99] 5 (1, 2))
  have HR7 : Hid (Rd (w6.alloc (.cells #[.int .u8 99] 5 (1, 2))) (.slice (some ⟨w6.heap.size, 0, none⟩) 1 1) [99]) := rd9one w6 99 99 rfl
  have HB8 : Hid (Below w.heap.size w (w6.alloc (.cells #[.int .u8 99] 5 (1, 2)))) := bsplit HB7.out g1
  have HS8 : Hid (SetO tb (w6.alloc (.cells #[.int .u8 99] 5 (1, 2))) tb exA) := HS7.out.below g1
  have hc3 := tcover_any (w6.alloc (.cells #[.int .u8 99] 5 (1, 2))) tb exA (.slice (some ⟨w6.heap.size, 0, none⟩) 1 1) [99] 6 HS8.out.at HR7.out
  rw [exA5] at hc3
  clear hc2 hb6 g1
  go_wp2_with fail
  refine hc3.mono ?_
  rintro e w7 ⟨rfl, hb7⟩
  have HB9 : Hid (Below w.heap.size w w7) := bsplit HB8.out hb7
  have HS9 : Hid (SetO tb w7 tb exA) := HS8.out.below hb7
  obtain ⟨v9, hv9, hr9⟩ := HS9.out.at
  have hfr := tfrag_any w7 tb v9 exA hv9 hr9 (by rw [← exA1]; exact right_up exA) (by decide) (by rw [← exA1]; exact right_lens exA)
  clear hc3 hb7 k1 hv9 hr9
  go_wp2_with fail
  refine hfr.mono ?_
  rintro e w8 ⟨fv, rfl, hrf, hb8⟩
  rw [exA2] at hrf
  have HB10 : Hid (Below w.heap.size w w8) := bsplit HB9.out hb8
  have HRF : Hid (RdS w8 fv _) := hrf
  obtain ⟨fa, fc, efv⟩ := hrf.shape
  subst efv
  clear hfr hb8 hrf
  go_wp2_with fail
  refine (span9_any w8 _ _ 5 [97] [98] rfl (by simp) rfl (by simp)).mono ?_
  rintro e wa ⟨x1, y1, rfl, rx1, ry1, hb1⟩
  go_wp2_with fail
  refine (span9_any wa _ _ 7 [98] [99] rfl (by simp) rfl (by simp)).mono ?_
  rintro e wb ⟨x2, y2, rfl, rx2, ry2, hb2⟩
  go_wp2_with fail
  refine (span9_any wb _ _ 5 [98] [99] rfl (by simp) rfl (by simp)).mono ?_
  rintro e wc ⟨x3, y3, rfl, rx3, ry3, hb3⟩
  go_wp2_with fail
  refine (span9_any wc _ _ 7 [99] [100] rfl (by simp) rfl (by simp)).mono ?_
  rintro e wd ⟨x4, y4, rfl, rx4, ry4, hb4⟩
  have HBD : Hid (Below w.heap.size w wd) := bsplit (bsplit (bsplit (bsplit HB10.out hb1) hb2) hb3) hb4
  have HRD : Hid (RdS wd (.slice fa _ fc) _) := rdS_below (rdS_below (rdS_below (rdS_below HRF.out hb1 (Nat.le_refl _)) hb2 (Nat.le_refl _)) hb3 (Nat.le_refl _)) hb4 (Nat.le_refl _)
  have hlit := rdS_lit wd [⟨x1, y1, ([97], [98], 5)⟩, ⟨x2, y2, ([98], [99], 7)⟩, ⟨x3, y3, ([98], [99], 5)⟩, ⟨x4, y4, ([99], [100], 7)⟩] (by
    intro t ht
    simp at ht
    rcases ht with rfl | rfl | rfl | rfl
    · exact ⟨((rx1.below hb2 (Nat.le_refl _)).below hb3 (Nat.le_refl _)).below hb4 (Nat.le_refl _), ((ry1.below hb2 (Nat.le_refl _)).below hb3 (Nat.le_refl _)).below hb4 (Nat.le_refl _)⟩
    · exact ⟨(rx2.below hb3 (Nat.le_refl _)).below hb4 (Nat.le_refl _), (ry2.below hb3 (Nat.le_refl _)).below hb4 (Nat.le_refl _)⟩
    · exact ⟨rx3.below hb4 (Nat.le_refl _), ry3.below hb4 (Nat.le_refl _)⟩
    · exact ⟨rx4, ry4⟩) (by simp)
  obtain ⟨xa1, xc1, rfl⟩ := rx1.len
  obtain ⟨ya1, yc1, rfl⟩ := ry1.len
  obtain ⟨xa2, xc2, rfl⟩ := rx2.len
  obtain ⟨ya2, yc2, rfl⟩ := ry2.len
  obtain ⟨xa3, xc3, rfl⟩ := rx3.len
  obtain ⟨ya3, yc3, rfl⟩ := ry3.len
  obtain ⟨xa4, xc4, rfl⟩ := rx4.len
  obtain ⟨ya4, yc4, rfl⟩ := ry4.len
  have hbl := below_box4 wd (.cells (flatS [⟨.slice xa1 [97].length xc1, .slice ya1 [98].length yc1, ([97], [98], 5)⟩, ⟨.slice xa2 [98].length xc2, .slice ya2 [99].length yc2, ([98], [99], 7)⟩, ⟨.slice xa3 [98].length xc3, .slice ya3 [99].length yc3, ([98], [99], 5)⟩, ⟨.slice xa4 [99].length xc4, .slice ya4 [100].length yc4, ([99], [100], 7)⟩]).toArray 32)
  have hsm := samesp_any _ _ _ _ _ true (rdS_below HRD.out hbl (Nat.le_refl _)) hlit (by simp)
  have HBL : Hid (Below w.heap.size w (wd.alloc (.cells (flatS [⟨.slice xa1 [97].length xc1, .slice ya1 [98].length yc1, ([97], [98], 5)⟩, ⟨.slice xa2 [98].length xc2, .slice ya2 [99].length yc2, ([98], [99], 7)⟩, ⟨.slice xa3 [98].length xc3, .slice ya3 [99].length yc3, ([98], [99], 5)⟩, ⟨.slice xa4 [99].length xc4, .slice ya4 [100].length yc4, ([99], [100], 7)⟩]).toArray 32))) := bsplit HBD.out hbl
  simp only [flatS, celS, List.flatMap_cons, List.flatMap_nil, List.append_nil, List.cons_append, List.nil_append, List.length_cons, List.length_nil, Nat.zero_add, List.map_cons, List.map_nil, Nat.reduceAdd, Int.cast_ofNat_Int] at hsm HBL
  clear hlit rx1 ry1 rx2 ry2 rx3 ry3 rx4 ry4 hb1 hb2 hb3 hb4 hbl
  go_wp2_with fail
  refine hsm.mono ?_
  rintro e we ⟨rfl, nn, rfl⟩
  clear hsm
  go_wp2
  go_ret
  exact ⟨rfl, below_drewN HBL.out _⟩

end Go.Proofs.Ytifdomhmmhepcaa

/- bartizanref09.Right. -/
namespace Go.Proofs.Ytifdomhmmhepcaa
set_option maxRecDepth 100000
open Go.RowKit
set_option linter.unusedVariables false
set_option linter.unusedSimpArgs false

def okC (t : SpC) : Bool := okS t.e

theorem filC_map (cs : List SpC) : (cs.filter okC).map (·.e) = rightS (cs.map (·.e)) := by
  unfold rightS okC
  rw [List.filter_map]
  rfl

theorem filC_next {cs : List SpC} {j : Nat} (h : j < cs.length) : (cs.take (j + 1)).filter okC = if chkSp cs[j].e.1 cs[j].e.2.1 (cs[j].e.2.2 : Int) = 0 then (cs.take j).filter okC ++ [cs[j]] else (cs.take j).filter okC := by
  rw [List.take_succ_eq_append_getElem h, List.filter_append]
  by_cases h0 : chkSp cs[j].e.1 cs[j].e.2.1 (cs[j].e.2.2 : Int) = 0
  · rw [if_pos h0]
    have : okC cs[j] = true := by unfold okC okS; exact decide_eq_true h0
    simp [this]
  · rw [if_neg h0]
    have : okC cs[j] = false := by unfold okC okS; exact decide_eq_false h0
    simp [this]

set_option maxHeartbeats 4000000 in
theorem rright_any (w : World) (v : Value) (es : List SpB) (hv : RdS w v es) (hn : es.length ≤ 2000) :
    Calls Try.prog 14 #[v] w fun e w' => ∃ x, e = .returned x ∧ RdS w' x (rightS es) ∧ Below w.heap.size w w' := by
  obtain ⟨i0, hi, hz0, hz1, hz2⟩ := info_parts infoSp
  obtain ⟨cs, hcs, hce⟩ := RdC.of hv
  have HCE : Hid (cs.map (·.e) = es) := hce
  have HV : Hid (RdC w v cs) := hcs
  obtain ⟨ao, cap, rfl, h1, h2, _⟩ := hcs
  unfold maxLen at h2
  obtain ⟨N, hN⟩ : ∃ N, cs.length = N := ⟨_, rfl⟩
  have hN2 : es.length = N := by rw [← hce, List.length_map, hN]
  rw [hN] at h1 HV ⊢
  rw [hN2] at hn
  have HN : Hid (cs.length = N) := hN
  clear hN hce hv hN2
  go_enter Try.func14, Try.ntmps14
  go_wp2_with fail
  go_loopg [3, 8] N (fun gk pv iv wr => ∃ j d f : Nat, ∃ aa : Option Addr, gk + j = N ∧ iv = .int .i64 (j : Int) ∧ pv = .slice aa d f ∧ Hid (((cs.take j).filter okC).length = d) ∧ Hid (RowT w w.heap.size wr pv ((cs.take j).filter okC)) ∧ Hid (Below w.heap.size w wr))
  case atStart => exact ⟨0, 0, 0, none, by omega, rfl, rfl, by show _ = _; simp, by show RowT _ _ _ _ _; rw [List.take_zero, List.filter_nil]; exact RowT.nil _ _ _, Below.refl _ _⟩
  case round =>
    obtain ⟨j, d, f, aa, hj, rfl, rfl, HD, HA, HB⟩ := hrel
    by_cases hlt : j < N
    · have hlt2 : j < cs.length := by rw [HN.out]; exact hlt
      obtain ⟨_, _, e, _, _, h3⟩ := HV.out.below HB.out (Nat.le_refl _)
      rw [HN.out] at e
      cases e
      obtain ⟨b, off, rfl, c0, c1, c2, rx, ry⟩ := h3 j hlt2
      obtain ⟨x1, x2, ex⟩ := rx.len
      obtain ⟨y1, y2, ey⟩ := ry.len
      obtain ⟨q1, q2⟩ := gk_nxt hj hlt
      have HNX := filC_next hlt2
      have HGD : Hid (GdS w cs[j]) := HV.out.gd _ (List.getElem_mem hlt2)
      obtain ⟨c, hc⟩ : ∃ c, chkSp cs[j].e.1 cs[j].e.2.1 (cs[j].e.2.2 : Int) = c := ⟨_, rfl⟩
      rw [hc] at HNX
      obtain ⟨nl, hnl⟩ : ∃ nl, cs[j].e.1.length = nl := ⟨_, rfl⟩
      obtain ⟨ml, hml⟩ : ∃ ml, cs[j].e.2.1.length = ml := ⟨_, rfl⟩
      obtain ⟨sq, hsq⟩ : ∃ z : Int, (cs[j].e.2.2 : Int) = z := ⟨_, rfl⟩
      have HEE : Hid (cs[j].x = .slice x1 nl x2 ∧ cs[j].y = .slice y1 ml y2 ∧ (cs[j].e.2.2 : Int) = sq) := ⟨by rw [ex, hnl], by rw [ey, hml], hsq⟩
      rw [HEE.out.1] at c0 rx
      rw [HEE.out.2.1] at c1 ry
      rw [hsq] at c2 hc
      have hb0 := below_box wr #[.slice x1 nl x2, .slice y1 ml y2, .int .u64 sq] 32
      have BX := box_new wr (.slice x1 nl x2) (.slice y1 ml y2) (.int .u64 sq) 32
      have hck := rtcheck_any (wr.alloc (.cells #[.slice x1 nl x2, .slice y1 ml y2, .int .u64 sq] 32)) _ _ _ _ sq c (rx.below hb0 (Nat.le_refl _)) (ry.below hb0 (Nat.le_refl _)) hc
      have HA1 : Hid (RowT w w.heap.size (wr.alloc (.cells #[.slice x1 nl x2, .slice y1 ml y2, .int .u64 sq] 32)) (.slice aa d f) ((cs.take j).filter okC)) := HA.out.below hb0
      have HB1 : Hid (Below w.heap.size w (wr.alloc (.cells #[.slice x1 nl x2, .slice y1 ml y2, .int .u64 sq] 32))) := bsplit HB.out hb0
      have HNX' : Hid ((cs.take (j + 1)).filter okC = if c = 0 then (cs.take j).filter okC ++ [cs[j]] else (cs.take j).filter okC) := HNX
      have hd9 : d ≤ 2000 := by have h9 := List.length_filter_le okC (cs.take j); rw [HD.out, List.length_take] at h9; omega
      have BX' := BX
      obtain ⟨z0, z1, z2, _, _, _⟩ := BX'
      clear ex ey hnl hml hsq hc rx ry h3 hb0 HNX
      go_wp2_with fail
      refine hck.mono ?_
      rintro e w2 ⟨rfl, hb2⟩
      clear z0 z1 z2
      obtain ⟨z0, z1, z2, _, _, _⟩ := BX.below hb2 (Nat.le_refl _)
      have HA2 : Hid (RowT w w.heap.size w2 (.slice aa d f) ((cs.take j).filter okC)) := HA1.out.below hb2
      have HB2 : Hid (Below w.heap.size w w2) := bsplit HB1.out hb2
      clear hck hb2 BX c0 c1 c2
      by_cases h0 : c = 0
      · subst h0
        have hbe := below_box4 w2 (.cells #[.slice x1 nl x2, .slice y1 ml y2, .int .u64 sq] 32)
        have hlit := laidT3 w2 (.slice x1 nl x2) (.slice y1 ml y2) (.int .u64 sq) 32
        have HBE : Hid (Below w.heap.size w (w2.alloc (.cells #[.slice x1 nl x2, .slice y1 ml y2, .int .u64 sq] 32))) := bsplit HB2.out hbe
        have hse := HBE.out.size
        have hA9 := HA2.out.below hbe
        have hrow := hA9.1
        rw [HD.out] at hrow
        have HPS : Hid (∀ g4 c4 w4, w4.ownsRow w.heap.size 32 3 (.slice (some ⟨g4, 0, none⟩) (d + 1) c4) (d + 1) (flatS ((cs.take j).filter okC) ++ [.slice x1 nl x2, .slice y1 ml y2, .int .u64 sq]) → (w2.alloc (.cells #[.slice x1 nl x2, .slice y1 ml y2, .int .u64 sq] 32)).grownBy w4 (Value.slice aa d f).ownBlock → ((cs.take (j + 1)).filter okC).length = d + 1 ∧ RowT w w.heap.size w4 (.slice (some ⟨g4, 0, none⟩) (d + 1) c4) ((cs.take (j + 1)).filter okC) ∧ Below w.heap.size w w4) := by
          intro g4 c4 w4 hown hgrow
          have hln : ((cs.take (j + 1)).filter okC).length = d + 1 := by rw [HNX'.out, if_pos rfl, List.length_append, HD.out]; rfl
          refine ⟨hln, ⟨?_, fun t ht => HV.out.gd t (List.mem_of_mem_take (List.mem_filter.1 ht).1)⟩, HBE.out.grown hgrow HBE.out.size (fun k' e => (hrow.lt k' e).1)⟩
          rw [hln, HNX'.out, if_pos rfl, flatS_push, HEE.out.1, HEE.out.2.1, HEE.out.2.2]
          exact hown
        clear hbe hA9
        go_wp2_with (first | (at_builtin; refine wpList_append_lies _ rfl (.tmp 15) (.tmp 17) 22 rfl w.heap.size 32 i0 (.agg #[.slice none 0 0, .slice none 0 0, .int .u64 0]) 3 56 Try.underlying22 hi hz0 hz1 hz2 rfl (by decide) (.slice aa d f) d (flatS ((cs.take j).filter okC)) rfl hrow ⟨w2.heap.size, 0, none⟩ 1 1 [.slice x1 nl x2, .slice y1 ml y2, .int .u64 sq] rfl rfl hlit (oneS _ _ _ _ _ _ _) (by decide) (by simp only [maxLen]; omega) (by omega) hse _ rfl ?_; intro g4 c4 w4 hown hgrow hat hlt4; have HP4 : Hid _ := HPS.out g4 c4 w4 hown hgrow; clear hown hgrow hat hlt4) | fail)
        clear hrow hlit hse z0 z1 z2
        go_roundg (gk - 1)
        case measure => exact q1
        case rel => exact ⟨j + 1, d + 1, c4, _, q2, by go_num, rfl, HP4.out.1, HP4.out.2.1, HP4.out.2.2⟩
      · have h0b : (c == 0) = false := by simpa using h0
        have HST : Hid ((cs.take (j + 1)).filter okC = (cs.take j).filter okC) := by show _ = _; rw [HNX'.out, if_neg h0]
        clear z0 z1 z2
        go_wp2_with fail
        go_roundg (gk - 1)
        case measure => exact q1
        case rel => exact ⟨j + 1, d, f, aa, q2, by go_num, rfl, by show _ = _; rw [HST.out]; exact HD.out, by show RowT _ _ _ _ _; rw [HST.out]; exact HA2.out, HB2⟩
    · have hjN : j = N := by omega
      subst hjN
      have HT : Hid (cs.take j = cs) := by show _ = _; rw [← HN.out, List.take_length]
      go_wp2_with fail
      go_wp2
      go_ret
      refine ⟨_, rfl, ?_, HB.out⟩
      have h9 := HA.out.rd HB.out
      rw [HT.out, filC_map, HCE.out] at h9
      exact h9

end Go.Proofs.Ytifdomhmmhepcaa

/- bartizanref09.Few: what it answers lies apart, span by span. -/
namespace Go.Proofs.Ytifdomhmmhepcaa
set_option maxRecDepth 20000
open Go.RowKit
set_option linter.unusedVariables false
set_option linter.unusedSimpArgs false

/-- the block of a From is no block of a later span -/
def ApC (cs : List Value) : Prop := ∀ i j x z q, i < j → cs[i * 3]? = some x → (cs[j * 3]? = some z ∨ cs[j * 3 + 1]? = some z) → x.ownBlock = some q → z.ownBlock ≠ some q

def LtC (C : Nat) (cs : List Value) : Prop := ∀ z ∈ cs, ∀ q, z.ownBlock = some q → q < C

/-- spans of one's own, their bytes too, apart from each other; all below C -/
def AllO (C B : Nat) (w : World) (v : Value) (es : List SpB) : Prop :=
  ∃ cs, w.ownsRow B 32 3 v es.length cs ∧ (ApC cs ∧ LtC C cs) ∧ ∀ j (h : j < es.length), ∃ x y, cs[j * 3]? = some x ∧ cs[j * 3 + 1]? = some y ∧ cs[j * 3 + 2]? = some (.int .u64 (es[j].2.2 : Int)) ∧ OwnN B w x es[j].1 ∧ OwnN B w y es[j].2.1

theorem AllO.all {C B : Nat} {w : World} {v : Value} {es : List SpB} (h : AllO C B w v es) : AllS B w v es := by
  obtain ⟨cs, h1, _, h2⟩ := h
  exact ⟨cs, h1, h2⟩

theorem AllO.nil (C B : Nat) (w : World) : AllO C B w (.slice none 0 0) [] := ⟨[], World.ownsRow_nil _ _ _ _, ⟨fun i j x z q _ h => by simp at h, fun z hz => by simp at hz⟩, fun _ h => absurd h (Nat.not_lt_zero _)⟩

theorem AllO.mono {C D B : Nat} {w : World} {v : Value} {es : List SpB} (h : AllO C B w v es) (hC : C ≤ D) : AllO D B w v es := by
  obtain ⟨cs, h1, ⟨h2, h3⟩, h4⟩ := h
  exact ⟨cs, h1, ⟨h2, fun z hz q hq => Nat.lt_of_lt_of_le (h3 z hz q hq) hC⟩, h4⟩

theorem AllO.below {C B : Nat} {w w' : World} {v : Value} {es : List SpB} (h : AllO C B w v es) (hb : Below w.heap.size w w') : AllO C B w' v es := by
  obtain ⟨ds, h1, h3, h2⟩ := h
  refine ⟨ds, row_below h1 hb, h3, fun j hj => ?_⟩
  obtain ⟨x, y, c0, c1, c2, ox, oy⟩ := h2 j hj
  exact ⟨x, y, c0, c1, c2, ox.below hb (Nat.le_refl _), oy.below hb (Nat.le_refl _)⟩

theorem ap_push {C D n : Nat} {cs : List Value} {x y : Value} {s : Int} (hl : cs.length = n * 3) (h : ApC cs ∧ LtC C cs) (hx : ∀ q, x.ownBlock = some q → C ≤ q ∧ q < D) (hy : ∀ q, y.ownBlock = some q → C ≤ q ∧ q < D) (hD : C ≤ D) : ApC (cs ++ [x, y, .int .u64 s]) ∧ LtC D (cs ++ [x, y, .int .u64 s]) := by
  constructor
  · intro i j a z q hij ha hz hq
    by_cases hj : j < n
    · rw [List.getElem?_append_left (by omega)] at ha
      rw [List.getElem?_append_left (by omega), List.getElem?_append_left (by omega)] at hz
      exact h.1 i j a z q hij ha hz hq
    · have hjn : j = n := by
        rcases hz with hz | hz
        · have := (List.getElem?_eq_some_iff.1 hz).1; simp at this; omega
        · have := (List.getElem?_eq_some_iff.1 hz).1; simp at this; omega
      subst hjn
      rw [List.getElem?_append_left (by omega)] at ha
      have hq9 := h.2 a (List.mem_of_getElem? ha) q hq
      rw [List.getElem?_append_right (by omega), List.getElem?_append_right (by omega), show j * 3 - cs.length = 0 by omega, show j * 3 + 1 - cs.length = 1 by omega] at hz
      simp only [List.getElem?_cons_zero, List.getElem?_cons_succ, Option.some.injEq] at hz
      intro he
      rcases hz with rfl | rfl
      · have := (hx q he).1; omega
      · have := (hy q he).1; omega
  · intro z hz q hq
    rcases List.mem_append.1 hz with hz | hz
    · exact Nat.lt_of_lt_of_le (h.2 z hz q hq) hD
    · simp only [List.mem_cons, List.not_mem_nil, or_false] at hz
      rcases hz with rfl | rfl | rfl
      · exact (hx q hq).2
      · exact (hy q hq).2
      · simp [Value.ownBlock] at hq

theorem AllO.of_push {C D B g c n : Nat} {w w' : World} {v x y : Value} {es : List SpB} {cs : List Value} (o : SpB) (hl : es.length = n) (hrow : w.ownsRow B 32 3 v n cs) (ha : ApC cs ∧ LtC C cs)
    (hel : ∀ j (h : j < es.length), ∃ x y, cs[j * 3]? = some x ∧ cs[j * 3 + 1]? = some y ∧ cs[j * 3 + 2]? = some (.int .u64 (es[j].2.2 : Int)) ∧ OwnN B w x es[j].1 ∧ OwnN B w y es[j].2.1)
    (hx : OwnN B w x o.1) (hy : OwnN B w y o.2.1) (hn : w'.ownsRow B 32 3 (.slice (some ⟨g, 0, none⟩) (n + 1) c) (n + 1) (cs ++ [x, y, .int .u64 (o.2.2 : Int)])) (hg : w.grownBy w' v.ownBlock)
    (qx : ∀ q, x.ownBlock = some q → C ≤ q ∧ q < D) (qy : ∀ q, y.ownBlock = some q → C ≤ q ∧ q < D) (hD : C ≤ D) : AllO D B w' (.slice (some ⟨g, 0, none⟩) (n + 1) c) (es ++ [o]) := by
  subst hl
  have hcl : cs.length = es.length * 3 := hrow.1
  refine ⟨_, by rw [List.length_append]; exact hn, ap_push hcl ha qx qy hD, fun j h => ?_⟩
  by_cases hj : j < es.length
  · obtain ⟨x', y', c0, c1, c2, ox, oy⟩ := hel j hj
    refine ⟨x', y', ?_, ?_, ?_, ?_, ?_⟩
    · rw [List.getElem?_append_left (by omega)]; exact c0
    · rw [List.getElem?_append_left (by omega)]; exact c1
    · rw [List.getElem?_append_left (by omega), List.getElem_append_left hj]; exact c2
    · rw [List.getElem_append_left hj]; exact ownN_kept ox (by decide) hrow hg
    · rw [List.getElem_append_left hj]; exact ownN_kept oy (by decide) hrow hg
  · have hje : j = es.length := by rw [List.length_append] at h; simp at h; omega
    subst hje
    have e : (es ++ [o])[es.length]'h = o := by simp
    rw [e]
    refine ⟨x, y, ?_, ?_, ?_, ownN_kept hx (by decide) hrow hg, ownN_kept hy (by decide) hrow hg⟩
    · rw [List.getElem?_append_right (by omega), show es.length * 3 - cs.length = 0 by omega]; rfl
    · rw [List.getElem?_append_right (by omega), show es.length * 3 + 1 - cs.length = 1 by omega]; rfl
    · rw [List.getElem?_append_right (by omega), show es.length * 3 + 2 - cs.length = 2 by omega]; rfl

theorem own_q {B C : Nat} {w W : World} {x : Value} {l : List UInt8} (h : Own B w x l) (hC : C ≤ B) (hD : w.heap.size ≤ W.heap.size) : ∀ q, x.ownBlock = some q → C ≤ q ∧ q < W.heap.size := fun q hq => by
  obtain ⟨g, c, rfl⟩ := h.shape
  have h9 := h.lt
  simp only [Value.ownBlock, Option.some.injEq] at hq
  subst hq
  exact ⟨Nat.le_trans hC h9.1, Nat.lt_of_lt_of_le h9.2 hD⟩

set_option maxHeartbeats 4000000 in
theorem fewsp_ap (w : World) (v : Value) (es : List SpB) (n : Nat) (hv : ArgS w v es) (hn : n ≤ 1000) :
    Calls Try.prog 9 #[v, .int .i64 (n : Int)] w fun e w' => ∃ x, e = .returned x ∧ AllO w'.heap.size w.heap.size w' x (fewS n es) ∧ Below w.heap.size w w' := by
  obtain ⟨i0, hi, hz0, hz1, hz2⟩ := info_parts infoSp
  have HV : Hid (ArgS w v es) := hv
  obtain ⟨ao, cap, rfl, h1, h2, _⟩ := hv
  unfold maxLen at h2
  obtain ⟨N, hN⟩ : ∃ N, es.length = N := ⟨_, rfl⟩
  rw [hN] at h1 HV ⊢
  have HN : Hid (es.length = N) := hN
  clear hN
  go_enter Try.func9, Try.ntmps9
  go_wp2_with fail
  go_loopg [5, 10] N (fun gk pv iv wr => ∃ j d f : Nat, ∃ aa : Option Addr, gk + j = N ∧ iv = .int .i64 (j : Int) ∧ pv = .slice aa d f ∧ Hid ((fewS n (es.take j)).length = d) ∧ Hid (AllO wr.heap.size w.heap.size wr pv (fewS n (es.take j))) ∧ Hid (Below w.heap.size w wr))
  case atStart => exact ⟨0, 0, 0, none, by omega, rfl, rfl, by show _ = _; unfold fewS; simp, by show AllO _ _ _ _ _; unfold fewS; simp only [List.take_zero, List.take_nil, List.map_nil]; exact AllO.nil _ _ _, Below.refl _ _⟩
  case round =>
    obtain ⟨j, d, f, aa, hj, rfl, rfl, HD, HA, HB⟩ := hrel
    by_cases hlt : j < N
    · have hlt2 : j < es.length := by rw [HN.out]; exact hlt
      obtain ⟨_, _, e, _, _, h3⟩ := argS_below HV.out HB.out (Nat.le_refl _)
      rw [HN.out] at e
      cases e
      obtain ⟨b, off, rfl, xv, yv, c0, c1, c2, rx, ry⟩ := h3 j hlt2
      obtain ⟨x1, x2, ex⟩ := Arg.shape rx
      obtain ⟨y1, y2, ey⟩ := Arg.shape ry
      subst ex ey
      obtain ⟨q1, q2⟩ := gk_nxt hj hlt
      obtain ⟨⟨sl, sm, sq⟩, ho⟩ : ∃ o, es[j] = o := ⟨_, rfl⟩
      rw [ho] at c0 c1 c2 rx ry
      simp only at c0 c1 c2 rx ry
      obtain ⟨nl, hnl⟩ : ∃ nl, sl.length = nl := ⟨_, rfl⟩
      obtain ⟨ml, hml⟩ : ∃ ml, sm.length = ml := ⟨_, rfl⟩
      rw [hnl] at c0 rx
      rw [hml] at c1 ry
      have hb0 := below_box4 wr (.cells #[.slice x1 nl x2, .slice y1 ml y2, .int .u64 (sq : Int)] 32)
      have bx := (box_new wr (.slice x1 nl x2) (.slice y1 ml y2) (.int .u64 (sq : Int)) 32).drew
      have HBx : Hid (Box (wr.alloc (.cells #[.slice x1 nl x2, .slice y1 ml y2, .int .u64 (sq : Int)] 32)) wr.heap.size (.slice x1 nl x2) (.slice y1 ml y2) (.int .u64 (sq : Int))) := box_new wr _ _ _ _
      by_cases hjn : j < n
      · have hjI : (j : Int) < (n : Int) := by omega
        obtain ⟨ck, HCK⟩ : ∃ ck, Hid (sl.take 80 = ck) := ⟨_, rfl⟩
        obtain ⟨co, HCO⟩ : ∃ co, Hid (sm.take 80 = co) := ⟨_, rfl⟩
        have HR : Hid (fewS n (es.take (j + 1)) = fewS n (es.take j) ++ [(ck, co, sq)]) := by show _ = _; rw [fewS_take hlt2 hjn, ho]; unfold cutS; rw [← HCK.out, ← HCO.out]
        have rx0 := arg_drew (rx.below hb0 (Nat.le_refl _))
        have ry0 := arg_drew (ry.below hb0 (Nat.le_refl _))
        have HA0 : Hid (AllO wr.heap.size w.heap.size (wr.alloc (.cells #[.slice x1 nl x2, .slice y1 ml y2, .int .u64 (sq : Int)] 32)).drew (.slice aa d f) (fewS n (es.take j))) := HA.out.below hb0.drew
        have HB0 : Hid (Below w.heap.size w (wr.alloc (.cells #[.slice x1 nl x2, .slice y1 ml y2, .int .u64 (sq : Int)] 32)).drew) := (bsplit HB.out hb0).drew
        have HSZ : Hid (wr.heap.size ≤ (wr.alloc (.cells #[.slice x1 nl x2, .slice y1 ml y2, .int .u64 (sq : Int)] 32)).drew.heap.size) := hb0.size
        have HNE : Hid (some wr.heap.size ≠ (Value.slice aa d f).ownBlock) := fun e => by have := (HA.out.all.lt _ e.symm).2; omega
        have HDB : Hid (d ≤ 1000) := by show d ≤ 1000; have h9 := fewS_len n (es.take j); rw [HD.out] at h9; omega
        clear ho hb0 h3 rx ry hnl hml
        go_wp2_with fail
        go_region_held3 (fun w' => w'.cell? ⟨wr.heap.size, 0, none⟩ = some (.slice x1 nl x2) ∧ w'.cell? ⟨wr.heap.size, 1, none⟩ = some (.slice y1 ml y2) ∧ w'.cell? ⟨wr.heap.size, 2, none⟩ = some (.int .u64 (sq : Int)))
          (first | with_reducible exact ⟨b4.c0, b4.c1, b4.c2⟩ | with_reducible exact ⟨be.c0, be.c1, be.c2⟩ | with_reducible exact ⟨by2.c0, by2.c1, by2.c2⟩ | with_reducible exact ⟨bx2.c0, bx2.c1, bx2.c2⟩ | with_reducible exact ⟨bx.c0, bx.c1, bx.c2⟩)
          (first
            | (go_at_call 20; refine (cut_any _ _ sl 80 rx0 (by omega)).mono ?_; rintro e wx ⟨x, rfl, ox, hbx⟩; rw [HCK.out] at ox; obtain ⟨gx, kx, hx⟩ := ox.shape; subst hx; have bx2 := bx.below hbx (Nat.le_refl _); clear rx0)
            | (go_at_call 20; refine (cut_any _ _ sm 80 (ry0.below hbx (Nat.le_refl _)) (by omega)).mono ?_; rintro e wy ⟨y, rfl, oy, hby⟩; rw [HCO.out] at oy; obtain ⟨gy, ky, hy⟩ := oy.shape; subst hy; have by2 := bx2.below hby (Nat.le_refl _); have be := by2.alloc (.cells #[.slice (some ⟨gx, 0, none⟩) ck.length kx, .slice (some ⟨gy, 0, none⟩) co.length ky, .int .u64 (sq : Int)] 32))
            | (have hbe := below_box4 wy (.cells #[.slice (some ⟨gx, 0, none⟩) ck.length kx, .slice (some ⟨gy, 0, none⟩) co.length ky, .int .u64 (sq : Int)] 32)
               have hA9 := ((HA0.out.below hbx).below hby).below hbe
               have hB9 := bsplit (bsplit (bsplit HB0.out hbx) hby) hbe
               have oxe := (OwnN.mono (.inr ((ox.below hby (Nat.le_refl _)).below hbe (Nat.le_refl _))) (by have := HB0.out.size; omega) : OwnN w.heap.size _ _ ck)
               have oye := (OwnN.mono (.inr (oy.below hbe (Nat.le_refl _))) (by have := HB0.out.size; have := hbx.size; omega) : OwnN w.heap.size _ _ co)
               obtain ⟨cs, hrow, hac, hel⟩ := hA9
               have hsz : wr.heap.size ≤ wx.heap.size := Nat.le_trans HSZ.out hbx.size
               have qx := own_q (C := wr.heap.size) (W := wy.alloc (.cells #[.slice (some ⟨gx, 0, none⟩) ck.length kx, .slice (some ⟨gy, 0, none⟩) co.length ky, .int .u64 (sq : Int)] 32)) ox HSZ.out (Nat.le_trans hby.size hbe.size)
               have qy := own_q (C := wr.heap.size) (W := wy.alloc (.cells #[.slice (some ⟨gx, 0, none⟩) ck.length kx, .slice (some ⟨gy, 0, none⟩) co.length ky, .int .u64 (sq : Int)] 32)) oy hsz hbe.size
               rw [HD.out] at hrow
               have hd9 := HDB.out
               refine step_append_lies _ rfl (.tmp 18) (.tmp 28) 22 rfl w.heap.size 32 i0 (.agg #[.slice none 0 0, .slice none 0 0, .int .u64 0]) 3 56 Try.underlying22 hi hz0 hz1 hz2 rfl (by decide) (.slice aa d f) d cs rfl hrow ⟨wy.heap.size, 0, none⟩ 1 1 [.slice (some ⟨gx, 0, none⟩) ck.length kx, .slice (some ⟨gy, 0, none⟩) co.length ky, .int .u64 (sq : Int)] rfl rfl (laidT3 _ _ _ _ _) (oneS _ _ _ _ _ _ _) (by decide) (by simp only [maxLen]; omega) (by omega) hB9.size _ rfl ?_
               intro g4 c4 w4 hown hgrow hat hlt4
               have b4 := be.grown hgrow HNE.out
               have HPU : Hid (AllO w4.heap.size w.heap.size w4 (.slice (some ⟨g4, 0, none⟩) (d + 1) c4) (fewS n (es.take j) ++ [(ck, co, sq)])) := AllO.mono (AllO.of_push (ck, co, sq) HD.out hrow hac hel oxe oye hown hgrow qx qy (Nat.le_trans hsz (Nat.le_trans hby.size hbe.size))) hgrow.size
               have HB4 : Hid (Below w.heap.size w w4) := hB9.grown hgrow hB9.size (fun k' e => (hrow.lt k' e).1)))
        go_wp2_with fail
        go_roundg (gk - 1)
        case measure => exact q1
        case rel => exact ⟨j + 1, d + 1, c4, _, q2, by go_num, rfl, by show _ = _; rw [HR.out, List.length_append, HD.out]; rfl, by show AllO _ _ _ _ _; rw [HR.out]; exact HPU.out, HB4⟩
      · have hjI : ¬ (j : Int) < (n : Int) := by omega
        have HST : Hid (fewS n (es.take (j + 1)) = fewS n (es.take j)) := fewS_stay hjn
        have HA0 : Hid (AllO wr.heap.size w.heap.size (wr.alloc (.cells #[.slice x1 nl x2, .slice y1 ml y2, .int .u64 (sq : Int)] 32)) (.slice aa d f) (fewS n (es.take j))) := HA.out.below hb0
        have HB0 : Hid (Below w.heap.size w (wr.alloc (.cells #[.slice x1 nl x2, .slice y1 ml y2, .int .u64 (sq : Int)] 32))) := bsplit HB.out hb0
        have HSZ : Hid (wr.heap.size ≤ (wr.alloc (.cells #[.slice x1 nl x2, .slice y1 ml y2, .int .u64 (sq : Int)] 32)).heap.size) := hb0.size
        clear ho hb0 h3 rx ry hnl hml bx
        go_wp2_with fail
        go_roundg (gk - 1)
        case measure => exact q1
        case rel => exact ⟨j + 1, d, f, aa, q2, by go_num, rfl, by show _ = _; rw [HST.out]; exact HD.out, by show AllO _ _ _ _ _; rw [HST.out]; exact HA0.out.mono HSZ.out, HB0⟩
    · have hjN : j = N := by omega
      subst hjN
      have HT : Hid (es.take j = es) := by show _ = _; rw [← HN.out, List.take_length]
      go_wp2_with fail
      go_wp2
      go_ret
      refine ⟨_, rfl, ?_, HB.out⟩
      have h9 := HA.out
      rw [HT.out] at h9
      exact h9

end Go.Proofs.Ytifdomhmmhepcaa

/- (*tomb.Set).Add: what it leaves as it was. -/
namespace Go.Proofs.Ytifdomhmmhepcaa
set_option maxRecDepth 100000
open Go.RowKit
set_option linter.unusedVariables false
set_option linter.unusedSimpArgs false

/-- no block of the set's, nor of its row -/
def OffS (w : World) (t q : Nat) : Prop := q ≠ t ∧ ∀ v, w.cell? ⟨t, 0, none⟩ = some v → v.ownBlock ≠ some q

/-- what Add answers, and what it leaves -/
def AddPost2 (B : Nat) (w : World) (t : Nat) (ss : List SpB) (o : SpB) (c : Int) (e : Ending) (w' : World) : Prop :=
  e = .returned (.int .i64 c) ∧ SetO B w' t (if c = 0 then ss ++ [o] else ss) ∧ Below B w w' ∧ ∀ q, q < w.heap.size → OffS w t q → w'.heap[q]? = w.heap[q]?

set_option maxHeartbeats 4000000 in
theorem tadd_off (w : World) (B t : Nat) (ss : List SpB) (x y : Value) (l m : List UInt8) (s : Nat) (c : Int) (hS : SetO B w t ss) (hB : B ≤ w.heap.size) (hx : Rd w x l) (hy : Rd w y m) (hn : ss.length ≤ 100000) (hc : chkSp l m (s : Int) = c) :
    Calls Try.prog 13 #[.pointer (some ⟨t, 0, none⟩), spV x y (s : Int)] w (AddPost2 B w t ss (l, m, s) c) := by
  obtain ⟨i0, hi, hz0, hz1, hz2⟩ := info_parts infoSp
  obtain ⟨hBt, v, hv, ha⟩ := hS
  obtain ⟨xa, xc, rfl⟩ := hx.len
  obtain ⟨ya, yc, rfl⟩ := hy.len
  obtain ⟨nl, hnl⟩ : ∃ nl, l.length = nl := ⟨_, rfl⟩
  obtain ⟨ml, hml⟩ : ∃ ml, m.length = ml := ⟨_, rfl⟩
  rw [hnl] at hx ⊢
  rw [hml] at hy ⊢
  obtain ⟨va, vc, ev⟩ := ha.rd.shape
  subst ev
  obtain ⟨N, hN⟩ : ∃ N, ss.length = N := ⟨_, rfl⟩
  rw [hN] at hv ha hn
  have HN : Hid (ss.length = N) := hN
  have hb0 := below_box w #[.slice xa nl xc, .slice ya ml yc, .int .u64 (s : Int)] 32
  have HB0 : Hid (Below w.heap.size w (w.alloc (.cells #[.slice xa nl xc, .slice ya ml yc, .int .u64 (s : Int)] 32))) := hb0
  have BX := box_new w (.slice xa nl xc) (.slice ya ml yc) (.int .u64 (s : Int)) 32
  have hck := tcheck_any (w.alloc (.cells #[.slice xa nl xc, .slice ya ml yc, .int .u64 (s : Int)] 32)) (.slice xa nl xc) (.slice ya ml yc) l m (s : Int) c (hx.below hb0 (Nat.le_refl _)) (hy.below hb0 (Nat.le_refl _)) hc
  have he : ∀ w : World, (binOp .eql 27 (.pointer (some ⟨t, 0, none⟩)) (.pointer none)).run Try.prog w = .ok (.bool false) w := fun _ => rfl
  have HS : Hid (B ≤ t ∧ Boxed w t 52 (.slice va N vc) ∧ AllS B w (.slice va N vc) ss) := ⟨hBt, hv, ha⟩
  have HX : Hid (Rd w (.slice xa nl xc) l ∧ Rd w (.slice ya ml yc) m) := ⟨hx, hy⟩
  have HLM : Hid (l.length = nl ∧ m.length = ml) := ⟨hnl, hml⟩
  have HC : Hid (chkSp l m (s : Int) = c) := hc
  have BX' := BX
  obtain ⟨z0, z1, z2, _, _, _⟩ := BX'
  clear hN hb0 hx hy hnl hml hc ha
  go_enter Try.func13, Try.ntmps13
  go_wp2_with fail
  refine hck.mono ?_
  rintro e w1 ⟨rfl, hb1⟩
  have hbw : Below w.heap.size w w1 := bsplit HB0.out hb1
  have HBW : Hid (Below w.heap.size w w1) := hbw
  have HB1 : Hid (Below B w w1) := hbw.mono hB
  have HS1 : Hid (Boxed w1 t 52 (.slice va N vc) ∧ AllS B w1 (.slice va N vc) ss) := ⟨(hbw.block t HS.out.2.1.lt).trans HS.out.2.1, HS.out.2.2.below hbw⟩
  clear z0 z1 z2
  have B1 := BX.below hb1 (Nat.le_refl _)
  clear hck hb1 hbw BX
  by_cases h0 : c = 0
  · subst h0
    have hlen : l.length ≤ 64 ∧ m.length ≤ 64 := by
      have h9 := HC.out
      unfold chkSp at h9
      split at h9
      · rename_i hh; exact ⟨hh.1.2, hh.2.1.2⟩
      · omega
    have ra := (HX.out.1.below HBW.out (Nat.le_refl _)).arg
    have rb := (HX.out.2.below HBW.out (Nat.le_refl _)).arg
    have hap := tapart_any w1.drew (.slice xa nl xc) (.slice ya ml yc) l m (s : Int) (arg_drew ra) (arg_drew rb) (by omega) (by omega)
    have tb : w1.drew.cell? ⟨t, 0, none⟩ = some (.slice va N vc) := HS1.out.1.cell
    have bs := B1.drew
    have HNE : Hid (t ≠ w.heap.size ∧ ∀ q, (Value.slice va N vc).ownBlock = some q → q < w.heap.size) := ⟨by have := HS.out.2.1.lt; omega, fun q hq => (HS.out.2.2.lt q hq).2⟩
    have HSD : Hid (Boxed w1.drew t 52 (.slice va N vc) ∧ AllS B w1.drew (.slice va N vc) ss) := HS1.out
    have HBD : Hid (Below w.heap.size w w1.drew) := HBW.out.drew
    clear hlen ra rb B1
    go_wp2_with fail
    obtain ⟨z0, z1, z2, _, _, _⟩ := bs
    go_region_law
      (first
        | (go_simp
           go_at_call 30
           refine Calls.mono hap ?_
           rintro e w2 ⟨ux, uy, rfl, ox, oy, hb2⟩
           obtain ⟨u1, u2, hu⟩ := ox.rd.len
           subst hu
           obtain ⟨u3, u4, hu⟩ := oy.rd.len
           subst hu
           rw [HLM.out.1] at ox ⊢
           rw [HLM.out.2] at oy ⊢
           have t2 := (hb2.cell (p := ⟨t, 0, none⟩) (World.block_lt_of_cell? _ _ tb)).trans tb
           have hbe := below_box4 w2 (.cells #[.slice u1 nl u2, .slice u3 ml u4, .int .u64 (s : Int)] 32)
           have t3 := (hbe.cell (p := ⟨t, 0, none⟩) (World.block_lt_of_cell? _ _ t2)).trans t2)
        | (have hA2 := (HSD.out.2.below hb2).below hbe
           have hT2 : Boxed (w2.alloc (.cells #[.slice u1 nl u2, .slice u3 ml u4, .int .u64 (s : Int)] 32)) t 52 (.slice va N vc) := (hbe.block t (Nat.lt_of_lt_of_le HSD.out.1.lt hb2.size)).trans ((hb2.block t HSD.out.1.lt).trans HSD.out.1)
           have hB2 : Below B w (w2.alloc (.cells #[.slice u1 nl u2, .slice u3 ml u4, .int .u64 (s : Int)] 32)) := (bsplit (bsplit HBD.out hb2) hbe).mono hB
           have oxe := (ox.below hbe (Nat.le_refl _)).mono (C := B) (by have := HBD.out.size; omega)
           have oye := (oy.below hbe (Nat.le_refl _)).mono (C := B) (by have := HBD.out.size; omega)
           obtain ⟨cs, hrow, hel⟩ := hA2
           rw [HN.out] at hrow
           refine step_append_lies _ rfl (.tmp 17) (.tmp 20) 22 rfl B 32 i0 (.agg #[.slice none 0 0, .slice none 0 0, .int .u64 0]) 3 56 Try.underlying22 hi hz0 hz1 hz2 rfl (by decide) (.slice va N vc) N cs rfl hrow ⟨w2.heap.size, 0, none⟩ 1 1 [.slice u1 nl u2, .slice u3 ml u4, .int .u64 (s : Int)] rfl rfl (laidT3 _ _ _ _ _) (oneS _ _ _ _ _ _ _) (by decide) (by simp only [maxLen]; omega) (by omega) (Nat.le_trans hB (bsplit (bsplit HBD.out hb2) hbe).size) _ rfl ?_
           intro g4 c4 w4 hown hgrow hat hlt4
           have hT4 := hT2.kept hgrow (hT2.not_row (by decide) hrow)
           have t4 := hT4.cell
           have f4 := hT4.frozen
           have HPU : Hid (AllS B w4 (.slice (some ⟨g4, 0, none⟩) (N + 1) c4) (ss ++ [(l, m, s)])) := AllS.push (l, m, s) HN.out hrow hel oxe oye hown hgrow
           have HB4 : Hid (Below B w w4) := hB2.grown hgrow (Nat.le_trans hB hB2.size) (fun k' e => (hrow.lt k' e).1)
           have HK4 : Hid (∀ q, q < w.heap.size → (Value.slice va N vc).ownBlock ≠ some q → w4.heap[q]? = w.heap[q]?) := fun q hq hv9 => (hgrow.block q (Nat.lt_of_lt_of_le hq (bsplit (bsplit HBD.out hb2) hbe).size) (fun e9 => hv9 e9.symm)).trans ((bsplit (bsplit HBD.out hb2) hbe).block q hq)
           have HT4 : Hid (Boxed w4 t 52 (.slice va N vc)) := hT4)
        | fail)
    all_goals
      go_wp2
      go_ret
      refine ⟨rfl, ?_, HB4.out.setCell (p := ⟨t, 0, none⟩) HS.out.1 _, fun q hq ho => (Below.heap_setCell _ _ _ q (fun e9 => ho.1 e9)).trans (HK4.out q hq (ho.2 _ HS.out.2.1.cell))⟩
      rw [if_pos rfl]
      obtain ⟨cs4, hr4, he4⟩ := HPU.out
      exact ⟨HS.out.1, _, HT4.out.set _, AllS.kept9 HPU.out HT4.out⟩
  · go_wp2
    go_ret
    refine ⟨rfl, ?_, HB1.out, fun q hq _ => HBW.out.block q hq⟩
    rw [if_neg h0]
    exact ⟨HS.out.1, _, HS1.out.1, HS1.out.2⟩

end Go.Proofs.Ytifdomhmmhepcaa

/- append to a row of the call's own: the row stays where it is, or lies in a block that wasn't there. -/
namespace Go.Proofs.Ytifdomhmmhepcaa
open Go.RowKit

/-- v' lies where v lay, or in a block from n on -/
def Stays (n : Nat) (v v' : Value) : Prop := v'.ownBlock = v.ownBlock ∨ ∃ g, v'.ownBlock = some g ∧ n ≤ g

theorem run_append_new {P : Program} (w : World) (base : Nat) (t ty e : TypeId) (i : TypeInfo) (z : Value) (size bytes : Nat) (ht : P.underlying t = some (.slice e)) (hi : P.info? e = some i) (hz : i.zero = some z)
    (hsize : i.size = size) (hby : i.bytes = bytes) (hzs : z.cells.size = size) (hsz : 0 < size)
    (v : Value) (n : Nat) (xs : List Value) (hown : w.ownsRow base e size v n xs)
    (a : Addr) (m c : Nat) (news : List Value) (hl : news.length = m * size) (hnews : ∀ j u, news[j]? = some u → w.cell? (a.add j) = some u) (h1 : ∀ u ∈ news, u.oneCell' = true)
    (h63 : n + m ≤ maxLen) (hbytes : (n + m) * bytes ≤ 140737488355328) (hbase : base ≤ w.heap.size) :
    ∃ v' w', (Builtin.append_ #[t, t] ty #[v, .slice (some a) m c]).run P w = .ok v' w' ∧ w'.ownsRow base e size v' (n + m) (xs ++ news) ∧ w.grownBy w' v.ownBlock ∧
      (v' = .slice none 0 0 ↔ v = .slice none 0 0 ∧ m = 0) ∧ Stays w.heap.size v v' := by
  obtain ⟨v', w', hr, ho, hg, hn⟩ := run_append_own (P := P) w base t ty e i z size bytes ht hi hz hsize hby hzs hsz v n xs hown a m c news hl hnews h1 h63 hbytes hbase
  refine ⟨v', w', hr, ho, hg, hn, ?_⟩
  subst hsize
  subst hby
  have hsmall : n + m ≤ 9223372036854775807 := by simp only [maxLen] at h63; omega
  rcases hown.2 with ⟨rfl, rfl⟩ | ⟨g, cap, cur, rfl, hbg, hgg, hnc, hcm, hcs, htake⟩
  · by_cases hm : m = 0
    · exact .inl (by rw [hn.2 ⟨rfl, hm⟩])
    · have hr2 := run_append_nil (P := P) w t ty e i z ht hi hz a m c news hl hnews (by omega) (by omega) (by have hb := hbytes; simp only [Nat.zero_add] at hb; omega)
      rw [hr2] at hr
      simp only [Result.ok.injEq] at hr
      exact .inr ⟨w.heap.size, by rw [← hr.1]; rfl, Nat.le_refl _⟩
  · by_cases hroom : n + m ≤ cap
    · have hfit : n * i.size + news.length ≤ cur.size := by rw [hl, hcs, ← Nat.add_mul]; exact Nat.mul_le_mul_right _ hroom
      have hr2 := run_append_room (P := P) w t ty e i ht hi g n cap cur hgg a m c news hl hnews h1 hroom hfit
      rw [hr2] at hr
      simp only [Result.ok.injEq] at hr
      exact .inl (by rw [← hr.1]; rfl)
    · have holds : ∀ j u, xs[j]? = some u → w.cell? ((⟨g, 0, none⟩ : Addr).add j) = some u := hown.cells (g := g) rfl
      have hr2 := run_append_grow (P := P) w t ty e i z ht hi hz ⟨g, 0, none⟩ n cap xs hown.1 holds a m c news hl hnews (by omega) (by omega) (growslice_fits (by omega) hbytes)
      rw [hr2] at hr
      simp only [Result.ok.injEq] at hr
      exact .inr ⟨w.heap.size, by rw [← hr.1]; rfl, Nat.le_refl _⟩

theorem wpList_append_new {P : Program} (w : World) {ops : Array Oper} {rest : List Oper} {o : Oper} {a : Act} {Q : Exit → Act → World → Prop} (hgd : o.guard = none) (s x : Operand) (t : TypeId)
    (ho : o.op = .call { callee := .builtin .append, args := #[s, x], argTypes := #[t, t] })
    (base : Nat) (e : TypeId) (i : TypeInfo) (z : Value) (size bytes : Nat) (ht : P.underlying t = some (.slice e)) (hi : P.info? e = some i) (hz : i.zero = some z)
    (hsize : i.size = size) (hby : i.bytes = bytes) (hzs : z.cells.size = size) (hsz : 0 < size)
    (v : Value) (n : Nat) (xs : List Value) (hs : a.eval s = v) (hown : w.ownsRow base e size v n xs)
    (ad : Addr) (m c : Nat) (news : List Value) (hx : a.eval x = .slice (some ad) m c) (hl : news.length = m * size) (hnews : ∀ j u, news[j]? = some u → w.cell? (ad.add j) = some u) (h1 : ∀ u ∈ news, u.oneCell' = true)
    (h63 : n + m ≤ maxLen) (hbytes : (n + m) * bytes ≤ 140737488355328) (hbase : base ≤ w.heap.size)
    (h : ∀ v' w', w'.ownsRow base e size v' (n + m) (xs ++ news) → w.grownBy w' v.ownBlock → (v' = .slice none 0 0 ↔ v = .slice none 0 0 ∧ m = 0) → Stays w.heap.size v v' → wpList P ops Q rest (a.put o.dst v') w') : wpList P ops Q (o :: rest) a w := by
  refine wpList_plain hgd fun K hK => ?_
  obtain ⟨v', w', hr, h2, h3, h4, h5⟩ := run_append_new (P := P) w base t o.type e i z size bytes ht hi hz hsize hby hzs hsz v n xs hown ad m c news hl hnews h1 h63 hbytes hbase
  unfold Oper.wp execOp
  simp only [ho, resolve, invoke, builtin, Sem.run_bind, Sem.run_pure, Result.andThen_ok, List.map_toArray, List.map_cons, List.map_nil, hs, hx, hr]
  exact hK _ _ (h v' w' h2 h3 h4 h5)

end Go.Proofs.Ytifdomhmmhepcaa

/- Parts that are gathered: each in a row of its own, apart from what is wanted. -/
namespace Go.Proofs.Ytifdomhmmhepcaa
open Go.RowKit

theorem info24 : (Try.prog.info? 29).map (fun i => (i.zero, i.size, i.bytes)) = some (some (.slice none 0 0), 1, 24) := by kernel_rfl

/-- a row of slices and a row of bytes lie in two blocks -/
theorem rows_apart {w : World} {B B' n n' : Nat} {v v' : Value} {xs ys : List Value} (h : w.ownsRow B 29 1 v n xs) (h' : w.ownsRow B' 5 1 v' n' ys) : v.ownBlock = none ∨ v.ownBlock ≠ v'.ownBlock := by
  rcases h.2 with ⟨rfl, _⟩ | ⟨g, cap, cur, rfl, _, hg, _⟩
  · exact .inl rfl
  · right
    intro e
    rcases h'.2 with ⟨rfl, _⟩ | ⟨g', cap', cur', rfl, _, hg', _⟩
    · cases e
    · simp only [Value.ownBlock, Option.some.injEq] at e
      subst e
      rw [hg] at hg'
      simp at hg'

theorem rows_apart' {w : World} {B B' n n' : Nat} {v v' : Value} {xs ys : List Value} (h : w.ownsRow B 29 1 v n xs) (h' : w.ownsRow B' 5 1 v' n' ys) : v'.ownBlock = none ∨ v'.ownBlock ≠ v.ownBlock := by
  rcases rows_apart h h' with e | e
  · cases hb : v'.ownBlock with
    | none => exact .inl rfl
    | some k => right; rw [e]; intro h; cases h
  · exact .inr (fun h => e h.symm)

/-- each of the first k parts has a row of its own, apart from wv -/
def PartsOK (B : Nat) (w : World) (vs : List Value) (C : List (List UInt8)) (k : Nat) (wv : Value) : Prop :=
  ∀ j, j < k → ∃ g c l, C[j]? = some l ∧ vs[j]? = some (.slice (some ⟨g, 0, none⟩) l.length c) ∧ Own B w (.slice (some ⟨g, 0, none⟩) l.length c) l ∧ some g ≠ wv.ownBlock

theorem parts_zero (B : Nat) (w : World) (vs : List Value) (C : List (List UInt8)) (wv : Value) : PartsOK B w vs C 0 wv := fun _ h => absurd h (Nat.not_lt_zero _)

/-- behind a round: w0 the round's world, w2 behind the cut, w3 behind the parts' append, w4 behind the second cut, w5 behind the append to what is wanted -/
theorem parts_step {B k : Nat} {w0 w2 w3 w4 w5 : World} {vs : List Value} {C : List (List UInt8)} {pv wv wv' : Value} {c : List UInt8} {gc kc : Nat} {ps : List Value} {W : List UInt8} {n0 : Nat}
    (hp : PartsOK B w0 vs C k wv) (hvs : vs.length = k) (hC : C[k]? = some c) (hpv : w0.ownsRow B 29 1 pv n0 ps) (hwv : w0.ownsRow B 5 1 wv W.length (bv W))
    (oc : Own w0.heap.size w2 (.slice (some ⟨gc, 0, none⟩) c.length kc) c) (hb2 : Below w0.heap.size w0 w2) (hBs : B ≤ w0.heap.size)
    (hgr3 : (w2.alloc (.cells #[.slice (some ⟨gc, 0, none⟩) c.length kc] 29)).grownBy w3 pv.ownBlock)
    (hb4 : Below w3.heap.size w3 w4) (hgr5 : w4.grownBy w5 wv.ownBlock) (hst : Stays w4.heap.size wv wv') :
    PartsOK B w5 (vs ++ [.slice (some ⟨gc, 0, none⟩) c.length kc]) C (k + 1) wv' := by
  have hs2 := hb2.size
  have hs3 : w2.heap.size + 1 ≤ w3.heap.size := by have := hgr3.size; simpa using this
  have hs4 := hb4.size
  have hwlt : ∀ q, wv.ownBlock = some q → q < w0.heap.size := fun q hq => (hwv.lt q hq).2
  have hnew : ∀ g, g < w4.heap.size → some g ≠ wv.ownBlock → some g ≠ wv'.ownBlock := by
    intro g hg hne
    rcases hst with e | ⟨q, e, hq⟩
    · rw [e]; exact hne
    · rw [e]; intro h; simp only [Option.some.injEq] at h; omega
  -- a row of bytes of world w2 lives on
  have live : ∀ (g n q : Nat) (l : List UInt8), Own B w2 (.slice (some ⟨g, 0, none⟩) n q) l → some g ≠ wv.ownBlock → Own B w5 (.slice (some ⟨g, 0, none⟩) n q) l ∧ g < w4.heap.size := by
    intro g n q l ho hne
    have ha : Own B (w2.alloc (.cells #[.slice (some ⟨gc, 0, none⟩) c.length kc] 29)) (.slice (some ⟨g, 0, none⟩) n q) l := ho.below ((Below.refl _ _).alloc (Nat.le_refl _) _) (Nat.le_refl _)
    have hpv2 : (w2.alloc (.cells #[.slice (some ⟨gc, 0, none⟩) c.length kc] 29)).ownsRow B 29 1 pv n0 ps := by
      have hgg : w0.grownBy w2 none := ⟨hb2.os, hb2.tape, hb2.output, hb2.size, fun i hi _ => hb2.block i hi⟩
      exact (hpv.kept hgg (by cases pv.ownBlock <;> simp)).alloc _
    have hne3 : some g ≠ pv.ownBlock := by
      rcases rows_apart hpv2 ha.row with e | e
      · rw [e]; simp
      · exact fun h => e h.symm
    have h3 := own_kept ha hgr3 hne3
    have h4 := h3.below hb4 (Nat.le_refl _)
    exact ⟨own_kept h4 hgr5 hne, h4.row.lt g rfl |>.2⟩
  intro j hj
  by_cases hjk : j < k
  · obtain ⟨g, q, l, e1, e2, ho, hne⟩ := hp j hjk
    have hl := live g _ q l (ho.below hb2 (Nat.le_refl _)) hne
    refine ⟨g, q, l, e1, ?_, hl.1, hnew g hl.2 hne⟩
    rw [List.getElem?_append_left (by omega)]; exact e2
  · have hje : j = k := by omega
    subst hje
    have hgc := oc.row.lt gc rfl
    have hne : some gc ≠ wv.ownBlock := by
      intro h
      have := hwlt gc h.symm
      omega
    have hl := live gc _ kc c (oc.mono hBs) hne
    refine ⟨gc, kc, c, hC, ?_, hl.1, hnew gc hl.2 hne⟩
    rw [List.getElem?_append_right (by omega), hvs]; simp

/-- the parts' own row, and what is wanted, behind a round -/
theorem parts_rows {B n0 m0 : Nat} {w3 w4 w5 : World} {pv' wv : Value} {ps : List Value} {W : List UInt8} (hp : w3.ownsRow B 29 1 pv' n0 ps) (hw : w3.ownsRow B 5 1 wv m0 (bv W))
    (hb4 : Below w3.heap.size w3 w4) (hgr5 : w4.grownBy w5 wv.ownBlock) : w5.ownsRow B 29 1 pv' n0 ps := by
  have hgg : w3.grownBy w4 none := ⟨hb4.os, hb4.tape, hb4.output, hb4.size, fun i hi _ => hb4.block i hi⟩
  have h4 := hp.kept hgg (by cases pv'.ownBlock <;> simp)
  have hw4 := hw.kept hgg (by cases wv.ownBlock <;> simp)
  exact h4.kept hgr5 (rows_apart h4 hw4)

end Go.Proofs.Ytifdomhmmhepcaa

/- Bytes of one's own are turned. -/
namespace Go.Proofs.Ytifdomhmmhepcaa
open Go.RowKit

/-- block g begins with n bytes, whichever -/
def U8 (w : World) (g n : Nat) : Prop := ∃ (cur : Array Value) (l : List UInt8), w.heap[g]? = some (.cells cur 5 (0, 0)) ∧ l.length = n ∧ cur.toList.take n = bv l ∧ n ≤ cur.size

theorem bv_set (l : List UInt8) (i : Nat) (b : UInt8) : (bv l).set i (.int .u8 (b.toNat : Int)) = bv (l.set i b) := by simp [bv, List.map_set]

theorem u8_set {w : World} {g n : Nat} (h : U8 w g n) (g' i : Nat) (b : UInt8) : U8 (w.setCell ⟨g', i, none⟩ (.int .u8 (b.toNat : Int))) g n := by
  obtain ⟨cur, l, hg, hl, ht, hn⟩ := h
  by_cases e : g = g'
  · subst e
    refine ⟨_, l.set i b, heap_setCell_same w g i cur 5 _ hg, by simpa using hl, ?_, by simpa using hn⟩
    rw [Array.toList_setIfInBounds, List.take_set, ht, bv_set]
  · exact ⟨cur, l, by rw [Below.heap_setCell _ _ _ _ (by simpa using e)]; exact hg, hl, ht, hn⟩

theorem u8_cell {w : World} {g n : Nat} (h : U8 w g n) (i : Nat) (hi : i < n) : ∃ b : UInt8, w.cell? ⟨g, i, none⟩ = some (.int .u8 (b.toNat : Int)) ∧ w.frozen? ⟨g, i, none⟩ = false := by
  obtain ⟨cur, l, hg, hl, ht, hn⟩ := h
  refine ⟨l[i]'(by omega), ?_, frozen_of_row w g i cur 5 hg⟩
  rw [cell_of_row w g i cur 5 (0, 0) hg]
  have h1 : (cur.toList.take n)[i]? = some (.int .u8 ((l[i]'(by omega)).toNat : Int)) := by rw [ht]; exact bv_get l i (by omega)
  rw [List.getElem?_take, if_pos hi] at h1
  simpa using h1

theorem u8_of_own {B : Nat} {w : World} {g n c : Nat} {l : List UInt8} (h : Own B w (.slice (some ⟨g, 0, none⟩) n c) l) : U8 w g n ∧ n ≤ c ∧ c ≤ maxLen ∧ B ≤ g := by
  obtain ⟨g', cap, cur, e, hB, hh, h1, h2, h3, h4⟩ := h
  simp only [Value.slice.injEq, Option.some.injEq, Addr.mk.injEq, and_true] at e
  obtain ⟨rfl, rfl, rfl⟩ := e
  exact ⟨⟨cur, l, hh, rfl, h4, by omega⟩, h1, h2, hB⟩

theorem u8_below {w w' : World} {g n : Nat} (h : U8 w g n) (hb : Below w.heap.size w w') : U8 w' g n := by
  obtain ⟨cur, l, hg, r⟩ := h
  exact ⟨cur, l, by rw [hb.block g (Array.getElem?_eq_some_iff.1 hg).1]; exact hg, r⟩

theorem rd_set {w : World} {v : Value} {l : List UInt8} {g i : Nat} {u : Value} (h : Rd w v l) (hne : some g ≠ v.ownBlock) : Rd (w.setCell ⟨g, i, none⟩ u) v l := by
  rcases h with h | ⟨b, off, cap, rfl, h1, h2, h3⟩
  · exact .inl h
  · refine .inr ⟨b, off, cap, rfl, h1, h2, fun j x hx => ?_⟩
    have hb : b ≠ g := fun e => hne (by rw [e]; rfl)
    rw [World.cell?_of_block (w := w) (a := ⟨b, off + j, none⟩) (Below.heap_setCell _ _ _ _ (by simpa using hb))]
    exact h3 j x hx

theorem row_set {w : World} {B n g i m : Nat} {v u : Value} {xs : List Value} (h : w.ownsRow B 29 1 v n xs) (hu : U8 w g m) : (w.setCell ⟨g, i, none⟩ u).ownsRow B 29 1 v n xs := by
  rcases h with ⟨h1, h2⟩
  refine ⟨h1, ?_⟩
  rcases h2 with h2 | ⟨q, cap, cur, rfl, hB, hq, r⟩
  · exact .inl h2
  · refine .inr ⟨q, cap, cur, rfl, hB, ?_, r⟩
    have hne : q ≠ g := by
      rintro rfl
      obtain ⟨cur', l, hg, _⟩ := hu
      rw [hq] at hg
      simp at hg
    rw [Below.heap_setCell _ _ _ _ (by simpa using hne)]
    exact hq

/-- what holds while the parts are turned -/
def Inv (B m : Nat) (w : World) (vs : List Value) (pv wv : Value) : Prop :=
  ∀ j, j < m → ∃ g c n, vs[j]? = some (.slice (some ⟨g, 0, none⟩) n c) ∧ n ≤ 100 ∧ n ≤ c ∧ c ≤ maxLen ∧ U8 w g n ∧ some g ≠ pv.ownBlock ∧ some g ≠ wv.ownBlock ∧ B ≤ g

theorem inv_set {B m : Nat} {w : World} {vs : List Value} {pv wv : Value} (h : Inv B m w vs pv wv) (g i : Nat) (b : UInt8) : Inv B m (w.setCell ⟨g, i, none⟩ (.int .u8 (b.toNat : Int))) vs pv wv := by
  intro j hj
  obtain ⟨g', c, n, e, h1, h2, h3, h4, h5, h6, h7⟩ := h j hj
  exact ⟨g', c, n, e, h1, h2, h3, u8_set h4 g i b, h5, h6, h7⟩

theorem xor_one (b : UInt8) : Value.int .u8 (bits BinOp.xor IntKind.u8 (b.toNat : Int) 1) = .int .u8 ((b ^^^ 1).toNat : Int) := by
  have h := u8_xor_nat b.toNat 1 b.toNat_lt (by omega)
  have e : ((1 : Nat) : Int) = 1 := rfl
  rw [e] at h
  rw [h]
  congr 1

end Go.Proofs.Ytifdomhmmhepcaa

/- TombPlays: what stands while spans are put in and turned. -/
namespace Go.Proofs.Ytifdomhmmhepcaa
set_option maxRecDepth 20000
open Go.RowKit
set_option linter.unusedVariables false
set_option linter.unusedSimpArgs false

/-- a row whose block is what it was -/
theorem row_same {B n s : Nat} {e : TypeId} {w w' : World} {v : Value} {cs : List Value} (h : w.ownsRow B e s v n cs) (hk : ∀ q, v.ownBlock = some q → w'.heap[q]? = w.heap[q]?) : w'.ownsRow B e s v n cs := by
  obtain ⟨h1, h2⟩ := h
  refine ⟨h1, ?_⟩
  rcases h2 with h2 | ⟨q, cap, cur, rfl, hB, hq, r⟩
  · exact .inl h2
  · exact .inr ⟨q, cap, cur, rfl, hB, by rw [hk q rfl]; exact hq, r⟩

theorem ownN_same {B : Nat} {w w' : World} {v : Value} {l : List UInt8} (h : OwnN B w v l) (hk : ∀ q, v.ownBlock = some q → w'.heap[q]? = w.heap[q]?) : OwnN B w' v l := by
  rcases h with h | ⟨g, cap, cur, rfl, hB, hg, r⟩
  · exact .inl h
  · exact .inr ⟨g, cap, cur, rfl, hB, by rw [hk g rfl]; exact hg, r⟩

/-- the program's set has the first j of the spans; those from j on are untouched -/
structure PlS (wl W : World) (ta : Nat) (mv : Value) (cs : List Value) (L : List SpB) (j m : Nat) : Prop where
  bel : Below wl.heap.size wl W
  set : SetO ta W ta (rightS (L.take j))
  row : W.ownsRow wl.heap.size 32 3 mv L.length cs
  el : ∀ q, m ≤ q → ∀ h : q < L.length, ∃ x y, cs[q * 3]? = some x ∧ cs[q * 3 + 1]? = some y ∧ cs[q * 3 + 2]? = some (.int .u64 (L[q].2.2 : Int)) ∧ OwnN wl.heap.size W x L[q].1 ∧ OwnN wl.heap.size W y L[q].2.1

/-- of mine alone, whichever the world -/
structure PlM (ta : Nat) (mv : Value) (cs : List Value) : Prop where
  ap : ApC cs
  lt : LtC ta cs
  mv : ∀ q, mv.ownBlock = some q → q < ta

theorem PlS.below {wl W W' : World} {ta j m : Nat} {mv : Value} {cs : List Value} {L : List SpB} (h : PlS wl W ta mv cs L j m) (hb : Below W.heap.size W W') : PlS wl W' ta mv cs L j m := by
  refine ⟨bsplit h.bel hb, h.set.below hb, row_below h.row hb, fun q h1 h2 => ?_⟩
  obtain ⟨x, y, c0, c1, c2, ox, oy⟩ := h.el q h1 h2
  exact ⟨x, y, c0, c1, c2, ox.below hb (Nat.le_refl _), oy.below hb (Nat.le_refl _)⟩

theorem PlS.later {wl W : World} {ta j m m' : Nat} {mv : Value} {cs : List Value} {L : List SpB} (h : PlS wl W ta mv cs L j m) (hm : m ≤ m') : PlS wl W ta mv cs L j m' :=
  ⟨h.bel, h.set, h.row, fun q h1 h2 => h.el q (Nat.le_trans hm h1) h2⟩

/-- behind Add -/
theorem PlS.add {wl W W' : World} {ta j m : Nat} {mv : Value} {cs : List Value} {L : List SpB} {o : SpB} {c : Int} {e : Ending} (h : PlS wl W ta mv cs L j m) (hm : PlM ta mv cs) (hwl : wl.heap.size ≤ ta) (hj : j < L.length) (ho : L[j] = o) (hc : chkSp o.1 o.2.1 (o.2.2 : Int) = c) (hp : AddPost2 ta W ta (rightS (L.take j)) o c e W') : PlS wl W' ta mv cs L (j + 1) m := by
  obtain ⟨_, hs, hb, _⟩ := hp
  refine ⟨h.bel.trans (hb.mono hwl), ?_, row_same h.row (fun q hq => hb.block q (hm.mv q hq)), fun q h1 h2 => ?_⟩
  · rw [rightS_next hj, ho, hc]
    exact hs
  · obtain ⟨x, y, c0, c1, c2, ox, oy⟩ := h.el q h1 h2
    exact ⟨x, y, c0, c1, c2, ownN_same ox (fun q hq => hb.block q (hm.lt _ (List.mem_of_getElem? c0) q hq)), ownN_same oy (fun q hq => hb.block q (hm.lt _ (List.mem_of_getElem? c1) q hq))⟩

/-- a byte of the span m's From is turned -/
theorem PlS.flip {wl W : World} {ta j m g k n : Nat} {mv u x : Value} {cs : List Value} {L : List SpB} (h : PlS wl W ta mv cs L j (m + 1)) (hm : PlM ta mv cs) (hx : cs[m * 3]? = some x) (hg : x.ownBlock = some g) (hu : U8 W g n) (hB : wl.heap.size ≤ g) : PlS wl (W.setCell ⟨g, k, none⟩ u) ta mv cs L j (m + 1) := by
  have hk : ∀ q, q ≠ g → (W.setCell ⟨g, k, none⟩ u).heap[q]? = W.heap[q]? := fun q hq => Below.heap_setCell _ _ _ q (fun e => hq e)
  have hgr : W.grownBy (W.setCell ⟨g, k, none⟩ u) (some g) := ⟨rfl, rfl, rfl, (KeepsWalks.setCell W _ u).size, fun q _ hq => hk q (fun e => hq (by rw [e]))⟩
  refine ⟨h.bel.setCell (p := ⟨g, k, none⟩) hB u, h.set.aside hgr (hm.lt x (List.mem_of_getElem? hx) g hg), row_same h.row (fun q hq => hk q ?_), fun q h1 h2 => ?_⟩
  · rintro rfl
    rcases h.row.2 with ⟨e, _⟩ | ⟨p, cap, cur, e, _, hp, _⟩
    · subst e
      cases hq
    · subst e
      simp only [Value.ownBlock, Option.some.injEq] at hq
      subst hq
      obtain ⟨cur', l, hg', _⟩ := hu
      rw [hp] at hg'
      simp at hg'
  · obtain ⟨a, b, c0, c1, c2, oa, ob⟩ := h.el q h1 h2
    refine ⟨a, b, c0, c1, c2, ownN_same oa (fun z hz => hk z ?_), ownN_same ob (fun z hz => hk z ?_)⟩
    · rintro rfl
      exact hm.ap m q x a z (by omega) hx (.inl c0) hg hz
    · rintro rfl
      exact hm.ap m q x b z (by omega) hx (.inr c1) hg hz

/-- a box, its block being what it was -/
theorem Box.same {w w' : World} {b : Nat} {v0 v1 v2 : Value} (h : Box w b v0 v1 v2) (e : w'.heap[b]? = w.heap[b]?) : Box w' b v0 v1 v2 := by
  obtain ⟨c0, c1, c2, f0, f1, f2⟩ := h
  constructor
  · rw [← c0]; unfold World.cell?; rw [e]
  · rw [← c1]; unfold World.cell?; rw [e]
  · rw [← c2]; unfold World.cell?; rw [e]
  · rw [← f0]; exact World.frozen?_of_block (w := w) e
  · rw [← f1]; exact World.frozen?_of_block (w := w) e
  · rw [← f2]; exact World.frozen?_of_block (w := w) e

theorem SetO.off {B t : Nat} {w W : World} {ss : List SpB} {q : Nat} (h : SetO B w t ss) (hb : Below w.heap.size w W) (hq : w.heap.size ≤ q) : OffS W t q := by
  obtain ⟨_, v, hv, ha⟩ := h
  refine ⟨fun e => by have := hv.lt; omega, fun u hu e => ?_⟩
  have h1 := (hb.cell (p := ⟨t, 0, none⟩) hv.lt).trans hv.cell
  rw [h1] at hu
  cases hu
  have := (ha.lt q e).2
  omega

end Go.Proofs.Ytifdomhmmhepcaa

/- TombMore. -/
namespace Go.Proofs.Ytifdomhmmhepcaa
set_option maxRecDepth 100000
open Go.ChangeShapes Go.WideShapes Go.ChangeAt Go.RowKit
set_option linter.unusedVariables false
set_option linter.unusedSimpArgs false

/-- append of whatever row, nil or not, to a row of one's own, nil or not -/
theorem wpList_append_any9 {P : Program} {w : World} {ops : Array Oper} {rest : List Oper} {o : Oper} {a : Act} {Q : Exit → Act → World → Prop} (hgd : o.guard = none) (s x : Operand) (t : TypeId)
    (ho : o.op = .call { callee := .builtin .append, args := #[s, x], argTypes := #[t, t] })
    (base : Nat) (e : TypeId) (i : TypeInfo) (z : Value) (size bytes : Nat) (ht : P.underlying t = some (.slice e)) (hi : P.info? e = some i) (hz : i.zero = some z)
    (hsize : i.size = size) (hby : i.bytes = bytes) (hzs : z.cells.size = size) (hsz : 0 < size)
    (v : Value) (n : Nat) (xs : List Value) (hs : a.eval s = v) (hown : w.ownsRow base e size v n xs)
    (vx : Value) (hx : a.eval x = vx) (m : Nat) (news : List Value) (hsrc : (vx = .slice none 0 0 ∧ m = 0 ∧ news = []) ∨ ∃ ad c, vx = .slice (some ad) m c ∧ news.length = m * size ∧ ∀ j u, news[j]? = some u → w.cell? (ad.add j) = some u) (h1 : ∀ u ∈ news, u.oneCell' = true)
    (h63 : n + m ≤ maxLen) (hbytes : (n + m) * bytes ≤ 140737488355328) (hbase : base ≤ w.heap.size)
    (h : ∀ v' w', w'.ownsRow base e size v' (n + m) (xs ++ news) → w.grownBy w' v.ownBlock → wpList P ops Q rest (a.put o.dst v') w') : wpList P ops Q (o :: rest) a w := by
  rcases hsrc with ⟨rfl, rfl, rfl⟩ | ⟨ad, c, rfl, hl, hnews⟩
  · refine wpList_append_own_none hgd s x t ho base e i size ht hi v n xs hs hown hx ?_
    exact h v w (by simpa using hown) ⟨rfl, rfl, rfl, Nat.le_refl _, fun _ _ _ => rfl⟩
  · exact wpList_append_own w hgd s x t ho base e i z size bytes ht hi hz hsize hby hzs hsz v n xs hs hown ad m c news hx hl hnews h1 h63 hbytes hbase fun v' w' h2 h3 h4 => h v' w' h2 h3

/-- two rows of spans, one behind the other -/
theorem AllS.app {B B' n m : Nat} {w w' : World} {v vx v' : Value} {fs gs : List SpB} {cs ds : List Value} (hl : fs.length = n) (hl2 : gs.length = m) (hrow : w.ownsRow B 32 3 v n cs)
    (hel : ∀ j (h : j < fs.length), ∃ x y, cs[j * 3]? = some x ∧ cs[j * 3 + 1]? = some y ∧ cs[j * 3 + 2]? = some (.int .u64 (fs[j].2.2 : Int)) ∧ OwnN B w x fs[j].1 ∧ OwnN B w y fs[j].2.1)
    (hel2 : ∀ j (h : j < gs.length), ∃ x y, ds[j * 3]? = some x ∧ ds[j * 3 + 1]? = some y ∧ ds[j * 3 + 2]? = some (.int .u64 (gs[j].2.2 : Int)) ∧ OwnN B' w x gs[j].1 ∧ OwnN B' w y gs[j].2.1)
    (hn : w'.ownsRow B 32 3 v' (n + m) (cs ++ ds)) (hg : w.grownBy w' v.ownBlock) : RdS w' v' (fs ++ gs) := by
  subst hl hl2
  have hcl : cs.length = fs.length * 3 := hrow.1
  have hall : ∀ j (h : j < (fs ++ gs).length), ∃ x y, (cs ++ ds)[j * 3]? = some x ∧ (cs ++ ds)[j * 3 + 1]? = some y ∧ (cs ++ ds)[j * 3 + 2]? = some (.int .u64 ((fs ++ gs)[j].2.2 : Int)) ∧ Rd w' x (fs ++ gs)[j].1 ∧ Rd w' y (fs ++ gs)[j].2.1 := by
    intro j h
    by_cases hj : j < fs.length
    · obtain ⟨x', y', c0, c1, c2, ox, oy⟩ := hel j hj
      refine ⟨x', y', ?_, ?_, ?_, ?_, ?_⟩
      · rw [List.getElem?_append_left (by omega)]; exact c0
      · rw [List.getElem?_append_left (by omega)]; exact c1
      · rw [List.getElem?_append_left (by omega), List.getElem_append_left hj]; exact c2
      · rw [List.getElem_append_left hj]; exact (ownN_kept ox (by decide) hrow hg).rd
      · rw [List.getElem_append_left hj]; exact (ownN_kept oy (by decide) hrow hg).rd
    · rw [List.length_append] at h
      obtain ⟨x', y', c0, c1, c2, ox, oy⟩ := hel2 (j - fs.length) (by omega)
      refine ⟨x', y', ?_, ?_, ?_, ?_, ?_⟩
      · rw [List.getElem?_append_right (by omega), show j * 3 - cs.length = (j - fs.length) * 3 by omega]; exact c0
      · rw [List.getElem?_append_right (by omega), show j * 3 + 1 - cs.length = (j - fs.length) * 3 + 1 by omega]; exact c1
      · rw [List.getElem?_append_right (by omega), show j * 3 + 2 - cs.length = (j - fs.length) * 3 + 2 by omega, List.getElem_append_right (by omega)]; exact c2
      · rw [List.getElem_append_right (by omega)]; exact (ownN_kept ox (by decide) hrow hg).rd
      · rw [List.getElem_append_right (by omega)]; exact (ownN_kept oy (by decide) hrow hg).rd
  have hn2 := hn
  rcases hn.2 with ⟨e, hn9⟩ | ⟨g, cap, cur, e, hb, hgg, h1, h2, h3, h4⟩
  · exact ⟨none, 0, by rw [e, List.length_append, hn9], by rw [List.length_append]; omega, Nat.zero_le _, fun j hj => by rw [List.length_append] at hj; omega⟩
  · subst e
    refine ⟨_, cap, by rw [List.length_append], by rw [List.length_append]; exact h1, h2, fun j h => ⟨g, 0, rfl, ?_⟩⟩
    obtain ⟨x, y, c0, c1, c2, ox, oy⟩ := hall j h
    have hc := hn2.cells (g := g) rfl
    refine ⟨x, y, ?_, ?_, ?_, ox, oy⟩
    · have := hc _ _ c0; rwa [Addr.add_lit] at this
    · have := hc _ _ c1; rwa [Addr.add_lit] at this
    · have := hc _ _ c2; rwa [Addr.add_lit] at this

/-- a row of spans as a source -/
theorem AllS.src {B m : Nat} {w : World} {v : Value} {gs : List SpB} (h : AllS B w v gs) (hl : gs.length = m) : ∃ ds, ((v = .slice none 0 0 ∧ m = 0 ∧ ds = []) ∨ ∃ ad c, v = .slice (some ad) m c ∧ ds.length = m * 3 ∧ ∀ j u, ds[j]? = some u → w.cell? (ad.add j) = some u) ∧ (∀ u ∈ ds, u.oneCell' = true) ∧
    ∀ j (h : j < gs.length), ∃ x y, ds[j * 3]? = some x ∧ ds[j * 3 + 1]? = some y ∧ ds[j * 3 + 2]? = some (.int .u64 (gs[j].2.2 : Int)) ∧ OwnN B w x gs[j].1 ∧ OwnN B w y gs[j].2.1 := by
  obtain ⟨ds, hrow, hel⟩ := h
  subst hl
  refine ⟨ds, ?_, ?_, hel⟩
  · rcases hrow.2 with ⟨e, hn⟩ | ⟨g, cap, cur, e, _⟩
    · exact .inl ⟨e, hn, List.eq_nil_of_length_eq_zero (by rw [hrow.1, hn])⟩
    · subst e
      exact .inr ⟨⟨g, 0, none⟩, cap, rfl, hrow.1, hrow.cells rfl⟩
  · intro u hu
    obtain ⟨k, hk, rfl⟩ := List.getElem_of_mem hu
    have hkl : k < gs.length * 3 := by rw [← hrow.1]; exact hk
    obtain ⟨x, y, c0, c1, c2, ox, oy⟩ := hel (k / 3) (by omega)
    have hkk : k = k / 3 * 3 ∨ k = k / 3 * 3 + 1 ∨ k = k / 3 * 3 + 2 := by omega
    rcases hkk with e | e | e
    · rw [← e] at c0
      rw [List.getElem?_eq_getElem hk] at c0
      rw [Option.some.inj c0]
      exact rd_oneT ox.rd
    · rw [← e] at c1
      rw [List.getElem?_eq_getElem hk] at c1
      rw [Option.some.inj c1]
      exact rd_oneT oy.rd
    · rw [← e] at c2
      rw [List.getElem?_eq_getElem hk] at c2
      rw [Option.some.inj c2]
      rfl

theorem fewS_twice (n : Nat) (es : List SpB) : fewS n (fewS n es) = fewS n es := by
  unfold fewS
  rw [← List.map_take, List.take_take, Nat.min_self, List.map_map]
  apply List.map_congr_left
  intro e _
  unfold cutS
  simp [List.take_take]

theorem rightS_app (a b : List SpB) : rightS (a ++ b) = rightS a ++ rightS b := by unfold rightS; rw [List.filter_append]

theorem RdS.arg {w : World} {v : Value} {es : List SpB} (h : RdS w v es) : ArgS w v es := rdS_arg h

/-- what the law holds -/
structure StM (w : World) (B1 B2 : Nat) (W : World) (lv mv kv : Value) (L M : List SpB) (K : List UInt8) : Prop where
  bel : Below w.heap.size w W
  l : AllS B1 W lv L
  m : AllS B2 W mv M
  k : Rd W kv K

theorem StM.below {w : World} {B1 B2 : Nat} {W W' : World} {lv mv kv : Value} {L M : List SpB} {K : List UInt8} (h : StM w B1 B2 W lv mv kv L M K) (hb : Below W.heap.size W W') : StM w B1 B2 W' lv mv kv L M K :=
  ⟨bsplit h.bel hb, h.l.below hb, h.m.below hb, h.k.below hb (Nat.le_refl _)⟩

set_option maxHeartbeats 8000000 in
theorem tmore (w : World) (v0 v1 kv : Value) (l more : List SpB) (key : List UInt8) (seq : Int) (h0 : ArgS w v0 l) (h1 : ArgS w v1 more) (hk : Arg w kv key) :
    Calls Try.prog 7 #[v0, v1, kv, .int .u64 seq] w fun e w' => e = .returned (.bool true) ∧ Below w.heap.size w w' := by
  obtain ⟨i0, hi, hz0, hz1, hz2⟩ := info_parts infoSp
  obtain ⟨a0, c0, rfl⟩ := LsS.shape h0
  obtain ⟨a1, c1, rfl⟩ := LsS.shape h1
  obtain ⟨ka, kc, rfl⟩ := Arg.shape hk
  obtain ⟨n0, hn0⟩ : ∃ n, l.length = n := ⟨_, rfl⟩
  obtain ⟨n1, hn1⟩ : ∃ n, more.length = n := ⟨_, rfl⟩
  obtain ⟨nk, hnk⟩ : ∃ n, key.length = n := ⟨_, rfl⟩
  rw [hn0] at h0 ⊢
  rw [hn1] at h1 ⊢
  rw [hnk] at hk ⊢
  have H0 : Hid (ArgS w (.slice a0 n0 c0) l) := h0
  have H1 : Hid (ArgS w (.slice a1 n1 c1) more) := h1
  have HK : Hid (Arg w (.slice ka nk kc) key) := hk
  clear h0 h1 hk hn0 hn1 hnk
  have haw := tawake_any w
  go_enter Try.func7, Try.ntmps7
  go_wp2_with fail
  refine haw.mono ?_
  rintro e w1 ⟨rfl, hb1⟩
  have hf1 := fewsp_any w1 _ l 14 (argS_below H0.out hb1 (Nat.le_refl _)) (by decide)
  have HB1 : Hid (Below w.heap.size w w1) := hb1
  clear haw hb1
  go_wp2_with fail
  refine hf1.mono ?_
  rintro e w2 ⟨lv, rfl, al, hb2⟩
  have HB2 : Hid (Below w.heap.size w w2) := bsplit HB1.out hb2
  have hf2 := fewsp_any w2 _ more 14 (argS_below H1.out HB2.out (Nat.le_refl _)) (by decide)
  obtain ⟨L, hL⟩ : ∃ L, fewS 14 l = L := ⟨_, rfl⟩
  have HLN : Hid (L.length ≤ 14 ∧ fewS 14 L = L) := by rw [← hL]; exact ⟨fewS_len _ _, fewS_twice _ _⟩
  rw [hL] at al
  obtain ⟨la, lc, elv⟩ := al.rd.shape
  subst elv
  obtain ⟨nL, hnL⟩ : ∃ n, L.length = n := ⟨_, rfl⟩
  rw [hnL] at al ⊢
  have HNL : Hid (L.length = nL) := hnL
  clear hf1 hb2 hL hnL H0
  have HA : Hid (AllS w1.heap.size w2 (.slice la nL lc) L) := al
  clear al
  go_wp2_with fail
  refine hf2.mono ?_
  rintro e w3 ⟨mv, rfl, am, hb3⟩
  have HB3 : Hid (Below w.heap.size w w3) := bsplit HB2.out hb3
  have HA3 : Hid (AllS w1.heap.size w3 (.slice la nL lc) L) := HA.out.below hb3
  obtain ⟨M, hM⟩ : ∃ M, fewS 14 more = M := ⟨_, rfl⟩
  have HMN : Hid (M.length ≤ 14 ∧ fewS 14 M = M) := by rw [← hM]; exact ⟨fewS_len _ _, fewS_twice _ _⟩
  rw [hM] at am
  obtain ⟨ma, mc, emv⟩ := am.rd.shape
  subst emv
  obtain ⟨nM, hnM⟩ : ∃ n, M.length = n := ⟨_, rfl⟩
  rw [hnM] at am ⊢
  have HNM : Hid (M.length = nM) := hnM
  have HM3 : Hid (AllS w2.heap.size w3 (.slice ma nM mc) M) := am
  have hct := cut_any w3 _ key 80 (HK.out.below HB3.out (Nat.le_refl _)) (by decide)
  clear hf2 hb3 hM hnM H1 am HA
  go_wp2_with fail
  refine hct.mono ?_
  rintro e w4 ⟨kv, rfl, ok, hb4⟩
  obtain ⟨K, hKK⟩ : ∃ K, key.take 80 = K := ⟨_, rfl⟩
  rw [hKK] at ok
  obtain ⟨gk9, ck9, ekv⟩ := ok.shape
  subst ekv
  obtain ⟨nK, hnK⟩ : ∃ n, K.length = n := ⟨_, rfl⟩
  rw [hnK] at ok ⊢
  have HB4 : Hid (Below w.heap.size w w4) := bsplit HB3.out hb4
  have HK4 : Hid (Rd w4 (.slice (some ⟨gk9, 0, none⟩) nK ck9) K) := ok.rd
  have HA4 : Hid (AllS w1.heap.size w4 (.slice la nL lc) L) := HA3.out.below hb4
  have HM4 : Hid (AllS w2.heap.size w4 (.slice ma nM mc) M) := HM3.out.below hb4
  have hnw := tnew_any w4 _ L HA4.out.rd (by have := HLN.out.1; omega)
  have HS4 : Hid (StM w w1.heap.size w2.heap.size w4 (.slice la nL lc) (.slice ma nM mc) (.slice (some ⟨gk9, 0, none⟩) nK ck9) L M K) := ⟨HB4.out, HA4.out, HM4.out, HK4.out⟩
  clear hct hb4 hKK hnK ok HA3 HM3 HK HB1 HB2 HB3 HB4 HA4 HM4 HK4
  obtain ⟨ta, hta⟩ : ∃ z, w4.heap.size = z := ⟨_, rfl⟩
  have HTA : Hid (w4.heap.size = ta) := hta
  rw [hta] at hnw
  clear hta
  go_wp2_with fail
  refine hnw.mono ?_
  rintro e w5 ⟨rfl, sa, hb5⟩
  rw [← HTA.out] at hb5
  have HS5 : Hid (StM w w1.heap.size w2.heap.size w5 (.slice la nL lc) (.slice ma nM mc) (.slice (some ⟨gk9, 0, none⟩) nK ck9) L M K) := HS4.out.below hb5
  have HSA : Hid (SetO ta w5 ta (rightS L)) := sa
  clear hnw sa hb5 HS4 HTA
  have hf := fewsp_any w5 _ L 14 (rdS_arg HS5.out.l.rd) (by decide)
  rw [HLN.out.2] at hf
  go_wp2_with fail
  refine hf.mono ?_
  rintro e w6 ⟨xv, rfl, ax, hbx⟩
  obtain ⟨xa, xc, exv⟩ := ax.rd.shape
  rw [HNL.out] at exv
  subst exv
  have HX : Hid (AllS w5.heap.size w6 (.slice xa nL xc) L) := ax
  have HBX : Hid (Below w5.heap.size w5 w6) := hbx
  obtain ⟨csx, hrow, hel⟩ := ax
  rw [HNL.out] at hrow
  obtain ⟨dsx, hsrc, hone, hel2⟩ := AllS.src (HS5.out.below hbx).m HNM.out
  have HPS : Hid (∀ v' w', w'.ownsRow w5.heap.size 32 3 v' (nL + nM) (csx ++ dsx) → w6.grownBy w' (Value.slice xa nL xc).ownBlock → RdS w' v' (L ++ M) ∧ Below w5.heap.size w5 w') := by
    intro v' w' hown hgrow
    exact ⟨AllS.app (vx := .slice none 0 0) HNL.out HNM.out hrow hel hel2 hown hgrow, HBX.out.grown hgrow HBX.out.size (fun k' e => (hrow.lt k' e).1)⟩
  have hse := hbx.size
  have hLb := HLN.out.1
  have hMb := HMN.out.1
  rw [HNL.out] at hLb
  rw [HNM.out] at hMb
  clear hf hbx hel hel2
  go_wp2_with (first | (at_builtin; refine wpList_append_any9 rfl (.tmp 23) (.tmp 24) 22 rfl w5.heap.size 32 i0 (.agg #[.slice none 0 0, .slice none 0 0, .int .u64 0]) 3 56 Try.underlying22 hi hz0 hz1 hz2 rfl (by decide) (.slice xa nL xc) nL csx rfl hrow (.slice ma nM mc) rfl nM dsx hsrc hone (by simp only [maxLen]; omega) (by omega) hse ?_; intro v7 w7 hown hgrow; have HP4 : Hid _ := HPS.out v7 w7 hown hgrow; clear hown hgrow) | fail)
  obtain ⟨tb, htb⟩ : ∃ z, w7.heap.size = z := ⟨_, rfl⟩
  have hnw := tnew_any w7 v7 (L ++ M) HP4.out.1 (by have h1 := HLN.out.1; have h2 := HMN.out.1; rw [List.length_append]; omega)
  have HTB : Hid (w7.heap.size = tb) := htb
  rw [htb] at hnw
  clear htb hrow hsrc hone hse hLb hMb
  refine hnw.mono ?_
  rintro e w8 ⟨rfl, sb, hb8⟩
  rw [← HTB.out] at hb8
  have hb58 : Below w5.heap.size w5 w8 := bsplit HP4.out.2 hb8
  have HS8 : Hid (StM w w1.heap.size w2.heap.size w8 (.slice la nL lc) (.slice ma nM mc) (.slice (some ⟨gk9, 0, none⟩) nK ck9) L M K) := HS5.out.below hb58
  have HSA8 : Hid (SetO ta w8 ta (rightS L)) := HSA.out.below hb58
  have HSB8 : Hid (SetO tb w8 tb (rightS (L ++ M))) := sb
  clear hnw sb hb8 hb58 HP4 HPS HX HBX HTB HS5 HSA
  have hf := fewsp_any w8 _ M 14 (rdS_arg HS8.out.m.rd) (by decide)
  rw [HMN.out.2] at hf
  go_wp2_with fail
  refine hf.mono ?_
  rintro e w9 ⟨xv, rfl, ax, hbx⟩
  obtain ⟨xa, xc, exv⟩ := ax.rd.shape
  rw [HNM.out] at exv
  subst exv
  have HX : Hid (AllS w8.heap.size w9 (.slice xa nM xc) M) := ax
  have HBX : Hid (Below w8.heap.size w8 w9) := hbx
  obtain ⟨csx, hrow, hel⟩ := ax
  rw [HNM.out] at hrow
  obtain ⟨dsx, hsrc, hone, hel2⟩ := AllS.src (HS8.out.below hbx).l HNL.out
  have HPS : Hid (∀ v' w', w'.ownsRow w8.heap.size 32 3 v' (nM + nL) (csx ++ dsx) → w9.grownBy w' (Value.slice xa nM xc).ownBlock → RdS w' v' (M ++ L) ∧ Below w8.heap.size w8 w') := by
    intro v' w' hown hgrow
    exact ⟨AllS.app (vx := .slice none 0 0) HNM.out HNL.out hrow hel hel2 hown hgrow, HBX.out.grown hgrow HBX.out.size (fun k' e => (hrow.lt k' e).1)⟩
  have hse := hbx.size
  have hLb := HLN.out.1
  have hMb := HMN.out.1
  rw [HNL.out] at hLb
  rw [HNM.out] at hMb
  clear hf hbx hel hel2
  go_wp2_with (first | (at_builtin; refine wpList_append_any9 rfl (.tmp 28) (.tmp 29) 22 rfl w8.heap.size 32 i0 (.agg #[.slice none 0 0, .slice none 0 0, .int .u64 0]) 3 56 Try.underlying22 hi hz0 hz1 hz2 rfl (by decide) (.slice xa nM xc) nM csx rfl hrow (.slice la nL lc) rfl nL dsx hsrc hone (by simp only [maxLen]; omega) (by omega) hse ?_; intro v7 w10 hown hgrow; have HP4 : Hid _ := HPS.out v7 w10 hown hgrow; clear hown hgrow) | fail)
  obtain ⟨tc, htc⟩ : ∃ z, w10.heap.size = z := ⟨_, rfl⟩
  have hnw := tnew_any w10 v7 (M ++ L) HP4.out.1 (by have h1 := HLN.out.1; have h2 := HMN.out.1; rw [List.length_append]; omega)
  have HTB : Hid (w10.heap.size = tc) := htc
  rw [htc] at hnw
  clear htc hrow hsrc hone hse hLb hMb
  refine hnw.mono ?_
  rintro e w11 ⟨rfl, sc, hb8⟩
  rw [← HTB.out] at hb8
  have hb58 : Below w8.heap.size w8 w11 := bsplit HP4.out.2 hb8
  have HS11 : Hid (StM w w1.heap.size w2.heap.size w11 (.slice la nL lc) (.slice ma nM mc) (.slice (some ⟨gk9, 0, none⟩) nK ck9) L M K) := HS8.out.below hb58
  have HSA11 : Hid (SetO ta w11 ta (rightS L)) := HSA8.out.below hb58
  have HSB11 : Hid (SetO tb w11 tb (rightS (L ++ M))) := HSB8.out.below hb58
  have HSC11 : Hid (SetO tc w11 tc (rightS (M ++ L))) := sc
  clear hnw sc hb8 hb58 HP4 HPS HX HBX HTB HS8 HSA8 HSB8
  have hle : covN (rightS L) K seq ≤ covN (rightS (L ++ M)) K seq := covN_le (fun n ⟨s, hs, h⟩ => ⟨s, by rw [rightS_app]; exact List.mem_append_left _ hs, h⟩)
  have hme : ∀ s, s ∈ rightS (L ++ M) ↔ s ∈ rightS (M ++ L) := fun s => by rw [rightS_app, rightS_app, List.mem_append, List.mem_append, or_comm]
  have heq : covN (rightS (M ++ L)) K seq = covN (rightS (L ++ M)) K seq := covN_same (fun n => ⟨fun ⟨s, hs, h⟩ => ⟨s, (hme s).2 hs, h⟩, fun ⟨s, hs, h⟩ => ⟨s, (hme s).1 hs, h⟩⟩)
  have HFR : Hid (fragN (rightS (L ++ M)) = fragN (rightS (M ++ L))) := frag_mem hme
  have HLL : Hid ((rightS (L ++ M)).length ≤ 28 ∧ (rightS (M ++ L)).length ≤ 28) := by
    have h1 := HLN.out.1
    have h2 := HMN.out.1
    have h3 := rightS_len (L ++ M)
    have h4 := rightS_len (M ++ L)
    rw [List.length_append] at h3 h4
    exact ⟨by omega, by omega⟩
  have hc1 := tcover_any w11 tb _ _ K seq HSB11.out.at HS11.out.k
  obtain ⟨cA, hcA⟩ : ∃ z, covN (rightS L) K seq = z := ⟨_, rfl⟩
  obtain ⟨cB, hcB⟩ : ∃ z, covN (rightS (L ++ M)) K seq = z := ⟨_, rfl⟩
  rw [hcA, hcB] at hle
  rw [hcB] at heq hc1
  have HCA : Hid (covN (rightS L) K seq = cA ∧ covN (rightS (L ++ M)) K seq = cB ∧ covN (rightS (M ++ L)) K seq = cB) := ⟨hcA, hcB, heq⟩
  have hleI : (cA : Int) ≤ (cB : Int) := by omega
  clear hcA hcB heq hme hle
  go_wp2_with fail
  refine hc1.mono ?_
  rintro e w12 ⟨rfl, hb⟩
  have HS12 : Hid (StM w w1.heap.size w2.heap.size w12 (.slice la nL lc) (.slice ma nM mc) (.slice (some ⟨gk9, 0, none⟩) nK ck9) L M K ∧ SetO ta w12 ta (rightS L) ∧ SetO tb w12 tb (rightS (L ++ M)) ∧ SetO tc w12 tc (rightS (M ++ L))) := ⟨HS11.out.below hb, HSA11.out.below hb, HSB11.out.below hb, HSC11.out.below hb⟩
  have hc2 := tcover_any w12 ta _ _ K seq HS12.out.2.1.at HS12.out.1.k
  rw [HCA.out.1] at hc2
  clear hc1 hb HS11 HSA11 HSB11 HSC11
  go_wp2_with fail
  refine hc2.mono ?_
  rintro e w13 ⟨rfl, hb⟩
  have HS13 : Hid (StM w w1.heap.size w2.heap.size w13 (.slice la nL lc) (.slice ma nM mc) (.slice (some ⟨gk9, 0, none⟩) nK ck9) L M K ∧ SetO tb w13 tb (rightS (L ++ M)) ∧ SetO tc w13 tc (rightS (M ++ L))) := ⟨HS12.out.1.below hb, HS12.out.2.2.1.below hb, HS12.out.2.2.2.below hb⟩
  have hc3 := tcover_any w13 tb _ _ K seq HS13.out.2.1.at HS13.out.1.k
  rw [HCA.out.2.1] at hc3
  clear hc2 hb HS12
  go_wp2_with fail
  refine hc3.mono ?_
  rintro e w14 ⟨rfl, hb⟩
  have HS14 : Hid (StM w w1.heap.size w2.heap.size w14 (.slice la nL lc) (.slice ma nM mc) (.slice (some ⟨gk9, 0, none⟩) nK ck9) L M K ∧ SetO tb w14 tb (rightS (L ++ M)) ∧ SetO tc w14 tc (rightS (M ++ L))) := ⟨HS13.out.1.below hb, HS13.out.2.1.below hb, HS13.out.2.2.below hb⟩
  have hc4 := tcover_any w14 tc _ _ K seq HS14.out.2.2.at HS14.out.1.k
  rw [HCA.out.2.2] at hc4
  clear hc3 hb HS13
  go_wp2_with fail
  refine hc4.mono ?_
  rintro e w15 ⟨rfl, hb⟩
  have HS15 : Hid (Below w.heap.size w w15 ∧ SetO tb w15 tb (rightS (L ++ M)) ∧ SetO tc w15 tc (rightS (M ++ L))) := ⟨(HS14.out.1.below hb).bel, HS14.out.2.1.below hb, HS14.out.2.2.below hb⟩
  obtain ⟨v9, hv9, hr9⟩ := HS15.out.2.1.at
  have hf1 := tfrag_any w15 tb v9 _ hv9 hr9 (right_up _) (by have := HLL.out.1; omega) (right_lens _)
  clear hc4 hb HS14 hv9 hr9
  go_wp2_with fail
  refine hf1.mono ?_
  rintro e w16 ⟨f1, rfl, hr1, hb⟩
  have HS16 : Hid (Below w.heap.size w w16 ∧ SetO tc w16 tc (rightS (M ++ L)) ∧ RdS w16 f1 (fragN (rightS (L ++ M)))) := ⟨bsplit HS15.out.1 hb, HS15.out.2.2.below hb, hr1⟩
  obtain ⟨v9, hv9, hr9⟩ := HS16.out.2.1.at
  have hf2 := tfrag_any w16 tc v9 _ hv9 hr9 (right_up _) (by have := HLL.out.2; omega) (right_lens _)
  clear hf1 hb HS15 hv9 hr9 hr1
  go_wp2_with fail
  refine hf2.mono ?_
  rintro e w17 ⟨f2, rfl, hr2, hb⟩
  have hsm := samesp_any w17 f1 f2 _ _ true (rdS_below HS16.out.2.2 hb (Nat.le_refl _)) hr2 (by rw [HFR.out]; simp)
  have HB17 : Hid (Below w.heap.size w w17) := bsplit HS16.out.1 hb
  clear hf2 hb hr2
  go_wp2_with fail
  refine hsm.mono ?_
  rintro e w18 ⟨rfl, nn, rfl⟩
  clear hsm
  go_wp2
  go_ret
  exact ⟨rfl, below_drewN HB17.out _⟩

theorem tombMore_walk (a0 : Option Addr) (len0 cap0 : Nat) (z0 : List SpB) (a1 : Option Addr) (len1 cap1 : Nat) (z1 : List SpB) (a2 : Option Addr) (len2 cap2 : Nat) (z2 : List Int) (a3 : Int) (w : World)
    (w0 : ArgS w (.slice a0 len0 cap0) z0 ∧ ∀ e ∈ z0, e.2.2 < 18446744073709551616) (w1 : ArgS w (.slice a1 len1 cap1) z1 ∧ ∀ e ∈ z1, e.2.2 < 18446744073709551616) (w2 : IsRow .u8 w a2 len2 cap2 z2) (w3 : (Lit.int .u64 a3).wf = true) :
    Calls Try.prog 7 #[.slice a0 len0 cap0, .slice a1 len1 cap1, .slice a2 len2 cap2, .int .u64 a3] w fun e w' => e = .returned (.bool true) ∧ Below w.heap.size w w' :=
  tmore w _ _ _ z0 z1 _ a3 w0.1 w1.1 (arg_of w2)

end Go.Proofs.Ytifdomhmmhepcaa

/- TombPlays. -/
namespace Go.Proofs.Ytifdomhmmhepcaa
set_option maxRecDepth 100000
open Go.ChangeShapes Go.WideShapes Go.ChangeAt Go.RowKit
set_option linter.unusedVariables false
set_option linter.unusedSimpArgs false

/-- numbers that came in -/
def Nums (w : World) (ao : Option Addr) (n : Nat) : Prop := ∀ j, j < n → ∃ b off s, ao = some ⟨b, off, none⟩ ∧ w.cell? ⟨b, off + j, none⟩ = some (.int .u64 s)

theorem nums_of {w : World} {a : Option Addr} {len cap : Nat} {zs : List Int} (h : IsRow .u64 w a len cap zs) : Nums w a len := by
  intro j hj
  rcases h with ⟨_, rfl, _⟩ | ⟨x, rfl, hl, hm, hz, hc, hw⟩
  · omega
  · have hcj := hc j (by omega)
    obtain ⟨b, off, spot⟩ := x
    have hc0 := hc 0 (by omega)
    have hspot : spot = none := by simpa [Addr.add] using World.cell?_spot hc0
    subst hspot
    rw [Addr.add_lit] at hcj
    exact ⟨b, off, _, rfl, hcj⟩

theorem Nums.below {w w' : World} {ao : Option Addr} {n : Nat} (h : Nums w ao n) (hb : Below w.heap.size w w') : Nums w' ao n := by
  intro j hj
  obtain ⟨b, off, s, e, hc⟩ := h j hj
  exact ⟨b, off, s, e, (hb.cell (p := ⟨b, off + j, none⟩) (World.block_lt_of_cell? w _ hc)).trans hc⟩

/-- a slice of bytes of one's own, whichever they are -/
def SomeP (B : Nat) (w : World) (x : Value) : Prop := x = .slice none 0 0 ∨ ∃ g n c, x = .slice (some ⟨g, 0, none⟩) n c ∧ U8 w g n ∧ n ≤ c ∧ c ≤ maxLen ∧ B ≤ g

theorem someP_of {B : Nat} {w : World} {x : Value} {l : List UInt8} (h : OwnN B w x l) : SomeP B w x := by
  rcases h with h | h
  · exact .inl h.1
  · obtain ⟨g, c, rfl⟩ := h.shape
    have := u8_of_own h
    exact .inr ⟨g, _, c, rfl, this.1, this.2.1, this.2.2.1, this.2.2.2⟩

theorem SomeP.set {B : Nat} {w : World} {x : Value} (h : SomeP B w x) (g i : Nat) (b : UInt8) : SomeP B (w.setCell ⟨g, i, none⟩ (.int .u8 (b.toNat : Int))) x := by
  rcases h with h | ⟨g', n, c, e, h1, h2, h3, h4⟩
  · exact .inl h
  · exact .inr ⟨g', n, c, e, u8_set h1 g i b, h2, h3, h4⟩

/-- a span's cells -/
theorem pl_cells {wl W : World} {ta j m g mo nL mc : Nat} {cs : List Value} {L : List SpB} (h : PlS wl W ta (.slice (some ⟨g, mo, none⟩) nL mc) cs L j m) (hm : mo = 0) : ∀ k u, cs[k]? = some u → W.cell? ⟨g, mo + k, none⟩ = some u := fun k u hu => by
  subst hm
  have := h.row.cells (g := g) rfl k u hu
  rwa [Addr.add_lit] at this

/-- what stands behind the first loop -/
structure EnP (w W : World) (ta : Nat) (rv : Value) (R : List SpB) : Prop where
  bel : Below w.heap.size w W
  t : SetO ta W ta R
  r : RdS W rv R

theorem EnP.below {w W W' : World} {ta : Nat} {rv : Value} {R : List SpB} (h : EnP w W ta rv R) (hb : Below W.heap.size W W') : EnP w W' ta rv R :=
  ⟨bsplit h.bel hb, h.t.below hb, rdS_below h.r hb (Nat.le_refl _)⟩

set_option maxHeartbeats 8000000 in
theorem tplays (w : World) (v0 v1 : Value) (l : List SpB) (keys : List (List UInt8)) (a2 : Option Addr) (n2 c2 : Nat) (h0 : ArgS w v0 l) (h1 : ArgL w v1 keys) (h2 : Nums w a2 n2) (hn2 : n2 ≤ c2) (hc2 : c2 ≤ 9223372036854775807) :
    Calls Try.prog 3 #[v0, v1, .slice a2 n2 c2] w fun e w' => e = .returned (.bool true) ∧ Below w.heap.size w w' := by
  obtain ⟨a0, c0, rfl⟩ := LsS.shape h0
  obtain ⟨n0, hn0⟩ : ∃ n, l.length = n := ⟨_, rfl⟩
  rw [hn0] at h0 ⊢
  have H0 : Hid (ArgS w (.slice a0 n0 c0) l) := h0
  have H1 : Hid (ArgL w v1 keys) := h1
  have H2 : Hid (Nums w a2 n2) := h2
  obtain ⟨b1, cap1, rfl, hq1, hq2, _⟩ := h1.places
  unfold maxLen at hq2
  obtain ⟨n1, hn1⟩ : ∃ n, keys.length = n := ⟨_, rfl⟩
  rw [hn1] at H1 hq1 ⊢
  have HN1 : Hid (keys.length = n1) := hn1
  clear h0 hn0 hn1 h2
  have haw := tawake_any w
  go_enter Try.func3, Try.ntmps3
  go_wp2_with fail
  refine haw.mono ?_
  rintro e w1 ⟨rfl, hb1⟩
  have hf1 := fewsp_any w1 _ l 20 (argS_below H0.out hb1 (Nat.le_refl _)) (by decide)
  have HB1 : Hid (Below w.heap.size w w1) := hb1
  obtain ⟨L, hL⟩ : ∃ L, fewS 20 l = L := ⟨_, rfl⟩
  have HL : Hid (L.length ≤ 20 ∧ fewS 20 L = L ∧ ∀ s ∈ L, s.1.length ≤ 80 ∧ s.2.1.length ≤ 80) := by rw [← hL]; exact ⟨fewS_len _ _, fewS_twice _ _, fewS_lens _ _⟩
  rw [hL] at hf1
  clear haw hb1 hL
  go_wp2_with fail
  refine hf1.mono ?_
  rintro e w2 ⟨fv, rfl, al, hb2⟩
  have HB2 : Hid (Below w.heap.size w w2) := bsplit HB1.out hb2
  obtain ⟨la, lc, elv⟩ := al.rd.shape
  subst elv
  obtain ⟨nL, hnL⟩ : ∃ n, L.length = n := ⟨_, rfl⟩
  rw [hnL] at al ⊢
  have HNL : Hid (L.length = nL) := hnL
  have HLR : Hid (RdS w2 (.slice la nL lc) L) := al.rd
  have hf2 := fewsp_ap w2 _ L 20 al.rd.arg (by decide)
  rw [HL.out.2.1] at hf2
  clear hf1 al hb2 hnL
  go_wp2_with fail
  refine hf2.mono ?_
  rintro e w3 ⟨mv, rfl, ao, hb3⟩
  obtain ⟨ma, mc, emv⟩ := ao.all.rd.shape
  subst emv
  rw [HNL.out] at ao ⊢
  obtain ⟨ta, hta⟩ : ∃ z, w3.heap.size = z := ⟨_, rfl⟩
  have hnw := tnew_any w3 (.slice none 0 0) [] (AllS.nil 0 w3).rd (by simp)
  rw [hta] at ao hnw
  obtain ⟨cs, hrow, hac, hel⟩ := ao
  have HPM : Hid (PlM ta (.slice ma nL mc) cs) := ⟨hac.1, hac.2, fun q hq => by have := (hrow.lt q hq).2; omega⟩
  have HTA : Hid (w3.heap.size = ta ∧ w2.heap.size ≤ ta) := ⟨hta, by rw [← hta]; exact hb3.size⟩
  have HPE : Hid (w3.ownsRow w2.heap.size 32 3 (.slice ma nL mc) L.length cs ∧ ∀ j (h : j < L.length), ∃ x y, cs[j * 3]? = some x ∧ cs[j * 3 + 1]? = some y ∧ cs[j * 3 + 2]? = some (.int .u64 (L[j].2.2 : Int)) ∧ OwnN w2.heap.size w3 x L[j].1 ∧ OwnN w2.heap.size w3 y L[j].2.1) := ⟨hrow, hel⟩
  have HB3 : Hid (Below w2.heap.size w2 w3) := hb3
  clear hf2 hac hrow hel hta hb3
  go_wp2_with fail
  refine hnw.mono ?_
  rintro e w4 ⟨rfl, sa, hb4⟩
  rw [← HTA.out.1] at hb4
  have HP0 : Hid (PlS w2 w4 ta (.slice ma nL mc) cs L 0 0) := ⟨bsplit HB3.out hb4, sa, row_below HPE.out.1 hb4, fun q _ h2 => by
    obtain ⟨x, y, c0, c1, c2, ox, oy⟩ := HPE.out.2 q h2
    exact ⟨x, y, c0, c1, c2, ox.below hb4 (Nat.le_refl _), oy.below hb4 (Nat.le_refl _)⟩⟩
  have hmc : nL ≤ mc ∧ mc ≤ 9223372036854775807 := by
    rcases HPE.out.1.2 with ⟨e9, z9⟩ | ⟨g9, c9, cur9, e9, _, _, z1, z2, _⟩
    · cases e9; omega
    · cases e9; rw [HNL.out] at z1; exact ⟨z1, z2⟩
  have hnL20 : nL ≤ 20 := by have := HL.out.1; have := HNL.out; omega
  clear hnw sa hb4 HPE HB1 HB3
  go_wp2_with fail
  obtain ⟨mo, HMO⟩ : ∃ mo : Nat, Hid (mo = 0 ∧ (0 < nL → ∃ g, ma = some ⟨g, mo, none⟩)) := by
    refine ⟨0, rfl, fun h9 => ?_⟩
    rcases HP0.out.row.2 with ⟨e9, z9⟩ | ⟨g9, c9, cur9, e9, _⟩
    · cases e9; omega
    · cases e9; exact ⟨g9, rfl⟩
  go_loopg [26] nL (fun gk iv wr => ∃ j : Nat, gk + j = nL ∧ iv = .int .i64 (j : Int) ∧ Hid (PlS w2 wr ta (.slice ma nL mc) cs L j j))
  case atStart => exact ⟨0, by omega, rfl, HP0⟩
  case round =>
    clear HP0
    obtain ⟨j, hj, rfl, HP⟩ := hrel
    by_cases hlt : j < nL
    · have hlt2 : j < L.length := by rw [HNL.out]; exact hlt
      obtain ⟨g, hg⟩ := HMO.out.2 (by omega)
      subst hg
      obtain ⟨q1, q2⟩ := gk_nxt hj hlt
      obtain ⟨G, hG⟩ : ∃ G, G = gk := ⟨_, rfl⟩
      subst hG
      obtain ⟨wo, hwo⟩ : ∃ wo, wo = wr := ⟨_, rfl⟩
      subst hwo
      obtain ⟨xv, yv, cc0, cc1, cc2, ox, oy⟩ := HP.out.el j (Nat.le_refl _) hlt2
      obtain ⟨x1, x2, ex⟩ := ox.rd.len
      obtain ⟨y1, y2, ey⟩ := oy.rd.len
      subst ex ey
      obtain ⟨⟨sl, sm, sq⟩, ho⟩ : ∃ o, L[j] = o := ⟨_, rfl⟩
      rw [ho] at cc0 cc1 cc2
      simp only [ho] at cc0 cc1 cc2 ox oy
      obtain ⟨nl, hnl⟩ : ∃ nl, sl.length = nl := ⟨_, rfl⟩
      obtain ⟨ml, hml⟩ : ∃ ml, sm.length = ml := ⟨_, rfl⟩
      rw [hnl] at cc0
      rw [hml] at cc1
      have HC0 : Hid (cs[j * 3]? = some (.slice x1 nl x2)) := cc0
      have HEL : Hid (∀ W k, PlS w2 W ta (.slice (some ⟨g, mo, none⟩) nL mc) cs L k j → OwnN w2.heap.size W (.slice x1 nl x2) sl ∧ OwnN w2.heap.size W (.slice y1 ml y2) sm) := fun W k h => by
        obtain ⟨x', y', d0, d1, _, ox9, oy9⟩ := h.el j (Nat.le_refl _) hlt2
        rw [cc0] at d0
        rw [cc1] at d1
        cases d0
        cases d1
        simp only [ho] at ox9 oy9
        exact ⟨ox9, oy9⟩
      have c0 := pl_cells HP.out HMO.out.1 _ _ cc0
      have c1 : wo.cell? ⟨g, mo + j * 3 + 1, none⟩ = some (.slice y1 ml y2) := pl_cells HP.out HMO.out.1 _ _ cc1
      have c2 : wo.cell? ⟨g, mo + j * 3 + 2, none⟩ = some (.int .u64 (sq : Int)) := pl_cells HP.out HMO.out.1 _ _ cc2
      have hx9 : nl ≤ 80 := by have h9 := HL.out.2.2 _ (List.getElem_mem hlt2); rw [ho] at h9; rw [← hnl]; exact h9.1
      obtain ⟨c, hc⟩ : ∃ c, chkSp sl sm (sq : Int) = c := ⟨_, rfl⟩
      have HCK : Hid (L[j] = (sl, sm, sq) ∧ chkSp sl sm (sq : Int) = c) := ⟨ho, hc⟩
      have hb0 := (below_box4 wo (.cells #[.slice x1 nl x2, .slice y1 ml y2, .int .u64 (sq : Int)] 32)).drew
      have bx := (box_new wo (.slice x1 nl x2) (.slice y1 ml y2) (.int .u64 (sq : Int)) 32).drew
      have HBr : Hid (Below wo.heap.size wo (wo.alloc (.cells #[.slice x1 nl x2, .slice y1 ml y2, .int .u64 (sq : Int)] 32)).drew) := hb0
      have HPa : Hid (PlS w2 (wo.alloc (.cells #[.slice x1 nl x2, .slice y1 ml y2, .int .u64 (sq : Int)] 32)).drew ta (.slice (some ⟨g, mo, none⟩) nL mc) cs L j j) := HP.out.below hb0
      have HTS : Hid (ta ≤ wo.heap.size) := by
        obtain ⟨_, v9, hv9, _⟩ := HP.out.set
        exact Nat.le_of_lt hv9.lt
      have hv1 := tcheck_any _ _ _ sl sm (sq : Int) c (HEL.out _ _ HPa.out).1.rd (HEL.out _ _ HPa.out).2.rd hc
      clear hb0 ho hnl hml ox oy cc0 cc1 cc2 hc
      go_wp2_with fail
      go_region_held3 (fun w' => w'.cell? ⟨wo.heap.size, 0, none⟩ = some (.slice x1 nl x2) ∧ w'.cell? ⟨wo.heap.size, 1, none⟩ = some (.slice y1 ml y2) ∧ w'.cell? ⟨wo.heap.size, 2, none⟩ = some (.int .u64 (sq : Int)))
        (first | with_reducible exact ⟨b5.c0, b5.c1, b5.c2⟩ | with_reducible exact ⟨b4.c0, b4.c1, b4.c2⟩ | with_reducible exact ⟨b3.c0, b3.c1, b3.c2⟩ | with_reducible exact ⟨b2.c0, b2.c1, b2.c2⟩ | with_reducible exact ⟨b1.c0, b1.c1, b1.c2⟩ | with_reducible exact ⟨bx.c0, bx.c1, bx.c2⟩)
        (first
          | (go_at_call 11; refine hv1.mono ?_; rintro e y1w ⟨rfl, hb⟩; have b1 := bx.below hb (Nat.le_refl _); have HP1 : Hid (PlS w2 y1w ta (.slice (some ⟨g, mo, none⟩) nL mc) cs L j j) := HPa.out.below hb; have HBr1 : Hid (Below wo.heap.size wo y1w) := bsplit HBr.out hb; have hv2 := rtcheck_any y1w _ _ sl sm (sq : Int) c (HEL.out _ _ HP1.out).1.rd (HEL.out _ _ HP1.out).2.rd HCK.out.2; clear hv1 hb)
          | (go_at_call 12; refine hv2.mono ?_; rintro e y2w ⟨rfl, hb⟩; have b2 := b1.below hb (Nat.le_refl _); have HP2 : Hid (PlS w2 y2w ta (.slice (some ⟨g, mo, none⟩) nL mc) cs L j j) := HP1.out.below hb; have HBr2 : Hid (Below wo.heap.size wo y2w) := bsplit HBr1.out hb; have hv3 := tadd_off y2w ta ta (rightS (L.take j)) _ _ sl sm sq c HP2.out.set (Nat.le_trans HTS.out HBr2.out.size) (HEL.out _ _ HP2.out).1.rd (HEL.out _ _ HP2.out).2.rd (by have h9 := rightS_len (L.take j); rw [List.length_take] at h9; omega) HCK.out.2; clear hv2 hb)
          | (go_at_call 13; refine hv3.mono ?_; rintro e y3w hp; have b3 := b2.same (hp.2.2.2 _ b2.lt (HP.out.set.off HBr2.out (Nat.le_refl _))); have HP3 : Hid (PlS w2 y3w ta (.slice (some ⟨g, mo, none⟩) nL mc) cs L (j + 1) j) := HP2.out.add HPM.out HTA.out.2 hlt2 HCK.out.1 HCK.out.2 hp; obtain ⟨rfl, _, _, _⟩ := hp; have hv4 := rtcheck_any y3w _ _ sl sm (sq : Int) c (HEL.out _ _ HP3.out).1.rd (HEL.out _ _ HP3.out).2.rd HCK.out.2; clear hv3)
          | (go_at_call 12; refine hv4.mono ?_; rintro e y4w ⟨rfl, hb⟩; have b4 := b3.below hb (Nat.le_refl _); have HP4 : Hid (PlS w2 y4w ta (.slice (some ⟨g, mo, none⟩) nL mc) cs L (j + 1) j) := HP3.out.below hb; have hv5 := nilAdd_any y4w x1 y1 nl x2 ml y2 (sq : Int); clear hv4 hb)
          | (go_at_call 13; refine hv5.mono ?_; rintro e y5w ⟨rfl, hb⟩; have b5 := b4.below hb (Nat.le_refl _); have HP5 : Hid (PlS w2 y5w ta (.slice (some ⟨g, mo, none⟩) nL mc) cs L (j + 1) j) := HP4.out.below hb; clear hv5 hb)
          | fail)
      have HSX : Hid (SomeP w2.heap.size y5w (.slice x1 nl x2)) := someP_of (HEL.out _ _ HP5.out).1
      have HP6 : Hid (PlS w2 y5w ta (.slice (some ⟨g, mo, none⟩) nL mc) cs L (j + 1) (j + 1)) := HP5.out.later (by omega)
      have z0 := b5.c0
      clear HP1 HP2 HP3 HP4 HP5 HPa HP bx b1 b2 b3 b4 b5 c0 c1 c2
      go_wp2_with fail
      clear z0
      go_loopg [53] nl (fun gk iv wr => ∃ i : Nat, gk + i = nl ∧ iv = .int .i64 (i : Int) ∧ Hid (PlS w2 wr ta (.slice (some ⟨g, mo, none⟩) nL mc) cs L (j + 1) (j + 1)) ∧ Hid (SomeP w2.heap.size wr (.slice x1 nl x2)))
      case atStart => exact ⟨0, by omega, rfl, HP6, HSX⟩
      case round =>
        clear HP6 HSX
        obtain ⟨i, hi, rfl, HQ, HX⟩ := hrel
        by_cases hlt3 : i < nl
        · obtain ⟨p1, p2⟩ := gk_nxt hi hlt3
          rcases HX.out with h | ⟨gx, n, c', e, hu, h1, h2, h3⟩
          · cases h
            omega
          · cases e
            unfold maxLen at h2
            have c0 := pl_cells HQ.out HMO.out.1 _ _ HC0.out
            obtain ⟨b, hcx, hfx⟩ := u8_cell hu i hlt3
            have hxb := b.toNat_lt
            have hx1 := xor_one b
            have HQ1 : Hid (PlS w2 _ ta (.slice (some ⟨g, mo, none⟩) nL mc) cs L (j + 1) (j + 1)) := HQ.out.flip (k := i) (u := .int .u8 ((b ^^^ 1).toNat : Int)) HPM.out HC0.out rfl hu h3
            have HX1 : Hid (SomeP w2.heap.size _ _) := HX.out.set gx i (b ^^^ 1)
            clear HQ HX hu hi
            go_wp2
            go_roundg (gk - 1)
            case measure => exact p1
            case rel => exact ⟨i + 1, p2, by go_num, HQ1, HX1⟩
        · obtain rfl : i = nl := by omega
          clear hi hlt3
          go_wp2_with fail
          go_roundg (G - 1)
          case measure => exact q1
          case rel => exact ⟨j + 1, q2, by go_num, HQ⟩
    · have hjN : j = nL := by omega
      subst hjN
      have HT : Hid (L.take j = L) := by show _ = _; rw [← HNL.out, List.take_length]
      have hri := rright_any wr _ L (rdS_below HLR.out HP.out.bel (Nat.le_refl _)) (by have := HL.out.1; omega)
      obtain ⟨R, hR⟩ : ∃ R, rightS L = R := ⟨_, rfl⟩
      have HR : Hid (R.length ≤ 20 ∧ rightS L = R ∧ ∀ s ∈ R, s.1.length ≤ 1000 ∧ s.2.1.length ≤ 1000) := by
        rw [← hR]
        exact ⟨Nat.le_trans (rightS_len _) HL.out.1, rfl, right_lens _⟩
      have HS0 : Hid (Below w.heap.size w wr ∧ SetO ta wr ta R ∧ RdS wr (.slice la j lc) L) := ⟨bsplit HB2.out HP.out.bel, by have h9 := HP.out.set; rw [HT.out, hR] at h9; exact h9, rdS_below HLR.out HP.out.bel (Nat.le_refl _)⟩
      rw [hR] at hri
      obtain ⟨G, hG⟩ : ∃ G, G = gk := ⟨_, rfl⟩
      clear hR HP HPM HTA HMO HLR HT hG
      go_wp2_with fail
      refine hri.mono ?_
      rintro e w5 ⟨rv, rfl, hr5, hb5⟩
      obtain ⟨ra, rc, erv⟩ := hr5.shape
      subst erv
      obtain ⟨nR, hnR⟩ : ∃ n, R.length = n := ⟨_, rfl⟩
      rw [hnR] at hr5 ⊢
      have HNR : Hid (R.length = nR) := hnR
      have HE5 : Hid (EnP w w5 ta (.slice ra nR rc) R) := ⟨bsplit HS0.out.1 hb5, HS0.out.2.1.below hb5, hr5⟩
      have HL5 : Hid (RdS w5 (.slice la j lc) L) := rdS_below HS0.out.2.2 hb5 (Nat.le_refl _)
      have hal := tall_any w5 ta R HE5.out.t.at (by have := HR.out.1; omega) HR.out.2.2
      clear hri hb5 hr5 hnR HS0
      go_wp2_with fail
      refine hal.mono ?_
      rintro e w6 ⟨av, rfl, aa, hb6⟩
      have HE6 : Hid (EnP w w6 ta (.slice ra nR rc) R) := HE5.out.below hb6
      have HL6 : Hid (RdS w6 (.slice la j lc) L) := rdS_below HL5.out hb6 (Nat.le_refl _)
      have hsm := samesp_any w6 av _ R R true aa.rd HE6.out.r (by simp)
      clear hal hb6 aa HE5 HL5
      go_wp2_with fail
      refine hsm.mono ?_
      rintro e w7 ⟨rfl, m7, e7⟩
      have hb7 : Below w6.heap.size w6 w7 := by rw [e7]; exact below_drewN (Below.refl _ _) _
      have HE7 : Hid (EnP w w7 ta (.slice ra nR rc) R) := HE6.out.below hb7
      have HL7 : Hid (RdS w7 (.slice la j lc) L) := rdS_below HL6.out hb7 (Nat.le_refl _)
      have hln := tlen_any w7 ta R HE7.out.t.at
      rw [HNR.out] at hln
      clear hsm hb7 e7 HE6 HL6
      go_wp2_with fail
      refine hln.mono ?_
      rintro e w8 ⟨rfl, e8⟩
      subst e8
      have hnw := tnew_any w8 _ L HL7.out (by have := HL.out.1; omega)
      rw [HR.out.2.1] at hnw
      clear hln
      go_wp2_with fail
      refine hnw.mono ?_
      rintro e w9 ⟨rfl, su, hb9⟩
      have HE9 : Hid (EnP w w9 ta (.slice ra nR rc) R) := HE7.out.below hb9
      have hal := tall_any w9 _ R su.at (by have := HR.out.1; omega) HR.out.2.2
      clear hnw hb9 su HE7 HL7
      go_wp2_with fail
      refine hal.mono ?_
      rintro e wa ⟨av2, rfl, aa, hba⟩
      have HEa : Hid (EnP w wa ta (.slice ra nR rc) R) := HE9.out.below hba
      have hsm := samesp_any wa av2 _ R R true aa.rd HEa.out.r (by simp)
      clear hal hba aa HE9
      go_wp2_with fail
      refine hsm.mono ?_
      rintro e wb ⟨rfl, m7, e7⟩
      have hb7 : Below wa.heap.size wa wb := by rw [e7]; exact below_drewN (Below.refl _ _) _
      have HEb : Hid (EnP w wb ta (.slice ra nR rc) R) := HEa.out.below hb7
      have hl1 := nilLen_any wb
      clear hsm hb7 e7 HEa
      go_wp2_with fail
      refine hl1.mono ?_
      rintro e wc ⟨rfl, e8⟩
      subst e8
      have hl2 := nilAll_any wc
      clear hl1
      go_wp2_with fail
      refine hl2.mono ?_
      rintro e wd ⟨rfl, e8⟩
      subst e8
      have hl3 := nilFrag_any wd
      clear hl2
      go_wp2_with fail
      refine hl3.mono ?_
      rintro e we ⟨rfl, e8⟩
      subst e8
      clear hl3
      go_wp2_with fail
      go_loopg [109] n1 (fun gk iv wr => ∃ j : Nat, gk + j = n1 ∧ iv = .int .i64 (j : Int) ∧ Hid (EnP w wr ta (.slice ra nR rc) R))
      case atStart => exact ⟨0, by omega, rfl, HEb⟩
      case round =>
        clear HEb
        obtain ⟨i, hi, rfl, HS⟩ := hrel
        by_cases hlt : i < n1
        · have hlt2 : i < keys.length := by rw [HN1.out]; exact hlt
          obtain ⟨q1, q2⟩ := gk_nxt hi hlt
          obtain ⟨_, _, e9, _, _, h3⟩ := (H1.out.below HS.out.bel (Nat.le_refl _)).places
          rw [HN1.out] at e9
          cases e9
          obtain ⟨kb, ko, rfl, ku, kcell, kar⟩ := h3 i hlt2
          obtain ⟨k1, k2, ek⟩ := Arg.shape kar
          obtain ⟨kn, hkn⟩ : ∃ n, keys[i].length = n := ⟨_, rfl⟩
          rw [hkn] at ek
          subst ek
          have HKA : Hid (Arg wr (.slice k1 kn k2) keys[i]) := kar
          clear h3 kar hkn
          by_cases h20 : i < 20
          · have h20I : ¬ (20 : Int) ≤ (i : Int) := by omega
            by_cases hsq : i < n2
            · have hsqI : (i : Int) < (n2 : Int) := by omega
              obtain ⟨b9, off9, s9, ea2, hc9⟩ := H2.out.below HS.out.bel i hsq
              subst ea2
              have hct := cut_any wr _ keys[i] 80 HKA.out (by decide)
              go_wp2_with fail
              refine hct.mono ?_
              rintro e x1 ⟨kv, rfl, ok, hb1⟩
              obtain ⟨g1, d1, e1⟩ := ok.shape
              obtain ⟨kl, hkl⟩ : ∃ n, (keys[i].take 80).length = n := ⟨_, rfl⟩
              rw [hkl] at e1
              subst e1
              have HS1 : Hid (EnP w x1 ta (.slice ra nR rc) R) := HS.out.below hb1
              have HK1 : Hid (Arg x1 (.slice k1 kn k2) keys[i]) := HKA.out.below hb1 (Nat.le_refl _)
              have hc1 := tcover_any x1 ta R _ (keys[i].take 80) s9 HS1.out.t.at ok.rd
              obtain ⟨cv, hcv⟩ : ∃ z, covN R (keys[i].take 80) s9 = z := ⟨_, rfl⟩
              have HC : Hid (covN R (keys[i].take 80) s9 = cv) := hcv
              rw [hcv] at hc1
              clear hct ok hb1 hcv
              go_wp2_with fail
              refine hc1.mono ?_
              rintro e x2 ⟨rfl, hb2⟩
              have HS2 : Hid (EnP w x2 ta (.slice ra nR rc) R) := HS1.out.below hb2
              have hct := cut_any x2 _ keys[i] 80 (HK1.out.below hb2 (Nat.le_refl _)) (by decide)
              clear hc1 hb2
              go_wp2_with fail
              refine hct.mono ?_
              rintro e x3 ⟨kv, rfl, ok, hb3⟩
              obtain ⟨g3, d3, e3⟩ := ok.shape
              rw [hkl] at e3
              subst e3
              have HS3 : Hid (EnP w x3 ta (.slice ra nR rc) R) := HS2.out.below hb3
              have hc1 := rtcover_any x3 _ R _ (keys[i].take 80) s9 HS3.out.r ok.rd
              rw [HC.out] at hc1
              clear hct ok hb3
              go_wp2_with fail
              refine hc1.mono ?_
              rintro e x4 ⟨rfl, hb4⟩
              have HS4 : Hid (EnP w x4 ta (.slice ra nR rc) R) := HS3.out.below hb4
              have hn9 := nilCover_any x4 k1 kn k2 s9
              clear hc1 hb4 HS1 HS2 HS3 HK1 HKA hkl
              go_wp2_with fail
              refine hn9.mono ?_
              rintro e x5 ⟨rfl, e5⟩
              subst e5
              clear hn9
              go_wp2_with fail
              go_roundg (gk - 1)
              case measure => exact q1
              case rel => exact ⟨i + 1, q2, by go_num, HS4⟩

            · have hsqI : ¬ (i : Int) < (n2 : Int) := by omega
              have hct := cut_any wr _ keys[i] 80 HKA.out (by decide)
              go_wp2_with fail
              refine hct.mono ?_
              rintro e x1 ⟨kv, rfl, ok, hb1⟩
              obtain ⟨g1, d1, e1⟩ := ok.shape
              obtain ⟨kl, hkl⟩ : ∃ n, (keys[i].take 80).length = n := ⟨_, rfl⟩
              rw [hkl] at e1
              subst e1
              have HS1 : Hid (EnP w x1 ta (.slice ra nR rc) R) := HS.out.below hb1
              have HK1 : Hid (Arg x1 (.slice k1 kn k2) keys[i]) := HKA.out.below hb1 (Nat.le_refl _)
              have hc1 := tcover_any x1 ta R _ (keys[i].take 80) 72057594037927935 HS1.out.t.at ok.rd
              obtain ⟨cv, hcv⟩ : ∃ z, covN R (keys[i].take 80) 72057594037927935 = z := ⟨_, rfl⟩
              have HC : Hid (covN R (keys[i].take 80) 72057594037927935 = cv) := hcv
              rw [hcv] at hc1
              clear hct ok hb1 hcv
              go_wp2_with fail
              refine hc1.mono ?_
              rintro e x2 ⟨rfl, hb2⟩
              have HS2 : Hid (EnP w x2 ta (.slice ra nR rc) R) := HS1.out.below hb2
              have hct := cut_any x2 _ keys[i] 80 (HK1.out.below hb2 (Nat.le_refl _)) (by decide)
              clear hc1 hb2
              go_wp2_with fail
              refine hct.mono ?_
              rintro e x3 ⟨kv, rfl, ok, hb3⟩
              obtain ⟨g3, d3, e3⟩ := ok.shape
              rw [hkl] at e3
              subst e3
              have HS3 : Hid (EnP w x3 ta (.slice ra nR rc) R) := HS2.out.below hb3
              have hc1 := rtcover_any x3 _ R _ (keys[i].take 80) 72057594037927935 HS3.out.r ok.rd
              rw [HC.out] at hc1
              clear hct ok hb3
              go_wp2_with fail
              refine hc1.mono ?_
              rintro e x4 ⟨rfl, hb4⟩
              have HS4 : Hid (EnP w x4 ta (.slice ra nR rc) R) := HS3.out.below hb4
              have hn9 := nilCover_any x4 k1 kn k2 72057594037927935
              clear hc1 hb4 HS1 HS2 HS3 HK1 HKA hkl
              go_wp2_with fail
              refine hn9.mono ?_
              rintro e x5 ⟨rfl, e5⟩
              subst e5
              clear hn9
              go_wp2_with fail
              go_roundg (gk - 1)
              case measure => exact q1
              case rel => exact ⟨i + 1, q2, by go_num, HS4⟩

          · have h20I : (20 : Int) ≤ (i : Int) := by omega
            go_wp2_with fail
            go_wp2
            go_ret
            exact ⟨rfl, HS.out.bel⟩
        · have hjN : i = n1 := by omega
          subst hjN
          go_wp2_with fail
          go_wp2
          go_ret
          exact ⟨rfl, HS.out.bel⟩

theorem tombPlays_walk (a0 : Option Addr) (len0 cap0 : Nat) (z0 : List SpB) (a1 : Option Addr) (len1 cap1 : Nat) (z1 : List (List UInt8)) (a2 : Option Addr) (len2 cap2 : Nat) (z2 : List Int) (w : World)
    (w0 : ArgS w (.slice a0 len0 cap0) z0 ∧ ∀ e ∈ z0, e.2.2 < 18446744073709551616) (w1 : ArgL w (.slice a1 len1 cap1) z1) (w2 : IsRow .u64 w a2 len2 cap2 z2) :
    Calls Try.prog 3 #[.slice a0 len0 cap0, .slice a1 len1 cap1, .slice a2 len2 cap2] w fun e w' => e = .returned (.bool true) ∧ Below w.heap.size w w' := by
  have hl : len2 ≤ cap2 ∧ cap2 ≤ 9223372036854775807 := by
    rcases w2 with ⟨_, rfl, rfl, _⟩ | ⟨x, _, hl, hm, _⟩
    · omega
    · unfold maxLen at hm
      exact ⟨hl, hm⟩
  exact tplays w _ _ z0 z1 a2 len2 cap2 w0.1 w1 (nums_of w2) hl.1 hl.2

end Go.Proofs.Ytifdomhmmhepcaa
