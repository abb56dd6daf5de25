/- leaf.Build. -/
import Derived.Test.YtbmpnafbmgcniaaLfForm
import Derived.Test.YtbmpnafbmgcniaaEnFew
import Derived.Test.YtbmpnafbmgcniaaLfTools
import Derived.Test.YtbmpnafbmgcniaaLfCheck
namespace Go.Proofs.Ytbmpnafbmgcniaa
set_option maxRecDepth 20000
open Go.RowKit
set_option linter.unusedVariables false

/-- two rows lie apart -/
def Apart2 (v u : Value) : Prop := ∀ g, v.ownBlock = some g → u.ownBlock ≠ some g

theorem Apart2.symm {v u : Value} (h : Apart2 v u) : Apart2 u v := fun g h1 h2 => h g h2 h1

theorem Apart2.nil (v : Value) : Apart2 v (.slice none 0 0) := fun g h => by simp [Value.ownBlock]

theorem Apart2.step {v u : Value} {g H n c : Nat} (h : Apart2 v u) (hat : v.ownBlock = some g ∨ g = H) (hu : ∀ q, u.ownBlock = some q → q < H) : Apart2 (.slice (some ⟨g, 0, none⟩) n c) u := by
  intro q hq he
  simp only [Value.ownBlock, Option.some.injEq] at hq
  subst hq
  rcases hat with e | e
  · exact h _ e he
  · have := hu _ he; omega

theorem own_grew {B g c n m : Nat} {w : World} {l u : List UInt8} (hl : l.length = n) (hu : u.length = m) (h : w.ownsRow B 5 1 (.slice (some ⟨g, 0, none⟩) (n + m) c) (n + m) (bv l ++ bv u)) : Own B w (.slice (some ⟨g, 0, none⟩) (n + m) c) (l ++ u) := by
  subst hl hu
  refine Own.of_row ?_ (by simp)
  rw [List.length_append, bv_append]
  exact h

theorem OwnN.row {B : Nat} {w : World} {v : Value} {l : List UInt8} (h : OwnN B w v l) : w.ownsRow B 5 1 v l.length (bv l) := by
  rcases h with ⟨rfl, rfl⟩ | h
  · exact World.ownsRow_nil _ _ _ _
  · exact h.row

theorem OwnN.lt {B : Nat} {w : World} {v : Value} {l : List UInt8} (h : OwnN B w v l) : ∀ q, v.ownBlock = some q → B ≤ q ∧ q < w.heap.size := fun q hq => h.row.lt q hq

theorem ownN_kept2 {B : Nat} {w w' : World} {v u : Value} {l : List UInt8} (h : OwnN B w u l) (hg : w.grownBy w' v.ownBlock) (ha : Apart2 v u) : OwnN B w' u l := by
  rcases h with h | h
  · exact .inl h
  · obtain ⟨g, c, rfl⟩ := h.shape
    refine .inr (own_kept h hg fun e => ?_)
    exact ha g e.symm rfl

/-- where the loop has come to -/
structure BldI (w wr : World) (es : List EnB) (bv0 pv av : Value) (j : Nat) : Prop where
  bo : OwnN w.heap.size wr bv0 (bodyTo es j)
  po : OwnN w.heap.size wr pv (wordsB (startsTo es j))
  ah : Rd wr av (ahd es j)
  ne : Apart2 bv0 pv
  nb : NeB av (ahd es j) bv0
  np : NeB av (ahd es j) pv
  be : Below w.heap.size w wr

theorem BldI.below {w wr w2 : World} {es : List EnB} {bv0 pv av : Value} {j : Nat} (h : BldI w wr es bv0 pv av j) (hb : Below wr.heap.size wr w2) : BldI w w2 es bv0 pv av j :=
  ⟨h.bo.below hb (Nat.le_refl _), h.po.below hb (Nat.le_refl _), h.ah.below hb (Nat.le_refl _), h.ne, h.nb, h.np, bsplit h.be hb⟩

/-- the same, places told, a form at hand -/
structure BldH (w wr : World) (es : List EnB) (bv0 pv fv : Value) (F : List UInt8) (j : Nat) : Prop where
  bo : OwnN w.heap.size wr bv0 (bodyTo es j)
  po : OwnN w.heap.size wr pv (wordsB (startsTo es (j + 1)))
  fo : Rd wr fv F
  ne : Apart2 bv0 pv
  nb : NeB fv F bv0
  np : NeB fv F pv
  be : Below w.heap.size w wr

theorem BldH.below {w wr w2 : World} {es : List EnB} {bv0 pv av : Value} {F : List UInt8} {j : Nat} (h : BldH w wr es bv0 pv av F j) (hb : Below wr.heap.size wr w2) : BldH w w2 es bv0 pv av F j :=
  ⟨h.bo.below hb (Nat.le_refl _), h.po.below hb (Nat.le_refl _), h.fo.below hb (Nat.le_refl _), h.ne, h.nb, h.np, bsplit h.be hb⟩

theorem BldH.drew {w wr : World} {es : List EnB} {bv0 pv av : Value} {F : List UInt8} {j : Nat} (h : BldH w wr es bv0 pv av F j) : BldH w wr.drew es bv0 pv av F j := ⟨h.bo, h.po, h.fo, h.ne, h.nb, h.np, h.be.drew⟩

/-- no place is told here -/
theorem BldI.stay {w wr : World} {es : List EnB} {bv0 pv av fv : Value} {F : List UInt8} {j : Nat} (h : BldI w wr es bv0 pv av j) (hj : ¬ j % 4 = 0) (hf : Rd wr fv F) (h1 : NeB fv F bv0) (h2 : NeB fv F pv) : BldH w wr es bv0 pv fv F j :=
  ⟨h.bo, by rw [startsTo, if_neg hj]; exact h.po, hf, h.ne, h1, h2, h.be⟩

/-- a place is told -/
theorem BldI.tell {w wr w2 : World} {es : List EnB} {bv0 pv av fv : Value} {F : List UInt8} {j g c n2 : Nat} (h : BldI w wr es bv0 pv av j) (hj : j % 4 = 0) (hf : Rd wr fv F) (h1 : NeB fv F bv0) (h2 : NeB fv F pv)
    (hl : (wordsB (startsTo es j)).length = n2) (hn : w2.ownsRow w.heap.size 5 1 (.slice (some ⟨g, 0, none⟩) (n2 + 2) c) (n2 + 2) (bv (wordsB (startsTo es j)) ++ bv (wordB (bodyTo es j).length))) (hg : wr.grownBy w2 pv.ownBlock) (hat : pv.ownBlock = some g ∨ g = wr.heap.size) : BldH w w2 es bv0 (.slice (some ⟨g, 0, none⟩) (n2 + 2) c) fv F j := by
  refine ⟨ownN_kept2 h.bo hg h.ne.symm, ?_, rd_grown hf hg h2, (h.ne.symm.step hat (fun q hq => (h.bo.lt q hq).2)).symm, h1, neb_step h2 hf hat, h.be.grown hg h.be.size (fun k e => (h.po.lt k e).1)⟩
  rw [startsTo, if_pos hj, wordsB_snoc]
  exact .inr (own_grew hl rfl hn)

/-- an entry's bytes are laid behind -/
theorem BldH.push {w wr w2 : World} {es : List EnB} {bv0 pv fv : Value} {F u : List UInt8} {j g c n1 m : Nat} (h : BldH w wr es bv0 pv fv F j) (hF : frm es j = F) (hu : entB es j = u) (hm : u.length = m)
    (hl : (bodyTo es j).length = n1) (hn : w2.ownsRow w.heap.size 5 1 (.slice (some ⟨g, 0, none⟩) (n1 + m) c) (n1 + m) (bv (bodyTo es j) ++ bv u)) (hg : wr.grownBy w2 bv0.ownBlock) (hat : bv0.ownBlock = some g ∨ g = wr.heap.size) : BldI w w2 es (.slice (some ⟨g, 0, none⟩) (n1 + m) c) pv fv (j + 1) := by
  subst hF hu
  refine ⟨?_, ownN_kept2 h.po hg h.ne, rd_grown h.fo hg h.nb, h.ne.step hat (fun q hq => (h.po.lt q hq).2), neb_step h.nb h.fo hat, h.np, h.be.grown hg h.be.size (fun k e => (h.bo.lt k e).1)⟩
  exact .inr (own_grew hl hm hn)

theorem ownN_len {B n c : Nat} {w : World} {a : Option Addr} {l : List UInt8} (h : OwnN B w (.slice a n c) l) : l.length = n := by
  rcases h with ⟨e, rfl⟩ | h
  · cases e; rfl
  · obtain ⟨g, k, e⟩ := h.shape; cases e; rfl

theorem lbuild_err (w : World) (v : Value) (es : List EnB) (c : Int) (hv : RdE w v es) (hc : chkLf es = c) (h0 : ¬ c = 0) :
    Calls Try.prog 13 #[v] w fun e w' => e = .returned (.tuple #[.slice none 0 0, .int .i64 c]) ∧ Below w.heap.size w w' := by
  have hck := lcheck_any w v es c hv hc
  obtain ⟨a, k, rfl⟩ := hv.shape
  have h0b : (c == 0) = false := by simpa using h0
  clear hv hc
  go_enter Try.func13, Try.ntmps13
  go_wp2_with fail
  refine hck.mono ?_
  rintro e w1 ⟨rfl, hb⟩
  clear hck
  go_wp2
  go_ret2
  exact ⟨rfl, hb⟩

set_option maxHeartbeats 8000000 in
theorem lbuild_ok (w : World) (v : Value) (es : List EnB) (hv : RdE w v es) (hc : chkLf es = 0) :
    Calls Try.prog 13 #[v] w fun e w' => ∃ x, e = .returned (.tuple #[x, .int .i64 0]) ∧ Own w.heap.size w' x (leafB es) ∧ Below w.heap.size w w' := by
  obtain ⟨i0, hi, hz0, hz1, hz2⟩ := info_parts info5
  have hck := lcheck_any w v es 0 hv hc
  obtain ⟨hlen, hall, hrise⟩ := chkLf_ok.1 hc
  have HV : Hid (RdE w v es) := hv
  obtain ⟨ao, cap, rfl, h1, h2, _⟩ := hv
  unfold maxLen at h2
  obtain ⟨N, hN⟩ : ∃ N, es.length = N := ⟨_, rfl⟩
  rw [hN] at h1 HV hlen hck ⊢
  have HN : Hid (es.length = N) := hN
  have HALL : Hid (∀ e ∈ es, chkEn e = 0) := hall
  have HRISE : Hid (riseB es = true) := hrise
  clear hN hc hall hrise
  go_enter Try.func13, Try.ntmps13
  go_wp2_with fail
  refine hck.mono ?_
  rintro e w1 ⟨rfl, hb1⟩
  have HB1 : Hid (Below w.heap.size w w1) := hb1
  clear hck hb1
  go_wp2_with fail
  go_loopg [5, 6, 7, 19] N (fun gk bv0 pv av iv wr => ∃ (j n1 c1 n2 c2 n3 c3 : Nat) (a1 a2 a3 : Option Addr), gk + j = N ∧ iv = .int .i64 (j : Int) ∧ bv0 = .slice a1 n1 c1 ∧ pv = .slice a2 n2 c2 ∧ av = .slice a3 n3 c3 ∧ Hid (BldI w wr es bv0 pv av j))
  case atStart => exact ⟨0, 0, 0, 0, 0, 0, 0, none, none, none, by omega, rfl, rfl, rfl, rfl, ⟨.inl ⟨rfl, rfl⟩, .inl ⟨rfl, rfl⟩, .inl ⟨rfl, rfl⟩, Apart2.nil _, .inl rfl, .inl rfl, HB1.out⟩⟩
  case round =>
    obtain ⟨j, n1, c1, n2, c2, n3, c3, a1, a2, a3, hj, rfl, rfl, rfl, rfl, HI⟩ := hrel
    by_cases hlt : j < N
    · have hlt2 : j < es.length := by rw [HN.out]; exact hlt
      obtain ⟨_, _, e, _, _, h3⟩ := HV.out
      rw [HN.out] at e
      cases e
      obtain ⟨b, off, rfl, xv, yv, d0', d1', d2', d3', rx, ry⟩ := h3 j hlt2
      have hbl := World.block_lt_of_cell? w _ d0'
      have d0 := (HI.out.be.cell (p := ⟨b, off + j * 4, none⟩) hbl).trans d0'
      have d1 := (HI.out.be.cell (p := ⟨b, off + j * 4 + 1, none⟩) hbl).trans d1'
      have d2 := (HI.out.be.cell (p := ⟨b, off + j * 4 + 2, none⟩) hbl).trans d2'
      have d3 := (HI.out.be.cell (p := ⟨b, off + j * 4 + 3, none⟩) hbl).trans d3'
      clear d0' d1' d2' d3' hbl
      obtain ⟨x1, x2, ex⟩ := rx.len
      obtain ⟨y1, y2, ey⟩ := ry.len
      subst ex ey
      obtain ⟨q1, q2⟩ := gk_nxt hj hlt
      have hlim := chkEn_ok (HALL.out _ (List.getElem_mem hlt2))
      have hfrm := frm_at hlt2
      have hent := entB_at hlt2
      obtain ⟨⟨ol, osq, ok, oo⟩, ho⟩ : ∃ o, es[j] = o := ⟨_, rfl⟩
      rw [ho] at d0 d1 d2 d3 rx ry hlim hfrm hent
      simp only at d0 d1 d2 d3 rx ry hlim hent
      obtain ⟨kk, hkk⟩ : ∃ kk, ok.toNat = kk := ⟨_, rfl⟩
      obtain ⟨nl, hnlq⟩ : ∃ nl, ol.length = nl := ⟨_, rfl⟩
      obtain ⟨oln, holn⟩ : ∃ oln, oo.length = oln := ⟨_, rfl⟩
      have hkb := ok.toNat_lt
      have hff : formB (ol, osq, ok, oo) = ol ++ tailB osq kk := by unfold formB; rw [← hkk]
      rw [hff] at hfrm hent
      rw [hkk] at d2 hlim hkb
      rw [hnlq] at d0 rx
      rw [holn] at d3 ry
      have hb0 := below_box4 wr (.cells #[.slice x1 nl x2, .int .u64 (osq : Int), .int .u8 (kk : Int), .slice y1 oln y2] 45)
      have BX := box4_new wr (.slice x1 nl x2) (.int .u64 (osq : Int)) (.int .u8 (kk : Int)) (.slice y1 oln y2) 45
      have HI0 : Hid (BldI w (wr.alloc (.cells #[.slice x1 nl x2, .int .u64 (osq : Int), .int .u8 (kk : Int), .slice y1 oln y2] 45)) es (.slice a1 n1 c1) (.slice a2 n2 c2) (.slice a3 n3 c3) j) := HI.out.below hb0
      have hfo := lform_any (wr.alloc (.cells #[.slice x1 nl x2, .int .u64 (osq : Int), .int .u8 (kk : Int), .slice y1 oln y2] 45)) _ ol osq kk (rx.below HI0.out.be (Nat.le_refl _)) hlim.2.2.1 hkb hlim.2.2.2.2.2 hlim.2.1
      have HRY : Hid (Rd w (.slice y1 oln y2) oo) := ry
      have HOO : Hid (oo.length ≤ 512 ∧ oo.length = oln) := ⟨hlim.2.2.2.2.1, holn⟩
      have HNE1 : Hid (some wr.heap.size ≠ (Value.slice a1 n1 c1).ownBlock) := own_ne_new HI.out.bo.row
      have HNE2 : Hid (some wr.heap.size ≠ (Value.slice a2 n2 c2).ownBlock) := own_ne_new HI.out.po.row
      obtain ⟨F, hF⟩ : ∃ F, ol ++ tailB osq kk = F := ⟨_, rfl⟩
      rw [hF] at hfo hfrm hent
      have hFl : F.length = nl + 8 := by rw [← hF, List.length_append, tailB_len, hnlq]
      obtain ⟨L, hL⟩ : ∃ L, F.length = L := ⟨_, rfl⟩
      have HFR : Hid (frm es j = F ∧ F.length = L) := ⟨hfrm, hL⟩
      have HEN : Hid (entB es j = packB (shN es j) F oo) := hent
      have hsl := shN_lt HALL.out HRISE.out hlt2
      rw [hfrm, hL] at hsl
      have hL72 : L ≤ 72 := by have := hlim.2.1; omega
      have BX' := BX
      obtain ⟨z0, z1, z2, z3⟩ := BX'
      clear ho h3 rx ry hnlq holn hkk hlim hkb hb0 HI hF hFl hfrm hent hff
      go_wp2_with fail
      refine hfo.mono ?_
      rintro e w2 ⟨xf, rfl, rf, ff, hb2⟩
      have BX2 := BX.below hb2 (Nat.le_refl _)
      have HI2 : Hid (BldI w w2 es (.slice a1 n1 c1) (.slice a2 n2 c2) (.slice a3 n3 c3) j) := HI0.out.below hb2
      obtain ⟨fa, fc, hfa, hfc1, hfc2, hfsp⟩ := Rd.spots rf
      rw [hL] at hfa hfc1
      obtain ⟨gf, of, rfl, hz9⟩ := hfsp 0 (by rw [hL]; omega)
      clear hz9
      subst hfa
      have hcm := lcommon_any w2 _ _ (ahd es j) F HI2.out.ah rf
      have hlow1 : ∀ q, (Value.slice a1 n1 c1).ownBlock = some q → q < (wr.alloc (.cells #[.slice x1 nl x2, .int .u64 (osq : Int), .int .u8 (kk : Int), .slice y1 oln y2] 45)).heap.size := fun q hq => (HI0.out.bo.lt q hq).2
      have hlow2 : ∀ q, (Value.slice a2 n2 c2).ownBlock = some q → q < (wr.alloc (.cells #[.slice x1 nl x2, .int .u64 (osq : Int), .int .u8 (kk : Int), .slice y1 oln y2] 45)).heap.size := fun q hq => (HI0.out.po.lt q hq).2
      have HNF : Hid (NeB (.slice (some ⟨gf, of, none⟩) L fc) F (.slice a1 n1 c1) ∧ NeB (.slice (some ⟨gf, of, none⟩) L fc) F (.slice a2 n2 c2)) := ⟨neb_of ff hlow1 rf, neb_of ff hlow2 rf⟩
      have HRF : Hid (Rd w2 (.slice (some ⟨gf, of, none⟩) L fc) F) := rf
      have HFC : Hid (L ≤ fc ∧ fc ≤ 9223372036854775807) := ⟨hfc1, hfc2⟩
      have HN1 : Hid ((bodyTo es j).length = n1) := ownN_len HI2.out.bo
      have HN2 : Hid ((wordsB (startsTo es j)).length = n2) := ownN_len HI2.out.po
      have hn1 : n1 ≤ 37760 := by rw [← HN1.out]; exact bodyTo_most HALL.out j (by omega)
      have hn2 : n2 ≤ 1000 := by rw [← HN2.out, wordsB_len, startsTo_len]; omega
      clear hfo hb2 z0 z1 z2 z3 BX rf ff hfsp hlow1 hlow2 hfc1 hfc2 HI0
      have BX2' := BX2
      obtain ⟨z0, z1, z2, z3⟩ := BX2'
      go_wp2_with fail
      refine hcm.mono ?_
      rintro e w3 ⟨rfl, hb3⟩
      clear z0 z1 z2 z3
      have BX3 := BX2.below hb3 (Nat.le_refl _)
      have HI3 : Hid (BldI w w3 es (.slice a1 n1 c1) (.slice a2 n2 c2) (.slice a3 n3 c3) j) := HI2.out.below hb3
      have HRF3 : Hid (Rd w3 (.slice (some ⟨gf, of, none⟩) L fc) F) := HRF.out.below hb3 (Nat.le_refl _)
      clear hcm hb3 BX2 HI2 HRF
      by_cases h4 : j % 4 = 0
      · have h4I : (j : Int).tmod 4 = 0 := by rw [Int.tmod_eq_emod_of_nonneg (by omega)]; omega
        have HSH : Hid (shN es j = 0) := by show _ = 0; unfold shN; rw [if_pos h4]
        have hwd := lword_any w3 n1 (by omega)
        have BX3' := BX3
        obtain ⟨z0, z1, z2, z3⟩ := BX3'
        go_wp2_with fail
        refine hwd.mono ?_
        rintro e w4 ⟨vw, rfl, ow, hb4⟩
        obtain ⟨gw, cw, hvw⟩ := ow.shape
        rw [show (wordB n1).length = 2 from rfl] at hvw
        subst hvw
        clear z0 z1 z2 z3
        have BX4 := BX3.below hb4 (Nat.le_refl _)
        have HI4 : Hid (BldI w w4 es (.slice a1 n1 c1) (.slice a2 n2 c2) (.slice a3 n3 c3) j) := HI3.out.below hb4
        have HRF4 : Hid (Rd w4 (.slice (some ⟨gf, of, none⟩) L fc) F) := HRF3.out.below hb4 (Nat.le_refl _)
        have hrow : w4.ownsRow w.heap.size 5 1 (.slice a2 n2 c2) n2 (bv (wordsB (startsTo es j))) := by have := HI4.out.po.row; rw [HN2.out] at this; exact this
        have hcw := (rd_cells ow.rd).2
        have hse := HI4.out.be.size
        clear hwd hb4 BX3 HI3 HRF3 ow
        go_wp2_with (first | (at_builtin; refine wpList_append_lies _ rfl (.tmp 33) (.tmp 36) 26 rfl w.heap.size 5 i0 (.int .u8 0) 1 1 Try.underlying26 hi hz0 hz1 hz2 rfl (by decide) (.slice a2 n2 c2) n2 (bv (wordsB (startsTo es j))) rfl hrow ⟨gw, 0, none⟩ 2 cw (bv (wordB n1)) rfl rfl hcw (bv_one _) (by decide) (by unfold maxLen; omega) (by omega) hse _ rfl ?_; intro g5 c5 w5 hown hgrow hat hlt5; have HI5 : Hid (BldH w w5 es (.slice a1 n1 c1) (.slice (some ⟨g5, 0, none⟩) (n2 + 2) c5) (.slice (some ⟨gf, of, none⟩) L fc) F j) := (HI4.out.tell h4 HRF4.out HNF.out.1 HNF.out.2 HN2.out (by rw [HN1.out]; exact hown) hgrow hat); have BX5 := BX4.grown hgrow HNE2.out; clear hown hgrow hat hlt5) | fail)
        clear hrow hcw hse BX4 HI4 HRF4
        have hs1 : (0 : Int) ≤ ((0 : Nat) : Int) := by omega
        have hs2 : ((0 : Nat) : Int) ≤ (L : Int) := by omega
        have hs3 : (L : Int) ≤ (fc : Int) := by have := HFC.out; omega
        have hs4 : ¬ fc = 0 := by have := HFC.out; omega
        have hs5 : ¬ (fc : Int) = ((0 : Nat) : Int) := by omega
        have hs6 : (fc : Int) ≤ 9223372036854775807 := by have := HFC.out; omega
        have HPB : Hid (entB es j = packB 0 F oo ∧ (packB 0 F oo).length ≤ 600 ∧ 0 < (packB 0 F oo).length) := by
          refine ⟨by rw [HEN.out, HSH.out], ?_, ?_⟩
          · have := packB_len (n := 0) (f := F) (v := oo) (by have := HFR.out.2; omega) (by have := HFR.out.2; omega) HOO.out.1
            have := HFR.out.2; have := HOO.out; omega
          · unfold packB; rw [List.length_append, Mth.numB_length]; have := Mth.numL_bd 0; omega
        have HI6 : Hid (BldH w w5.drew es (.slice a1 n1 c1) (.slice (some ⟨g5, 0, none⟩) (n2 + 2) c5) (.slice (some ⟨gf, of, none⟩) L fc) F j) := HI5.out.drew
        have BX6 := BX5.drew
        have hpk := lpacked_any w5.drew 0 (.slice (some ⟨gf, of, none⟩) L fc) (.slice y1 oln y2) F oo (by
          have h9 := (rd_cells HI6.out.fo).2
          have h8 : ∀ j u, (bv F)[j]? = some u → w5.drew.cell? ⟨gf, of + j, none⟩ = some u := fun j u hu => by have := h9 j u hu; rwa [Addr.add_lit] at this
          have h7 := rd_sub h8 0 L fc (by have := HFC.out; omega) (by have := HFC.out; unfold maxLen; omega) (by have := HFR.out.2; omega)
          rw [List.take_of_length_le (by rw [List.length_drop, HFR.out.2]; exact Nat.le_refl _)] at h7
          exact h7) (HRY.out.below HI6.out.be (Nat.le_refl _)) (by have := HFR.out.2; omega) (by have := HFR.out.2; omega) (by have := HOO.out; omega)
        obtain ⟨PK, hPK⟩ : ∃ PK, packB 0 F oo = PK := ⟨_, rfl⟩
        rw [hPK] at hpk HPB
        clear hPK hsl h4
        go_wp2_with fail
        go_region_held3 (fun w' => w'.cell? ⟨wr.heap.size, 3, none⟩ = some (.slice y1 oln y2))
          (first | with_reducible exact BX8.c3 | with_reducible exact BX7.c3 | exact BX6.c3)
          (first
            | (go_at_call 35; refine hpk.mono ?_; rintro e w7 ⟨vp, rfl, op, hb7⟩
               obtain ⟨gp, cp, hvp⟩ := op.shape
               subst hvp
               have BX7 := BX6.below hb7 (Nat.le_refl _))
            | (have hI7 : BldH w w7 es (.slice a1 n1 c1) (.slice (some ⟨g5, 0, none⟩) (n2 + 2) c5) (.slice (some ⟨gf, of, none⟩) L fc) F j := HI6.out.below hb7
               have hrow : w7.ownsRow w.heap.size 5 1 (.slice a1 n1 c1) n1 (bv (bodyTo es j)) := by have := hI7.bo.row; rw [HN1.out] at this; exact this
               have hpl := HPB.out.2
               refine step_append_lies _ rfl (.tmp 38) (.tmp 45) 26 rfl w.heap.size 5 i0 (.int .u8 0) 1 1 Try.underlying26 hi hz0 hz1 hz2 rfl (by decide) (.slice a1 n1 c1) n1 (bv (bodyTo es j)) rfl hrow ⟨gp, 0, none⟩ PK.length cp (bv PK) rfl (by rw [bv_length, Nat.mul_one]) (rd_cells op.rd).2 (bv_one _) hpl.2 (by unfold maxLen; omega) (by omega) hI7.be.size _ rfl ?_
               intro g8 c8 w8 hown hgrow hat hlt8
               have BX8 := BX7.grown hgrow HNE1.out
               have HI8 : Hid (BldI w w8 es (.slice (some ⟨g8, 0, none⟩) (n1 + PK.length) c8) (.slice (some ⟨g5, 0, none⟩) (n2 + 2) c5) (.slice (some ⟨gf, of, none⟩) L fc) (j + 1)) := hI7.push HFR.out.1 HPB.out.1 rfl HN1.out hown hgrow hat
               clear hI7 hrow hpl hown hgrow hat hlt8 op hb7)
            | fail)
        all_goals
          clear BX5 BX6 hs1 hs2 hs3 hs4 hs5 hs6
          go_wp2_with fail
          go_roundg (gk - 1)
          case measure => exact q1
          case rel => exact ⟨j + 1, _, _, _, _, _, _, _, _, _, q2, by go_num, rfl, rfl, rfl, HI8⟩
      · obtain ⟨r4, hr4⟩ : ∃ r4, j % 4 = r4 := ⟨_, rfl⟩
        have h4I : (j : Int).tmod 4 = (r4 : Int) := by rw [Int.tmod_eq_emod_of_nonneg (by omega)]; omega
        have h4J : ¬ (r4 : Int) = 0 := by omega
        have h4K : ((r4 : Int) == 0) = false := by simpa using h4J
        obtain ⟨sh, hsh⟩ : ∃ sh, comN (ahd es j) F = sh := ⟨_, rfl⟩
        have HSH : Hid (shN es j = sh) := by show _ = _; unfold shN; rw [if_neg h4, HFR.out.1, hsh]
        rw [HSH.out] at hsl
        rw [hsh]
        have HI5 : Hid (BldH w w3 es (.slice a1 n1 c1) (.slice a2 n2 c2) (.slice (some ⟨gf, of, none⟩) L fc) F j) := HI3.out.stay h4 HRF3.out HNF.out.1 HNF.out.2
        have BX5 := BX3
        clear BX3 HI3 HRF3 hr4 hsh
        have hs1 : (0 : Int) ≤ (sh : Int) := by omega
        have hs2 : (sh : Int) ≤ (L : Int) := by omega
        have hs3 : (L : Int) ≤ (fc : Int) := by have := HFC.out; omega
        have hs4 : ¬ fc = sh := by have := HFC.out; omega
        have hs5 : ¬ (fc : Int) = (sh : Int) := by omega
        have hs6 : (fc : Int) ≤ 9223372036854775807 := by have := HFC.out; omega
        have HPB : Hid (entB es j = packB sh F oo ∧ (packB sh F oo).length ≤ 600 ∧ 0 < (packB sh F oo).length) := by
          refine ⟨by rw [HEN.out, HSH.out], ?_, ?_⟩
          · have := packB_len (n := sh) (f := F) (v := oo) (by have := HFR.out.2; omega) (by have := HFR.out.2; omega) HOO.out.1
            have := HFR.out.2; have := HOO.out; omega
          · unfold packB; rw [List.length_append, Mth.numB_length]; have := Mth.numL_bd sh; omega
        have HI6 : Hid (BldH w w3.drew es (.slice a1 n1 c1) (.slice a2 n2 c2) (.slice (some ⟨gf, of, none⟩) L fc) F j) := HI5.out.drew
        have BX6 := BX5.drew
        have hpk := lpacked_any w3.drew sh (.slice (some ⟨gf, of + sh, none⟩) (L - sh) (fc - sh)) (.slice y1 oln y2) F oo (by
          have h9 := (rd_cells HI6.out.fo).2
          have h8 : ∀ j u, (bv F)[j]? = some u → w3.drew.cell? ⟨gf, of + j, none⟩ = some u := fun j u hu => by have := h9 j u hu; rwa [Addr.add_lit] at this
          have h7 := rd_sub h8 sh (L - sh) (fc - sh) (by have := HFC.out; omega) (by have := HFC.out; unfold maxLen; omega) (by have := HFR.out.2; omega)
          rw [List.take_of_length_le (by rw [List.length_drop, HFR.out.2]; exact Nat.le_refl _)] at h7
          exact h7) (HRY.out.below HI6.out.be (Nat.le_refl _)) (by have := HFR.out.2; omega) (by have := HFR.out.2; omega) (by have := HOO.out; omega)
        obtain ⟨PK, hPK⟩ : ∃ PK, packB sh F oo = PK := ⟨_, rfl⟩
        rw [hPK] at hpk HPB
        clear hPK hsl h4
        go_wp2_with fail
        go_region_held3 (fun w' => w'.cell? ⟨wr.heap.size, 3, none⟩ = some (.slice y1 oln y2))
          (first | with_reducible exact BX8.c3 | with_reducible exact BX7.c3 | exact BX6.c3)
          (first
            | (go_at_call 35; refine hpk.mono ?_; rintro e w7 ⟨vp, rfl, op, hb7⟩
               obtain ⟨gp, cp, hvp⟩ := op.shape
               subst hvp
               have BX7 := BX6.below hb7 (Nat.le_refl _))
            | (have hI7 : BldH w w7 es (.slice a1 n1 c1) (.slice a2 n2 c2) (.slice (some ⟨gf, of, none⟩) L fc) F j := HI6.out.below hb7
               have hrow : w7.ownsRow w.heap.size 5 1 (.slice a1 n1 c1) n1 (bv (bodyTo es j)) := by have := hI7.bo.row; rw [HN1.out] at this; exact this
               have hpl := HPB.out.2
               refine step_append_lies _ rfl (.tmp 38) (.tmp 45) 26 rfl w.heap.size 5 i0 (.int .u8 0) 1 1 Try.underlying26 hi hz0 hz1 hz2 rfl (by decide) (.slice a1 n1 c1) n1 (bv (bodyTo es j)) rfl hrow ⟨gp, 0, none⟩ PK.length cp (bv PK) rfl (by rw [bv_length, Nat.mul_one]) (rd_cells op.rd).2 (bv_one _) hpl.2 (by unfold maxLen; omega) (by omega) hI7.be.size _ rfl ?_
               intro g8 c8 w8 hown hgrow hat hlt8
               have BX8 := BX7.grown hgrow HNE1.out
               have HI8 : Hid (BldI w w8 es (.slice (some ⟨g8, 0, none⟩) (n1 + PK.length) c8) (.slice a2 n2 c2) (.slice (some ⟨gf, of, none⟩) L fc) (j + 1)) := hI7.push HFR.out.1 HPB.out.1 rfl HN1.out hown hgrow hat
               clear hI7 hrow hpl hown hgrow hat hlt8 op hb7)
            | fail)
        all_goals
          clear BX5 BX6 hs1 hs2 hs3 hs4 hs5 hs6
          go_wp2_with fail
          go_roundg (gk - 1)
          case measure => exact q1
          case rel => exact ⟨j + 1, _, _, _, _, _, _, _, _, _, q2, by go_num, rfl, rfl, rfl, HI8⟩
    · have hjN : j = es.length := by rw [HN.out]; omega
      have hltI : ¬ (j : Int) < (N : Int) := by omega
      have HN1 : Hid ((bodyTo es j).length = n1) := ownN_len HI.out.bo
      have HN2 : Hid ((wordsB (startsTo es j)).length = n2) := ownN_len HI.out.po
      have hn1 : n1 ≤ 37760 := by rw [← HN1.out]; exact bodyTo_most HALL.out j (by omega)
      obtain ⟨cnt, hcnt⟩ : ∃ cnt, (startsTo es j).length = cnt := ⟨_, rfl⟩
      have hcl := startsTo_len es j
      have hn2 : n2 = 2 * cnt := by rw [← HN2.out, wordsB_len, hcnt]
      have hc2 : cnt ≤ 16 := by omega
      have hdv : (n2 : Int).tdiv 2 = (cnt : Int) := by rw [Int.tdiv_eq_ediv_of_nonneg (by omega)]; omega
      have hdv2 : (n2 : Int) / 2 = (cnt : Int) := by omega
      have HLF : Hid (leafB es = [bodyTo es j, wordsB (startsTo es j), wordB cnt].flatten) := by
        show _ = _
        unfold leafB
        rw [← hjN, hcnt]
        simp
      have HBD : Hid (n1 ≤ 37760 ∧ n2 ≤ 32) := ⟨hn1, by omega⟩
      have hwd := lword_any wr cnt (by omega)
      have hn2I : (n2 : Int) ≤ 32 := by omega
      clear hcnt hcl hn2 hc2 hn1 hjN
      go_wp2_with fail
      refine hwd.mono ?_
      rintro e w4 ⟨vw, rfl, ow, hb4⟩
      obtain ⟨gw, cw, hvw⟩ := ow.shape
      rw [show (wordB cnt).length = 2 from rfl] at hvw
      subst hvw
      have hI4 := HI.out.below hb4
      have hrl := rdl_many w4 [.slice a1 n1 c1, .slice a2 n2 c2, .slice (some ⟨gw, 0, none⟩) 2 cw] [bodyTo es j, wordsB (startsTo es j), wordB cnt] 3 rfl rfl (by decide) (by decide) (by
        intro i h1 h2
        match i, h1, h2 with
        | 0, _, _ => exact hI4.bo.rd
        | 1, _, _ => exact hI4.po.rd
        | 2, _, _ => exact ow.rd
        | (i + 3), h1, _ => exact absurd h1 (by simp))
      have hj2 := join_any _ _ _ hrl (by
        simp only [List.flatten_cons, List.flatten_nil, List.append_nil, List.length_append, HN1.out, HN2.out, show (wordB cnt).length = 2 from rfl]
        have := HBD.out
        omega)
      obtain ⟨PK, hPK⟩ : ∃ PK, [bodyTo es j, wordsB (startsTo es j), wordB cnt].flatten = PK := ⟨_, rfl⟩
      rw [hPK] at hj2 HLF
      have hba := below_box4 w4 (.cells #[.slice a1 n1 c1, .slice a2 n2 c2, .slice (some ⟨gw, 0, none⟩) 2 cw] 26)
      have HBA : Hid (Below w.heap.size w (w4.alloc (.cells #[.slice a1 n1 c1, .slice a2 n2 c2, .slice (some ⟨gw, 0, none⟩) 2 cw] 26))) := bsplit hI4.be hba
      clear hwd hb4 hI4 hrl hba hPK ow hdv hdv2
      go_wp2_with fail
      refine hj2.mono ?_
      rintro e w5 ⟨v5, rfl, o5, hb5⟩
      obtain ⟨g5, c5, rfl⟩ := o5.shape
      have HB5 : Hid (Below w.heap.size w w5) := bsplit HBA.out hb5
      have HO : Hid (Own w.heap.size w5 (.slice (some ⟨g5, 0, none⟩) PK.length c5) PK) := o5.mono HBA.out.size
      clear hj2 hb5 o5
      go_wp2
      go_ret2
      exact ⟨_, rfl, by rw [HLF.out]; exact HO.out, HB5.out⟩

end Go.Proofs.Ytbmpnafbmgcniaa
