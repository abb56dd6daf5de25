/- bartizanref12.Sort. -/
import Derived.Test.YtbmpnafbmgcniaaSrtPure
import Derived.Test.YtbmpnafbmgcniaaStepSrc
import Derived.Test.YtbmpnafbmgcniaaEnFew
namespace Go.Proofs.Ytbmpnafbmgcniaa
set_option maxRecDepth 20000
open Go.RowKit
set_option linter.unusedVariables false

/-- the cells of entries whose texts are read in w -/
def Cells4 (w : World) (cs : List Value) (es : List EnB) : Prop :=
  cs.length = es.length * 4 ∧ ∀ j (h : j < es.length), ∃ x y, cs[j * 4]? = some x ∧ cs[j * 4 + 1]? = some (.int .u64 (es[j].2.1 : Int)) ∧ cs[j * 4 + 2]? = some (.int .u8 (es[j].2.2.1.toNat : Int)) ∧ cs[j * 4 + 3]? = some y ∧ Rd w x es[j].1 ∧ Rd w y es[j].2.2.2

theorem Cells4.nil (w : World) : Cells4 w [] [] := ⟨rfl, fun j h => absurd h (Nat.not_lt_zero _)⟩

theorem Cells4.append {w : World} {cs ds : List Value} {es fs : List EnB} (h : Cells4 w cs es) (h2 : Cells4 w ds fs) : Cells4 w (cs ++ ds) (es ++ fs) := by
  obtain ⟨hl, hj⟩ := h
  obtain ⟨hl2, hj2⟩ := h2
  refine ⟨by rw [List.length_append, List.length_append, hl, hl2]; omega, fun j hjl => ?_⟩
  by_cases hh : j < es.length
  · obtain ⟨x, y, c0, c1, c2, c3, rx, ry⟩ := hj j hh
    refine ⟨x, y, ?_, ?_, ?_, ?_, ?_, ?_⟩
    · rw [List.getElem?_append_left (by omega)]; exact c0
    · rw [List.getElem?_append_left (by omega), List.getElem_append_left hh]; exact c1
    · rw [List.getElem?_append_left (by omega), List.getElem_append_left hh]; exact c2
    · rw [List.getElem?_append_left (by omega)]; exact c3
    · rw [List.getElem_append_left hh]; exact rx
    · rw [List.getElem_append_left hh]; exact ry
  · have hk : j - es.length < fs.length := by rw [List.length_append] at hjl; omega
    obtain ⟨x, y, c0, c1, c2, c3, rx, ry⟩ := hj2 (j - es.length) hk
    refine ⟨x, y, ?_, ?_, ?_, ?_, ?_, ?_⟩
    · rw [List.getElem?_append_right (by omega), show j * 4 - cs.length = (j - es.length) * 4 by omega]; exact c0
    · rw [List.getElem?_append_right (by omega), List.getElem_append_right (by omega), show j * 4 + 1 - cs.length = (j - es.length) * 4 + 1 by omega]; exact c1
    · rw [List.getElem?_append_right (by omega), List.getElem_append_right (by omega), show j * 4 + 2 - cs.length = (j - es.length) * 4 + 2 by omega]; exact c2
    · rw [List.getElem?_append_right (by omega), show j * 4 + 3 - cs.length = (j - es.length) * 4 + 3 by omega]; exact c3
    · rw [List.getElem_append_right (by omega)]; exact rx
    · rw [List.getElem_append_right (by omega)]; exact ry

theorem Cells4.take {w : World} {cs : List Value} {es : List EnB} (h : Cells4 w cs es) (k : Nat) (hk : k ≤ es.length) : Cells4 w (cs.take (k * 4)) (es.take k) := by
  obtain ⟨hl, hj⟩ := h
  have htl : (es.take k).length = k := by rw [List.length_take]; omega
  refine ⟨by rw [List.length_take, htl]; omega, fun j hjl => ?_⟩
  rw [htl] at hjl
  obtain ⟨x, y, c0, c1, c2, c3, rx, ry⟩ := hj j (by omega)
  refine ⟨x, y, ?_, ?_, ?_, ?_, ?_, ?_⟩
  · rw [List.getElem?_take_of_lt (by omega)]; exact c0
  · rw [List.getElem?_take_of_lt (by omega), List.getElem_take]; exact c1
  · rw [List.getElem?_take_of_lt (by omega), List.getElem_take]; exact c2
  · rw [List.getElem?_take_of_lt (by omega)]; exact c3
  · rw [List.getElem_take]; exact rx
  · rw [List.getElem_take]; exact ry

theorem Cells4.drop {w : World} {cs : List Value} {es : List EnB} (h : Cells4 w cs es) (k : Nat) (hk : k ≤ es.length) : Cells4 w (cs.drop (k * 4)) (es.drop k) := by
  obtain ⟨hl, hj⟩ := h
  refine ⟨by rw [List.length_drop, List.length_drop]; omega, fun j hjl => ?_⟩
  rw [List.length_drop] at hjl
  obtain ⟨x, y, c0, c1, c2, c3, rx, ry⟩ := hj (k + j) (by omega)
  refine ⟨x, y, ?_, ?_, ?_, ?_, ?_, ?_⟩
  · rw [List.getElem?_drop, show k * 4 + j * 4 = (k + j) * 4 by omega]; exact c0
  · rw [List.getElem?_drop, List.getElem_drop, show k * 4 + (j * 4 + 1) = (k + j) * 4 + 1 by omega]; exact c1
  · rw [List.getElem?_drop, List.getElem_drop, show k * 4 + (j * 4 + 2) = (k + j) * 4 + 2 by omega]; exact c2
  · rw [List.getElem?_drop, show k * 4 + (j * 4 + 3) = (k + j) * 4 + 3 by omega]; exact c3
  · rw [List.getElem_drop]; exact rx
  · rw [List.getElem_drop]; exact ry

theorem Cells4.one {w : World} {x y : Value} (e : EnB) (hx : Rd w x e.1) (hy : Rd w y e.2.2.2) : Cells4 w [x, .int .u64 (e.2.1 : Int), .int .u8 (e.2.2.1.toNat : Int), y] [e] :=
  ⟨rfl, fun j h => by
    obtain rfl : j = 0 := by simp at h; exact h
    exact ⟨x, y, rfl, rfl, rfl, rfl, hx, hy⟩⟩

theorem rd_one4 {w : World} {v : Value} {l : List UInt8} (h : Rd w v l) : v.oneCell' = true := by
  obtain ⟨a, c, rfl⟩ := h.len; rfl

theorem Cells4.ones {w : World} {cs : List Value} {es : List EnB} (h : Cells4 w cs es) : ∀ u ∈ cs, u.oneCell' = true := by
  intro u hu
  obtain ⟨i, hi, rfl⟩ := List.getElem_of_mem hu
  have hj : i / 4 < es.length := by have := h.1; omega
  obtain ⟨x, y, c0, c1, c2, c3, rx, ry⟩ := h.2 (i / 4) hj
  have h4 : i % 4 = 0 ∨ i % 4 = 1 ∨ i % 4 = 2 ∨ i % 4 = 3 := by omega
  have hg := List.getElem?_eq_getElem hi
  rcases h4 with h | h | h | h
  · rw [show i / 4 * 4 = i by omega, hg] at c0; rw [Option.some.inj c0]; exact rd_one4 rx
  · rw [show i / 4 * 4 + 1 = i by omega, hg] at c1; rw [Option.some.inj c1]; rfl
  · rw [show i / 4 * 4 + 2 = i by omega, hg] at c2; rw [Option.some.inj c2]; rfl
  · rw [show i / 4 * 4 + 3 = i by omega, hg] at c3; rw [Option.some.inj c3]; exact rd_one4 ry

/-- entries in a row of one's own; their texts are read in w -/
def RowE (w wr : World) (v : Value) (es : List EnB) : Prop := ∃ cs, wr.ownsRow w.heap.size 45 4 v es.length cs ∧ Cells4 w cs es

theorem RowE.below {w wr w2 : World} {v : Value} {es : List EnB} (h : RowE w wr v es) (hb : Below wr.heap.size wr w2) : RowE w w2 v es := by
  obtain ⟨cs, hr, hc⟩ := h
  exact ⟨cs, row_below hr hb, hc⟩

theorem RowE.nil (w wr : World) : RowE w wr (.slice none 0 0) [] := ⟨[], World.ownsRow_nil _ _ _ _, Cells4.nil w⟩

theorem RowE.rd {w wr : World} {v : Value} {es : List EnB} (h : RowE w wr v es) (hb : Below w.heap.size w wr) : RdE wr v es := by
  obtain ⟨cs, hr, hj⟩ := h
  have hr2 := hr
  rcases hr.2 with ⟨e, hn⟩ | ⟨g, cap, cur, e, hb', hg, h1, h2, h3, h4⟩
  · exact ⟨none, 0, by rw [e, hn], by omega, Nat.zero_le _, fun j hj => by omega⟩
  · subst e
    refine ⟨_, cap, rfl, h1, h2, fun j h => ⟨g, 0, rfl, ?_⟩⟩
    obtain ⟨x, y, c0, c1, c2, c3, ox, oy⟩ := hj.2 j h
    have hc := hr2.cells (g := g) rfl
    refine ⟨x, y, ?_, ?_, ?_, ?_, ox.below hb (Nat.le_refl _), oy.below hb (Nat.le_refl _)⟩
    · have := hc _ _ c0; rwa [Addr.add_lit] at this
    · have := hc _ _ c1; rwa [Addr.add_lit] at this
    · have := hc _ _ c2; rwa [Addr.add_lit] at this
    · have := hc _ _ c3; rwa [Addr.add_lit] at this

theorem RowE.lt {w wr : World} {v : Value} {es : List EnB} (h : RowE w wr v es) : ∀ q, v.ownBlock = some q → w.heap.size ≤ q ∧ q < wr.heap.size := by
  obtain ⟨cs, hr, _⟩ := h
  exact fun q hq => hr.lt q hq

/-- v is the row's value: nil, or a block of its own -/
theorem RowE.shape {w wr : World} {v : Value} {es : List EnB} (h : RowE w wr v es) : (v = .slice none 0 0 ∧ es = []) ∨ ∃ g c, v = .slice (some ⟨g, 0, none⟩) es.length c ∧ es.length ≤ c ∧ c ≤ 9223372036854775807 := by
  obtain ⟨cs, hr, _⟩ := h
  rcases hr.2 with ⟨e, hn⟩ | ⟨g, cap, cur, e, hb', hg, h1, h2, h3, h4⟩
  · exact .inl ⟨e, List.eq_nil_of_length_eq_zero hn⟩
  · exact .inr ⟨g, cap, e, h1, by unfold maxLen at h2; omega⟩

set_option maxHeartbeats 8000000 in
theorem sort_any (w : World) (v : Value) (es : List EnB) (hv : RdE w v es) (hn : es.length ≤ 1000) :
    Calls Try.prog 11 #[v] w fun e w' => ∃ x, e = .returned x ∧ RowE w w' x (sortE es) ∧ Below w.heap.size w w' := by
  obtain ⟨i0, hi, hz0, hz1, hz2⟩ := info_parts infoEn
  have HV : Hid (RdE w v es) := hv
  obtain ⟨ao, cap, rfl, h1, h2, _⟩ := hv
  unfold maxLen at h2
  obtain ⟨N, hN⟩ : ∃ N, es.length = N := ⟨_, rfl⟩
  rw [hN] at h1 HV hn ⊢
  have HN : Hid (es.length = N) := hN
  clear hN
  go_enter Try.func11, Try.ntmps11
  go_wp2_with fail
  go_loopg [3, 12] N (fun gk pv iv wr => ∃ (j n' c' : Nat) (a' : Option Addr), gk + j = N ∧ iv = .int .i64 (j : Int) ∧ pv = .slice a' n' c' ∧ Hid (RowE w wr pv (sortTo es j)) ∧ Hid (Below w.heap.size w wr))
  case atStart => exact ⟨0, 0, 0, none, by omega, rfl, rfl, RowE.nil _ _, Below.refl _ _⟩
  case round =>
    obtain ⟨j, n', c', a', hj, rfl, rfl, HO, HB⟩ := hrel
    by_cases hlt : j < N
    · have hlt2 : j < es.length := by rw [HN.out]; exact hlt
      obtain ⟨_, _, e, _, _, h3⟩ := HV.out
      rw [HN.out] at e
      cases e
      obtain ⟨b, off, rfl, xv, yv, d0', d1', d2', d3', rx, ry⟩ := h3 j hlt2
      have hbl := World.block_lt_of_cell? w _ d0'
      have d0 := (HB.out.cell (p := ⟨b, off + j * 4, none⟩) hbl).trans d0'
      have d1 := (HB.out.cell (p := ⟨b, off + j * 4 + 1, none⟩) hbl).trans d1'
      have d2 := (HB.out.cell (p := ⟨b, off + j * 4 + 2, none⟩) hbl).trans d2'
      have d3 := (HB.out.cell (p := ⟨b, off + j * 4 + 3, none⟩) hbl).trans d3'
      clear d0' d1' d2' d3' hbl
      obtain ⟨x1, x2, ex⟩ := rx.len
      obtain ⟨y1, y2, ey⟩ := ry.len
      subst ex ey
      obtain ⟨q1, q2⟩ := gk_nxt hj hlt
      have hst := sortTo_at hlt2
      obtain ⟨E, ho⟩ : ∃ o, es[j] = o := ⟨_, rfl⟩
      rw [ho] at d0 d1 d2 d3 rx ry hst
      obtain ⟨nl, hnlq⟩ : ∃ nl, E.1.length = nl := ⟨_, rfl⟩
      obtain ⟨oln, holn⟩ : ∃ oln, E.2.2.2.length = oln := ⟨_, rfl⟩
      obtain ⟨sq, hsq⟩ : ∃ z : Int, (E.2.1 : Int) = z := ⟨_, rfl⟩
      obtain ⟨kk, hkk⟩ : ∃ z : Int, (E.2.2.1.toNat : Int) = z := ⟨_, rfl⟩
      rw [hnlq] at d0 rx
      rw [holn] at d3 ry
      rw [hsq] at d1
      rw [hkk] at d2
      have HST : Hid (sortTo es (j + 1) = insE (sortTo es j) E) := hst
      have HE : Hid ((E.1.length = nl ∧ E.2.2.2.length = oln) ∧ (E.2.1 : Int) = sq ∧ (E.2.2.1.toNat : Int) = kk) := ⟨⟨hnlq, holn⟩, hsq, hkk⟩
      have HRX : Hid (Rd w (.slice x1 nl x2) E.1 ∧ Rd w (.slice y1 oln y2) E.2.2.2) := ⟨rx, ry⟩
      obtain ⟨OUT, hOUT⟩ : ∃ O, sortTo es j = O := ⟨_, rfl⟩
      rw [hOUT] at HO HST
      have HOL : Hid (OUT.length ≤ 1000) := by show _ ≤ _; rw [← hOUT]; have := (sortTo_ok es j).1; omega
      have HNP : Hid (OUT.length = n') := by
        show _ = _
        rcases HO.out.shape with ⟨e, h⟩ | ⟨g, c, e, _⟩
        · cases e; rw [h]; rfl
        · cases e; rfl
      have hb0 := below_box4 wr (.cells #[.slice x1 nl x2, .int .u64 sq, .int .u8 kk, .slice y1 oln y2] 45)
      have BX := box4_new wr (.slice x1 nl x2) (.int .u64 sq) (.int .u8 kk) (.slice y1 oln y2) 45
      have HO0 : Hid (RowE w (wr.alloc (.cells #[.slice x1 nl x2, .int .u64 sq, .int .u8 kk, .slice y1 oln y2] 45)) (.slice a' n' c') OUT) := HO.out.below hb0
      have HB0 : Hid (Below w.heap.size w (wr.alloc (.cells #[.slice x1 nl x2, .int .u64 sq, .int .u8 kk, .slice y1 oln y2] 45))) := bsplit HB.out hb0
      have hnI : n' ≤ 1000 := by rw [← HNP.out]; exact HOL.out
      clear ho h3 rx ry hnlq holn hkk hsq hb0 hst hOUT HO HB
      have BX' := BX
      obtain ⟨z0, z1, z2, z3⟩ := BX'
      go_wp2_with fail
      obtain ⟨wb, hwb⟩ : ∃ wb, wr.alloc (.cells #[.slice x1 nl x2, .int .u64 sq, .int .u8 kk, .slice y1 oln y2] 45) = wb := ⟨_, rfl⟩
      obtain ⟨bx, hbx⟩ : ∃ bx, wr.heap.size = bx := ⟨_, rfl⟩
      rw [hwb, hbx]
      rw [hwb] at HO0 HB0
      rw [hwb, hbx] at BX
      have HBXL : Hid (bx < wb.heap.size) := BX.lt
      clear z0 z1 z2 z3 hwb hbx
      obtain ⟨G, hG⟩ : ∃ G, G = gk := ⟨_, rfl⟩
      subst hG
      clear HV
      go_loopg [6, 7, 18] n' (fun gk kv tv iv wr => ∃ (i k : Nat) (tw : Bool), gk + i = n' ∧ k ≤ i ∧ iv = .int .i64 (i : Int) ∧ kv = .int .i64 (k : Int) ∧ tv = .bool tw ∧ Hid (k = cntE (OUT.take i) E ∧ tw = anyE (OUT.take i) E) ∧ Hid (Below wb.heap.size wb wr))
      case atStart => exact ⟨0, 0, false, by omega, Nat.le_refl _, rfl, rfl, rfl, ⟨rfl, rfl⟩, Below.refl _ _⟩
      case round =>
        obtain ⟨i, k, tw, hi2, hki, rfl, rfl, rfl, HK, HBI⟩ := hrel
        by_cases hlti : i < n'
        · have l2 : i < OUT.length := by rw [HNP.out]; exact hlti
          obtain ⟨_, _, e, _, _, h4⟩ := rdE_below (HO0.out.rd HB0.out) HBI.out (Nat.le_refl _)
          rw [HNP.out] at e
          cases e
          obtain ⟨p, o, rfl, xv, yv, e0, e1, e2, e3, rx, ry⟩ := h4 i l2
          obtain ⟨u1, u2, ex⟩ := rx.len
          obtain ⟨u3, u4, ey⟩ := ry.len
          subst ex ey
          obtain ⟨q3, q4⟩ := gk_nxt hi2 hlti
          have hct := cntE_take (e := E) l2
          have hat := anyE_take (e := E) l2
          obtain ⟨X, hX⟩ : ∃ o, OUT[i] = o := ⟨_, rfl⟩
          rw [hX] at e0 e1 e2 e3 rx hct hat
          obtain ⟨m1, hm1⟩ : ∃ nl, X.1.length = nl := ⟨_, rfl⟩
          obtain ⟨m2, hm2⟩ : ∃ oln, X.2.2.2.length = oln := ⟨_, rfl⟩
          obtain ⟨sx, hsx⟩ : ∃ z : Int, (X.2.1 : Int) = z := ⟨_, rfl⟩
          obtain ⟨kx, hkx⟩ : ∃ z : Int, (X.2.2.1.toNat : Int) = z := ⟨_, rfl⟩
          rw [hm1] at e0 rx
          rw [hm2] at e3
          rw [hsx] at e1
          rw [hkx] at e2
          obtain ⟨lt, hltq⟩ : ∃ q, ltE X E = q := ⟨_, rfl⟩
          obtain ⟨sm, hsmq⟩ : ∃ q, sameE X E = q := ⟨_, rfl⟩
          have HLT : Hid (decide (Mth.cmpK X.1 sx kx E.1 sq kk < 0) = lt) := by show _ = _; rw [← hltq, ← hsx, ← hkx, ← HE.out.2.1, ← HE.out.2.2]; rfl
          have HSM : Hid (decide (X.1 = E.1 ∧ sx = sq ∧ kx = kk) = sm) := by show _ = _; rw [← hsmq, ← hsx, ← hkx, ← HE.out.2.1, ← HE.out.2.2]; rfl
          rw [hltq] at hct
          rw [hsmq] at hat
          have HCT : Hid (cntE (OUT.take (i + 1)) E = k + (if lt = true then 1 else 0) ∧ anyE (OUT.take (i + 1)) E = (tw || sm)) := by
            refine ⟨?_, ?_⟩
            · rw [hct, ← HK.out.1]
            · rw [hat, ← HK.out.2]
          have hb5 := below_box4 wr (.cells #[.slice u1 m1 u2, .int .u64 sx, .int .u8 kx, .slice u3 m2 u4] 45)
          have BY := box4_new wr (.slice u1 m1 u2) (.int .u64 sx) (.int .u8 kx) (.slice u3 m2 u4) 45
          have HB5 : Hid (Below wb.heap.size wb (wr.alloc (.cells #[.slice u1 m1 u2, .int .u64 sx, .int .u8 kx, .slice u3 m2 u4] 45))) := bsplit HBI.out hb5
          have HBW : Hid (Below w.heap.size w (wr.alloc (.cells #[.slice u1 m1 u2, .int .u64 sx, .int .u8 kx, .slice u3 m2 u4] 45))) := bsplit HB0.out HB5.out
          have hls := keyless_any (wr.alloc (.cells #[.slice u1 m1 u2, .int .u64 sx, .int .u8 kx, .slice u3 m2 u4] 45)) _ _ X.1 E.1 sx kx sq kk lt (rx.below hb5 (Nat.le_refl _)) (HRX.out.1.below HBW.out (Nat.le_refl _)) HLT.out
          have HRX2 : Hid (Rd (wr.alloc (.cells #[.slice u1 m1 u2, .int .u64 sx, .int .u8 kx, .slice u3 m2 u4] 45)) (.slice u1 m1 u2) X.1) := rx.below hb5 (Nat.le_refl _)
          have BXR := BX.below HBI.out (Nat.le_refl _)
          have BX5 := BX.below HB5.out (Nat.le_refl _)
          have BX5' := BX5
          have BY' := BY
          obtain ⟨z0, z1, z2, z3⟩ := BX5'
          obtain ⟨y0, y1', y2', y3⟩ := BY'
          have hkI : (k : Int) ≤ 1000 := by omega
          clear h4 rx ry hX hm1 hm2 hsx hkx hltq hsmq hct hat hb5
          go_wp2_with fail
          refine hls.mono ?_
          rintro e w6 ⟨rfl, hb6⟩
          clear z0 z1 z2 z3 y0 y1' y2' y3
          have HB6 : Hid (Below wb.heap.size wb w6) := bsplit HB5.out hb6
          have HBW6 : Hid (Below w.heap.size w w6) := bsplit HBW.out hb6
          have BX6 := BX5.below hb6 (Nat.le_refl _)
          have BY6 := BY.below hb6 (Nat.le_refl _)
          have hss := keysame_any w6 _ _ X.1 E.1 sx kx sq kk sm (HRX2.out.below hb6 (Nat.le_refl _)) (HRX.out.1.below HBW6.out (Nat.le_refl _)) HSM.out
          clear hls hb6 BX5 BY BXR
          obtain ⟨z0, z1, z2, z3⟩ := BX6
          obtain ⟨y0, y1', y2', y3⟩ := BY6
          cases lt with
          | true =>
            cases tw with
            | true =>
              go_wp2_with fail
              go_roundg (gk - 1)
              case measure => exact q3
              case rel => exact ⟨i + 1, k + 1, true, q4, by omega, by go_num, by go_num, rfl, ⟨by rw [HCT.out.1]; rfl, by rw [HCT.out.2]; rfl⟩, HB6⟩
            | false =>
              go_wp2_with fail
              refine hss.mono ?_
              rintro e w7 ⟨rfl, hb7⟩
              have HB7 : Hid (Below wb.heap.size wb w7) := bsplit HB6.out hb7
              clear hss hb7
              go_wp2_with fail
              go_roundg (gk - 1)
              case measure => exact q3
              case rel => exact ⟨i + 1, k + 1, sm, q4, by omega, by go_num, by go_num, rfl, ⟨by rw [HCT.out.1]; rfl, by rw [HCT.out.2]; rfl⟩, HB7⟩
          | false =>
            cases tw with
            | true =>
              go_wp2_with fail
              go_roundg (gk - 1)
              case measure => exact q3
              case rel => exact ⟨i + 1, k, true, q4, by omega, by go_num, rfl, rfl, ⟨by rw [HCT.out.1]; rfl, by rw [HCT.out.2]; rfl⟩, HB6⟩
            | false =>
              go_wp2_with fail
              refine hss.mono ?_
              rintro e w7 ⟨rfl, hb7⟩
              have HB7 : Hid (Below wb.heap.size wb w7) := bsplit HB6.out hb7
              clear hss hb7
              go_wp2_with fail
              go_roundg (gk - 1)
              case measure => exact q3
              case rel => exact ⟨i + 1, k, sm, q4, by omega, by go_num, rfl, rfl, ⟨by rw [HCT.out.1]; rfl, by rw [HCT.out.2]; rfl⟩, HB7⟩
        · have hiN : i = n' := by omega
          subst hiN
          have HK2 : Hid (k = cntE OUT E ∧ tw = anyE OUT E) := by
            have := HK.out
            rw [← HNP.out, List.take_length] at this
            exact this
          have hltI : ¬ (i : Int) < (i : Int) := by omega
          have BX7 := BX.below HBI.out (Nat.le_refl _)
          have HOR : Hid (RowE w wr (.slice a' i c') OUT) := HO0.out.below HBI.out
          have HBR : Hid (Below w.heap.size w wr) := bsplit HB0.out HBI.out
          clear HK hi2
          cases tw with
          | true =>
            have HS9 : Hid (sortTo es (j + 1) = OUT) := by show _ = _; rw [HST.out]; unfold insE; rw [if_neg]; rw [← HK2.out.2]; simp
            go_wp2_with fail
            go_roundg (G - 1)
            case measure => exact q1
            case rel => exact ⟨j + 1, _, _, _, q2, by go_num, rfl, by show RowE _ _ _ _; rw [HS9.out]; exact HOR.out, HBR⟩
          | false =>
            have h0s : 0 ≤ sq := by rw [← HE.out.2.1]; omega
            have h0k : 0 ≤ kk := by rw [← HE.out.2.2]; omega
            obtain ⟨ck, hckq⟩ : ∃ c, chk nl sq kk = c := ⟨_, rfl⟩
            have HCE : Hid (chkEn E = if ck = 0 then (if 512 < oln then 3 else 0) else ck) := by show _ = _; unfold chkEn; rw [HE.out.1.1, HE.out.1.2, HE.out.2.1, HE.out.2.2, hckq]
            have hck := refcheck_any wr x1 nl x2 sq kk h0s h0k
            rw [hckq] at hck
            have BX7' := BX7
            obtain ⟨z0, z1, z2, z3⟩ := BX7'
            clear hckq
            go_wp2_with fail
            refine hck.mono ?_
            rintro e w8 ⟨rfl, hb8⟩
            clear z0 z1 z2 z3
            have BX8 := BX7.below hb8 (Nat.le_refl _)
            have HO8 : Hid (RowE w w8 (.slice a' i c') OUT) := HOR.out.below hb8
            have HB8 : Hid (Below w.heap.size w w8) := bsplit HBR.out hb8
            clear hck hb8 BX7 HOR HBR HBI HO0 HB0 BX HBXL
            have BX8' := BX8
            obtain ⟨z0, z1, z2, z3⟩ := BX8'
            by_cases hc0 : ck = 0
            · subst hc0
              by_cases h512 : 512 < oln
              · have h5I : ¬ (oln : Int) ≤ 512 := by omega
                have h5b : decide ((oln : Int) ≤ 512) = false := decide_eq_false h5I
                have HS9 : Hid (sortTo es (j + 1) = OUT) := by show _ = _; rw [HST.out]; unfold insE; rw [if_neg]; rintro ⟨_, h9⟩; rw [HCE.out, if_pos rfl, if_pos h512] at h9; cases h9
                go_wp2_with fail
                go_roundg (G - 1)
                case measure => exact q1
                case rel => exact ⟨j + 1, _, _, _, q2, by go_num, rfl, by show RowE _ _ _ _; rw [HS9.out]; exact HO8.out, HB8⟩
              · have h5I : (oln : Int) ≤ 512 := by omega
                have HINS : Hid (sortTo es (j + 1) = (OUT.take k ++ [E]) ++ OUT.drop k) := by
                  show _ = _
                  rw [HST.out]; unfold insE
                  rw [if_pos ⟨HK2.out.2.symm, by rw [HCE.out, if_pos rfl, if_neg h512]⟩, ← HK2.out.1]
                  simp
                obtain ⟨cs, hr8, hC4⟩ := HO8.out
                rw [HNP.out] at hr8
                have HC4 : Hid (Cells4 w cs OUT) := hC4
                have HCL : Hid (cs.length = i * 4) := by show _ = _; rw [hC4.1, HNP.out]
                have HLIT : Hid (Cells4 w [.slice x1 nl x2, .int .u64 sq, .int .u8 kk, .slice y1 oln y2] [E]) := by
                  have := Cells4.one E HRX.out.1 HRX.out.2
                  rw [HE.out.2.1, HE.out.2.2] at this
                  exact this
                obtain ⟨sz, hsz⟩ : ∃ sz, w8.heap.size = sz := ⟨_, rfl⟩
                have HSZ : Hid (w8.heap.size = sz) := hsz
                have hwsz : w.heap.size ≤ sz := by rw [← hsz]; exact HB8.out.size
                have hRA0 : (w8.alloc (.cells #[] 45)).drew.ownsRow sz 45 4 (.slice (some ⟨sz, 0, none⟩) 0 0) 0 [] := by
                  have := World.ownsRow_lit w8 #[] 0 (base := sz) (size := 4) (e := 45) (by rw [← hsz]; exact Nat.le_refl _) (Nat.zero_le _) rfl
                  rw [hsz] at this
                  exact this
                have hRA01 : ((w8.alloc (.cells #[] 45)).alloc (.cells #[.slice x1 nl x2, .int .u64 sq, .int .u8 kk, .slice y1 oln y2] 45)).drew.ownsRow sz 45 4 (.slice (some ⟨sz, 0, none⟩) 0 0) 0 [] := hRA0.alloc _
                have hRA10 : ((w8.alloc (.cells #[.slice x1 nl x2, .int .u64 sq, .int .u8 kk, .slice y1 oln y2] 45)).alloc (.cells #[] 45)).drew.ownsRow sz 45 4 (.slice (some ⟨sz + 1, 0, none⟩) 0 0) 0 [] := by
                  have := World.ownsRow_lit (w8.alloc (.cells #[.slice x1 nl x2, .int .u64 sq, .int .u8 kk, .slice y1 oln y2] 45)) #[] 0 (base := sz) (size := 4) (e := 45) (by rw [show (w8.alloc (.cells #[.slice x1 nl x2, .int .u64 sq, .int .u8 kk, .slice y1 oln y2] 45)).heap.size = w8.heap.size + 1 by simp, hsz]; exact Nat.le_succ _) (Nat.zero_le _) rfl
                  rw [show (w8.alloc (.cells #[.slice x1 nl x2, .int .u64 sq, .int .u8 kk, .slice y1 oln y2] 45)).heap.size = w8.heap.size + 1 by simp, hsz] at this
                  exact this
                have pA0 : Below sz w8 (w8.alloc (.cells #[] 45)).drew := by rw [← hsz]; exact ((Below.refl _ _).alloc (Nat.le_refl _) _).drew
                have pA1 : Below sz w8 (w8.alloc (.cells #[.slice x1 nl x2, .int .u64 sq, .int .u8 kk, .slice y1 oln y2] 45)).drew := by rw [← hsz]; exact ((Below.refl _ _).alloc (Nat.le_refl _) _).drew
                have pA01 : Below sz w8 ((w8.alloc (.cells #[] 45)).alloc (.cells #[.slice x1 nl x2, .int .u64 sq, .int .u8 kk, .slice y1 oln y2] 45)).drew := by rw [← hsz]; exact (((Below.refl _ _).alloc (Nat.le_refl _) _).alloc (by simp) _).drew
                have pA10 : Below sz w8 ((w8.alloc (.cells #[.slice x1 nl x2, .int .u64 sq, .int .u8 kk, .slice y1 oln y2] 45)).alloc (.cells #[] 45)).drew := by rw [← hsz]; exact (((Below.refl _ _).alloc (Nat.le_refl _) _).alloc (by simp) _).drew
                have lA01 := laid4 (w8.alloc (.cells #[] 45)) (.slice x1 nl x2) (.int .u64 sq) (.int .u8 kk) (.slice y1 oln y2) 45
                rw [show (w8.alloc (.cells #[] 45)).heap.size = w8.heap.size + 1 by simp, hsz] at lA01
                have lA10 : ∀ j u, [.slice x1 nl x2, .int .u64 sq, .int .u8 kk, .slice y1 oln y2][j]? = some u → ((w8.alloc (.cells #[.slice x1 nl x2, .int .u64 sq, .int .u8 kk, .slice y1 oln y2] 45)).alloc (.cells #[] 45)).drew.cell? ((⟨sz, 0, none⟩ : Addr).add j) = some u := fun j u hu => by
                  have h9 := laid4 w8 (.slice x1 nl x2) (.int .u64 sq) (.int .u8 kk) (.slice y1 oln y2) 45 j u hu
                  rw [hsz] at h9
                  exact ((below_box4 (w8.alloc (.cells #[.slice x1 nl x2, .int .u64 sq, .int .u8 kk, .slice y1 oln y2] 45)) (.cells #[] 45)).cell (World.block_lt_of_cell? _ _ h9)).trans h9
                have bA0 := BX8.below pA0 (by rw [hsz]; exact Nat.le_refl _)
                have bA1 := BX8.below pA1 (by rw [hsz]; exact Nat.le_refl _)
                have bA01 := BX8.below pA01 (by rw [hsz]; exact Nat.le_refl _)
                have bA10 := BX8.below pA10 (by rw [hsz]; exact Nat.le_refl _)
                have sA0 : (w8.alloc (.cells #[] 45)).drew.heap.size = sz + 1 := by rw [← hsz]; simp
                have sA01 : ((w8.alloc (.cells #[] 45)).alloc (.cells #[.slice x1 nl x2, .int .u64 sq, .int .u8 kk, .slice y1 oln y2] 45)).drew.heap.size = sz + 2 := by rw [← hsz]; simp
                have sA10 : ((w8.alloc (.cells #[.slice x1 nl x2, .int .u64 sq, .int .u8 kk, .slice y1 oln y2] 45)).alloc (.cells #[] 45)).drew.heap.size = sz + 2 := by rw [← hsz]; simp
                have pG : ∀ o, Below sz w8 (((w8.alloc (.cells #[] 45)).alloc (.cells #[.slice x1 nl x2, .int .u64 sq, .int .u8 kk, .slice y1 oln y2] 45)).alloc o).drew.drew := fun o => by rw [← hsz]; exact ((((Below.refl _ _).alloc (Nat.le_refl _) _).alloc (by simp) _).alloc (by simp; omega) _).drew.drew
                have bG := fun o => BX8.below (pG o) (by rw [hsz]; exact Nat.le_refl _)
                have pH : ∀ o, Below sz w8 (((w8.alloc (.cells #[.slice x1 nl x2, .int .u64 sq, .int .u8 kk, .slice y1 oln y2] 45)).alloc (.cells #[] 45)).alloc o).drew.drew := fun o => by rw [← hsz]; exact ((((Below.refl _ _).alloc (Nat.le_refl _) _).alloc (by simp) _).alloc (by simp; omega) _).drew.drew
                have bH := fun o => BX8.below (pH o) (by rw [hsz]; exact Nat.le_refl _)
                have BX9 := BX8.drew
                have hON4 : ∀ u ∈ [Value.slice x1 nl x2, .int .u64 sq, .int .u8 kk, .slice y1 oln y2], u.oneCell' = true := HLIT.out.ones
                have hkl : k ≤ i := by rw [HK2.out.1, ← HNP.out]; exact cntE_le _ _
                have hT4 : Cells4 w (cs.take (k * 4)) (OUT.take k) := HC4.out.take k (by rw [HNP.out]; exact hkl)
                have hD4 : Cells4 w (cs.drop (k * 4)) (OUT.drop k) := HC4.out.drop k (by rw [HNP.out]; exact hkl)
                have hT1 : (cs.take (k * 4)).length = k * 4 := by rw [List.length_take, HCL.out]; omega
                have hD1 : (cs.drop (k * 4)).length = (i - k) * 4 := by rw [List.length_drop, HCL.out]; omega
                have hone1 := hT4.ones
                have hone2 := hD4.ones
                have HFIN : Hid (∀ (w3 : World) (g3 c3 : Nat), w3.ownsRow sz 45 4 (.slice (some ⟨g3, 0, none⟩) (i + 1) c3) (i + 1) ((([] ++ cs.take (k * 4)) ++ [.slice x1 nl x2, .int .u64 sq, .int .u8 kk, .slice y1 oln y2]) ++ cs.drop (k * 4)) → Below sz w8 w3 → RowE w w3 (.slice (some ⟨g3, 0, none⟩) (i + 1) c3) (sortTo es (j + 1)) ∧ Below w.heap.size w w3) := by
                  intro w3 g3 c3 hr hb
                  refine ⟨⟨(([] ++ cs.take (k * 4)) ++ [.slice x1 nl x2, .int .u64 sq, .int .u8 kk, .slice y1 oln y2]) ++ cs.drop (k * 4), ?_, ?_⟩, HB8.out.trans (hb.mono hwsz)⟩
                  · rw [HINS.out, show ((OUT.take k ++ [E]) ++ OUT.drop k).length = i + 1 by simp [HNP.out]; omega]
                    exact row_mono hr hwsz
                  · rw [HINS.out, List.nil_append]
                    exact (hT4.append HLIT.out).append hD4
                rcases HO8.out.shape with ⟨hov, hon⟩ | ⟨go, oc, hov, hoc1, hoc2⟩
                · cases hov
                  have hk0 : k = 0 := by omega
                  subst hk0
                  have hcs : cs = [] := List.eq_nil_of_length_eq_zero (by rw [HCL.out])
                  have hsrc1 : ∀ W : World, Below sz w8 W → SrcOf W 4 (Value.slice none 0 0) (0) (cs.take (0 * 4)) := fun W _ => .inl ⟨rfl, rfl, by simp⟩
                  have hsrc2 : ∀ W : World, Below sz w8 W → SrcOf W 4 (Value.slice none 0 0) (0 - 0) (cs.drop (0 * 4)) := fun W _ => .inl ⟨rfl, rfl, by rw [hcs]; rfl⟩
                  go_wp2_with fail
                  go_region_held3 (fun w' => w'.cell? ⟨bx, 0, none⟩ = some (.slice x1 nl x2) ∧ w'.cell? ⟨bx, 1, none⟩ = some (.int .u64 sq) ∧ w'.cell? ⟨bx, 2, none⟩ = some (.int .u8 kk) ∧ w'.cell? ⟨bx, 3, none⟩ = some (.slice y1 oln y2))
                    (first | with_reducible exact ⟨b3.c0, b3.c1, b3.c2, b3.c3⟩ | with_reducible exact ⟨b2.c0, b2.c1, b2.c2, b2.c3⟩ | with_reducible exact ⟨b1a.c0, b1a.c1, b1a.c2, b1a.c3⟩ | with_reducible exact ⟨b1.c0, b1.c1, b1.c2, b1.c3⟩ | with_reducible exact ⟨bA01.c0, bA01.c1, bA01.c2, bA01.c3⟩ | with_reducible exact ⟨bA10.c0, bA10.c1, bA10.c2, bA10.c3⟩ | with_reducible exact ⟨bA0.c0, bA0.c1, bA0.c2, bA0.c3⟩ | with_reducible exact ⟨bA1.c0, bA1.c1, bA1.c2, bA1.c3⟩ | with_reducible exact ⟨(bG _).c0, (bG _).c1, (bG _).c2, (bG _).c3⟩ | with_reducible exact ⟨(bH _).c0, (bH _).c1, (bH _).c2, (bH _).c3⟩ | exact ⟨BX9.c0, BX9.c1, BX9.c2, BX9.c3⟩)
                    (first
                      | (refine step_append_src rfl (.tmp 52) (.tmp 55) 22 rfl sz 45 i0 (.agg #[.slice none 0 0, .int .u64 0, .int .u8 0, .slice none 0 0]) 4 64 Try.underlying22 hi hz0 hz1 hz2 rfl (by decide) sz 0 0 [] rfl (by with_reducible exact hRA0) _ rfl 0 (cs.take (0 * 4)) (hsrc1 _ pA0) hone1 (by unfold maxLen; omega) (by omega) (by rw [sA0]; omega) (sz + 1) sA0 0 (Nat.zero_add _) ?_
                         intro g1 c1 w1 hw1 hg1 ha1
                         have p1 : Below sz w8 w1 := pA0.grown hg1 (by rw [sA0]; omega) (fun q e => by cases e; exact Nat.le_refl _)
                         have b1 := BX8.below p1 (by rw [HSZ.out]; exact Nat.le_refl _)
                         have b1a := b1.alloc (.cells #[.slice x1 nl x2, .int .u64 sq, .int .u8 kk, .slice y1 oln y2] 45)
                         have e1 : sz ≤ w1.heap.size := by have := p1.size; rw [HSZ.out] at this; exact this
                         have hw1a := hw1.alloc (.cells #[.slice x1 nl x2, .int .u64 sq, .int .u8 kk, .slice y1 oln y2] 45)
                         have p1a : Below sz w8 (w1.alloc (.cells #[.slice x1 nl x2, .int .u64 sq, .int .u8 kk, .slice y1 oln y2] 45)) := p1.alloc e1 _
                         have l1a := laid4 w1 (.slice x1 nl x2) (.int .u64 sq) (.int .u8 kk) (.slice y1 oln y2) 45
                         have e1a : sz ≤ (w1.alloc (.cells #[.slice x1 nl x2, .int .u64 sq, .int .u8 kk, .slice y1 oln y2] 45)).heap.size := by simp; omega)
                      | (refine step_append_src rfl (.tmp 52) (.tmp 55) 22 rfl sz 45 i0 (.agg #[.slice none 0 0, .int .u64 0, .int .u8 0, .slice none 0 0]) 4 64 Try.underlying22 hi hz0 hz1 hz2 rfl (by decide) sz 0 0 [] rfl (by with_reducible exact hRA01) _ rfl 0 (cs.take (0 * 4)) (hsrc1 _ pA01) hone1 (by unfold maxLen; omega) (by omega) (by rw [sA01]; omega) (sz + 2) sA01 0 (Nat.zero_add _) ?_
                         intro g1 c1 w1 hw1 hg1 ha1
                         have p1 : Below sz w8 w1 := pA01.grown hg1 (by rw [sA01]; omega) (fun q e => by cases e; exact Nat.le_refl _)
                         have b1 := BX8.below p1 (by rw [HSZ.out]; exact Nat.le_refl _)
                         have e1 : sz ≤ w1.heap.size := by have := p1.size; rw [HSZ.out] at this; exact this
                         have l1 : ∀ j u, [.slice x1 nl x2, .int .u64 sq, .int .u8 kk, .slice y1 oln y2][j]? = some u → w1.cell? ((⟨sz + 1, 0, none⟩ : Addr).add j) = some u := fun j u hu => by
                           have h9 := lA01 j u hu
                           rw [Addr.add_lit] at h9 ⊢
                           rw [← h9]
                           exact World.cell?_of_block (hg1.block _ (World.block_lt_of_cell? _ _ h9) (by simp)))
                      | (refine step_append_src rfl (.tmp 52) (.tmp 55) 22 rfl sz 45 i0 (.agg #[.slice none 0 0, .int .u64 0, .int .u8 0, .slice none 0 0]) 4 64 Try.underlying22 hi hz0 hz1 hz2 rfl (by decide) (sz + 1) 0 0 [] rfl (by with_reducible exact hRA10) _ rfl 0 (cs.take (0 * 4)) (hsrc1 _ pA10) hone1 (by unfold maxLen; omega) (by omega) (by rw [sA10]; omega) (sz + 2) sA10 0 (Nat.zero_add _) ?_
                         intro g1 c1 w1 hw1 hg1 ha1
                         have p1 : Below sz w8 w1 := pA10.grown hg1 (by rw [sA10]; omega) (fun q e => by cases e; exact Nat.le_succ _)
                         have b1 := BX8.below p1 (by rw [HSZ.out]; exact Nat.le_refl _)
                         have e1 : sz ≤ w1.heap.size := by have := p1.size; rw [HSZ.out] at this; exact this
                         have l1 : ∀ j u, [.slice x1 nl x2, .int .u64 sq, .int .u8 kk, .slice y1 oln y2][j]? = some u → w1.cell? ((⟨sz, 0, none⟩ : Addr).add j) = some u := fun j u hu => by
                           have h9 := lA10 j u hu
                           rw [Addr.add_lit] at h9 ⊢
                           rw [← h9]
                           exact World.cell?_of_block (hg1.block _ (World.block_lt_of_cell? _ _ h9) (by simp)))
                      | (refine step_append_src rfl (.tmp 56) (.tmp 58) 22 rfl sz 45 i0 (.agg #[.slice none 0 0, .int .u64 0, .int .u8 0, .slice none 0 0]) 4 64 Try.underlying22 hi hz0 hz1 hz2 rfl (by decide) g1 0 c1 _ rfl (by with_reducible exact hw1) _ rfl 1 [.slice x1 nl x2, .int .u64 sq, .int .u8 kk, .slice y1 oln y2] (.inr ⟨_, _, rfl, rfl, l1⟩) hON4 (by unfold maxLen; omega) (by omega) e1 _ rfl (0 + 1) rfl ?_
                         intro g2 c2 w2 hw2 hg2 ha2
                         have p2 : Below sz w8 w2 := p1.grown hg2 e1 (fun q e => by cases e; exact (hw1.lt _ rfl).1)
                         have b2 := BX8.below p2 (by rw [HSZ.out]; exact Nat.le_refl _)
                         have e2 : sz ≤ w2.heap.size := by have := p2.size; rw [HSZ.out] at this; exact this)
                      | (refine step_append_src rfl (.tmp 56) (.tmp 58) 22 rfl sz 45 i0 (.agg #[.slice none 0 0, .int .u64 0, .int .u8 0, .slice none 0 0]) 4 64 Try.underlying22 hi hz0 hz1 hz2 rfl (by decide) g1 0 c1 _ rfl (by with_reducible exact hw1a) _ rfl 1 [.slice x1 nl x2, .int .u64 sq, .int .u8 kk, .slice y1 oln y2] (.inr ⟨_, _, rfl, rfl, l1a⟩) hON4 (by unfold maxLen; omega) (by omega) e1a _ rfl (0 + 1) rfl ?_
                         intro g2 c2 w2 hw2 hg2 ha2
                         have p2 : Below sz w8 w2 := p1a.grown hg2 e1a (fun q e => by cases e; exact (hw1.lt _ rfl).1)
                         have b2 := BX8.below p2 (by rw [HSZ.out]; exact Nat.le_refl _)
                         have e2 : sz ≤ w2.heap.size := by have := p2.size; rw [HSZ.out] at this; exact this)
                      | (refine step_append_src rfl (.tmp 59) (.tmp 62) 22 rfl sz 45 i0 (.agg #[.slice none 0 0, .int .u64 0, .int .u8 0, .slice none 0 0]) 4 64 Try.underlying22 hi hz0 hz1 hz2 rfl (by decide) g2 (0 + 1) c2 _ rfl (by with_reducible exact hw2) _ rfl (0 - 0) (cs.drop (0 * 4)) (hsrc2 _ p2) hone2 (by unfold maxLen; omega) (by omega) e2 _ rfl (0 + 1) (by omega) ?_
                         intro g3 c3 w3 hw3 hg3 ha3
                         have p3 : Below sz w8 w3 := p2.grown hg3 e2 (fun q e => by cases e; exact (hw2.lt _ rfl).1)
                         have b3 := BX8.below p3 (by rw [HSZ.out]; exact Nat.le_refl _)
                         have HF3 : Hid _ := HFIN.out w3 g3 c3 hw3 p3)
                      | fail)
                  all_goals
                    clear hRA0 hRA01 hRA10 pA0 pA1 pA01 pA10 lA01 lA10 bA0 bA1 bA01 bA10 sA0 sA01 sA10 pG bG pH bH BX9 z0 z1 z2 z3
                    go_wp2_with fail
                    go_roundg (G - 1)
                    case measure => exact q1
                    case rel => exact ⟨j + 1, _, _, _, q2, by go_num, rfl, HF3.out.1, HF3.out.2⟩
                · rw [HNP.out] at hov hoc1
                  cases hov
                  have hgo : go < sz := by rw [← HSZ.out]; exact (HO8.out.lt go rfl).2
                  have hcell8 := hr8.cells (g := go) rfl
                  have hsrc1 : ∀ W : World, Below sz w8 W → SrcOf W 4 (Value.slice (some ⟨go, 0, none⟩) k c') (k) (cs.take (k * 4)) := fun W hb => .inr ⟨_, _, rfl, hT1, fun j u hu => by
                    have h9 : cs[j]? = some u := by
                      rw [List.getElem?_take] at hu
                      split at hu
                      · exact hu
                      · cases hu
                    have h8 := hcell8 j u h9
                    rw [← h8, Addr.add_lit]
                    exact hb.cell hgo⟩
                  have hkI0 : (0 : Int) ≤ (k : Int) := by omega
                  have hkI1 : (k : Int) ≤ (i : Int) := by omega
                  have hkI2 : (i : Int) ≤ (c' : Int) := by omega
                  have hkI3 : (k : Int) ≤ (c' : Int) := by omega
                  by_cases hck9 : c' = k
                  · subst hck9
                    have hki9 : i = c' := by omega
                    subst hki9
                    have hD0 : (cs.drop (i * 4)).length = 0 := by rw [hD1]; omega
                    have hsrc2 : ∀ W : World, Below sz w8 W → SrcOf W 4 (Value.slice (some ⟨go, 0, none⟩) 0 0) (0) (cs.drop (i * 4)) := fun W hb => .inr ⟨_, _, rfl, by rw [hD0], fun j u hu => by
                      rw [List.eq_nil_of_length_eq_zero hD0] at hu
                      simp at hu⟩
                    go_wp2_with fail
                    go_region_held3 (fun w' => w'.cell? ⟨bx, 0, none⟩ = some (.slice x1 nl x2) ∧ w'.cell? ⟨bx, 1, none⟩ = some (.int .u64 sq) ∧ w'.cell? ⟨bx, 2, none⟩ = some (.int .u8 kk) ∧ w'.cell? ⟨bx, 3, none⟩ = some (.slice y1 oln y2))
                      (first | with_reducible exact ⟨b3.c0, b3.c1, b3.c2, b3.c3⟩ | with_reducible exact ⟨b2.c0, b2.c1, b2.c2, b2.c3⟩ | with_reducible exact ⟨b1a.c0, b1a.c1, b1a.c2, b1a.c3⟩ | with_reducible exact ⟨b1.c0, b1.c1, b1.c2, b1.c3⟩ | with_reducible exact ⟨bA01.c0, bA01.c1, bA01.c2, bA01.c3⟩ | with_reducible exact ⟨bA10.c0, bA10.c1, bA10.c2, bA10.c3⟩ | with_reducible exact ⟨bA0.c0, bA0.c1, bA0.c2, bA0.c3⟩ | with_reducible exact ⟨bA1.c0, bA1.c1, bA1.c2, bA1.c3⟩ | with_reducible exact ⟨(bG _).c0, (bG _).c1, (bG _).c2, (bG _).c3⟩ | with_reducible exact ⟨(bH _).c0, (bH _).c1, (bH _).c2, (bH _).c3⟩ | exact ⟨BX9.c0, BX9.c1, BX9.c2, BX9.c3⟩)
                      (first
                        | (refine step_append_src rfl (.tmp 52) (.tmp 55) 22 rfl sz 45 i0 (.agg #[.slice none 0 0, .int .u64 0, .int .u8 0, .slice none 0 0]) 4 64 Try.underlying22 hi hz0 hz1 hz2 rfl (by decide) sz 0 0 [] rfl (by with_reducible exact hRA0) _ rfl i (cs.take (i * 4)) (hsrc1 _ pA0) hone1 (by unfold maxLen; omega) (by omega) (by rw [sA0]; omega) (sz + 1) sA0 i (Nat.zero_add _) ?_
                           intro g1 c1 w1 hw1 hg1 ha1
                           have p1 : Below sz w8 w1 := pA0.grown hg1 (by rw [sA0]; omega) (fun q e => by cases e; exact Nat.le_refl _)
                           have b1 := BX8.below p1 (by rw [HSZ.out]; exact Nat.le_refl _)
                           have b1a := b1.alloc (.cells #[.slice x1 nl x2, .int .u64 sq, .int .u8 kk, .slice y1 oln y2] 45)
                           have e1 : sz ≤ w1.heap.size := by have := p1.size; rw [HSZ.out] at this; exact this
                           have hw1a := hw1.alloc (.cells #[.slice x1 nl x2, .int .u64 sq, .int .u8 kk, .slice y1 oln y2] 45)
                           have p1a : Below sz w8 (w1.alloc (.cells #[.slice x1 nl x2, .int .u64 sq, .int .u8 kk, .slice y1 oln y2] 45)) := p1.alloc e1 _
                           have l1a := laid4 w1 (.slice x1 nl x2) (.int .u64 sq) (.int .u8 kk) (.slice y1 oln y2) 45
                           have e1a : sz ≤ (w1.alloc (.cells #[.slice x1 nl x2, .int .u64 sq, .int .u8 kk, .slice y1 oln y2] 45)).heap.size := by simp; omega)
                        | (refine step_append_src rfl (.tmp 52) (.tmp 55) 22 rfl sz 45 i0 (.agg #[.slice none 0 0, .int .u64 0, .int .u8 0, .slice none 0 0]) 4 64 Try.underlying22 hi hz0 hz1 hz2 rfl (by decide) sz 0 0 [] rfl (by with_reducible exact hRA01) _ rfl i (cs.take (i * 4)) (hsrc1 _ pA01) hone1 (by unfold maxLen; omega) (by omega) (by rw [sA01]; omega) (sz + 2) sA01 i (Nat.zero_add _) ?_
                           intro g1 c1 w1 hw1 hg1 ha1
                           have p1 : Below sz w8 w1 := pA01.grown hg1 (by rw [sA01]; omega) (fun q e => by cases e; exact Nat.le_refl _)
                           have b1 := BX8.below p1 (by rw [HSZ.out]; exact Nat.le_refl _)
                           have e1 : sz ≤ w1.heap.size := by have := p1.size; rw [HSZ.out] at this; exact this
                           have l1 : ∀ j u, [.slice x1 nl x2, .int .u64 sq, .int .u8 kk, .slice y1 oln y2][j]? = some u → w1.cell? ((⟨sz + 1, 0, none⟩ : Addr).add j) = some u := fun j u hu => by
                             have h9 := lA01 j u hu
                             rw [Addr.add_lit] at h9 ⊢
                             rw [← h9]
                             exact World.cell?_of_block (hg1.block _ (World.block_lt_of_cell? _ _ h9) (by simp)))
                        | (refine step_append_src rfl (.tmp 52) (.tmp 55) 22 rfl sz 45 i0 (.agg #[.slice none 0 0, .int .u64 0, .int .u8 0, .slice none 0 0]) 4 64 Try.underlying22 hi hz0 hz1 hz2 rfl (by decide) (sz + 1) 0 0 [] rfl (by with_reducible exact hRA10) _ rfl i (cs.take (i * 4)) (hsrc1 _ pA10) hone1 (by unfold maxLen; omega) (by omega) (by rw [sA10]; omega) (sz + 2) sA10 i (Nat.zero_add _) ?_
                           intro g1 c1 w1 hw1 hg1 ha1
                           have p1 : Below sz w8 w1 := pA10.grown hg1 (by rw [sA10]; omega) (fun q e => by cases e; exact Nat.le_succ _)
                           have b1 := BX8.below p1 (by rw [HSZ.out]; exact Nat.le_refl _)
                           have e1 : sz ≤ w1.heap.size := by have := p1.size; rw [HSZ.out] at this; exact this
                           have l1 : ∀ j u, [.slice x1 nl x2, .int .u64 sq, .int .u8 kk, .slice y1 oln y2][j]? = some u → w1.cell? ((⟨sz, 0, none⟩ : Addr).add j) = some u := fun j u hu => by
                             have h9 := lA10 j u hu
                             rw [Addr.add_lit] at h9 ⊢
                             rw [← h9]
                             exact World.cell?_of_block (hg1.block _ (World.block_lt_of_cell? _ _ h9) (by simp)))
                        | (refine step_append_src rfl (.tmp 56) (.tmp 58) 22 rfl sz 45 i0 (.agg #[.slice none 0 0, .int .u64 0, .int .u8 0, .slice none 0 0]) 4 64 Try.underlying22 hi hz0 hz1 hz2 rfl (by decide) g1 i c1 _ rfl (by with_reducible exact hw1) _ rfl 1 [.slice x1 nl x2, .int .u64 sq, .int .u8 kk, .slice y1 oln y2] (.inr ⟨_, _, rfl, rfl, l1⟩) hON4 (by unfold maxLen; omega) (by omega) e1 _ rfl (i + 1) rfl ?_
                           intro g2 c2 w2 hw2 hg2 ha2
                           have p2 : Below sz w8 w2 := p1.grown hg2 e1 (fun q e => by cases e; exact (hw1.lt _ rfl).1)
                           have b2 := BX8.below p2 (by rw [HSZ.out]; exact Nat.le_refl _)
                           have e2 : sz ≤ w2.heap.size := by have := p2.size; rw [HSZ.out] at this; exact this)
                        | (refine step_append_src rfl (.tmp 56) (.tmp 58) 22 rfl sz 45 i0 (.agg #[.slice none 0 0, .int .u64 0, .int .u8 0, .slice none 0 0]) 4 64 Try.underlying22 hi hz0 hz1 hz2 rfl (by decide) g1 i c1 _ rfl (by with_reducible exact hw1a) _ rfl 1 [.slice x1 nl x2, .int .u64 sq, .int .u8 kk, .slice y1 oln y2] (.inr ⟨_, _, rfl, rfl, l1a⟩) hON4 (by unfold maxLen; omega) (by omega) e1a _ rfl (i + 1) rfl ?_
                           intro g2 c2 w2 hw2 hg2 ha2
                           have p2 : Below sz w8 w2 := p1a.grown hg2 e1a (fun q e => by cases e; exact (hw1.lt _ rfl).1)
                           have b2 := BX8.below p2 (by rw [HSZ.out]; exact Nat.le_refl _)
                           have e2 : sz ≤ w2.heap.size := by have := p2.size; rw [HSZ.out] at this; exact this)
                        | (refine step_append_src rfl (.tmp 59) (.tmp 62) 22 rfl sz 45 i0 (.agg #[.slice none 0 0, .int .u64 0, .int .u8 0, .slice none 0 0]) 4 64 Try.underlying22 hi hz0 hz1 hz2 rfl (by decide) g2 (i + 1) c2 _ rfl (by with_reducible exact hw2) _ rfl 0 (cs.drop (i * 4)) (hsrc2 _ p2) hone2 (by unfold maxLen; omega) (by omega) e2 _ rfl (i + 1) (by omega) ?_
                           intro g3 c3 w3 hw3 hg3 ha3
                           have p3 : Below sz w8 w3 := p2.grown hg3 e2 (fun q e => by cases e; exact (hw2.lt _ rfl).1)
                           have b3 := BX8.below p3 (by rw [HSZ.out]; exact Nat.le_refl _)
                           have HF3 : Hid _ := HFIN.out w3 g3 c3 hw3 p3)
                        | fail)
                    all_goals
                      clear hRA0 hRA01 hRA10 pA0 pA1 pA01 pA10 lA01 lA10 bA0 bA1 bA01 bA10 sA0 sA01 sA10 pG bG pH bH BX9 z0 z1 z2 z3
                      go_wp2_with fail
                      go_roundg (G - 1)
                      case measure => exact q1
                      case rel => exact ⟨j + 1, _, _, _, q2, by go_num, rfl, HF3.out.1, HF3.out.2⟩
                  · have hck8 : ¬ (c' : Int) = (k : Int) := by omega
                    have hsrc2 : ∀ W : World, Below sz w8 W → SrcOf W 4 (Value.slice (some ⟨go, k * 4, none⟩) (i - k) (c' - k)) (i - k) (cs.drop (k * 4)) := fun W hb => .inr ⟨_, _, rfl, hD1, fun j u hu => by
                      rw [List.getElem?_drop] at hu
                      have h8 := hcell8 _ u hu
                      rw [← h8, Addr.add_lit, Addr.add_lit, Nat.zero_add]
                      exact hb.cell hgo⟩
                    go_wp2_with fail
                    go_region_held3 (fun w' => w'.cell? ⟨bx, 0, none⟩ = some (.slice x1 nl x2) ∧ w'.cell? ⟨bx, 1, none⟩ = some (.int .u64 sq) ∧ w'.cell? ⟨bx, 2, none⟩ = some (.int .u8 kk) ∧ w'.cell? ⟨bx, 3, none⟩ = some (.slice y1 oln y2))
                      (first | with_reducible exact ⟨b3.c0, b3.c1, b3.c2, b3.c3⟩ | with_reducible exact ⟨b2.c0, b2.c1, b2.c2, b2.c3⟩ | with_reducible exact ⟨b1a.c0, b1a.c1, b1a.c2, b1a.c3⟩ | with_reducible exact ⟨b1.c0, b1.c1, b1.c2, b1.c3⟩ | with_reducible exact ⟨bA01.c0, bA01.c1, bA01.c2, bA01.c3⟩ | with_reducible exact ⟨bA10.c0, bA10.c1, bA10.c2, bA10.c3⟩ | with_reducible exact ⟨bA0.c0, bA0.c1, bA0.c2, bA0.c3⟩ | with_reducible exact ⟨bA1.c0, bA1.c1, bA1.c2, bA1.c3⟩ | with_reducible exact ⟨(bG _).c0, (bG _).c1, (bG _).c2, (bG _).c3⟩ | with_reducible exact ⟨(bH _).c0, (bH _).c1, (bH _).c2, (bH _).c3⟩ | exact ⟨BX9.c0, BX9.c1, BX9.c2, BX9.c3⟩)
                      (first
                        | (refine step_append_src rfl (.tmp 52) (.tmp 55) 22 rfl sz 45 i0 (.agg #[.slice none 0 0, .int .u64 0, .int .u8 0, .slice none 0 0]) 4 64 Try.underlying22 hi hz0 hz1 hz2 rfl (by decide) sz 0 0 [] rfl (by with_reducible exact hRA0) _ rfl k (cs.take (k * 4)) (hsrc1 _ pA0) hone1 (by unfold maxLen; omega) (by omega) (by rw [sA0]; omega) (sz + 1) sA0 k (Nat.zero_add _) ?_
                           intro g1 c1 w1 hw1 hg1 ha1
                           have p1 : Below sz w8 w1 := pA0.grown hg1 (by rw [sA0]; omega) (fun q e => by cases e; exact Nat.le_refl _)
                           have b1 := BX8.below p1 (by rw [HSZ.out]; exact Nat.le_refl _)
                           have b1a := b1.alloc (.cells #[.slice x1 nl x2, .int .u64 sq, .int .u8 kk, .slice y1 oln y2] 45)
                           have e1 : sz ≤ w1.heap.size := by have := p1.size; rw [HSZ.out] at this; exact this
                           have hw1a := hw1.alloc (.cells #[.slice x1 nl x2, .int .u64 sq, .int .u8 kk, .slice y1 oln y2] 45)
                           have p1a : Below sz w8 (w1.alloc (.cells #[.slice x1 nl x2, .int .u64 sq, .int .u8 kk, .slice y1 oln y2] 45)) := p1.alloc e1 _
                           have l1a := laid4 w1 (.slice x1 nl x2) (.int .u64 sq) (.int .u8 kk) (.slice y1 oln y2) 45
                           have e1a : sz ≤ (w1.alloc (.cells #[.slice x1 nl x2, .int .u64 sq, .int .u8 kk, .slice y1 oln y2] 45)).heap.size := by simp; omega)
                        | (refine step_append_src rfl (.tmp 52) (.tmp 55) 22 rfl sz 45 i0 (.agg #[.slice none 0 0, .int .u64 0, .int .u8 0, .slice none 0 0]) 4 64 Try.underlying22 hi hz0 hz1 hz2 rfl (by decide) sz 0 0 [] rfl (by with_reducible exact hRA01) _ rfl k (cs.take (k * 4)) (hsrc1 _ pA01) hone1 (by unfold maxLen; omega) (by omega) (by rw [sA01]; omega) (sz + 2) sA01 k (Nat.zero_add _) ?_
                           intro g1 c1 w1 hw1 hg1 ha1
                           have p1 : Below sz w8 w1 := pA01.grown hg1 (by rw [sA01]; omega) (fun q e => by cases e; exact Nat.le_refl _)
                           have b1 := BX8.below p1 (by rw [HSZ.out]; exact Nat.le_refl _)
                           have e1 : sz ≤ w1.heap.size := by have := p1.size; rw [HSZ.out] at this; exact this
                           have l1 : ∀ j u, [.slice x1 nl x2, .int .u64 sq, .int .u8 kk, .slice y1 oln y2][j]? = some u → w1.cell? ((⟨sz + 1, 0, none⟩ : Addr).add j) = some u := fun j u hu => by
                             have h9 := lA01 j u hu
                             rw [Addr.add_lit] at h9 ⊢
                             rw [← h9]
                             exact World.cell?_of_block (hg1.block _ (World.block_lt_of_cell? _ _ h9) (by simp)))
                        | (refine step_append_src rfl (.tmp 52) (.tmp 55) 22 rfl sz 45 i0 (.agg #[.slice none 0 0, .int .u64 0, .int .u8 0, .slice none 0 0]) 4 64 Try.underlying22 hi hz0 hz1 hz2 rfl (by decide) (sz + 1) 0 0 [] rfl (by with_reducible exact hRA10) _ rfl k (cs.take (k * 4)) (hsrc1 _ pA10) hone1 (by unfold maxLen; omega) (by omega) (by rw [sA10]; omega) (sz + 2) sA10 k (Nat.zero_add _) ?_
                           intro g1 c1 w1 hw1 hg1 ha1
                           have p1 : Below sz w8 w1 := pA10.grown hg1 (by rw [sA10]; omega) (fun q e => by cases e; exact Nat.le_succ _)
                           have b1 := BX8.below p1 (by rw [HSZ.out]; exact Nat.le_refl _)
                           have e1 : sz ≤ w1.heap.size := by have := p1.size; rw [HSZ.out] at this; exact this
                           have l1 : ∀ j u, [.slice x1 nl x2, .int .u64 sq, .int .u8 kk, .slice y1 oln y2][j]? = some u → w1.cell? ((⟨sz, 0, none⟩ : Addr).add j) = some u := fun j u hu => by
                             have h9 := lA10 j u hu
                             rw [Addr.add_lit] at h9 ⊢
                             rw [← h9]
                             exact World.cell?_of_block (hg1.block _ (World.block_lt_of_cell? _ _ h9) (by simp)))
                        | (refine step_append_src rfl (.tmp 56) (.tmp 58) 22 rfl sz 45 i0 (.agg #[.slice none 0 0, .int .u64 0, .int .u8 0, .slice none 0 0]) 4 64 Try.underlying22 hi hz0 hz1 hz2 rfl (by decide) g1 k c1 _ rfl (by with_reducible exact hw1) _ rfl 1 [.slice x1 nl x2, .int .u64 sq, .int .u8 kk, .slice y1 oln y2] (.inr ⟨_, _, rfl, rfl, l1⟩) hON4 (by unfold maxLen; omega) (by omega) e1 _ rfl (k + 1) rfl ?_
                           intro g2 c2 w2 hw2 hg2 ha2
                           have p2 : Below sz w8 w2 := p1.grown hg2 e1 (fun q e => by cases e; exact (hw1.lt _ rfl).1)
                           have b2 := BX8.below p2 (by rw [HSZ.out]; exact Nat.le_refl _)
                           have e2 : sz ≤ w2.heap.size := by have := p2.size; rw [HSZ.out] at this; exact this)
                        | (refine step_append_src rfl (.tmp 56) (.tmp 58) 22 rfl sz 45 i0 (.agg #[.slice none 0 0, .int .u64 0, .int .u8 0, .slice none 0 0]) 4 64 Try.underlying22 hi hz0 hz1 hz2 rfl (by decide) g1 k c1 _ rfl (by with_reducible exact hw1a) _ rfl 1 [.slice x1 nl x2, .int .u64 sq, .int .u8 kk, .slice y1 oln y2] (.inr ⟨_, _, rfl, rfl, l1a⟩) hON4 (by unfold maxLen; omega) (by omega) e1a _ rfl (k + 1) rfl ?_
                           intro g2 c2 w2 hw2 hg2 ha2
                           have p2 : Below sz w8 w2 := p1a.grown hg2 e1a (fun q e => by cases e; exact (hw1.lt _ rfl).1)
                           have b2 := BX8.below p2 (by rw [HSZ.out]; exact Nat.le_refl _)
                           have e2 : sz ≤ w2.heap.size := by have := p2.size; rw [HSZ.out] at this; exact this)
                        | (refine step_append_src rfl (.tmp 59) (.tmp 62) 22 rfl sz 45 i0 (.agg #[.slice none 0 0, .int .u64 0, .int .u8 0, .slice none 0 0]) 4 64 Try.underlying22 hi hz0 hz1 hz2 rfl (by decide) g2 (k + 1) c2 _ rfl (by with_reducible exact hw2) _ rfl (i - k) (cs.drop (k * 4)) (hsrc2 _ p2) hone2 (by unfold maxLen; omega) (by omega) e2 _ rfl (i + 1) (by omega) ?_
                           intro g3 c3 w3 hw3 hg3 ha3
                           have p3 : Below sz w8 w3 := p2.grown hg3 e2 (fun q e => by cases e; exact (hw2.lt _ rfl).1)
                           have b3 := BX8.below p3 (by rw [HSZ.out]; exact Nat.le_refl _)
                           have HF3 : Hid _ := HFIN.out w3 g3 c3 hw3 p3)
                        | fail)
                    all_goals
                      clear hRA0 hRA01 hRA10 pA0 pA1 pA01 pA10 lA01 lA10 bA0 bA1 bA01 bA10 sA0 sA01 sA10 pG bG pH bH BX9 z0 z1 z2 z3
                      go_wp2_with fail
                      go_roundg (G - 1)
                      case measure => exact q1
                      case rel => exact ⟨j + 1, _, _, _, q2, by go_num, rfl, HF3.out.1, HF3.out.2⟩
            · have hcb : (ck == 0) = false := by simpa using hc0
              have HS9 : Hid (sortTo es (j + 1) = OUT) := by show _ = _; rw [HST.out]; unfold insE; rw [if_neg]; rintro ⟨_, h9⟩; rw [HCE.out, if_neg hc0] at h9; exact hc0 h9
              go_wp2_with fail
              go_roundg (G - 1)
              case measure => exact q1
              case rel => exact ⟨j + 1, _, _, _, q2, by go_num, rfl, by show RowE _ _ _ _; rw [HS9.out]; exact HO8.out, HB8⟩
    · have hjN : j = N := by omega
      subst hjN
      have HE9 : Hid (sortTo es j = sortE es) := by show _ = _; unfold sortE; rw [HN.out]
      go_wp2
      go_ret
      exact ⟨_, rfl, by rw [← HE9.out]; exact HO.out, HB.out⟩

end Go.Proofs.Ytbmpnafbmgcniaa
