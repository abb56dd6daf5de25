/- (*tomb.Set).Add: a set and the blocks that are its own. -/
import Derived.Test.YthcoblmfmbmdkaaTbNew
import Derived.Test.YthcoblmfmbmdkaaSkPure
import Derived.Deep.RegionLaw
namespace Go.Proofs.Ythcoblmfmbmdkaa
set_option maxRecDepth 100000
open Go.RowKit
set_option linter.unusedVariables false
set_option linter.unusedSimpArgs false

/-- a set; G has its blocks -/
def SetF (G : Nat → Prop) (w : World) (t : Nat) (ss : List SpB) : Prop :=
  ∃ v cs, Boxed w t 114 v ∧ w.ownsRow 0 46 3 v ss.length cs ∧
    (∀ j (h : j < ss.length), ∃ x y, cs[j * 3]? = some x ∧ cs[j * 3 + 1]? = some y ∧ cs[j * 3 + 2]? = some (.int .u64 (ss[j].2.2 : Int)) ∧ OwnN 0 w x ss[j].1 ∧ OwnN 0 w y ss[j].2.1) ∧
    G t ∧ (∀ q, v.ownBlock = some q → G q) ∧ (∀ z ∈ cs, ∀ q, z.ownBlock = some q → G q) ∧ ∀ q, G q → q < w.heap.size

theorem SetF.o {G : Nat → Prop} {w : World} {t : Nat} {ss : List SpB} (h : SetF G w t ss) : SetO 0 w t ss := by
  obtain ⟨v, cs, h1, h2, h3, _⟩ := h
  exact ⟨Nat.zero_le _, v, h1, cs, h2, h3⟩

theorem SetF.at {G : Nat → Prop} {w : World} {t : Nat} {ss : List SpB} (h : SetF G w t ss) : SetAt w t ss := h.o.at

theorem row_same9 {B n s : Nat} {e : TypeId} {w w' : World} {v : Value} {cs : List Value} (h : w.ownsRow B e s v n cs) (hk : ∀ q, v.ownBlock = some q → w'.heap[q]? = w.heap[q]?) : w'.ownsRow B e s v n cs := by
  obtain ⟨h1, h2⟩ := h
  refine ⟨h1, ?_⟩
  rcases h2 with h2 | ⟨q, cap, cur, rfl, hB, hq, r⟩
  · exact .inl h2
  · exact .inr ⟨q, cap, cur, rfl, hB, by rw [hk q rfl]; exact hq, r⟩

theorem ownN_same9 {B : Nat} {w w' : World} {v : Value} {l : List UInt8} (h : OwnN B w v l) (hk : ∀ q, v.ownBlock = some q → w'.heap[q]? = w.heap[q]?) : OwnN B w' v l := by
  rcases h with h | ⟨g, cap, cur, rfl, hB, hg, r⟩
  · exact .inl h
  · exact .inr ⟨g, cap, cur, rfl, hB, by rw [hk g rfl]; exact hg, r⟩

/-- its blocks are what they were -/
theorem SetF.same {G : Nat → Prop} {w w' : World} {t : Nat} {ss : List SpB} (h : SetF G w t ss) (hs : w.heap.size ≤ w'.heap.size) (hk : ∀ q, G q → w'.heap[q]? = w.heap[q]?) : SetF G w' t ss := by
  obtain ⟨v, cs, h1, h2, h3, h4, h5, h6, h7⟩ := h
  refine ⟨v, cs, (hk t h4).trans h1, row_same9 h2 (fun q hq => hk q (h5 q hq)), fun j hj => ?_, h4, h5, h6, fun q hq => Nat.lt_of_lt_of_le (h7 q hq) hs⟩
  obtain ⟨x, y, c0, c1, c2, ox, oy⟩ := h3 j hj
  exact ⟨x, y, c0, c1, c2, ownN_same9 ox (fun q hq => hk q (h6 x (List.mem_of_getElem? c0) q hq)), ownN_same9 oy (fun q hq => hk q (h6 y (List.mem_of_getElem? c1) q hq))⟩

theorem SetF.below {G : Nat → Prop} {w w' : World} {t : Nat} {ss : List SpB} (h : SetF G w t ss) (hb : Below w.heap.size w w') : SetF G w' t ss :=
  h.same hb.size (fun q hq => hb.block q (by obtain ⟨_, _, _, _, _, _, _, _, h7⟩ := h; exact h7 q hq))

theorem SetF.keeps {F G : Nat → Prop} {w w' : World} {t : Nat} {ss : List SpB} (h : SetF G w t ss) (hk : Keeps F w w') (hF : ∀ q, G q → ¬ F q) : SetF G w' t ss :=
  h.same hk.size (fun q hq => hk.block q (by obtain ⟨_, _, _, _, _, _, _, _, h7⟩ := h; exact h7 q hq) (hF q hq))

/-- what Add answers, and what it leaves -/
def AddPostG (G : Nat → Prop) (w : World) (t : Nat) (ss : List SpB) (o : SpB) (c : Int) (e : Ending) (w' : World) : Prop :=
  e = .returned (.int .i64 c) ∧ Keeps G w w' ∧ ∃ G' : Nat → Prop, SetF G' w' t (if c = 0 then ss ++ [o] else ss) ∧ ∀ q, G' q → G q ∨ w.heap.size ≤ q

theorem keeps_of {G : Nat → Prop} {w w' w'' : World} {t : Nat} (hB : Below w.heap.size w w') {v : Value} (hg : w'.grownBy w'' v.ownBlock) (h1 : ∀ q, v.ownBlock = some q → G q) : Keeps G w w'' :=
  (Below.keeps hB G).trans ⟨hg.os, hg.tape, hg.output, hg.size, fun q hq hn => hg.block q hq (fun e => hn (h1 q e.symm))⟩

theorem ownN_lt9 {B : Nat} {w : World} {x : Value} {l : List UInt8} (h : OwnN B w x l) : ∀ q, x.ownBlock = some q → B ≤ q ∧ q < w.heap.size := fun q hq => by
  rcases h with ⟨rfl, _⟩ | h
  · cases hq
  · obtain ⟨g, c, rfl⟩ := h.shape
    simp only [Value.ownBlock, Option.some.injEq] at hq
    subst hq
    exact h.lt

/-- one more: what the row holds -/
theorem push_el {n : Nat} {w w' : World} {v x y : Value} {es : List SpB} {cs : List Value} (o : SpB) (hl : es.length = n) (hrow : w.ownsRow 0 46 3 v n cs)
    (hel : ∀ j (h : j < es.length), ∃ x y, cs[j * 3]? = some x ∧ cs[j * 3 + 1]? = some y ∧ cs[j * 3 + 2]? = some (.int .u64 (es[j].2.2 : Int)) ∧ OwnN 0 w x es[j].1 ∧ OwnN 0 w y es[j].2.1)
    (hx : OwnN 0 w x o.1) (hy : OwnN 0 w y o.2.1) (hg : w.grownBy w' v.ownBlock) : ∀ j (h : j < (es ++ [o]).length), ∃ x' y', (cs ++ [x, y, .int .u64 (o.2.2 : Int)])[j * 3]? = some x' ∧ (cs ++ [x, y, .int .u64 (o.2.2 : Int)])[j * 3 + 1]? = some y' ∧ (cs ++ [x, y, .int .u64 (o.2.2 : Int)])[j * 3 + 2]? = some (.int .u64 ((es ++ [o])[j].2.2 : Int)) ∧ OwnN 0 w' x' (es ++ [o])[j].1 ∧ OwnN 0 w' y' (es ++ [o])[j].2.1 := by
  subst hl
  have hcl : cs.length = es.length * 3 := hrow.1
  intro j h
  by_cases hj : j < es.length
  · obtain ⟨x', y', c0, c1, c2, ox, oy⟩ := hel j hj
    refine ⟨x', y', ?_, ?_, ?_, ?_, ?_⟩
    · rw [List.getElem?_append_left (by omega)]; exact c0
    · rw [List.getElem?_append_left (by omega)]; exact c1
    · rw [List.getElem?_append_left (by omega), List.getElem_append_left hj]; exact c2
    · rw [List.getElem_append_left hj]; exact ownN_kept ox (by decide) hrow hg
    · rw [List.getElem_append_left hj]; exact ownN_kept oy (by decide) hrow hg
  · have hje : j = es.length := by rw [List.length_append] at h; simp at h; omega
    subst hje
    have e : (es ++ [o])[es.length]'h = o := by simp
    rw [e]
    refine ⟨x, y, ?_, ?_, ?_, ownN_kept hx (by decide) hrow hg, ownN_kept hy (by decide) hrow hg⟩
    · rw [List.getElem?_append_right (by omega), show es.length * 3 - cs.length = 0 by omega]; rfl
    · rw [List.getElem?_append_right (by omega), show es.length * 3 + 1 - cs.length = 1 by omega]; rfl
    · rw [List.getElem?_append_right (by omega), show es.length * 3 + 2 - cs.length = 2 by omega]; rfl

/-- its box is written: a set again -/
theorem setF_of {G : Nat → Prop} {n t : Nat} {w : World} {u o : Value} {ss : List SpB} {cs : List Value} (hn : ss.length = n + 1) (hrow : w.ownsRow 0 46 3 u (n + 1) cs)
    (hel : ∀ j (h : j < ss.length), ∃ x y, cs[j * 3]? = some x ∧ cs[j * 3 + 1]? = some y ∧ cs[j * 3 + 2]? = some (.int .u64 (ss[j].2.2 : Int)) ∧ OwnN 0 w x ss[j].1 ∧ OwnN 0 w y ss[j].2.1)
    (hb : Boxed w t 114 o) (h0 : G t) (h1 : ∀ q, u.ownBlock = some q → G q) (h2 : ∀ z ∈ cs, ∀ q, z.ownBlock = some q → G q) (h3 : ∀ q, G q → q < w.heap.size) : SetF G (w.setCell ⟨t, 0, none⟩ u) t ss := by
  have hg := grownBy_setCell' w t u
  have hN : ∀ x l, OwnN 0 w x l → OwnN 0 (w.setCell ⟨t, 0, none⟩ u) x l := fun x l ho => by
    rcases ho with ho | ho
    · exact .inl ho
    · obtain ⟨g, c, rfl⟩ := ho.shape
      exact .inr (Own.of_row (ho.row.kept hg (.inr (fun e => hb.not_row (by decide) ho.row e.symm))) (by simp))
  refine ⟨u, cs, hb.set u, by rw [hn]; exact hrow.kept hg (.inr (fun e => hb.not_row (by decide) hrow e.symm)), fun j hj => ?_, h0, h1, h2, fun q hq => Nat.lt_of_lt_of_le (h3 q hq) hg.size⟩
  obtain ⟨x, y, c0, c1, c2, ox, oy⟩ := hel j hj
  exact ⟨x, y, c0, c1, c2, hN _ _ ox, hN _ _ oy⟩

set_option maxHeartbeats 4000000 in
theorem taddG_any (w : World) (G : Nat → Prop) (t : Nat) (ss : List SpB) (x y : Value) (l m : List UInt8) (s : Nat) (c : Int) (hS : SetF G w t ss) (hx : Rd w x l) (hy : Rd w y m) (hn : ss.length ≤ 100000) (hc : chkSp l m (s : Int) = c) :
    Calls Try.prog 57 #[.pointer (some ⟨t, 0, none⟩), spV x y (s : Int)] w (AddPostG G w t ss (l, m, s) c) := by
  obtain ⟨i0, hi, hz0, hz1, hz2⟩ := info_parts infoSp
  have HSF : Hid (SetF G w t ss) := hS
  have hB : 0 ≤ w.heap.size := Nat.zero_le _
  obtain ⟨hBt, v, hv, ha⟩ := hS.o
  obtain ⟨xa, xc, rfl⟩ := hx.len
  obtain ⟨ya, yc, rfl⟩ := hy.len
  obtain ⟨nl, hnl⟩ : ∃ nl, l.length = nl := ⟨_, rfl⟩
  obtain ⟨ml, hml⟩ : ∃ ml, m.length = ml := ⟨_, rfl⟩
  rw [hnl] at hx ⊢
  rw [hml] at hy ⊢
  obtain ⟨va, vc, ev⟩ := ha.rd.shape
  subst ev
  obtain ⟨N, hN⟩ : ∃ N, ss.length = N := ⟨_, rfl⟩
  rw [hN] at hv ha hn
  have HN : Hid (ss.length = N) := hN
  have hb0 := below_box w #[.slice xa nl xc, .slice ya ml yc, .int .u64 (s : Int)] 46
  have HB0 : Hid (Below w.heap.size w (w.alloc (.cells #[.slice xa nl xc, .slice ya ml yc, .int .u64 (s : Int)] 46))) := hb0
  have BX := box_new w (.slice xa nl xc) (.slice ya ml yc) (.int .u64 (s : Int)) 46
  have hck := tcheck_any (w.alloc (.cells #[.slice xa nl xc, .slice ya ml yc, .int .u64 (s : Int)] 46)) (.slice xa nl xc) (.slice ya ml yc) l m (s : Int) c (hx.below hb0 (Nat.le_refl _)) (hy.below hb0 (Nat.le_refl _)) hc
  have he : ∀ w : World, (binOp .eql 81 (.pointer (some ⟨t, 0, none⟩)) (.pointer none)).run Try.prog w = .ok (.bool false) w := fun _ => rfl
  have HS : Hid (0 ≤ t ∧ Boxed w t 114 (.slice va N vc) ∧ AllS 0 w (.slice va N vc) ss) := ⟨hBt, hv, ha⟩
  have HX : Hid (Rd w (.slice xa nl xc) l ∧ Rd w (.slice ya ml yc) m) := ⟨hx, hy⟩
  have HLM : Hid (l.length = nl ∧ m.length = ml) := ⟨hnl, hml⟩
  have HC : Hid (chkSp l m (s : Int) = c) := hc
  have BX' := BX
  obtain ⟨z0, z1, z2, _, _, _⟩ := BX'
  clear hN hb0 hx hy hnl hml hc ha
  go_enter Try.func57, Try.ntmps57
  go_wp2_with fail
  refine hck.mono ?_
  rintro e w1 ⟨rfl, hb1⟩
  have hbw : Below w.heap.size w w1 := bsplit HB0.out hb1
  have HBW : Hid (Below w.heap.size w w1) := hbw
  have HB1 : Hid (Below 0 w w1) := hbw.mono hB
  have HS1 : Hid (Boxed w1 t 114 (.slice va N vc) ∧ AllS 0 w1 (.slice va N vc) ss) := ⟨(hbw.block t HS.out.2.1.lt).trans HS.out.2.1, HS.out.2.2.below hbw⟩
  clear z0 z1 z2
  have B1 := BX.below hb1 (Nat.le_refl _)
  clear hck hb1 hbw BX
  by_cases h0 : c = 0
  · subst h0
    have hlen : l.length ≤ 64 ∧ m.length ≤ 64 := by
      have h9 := HC.out
      unfold chkSp at h9
      split at h9
      · rename_i hh; exact ⟨hh.1.2, hh.2.1.2⟩
      · omega
    have ra := (HX.out.1.below HBW.out (Nat.le_refl _)).arg
    have rb := (HX.out.2.below HBW.out (Nat.le_refl _)).arg
    have hap := tapart_any w1.drew (.slice xa nl xc) (.slice ya ml yc) l m (s : Int) (arg_drew ra) (arg_drew rb) (by omega) (by omega)
    have tb : w1.drew.cell? ⟨t, 0, none⟩ = some (.slice va N vc) := HS1.out.1.cell
    have bs := B1.drew
    have HNE : Hid (t ≠ w.heap.size ∧ ∀ q, (Value.slice va N vc).ownBlock = some q → q < w.heap.size) := ⟨by have := HS.out.2.1.lt; omega, fun q hq => (HS.out.2.2.lt q hq).2⟩
    have HSD : Hid (Boxed w1.drew t 114 (.slice va N vc) ∧ AllS 0 w1.drew (.slice va N vc) ss) := HS1.out
    have HBD : Hid (Below w.heap.size w w1.drew) := HBW.out.drew
    clear hlen ra rb B1
    go_wp2_with fail
    obtain ⟨z0, z1, z2, _, _, _⟩ := bs
    go_region_law
      (first
        | (go_simp
           go_at_call 62
           refine Calls.mono hap ?_
           rintro e w2 ⟨ux, uy, rfl, ox, oy, hb2⟩
           obtain ⟨u1, u2, hu⟩ := ox.rd.len
           subst hu
           obtain ⟨u3, u4, hu⟩ := oy.rd.len
           subst hu
           rw [HLM.out.1] at ox ⊢
           rw [HLM.out.2] at oy ⊢
           have t2 := (hb2.cell (p := ⟨t, 0, none⟩) (World.block_lt_of_cell? _ _ tb)).trans tb
           have hbe := below_box4 w2 (.cells #[.slice u1 nl u2, .slice u3 ml u4, .int .u64 (s : Int)] 46)
           have t3 := (hbe.cell (p := ⟨t, 0, none⟩) (World.block_lt_of_cell? _ _ t2)).trans t2)
        | (have hB9 := bsplit (bsplit HBD.out hb2) hbe
           obtain ⟨v9, cs, hbx9, hrow, hel, g0, g1, g2, g3⟩ := HSF.out.below hB9
           have hT2 : Boxed (w2.alloc (.cells #[.slice u1 nl u2, .slice u3 ml u4, .int .u64 (s : Int)] 46)) t 114 (.slice va N vc) := (hbe.block t (Nat.lt_of_lt_of_le HSD.out.1.lt hb2.size)).trans ((hb2.block t HSD.out.1.lt).trans HSD.out.1)
           have hB2 : Below 0 w (w2.alloc (.cells #[.slice u1 nl u2, .slice u3 ml u4, .int .u64 (s : Int)] 46)) := (bsplit (bsplit HBD.out hb2) hbe).mono hB
           have oxe := (ox.below hbe (Nat.le_refl _)).mono (C := 0) (by have := HBD.out.size; omega)
           have oye := (oy.below hbe (Nat.le_refl _)).mono (C := 0) (by have := HBD.out.size; omega)
           have ev9 : v9 = .slice va N vc := by have h8 := hT2.cell; have h9 := hbx9.cell; rw [h8] at h9; cases h9; rfl
           subst ev9
           rw [HN.out] at hrow
           refine step_append_lies _ rfl (.tmp 17) (.tmp 20) 38 rfl 0 46 i0 (.agg #[.slice none 0 0, .slice none 0 0, .int .u64 0]) 3 56 Try.underlying38 hi hz0 hz1 hz2 rfl (by decide) (.slice va N vc) N cs rfl hrow ⟨w2.heap.size, 0, none⟩ 1 1 [.slice u1 nl u2, .slice u3 ml u4, .int .u64 (s : Int)] rfl rfl (laidT3 _ _ _ _ _) (oneS _ _ _ _ _ _ _) (by decide) (by simp only [maxLen]; omega) (by omega) (Nat.le_trans hB (bsplit (bsplit HBD.out hb2) hbe).size) _ rfl ?_
           intro g4 c4 w4 hown hgrow hat hlt4
           have hT4 := hT2.kept hgrow (hT2.not_row (by decide) hrow)
           have t4 := hT4.cell
           have f4 := hT4.frozen
           have HB4 : Hid (Below 0 w w4) := hB2.grown hgrow (Nat.le_trans hB hB2.size) (fun k' e => (hrow.lt k' e).1)
           have HGQ : Hid (∀ q, (Value.slice (some ⟨g4, 0, none⟩) (N + 1) c4).ownBlock = some q → G q ∨ w.heap.size ≤ q) := fun q hq => by
             simp only [Value.ownBlock, Option.some.injEq] at hq
             subst hq
             rcases hat with h9 | h9
             · exact .inl (g1 _ h9)
             · exact .inr (by rw [h9]; exact hB9.size)
           have HGC : Hid (∀ z ∈ cs ++ [.slice u1 nl u2, .slice u3 ml u4, .int .u64 (s : Int)], ∀ q, z.ownBlock = some q → (G q ∨ w.heap.size ≤ q) ∧ q < w4.heap.size) := fun z hz q hq => by
             have hs4 : (w2.alloc (.cells #[.slice u1 nl u2, .slice u3 ml u4, .int .u64 (s : Int)] 46)).heap.size ≤ w4.heap.size := hgrow.size
             have hsd := HBD.out.size
             have hs2 := hbe.size
             rcases List.mem_append.1 hz with hz | hz
             · exact ⟨.inl (g2 z hz q hq), Nat.lt_of_lt_of_le (g3 q (g2 z hz q hq)) hs4⟩
             · simp only [List.mem_cons, List.not_mem_nil, or_false] at hz
               rcases hz with rfl | rfl | rfl
               · have h9 := ownN_lt9 ox q hq
                 exact ⟨.inr (by omega), by omega⟩
               · have h9 := ownN_lt9 oy q hq
                 exact ⟨.inr (by omega), by omega⟩
               · simp [Value.ownBlock] at hq
           have HOW : Hid (w4.ownsRow 0 46 3 (.slice (some ⟨g4, 0, none⟩) (N + 1) c4) (N + 1) (cs ++ [.slice u1 nl u2, .slice u3 ml u4, .int .u64 (s : Int)]) ∧ g4 < w4.heap.size) := ⟨hown, hlt4⟩
           have HKG : Hid (Keeps G w w4) := keeps_of (t := t) hB9 hgrow g1
           have HEL : Hid (∀ j (h : j < (ss ++ [(l, m, s)]).length), ∃ x y, (cs ++ [.slice u1 nl u2, .slice u3 ml u4, .int .u64 (s : Int)])[j * 3]? = some x ∧ (cs ++ [.slice u1 nl u2, .slice u3 ml u4, .int .u64 (s : Int)])[j * 3 + 1]? = some y ∧ (cs ++ [.slice u1 nl u2, .slice u3 ml u4, .int .u64 (s : Int)])[j * 3 + 2]? = some (.int .u64 ((ss ++ [(l, m, s)])[j].2.2 : Int)) ∧ OwnN 0 w4 x (ss ++ [(l, m, s)])[j].1 ∧ OwnN 0 w4 y (ss ++ [(l, m, s)])[j].2.1) := push_el (l, m, s) HN.out hrow hel oxe oye hgrow
           have HT4 : Hid (Boxed w4 t 114 (.slice va N vc)) := hT4)
        | fail)
    all_goals
      go_wp2
      go_ret
      refine ⟨rfl, HKG.out.setCell (p := ⟨t, 0, none⟩) (by obtain ⟨_, _, _, _, _, h9, _⟩ := HSF.out; exact h9) _, fun q => (G q ∨ w.heap.size ≤ q) ∧ q < w4.heap.size, ?_, fun q hq => hq.1⟩
      rw [if_pos rfl]
      exact setF_of (n := N) (by rw [List.length_append, HN.out]; rfl) HOW.out.1 HEL.out HT4.out (by obtain ⟨_, _, _, _, _, h9, _, _, h8⟩ := HSF.out; exact ⟨.inl h9, HT4.out.lt⟩) (fun q hq => ⟨HGQ.out q hq, by simp only [Value.ownBlock, Option.some.injEq] at hq; subst hq; exact HOW.out.2⟩) HGC.out (fun q hq => hq.2)
  · go_wp2
    go_ret
    refine ⟨rfl, Below.keeps HBW.out G, G, ?_, fun q hq => .inl hq⟩
    rw [if_neg h0]
    exact HSF.out.below HBW.out

end Go.Proofs.Ythcoblmfmbmdkaa
