/- (*tomb.Set).Add. -/
import Derived.Test.YthcoblmfmbmdkaaTbAllS
import Derived.Deep.RegionLaw
namespace Go.Proofs.Ythcoblmfmbmdkaa
set_option maxRecDepth 100000
open Go.RowKit
set_option linter.unusedVariables false
set_option linter.unusedSimpArgs false

/-- a set that is one's own: from block B on -/
def SetO (B : Nat) (w : World) (t : Nat) (ss : List SpB) : Prop := B ≤ t ∧ ∃ v, Boxed w t 114 v ∧ AllS B w v ss

theorem SetO.at {B t : Nat} {w : World} {ss : List SpB} (h : SetO B w t ss) : SetAt w t ss := by
  obtain ⟨_, v, hv, ha⟩ := h
  exact ⟨v, hv.cell, ha.rd⟩

theorem SetO.below {B t : Nat} {w w' : World} {ss : List SpB} (h : SetO B w t ss) (hb : Below w.heap.size w w') : SetO B w' t ss := by
  obtain ⟨h0, v, hv, ha⟩ := h
  exact ⟨h0, v, (hb.block t hv.lt).trans hv, ha.below hb⟩

/-- what turns lies ahead of it -/
theorem SetO.aside {B t r : Nat} {w w' : World} {ss : List SpB} (h : SetO B w t ss) (hg : w.grownBy w' (some r)) (hr : r < B) : SetO B w' t ss := by
  obtain ⟨h0, v, hv, cs, hrow, hel⟩ := h
  have hk : ∀ q, B ≤ q → q < w.heap.size → w'.heap[q]? = w.heap[q]? := fun q h1 h2 => hg.block q h2 (fun e => by cases e; omega)
  have hN : ∀ x l, OwnN B w x l → OwnN B w' x l := fun x l ho => by
    rcases ho with ho | ho
    · exact .inl ho
    · obtain ⟨g, c, rfl⟩ := ho.shape
      exact .inr (Own.of_row (ho.row.kept hg (.inr (fun e => by have h9 := (ho.row.lt g rfl).1; simp [Value.ownBlock] at e; omega))) (by simp))
  refine ⟨h0, v, (hk t h0 hv.lt).trans hv, cs, hrow.kept hg ?_, fun j hj => ?_⟩
  · cases hb : v.ownBlock with
    | none => exact .inl rfl
    | some q => exact .inr (fun e => by have := (hrow.lt q hb).1; cases e; omega)
  · obtain ⟨x, y, c0, c1, c2, ox, oy⟩ := hel j hj
    exact ⟨x, y, c0, c1, c2, hN _ _ ox, hN _ _ oy⟩

/-- its box is written over -/
theorem AllS.kept9 {B t : Nat} {T : TypeId} {w : World} {v u o : Value} {es : List SpB} (h : AllS B w v es) (hb : Boxed w t T o) (hT : T ≠ 46 ∧ T ≠ 5 := by decide) : AllS B (w.setCell ⟨t, 0, none⟩ u) v es := by
  obtain ⟨cs, hrow, hel⟩ := h
  have hg := grownBy_setCell' w t u
  have hN : ∀ x l, OwnN B w x l → OwnN B (w.setCell ⟨t, 0, none⟩ u) x l := fun x l ho => by
    rcases ho with ho | ho
    · exact .inl ho
    · obtain ⟨g, c, rfl⟩ := ho.shape
      exact .inr (Own.of_row (ho.row.kept hg (.inr (fun e => hb.not_row hT.2 ho.row e.symm))) (by simp))
  refine ⟨cs, hrow.kept hg ?_, fun j hj => ?_⟩
  · exact .inr (fun e => hb.not_row hT.1 hrow e.symm)
  · obtain ⟨x, y, c0, c1, c2, ox, oy⟩ := hel j hj
    exact ⟨x, y, c0, c1, c2, hN _ _ ox, hN _ _ oy⟩

/-- what Add answers -/
def AddPost (B : Nat) (w : World) (t : Nat) (ss : List SpB) (o : SpB) (c : Int) (e : Ending) (w' : World) : Prop :=
  e = .returned (.int .i64 c) ∧ SetO B w' t (if c = 0 then ss ++ [o] else ss) ∧ Below B w w'

theorem boxed_set9 {w : World} {t : Nat} {T : TypeId} {v u : Value} (h : Boxed w t T v) : Boxed (w.setCell ⟨t, 0, none⟩ u) t T u := h.set u

set_option maxHeartbeats 4000000 in
theorem tadd_any (w : World) (B t : Nat) (ss : List SpB) (x y : Value) (l m : List UInt8) (s : Nat) (c : Int) (hS : SetO B w t ss) (hB : B ≤ w.heap.size) (hx : Rd w x l) (hy : Rd w y m) (hn : ss.length ≤ 100000) (hc : chkSp l m (s : Int) = c) :
    Calls Try.prog 57 #[.pointer (some ⟨t, 0, none⟩), spV x y (s : Int)] w (AddPost B w t ss (l, m, s) c) := by
  obtain ⟨i0, hi, hz0, hz1, hz2⟩ := info_parts infoSp
  obtain ⟨hBt, v, hv, ha⟩ := hS
  obtain ⟨xa, xc, rfl⟩ := hx.len
  obtain ⟨ya, yc, rfl⟩ := hy.len
  obtain ⟨nl, hnl⟩ : ∃ nl, l.length = nl := ⟨_, rfl⟩
  obtain ⟨ml, hml⟩ : ∃ ml, m.length = ml := ⟨_, rfl⟩
  rw [hnl] at hx ⊢
  rw [hml] at hy ⊢
  obtain ⟨va, vc, ev⟩ := ha.rd.shape
  subst ev
  obtain ⟨N, hN⟩ : ∃ N, ss.length = N := ⟨_, rfl⟩
  rw [hN] at hv ha hn
  have HN : Hid (ss.length = N) := hN
  have hb0 := below_box w #[.slice xa nl xc, .slice ya ml yc, .int .u64 (s : Int)] 46
  have HB0 : Hid (Below w.heap.size w (w.alloc (.cells #[.slice xa nl xc, .slice ya ml yc, .int .u64 (s : Int)] 46))) := hb0
  have BX := box_new w (.slice xa nl xc) (.slice ya ml yc) (.int .u64 (s : Int)) 46
  have hck := tcheck_any (w.alloc (.cells #[.slice xa nl xc, .slice ya ml yc, .int .u64 (s : Int)] 46)) (.slice xa nl xc) (.slice ya ml yc) l m (s : Int) c (hx.below hb0 (Nat.le_refl _)) (hy.below hb0 (Nat.le_refl _)) hc
  have he : ∀ w : World, (binOp .eql 81 (.pointer (some ⟨t, 0, none⟩)) (.pointer none)).run Try.prog w = .ok (.bool false) w := fun _ => rfl
  have HS : Hid (B ≤ t ∧ Boxed w t 114 (.slice va N vc) ∧ AllS B w (.slice va N vc) ss) := ⟨hBt, hv, ha⟩
  have HX : Hid (Rd w (.slice xa nl xc) l ∧ Rd w (.slice ya ml yc) m) := ⟨hx, hy⟩
  have HLM : Hid (l.length = nl ∧ m.length = ml) := ⟨hnl, hml⟩
  have HC : Hid (chkSp l m (s : Int) = c) := hc
  have BX' := BX
  obtain ⟨z0, z1, z2, _, _, _⟩ := BX'
  clear hN hb0 hx hy hnl hml hc ha
  go_enter Try.func57, Try.ntmps57
  go_wp2_with fail
  refine hck.mono ?_
  rintro e w1 ⟨rfl, hb1⟩
  have hbw : Below w.heap.size w w1 := bsplit HB0.out hb1
  have HBW : Hid (Below w.heap.size w w1) := hbw
  have HB1 : Hid (Below B w w1) := hbw.mono hB
  have HS1 : Hid (Boxed w1 t 114 (.slice va N vc) ∧ AllS B w1 (.slice va N vc) ss) := ⟨(hbw.block t HS.out.2.1.lt).trans HS.out.2.1, HS.out.2.2.below hbw⟩
  clear z0 z1 z2
  have B1 := BX.below hb1 (Nat.le_refl _)
  clear hck hb1 hbw BX
  by_cases h0 : c = 0
  · subst h0
    have hlen : l.length ≤ 64 ∧ m.length ≤ 64 := by
      have h9 := HC.out
      unfold chkSp at h9
      split at h9
      · rename_i hh; exact ⟨hh.1.2, hh.2.1.2⟩
      · omega
    have ra := (HX.out.1.below HBW.out (Nat.le_refl _)).arg
    have rb := (HX.out.2.below HBW.out (Nat.le_refl _)).arg
    have hap := tapart_any w1.drew (.slice xa nl xc) (.slice ya ml yc) l m (s : Int) (arg_drew ra) (arg_drew rb) (by omega) (by omega)
    have tb : w1.drew.cell? ⟨t, 0, none⟩ = some (.slice va N vc) := HS1.out.1.cell
    have bs := B1.drew
    have HNE : Hid (t ≠ w.heap.size ∧ ∀ q, (Value.slice va N vc).ownBlock = some q → q < w.heap.size) := ⟨by have := HS.out.2.1.lt; omega, fun q hq => (HS.out.2.2.lt q hq).2⟩
    have HSD : Hid (Boxed w1.drew t 114 (.slice va N vc) ∧ AllS B w1.drew (.slice va N vc) ss) := HS1.out
    have HBD : Hid (Below w.heap.size w w1.drew) := HBW.out.drew
    clear hlen ra rb B1
    go_wp2_with fail
    obtain ⟨z0, z1, z2, _, _, _⟩ := bs
    go_region_law
      (first
        | (go_simp
           go_at_call 62
           refine Calls.mono hap ?_
           rintro e w2 ⟨ux, uy, rfl, ox, oy, hb2⟩
           obtain ⟨u1, u2, hu⟩ := ox.rd.len
           subst hu
           obtain ⟨u3, u4, hu⟩ := oy.rd.len
           subst hu
           rw [HLM.out.1] at ox ⊢
           rw [HLM.out.2] at oy ⊢
           have t2 := (hb2.cell (p := ⟨t, 0, none⟩) (World.block_lt_of_cell? _ _ tb)).trans tb
           have hbe := below_box4 w2 (.cells #[.slice u1 nl u2, .slice u3 ml u4, .int .u64 (s : Int)] 46)
           have t3 := (hbe.cell (p := ⟨t, 0, none⟩) (World.block_lt_of_cell? _ _ t2)).trans t2)
        | (have hA2 := (HSD.out.2.below hb2).below hbe
           have hT2 : Boxed (w2.alloc (.cells #[.slice u1 nl u2, .slice u3 ml u4, .int .u64 (s : Int)] 46)) t 114 (.slice va N vc) := (hbe.block t (Nat.lt_of_lt_of_le HSD.out.1.lt hb2.size)).trans ((hb2.block t HSD.out.1.lt).trans HSD.out.1)
           have hB2 : Below B w (w2.alloc (.cells #[.slice u1 nl u2, .slice u3 ml u4, .int .u64 (s : Int)] 46)) := (bsplit (bsplit HBD.out hb2) hbe).mono hB
           have oxe := (ox.below hbe (Nat.le_refl _)).mono (C := B) (by have := HBD.out.size; omega)
           have oye := (oy.below hbe (Nat.le_refl _)).mono (C := B) (by have := HBD.out.size; omega)
           obtain ⟨cs, hrow, hel⟩ := hA2
           rw [HN.out] at hrow
           refine step_append_lies _ rfl (.tmp 17) (.tmp 20) 38 rfl B 46 i0 (.agg #[.slice none 0 0, .slice none 0 0, .int .u64 0]) 3 56 Try.underlying38 hi hz0 hz1 hz2 rfl (by decide) (.slice va N vc) N cs rfl hrow ⟨w2.heap.size, 0, none⟩ 1 1 [.slice u1 nl u2, .slice u3 ml u4, .int .u64 (s : Int)] rfl rfl (laidT3 _ _ _ _ _) (oneS _ _ _ _ _ _ _) (by decide) (by simp only [maxLen]; omega) (by omega) (Nat.le_trans hB (bsplit (bsplit HBD.out hb2) hbe).size) _ rfl ?_
           intro g4 c4 w4 hown hgrow hat hlt4
           have hT4 := hT2.kept hgrow (hT2.not_row (by decide) hrow)
           have t4 := hT4.cell
           have f4 := hT4.frozen
           have HPU : Hid (AllS B w4 (.slice (some ⟨g4, 0, none⟩) (N + 1) c4) (ss ++ [(l, m, s)])) := AllS.push (l, m, s) HN.out hrow hel oxe oye hown hgrow
           have HB4 : Hid (Below B w w4) := hB2.grown hgrow (Nat.le_trans hB hB2.size) (fun k' e => (hrow.lt k' e).1)
           have HT4 : Hid (Boxed w4 t 114 (.slice va N vc)) := hT4)
        | fail)
    all_goals
      go_wp2
      go_ret
      refine ⟨rfl, ?_, HB4.out.setCell (p := ⟨t, 0, none⟩) HS.out.1 _⟩
      rw [if_pos rfl]
      obtain ⟨cs4, hr4, he4⟩ := HPU.out
      exact ⟨HS.out.1, _, HT4.out.set _, AllS.kept9 HPU.out HT4.out⟩
  · go_wp2
    go_ret
    refine ⟨rfl, ?_, HB1.out⟩
    rw [if_neg h0]
    exact ⟨HS.out.1, _, HS1.out.1, HS1.out.2⟩

end Go.Proofs.Ythcoblmfmbmdkaa
