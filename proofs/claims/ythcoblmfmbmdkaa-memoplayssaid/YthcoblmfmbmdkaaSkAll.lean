/- (*skip.List).All. -/
import Derived.Test.YthcoblmfmbmdkaaSkSize
namespace Go.Proofs.Ythcoblmfmbmdkaa
open Go.RowKit Go.Shelf
set_option linter.unusedVariables false

attribute [local go_sem] Oper.semAt_some

/-- entries in a row of one's own; what they hold lies from block B on, elsewhere -/
def OwnEF (B : Nat) (w : World) (v : Value) (es : List EnB) : Prop :=
  ∃ cs, w.ownsRow B 44 4 v es.length cs ∧ ∀ j (h : j < es.length), ∃ x y, cs[j * 4]? = some x ∧ cs[j * 4 + 1]? = some (.int .u64 (es[j].2.1 : Int)) ∧ cs[j * 4 + 2]? = some (.int .u8 (es[j].2.2.1.toNat : Int)) ∧ cs[j * 4 + 3]? = some y ∧ (Rd w x es[j].1 ∧ NeB x es[j].1 v ∧ From B x) ∧ (Rd w y es[j].2.2.2 ∧ NeB y es[j].2.2.2 v ∧ From B y)

theorem OwnEF.nil (B : Nat) (w : World) : OwnEF B w (.slice none 0 0) [] := ⟨[], World.ownsRow_nil _ _ _ _, fun _ h => absurd h (Nat.not_lt_zero _)⟩

theorem OwnEF.own {B : Nat} {w : World} {v : Value} {es : List EnB} (h : OwnEF B w v es) : OwnE B w v es := by
  obtain ⟨cs, hr, hj⟩ := h
  refine ⟨cs, hr, fun j hl => ?_⟩
  obtain ⟨x, y, c0, c1, c2, c3, ox, oy⟩ := hj j hl
  exact ⟨x, y, c0, c1, c2, c3, ⟨ox.1, ox.2.1⟩, ⟨oy.1, oy.2.1⟩⟩

theorem OwnEF.below {B C : Nat} {w w' : World} {v : Value} {es : List EnB} (h : OwnEF B w v es) (hb : Below C w w') (hC : w.heap.size ≤ C) : OwnEF B w' v es := by
  obtain ⟨cs, hr, hj⟩ := h
  have hb' : Below w.heap.size w w' := ⟨hb.os, hb.tape, hb.output, hb.size, fun i hi => hb.block i (Nat.lt_of_lt_of_le hi hC)⟩
  refine ⟨cs, row_below hr hb', fun j h => ?_⟩
  obtain ⟨x, y, c0, c1, c2, c3, ox, oy⟩ := hj j h
  exact ⟨x, y, c0, c1, c2, c3, ⟨ox.1.below hb hC, ox.2⟩, ⟨oy.1.below hb hC, oy.2⟩⟩

/-- what turned lies below B, or is no cells -/
def Aside (B : Nat) (A : World) (row : Option Nat) : Prop := ∀ r, row = some r → r < B ∨ ∃ o : Obj, A.heap[r]? = some o ∧ o.isCells = false

theorem cell_aside {B : Nat} {A C : World} {row : Option Nat} {a : Addr} {v : Value} (hc : A.cell? a = some v) (hB : B ≤ a.block) (hg : A.grownBy C row) (hr : Aside B A row) : C.cell? a = some v := by
  rcases row with _ | r
  · exact cell_kept hc hg (fun r e => by cases e)
  · rcases hr r rfl with h | h
    · rw [World.cell?_of_block (hg.block a.block (World.block_lt_of_cell? _ _ hc) (fun e => by cases e; omega))]
      exact hc
    · exact cell_kept hc hg (fun r' e => by cases e; exact h)

theorem rd_aside {B : Nat} {A C : World} {row : Option Nat} {x : Value} {l : List UInt8} (h : Rd A x l) (hf : From B x) (hg : A.grownBy C row) (hr : Aside B A row) : Rd C x l := by
  rcases h with h | ⟨b, off, cap, rfl, h1, h2, h3⟩
  · exact .inl h
  · exact .inr ⟨b, off, cap, rfl, h1, h2, fun j u hu => cell_aside (a := ⟨b, off + j, none⟩) (h3 j u hu) (hf ⟨b, off, none⟩ _ _ rfl) hg hr⟩

theorem row_aside {B n s : Nat} {e : TypeId} {cs : List Value} {A C : World} {row : Option Nat} {v : Value} (h : A.ownsRow B e s v n cs) (hg : A.grownBy C row) (hr : Aside B A row) : C.ownsRow B e s v n cs := by
  refine h.kept hg ?_
  rcases h.2 with ⟨e1, _⟩ | ⟨g, cap, cur, e1, hb, hgc, _⟩
  · left; rw [e1]; rfl
  · right
    intro e2
    rw [e1] at e2
    rcases hr g e2.symm with h9 | ⟨o, ho, hc⟩
    · omega
    · rw [hgc] at ho
      cases ho
      cases hc

theorem OwnEF.aside {B : Nat} {A C : World} {row : Option Nat} {v : Value} {es : List EnB} (h : OwnEF B A v es) (hg : A.grownBy C row) (hr : Aside B A row) : OwnEF B C v es := by
  obtain ⟨cs, h1, hj⟩ := h
  refine ⟨cs, row_aside h1 hg hr, fun j h => ?_⟩
  obtain ⟨x, y, c0, c1, c2, c3, ox, oy⟩ := hj j h
  exact ⟨x, y, c0, c1, c2, c3, ⟨rd_aside ox.1 ox.2.2 hg hr, ox.2⟩, ⟨rd_aside oy.1 oy.2.2 hg hr, oy.2⟩⟩

theorem OwnEF.set {B : Nat} {W : World} {v : Value} {es : List EnB} (h : OwnEF B W v es) {b : Nat} (hb : b < B) (u : Value) : OwnEF B (W.setCell ⟨b, 0, none⟩ u) v es :=
  h.aside (grownBy_setCell' W b u) (fun r e => by cases e; exact .inl hb)

theorem OwnEF.push {B g c n : Nat} {w w' : World} {v x y : Value} {es : List EnB} {cs : List Value} (o : EnB) (hl : es.length = n) (hrow : w.ownsRow B 44 4 v n cs)
    (hel : ∀ j (h : j < es.length), ∃ x y, cs[j * 4]? = some x ∧ cs[j * 4 + 1]? = some (.int .u64 (es[j].2.1 : Int)) ∧ cs[j * 4 + 2]? = some (.int .u8 (es[j].2.2.1.toNat : Int)) ∧ cs[j * 4 + 3]? = some y ∧ (Rd w x es[j].1 ∧ NeB x es[j].1 v ∧ From B x) ∧ (Rd w y es[j].2.2.2 ∧ NeB y es[j].2.2.2 v ∧ From B y))
    (hx : Rd w x o.1 ∧ NeB x o.1 v ∧ From B x) (hy : Rd w y o.2.2.2 ∧ NeB y o.2.2.2 v ∧ From B y) (hn : w'.ownsRow B 44 4 (.slice (some ⟨g, 0, none⟩) (n + 1) c) (n + 1) (cs ++ [x, .int .u64 (o.2.1 : Int), .int .u8 (o.2.2.1.toNat : Int), y])) (hg : w.grownBy w' v.ownBlock) (hat : v.ownBlock = some g ∨ g = w.heap.size) : OwnEF B w' (.slice (some ⟨g, 0, none⟩) (n + 1) c) (es ++ [o]) := by
  subst hl
  have hcl : cs.length = es.length * 4 := hrow.1
  refine ⟨_, by rw [List.length_append]; exact hn, fun j h => ?_⟩
  by_cases hj : j < es.length
  · obtain ⟨x', y', c0, c1, c2, c3, ox, oy⟩ := hel j hj
    refine ⟨x', y', ?_, ?_, ?_, ?_, ?_, ?_⟩
    · rw [List.getElem?_append_left (by omega)]; exact c0
    · rw [List.getElem?_append_left (by omega), List.getElem_append_left hj]; exact c1
    · rw [List.getElem?_append_left (by omega), List.getElem_append_left hj]; exact c2
    · rw [List.getElem?_append_left (by omega)]; exact c3
    · rw [List.getElem_append_left hj]; exact ⟨rd_grown ox.1 hg ox.2.1, neb_step ox.2.1 ox.1 hat, ox.2.2⟩
    · rw [List.getElem_append_left hj]; exact ⟨rd_grown oy.1 hg oy.2.1, neb_step oy.2.1 oy.1 hat, oy.2.2⟩
  · have hje : j = es.length := by rw [List.length_append] at h; simp at h; omega
    subst hje
    have e : (es ++ [o])[es.length]'h = o := by simp
    rw [e]
    refine ⟨x, y, ?_, ?_, ?_, ?_, ⟨rd_grown hx.1 hg hx.2.1, neb_step hx.2.1 hx.1 hat, hx.2.2⟩, ⟨rd_grown hy.1 hg hy.2.1, neb_step hy.2.1 hy.1 hat, hy.2.2⟩⟩
    · rw [List.getElem?_append_right (by omega), show es.length * 4 - cs.length = 0 by omega]; rfl
    · rw [List.getElem?_append_right (by omega), show es.length * 4 + 1 - cs.length = 1 by omega]; rfl
    · rw [List.getElem?_append_right (by omega), show es.length * 4 + 2 - cs.length = 2 by omega]; rfl
    · rw [List.getElem?_append_right (by omega), show es.length * 4 + 3 - cs.length = 3 by omega]; rfl

theorem step_append_in {F : Fence} {nF : Nat} {P : Program} (w : World) {ops : Array Oper} {o : Oper} {a : Act} {K : Act → World → Prop} {Q : Exit → Act → World → Prop} {E : Prop} (hgd : o.guard = none) (s x : Operand) (t : TypeId)
    (ho : o.op = .call { callee := .builtin .append, args := #[s, x], argTypes := #[t, t] })
    (base : Nat) (e : TypeId) (i : TypeInfo) (z : Value) (size bytes : Nat) (ht : P.underlying t = some (.slice e)) (hi : P.info? e = some i) (hz : i.zero = some z)
    (hsize : i.size = size) (hby : i.bytes = bytes) (hzs : z.cells.size = size) (hsz : 0 < size)
    (v : Value) (n : Nat) (xs : List Value) (hs : a.eval s = v) (hown : w.ownsRow base e size v n xs)
    (ad : Addr) (m c : Nat) (news : List Value) (hx : a.eval x = .slice (some ad) m c) (hl : news.length = m * size) (hnews : ∀ j u, news[j]? = some u → w.cell? (ad.add j) = some u) (h1 : ∀ u ∈ news, u.oneCell' = true)
    (hm : 0 < m) (h63 : n + m ≤ maxLen) (hbytes : (n + m) * bytes ≤ 140737488355328) (hbase : base ≤ w.heap.size) (H : Nat) (hH : w.heap.size = H)
    (h : ∀ g cap w', w'.ownsRow base e size (.slice (some ⟨g, 0, none⟩) (n + m) cap) (n + m) (xs ++ news) → w.grownBy w' v.ownBlock → (v.ownBlock = some g ∨ g = H) → g < w'.heap.size → K (a.put o.dst (.slice (some ⟨g, 0, none⟩) (n + m) cap)) w') :
    if Region.wanted o (yielded ops a.tmps) = true then Oper.wpIn F nF P o a w K Q else E := by
  have hw : Region.wanted o (yielded ops a.tmps) = true := by simp [Region.wanted, hgd]
  rw [if_pos hw]
  obtain ⟨g, cap, w', hr, h2, h3, h4, h5⟩ := run_append_lies (P := P) w t o.type base e i z size bytes ht hi hz hsize hby hzs hsz v n xs hown ad m c news hl hnews h1 hm h63 hbytes hbase H hH
  unfold Oper.wpIn
  refine ⟨by simp [Oper.about, ho, resolve, Target.leads, Sem.run_pure], ?_⟩
  rw [Oper.semAt_plain F _ _ (by rw [ho]; intro c hc'; cases hc')]
  simp [execOp, ho, resolve, invoke, builtin, hs, hx, hr, Result.andThen]
  exact h g cap w' h2 h3 h4 h5

theorem step_pushE {F : Fence} {nF : Nat} {ops : Array Oper} {o : Oper} {a : Act} {K : Act → World → Prop} {Q : Exit → Act → World → Prop} {E : Prop} (hgd : o.guard = none) (s x : Operand)
    (ho : o.op = .call { callee := .builtin .append, args := #[s, x], argTypes := #[36, 36] })
    {B m : Nat} {w2 : World} {va : Option Addr} {vc : Nat} {xa ya : Option Addr} {l1 xd l2 yd : Nat} {es : List EnB} (e : EnB) (hs : a.eval s = .slice va m vc) (hx : a.eval x = .slice (some ⟨w2.heap.size, 0, none⟩) 1 1)
    (hlen : es.length = m) (hO : OwnEF B (w2.alloc (.cells #[.slice xa l1 xd, .int .u64 (e.2.1 : Int), .int .u8 (e.2.2.1.toNat : Int), .slice ya l2 yd] 44)) (.slice va m vc) es)
    (rx : Rd w2 (.slice xa l1 xd) e.1 ∧ NeB (.slice xa l1 xd) e.1 (.slice va m vc) ∧ From B (.slice xa l1 xd)) (ry : Rd w2 (.slice ya l2 yd) e.2.2.2 ∧ NeB (.slice ya l2 yd) e.2.2.2 (.slice va m vc) ∧ From B (.slice ya l2 yd)) (hm : m ≤ 8000) (hB : B ≤ w2.heap.size)
    (h : ∀ g c4 w4, OwnEF B w4 (.slice (some ⟨g, 0, none⟩) (m + 1) c4) (es ++ [e]) → (w2.alloc (.cells #[.slice xa l1 xd, .int .u64 (e.2.1 : Int), .int .u8 (e.2.2.1.toNat : Int), .slice ya l2 yd] 44)).grownBy w4 (Value.slice va m vc).ownBlock → K (a.put o.dst (.slice (some ⟨g, 0, none⟩) (m + 1) c4)) w4) :
    if Region.wanted o (yielded ops a.tmps) = true then Oper.wpIn F nF Try.prog o a (w2.alloc (.cells #[.slice xa l1 xd, .int .u64 (e.2.1 : Int), .int .u8 (e.2.2.1.toNat : Int), .slice ya l2 yd] 44)) K Q else E := by
  obtain ⟨i0, hi, hz0, hz1, hz2⟩ := info_parts infoEn
  obtain ⟨cs, hrow, hel⟩ := hO
  rw [hlen] at hrow
  have hbe := below_box4 w2 (.cells #[.slice xa l1 xd, .int .u64 (e.2.1 : Int), .int .u8 (e.2.2.1.toNat : Int), .slice ya l2 yd] 44)
  refine step_append_in _ hgd s x 36 ho B 44 i0 (.agg #[.slice none 0 0, .int .u64 0, .int .u8 0, .slice none 0 0]) 4 64 Try.underlying36 hi hz0 hz1 hz2 rfl (by decide) (.slice va m vc) m cs hs hrow ⟨w2.heap.size, 0, none⟩ 1 1 [.slice xa l1 xd, .int .u64 (e.2.1 : Int), .int .u8 (e.2.2.1.toNat : Int), .slice ya l2 yd] hx rfl (laid4 w2 _ _ _ _ _) (oneE _ _ _ _ _ _ _ _) (by decide) (by simp only [maxLen]; omega) (by omega) (by simp; omega) _ rfl ?_
  intro g4 c4 w4 hown hgrow hat hlt4
  exact h g4 c4 w4 (OwnEF.push e hlen hrow hel ⟨rx.1.below hbe (Nat.le_refl _), rx.2⟩ ⟨ry.1.below hbe (Nat.le_refl _), ry.2⟩ hown hgrow hat) hgrow

/-- a round that put one more into the row -/
theorem push_round {n0 m s : Nat} {e : TypeId} {w W w2 w4 : World} {o : Obj} {v v4 : Value} {cs : List Value} (hBW : Below n0 w W) (hc : W.cell? ⟨n0, 0, none⟩ = some v) (hf : W.frozen? ⟨n0, 0, none⟩ = false)
    (hrow : (w2.alloc o).ownsRow (n0 + 3) e s v m cs) (hb2 : Below W.heap.size W w2) (h3 : n0 + 3 ≤ W.heap.size) (hg : (w2.alloc o).grownBy w4 v.ownBlock) (B0 : Nat) :
    w4.cell? ⟨n0, 0, none⟩ = some v ∧ w4.frozen? ⟨n0, 0, none⟩ = false ∧ KeepsFrom B0 W (w4.setCell ⟨n0, 0, none⟩ v4) ∧ KpR n0 (n0 + 1 + 1) W (w4.setCell ⟨n0, 0, none⟩ v4) ∧ Below n0 w (w4.setCell ⟨n0, 0, none⟩ v4) := by
  have h5 : Below W.heap.size W (w2.alloc o) := hb2.alloc hb2.size o
  have hlt : ∀ q, v.ownBlock = some q → n0 + 3 ≤ q ∧ q < (w2.alloc o).heap.size := fun q hq => hrow.lt q hq
  have hfar : ∀ k, k < n0 + 3 → some k ≠ v.ownBlock := fun k hk e => by have := (hlt k e.symm).1; omega
  have hcf : ∀ k i, k < n0 + 3 → ∀ u, W.cell? ⟨k, i, none⟩ = some u → w4.cell? ⟨k, i, none⟩ = some u := fun k i hk u hu => by
    rw [hg.cell_far ⟨k, i, none⟩ (by show k < _; have := h5.size; omega) (hfar k hk), h5.cell (p := ⟨k, i, none⟩) (by show k < _; omega)]
    exact hu
  have hB4 : Below n0 W w4 := (h5.mono (by omega)).grown hg (by have := h5.size; omega) (fun q hq => by have := (hlt q hq).1; omega)
  have hK : KeepsFrom B0 W w4 := by
    refine ⟨Nat.le_trans h5.size hg.size, fun k ob _ hk ho => ?_⟩
    have hkl := (Array.getElem?_eq_some_iff.1 hk).1
    have h9 := (h5.block k hkl).trans hk
    rw [hg.block k (Nat.lt_of_lt_of_le hkl h5.size) (fun e => ?_)]
    · exact h9
    · rcases hrow.2 with ⟨e1, _⟩ | ⟨g, cap, cur, e1, _, hgc, _⟩
      · rw [e1] at e; cases e
      · rw [e1] at e
        have e2 : k = g := by simpa [Value.ownBlock] using e
        subst e2
        rw [hgc] at h9
        cases h9
        cases ho
  refine ⟨hcf n0 0 (by omega) _ hc, ?_, hK.trans ((KeepsOthers.setCell _ _ _).from _), ⟨hB4.setCell (p := ⟨n0, 0, none⟩) (Nat.le_refl _) _, fun u hu => ?_⟩, (hBW.trans hB4).setCell (p := ⟨n0, 0, none⟩) (Nat.le_refl _) _⟩
  · rw [hg.frozen_far ⟨n0, 0, none⟩ (by show n0 < _; have := h5.size; omega) (hfar n0 (by omega)), h5.frozen (p := ⟨n0, 0, none⟩) (by show n0 < _; omega)]
    exact hf
  · rw [cell_other _ ⟨n0, 0, none⟩ ⟨n0 + 1 + 1, 0, none⟩ _ (by show n0 + 1 + 1 ≠ n0; omega)]
    exact hcf _ 0 (by omega) u hu

set_option maxRecDepth 100000 in
set_option maxHeartbeats 4000000 in
theorem skall_any (w : World) (l : Nat) (ts : List Tow) (hS : SkAt w l ts) (hL : LenT ts 1000) :
    Calls Try.prog 41 #[.pointer (some ⟨l, 0, none⟩)] w fun e w' => ∃ v, e = .returned v ∧ OwnEF (w.heap.size + 3) w' v (esT ts) ∧ Below w.heap.size w w' := by
  have HS : Hid (SkAt w l ts) := hS
  have c0 := cell_new_l w (.slice none 0 0) 36
  have hB1 : Below w.heap.size w (w.alloc (.cells #[.slice none 0 0] 36)) := (Below.refl _ w).alloc (Nat.le_refl _) _
  have hrw := skrow_any (w.alloc (.cells #[.slice none 0 0] 36)) (some ⟨l, 0, none⟩) 1
  have hs1 : (w.alloc (.cells #[.slice none 0 0] 36)).heap.size = w.heap.size + 1 := by simp
  rw [hs1] at hrw
  have c1 := cell_new_l (w.alloc (.cells #[.slice none 0 0] 36)) (.pointer (some ⟨l, 0, none⟩)) 79
  have c2 := cell_new_l ((w.alloc (.cells #[.slice none 0 0] 36)).alloc (.cells #[.pointer (some ⟨l, 0, none⟩)] 79)) (.int .i64 1) 3
  have d0 := cell_alloc_l (.cells #[.int .i64 1] 3) (cell_alloc_l (.cells #[.pointer (some ⟨l, 0, none⟩)] 79) c0.1)
  have d0f := frozen_alloc_l (.cells #[.int .i64 1] 3) (cell_alloc_l (.cells #[.pointer (some ⟨l, 0, none⟩)] 79) c0.1) (frozen_alloc_l (.cells #[.pointer (some ⟨l, 0, none⟩)] 79) c0.1 c0.2)
  have d1 := cell_alloc_l (.cells #[.int .i64 1] 3) c1.1
  have hB3 : Below w.heap.size w (((w.alloc (.cells #[.slice none 0 0] 36)).alloc (.cells #[.pointer (some ⟨l, 0, none⟩)] 79)).alloc (.cells #[.int .i64 1] 3)) := (hB1.alloc hB1.size _).alloc (hB1.alloc hB1.size _).size _
  simp only [World.size_alloc] at c1 c2 d1
  have hz3 : (((w.alloc (.cells #[.slice none 0 0] 36)).alloc (.cells #[.pointer (some ⟨l, 0, none⟩)] 79)).alloc (.cells #[.int .i64 1] 3)).heap.size = w.heap.size + 3 := by simp
  have hlen := hS.len
  refine (callsIn_wide (n := 4)).1 ?_
  refine callsIn_of_wp_marks Try.func41 rfl trivial ?_ rfl
  simp only [Try.ntmps41, List.size_toArray, List.length_cons, List.length_nil, Nat.reduceAdd, Nat.reduceSub, Array.replicate_succ, Array.replicate_zero, List.push_toArray, List.append_toArray, List.nil_append, List.cons_append]
  gi_wp2_with fail
  refine ⟨trivial, ?_⟩
  refine (callsIn_wide.2 hrw).mono ?_
  rintro e w3 ⟨rfl, hw3⟩
  rw [← hw3] at c2 d0 d0f d1 hB3 hz3
  clear hw3 c0 c1 hB1 hrw hs1
  have HB3 : Hid (Below w.heap.size w w3) := hB3
  have HL : Hid (LenT ts 1000) := hL
  clear hL
  gi_wp2_with fail
  refine wpIn_rangeFunc_ownH rfl (by omega) (gf := 72) (lb := #[.pointer (some ⟨w.heap.size + 1, 0, none⟩), .pointer (some ⟨w.heap.size + 1 + 1, 0, none⟩)]) rfl trivial (enters_of Try.func72 (by kernel_rfl) rfl)
    (row_stops 3 (by omega) w w3 l 1 0 _ _ ts HS.out hB3 rfl (by omega) d1 c2.1) kpR_t (kpR_b (by omega)) (Below.refl _ _) (fun _ => rfl)
    (fun (pre : List {t : Tow // t ∈ ts}) W => ∃ va vc, (W.cell? ⟨w.heap.size, 0, none⟩ = some (.slice va pre.length vc) ∧ W.frozen? ⟨w.heap.size, 0, none⟩ = false) ∧ OwnEF (w.heap.size + 3) W (.slice va pre.length vc) (esT (pre.map (·.1))) ∧ Below w.heap.size w W)
    (fun c (pre : List {t : Tow // t ∈ ts}) W => False)
    (fun s A B row hs hg hr => by
      obtain ⟨va, vc, ⟨h1, h2⟩, h3, h4⟩ := hs
      exact ⟨va, vc, ⟨cell_kept h1 hg (fun r e => (hr r e).2), (frozen_kept h1 hg (fun r e => (hr r e).2)).trans h2⟩, h3.aside hg (fun r e => .inr (hr r e).2), h4.grown hg h4.size (fun r e => by have := (hr r e).1; omega)⟩)
    (fun c s A B row hs hg hr => hs)
    ⟨none, 0, ⟨d0, d0f⟩, OwnEF.nil _ _, hB3⟩
    (fun (x : {t : Tow // t ∈ ts}) a' W => ∃ Bx, w.heap.size < Bx ∧ Box4 W Bx x.1.x (.int .u64 (x.1.e.2.1 : Int)) (.int .u8 (x.1.e.2.2.1.toNat : Int)) x.1.y ∧ a' = { tmps := #[.pointer (some ⟨l, 0, none⟩), undef, .slice none 0 0, .pointer (some ⟨w.heap.size, 0, none⟩), .pointer (some ⟨Bx, 0, none⟩), .pointer (some ⟨l, 0, none⟩), .func (.func 72) #[] #[.pointer (some ⟨w.heap.size + 1, 0, none⟩), .pointer (some ⟨w.heap.size + 1 + 1, 0, none⟩)], enV x.1.x (x.1.e.2.1 : Int) (x.1.e.2.2.1.toNat : Int) x.1.y, undef, undef, undef, undef, undef, undef], defers := [] })
    (fun x a' _ X Y row hs hg hr => by
      obtain ⟨Bx, h1, h2, h3⟩ := hs
      exact ⟨Bx, h1, ⟨cell_kept h2.c0 hg (fun r e => (hr r e).2), cell_kept h2.c1 hg (fun r e => (hr r e).2), cell_kept h2.c2 hg (fun r e => (hr r e).2), cell_kept h2.c3 hg (fun r e => (hr r e).2)⟩, h3⟩)
    ?assign ?body ?done ?stop
  case assign =>
    rintro l pre x W K ⟨va, vc, ⟨hc, hf⟩, hO, hBW⟩ hK
    have hent := HS.out.ent x.1 x.2
    obtain ⟨x1, xc, ex⟩ := hent.rx.len
    obtain ⟨y1, yc, ey⟩ := hent.ry.len
    have HX : Hid (x.1.x = .slice x1 x.1.e.1.length xc) := ex
    have HY : Hid (x.1.y = .slice y1 x.1.e.2.2.2.length yc) := ey
    have HK : Hid _ := hK
    rw [ex, ey]
    clear hent ex ey hK
    simp only [enV]
    gi_wp2
    refine HK.out _ _ ((KeepsOthers.alloc _ _).from _) (kpR_alloc hBW.size _) ⟨va, vc, ⟨cell_alloc_l _ hc, frozen_alloc_l _ hc hf⟩, hO.below (below_box4 W _) (Nat.le_refl _), hBW.alloc hBW.size _⟩ ⟨W.heap.size, World.block_lt_of_cell? _ _ hc, ?_, ?_⟩
    · rw [HX.out, HY.out]
      exact box4_new W _ _ _ _ _
    · rw [HX.out, HY.out]
  case body =>
    rintro l pre x a' W hl hlr ⟨va, vc, ⟨hc, hf⟩, hO, hBW⟩ ⟨Bx, hBx, ⟨b0, b1, b2, b3⟩, rfl⟩ hpl
    have hxl := HL.out x.1 x.2
    have hent := (HS.out.below hBW).ent x.1 x.2
    obtain ⟨x1, xc, ex⟩ := hent.rx.len
    obtain ⟨y1, yc, ey⟩ := hent.ry.len
    have rx := hent.rx
    have ry := hent.ry
    rw [ex] at b0 rx
    rw [ey] at b3 ry
    have HSN : Hid (esT ((pre ++ [x]).map (·.1)) = esT (pre.map (·.1)) ++ [x.1.e]) := by show _ = _; simp [esT]
    rw [ex, ey]
    clear ex ey hent
    obtain ⟨⟨eu, es, ek, ev⟩, he⟩ : ∃ e, x.1.e = e := ⟨_, rfl⟩
    rw [he] at HSN b0 b1 b2 b3 rx ry hxl
    rw [he]
    simp only at b0 b1 b2 b3 rx ry hxl ⊢
    have hap := skapart_any W.drew _ _ _ _ (es : Int) (ek.toNat : Int) rx.drew ry.drew (by omega) (by omega)
    obtain ⟨n1, hn1⟩ : ∃ n, eu.length = n := ⟨_, rfl⟩
    obtain ⟨n2, hn2⟩ : ∃ n, ev.length = n := ⟨_, rfl⟩
    rw [hn1, hn2] at hap
    rw [hn1] at b0
    rw [hn2] at b3
    rw [hn1, hn2]
    clear rx ry hxl hn1 hn2 he
    simp only [enV] at hap ⊢
    have hfo : Try.prog.follows .mixedOrders = true := by kernel_rfl
    gi_wp2_with fail
    have HAP : Hid _ := hap
    have HF : Hid (W.frozen? ⟨w.heap.size, 0, none⟩ = false) := hf
    have HC : Hid (W.cell? ⟨w.heap.size, 0, none⟩ = some (.slice va pre.length vc)) := hc
    have HBW : Hid (Below w.heap.size w W) := hBW
    have HO : Hid (OwnEF (w.heap.size + 3) W (.slice va pre.length vc) (esT (pre.map (·.1)))) := hO
    have HLEN : Hid ((esT (pre.map (·.1))).length = pre.length) := by show _ = _; rw [esT_len, List.length_map]
    have HLN : Hid ((pre ++ [x]).length = pre.length + 1) := by show _ = _; simp
    have HMX : Hid (pre.length ≤ 8000) := by show _ ≤ _; omega
    have H3 : Hid (w.heap.size + 3 ≤ W.heap.size) := by
      show _ ≤ _
      obtain ⟨r, hr⟩ := hlr
      have := (Array.getElem?_eq_some_iff.1 hr).1
      omega
    have HLOW : Hid (∀ q, (Value.slice va pre.length vc).ownBlock = some q → q < W.heap.size + 2) := by
      obtain ⟨cs, hrow, _⟩ := hO
      exact fun q hq => by have := (hrow.lt q hq).2; omega
    clear hap hBW hO hlr
    refine wpIn_region_any (by assumption) ?_
    try (change wpAnyIn _ _ _ _ _ _ _ _ _ (World.drew _))
    refine wpAnyIn_ready (rs := [0, 1]) (by kernel_rfl) (by simp) ?_
    refine AllReadyIn.cons rfl (fun K hK => ?_) ?_
    · go_simp
      refine hK _ _ ?_
      clear hK K
      refine wpAnyIn_ready (rs := [1]) (by kernel_rfl) (by simp) ?_
      refine AllReadyIn.cons rfl (fun K hK => ?_) AllReadyIn.nil
      go_simp
      refine hK _ _ ?_
      clear hK K
      refine wpAnyIn_ready (rs := [2]) (by kernel_rfl) (by simp) ?_
      refine AllReadyIn.cons rfl (fun K hK => ?_) AllReadyIn.nil
      go_simp
      refine ⟨trivial, ?_⟩
      gi_at_call 61
      refine (CallsIn.inRound l (callsIn_wide.2 HAP.out)).mono ?_
      rintro e w2 ⟨xv, yv, rfl, rx, ry, hlb, hb2⟩
      obtain ⟨xa, xd, rfl⟩ := rx.1.len
      obtain ⟨ya, yd, rfl⟩ := ry.1.len
      obtain ⟨l1, hl1⟩ : ∃ n, eu.length = n := ⟨_, rfl⟩
      obtain ⟨l2, hl2⟩ : ∃ n, ev.length = n := ⟨_, rfl⟩
      rw [hl1] at rx hlb ⊢
      rw [hl2] at ry hlb ⊢
      have hcz : w2.cell? ⟨w.heap.size, 0, none⟩ = some (.slice va pre.length vc) := (hb2.cell (p := ⟨w.heap.size, 0, none⟩) (World.block_lt_of_cell? _ _ HC.out)).trans HC.out
      have hfz : w2.frozen? ⟨w.heap.size, 0, none⟩ = false := (hb2.frozen (p := ⟨w.heap.size, 0, none⟩) (World.block_lt_of_cell? _ _ HC.out)).trans HF.out
      have HRX : Hid _ := rx
      have HRY : Hid _ := ry
      have HLB : Hid _ := hlb
      have HB2 : Hid _ := hb2
      clear rx ry hlb hb2 hl1 hl2 hc hf
      refine hK _ _ ?_
      clear hK K
      refine wpAnyIn_ready (rs := [3]) (by kernel_rfl) (by simp) ?_
      refine AllReadyIn.cons rfl (fun K hK => ?_) AllReadyIn.nil
      go_simp
      refine hK _ _ ?_
      clear hK K
      refine wpAnyIn_ready (rs := [4]) (by kernel_rfl) (by simp) ?_
      refine AllReadyIn.cons rfl (fun K hK => ?_) AllReadyIn.nil
      have hb2 : Below W.heap.size W w2 := ⟨HB2.out.os, HB2.out.tape, HB2.out.output, HB2.out.size, HB2.out.block⟩
      have hO5 := (HO.out.below hb2 (Nat.le_refl _)).below (below_box4 w2 (.cells #[.slice xa l1 xd, .int .u64 (es : Int), .int .u8 (ek.toNat : Int), .slice ya l2 yd] 44)) (Nat.le_refl _)
      have h3 := H3.out
      have hs2 := hb2.size
      refine step_pushE rfl (.tmp 8) (.tmp 11) rfl (eu, es, ek, ev) rfl rfl HLEN.out hO5 ⟨HRX.out.1, neb_of HRX.out.2 HLOW.out HRX.out.1, fun a n c e => by have h9 := HRX.out.2 a n c e; have h8 : W.drew.heap.size = W.heap.size := rfl; omega⟩ ⟨HRY.out.1, neb_of HRY.out.2 HLOW.out HRY.out.1, fun a n c e => by have h9 := HRY.out.2 a n c e; have h8 : W.drew.heap.size = W.heap.size := rfl; omega⟩ HMX.out (by omega) ?_
      intro g4 c4 w4 hO4 hgr
      obtain ⟨cs5, hrow5, _⟩ := hO5
      obtain ⟨hc4, hf4, hK4, hP4, hB4⟩ := push_round (v4 := .slice (some ⟨g4, 0, none⟩) (pre.length + 1) c4) HBW.out HC.out HF.out hrow5 hb2 h3 hgr w3.heap.size
      have HK4 : Hid _ := hK4
      have HP4 : Hid _ := hP4
      have HB4 : Hid _ := hB4
      have HO4 : Hid _ := hO4
      clear hK4 hP4 hB4 hO4 hgr hrow5 h3 hs2 hb2
      refine hK _ _ ?_
      clear hK K
      refine wpAnyIn_ready (rs := [5]) (by kernel_rfl) (by simp) ?_
      refine AllReadyIn.cons rfl (fun K hK => ?_) AllReadyIn.nil
      go_simp
      refine hK _ _ ?_
      clear hK K
      refine wpAnyIn_done (by kernel_rfl) ?_ _
      refine ⟨HK4.out, HP4.out, some ⟨g4, 0, none⟩, c4, ?_⟩
      rw [HLN.out, HSN.out]
      exact ⟨⟨World.cell?_setCell_same' _ _ _ (by rw [hc4]; rfl), by simpa [World.frozen?_setCell] using hf4⟩, OwnEF.set HO4.out (by omega) _, HB4.out⟩
    refine AllReadyIn.cons rfl (fun K hK => ?_) AllReadyIn.nil
    go_simp
    refine hK _ _ ?_
    clear hK K
    refine wpAnyIn_ready (rs := [0, 2]) (by kernel_rfl) (by simp) ?_
    refine AllReadyIn.cons rfl (fun K hK => ?_) ?_
    · go_simp
      refine hK _ _ ?_
      clear hK K
      refine wpAnyIn_ready (rs := [2]) (by kernel_rfl) (by simp) ?_
      refine AllReadyIn.cons rfl (fun K hK => ?_) AllReadyIn.nil
      go_simp
      refine ⟨trivial, ?_⟩
      gi_at_call 61
      refine (CallsIn.inRound l (callsIn_wide.2 HAP.out)).mono ?_
      rintro e w2 ⟨xv, yv, rfl, rx, ry, hlb, hb2⟩
      obtain ⟨xa, xd, rfl⟩ := rx.1.len
      obtain ⟨ya, yd, rfl⟩ := ry.1.len
      obtain ⟨l1, hl1⟩ : ∃ n, eu.length = n := ⟨_, rfl⟩
      obtain ⟨l2, hl2⟩ : ∃ n, ev.length = n := ⟨_, rfl⟩
      rw [hl1] at rx hlb ⊢
      rw [hl2] at ry hlb ⊢
      have hcz : w2.cell? ⟨w.heap.size, 0, none⟩ = some (.slice va pre.length vc) := (hb2.cell (p := ⟨w.heap.size, 0, none⟩) (World.block_lt_of_cell? _ _ HC.out)).trans HC.out
      have hfz : w2.frozen? ⟨w.heap.size, 0, none⟩ = false := (hb2.frozen (p := ⟨w.heap.size, 0, none⟩) (World.block_lt_of_cell? _ _ HC.out)).trans HF.out
      have HRX : Hid _ := rx
      have HRY : Hid _ := ry
      have HLB : Hid _ := hlb
      have HB2 : Hid _ := hb2
      clear rx ry hlb hb2 hl1 hl2 hc hf
      refine hK _ _ ?_
      clear hK K
      refine wpAnyIn_ready (rs := [3]) (by kernel_rfl) (by simp) ?_
      refine AllReadyIn.cons rfl (fun K hK => ?_) AllReadyIn.nil
      go_simp
      refine hK _ _ ?_
      clear hK K
      refine wpAnyIn_ready (rs := [4]) (by kernel_rfl) (by simp) ?_
      refine AllReadyIn.cons rfl (fun K hK => ?_) AllReadyIn.nil
      have hb2 : Below W.heap.size W w2 := ⟨HB2.out.os, HB2.out.tape, HB2.out.output, HB2.out.size, HB2.out.block⟩
      have hO5 := (HO.out.below hb2 (Nat.le_refl _)).below (below_box4 w2 (.cells #[.slice xa l1 xd, .int .u64 (es : Int), .int .u8 (ek.toNat : Int), .slice ya l2 yd] 44)) (Nat.le_refl _)
      have h3 := H3.out
      have hs2 := hb2.size
      refine step_pushE rfl (.tmp 8) (.tmp 11) rfl (eu, es, ek, ev) rfl rfl HLEN.out hO5 ⟨HRX.out.1, neb_of HRX.out.2 HLOW.out HRX.out.1, fun a n c e => by have h9 := HRX.out.2 a n c e; have h8 : W.drew.heap.size = W.heap.size := rfl; omega⟩ ⟨HRY.out.1, neb_of HRY.out.2 HLOW.out HRY.out.1, fun a n c e => by have h9 := HRY.out.2 a n c e; have h8 : W.drew.heap.size = W.heap.size := rfl; omega⟩ HMX.out (by omega) ?_
      intro g4 c4 w4 hO4 hgr
      obtain ⟨cs5, hrow5, _⟩ := hO5
      obtain ⟨hc4, hf4, hK4, hP4, hB4⟩ := push_round (v4 := .slice (some ⟨g4, 0, none⟩) (pre.length + 1) c4) HBW.out HC.out HF.out hrow5 hb2 h3 hgr w3.heap.size
      have HK4 : Hid _ := hK4
      have HP4 : Hid _ := hP4
      have HB4 : Hid _ := hB4
      have HO4 : Hid _ := hO4
      clear hK4 hP4 hB4 hO4 hgr hrow5 h3 hs2 hb2
      refine hK _ _ ?_
      clear hK K
      refine wpAnyIn_ready (rs := [5]) (by kernel_rfl) (by simp) ?_
      refine AllReadyIn.cons rfl (fun K hK => ?_) AllReadyIn.nil
      go_simp
      refine hK _ _ ?_
      clear hK K
      refine wpAnyIn_done (by kernel_rfl) ?_ _
      refine ⟨HK4.out, HP4.out, some ⟨g4, 0, none⟩, c4, ?_⟩
      rw [HLN.out, HSN.out]
      exact ⟨⟨World.cell?_setCell_same' _ _ _ (by rw [hc4]; rfl), by simpa [World.frozen?_setCell] using hf4⟩, OwnEF.set HO4.out (by omega) _, HB4.out⟩
    refine AllReadyIn.cons rfl (fun K hK => ?_) AllReadyIn.nil
    go_simp
    refine ⟨trivial, ?_⟩
    gi_at_call 61
    refine (CallsIn.inRound l (callsIn_wide.2 HAP.out)).mono ?_
    rintro e w2 ⟨xv, yv, rfl, rx, ry, hlb, hb2⟩
    obtain ⟨xa, xd, rfl⟩ := rx.1.len
    obtain ⟨ya, yd, rfl⟩ := ry.1.len
    obtain ⟨l1, hl1⟩ : ∃ n, eu.length = n := ⟨_, rfl⟩
    obtain ⟨l2, hl2⟩ : ∃ n, ev.length = n := ⟨_, rfl⟩
    rw [hl1] at rx hlb ⊢
    rw [hl2] at ry hlb ⊢
    have hcz : w2.cell? ⟨w.heap.size, 0, none⟩ = some (.slice va pre.length vc) := (hb2.cell (p := ⟨w.heap.size, 0, none⟩) (World.block_lt_of_cell? _ _ HC.out)).trans HC.out
    have hfz : w2.frozen? ⟨w.heap.size, 0, none⟩ = false := (hb2.frozen (p := ⟨w.heap.size, 0, none⟩) (World.block_lt_of_cell? _ _ HC.out)).trans HF.out
    have HRX : Hid _ := rx
    have HRY : Hid _ := ry
    have HLB : Hid _ := hlb
    have HB2 : Hid _ := hb2
    clear rx ry hlb hb2 hl1 hl2 hc hf
    refine hK _ _ ?_
    clear hK K
    refine wpAnyIn_ready (rs := [0, 3]) (by kernel_rfl) (by simp) ?_
    refine AllReadyIn.cons rfl (fun K hK => ?_) ?_
    · go_simp
      refine hK _ _ ?_
      clear hK K
      refine wpAnyIn_ready (rs := [3]) (by kernel_rfl) (by simp) ?_
      refine AllReadyIn.cons rfl (fun K hK => ?_) AllReadyIn.nil
      go_simp
      refine hK _ _ ?_
      clear hK K
      refine wpAnyIn_ready (rs := [4]) (by kernel_rfl) (by simp) ?_
      refine AllReadyIn.cons rfl (fun K hK => ?_) AllReadyIn.nil
      have hb2 : Below W.heap.size W w2 := ⟨HB2.out.os, HB2.out.tape, HB2.out.output, HB2.out.size, HB2.out.block⟩
      have hO5 := (HO.out.below hb2 (Nat.le_refl _)).below (below_box4 w2 (.cells #[.slice xa l1 xd, .int .u64 (es : Int), .int .u8 (ek.toNat : Int), .slice ya l2 yd] 44)) (Nat.le_refl _)
      have h3 := H3.out
      have hs2 := hb2.size
      refine step_pushE rfl (.tmp 8) (.tmp 11) rfl (eu, es, ek, ev) rfl rfl HLEN.out hO5 ⟨HRX.out.1, neb_of HRX.out.2 HLOW.out HRX.out.1, fun a n c e => by have h9 := HRX.out.2 a n c e; have h8 : W.drew.heap.size = W.heap.size := rfl; omega⟩ ⟨HRY.out.1, neb_of HRY.out.2 HLOW.out HRY.out.1, fun a n c e => by have h9 := HRY.out.2 a n c e; have h8 : W.drew.heap.size = W.heap.size := rfl; omega⟩ HMX.out (by omega) ?_
      intro g4 c4 w4 hO4 hgr
      obtain ⟨cs5, hrow5, _⟩ := hO5
      obtain ⟨hc4, hf4, hK4, hP4, hB4⟩ := push_round (v4 := .slice (some ⟨g4, 0, none⟩) (pre.length + 1) c4) HBW.out HC.out HF.out hrow5 hb2 h3 hgr w3.heap.size
      have HK4 : Hid _ := hK4
      have HP4 : Hid _ := hP4
      have HB4 : Hid _ := hB4
      have HO4 : Hid _ := hO4
      clear hK4 hP4 hB4 hO4 hgr hrow5 h3 hs2 hb2
      refine hK _ _ ?_
      clear hK K
      refine wpAnyIn_ready (rs := [5]) (by kernel_rfl) (by simp) ?_
      refine AllReadyIn.cons rfl (fun K hK => ?_) AllReadyIn.nil
      go_simp
      refine hK _ _ ?_
      clear hK K
      refine wpAnyIn_done (by kernel_rfl) ?_ _
      refine ⟨HK4.out, HP4.out, some ⟨g4, 0, none⟩, c4, ?_⟩
      rw [HLN.out, HSN.out]
      exact ⟨⟨World.cell?_setCell_same' _ _ _ (by rw [hc4]; rfl), by simpa [World.frozen?_setCell] using hf4⟩, OwnEF.set HO4.out (by omega) _, HB4.out⟩
    refine AllReadyIn.cons rfl (fun K hK => ?_) AllReadyIn.nil
    go_simp
    refine hK _ _ ?_
    clear hK K
    · have hcy := cell_alloc_l (.cells #[.slice xa l1 xd, .int .u64 (es : Int), .int .u8 (ek.toNat : Int), .slice ya l2 yd] 44) hcz
      refine wpAnyIn_ready (rs := [0]) (by kernel_rfl) (by simp) ?_
      refine AllReadyIn.cons rfl (fun K hK => ?_) AllReadyIn.nil
      go_simp
      refine hK _ _ ?_
      clear hK K
      refine wpAnyIn_ready (rs := [4]) (by kernel_rfl) (by simp) ?_
      refine AllReadyIn.cons rfl (fun K hK => ?_) AllReadyIn.nil
      have hb2 : Below W.heap.size W w2 := ⟨HB2.out.os, HB2.out.tape, HB2.out.output, HB2.out.size, HB2.out.block⟩
      have hO5 := (HO.out.below hb2 (Nat.le_refl _)).below (below_box4 w2 (.cells #[.slice xa l1 xd, .int .u64 (es : Int), .int .u8 (ek.toNat : Int), .slice ya l2 yd] 44)) (Nat.le_refl _)
      have h3 := H3.out
      have hs2 := hb2.size
      refine step_pushE rfl (.tmp 8) (.tmp 11) rfl (eu, es, ek, ev) rfl rfl HLEN.out hO5 ⟨HRX.out.1, neb_of HRX.out.2 HLOW.out HRX.out.1, fun a n c e => by have h9 := HRX.out.2 a n c e; have h8 : W.drew.heap.size = W.heap.size := rfl; omega⟩ ⟨HRY.out.1, neb_of HRY.out.2 HLOW.out HRY.out.1, fun a n c e => by have h9 := HRY.out.2 a n c e; have h8 : W.drew.heap.size = W.heap.size := rfl; omega⟩ HMX.out (by omega) ?_
      intro g4 c4 w4 hO4 hgr
      obtain ⟨cs5, hrow5, _⟩ := hO5
      obtain ⟨hc4, hf4, hK4, hP4, hB4⟩ := push_round (v4 := .slice (some ⟨g4, 0, none⟩) (pre.length + 1) c4) HBW.out HC.out HF.out hrow5 hb2 h3 hgr w3.heap.size
      have HK4 : Hid _ := hK4
      have HP4 : Hid _ := hP4
      have HB4 : Hid _ := hB4
      have HO4 : Hid _ := hO4
      clear hK4 hP4 hB4 hO4 hgr hrow5 h3 hs2 hb2
      refine hK _ _ ?_
      clear hK K
      refine wpAnyIn_ready (rs := [5]) (by kernel_rfl) (by simp) ?_
      refine AllReadyIn.cons rfl (fun K hK => ?_) AllReadyIn.nil
      go_simp
      refine hK _ _ ?_
      clear hK K
      refine wpAnyIn_done (by kernel_rfl) ?_ _
      refine ⟨HK4.out, HP4.out, some ⟨g4, 0, none⟩, c4, ?_⟩
      rw [HLN.out, HSN.out]
      exact ⟨⟨World.cell?_setCell_same' _ _ _ (by rw [hc4]; rfl), by simpa [World.frozen?_setCell] using hf4⟩, OwnEF.set HO4.out (by omega) _, HB4.out⟩
  case done =>
    rintro D ys W hD hys ⟨va, vc, ⟨hc, hf⟩, hO, hBW⟩ hK
    rw [row_low HS.out.ht] at hys
    have hyl : ys.length = ts.length := by have := congrArg List.length hys; rwa [List.length_map] at this
    rw [hyl] at hc hO
    rw [hys] at hO
    have HO : Hid (OwnEF (w.heap.size + 3) W (.slice va ts.length vc) (esT ts)) := hO
    clear hO
    gi_wp2
    refine ⟨by simp, .inl ⟨_, _, rfl, run_takeDeferred hK, ?_⟩⟩
    refine ⟨.slice va ts.length vc, ?_, ⟨_, rfl, HO.out.aside (grownBy_putObj' _ D (.deferred none)) (fun r e => by cases e; exact .inr ⟨_, hK, rfl⟩), hBW.trans (belowK_b (w := w) (Nat.le_refl _) _ D _ _ (by omega) hK rfl rfl)⟩⟩
    simp [results, Try.f41, go_sem]
  case stop =>
    rintro D c pre W hD hpre hF hK
    exact hF.elim

end Go.Proofs.Ythcoblmfmbmdkaa
