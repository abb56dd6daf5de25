/- What is carried from world to world, in one piece. -/
import Derived.Test.YtlkfdiiapcipoaaBLast
namespace Go.Proofs.Ytlkfdiiapcipoaa
open Go.RowKit

abbrev Bx := Nat × Value × Value × Value

/-- an op in a block of its own -/
def BoxT (w : World) (t : Bx) : Prop := w.heap[t.1]? = some (.cells #[t.2.1, t.2.2.1, t.2.2.2] 27 (0, 0))

theorem BoxT.lt {w : World} {t : Bx} (h : BoxT w t) : t.1 < w.heap.size := (Array.getElem?_eq_some_iff.1 h).1

theorem BoxT.box {w : World} {t : Bx} (h : BoxT w t) : Box w t.1 t.2.1 t.2.2.1 t.2.2.2 := by
  have c := fun i => cell_of_row w t.1 i _ 27 (0, 0) h
  have f := fun i => frozen_of_row w t.1 i _ 27 h
  exact ⟨by rw [c]; rfl, by rw [c]; rfl, by rw [c]; rfl, f 0, f 1, f 2⟩

theorem BoxT.lit {w : World} {t : Bx} (h : BoxT w t) : ∀ j u, [t.2.1, t.2.2.1, t.2.2.2][j]? = some u → w.cell? ((⟨t.1, 0, none⟩ : Addr).add j) = some u := by
  intro j u hj
  have b := h.box
  match j, hj with
  | 0, hj => simp at hj; subst hj; rw [Addr.add_lit]; exact b.c0
  | 1, hj => simp at hj; subst hj; rw [Addr.add_lit]; exact b.c1
  | 2, hj => simp at hj; subst hj; rw [Addr.add_lit]; exact b.c2
  | (j + 3), hj => simp at hj

/-- boxes, slices of bytes, and a row of ops that lies elsewhere than the boxes -/
structure Bun (w W : World) (BX : List Bx) (SL : List (Value × List UInt8)) (cv : Value) (cs : List OpB) : Prop where
  bx : ∀ t ∈ BX, BoxT W t
  sl : ∀ p ∈ SL, OwnN w.heap.size W p.1 p.2
  co : OwnO w.heap.size W cv cs
  ne : ∀ t ∈ BX, some t.1 ≠ cv.ownBlock
  bel : Below w.heap.size w W

theorem Bun.below {w W W' : World} {BX : List Bx} {SL : List (Value × List UInt8)} {cv : Value} {cs : List OpB} (h : Bun w W BX SL cv cs) (hb : Below W.heap.size W W') : Bun w W' BX SL cv cs :=
  ⟨fun t ht => by have := h.bx t ht; unfold BoxT at *; rw [hb.block _ (BoxT.lt this)]; exact this, fun p hp => (h.sl p hp).below hb (Nat.le_refl _), h.co.below hb (Nat.le_refl _), h.ne, h.bel.trans (hb.mono h.bel.size)⟩

theorem Bun.drew {w W : World} {BX : List Bx} {SL : List (Value × List UInt8)} {cv : Value} {cs : List OpB} (h : Bun w W BX SL cv cs) : Bun w W.drew BX SL cv cs := ⟨h.bx, h.sl, h.co, h.ne, h.bel.drew⟩

theorem Bun.box {w W : World} {BX : List Bx} {SL : List (Value × List UInt8)} {cv : Value} {cs : List OpB} (h : Bun w W BX SL cv cs) (a b c : Value) : Bun w (W.alloc (.cells #[a, b, c] 27)) ((W.heap.size, a, b, c) :: BX) SL cv cs := by
  have h' := h.below (below_mark W (.cells #[a, b, c] 27))
  refine ⟨fun t ht => ?_, h'.sl, h'.co, fun t ht => ?_, h'.bel⟩
  · rcases List.mem_cons.1 ht with rfl | ht
    · exact heap_alloc_new W _
    · exact h'.bx t ht
  · rcases List.mem_cons.1 ht with rfl | ht
    · obtain ⟨cs, hr, _⟩ := h.co
      intro e
      have := (hr.lt _ e.symm).2
      simp at this
    · exact h.ne t ht

theorem Bun.boxAt {w W : World} {BX : List Bx} {SL : List (Value × List UInt8)} {cv : Value} {cs : List OpB} (h : Bun w W BX SL cv cs) (n : Nat) (hn : W.heap.size = n) (a b c : Value) : Bun w (W.alloc (.cells #[a, b, c] 27)) ((n, a, b, c) :: BX) SL cv cs := by
  subst hn
  exact h.box a b c

theorem Bun.sub {w W : World} {BX BX' : List Bx} {SL SL' : List (Value × List UInt8)} {cv : Value} {cs : List OpB} (h : Bun w W BX SL cv cs) (h1 : ∀ t ∈ BX', t ∈ BX) (h2 : ∀ p ∈ SL', p ∈ SL) : Bun w W BX' SL' cv cs :=
  ⟨fun t ht => h.bx t (h1 t ht), fun p hp => h.sl p (h2 p hp), h.co, fun t ht => h.ne t (h1 t ht), h.bel⟩

theorem boxT_set {W : World} {t : Bx} (h : BoxT W t) (u0 u1 u2 : Value) : BoxT (((W.setCell ⟨t.1, 0, none⟩ u0).setCell ⟨t.1, 1, none⟩ u1).setCell ⟨t.1, 2, none⟩ u2) (t.1, u0, u1, u2) := by
  unfold BoxT at *
  have h1 := heap_setCell_same W t.1 0 _ 27 u0 h
  have h2 := heap_setCell_same _ t.1 1 _ 27 u1 h1
  have h3 := heap_setCell_same _ t.1 2 _ 27 u2 h2
  simpa using h3

theorem own_other_box {B : Nat} {W : World} {v : Value} {l : List UInt8} {t : Bx} (h : OwnN B W v l) (ht : BoxT W t) : ∀ g n c, v = .slice (some ⟨g, 0, none⟩) n c → g ≠ t.1 := by
  intro g n c e hg
  subst e
  rcases h with h | ⟨g', cap, cur, e, _, hh, _⟩
  · cases h.1
  · cases e
    subst hg
    unfold BoxT at ht
    rw [ht] at hh
    simp at hh

theorem ownN_set {B : Nat} {W : World} {v : Value} {l : List UInt8} {b : Nat} (h : OwnN B W v l) (hne : ∀ g n c, v = .slice (some ⟨g, 0, none⟩) n c → g ≠ b) (i : Nat) (u : Value) : OwnN B (W.setCell ⟨b, i, none⟩ u) v l := by
  rcases h with h | h
  · exact .inl h
  · obtain ⟨g, c, rfl⟩ := h.shape
    exact .inr (h.other ⟨b, i, none⟩ (hne g _ c rfl) u)

theorem ownN_set3 {B : Nat} {W : World} {v : Value} {l : List UInt8} {t : Bx} (h : OwnN B W v l) (ht : BoxT W t) (u0 u1 u2 : Value) : OwnN B (((W.setCell ⟨t.1, 0, none⟩ u0).setCell ⟨t.1, 1, none⟩ u1).setCell ⟨t.1, 2, none⟩ u2) v l :=
  have hne := own_other_box h ht
  ownN_set (ownN_set (ownN_set h hne 0 u0) hne 1 u1) hne 2 u2

theorem row_set_other {W : World} {B n : Nat} {v u : Value} {xs : List Value} {p : Addr} (h : W.ownsRow B 27 3 v n xs) (hp : some p.block ≠ v.ownBlock) : (W.setCell p u).ownsRow B 27 3 v n xs := by
  obtain ⟨h1, h2⟩ := h
  refine ⟨h1, ?_⟩
  rcases h2 with h2 | ⟨g, cap, cur, rfl, hg, hh, r⟩
  · exact .inl h2
  · refine .inr ⟨g, cap, cur, rfl, hg, ?_, r⟩
    rw [Below.heap_setCell _ _ _ _ (by intro e; apply hp; rw [e]; rfl)]
    exact hh

theorem Bun.store {w W : World} {BX BX' : List Bx} {SL : List (Value × List UInt8)} {cv : Value} {cs : List OpB} (h : Bun w W BX SL cv cs) (t : Bx) (ht : t ∈ BX) (hw : w.heap.size ≤ t.1) (hBX : ∀ q ∈ BX', q ∈ BX ∧ q.1 ≠ t.1) (u0 u1 u2 : Value) :
    Bun w (((W.setCell ⟨t.1, 0, none⟩ u0).setCell ⟨t.1, 1, none⟩ u1).setCell ⟨t.1, 2, none⟩ u2) ((t.1, u0, u1, u2) :: BX') SL cv cs := by
  have hT := h.bx t ht
  refine ⟨fun q hq => ?_, fun p hp => ownN_set3 (h.sl p hp) hT u0 u1 u2, ?_, fun q hq => ?_, below_store3 h.bel hw u0 u1 u2⟩
  · rcases List.mem_cons.1 hq with rfl | hq
    · exact boxT_set hT u0 u1 u2
    · have h1 := h.bx q (hBX q hq).1
      have hne := (hBX q hq).2
      unfold BoxT at *
      rw [Below.heap_setCell _ _ _ _ (by simpa using hne), Below.heap_setCell _ _ _ _ (by simpa using hne), Below.heap_setCell _ _ _ _ (by simpa using hne)]
      exact h1
  · have hne := h.ne t ht
    obtain ⟨rs, hr, hel⟩ := h.co
    refine ⟨rs, row_set_other (row_set_other (row_set_other hr (p := ⟨t.1, 0, none⟩) hne) (p := ⟨t.1, 1, none⟩) hne) (p := ⟨t.1, 2, none⟩) hne, fun j hj => ?_⟩
    obtain ⟨x, y, c0, c1, c2, ox, oy⟩ := hel j hj
    exact ⟨x, y, c0, c1, c2, ownN_set3 ox hT u0 u1 u2, ownN_set3 oy hT u0 u1 u2⟩
  · rcases List.mem_cons.1 hq with rfl | hq
    · exact h.ne t ht
    · exact h.ne q (hBX q hq).1

/-- an op more, as one step of a region -/
theorem Bun.append {P : Program} {ops : Array Oper} {o : Oper} {a : Act} {K : Act → World → Prop} {Q : Exit → Act → World → Prop} {E : Prop} {w W : World} {BX : List Bx} {SL : List (Value × List UInt8)} {ca : Option Addr} {cc : Nat} {fs : List OpB} {L : Nat} {p : OpB} {x1 y1 : Option Addr} {x2 y2 : Nat}
    (hP : P = Try.prog) (h : Bun w W BX SL (.slice ca fs.length cc) fs) (hgd : o.guard = none) (s x : Operand) (ho : o.op = .call { callee := .builtin .append, args := #[s, x], argTypes := #[22, 22] })
    (hlit : (L, .int .u8 (p.1.toNat : Int), .slice x1 p.2.1.length x2, .slice y1 p.2.2.length y2) ∈ BX) (hpx : (.slice x1 p.2.1.length x2, p.2.1) ∈ SL) (hpy : (.slice y1 p.2.2.length y2, p.2.2) ∈ SL)
    (hs : a.eval s = .slice ca fs.length cc) (hx : a.eval x = .slice (some ⟨L, 0, none⟩) 1 1) (hn : fs.length ≤ 1000)
    (hK : ∀ g c W', Bun w W' BX SL (.slice (some ⟨g, 0, none⟩) (fs.length + 1) c) (fs ++ [p]) → K (a.put o.dst (.slice (some ⟨g, 0, none⟩) (fs.length + 1) c)) W') :
    if Region.wanted o (yielded ops a.tmps) = true then Oper.wp P o a W K Q else E := by
  subst hP
  obtain ⟨i0, hi, hz0, hz1, hz2⟩ := info_parts infoOp
  obtain ⟨rs, hrow, hel⟩ := h.co
  refine step_append_lies W hgd s x 22 ho w.heap.size 27 i0 (.agg #[.int .u8 0, .slice none 0 0, .slice none 0 0]) 3 56 Try.underlying22 hi hz0 hz1 hz2 rfl (by decide) (.slice ca fs.length cc) fs.length rs hs hrow ⟨L, 0, none⟩ 1 1 [.int .u8 (p.1.toNat : Int), .slice x1 p.2.1.length x2, .slice y1 p.2.2.length y2] hx rfl (h.bx _ hlit).lit (one3 _ _ _ _ _ _ _) (by decide) (by simp only [maxLen]; omega) (by omega) h.bel.size _ rfl ?_
  intro g c W' hown hgrow hat hlt
  refine hK g c W' ⟨fun t ht => ?_, fun q hq => (h.sl q hq).grownO hrow hgrow, own_push p hrow hel (h.sl _ hpx) (h.sl _ hpy) hown hgrow, fun t ht => ?_, h.bel.grown hgrow h.bel.size (fun k e => (hrow.lt k e).1)⟩
  · have h1 := h.bx t ht
    unfold BoxT at *
    rw [hgrow.block _ (BoxT.lt h1) (h.ne t ht)]
    exact h1
  · rcases hat with e | e
    · have := h.ne t ht
      rw [e] at this
      simpa [Value.ownBlock] using this
    · have := BoxT.lt (h.bx t ht)
      simp [Value.ownBlock]
      omega

end Go.Proofs.Ytlkfdiiapcipoaa
