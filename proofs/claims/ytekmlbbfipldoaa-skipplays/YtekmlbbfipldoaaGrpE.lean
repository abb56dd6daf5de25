/- Several texts in one. -/
import Derived.Test.YtekmlbbfipldoaaGrpB
import Derived.Test.YtekmlbbfipldoaaGrpD
import Derived.Test.YtekmlbbfipldoaaGrpC
import Derived.BigQuiet

/- Entries and versions of one's own are turned. -/
namespace Go.Proofs.Ytekmlbbfipldoaa
open Go.RowKit Go.Shelf
set_option linter.unusedVariables false

/-- a slice of bytes of the call's own, whichever they are -/
def SomeM (B : Nat) (w : World) (x : Value) : Prop := x = .slice none 0 0 ∨ ∃ g n c, x = .slice (some ⟨g, 0, none⟩) n c ∧ U8 w g n ∧ n ≤ c ∧ c ≤ maxLen ∧ B ≤ g

theorem someM_of {B : Nat} {w : World} {x : Value} {l : List UInt8} (h : OwnN B w x l) : SomeM B w x := by
  rcases h with h | h
  · exact .inl h.1
  · obtain ⟨g, c, rfl⟩ := h.shape
    have := u8_of_own h
    exact .inr ⟨g, _, c, rfl, this.1, this.2.1, this.2.2.1, this.2.2.2⟩

theorem SomeM.set {B : Nat} {w : World} {x : Value} (h : SomeM B w x) (g i : Nat) (b : UInt8) : SomeM B (w.setCell ⟨g, i, none⟩ (.int .u8 (b.toNat : Int))) x := by
  rcases h with h | ⟨g', n, c, e, h1, h2, h3, h4⟩
  · exact .inl h
  · exact .inr ⟨g', n, c, e, u8_set h1 g i b, h2, h3, h4⟩

theorem SomeM.below {B : Nat} {w w' : World} {x : Value} (h : SomeM B w x) (hb : Below w.heap.size w w') : SomeM B w' x := by
  rcases h with h | ⟨g', n, c, e, h1, h2, h3, h4⟩
  · exact .inl h
  · exact .inr ⟨g', n, c, e, u8_below h1 hb, h2, h3, h4⟩

theorem SomeM.mono {B C : Nat} {w : World} {x : Value} (h : SomeM B w x) (hC : C ≤ B) : SomeM C w x := by
  rcases h with h | ⟨g', n, c, e, h1, h2, h3, h4⟩
  · exact .inl h
  · exact .inr ⟨g', n, c, e, h1, h2, h3, by omega⟩

theorem SomeM.shape {B : Nat} {w : World} {x : Value} (h : SomeM B w x) : ∃ a n c, x = .slice a n c ∧ n ≤ 9223372036854775807 := by
  rcases h with h | ⟨g', n, c, e, h1, h2, h3, h4⟩
  · exact ⟨_, _, _, h, by omega⟩
  · unfold maxLen at h3
    exact ⟨_, _, _, e, by omega⟩

/-- they can be read, whichever they are -/
theorem SomeM.rd {B : Nat} {w : World} {x : Value} (h : SomeM B w x) : ∃ l, Rd w x l := by
  rcases h with h | ⟨g', n, c, e, ⟨cur, l, hg, hl, ht, hn⟩, h2, h3, h4⟩
  · exact ⟨[], .inl ⟨h, rfl⟩⟩
  · subst hl e
    refine ⟨l, .inr ⟨g', 0, c, rfl, h2, h3, fun j u hu => ?_⟩⟩
    rw [Nat.zero_add, cell_of_row w g' j cur 5 (0, 0) hg]
    have hj : j < l.length := by have := (List.getElem?_eq_some_iff.1 hu).1; rwa [bv_length] at this
    have h1 : (cur.toList.take l.length)[j]? = some u := by rw [ht]; exact hu
    rw [List.getElem?_take, if_pos hj] at h1
    simpa using h1

theorem row_set5 {B n s : Nat} {e : TypeId} {w : World} {v u : Value} {cs : List Value} (he : e ≠ 5) (h : w.ownsRow B e s v n cs) {g m : Nat} (hu : U8 w g m) (i : Nat) : (w.setCell ⟨g, i, none⟩ u).ownsRow B e s v n cs := by
  obtain ⟨h1, h2⟩ := h
  refine ⟨h1, ?_⟩
  rcases h2 with h2 | ⟨q, cap, cur, rfl, hB, hq, r⟩
  · exact .inl h2
  · refine .inr ⟨q, cap, cur, rfl, hB, ?_, r⟩
    have hne : q ≠ g := by
      rintro rfl
      obtain ⟨cur', l, hg, _⟩ := hu
      rw [hq] at hg
      simp at hg
      exact he hg.2
    rw [Below.heap_setCell _ _ _ _ (by simpa using hne)]
    exact hq

/-- entries of one's own, whichever bytes they hold -/
def RowE (B : Nat) (w : World) (v : Value) (es : List EnB) (cs : List Value) : Prop :=
  w.ownsRow B 38 4 v es.length cs ∧ ∀ j (h : j < es.length), ∃ x y, cs[j * 4]? = some x ∧ cs[j * 4 + 1]? = some (.int .u64 (es[j].2.1 : Int)) ∧ cs[j * 4 + 2]? = some (.int .u8 (es[j].2.2.1.toNat : Int)) ∧ cs[j * 4 + 3]? = some y ∧ SomeM B w x ∧ SomeM B w y

theorem RowE.of {B : Nat} {w : World} {v : Value} {es : List EnB} (h : OwnES B w v es) : ∃ cs, RowE B w v es cs := by
  obtain ⟨cs, hr, hj⟩ := h
  refine ⟨cs, hr, fun j h => ?_⟩
  obtain ⟨x, y, c0, c1, c2, c3, ox, oy⟩ := hj j h
  exact ⟨x, y, c0, c1, c2, c3, someM_of ox.2.2, someM_of oy.2.2⟩

theorem RowE.set {B : Nat} {w : World} {v : Value} {es : List EnB} {cs : List Value} (h : RowE B w v es cs) {g m : Nat} (hu : U8 w g m) (i : Nat) (b : UInt8) : RowE B (w.setCell ⟨g, i, none⟩ (.int .u8 (b.toNat : Int))) v es cs := by
  refine ⟨row_set5 (by decide) h.1 hu i, fun j hj => ?_⟩
  obtain ⟨x, y, c0, c1, c2, c3, ox, oy⟩ := h.2 j hj
  exact ⟨x, y, c0, c1, c2, c3, ox.set g i b, oy.set g i b⟩

theorem RowE.below {B : Nat} {w w' : World} {v : Value} {es : List EnB} {cs : List Value} (h : RowE B w v es cs) (hb : Below w.heap.size w w') : RowE B w' v es cs := by
  refine ⟨row_below h.1 hb, fun j hj => ?_⟩
  obtain ⟨x, y, c0, c1, c2, c3, ox, oy⟩ := h.2 j hj
  exact ⟨x, y, c0, c1, c2, c3, ox.below hb, oy.below hb⟩

theorem RowE.cells {B : Nat} {w : World} {g k : Nat} {es : List EnB} {cs : List Value} (h : RowE B w (.slice (some ⟨g, 0, none⟩) es.length k) es cs) (j : Nat) (hj : j < es.length) : ∃ x y, w.cell? ⟨g, j * 4, none⟩ = some x ∧ w.cell? ⟨g, j * 4 + 1, none⟩ = some (.int .u64 (es[j].2.1 : Int)) ∧ w.cell? ⟨g, j * 4 + 2, none⟩ = some (.int .u8 (es[j].2.2.1.toNat : Int)) ∧ w.cell? ⟨g, j * 4 + 3, none⟩ = some y ∧ SomeM B w x ∧ SomeM B w y := by
  obtain ⟨x, y, c0, c1, c2, c3, s1, s2⟩ := h.2 j hj
  have hc := h.1.cells (g := g) rfl
  refine ⟨x, y, ?_, ?_, ?_, ?_, s1, s2⟩
  · have := hc _ _ c0; rw [Addr.add_lit, Nat.zero_add] at this; exact this
  · have := hc _ _ c1; rw [Addr.add_lit, Nat.zero_add] at this; exact this
  · have := hc _ _ c2; rw [Addr.add_lit, Nat.zero_add] at this; exact this
  · have := hc _ _ c3; rw [Addr.add_lit, Nat.zero_add] at this; exact this

/-- versions of one's own, whichever bytes they hold -/
def RowK (B : Nat) (w : World) (v : Value) (ks : List KyT) (cs : List Value) : Prop :=
  w.ownsRow B 36 3 v ks.length cs ∧ ∀ j (h : j < ks.length), ∃ x, cs[j * 3]? = some x ∧ cs[j * 3 + 1]? = some (.int .u64 (ks[j].2.1 : Int)) ∧ cs[j * 3 + 2]? = some (.int .u8 (ks[j].2.2.toNat : Int)) ∧ SomeM B w x

theorem RowK.of {B : Nat} {w : World} {v : Value} {ks : List KyT} (h : OwnKS B w v ks) : ∃ cs, RowK B w v ks cs := by
  obtain ⟨cs, hr, hj⟩ := h
  refine ⟨cs, hr, fun j h => ?_⟩
  obtain ⟨x, c0, c1, c2, ox⟩ := hj j h
  exact ⟨x, c0, c1, c2, someM_of ox.2.2⟩

theorem RowK.set {B : Nat} {w : World} {v : Value} {ks : List KyT} {cs : List Value} (h : RowK B w v ks cs) {g m : Nat} (hu : U8 w g m) (i : Nat) (b : UInt8) : RowK B (w.setCell ⟨g, i, none⟩ (.int .u8 (b.toNat : Int))) v ks cs := by
  refine ⟨row_set5 (by decide) h.1 hu i, fun j hj => ?_⟩
  obtain ⟨x, c0, c1, c2, ox⟩ := h.2 j hj
  exact ⟨x, c0, c1, c2, ox.set g i b⟩

theorem RowK.below {B : Nat} {w w' : World} {v : Value} {ks : List KyT} {cs : List Value} (h : RowK B w v ks cs) (hb : Below w.heap.size w w') : RowK B w' v ks cs := by
  refine ⟨row_below h.1 hb, fun j hj => ?_⟩
  obtain ⟨x, c0, c1, c2, ox⟩ := h.2 j hj
  exact ⟨x, c0, c1, c2, ox.below hb⟩

theorem RowK.cells {B : Nat} {w : World} {g k : Nat} {ks : List KyT} {cs : List Value} (h : RowK B w (.slice (some ⟨g, 0, none⟩) ks.length k) ks cs) (j : Nat) (hj : j < ks.length) : ∃ x, w.cell? ⟨g, j * 3, none⟩ = some x ∧ w.cell? ⟨g, j * 3 + 1, none⟩ = some (.int .u64 (ks[j].2.1 : Int)) ∧ w.cell? ⟨g, j * 3 + 2, none⟩ = some (.int .u8 (ks[j].2.2.toNat : Int)) ∧ SomeM B w x := by
  obtain ⟨x, c0, c1, c2, s1⟩ := h.2 j hj
  have hc := h.1.cells (g := g) rfl
  refine ⟨x, ?_, ?_, ?_, s1⟩
  · have := hc _ _ c0; rw [Addr.add_lit, Nat.zero_add] at this; exact this
  · have := hc _ _ c1; rw [Addr.add_lit, Nat.zero_add] at this; exact this
  · have := hc _ _ c2; rw [Addr.add_lit, Nat.zero_add] at this; exact this

/-- a box that is none of bytes -/
structure Bx4 (w : World) (b : Nat) (v0 v1 v2 v3 : Value) : Prop where
  box : Box4 w b v0 v1 v2 v3
  blk : ∃ cur t, t ≠ 5 ∧ w.heap[b]? = some (.cells cur t (0, 0))

theorem bx4_new (w : World) (v0 v1 v2 v3 : Value) (t : TypeId) (ht : t ≠ 5) : Bx4 (w.alloc (.cells #[v0, v1, v2, v3] t)) w.heap.size v0 v1 v2 v3 :=
  ⟨box4_new w v0 v1 v2 v3 t, _, t, ht, heap_alloc_new w _⟩

theorem Bx4.below {w w' : World} {b : Nat} {v0 v1 v2 v3 : Value} (h : Bx4 w b v0 v1 v2 v3) (hb : Below w.heap.size w w') : Bx4 w' b v0 v1 v2 v3 := by
  obtain ⟨cur, t, ht, he⟩ := h.blk
  exact ⟨h.box.below hb (Nat.le_refl _), cur, t, ht, by rw [hb.block b (Array.getElem?_eq_some_iff.1 he).1]; exact he⟩

theorem Bx4.set {w : World} {b : Nat} {v0 v1 v2 v3 u : Value} (h : Bx4 w b v0 v1 v2 v3) {g m : Nat} (hu : U8 w g m) (i : Nat) : Bx4 (w.setCell ⟨g, i, none⟩ u) b v0 v1 v2 v3 := by
  obtain ⟨cur, t, ht, he⟩ := h.blk
  have hne : b ≠ g := by
    rintro rfl
    obtain ⟨cur', l, hg, _⟩ := hu
    rw [he] at hg
    simp at hg
    exact ht hg.2
  exact ⟨h.box.other ⟨g, i, none⟩ hne u, cur, t, ht, by rw [Below.heap_setCell _ _ _ _ (by simpa using hne)]; exact he⟩

structure Bx3 (w : World) (b : Nat) (v0 v1 v2 : Value) : Prop where
  box : Box w b v0 v1 v2
  blk : ∃ cur t, t ≠ 5 ∧ w.heap[b]? = some (.cells cur t (0, 0))

theorem bx3_new (w : World) (v0 v1 v2 : Value) (t : TypeId) (ht : t ≠ 5) : Bx3 (w.alloc (.cells #[v0, v1, v2] t)) w.heap.size v0 v1 v2 :=
  ⟨box_new w v0 v1 v2 t, _, t, ht, heap_alloc_new w _⟩

theorem Bx3.set {w : World} {b : Nat} {v0 v1 v2 u : Value} (h : Bx3 w b v0 v1 v2) {g m : Nat} (hu : U8 w g m) (i : Nat) : Bx3 (w.setCell ⟨g, i, none⟩ u) b v0 v1 v2 := by
  obtain ⟨cur, t, ht, he⟩ := h.blk
  have hne : b ≠ g := by
    rintro rfl
    obtain ⟨cur', l, hg, _⟩ := hu
    rw [he] at hg
    simp at hg
    exact ht hg.2
  exact ⟨h.box.other ⟨g, i, none⟩ hne u, cur, t, ht, by rw [Below.heap_setCell _ _ _ _ (by simpa using hne)]; exact he⟩

end Go.Proofs.Ytekmlbbfipldoaa

/- SkipApart. -/
namespace Go.Proofs.Ytekmlbbfipldoaa
open Go.RowKit Go.Shelf
set_option linter.unusedVariables false

theorem rowAny_shape {B n s : Nat} {e : TypeId} {w : World} {v : Value} {cs : List Value} (h : w.ownsRow B e s v n cs) : ∃ a c, v = .slice a n c ∧ n ≤ c ∧ c ≤ 9223372036854775807 ∧ (0 < n → ∃ g, a = some ⟨g, 0, none⟩) := by
  rcases h.2 with ⟨e1, hn⟩ | ⟨g, cap, cur, e1, _, _, h1, h2, _⟩
  · exact ⟨none, 0, by rw [e1, hn], by omega, by omega, fun h => by omega⟩
  · unfold maxLen at h2
    exact ⟨_, cap, e1, h1, h2, fun _ => ⟨g, rfl⟩⟩

theorem found_some {q : Option EnB} {w w' : World} {o : Ending} (h : FoundO q w w' o) : ∃ (xa ya : Option Addr) (xn xc yn yc : Nat) (sq sk : Int) (r : Bool), o = .returned (.tuple #[enV (.slice xa xn xc) sq sk (.slice ya yn yc), .bool r]) ∧ SomeM w.heap.size w' (.slice ya yn yc) ∧ yn ≤ 9223372036854775807 ∧ Below w.heap.size w w' := by
  obtain ⟨hb, h⟩ := h
  cases q with
  | none => exact ⟨none, none, 0, 0, 0, 0, 0, 0, false, h, .inl rfl, by omega, hb⟩
  | some e =>
    obtain ⟨x, y, rfl, rx, ry⟩ := h
    obtain ⟨xa, xc, rfl⟩ := rx.1.len
    have sy := someM_of ry.2
    obtain ⟨ya, yn, yc, rfl, hm⟩ := sy.shape
    exact ⟨xa, ya, _, xc, yn, yc, _, _, true, rfl, sy, hm, hb⟩

set_option maxRecDepth 100000 in
set_option maxHeartbeats 8000000 in
theorem skipApart_at (w : World) (a0 : Option Addr) (n0 c0 : Nat) (es : List PtB) (hv : ArgPt w (.slice a0 n0 c0) es) :
    Calls Try.prog 6 #[.slice a0 n0 c0] w fun e w' => e = .returned (.bool true) ∧ Below w.heap.size w w' := by
  have HV : Hid (ArgPt w (.slice a0 n0 c0) es) := hv
  clear hv
  go_enter Try.func6, Try.ntmps6
  go_wp2_with fail
  refine (skawake_any w).mono ?_
  rintro e w1 ⟨rfl, hb1⟩
  have HB1 : Hid (Below w.heap.size w w1) := hb1
  clear hb1
  go_wp2_with fail
  refine (sknew_any w1).mono ?_
  rintro e w2 ⟨rfl, hS2, hb2⟩
  have HB2 : Hid (Below w.heap.size w w2) := bsplit HB1.out hb2
  have HS2 : Hid (SkAt w2 w1.heap.size []) := hS2
  obtain ⟨l, hl⟩ : ∃ l, w1.heap.size = l := ⟨_, rfl⟩
  have HLW : Hid (w.heap.size ≤ l) := by show _ ≤ _; rw [← hl]; exact HB1.out.size
  have HL2 : Hid (l < w2.heap.size) := by
    show _ < _
    have h9 := (hS2.nod 0 (Nat.zero_le _)).lt
    rw [← hl]
    exact h9
  rw [hl] at HS2 ⊢
  clear hl hS2 hb2
  go_wp2_with fail
  refine (fewP_any w2 _ es (argPt_below HV.out HB2.out (Nat.le_refl _))).mono ?_
  rintro e wf ⟨fv, rfl, hO, hbf⟩
  have HOF : Hid (OwnPt (l + 1) wf fv (fewP es)) := hO.mono HL2.out
  have HF0 : Hid (Fill w wf l 0 wf []) := ⟨SkAt.below HS2.out hbf, fun t ht => by simp at ht, Nat.le_refl _, fun t ht => by simp at ht, Keeps.refl _ _, bsplit HB2.out hbf, fun t ht => by simp at ht⟩
  have HWF : Hid (w.heap.size ≤ wf.heap.size) := HF0.out.be.size
  obtain ⟨fa, fc, hfv, h1, h2, _⟩ := hO.rd
  subst hfv
  obtain ⟨ps, hps⟩ : ∃ ps, fewP es = ps := ⟨_, rfl⟩
  have HSH : Hid (∀ p ∈ ps, p.1.1.length ≤ 80 ∧ p.1.2.2.2.length ≤ 600) := by intro p hp; rw [← hps] at hp; exact fewP_short p hp
  have hp60 : ps.length ≤ 60 := by rw [← hps]; exact fewP_len es
  rw [hps] at HOF h1 ⊢
  obtain ⟨N, hN⟩ : ∃ N, ps.length = N := ⟨_, rfl⟩
  have HN : Hid (ps.length = N) := hN
  rw [hN] at h1 hp60 ⊢
  unfold maxLen at h2
  have HN60 : Hid (N ≤ 60) := hp60
  clear hO hbf hps hN hp60
  go_wp2_with fail
  go_loopg [22] N (fun gk iv wr => ∃ (j : Nat) (ts : List Tow), gk + j = N ∧ iv = .int .i64 (j : Int) ∧ Hid (Fill w wf l j wr ts))
  case atStart => exact ⟨0, [], by omega, rfl, HF0⟩
  case round =>
    obtain ⟨j, ts, hj, rfl, HF⟩ := hrel
    by_cases hlt : j < N
    · have hlt2 : j < ps.length := by rw [HN.out]; exact hlt
      obtain ⟨_, _, e, _, _, h3⟩ := (HF.out.row HOF.out).rd
      cases e
      obtain ⟨b, off, rfl, xv, yv, c0, c1, c2, c3, c4, rx, ry⟩ := h3 j hlt2
      obtain ⟨x1, x2, ex⟩ := rx.len
      obtain ⟨y1, y2, ey⟩ := ry.len
      subst ex ey
      have hsh := HSH.out _ (List.getElem_mem hlt2)
      obtain ⟨⟨e, oh⟩, ho⟩ : ∃ o, ps[j] = o := ⟨_, rfl⟩
      rw [ho] at c0 c1 c2 c3 c4 rx ry hsh
      obtain ⟨q1, q2⟩ : gk - 1 < gk ∧ gk - 1 + (j + 1) = N := by omega
      simp only at c0 c1 c2 c3 c4 rx ry hsh
      have hb0 := below_box4 wr (.cells #[.slice x1 e.1.length x2, .int .u64 (e.2.1 : Int), .int .u8 (e.2.2.1.toNat : Int), .slice y1 e.2.2.2.length y2, .int .i64 oh] 40)
      have HF1 : Hid _ := HF.out.below hb0
      have hcn := HF.out.cnt
      have hn9 := HN60.out
      have hin := skinsert_any _ l ts _ _ e oh HF1.out.sk (rx.below hb0 (Nat.le_refl _)) (ry.below hb0 (Nat.le_refl _)) (by omega) (by omega) (by omega)
      have HE : Hid (e.1.length ≤ 80 ∧ e.2.2.2.length ≤ 600) := hsh
      simp only [enV] at hin
      obtain ⟨kk, hkk⟩ : ∃ kk, e.2.2.1.toNat = kk := ⟨_, rfl⟩
      obtain ⟨nl, hnlq⟩ : ∃ nl, e.1.length = nl := ⟨_, rfl⟩
      obtain ⟨oln, holn⟩ : ∃ oln, e.2.2.2.length = oln := ⟨_, rfl⟩
      rw [hkk, hnlq, holn] at hin HF1
      rw [hkk] at c2
      rw [hnlq] at c0
      rw [holn] at c3
      clear ho hb0 h3 rx ry hsh hcn hn9 hkk hnlq holn
      go_wp2_with fail
      refine hin.mono ?_
      rintro e5 w5 hp5
      obtain ⟨cc, ts', rfl, hF5⟩ := HF1.out.ins HLW.out HWF.out HE.out hp5
      have HF5 : Hid (Fill w wf l (j + 1) w5 ts') := hF5
      clear hin hp5 hF5
      go_wp2_with fail
      go_roundg (gk - 1)
      case measure => exact q1
      case rel => exact ⟨j + 1, ts', q2, by go_num, HF5⟩
    · have hjN : j = N := by omega
      subst hjN
      have hall := skall_any wr l ts HF.out.sk HF.out.len
      have HLN : Hid (LenT ts 1000) := HF.out.len
      have HSM : Hid (∀ t ∈ ts, t.e.1.length ≤ 1000000 ∧ t.e.2.2.2.length ≤ 1000000) := fun t ht => by have := HF.out.len t ht; omega
      clear hj hlt h1 h2
      go_wp2_with fail
      refine hall.mono ?_
      rintro e w5 ⟨v5, rfl, hO5, hb5⟩
      have HS5 : Hid (SkAt w5 l ts) := HF.out.sk.below hb5
      have HB5 : Hid (Below w.heap.size w w5) := bsplit HF.out.be hb5
      have htw := twins_any w5 v5 (esT ts) (rdE_arg hO5.own.rd) (by rw [esT_len]; exact HF.out.sk.len) (fun e he => by
        unfold esT at he
        obtain ⟨t, ht, rfl⟩ := List.mem_map.1 he
        exact HSM.out t ht)
      obtain ⟨va5, vc5, hv5, _⟩ := hO5.own.rd
      subst hv5
      clear hall hb5 hO5
      go_wp2_with fail
      refine htw.mono ?_
      rintro e w7 ⟨v7, rfl, hO7, hb7⟩
      have HS7 : Hid (SkAt w7 l ts) := HS5.out.below hb7
      have HB7 : Hid (Below w.heap.size w w7) := bsplit HB5.out hb7
      have HE7 : Hid (RdE w7 v7 (esT ts)) := hO7.rd
      obtain ⟨va7, vc7, hv7, _⟩ := hO7.rd
      subst hv7
      have hall2 := skall_own w7 l ts HS7.out HLN.out
      clear htw hO7 hb7
      go_wp2_with fail
      refine hall2.mono ?_
      rintro e w8 ⟨v8, rfl, hO8, hb8⟩
      obtain ⟨cs, hR8⟩ := RowE.of hO8
      obtain ⟨va, vc, hv8, g1, g2, hva⟩ := rowAny_shape hR8.1
      subst hv8
      have HR8 : Hid (RowE (w7.heap.size + 3) w8 (.slice va (esT ts).length vc) (esT ts) cs) := hR8
      have HB8 : Hid (Below w7.heap.size w7 w8) := hb8
      have hml : (esT ts).length ≤ 1000 := by rw [esT_len]; exact HS7.out.len
      obtain ⟨M, hM⟩ : ∃ M, (esT ts).length = M := ⟨_, rfl⟩
      have HM : Hid ((esT ts).length = M) := hM
      have HVA : Hid (0 < (esT ts).length → ∃ g, va = some ⟨g, 0, none⟩) := hva
      rw [hM] at g1 hml ⊢
      clear hall2 hO8 hb8 hM hR8 hva
      go_wp2_with fail
      go_loopg [39] M (fun gk iv wr => ∃ j : Nat, gk + j = M ∧ iv = .int .i64 (j : Int) ∧ Hid (RowE (w7.heap.size + 3) wr (.slice va (esT ts).length vc) (esT ts) cs) ∧ Hid (Below w7.heap.size w7 wr))
      case atStart => exact ⟨0, by omega, rfl, HR8, HB8⟩
      case round =>
        obtain ⟨j, hj, rfl, HR, HB⟩ := hrel
        by_cases hlt2 : j < M
        · have hj2 : j < (esT ts).length := by rw [HM.out]; exact hlt2
          obtain ⟨g, hg⟩ := HVA.out (by omega)
          subst hg
          obtain ⟨G, hG⟩ : ∃ G, G = gk := ⟨_, rfl⟩
          subst hG
          obtain ⟨q1, q2⟩ : G - 1 < G ∧ G - 1 + (j + 1) = M := by omega
          obtain ⟨x, y, c0, c1, c2, c3, sx, sy⟩ := HR.out.cells j hj2
          obtain ⟨xa, xn, xc, ex, hxm⟩ := sx.shape
          obtain ⟨ya, yn, yc, ey, hym⟩ := sy.shape
          subst ex ey
          obtain ⟨⟨ku, ks, kd, kv⟩, hK⟩ : ∃ K, (esT ts)[j] = K := ⟨_, rfl⟩
          rw [hK] at c1 c2
          simp only at c1 c2
          obtain ⟨lx, rdx⟩ := sx.rd
          have hb9 := below_box4 wr (.cells #[.slice xa xn xc, .int .u64 (ks : Int), .int .u8 (kd.toNat : Int), .slice ya yn yc] 38)
          have bx9 := bx4_new wr (.slice xa xn xc) (.int .u64 (ks : Int)) (.int .u8 (kd.toNat : Int)) (.slice ya yn yc) 38 (by decide)
          have hB9 := bsplit HB.out hb9
          have hfr := skfrom_own _ l ts (.slice xa xn xc) (lx, ks, kd, []) (SkAt.below HS7.out hB9) (rdx.below hb9 (Nat.le_refl _)) HSM.out
          simp only at hfr
          have HR9 : Hid (RowE (w7.heap.size + 3) _ (.slice (some ⟨g, 0, none⟩) (esT ts).length vc) (esT ts) cs) := HR.out.below hb9
          have HSX9 : Hid (SomeM (w7.heap.size + 3) _ (.slice xa xn xc)) := sx.below hb9
          obtain ⟨kk, hkk⟩ : ∃ n, kd.toNat = n := ⟨_, rfl⟩
          rw [hkk] at c2 bx9 hB9 hfr HR9 HSX9
          have HX9 : Hid (Bx4 _ _ (.slice xa xn xc) (.int .u64 (ks : Int)) (.int .u8 (kk : Int)) (.slice ya yn yc)) := bx9
          have HB9 : Hid (Below w7.heap.size w7 (wr.alloc (.cells #[.slice xa xn xc, .int .u64 (ks : Int), .int .u8 (kk : Int), .slice ya yn yc] 38))) := hB9
          obtain ⟨wo, hwo⟩ : ∃ wo, wo = wr := ⟨_, rfl⟩
          subst hwo
          clear hb9 bx9 hB9 sx sy rdx hK hkk HR HB hj
          go_wp2_with fail
          refine hfr.mono ?_
          rintro o w9 hq
          obtain ⟨xa2, ya2, xn2, xc2, yn2, yc2, sq, sk, r, rfl, hsy, hyn2, hb10⟩ := found_some hq
          simp only [enV]
          have hb11 := below_box4 w9 (.cells #[.slice xa2 xn2 xc2, .int .u64 sq, .int .u8 sk, .slice ya2 yn2 yc2] 38)
          have bx11 := bx4_new w9 (.slice xa2 xn2 xc2) (.int .u64 sq) (.int .u8 sk) (.slice ya2 yn2 yc2) 38 (by decide)
          have HX11 : Hid (Bx4 _ _ (.slice xa2 xn2 xc2) (.int .u64 sq) (.int .u8 sk) (.slice ya2 yn2 yc2)) := bx11
          have HX8 : Hid (Bx4 _ _ (.slice xa xn xc) (.int .u64 (ks : Int)) (.int .u8 (kk : Int)) (.slice ya yn yc)) := (HX9.out.below hb10).below hb11
          have HR11 : Hid (RowE (w7.heap.size + 3) _ (.slice (some ⟨g, 0, none⟩) (esT ts).length vc) (esT ts) cs) := (HR9.out.below hb10).below hb11
          have HSX : Hid (SomeM (w7.heap.size + 3) _ (.slice xa xn xc)) := (HSX9.out.below hb10).below hb11
          have HSY : Hid (SomeM w7.heap.size _ (.slice ya2 yn2 yc2)) := (hsy.mono HB9.out.size).below hb11
          have HB11 : Hid (Below w7.heap.size w7 _) := bsplit (bsplit HB9.out hb10) hb11
          obtain ⟨f0, f1, f2, f3⟩ := bx11.box
          clear hfr hq hsy hb10 hb11 bx11 c0 c1 c2 c3
          go_wp2_with fail
          clear f0 f1 f2 f3
          go_loopg [53] yn2 (fun gk iv wr => ∃ i : Nat, gk + i = yn2 ∧ iv = .int .i64 (i : Int) ∧ Hid (RowE (w7.heap.size + 3) wr (.slice (some ⟨g, 0, none⟩) (esT ts).length vc) (esT ts) cs) ∧ Hid (Bx4 wr wo.heap.size (.slice xa xn xc) (.int .u64 (ks : Int)) (.int .u8 (kk : Int)) (.slice ya yn yc)) ∧ Hid (Bx4 wr w9.heap.size (.slice xa2 xn2 xc2) (.int .u64 sq) (.int .u8 sk) (.slice ya2 yn2 yc2)) ∧ Hid (SomeM (w7.heap.size + 3) wr (.slice xa xn xc)) ∧ Hid (SomeM w7.heap.size wr (.slice ya2 yn2 yc2)) ∧ Hid (Below w7.heap.size w7 wr))
          case atStart => exact ⟨0, by omega, rfl, HR11, HX8, HX11, HSX, HSY, HB11⟩
          case round =>
            clear HR11 HX8 HX11 HSX HSY HB11 HX9 HR9 HSX9
            obtain ⟨i, hi, rfl, HR, HX8, HX11, HSX, HSY, HB⟩ := hrel
            by_cases hlt3 : i < yn2
            · obtain ⟨p1, p2⟩ : gk - 1 < gk ∧ gk - 1 + (i + 1) = yn2 := by omega
              rcases HSY.out with h | ⟨gx, n, c', e, hu, h1, h2, h3⟩
              · cases h
                omega
              · cases e
                unfold maxLen at h2
                obtain ⟨b, hcx, hfx⟩ := u8_cell hu i hlt3
                have hxb := b.toNat_lt
                have hx1 := xor_one b
                have HQ1 : Hid (RowE _ _ _ _ _) := HR.out.set hu i (b ^^^ 1)
                have HQ2 : Hid (Bx4 _ _ _ _ _ _) := HX8.out.set (u := .int .u8 ((b ^^^ 1).toNat : Int)) hu i
                have HQ3 : Hid (Bx4 _ _ _ _ _ _) := HX11.out.set (u := .int .u8 ((b ^^^ 1).toNat : Int)) hu i
                have HQ4 : Hid (SomeM _ _ _) := HSX.out.set gx i (b ^^^ 1)
                have HQ5 : Hid (SomeM _ _ _) := HSY.out.set gx i (b ^^^ 1)
                have HQ6 : Hid (Below w7.heap.size w7 _) := HB.out.setCell (p := ⟨gx, i, none⟩) h3 (.int .u8 ((b ^^^ 1).toNat : Int))
                obtain ⟨f0, f1, f2, f3⟩ := HX11.out.box
                clear HR HX8 HX11 HSX HSY HB hu hi
                go_wp2
                go_roundg (gk - 1)
                case measure => exact p1
                case rel => exact ⟨i + 1, p2, by go_num, HQ1, HQ2, HQ3, HQ4, HQ5, HQ6⟩
            · obtain rfl : i = yn2 := by omega
              obtain ⟨f0, f1, f2, f3⟩ := HX8.out.box
              clear hi hlt3
              go_wp2_with fail
              clear f0 f1 f2 f3
              go_loopg [68] xn (fun gk iv wr => ∃ i : Nat, gk + i = xn ∧ iv = .int .i64 (i : Int) ∧ Hid (RowE (w7.heap.size + 3) wr (.slice (some ⟨g, 0, none⟩) (esT ts).length vc) (esT ts) cs) ∧ Hid (Bx4 wr wo.heap.size (.slice xa xn xc) (.int .u64 (ks : Int)) (.int .u8 (kk : Int)) (.slice ya yn yc)) ∧ Hid (SomeM (w7.heap.size + 3) wr (.slice xa xn xc)) ∧ Hid (Below w7.heap.size w7 wr))
              case atStart => exact ⟨0, by omega, rfl, HR, HX8, HSX, HB⟩
              case round =>
                clear HR HX8 HSX HB HX11 HSY
                obtain ⟨i', hi, rfl, HR, HX8, HSX, HB⟩ := hrel
                by_cases hlt3 : i' < xn
                · obtain ⟨p1, p2⟩ : gk - 1 < gk ∧ gk - 1 + (i' + 1) = xn := by omega
                  rcases HSX.out with h | ⟨gx, n, c', e, hu, h1, h2, h3⟩
                  · cases h
                    omega
                  · cases e
                    unfold maxLen at h2
                    obtain ⟨b, hcx, hfx⟩ := u8_cell hu i' hlt3
                    have hxb := b.toNat_lt
                    have hx1 := xor_one b
                    have HQ1 : Hid (RowE _ _ _ _ _) := HR.out.set hu i' (b ^^^ 1)
                    have HQ2 : Hid (Bx4 _ _ _ _ _ _) := HX8.out.set (u := .int .u8 ((b ^^^ 1).toNat : Int)) hu i'
                    have HQ4 : Hid (SomeM _ _ _) := HSX.out.set gx i' (b ^^^ 1)
                    have HQ6 : Hid (Below w7.heap.size w7 _) := HB.out.setCell (p := ⟨gx, i', none⟩) (show w7.heap.size ≤ gx by omega) (.int .u8 ((b ^^^ 1).toNat : Int))
                    obtain ⟨f0, f1, f2, f3⟩ := HX8.out.box
                    clear HR HX8 HSX HB hu hi
                    go_wp2
                    go_roundg (gk - 1)
                    case measure => exact p1
                    case rel => exact ⟨i' + 1, p2, by go_num, HQ1, HQ2, HQ4, HQ6⟩
                · clear hi HX8 HSX
                  go_wp2
                  go_roundg (G - 1)
                  case measure => exact q1
                  case rel => exact ⟨j + 1, q2, by go_num, HR, HB⟩
        · have hrow := skrows_own wr l ts (SkAt.below HS7.out HB.out) HLN.out 1 0 rfl (by omega)
          have HBL : Hid (w7.heap.size ≤ wr.heap.size + 3) := by show _ ≤ _; have := HB.out.size; omega
          obtain ⟨Bk, hBk⟩ : ∃ Bk, wr.heap.size + 3 = Bk := ⟨_, rfl⟩
          rw [hBk] at hrow HBL
          clear hj hBk HR HR8
          go_wp2_with fail
          refine hrow.mono ?_
          rintro e w11 ⟨v11, rfl, hO11, hb11⟩
          obtain ⟨ck, hR11⟩ := RowK.of hO11
          obtain ⟨ka, kc, hv11, k1, k2, hka⟩ := rowAny_shape hR11.1
          subst hv11
          have HR11 : Hid (RowK Bk w11 (.slice ka (ksT (rowT ts 0)).length kc) (ksT (rowT ts 0)) ck) := hR11
          have HB11 : Hid (Below w7.heap.size w7 w11) := bsplit HB.out hb11
          obtain ⟨M2, hM2⟩ : ∃ M, (ksT (rowT ts 0)).length = M := ⟨_, rfl⟩
          have HM2 : Hid ((ksT (rowT ts 0)).length = M2) := hM2
          have HKA : Hid (0 < (ksT (rowT ts 0)).length → ∃ g, ka = some ⟨g, 0, none⟩) := hka
          rw [hM2] at k1 ⊢
          clear hrow hO11 hb11 hM2 hR11 hka HB
          go_wp2_with fail
          go_loopg [84] M2 (fun gk iv wr => ∃ j : Nat, gk + j = M2 ∧ iv = .int .i64 (j : Int) ∧ Hid (RowK Bk wr (.slice ka (ksT (rowT ts 0)).length kc) (ksT (rowT ts 0)) ck) ∧ Hid (Below w7.heap.size w7 wr))
          case atStart => exact ⟨0, by omega, rfl, HR11, HB11⟩
          case round =>
            clear HR11 HB11
            obtain ⟨j, hj, rfl, HR, HB⟩ := hrel
            by_cases hlt2 : j < M2
            · have hj2 : j < (ksT (rowT ts 0)).length := by rw [HM2.out]; exact hlt2
              obtain ⟨g, hg⟩ := HKA.out (by omega)
              subst hg
              obtain ⟨G, hG⟩ : ∃ G, G = gk := ⟨_, rfl⟩
              subst hG
              obtain ⟨q1, q2⟩ : G - 1 < G ∧ G - 1 + (j + 1) = M2 := by omega
              obtain ⟨x, c0, c1, c2, sx⟩ := HR.out.cells j hj2
              obtain ⟨xa, xn, xc, ex, hxm⟩ := sx.shape
              subst ex
              obtain ⟨⟨ku, ks, kd⟩, hK⟩ : ∃ K, (ksT (rowT ts 0))[j] = K := ⟨_, rfl⟩
              rw [hK] at c1 c2
              simp only at c1 c2
              obtain ⟨kk, hkk⟩ : ∃ n, kd.toNat = n := ⟨_, rfl⟩
              rw [hkk] at c2
              have hb9 := below_box4 wr (.cells #[.slice xa xn xc, .int .u64 (ks : Int), .int .u8 (kk : Int)] 36)
              have bx9 := bx3_new wr (.slice xa xn xc) (.int .u64 (ks : Int)) (.int .u8 (kk : Int)) 36 (by decide)
              have HX9 : Hid (Bx3 _ _ (.slice xa xn xc) (.int .u64 (ks : Int)) (.int .u8 (kk : Int))) := bx9
              have HB9 : Hid (Below w7.heap.size w7 _) := bsplit HB.out hb9
              have HR9 : Hid (RowK Bk _ (.slice (some ⟨g, 0, none⟩) (ksT (rowT ts 0)).length kc) (ksT (rowT ts 0)) ck) := HR.out.below hb9
              have HSX9 : Hid (SomeM Bk _ (.slice xa xn xc)) := sx.below hb9
              obtain ⟨wo, hwo⟩ : ∃ wo, wo = wr := ⟨_, rfl⟩
              subst hwo
              obtain ⟨f0, f1, f2, _⟩ := bx9.box
              clear hb9 bx9 sx hK hkk HR HB hj
              go_wp2_with fail
              clear f0 f1 f2
              go_loopg [91] xn (fun gk iv wr => ∃ i : Nat, gk + i = xn ∧ iv = .int .i64 (i : Int) ∧ Hid (RowK Bk wr (.slice (some ⟨g, 0, none⟩) (ksT (rowT ts 0)).length kc) (ksT (rowT ts 0)) ck) ∧ Hid (Bx3 wr wo.heap.size (.slice xa xn xc) (.int .u64 (ks : Int)) (.int .u8 (kk : Int))) ∧ Hid (SomeM Bk wr (.slice xa xn xc)) ∧ Hid (Below w7.heap.size w7 wr))
              case atStart => exact ⟨0, by omega, rfl, HR9, HX9, HSX9, HB9⟩
              case round =>
                clear HR9 HX9 HSX9 HB9 c0 c1 c2
                obtain ⟨i, hi, rfl, HR, HX8, HSX, HB⟩ := hrel
                by_cases hlt3 : i < xn
                · obtain ⟨p1, p2⟩ : gk - 1 < gk ∧ gk - 1 + (i + 1) = xn := by omega
                  rcases HSX.out with h | ⟨gx, n, c', e, hu, h1, h2, h3⟩
                  · cases h
                    omega
                  · cases e
                    unfold maxLen at h2
                    obtain ⟨b, hcx, hfx⟩ := u8_cell hu i hlt3
                    have hxb := b.toNat_lt
                    have hx1 := xor_one b
                    have HQ1 : Hid (RowK _ _ _ _ _) := HR.out.set hu i (b ^^^ 1)
                    have HQ2 : Hid (Bx3 _ _ _ _ _) := HX8.out.set (u := .int .u8 ((b ^^^ 1).toNat : Int)) hu i
                    have HQ4 : Hid (SomeM _ _ _) := HSX.out.set gx i (b ^^^ 1)
                    have HQ6 : Hid (Below w7.heap.size w7 _) := HB.out.setCell (p := ⟨gx, i, none⟩) (show w7.heap.size ≤ gx from Nat.le_trans HBL.out h3) (.int .u8 ((b ^^^ 1).toNat : Int))
                    obtain ⟨f0, f1, f2, _⟩ := HX8.out.box
                    clear HR HX8 HSX HB hu hi
                    go_wp2
                    go_roundg (gk - 1)
                    case measure => exact p1
                    case rel => exact ⟨i + 1, p2, by go_num, HQ1, HQ2, HQ4, HQ6⟩
                · clear hi HX8 HSX
                  go_wp2
                  go_roundg (G - 1)
                  case measure => exact q1
                  case rel => exact ⟨j + 1, q2, by go_num, HR, HB⟩
            · have hall9 := skall_any wr l ts (SkAt.below HS7.out HB.out) HLN.out
              clear hj HR
              go_wp2_with fail
              refine hall9.mono ?_
              rintro e w12 ⟨v12, rfl, hO12, hb12⟩
              have HB12 : Hid (Below w7.heap.size w7 w12) := bsplit HB.out hb12
              have hsm := sameens_any w12 v12 _ (esT ts) (esT ts) true hO12.own.rd (rdE_below (show RdE w7 _ (esT ts) from HE7.out) HB12.out (Nat.le_refl _)) (by simp)
              obtain ⟨va12, vc12, hv12, _⟩ := hO12.own.rd
              subst hv12
              rw [HM.out] at hsm ⊢
              clear hall9 hO12 hb12
              go_wp2_with fail
              refine hsm.mono ?_
              rintro e w13 ⟨rfl, hb13⟩
              have HB13 : Hid (Below w.heap.size w w13) := bsplit (bsplit HB7.out HB12.out) hb13
              go_wp2
              go_ret
              exact ⟨rfl, HB13.out⟩

theorem skipApart_walk (a0 : Option Addr) (len0 cap0 : Nat) (z0 : List PtB) (w : World) (w0 : ArgPt w (.slice a0 len0 cap0) z0 ∧ True) :
    Calls Try.prog 6 #[.slice a0 len0 cap0] w fun e w' => e = .returned (.bool true) ∧ Below w.heap.size w w' := skipApart_at w a0 len0 cap0 z0 w0.1

end Go.Proofs.Ytekmlbbfipldoaa

/- bartizanref08.Insert. -/
namespace Go.Proofs.Ytekmlbbfipldoaa
open Go.RowKit Go.Shelf
set_option linter.unusedVariables false

theorem info3i : (Try.prog.info? 3).map (fun i => (i.zero, i.size, i.bytes)) = some (some (.int .i64 0), 1, 8) := by kernel_rfl

theorem held19 {w W : World} {b bx sz : Nat} {v x0 x1 x2 x3 : Value} (hb : Below sz w W) (hbz : b < sz) (hbx : bx < sz) (D : w.cell? ⟨b, 0, none⟩ = some v) (B : Box4 w bx x0 x1 x2 x3) :
    W.cell? ⟨b, 0, none⟩ = some v ∧ W.cell? ⟨bx, 0, none⟩ = some x0 ∧ W.cell? ⟨bx, 1, none⟩ = some x1 ∧ W.cell? ⟨bx, 2, none⟩ = some x2 ∧ W.cell? ⟨bx, 3, none⟩ = some x3 :=
  ⟨(hb.cell (p := ⟨b, 0, none⟩) hbz).trans D, (hb.cell (p := ⟨bx, 0, none⟩) hbx).trans B.c0, (hb.cell (p := ⟨bx, 1, none⟩) hbx).trans B.c1, (hb.cell (p := ⟨bx, 2, none⟩) hbx).trans B.c2, (hb.cell (p := ⟨bx, 3, none⟩) hbx).trans B.c3⟩

/-- what the document's Insert answers, and leaves -/
def InsRef (G : Nat → Prop) (b : Nat) (L : List EnB) (H : List Int) (e : EnB) (hh : Int) (w w' : World) (o : Ending) : Prop :=
  (¬ chkSk e hh = 0 ∧ o = .returned (.int .i64 (chkSk e hh)) ∧ Below w.heap.size w w') ∨
  (chkSk e hh = 0 ∧ anyE L e = true ∧ o = .returned (.int .i64 7) ∧ Below w.heap.size w w') ∨
  (chkSk e hh = 0 ∧ anyE L e = false ∧ o = .returned (.int .i64 0) ∧ Keeps (fun i => i = b) w w' ∧ RefAt (fun i => G i ∨ (w.heap.size ≤ i ∧ i < w'.heap.size)) w' b (L.take (cntE L e) ++ e :: L.drop (cntE L e)) (H.take (cntE L e) ++ hh :: H.drop (cntE L e)))

/-- between the two stores: the entries are the new ones, the heights the old ones -/
structure Mid19 (G : Nat → Prop) (w w8 : World) (b : Nat) (L : List EnB) (e : EnB) (k n g3 c3 : Nat) (ha : Option Addr) (hc : Nat) (wx : World) : Prop where
  kp : Keeps (fun i => i = b) w8 wx
  c0 : wx.cell? ⟨b, 0, none⟩ = some (.slice (some ⟨g3, 0, none⟩) (n + 1) c3)
  c1 : wx.cell? ⟨b, 1, none⟩ = some (.slice ha n hc)
  blk : ∃ ca ty, ty ≠ 5 ∧ wx.heap[b]? = some (.cells ca ty (0, 0))
  row : RowL (fun i => (G i ∨ (w.heap.size ≤ i ∧ i < wx.heap.size)) ∧ i ≠ b) wx (.slice (some ⟨g3, 0, none⟩) (n + 1) c3) (L.take k ++ e :: L.drop k)

theorem row_cap {B n s g c : Nat} {e : TypeId} {w : World} {cs : List Value} (h : w.ownsRow B e s (.slice (some ⟨g, 0, none⟩) n c) n cs) : n ≤ c ∧ c ≤ 9223372036854775807 := by
  rcases h.2 with ⟨e1, _⟩ | ⟨g', cap, cur, e1, _, _, h1, h2, _⟩
  · cases e1
  · cases e1
    unfold maxLen at h2
    exact ⟨h1, h2⟩

theorem ownN_blk {B : Nat} {w : World} {x : Value} {l : List UInt8} (h : OwnN B w x l) : ∀ q, x.ownBlock = some q → B ≤ q ∧ q < w.heap.size := fun q hq => by
  rcases h with ⟨e, _⟩ | h
  · rw [e] at hq; cases hq
  · exact h.row.lt q hq

theorem blk_till {w w7 : World} {b sz : Nat} (p8 : Below sz w w7) (hb : b < sz) (h : ∃ ca ty, ty ≠ 5 ∧ w.heap[b]? = some (.cells ca ty (0, 0))) (i : Nat) (v : Value) : ∃ ca ty, ty ≠ 5 ∧ (w7.setCell ⟨b, i, none⟩ v).heap[b]? = some (.cells ca ty (0, 0)) := by
  obtain ⟨ca, ty, ht, hc⟩ := h
  have h7 : w7.heap[b]? = some (.cells ca ty (0, 0)) := by rw [p8.block b hb]; exact hc
  exact ⟨_, ty, ht, heap_setCell_same w7 b i ca ty v h7⟩

theorem mid19 {G : Nat → Prop} {w w8 w7 : World} {b sz k n g3 c3 B5 hc : Nat} {ha : Option Addr} {L : List EnB} {e : EnB} {cs : List Value} {x0 y0 u1 u2 v0 : Value} (hsz : w8.heap.size = sz) (hb : b < sz) (hw8 : w.heap.size ≤ w8.heap.size) (hC : CellsR (RdG (fun i => G i ∧ i ≠ b) w8) cs L) (hn : L.length = n) (hk : k ≤ n) (p8 : Below sz w8 w7)
    (D1 : w8.cell? ⟨b, 1, none⟩ = some (.slice ha n hc)) (f0 : w7.cell? ⟨b, 0, none⟩ = some v0) (hw3 : w7.ownsRow sz 38 4 (.slice (some ⟨g3, 0, none⟩) (n + 1) c3) (n + 1) ((([] ++ cs.take (k * 4)) ++ [x0, u1, u2, y0]) ++ cs.drop (k * 4)))
    (hu1 : u1 = .int .u64 (e.2.1 : Int)) (hu2 : u2 = .int .u8 (e.2.2.1.toNat : Int)) (ox : OwnN B5 w7 x0 e.1) (oy : OwnN B5 w7 y0 e.2.2.2) (hB : sz ≤ B5) (hblk : ∃ ca ty, ty ≠ 5 ∧ w8.heap[b]? = some (.cells ca ty (0, 0))) :
    Mid19 G w w8 b L e k n g3 c3 ha hc (w7.setCell ⟨b, 0, none⟩ (.slice (some ⟨g3, 0, none⟩) (n + 1) c3)) := by
  subst hu1 hu2
  have p8' : Below w8.heap.size w8 w7 := by rw [hsz]; exact p8
  have kpx : Keeps (fun i => i = b) w8 (w7.setCell ⟨b, 0, none⟩ (.slice (some ⟨g3, 0, none⟩) (n + 1) c3)) := Keeps.setCell (F := fun i => i = b) (Below.keeps p8' _) (p := ⟨b, 0, none⟩) rfl _
  have kp7 : Keeps (fun i => i = b) w7 (w7.setCell ⟨b, 0, none⟩ (.slice (some ⟨g3, 0, none⟩) (n + 1) c3)) := Keeps.setCell (F := fun i => i = b) (Keeps.refl _ _) (p := ⟨b, 0, none⟩) rfl _
  have hs7 := p8'.size
  have hss : (w7.setCell ⟨b, 0, none⟩ (.slice (some ⟨g3, 0, none⟩) (n + 1) c3)).heap.size = w7.heap.size := by simp
  have d1 : w7.cell? ⟨b, 1, none⟩ = some (.slice ha n hc) := (p8.cell (p := ⟨b, 1, none⟩) hb).trans D1
  refine ⟨kpx, World.cell?_setCell_same' _ _ _ (by rw [f0]; rfl), by simp [go_sem, d1], blk_till p8 hb hblk _ _, ?_⟩
  have hg := hw3.lt g3 rfl
  refine ⟨fun q hq => ?_, (([] ++ cs.take (k * 4)) ++ [x0, .int .u64 (e.2.1 : Int), .int .u8 (e.2.2.1.toNat : Int), y0]) ++ cs.drop (k * 4), ?_, ?_⟩
  · have hq' : g3 = q := by simpa [Value.ownBlock] using hq
    subst hq'
    exact ⟨.inr ⟨by omega, by omega⟩, by omega⟩
  · have hll : (L.take k ++ e :: L.drop k).length = n + 1 := by simp; omega
    rw [hll]
    exact row_mono (row_keeps hw3 kp7 (fun i hi => .inl (by omega))) (Nat.zero_le _)
  · have hnew : ∀ (x : Value) (l : List UInt8), OwnN B5 w7 x l → RdG (fun i => (G i ∨ (w.heap.size ≤ i ∧ i < (w7.setCell ⟨b, 0, none⟩ (.slice (some ⟨g3, 0, none⟩) (n + 1) c3)).heap.size)) ∧ i ≠ b) (w7.setCell ⟨b, 0, none⟩ (.slice (some ⟨g3, 0, none⟩) (n + 1) c3)) x l := fun x l h => by
      have hbq := ownN_blk h
      refine ⟨rd_keep h.rd kp7 (fun q hq e => ?_), fun q hq => ⟨.inr ⟨?_, ?_⟩, ?_⟩⟩
      · have := hbq q hq; omega
      · have := hbq q hq; omega
      · have := hbq q hq; omega
      · have := hbq q hq; omega
    have hold : CellsR (RdG (fun i => (G i ∨ (w.heap.size ≤ i ∧ i < (w7.setCell ⟨b, 0, none⟩ (.slice (some ⟨g3, 0, none⟩) (n + 1) c3)).heap.size)) ∧ i ≠ b) (w7.setCell ⟨b, 0, none⟩ (.slice (some ⟨g3, 0, none⟩) (n + 1) c3))) cs L :=
      hC.imp (fun x l hx => (hx.keeps kpx (fun i hi e => hi.2 e)).mono (fun i hi => ⟨.inl hi.1, hi.2⟩))
    have h9 := ((hold.take k (by omega)).append (CellsR.one e (hnew _ _ ox) (hnew _ _ oy))).append (hold.drop k (by omega))
    rw [List.nil_append]
    rw [List.append_assoc (L.take k)] at h9
    exact h9

theorem zv_len (H : List Int) : (zv H).length = H.length := by unfold zv; rw [List.length_map]

/-- behind the second store -/
theorem fin20 {G : Nat → Prop} {w w8 wc w7 : World} {b sz k n g3 c3 g5 c5 hc : Nat} {ha : Option Addr} {L : List EnB} {H : List Int} {e : EnB} {hh : Int} (hM : Mid19 G w w8 b L e k n g3 c3 ha hc wc) (hw : Below w.heap.size w w8) (hGb : G b) (hL : L.length = n) (hH : H.length = n) (hk : k ≤ n) (hsz : wc.heap.size = sz) (hb : b < sz) (p8 : Below sz wc w7)
    (f1 : ∃ v, w7.cell? ⟨b, 1, none⟩ = some v) (hw3 : w7.ownsRow sz 3 1 (.slice (some ⟨g5, 0, none⟩) (n + 1) c5) (n + 1) ((([] ++ (zv H).take k) ++ [.int .i64 hh]) ++ (zv H).drop k)) :
    Keeps (fun i => i = b) w (w7.setCell ⟨b, 1, none⟩ (.slice (some ⟨g5, 0, none⟩) (n + 1) c5)) ∧ RefAt (fun i => G i ∨ (w.heap.size ≤ i ∧ i < (w7.setCell ⟨b, 1, none⟩ (.slice (some ⟨g5, 0, none⟩) (n + 1) c5)).heap.size)) (w7.setCell ⟨b, 1, none⟩ (.slice (some ⟨g5, 0, none⟩) (n + 1) c5)) b (L.take k ++ e :: L.drop k) (H.take k ++ hh :: H.drop k) := by
  have p8' : Below wc.heap.size wc w7 := by rw [hsz]; exact p8
  have kpx : Keeps (fun i => i = b) wc (w7.setCell ⟨b, 1, none⟩ (.slice (some ⟨g5, 0, none⟩) (n + 1) c5)) := Keeps.setCell (F := fun i => i = b) (Below.keeps p8' _) (p := ⟨b, 1, none⟩) rfl _
  have kp7 : Keeps (fun i => i = b) w7 (w7.setCell ⟨b, 1, none⟩ (.slice (some ⟨g5, 0, none⟩) (n + 1) c5)) := Keeps.setCell (F := fun i => i = b) (Keeps.refl _ _) (p := ⟨b, 1, none⟩) rfl _
  have hss : (w7.setCell ⟨b, 1, none⟩ (.slice (some ⟨g5, 0, none⟩) (n + 1) c5)).heap.size = w7.heap.size := by simp
  have hs7 := p8'.size
  have hs8 := hM.kp.size
  have hs9 := hw.size
  obtain ⟨v1, f1⟩ := f1
  have hg := hw3.lt g5 rfl
  have d0 : w7.cell? ⟨b, 0, none⟩ = some (.slice (some ⟨g3, 0, none⟩) (n + 1) c3) := (p8.cell (p := ⟨b, 0, none⟩) hb).trans hM.c0
  refine ⟨((Below.keeps hw _).trans hM.kp).trans kpx, .inl hGb, by simp; omega, blk_till p8 hb hM.blk _ _, .slice (some ⟨g3, 0, none⟩) (n + 1) c3, .slice (some ⟨g5, 0, none⟩) (n + 1) c5, by simp [go_sem, d0], World.cell?_setCell_same' _ _ _ (by rw [f1]; rfl), ?_, ?_⟩
  · refine (hM.row.keeps kpx (fun i hi e => hi.2 e)).mono (fun i hi => ⟨?_, hi.2⟩)
    rcases hi.1 with h | h
    · exact .inl h
    · exact .inr ⟨h.1, by omega⟩
  · refine ⟨fun q hq => ?_, ?_⟩
    · have hq' : g5 = q := by simpa [Value.ownBlock] using hq
      subst hq'
      exact ⟨.inr ⟨by omega, by omega⟩, by omega⟩
    · have hll : (H.take k ++ hh :: H.drop k).length = n + 1 := by simp; omega
      have hzz : zv (H.take k ++ hh :: H.drop k) = (([] ++ (zv H).take k) ++ [.int .i64 hh]) ++ (zv H).drop k := by
        unfold zv
        simp [List.map_take, List.map_drop]
      rw [hll, hzz]
      exact row_mono (row_keeps hw3 kp7 (fun i hi => .inl (by omega))) (Nat.zero_le _)

theorem laid1 (w : World) (v : Value) (t : TypeId) : ∀ j u, [v][j]? = some u → (w.alloc (.cells #[v] t)).cell? ((⟨w.heap.size, 0, none⟩ : Addr).add j) = some u :=
  World.news_of_block (heap_alloc_new w _)

theorem laid_kept {w w' : World} {g q : Nat} {vs : List Value} (h : ∀ j u, vs[j]? = some u → w.cell? ((⟨q, 0, none⟩ : Addr).add j) = some u) (hg : w.grownBy w' (some g)) (hne : q ≠ g) : ∀ j u, vs[j]? = some u → w'.cell? ((⟨q, 0, none⟩ : Addr).add j) = some u := fun j u hu => by
  have h9 := h j u hu
  rw [Addr.add_lit] at h9 ⊢
  rw [← h9]
  exact World.cell?_of_block (hg.block _ (World.block_lt_of_cell? _ _ h9) (by simpa using hne))

set_option maxRecDepth 100000 in
set_option maxHeartbeats 8000000 in
theorem r8insert_any (w : World) (G : Nat → Prop) (b : Nat) (L : List EnB) (H : List Int) (xv yv : Value) (e : EnB) (hh : Int) (hA : RefAt G w b L H) (hG : ∀ i, G i → i < w.heap.size) (hx : Rd w xv e.1) (hy : Rd w yv e.2.2.2) (hl1 : e.1.length ≤ 1000000) (hl2 : e.2.2.2.length ≤ 1000000) (hlen : L.length + 1 ≤ 1000) :
    Calls Try.prog 14 #[.pointer (some ⟨b, 0, none⟩), enV xv (e.2.1 : Int) (e.2.2.1.toNat : Int) yv, .int .i64 hh] w fun o w' => InsRef G b L H e hh w w' o := by
  obtain ⟨i0, hi, hz0, hz1, hz2⟩ := info_parts infoEn
  obtain ⟨j0, hj, hy0, hy1, hy2⟩ := info_parts info3i
  have HA : Hid (RefAt G w b L H) := hA
  have HG : Hid (∀ i, G i → i < w.heap.size) := hG
  obtain ⟨xa, xc, rfl⟩ := hx.len
  obtain ⟨ya, yc, rfl⟩ := hy.len
  obtain ⟨nl, hnl⟩ : ∃ z, e.1.length = z := ⟨_, rfl⟩
  obtain ⟨ml, hml⟩ : ∃ z, e.2.2.2.length = z := ⟨_, rfl⟩
  obtain ⟨sq, hsq⟩ : ∃ z : Int, (e.2.1 : Int) = z := ⟨_, rfl⟩
  obtain ⟨kk, hkk⟩ : ∃ z : Int, (e.2.2.1.toNat : Int) = z := ⟨_, rfl⟩
  have h0s : 0 ≤ sq := by omega
  have h0k : 0 ≤ kk := by omega
  obtain ⟨ck, hckq⟩ : ∃ c, chk nl sq kk = c := ⟨_, rfl⟩
  have HC : Hid (chkSk e hh = if ck = 0 then (if 1 ≤ hh ∧ hh ≤ 8 then (if 512 < ml then 3 else 0) else 1) else ck) := by show _ = _; unfold chkSk; rw [hnl, hml, hsq, hkk, hckq]
  rw [hnl] at hx ⊢
  rw [hml] at hy ⊢
  rw [hsq, hkk]
  have HE : Hid ((e.1.length = nl ∧ e.2.2.2.length = ml) ∧ (e.2.1 : Int) = sq ∧ (e.2.2.1.toNat : Int) = kk) := ⟨⟨hnl, hml⟩, hsq, hkk⟩
  have HX : Hid (Rd w (.slice xa nl xc) e.1 ∧ Rd w (.slice ya ml yc) e.2.2.2) := ⟨hx, hy⟩
  have HL : Hid (nl ≤ 1000000 ∧ ml ≤ 1000000 ∧ L.length + 1 ≤ 1000) := ⟨by omega, by omega, hlen⟩
  have hml9 : ml ≤ 1000000 := by omega
  have hb0 := below_box4 w (.cells #[.slice xa nl xc, .int .u64 sq, .int .u8 kk, .slice ya ml yc] 38)
  have BX := box4_new w (.slice xa nl xc) (.int .u64 sq) (.int .u8 kk) (.slice ya ml yc) 38
  obtain ⟨wb, hwb⟩ : ∃ wb, wb = w.alloc (.cells #[.slice xa nl xc, .int .u64 sq, .int .u8 kk, .slice ya ml yc] 38) := ⟨_, rfl⟩
  rw [← hwb] at hb0 BX
  have HB0 : Hid (Below w.heap.size w wb) := hb0
  have hck := refcheck_any wb xa nl xc sq kk h0s h0k
  rw [hckq] at hck
  obtain ⟨z0, z1, z2, z3⟩ := BX
  have BX := (⟨z0, z1, z2, z3⟩ : Box4 wb w.heap.size (.slice xa nl xc) (.int .u64 sq) (.int .u8 kk) (.slice ya ml yc))
  rw [hwb] at z0 z1 z2 z3 hck
  simp only [enV]
  clear hA hG hx hy hl1 hl2 hlen hnl hml hsq hkk hckq hb0 h0s h0k
  go_enter Try.func14, Try.ntmps14
  go_wp2_with fail
  refine hck.mono ?_
  rintro o w1 ⟨rfl, hb1⟩
  rw [← hwb] at hb1
  have HB1 : Hid (Below w.heap.size w w1) := bsplit HB0.out hb1
  have BX1 := BX.below hb1 (Nat.le_refl _)
  have HBW1 : Hid (w.heap.size < w1.heap.size) := BX1.lt
  clear hck hb1 z0 z1 z2 z3 BX hwb
  obtain ⟨bx, hbx⟩ : ∃ bx, w.heap.size = bx := ⟨_, rfl⟩
  have HBX : Hid (w.heap.size = bx) := hbx
  rw [hbx] at BX1 ⊢
  have BX1' := BX1
  obtain ⟨z0, z1, z2, z3⟩ := BX1'
  by_cases hc0 : ck = 0
  · subst hc0
    by_cases hh1 : hh < 1
    · have HN : Hid (chkSk e hh = 1) := by show _ = _; rw [HC.out, if_pos rfl, if_neg (by omega)]
      go_wp2
      go_ret
      refine .inl ⟨by rw [HN.out]; decide, by rw [HN.out]; rfl, ?_⟩
      exact HB1.out
    · by_cases hh8 : 8 < hh
      · have HN : Hid (chkSk e hh = 1) := by show _ = _; rw [HC.out, if_pos rfl, if_neg (by omega)]
        go_wp2
        go_ret
        refine .inl ⟨by rw [HN.out]; decide, by rw [HN.out]; rfl, ?_⟩
        exact HB1.out
      · by_cases h512 : 512 < ml
        · have HN : Hid (chkSk e hh = 3) := by show _ = _; rw [HC.out, if_pos rfl, if_pos (by omega), if_pos h512]
          have h5I : (512 : Int) < (ml : Int) := by omega
          go_wp2
          go_ret
          refine .inl ⟨by rw [HN.out]; decide, by rw [HN.out]; rfl, ?_⟩
          exact HB1.out
        · have HC0 : Hid (chkSk e hh = 0) := by show _ = _; rw [HC.out, if_pos rfl, if_pos (by omega), if_neg h512]
          have h5I : ¬ (512 : Int) < (ml : Int) := by omega
          have HA1 : Hid (RefAt G w1 b L H) := HA.out.below HB1.out
          obtain ⟨va, vb, d0, d1, hRL, hRH⟩ := HA1.out.row
          obtain ⟨csL, hrL, _⟩ := hRL.2
          obtain ⟨la, lc, hva, g1, g2, _⟩ := rowAny_shape hrL
          obtain ⟨ha, hc, hvb, g3, g4, _⟩ := rowAny_shape hRH.2
          subst hva hvb
          have HRL : Hid (RowL (fun i => G i ∧ i ≠ b) w1 (.slice la L.length lc) L) := hRL
          have HRH : Hid (RowH (fun i => G i ∧ i ≠ b) w1 (.slice ha H.length hc) H) := hRH
          obtain ⟨n, hn⟩ : ∃ n, L.length = n := ⟨_, rfl⟩
          have HN : Hid (L.length = n ∧ H.length = n) := ⟨hn, by rw [← HA1.out.len]; exact hn⟩
          rw [hn] at d0 g1
          rw [HN.out.2] at d1 g3
          have hn9 : n ≤ 1000 := by have := HL.out.2.2; omega
          clear hRL hRH hrL hn HA
          go_wp2_with fail
          clear z0 z1 z2 z3
          go_loopg [8, 34] n (fun gk kv iv wr => ∃ (i k : Nat), gk + i = n ∧ k ≤ i ∧ iv = .int .i64 (i : Int) ∧ kv = .int .i64 (k : Int) ∧ Hid (k = cntE (L.take i) e ∧ anyE (L.take i) e = false) ∧ Hid (Below w1.heap.size w1 wr))
          case atStart => exact ⟨0, 0, by omega, Nat.le_refl _, rfl, rfl, ⟨rfl, rfl⟩, Below.refl _ _⟩
          case round =>
            obtain ⟨i, k, hgi, hki, rfl, rfl, HK, HBI⟩ := hrel
            by_cases hlti : i < n
            · have l2 : i < L.length := by rw [HN.out.1]; exact hlti
              obtain ⟨_, _, e0, _, _, h4⟩ := rdE_below HRL.out.rd HBI.out (Nat.le_refl _)
              cases e0
              obtain ⟨p, o, rfl, xv, yv, e0, e1, e2, e3, rx, ry⟩ := h4 i l2
              obtain ⟨u1, u2, ex⟩ := rx.len
              obtain ⟨u3, u4, ey⟩ := ry.len
              subst ex ey
              obtain ⟨q3, q4⟩ : gk - 1 < gk ∧ gk - 1 + (i + 1) = n := by omega
              have hct := cntE_take (e := e) l2
              have hat := anyE_take (e := e) l2
              have hmem := List.getElem_mem l2
              obtain ⟨X, hX⟩ : ∃ o, L[i] = o := ⟨_, rfl⟩
              rw [hX] at e0 e1 e2 e3 rx hct hat hmem
              obtain ⟨m1, hm1⟩ : ∃ nl, X.1.length = nl := ⟨_, rfl⟩
              obtain ⟨m2, hm2⟩ : ∃ oln, X.2.2.2.length = oln := ⟨_, rfl⟩
              obtain ⟨sx, hsx⟩ : ∃ z : Int, (X.2.1 : Int) = z := ⟨_, rfl⟩
              obtain ⟨kx, hkx⟩ : ∃ z : Int, (X.2.2.1.toNat : Int) = z := ⟨_, rfl⟩
              rw [hm1] at e0 rx
              rw [hm2] at e3
              rw [hsx] at e1
              rw [hkx] at e2
              obtain ⟨lt, hltq⟩ : ∃ q, ltE X e = q := ⟨_, rfl⟩
              obtain ⟨sm, hsmq⟩ : ∃ q, sameE X e = q := ⟨_, rfl⟩
              have HLT : Hid (decide (Mth.cmpK X.1 sx kx e.1 sq kk < 0) = lt) := by show _ = _; rw [← hltq, ← hsx, ← hkx, ← HE.out.2.1, ← HE.out.2.2]; rfl
              have HSM : Hid (decide (X.1 = e.1 ∧ sx = sq ∧ kx = kk) = sm) := by show _ = _; rw [← hsmq, ← hsx, ← hkx, ← HE.out.2.1, ← HE.out.2.2]; rfl
              rw [hltq] at hct
              rw [hsmq, HK.out.2, Bool.false_or] at hat
              have HCT : Hid (cntE (L.take (i + 1)) e = k + (if lt = true then 1 else 0) ∧ anyE (L.take (i + 1)) e = sm) := ⟨by rw [hct, ← HK.out.1], hat⟩
              have HANY : Hid (sm = true → anyE L e = true) := fun h9 => by
                unfold anyE
                rw [List.any_eq_true]
                exact ⟨X, hmem, by rw [hsmq, h9]⟩
              have hb5 := below_box4 wr (.cells #[.slice u1 m1 u2, .int .u64 sx, .int .u8 kx, .slice u3 m2 u4] 38)
              have BY := box4_new wr (.slice u1 m1 u2) (.int .u64 sx) (.int .u8 kx) (.slice u3 m2 u4) 38
              have HB5 : Hid (Below w1.heap.size w1 (wr.alloc (.cells #[.slice u1 m1 u2, .int .u64 sx, .int .u8 kx, .slice u3 m2 u4] 38))) := bsplit HBI.out hb5
              have HBW : Hid (Below w.heap.size w (wr.alloc (.cells #[.slice u1 m1 u2, .int .u64 sx, .int .u8 kx, .slice u3 m2 u4] 38))) := bsplit HB1.out HB5.out
              have hss := keysame_any (wr.alloc (.cells #[.slice u1 m1 u2, .int .u64 sx, .int .u8 kx, .slice u3 m2 u4] 38)) _ _ X.1 e.1 sx kx sq kk sm (rx.below hb5 (Nat.le_refl _)) (HX.out.1.below HBW.out (Nat.le_refl _)) HSM.out
              have HRX2 : Hid (Rd (wr.alloc (.cells #[.slice u1 m1 u2, .int .u64 sx, .int .u8 kx, .slice u3 m2 u4] 38)) (.slice u1 m1 u2) X.1) := rx.below hb5 (Nat.le_refl _)
              have BX5 := BX1.below HB5.out (Nat.le_refl _)
              have BX5' := BX5
              have BY' := BY
              obtain ⟨z0, z1, z2, z3⟩ := BX5'
              obtain ⟨y0, y1', y2', y3⟩ := BY'
              have hkI : (k : Int) ≤ 1000 := by omega
              clear h4 rx ry hX hm1 hm2 hsx hkx hltq hsmq hct hat hb5 hmem
              go_wp2_with fail
              refine hss.mono ?_
              rintro o2 w6 ⟨rfl, hb6⟩
              clear z0 z1 z2 z3 y0 y1' y2' y3
              have HB6 : Hid (Below w1.heap.size w1 w6) := bsplit HB5.out hb6
              have HBW6 : Hid (Below w.heap.size w w6) := bsplit HBW.out hb6
              cases sm with
              | true =>
                clear hss hb6
                go_wp2
                go_ret
                exact .inr (.inl ⟨HC0.out, HANY.out (by trivial), rfl, HBW6.out⟩)
              | false =>
                have BX6 := BX5.below hb6 (Nat.le_refl _)
                have BY6 := BY.below hb6 (Nat.le_refl _)
                have hls := keyless_any w6 _ _ X.1 e.1 sx kx sq kk lt (HRX2.out.below hb6 (Nat.le_refl _)) (HX.out.1.below HBW6.out (Nat.le_refl _)) HLT.out
                clear hss hb6 BX5 BY
                obtain ⟨z0, z1, z2, z3⟩ := BX6
                obtain ⟨y0, y1', y2', y3⟩ := BY6
                go_wp2_with fail
                refine hls.mono ?_
                rintro o3 w7 ⟨rfl, hb7⟩
                have HB7 : Hid (Below w1.heap.size w1 w7) := bsplit HB6.out hb7
                clear hls hb7 z0 z1 z2 z3 y0 y1' y2' y3
                cases lt
                all_goals
                  go_wp2_with fail
                  go_roundg (gk - 1)
                  case measure => exact q3
                  case rel => first | exact ⟨i + 1, k + 1, q4, by omega, by go_num, by go_num, ⟨by rw [HCT.out.1]; rfl, HCT.out.2⟩, HB7⟩ | exact ⟨i + 1, k, q4, by omega, by go_num, rfl, ⟨by rw [HCT.out.1]; rfl, HCT.out.2⟩, HB7⟩
            · have hiN : n = i := by omega
              subst hiN
              have HK2 : Hid (k = cntE L e ∧ anyE L e = false) := by
                have h9 := HK.out
                rw [← HN.out.1, List.take_length] at h9
                exact h9
              have hkn : k ≤ n := by omega
              obtain ⟨w8, hw8⟩ : ∃ w8, w8 = wr := ⟨_, rfl⟩
              subst hw8
              have HB8 : Hid (Below w.heap.size w w8) := bsplit HB1.out HBI.out
              have HA8 : Hid (RefAt G w8 b L H) := HA1.out.below HBI.out
              have HRL8 : Hid (RowL (fun i => G i ∧ i ≠ b) w8 (.slice la L.length lc) L) := HRL.out.keeps (F := fun _ => False) (Below.keeps HBI.out _) (fun _ _ h => h)
              have HRH8 : Hid (RowH (fun i => G i ∧ i ≠ b) w8 (.slice ha H.length hc) H) := HRH.out.keeps (F := fun _ => False) (Below.keeps HBI.out _) (fun _ _ h => h)
              have BX8 := BX1.below HBI.out (Nat.le_refl _)
              have D0 : w8.cell? ⟨b, 0, none⟩ = some (.slice la n lc) := (HBI.out.cell (p := ⟨b, 0, none⟩) (World.block_lt_of_cell? _ _ d0)).trans d0
              have D1 : w8.cell? ⟨b, 1, none⟩ = some (.slice ha n hc) := (HBI.out.cell (p := ⟨b, 1, none⟩) (World.block_lt_of_cell? _ _ d1)).trans d1
              clear hgi hki HK HRL HRH HA1 d0 d1 BX1 HBI
              go_upto_region 19 with fail
              obtain ⟨sz, hsz⟩ : ∃ sz, w8.heap.size = sz := ⟨_, rfl⟩
              have HSZ : Hid (w8.heap.size = sz) := hsz
              have HLT : Hid (b < sz ∧ bx < sz) := ⟨by rw [← hsz]; exact World.block_lt_of_cell? _ _ D0, by rw [← hsz]; exact BX8.lt⟩
              obtain ⟨cs, hr8, hC8⟩ := HRL8.out.2
              have HGV : Hid (∀ q, (Value.slice la L.length lc).ownBlock = some q → G q ∧ q ≠ b) := HRL8.out.1
              rw [HN.out.1] at hr8
              have HCL : Hid (cs.length = n * 4) := by show _ = _; rw [hC8.1, HN.out.1]
              have HC8 : Hid (CellsR (RdG (fun i => G i ∧ i ≠ b) w8) cs L) := hC8
              have pA : Below sz w8 (w8.alloc (.cells #[] 38)).drew := by rw [← hsz]; exact ((Below.refl _ _).alloc (Nat.le_refl _) _).drew
              have cA := held19 pA HLT.out.1 HLT.out.2 D0 BX8
              have rA : (w8.alloc (.cells #[] 38)).drew.ownsRow sz 38 4 (.slice (some ⟨sz, 0, none⟩) 0 0) 0 [] := by
                have h9 := World.ownsRow_lit w8 #[] 0 (base := sz) (size := 4) (e := 38) (by rw [← hsz]; exact Nat.le_refl _) (Nat.zero_le _) rfl
                rw [hsz] at h9
                exact h9
              have sA : (w8.alloc (.cells #[] 38)).drew.heap.size = sz + 1 := by rw [← hsz]; simp
              have FRZ : Hid (∀ W, Below sz w8 W → W.frozen? ⟨b, 0, none⟩ = false ∧ W.frozen? ⟨b, 1, none⟩ = false) := fun W hW => by
                obtain ⟨ca, ty, _, hb⟩ := HA8.out.blk
                have hb2 : W.heap[b]? = some (.cells ca ty (0, 0)) := by rw [hW.block b HLT.out.1]; exact hb
                exact ⟨frozen_of_row W b 0 ca ty hb2, frozen_of_row W b 1 ca ty hb2⟩
              have hone1 : ∀ u ∈ cs.take (k * 4), u.oneCell' = true := fun u hu => CellsR.ones (fun x l hx => rdG_one hx) HC8.out u (List.mem_of_mem_take hu)
              have hone2 : ∀ u ∈ cs.drop (k * 4), u.oneCell' = true := fun u hu => CellsR.ones (fun x l hx => rdG_one hx) HC8.out u (List.mem_of_mem_drop hu)
              have hT1 : (cs.take (k * 4)).length = k * 4 := by rw [List.length_take, HCL.out]; omega
              have hD1 : (cs.drop (k * 4)).length = (n - k) * 4 := by rw [List.length_drop, HCL.out]; omega
              go_cut [8] (fun kv wx => kv = .int .i64 (k : Int) ∧ ∃ (g3 c3 : Nat), n + 1 ≤ c3 ∧ c3 ≤ 9223372036854775807 ∧ Hid (Mid19 G w w8 b L e k n g3 c3 ha hc wx))
              case first =>
                rcases hr8.2 with ⟨ev, hn0⟩ | ⟨go, cap, cur, ev, _, hgo, h1', h2', _⟩
                · cases ev
                  have hk0 : k = 0 := by omega
                  subst hk0
                  have hcs : cs = [] := List.eq_nil_of_length_eq_zero (by rw [HCL.out])
                  have hsrc1 : ∀ W : World, Below sz w8 W → SrcOf W 4 (Value.slice none 0 0) 0 (cs.take (0 * 4)) := fun W _ => .inl ⟨rfl, rfl, by simp⟩
                  have hsrc2 : ∀ W : World, Below sz w8 W → SrcOf W 4 (Value.slice none 0 0) (0 - 0) (cs.drop (0 * 4)) := fun W _ => .inl ⟨rfl, rfl, by rw [hcs]; rfl⟩
                  refine wp_region_till 22 (S := (fun w' => w'.cell? ⟨b, 0, none⟩ = some (.slice none 0 0) ∧ w'.cell? ⟨bx, 0, none⟩ = some (.slice xa nl xc) ∧ w'.cell? ⟨bx, 1, none⟩ = some (.int .u64 sq) ∧ w'.cell? ⟨bx, 2, none⟩ = some (.int .u8 kk) ∧ w'.cell? ⟨bx, 3, none⟩ = some (.slice ya ml yc))) (by kernel_rfl) ?_
                  have hHeld : (fun w' => w'.cell? ⟨b, 0, none⟩ = some (.slice none 0 0) ∧ w'.cell? ⟨bx, 0, none⟩ = some (.slice xa nl xc) ∧ w'.cell? ⟨bx, 1, none⟩ = some (.int .u64 sq) ∧ w'.cell? ⟨bx, 2, none⟩ = some (.int .u8 kk) ∧ w'.cell? ⟨bx, 3, none⟩ = some (.slice ya ml yc)) w8.drew := ⟨D0, BX8.c0, BX8.c1, BX8.c2, BX8.c3⟩
                  refine till_take (i := 0) (v := (.pointer (some ⟨b, 0, none⟩))) rfl (by kernel_rfl) (by kernel_rfl) (by kernel_rfl) (by kernel_rfl) (by kernel_rfl) (by kernel_rfl) (fun _ _ _ h => h) (Or.inl ⟨by rfl, fun w hSw => by (try dsimp only at hSw); go_simp⟩) hHeld ?_
                  simp only [Act.put, List.setIfInBounds_toArray, List.set_cons_zero, List.set_cons_succ, List.getElem_toArray, List.getElem_cons_zero]
                  refine till_take (i := 2) (v := (.pointer (some ⟨b, 0, none⟩))) rfl (by kernel_rfl) (by kernel_rfl) (by kernel_rfl) (by kernel_rfl) (by kernel_rfl) (by kernel_rfl) (fun _ _ _ h => h) (Or.inl ⟨by rfl, fun w hSw => by (try dsimp only at hSw); go_simp⟩) hHeld ?_
                  simp only [Act.put, List.setIfInBounds_toArray, List.set_cons_zero, List.set_cons_succ, List.getElem_toArray, List.getElem_cons_zero, List.getElem_cons_succ]
                  refine till_take (i := 3) (v := (.pointer (some ⟨b, 0, none⟩))) rfl (by kernel_rfl) (by kernel_rfl) (by kernel_rfl) (by kernel_rfl) (by kernel_rfl) (by kernel_rfl) (fun _ _ _ h => h) (Or.inl ⟨by rfl, fun w hSw => by (try dsimp only at hSw); go_simp⟩) hHeld ?_
                  simp only [Act.put, List.setIfInBounds_toArray, List.set_cons_zero, List.set_cons_succ, List.getElem_toArray, List.getElem_cons_zero, List.getElem_cons_succ]
                  refine till_take (i := 4) (v := (.pointer (some ⟨b, 0, none⟩))) rfl (by kernel_rfl) (by kernel_rfl) (by kernel_rfl) (by kernel_rfl) (by kernel_rfl) (by kernel_rfl) (fun _ _ _ h => h) (Or.inl ⟨by rfl, fun w hSw => by (try dsimp only at hSw); go_simp⟩) hHeld ?_
                  simp only [Act.put, List.setIfInBounds_toArray, List.set_cons_zero, List.set_cons_succ, List.getElem_toArray, List.getElem_cons_zero, List.getElem_cons_succ]
                  refine till_take (i := 5) (v := (.slice none 0 0)) rfl (by kernel_rfl) (by kernel_rfl) (by kernel_rfl) (by kernel_rfl) (by kernel_rfl) (by kernel_rfl) (fun _ _ _ h => h) (Or.inl ⟨by rfl, fun w hSw => by (try dsimp only at hSw); go_simp⟩) hHeld ?_
                  simp only [Act.put, List.setIfInBounds_toArray, List.set_cons_zero, List.set_cons_succ, List.getElem_toArray, List.getElem_cons_zero, List.getElem_cons_succ]
                  refine till_take (i := 6) (v := (.int .i64 ((0 : Nat) : Int))) rfl (by kernel_rfl) (by kernel_rfl) (by kernel_rfl) (by kernel_rfl) (by kernel_rfl) (by kernel_rfl) (fun _ _ _ h => h) (Or.inl ⟨by rfl, fun w hSw => by (try dsimp only at hSw); go_simp⟩) hHeld ?_
                  simp only [Act.put, List.setIfInBounds_toArray, List.set_cons_zero, List.set_cons_succ, List.getElem_toArray, List.getElem_cons_zero, List.getElem_cons_succ]
                  refine till_take (i := 7) (v := (.slice none 0 0)) rfl (by kernel_rfl) (by kernel_rfl) (by kernel_rfl) (by kernel_rfl) (by kernel_rfl) (by kernel_rfl) (fun _ _ _ h => h) (Or.inl ⟨by rfl, fun w hSw => by (try dsimp only at hSw); go_simp⟩) hHeld ?_
                  simp only [Act.put, List.setIfInBounds_toArray, List.set_cons_zero, List.set_cons_succ, List.getElem_toArray, List.getElem_cons_zero, List.getElem_cons_succ]
                  refine till_take (i := 9) (v := (.agg #[.slice xa nl xc, .int .u64 sq, .int .u8 kk, .slice ya ml yc])) rfl (by kernel_rfl) (by kernel_rfl) (by kernel_rfl) (by kernel_rfl) (by kernel_rfl) (by kernel_rfl) (fun _ _ _ h => h) (Or.inl ⟨by rfl, fun w hSw => by (try dsimp only at hSw); go_simp⟩) hHeld ?_
                  simp only [Act.put, List.setIfInBounds_toArray, List.set_cons_zero, List.set_cons_succ, List.getElem_toArray, List.getElem_cons_zero, List.getElem_cons_succ]
                  refine till_take (i := 13) (v := (.pointer (some ⟨b, 0, none⟩))) rfl (by kernel_rfl) (by kernel_rfl) (by kernel_rfl) (by kernel_rfl) (by kernel_rfl) (by kernel_rfl) (fun _ _ _ h => h) (Or.inl ⟨by rfl, fun w hSw => by (try dsimp only at hSw); go_simp⟩) hHeld ?_
                  simp only [Act.put, List.setIfInBounds_toArray, List.set_cons_zero, List.set_cons_succ, List.getElem_toArray, List.getElem_cons_zero, List.getElem_cons_succ]
                  refine till_take (i := 14) (v := (.pointer (some ⟨b, 0, none⟩))) rfl (by kernel_rfl) (by kernel_rfl) (by kernel_rfl) (by kernel_rfl) (by kernel_rfl) (by kernel_rfl) (fun _ _ _ h => h) (Or.inl ⟨by rfl, fun w hSw => by (try dsimp only at hSw); go_simp⟩) hHeld ?_
                  simp only [Act.put, List.setIfInBounds_toArray, List.set_cons_zero, List.set_cons_succ, List.getElem_toArray, List.getElem_cons_zero, List.getElem_cons_succ]
                  refine till_take (i := 15) (v := (.pointer (some ⟨b, 0, none⟩))) rfl (by kernel_rfl) (by kernel_rfl) (by kernel_rfl) (by kernel_rfl) (by kernel_rfl) (by kernel_rfl) (fun _ _ _ h => h) (Or.inl ⟨by rfl, fun w hSw => by (try dsimp only at hSw); go_simp⟩) hHeld ?_
                  simp only [Act.put, List.setIfInBounds_toArray, List.set_cons_zero, List.set_cons_succ, List.getElem_toArray, List.getElem_cons_zero, List.getElem_cons_succ]
                  refine till_take (i := 16) (v := (.slice none 0 0)) rfl (by kernel_rfl) (by kernel_rfl) (by kernel_rfl) (by kernel_rfl) (by kernel_rfl) (by kernel_rfl) (fun _ _ _ h => h) (Or.inl ⟨by rfl, fun w hSw => by (try dsimp only at hSw); go_simp⟩) hHeld ?_
                  simp only [Act.put, List.setIfInBounds_toArray, List.set_cons_zero, List.set_cons_succ, List.getElem_toArray, List.getElem_cons_zero, List.getElem_cons_succ]
                  refine till_take (i := 17) (v := (.int .i64 ((0 : Nat) : Int))) rfl (by kernel_rfl) (by kernel_rfl) (by kernel_rfl) (by kernel_rfl) (by kernel_rfl) (by kernel_rfl) (fun _ _ _ h => h) (Or.inl ⟨by rfl, fun w hSw => by (try dsimp only at hSw); go_simp⟩) hHeld ?_
                  simp only [Act.put, List.setIfInBounds_toArray, List.set_cons_zero, List.set_cons_succ, List.getElem_toArray, List.getElem_cons_zero, List.getElem_cons_succ]
                  refine till_take (i := 18) (v := (.slice none 0 0)) rfl (by kernel_rfl) (by kernel_rfl) (by kernel_rfl) (by kernel_rfl) (by kernel_rfl) (by kernel_rfl) (fun _ _ _ h => h) (Or.inl ⟨by rfl, fun w hSw => by (try dsimp only at hSw); go_simp⟩) hHeld ?_
                  simp only [Act.put, List.setIfInBounds_toArray, List.set_cons_zero, List.set_cons_succ, List.getElem_toArray, List.getElem_cons_zero, List.getElem_cons_succ]
                  clear hHeld
                  refine till_one (i := 1) (by kernel_rfl) rfl (fun K hK => ?_)
                  go_simp
                  refine hK.out _ _ (fun _ => cA) ?_
                  clear hK K
                  try simp only [Act.put, List.setIfInBounds_toArray, List.set_cons_zero, List.set_cons_succ, List.getElem_toArray, List.getElem_cons_zero, List.getElem_cons_succ]
                  refine till_one (i := 8) (by kernel_rfl) rfl (fun K hK => ?_)
                  refine step_append_src rfl (.tmp 52) (.tmp 58) 28 rfl sz 38 i0 (.agg #[.slice none 0 0, .int .u64 0, .int .u8 0, .slice none 0 0]) 4 64 Try.underlying28 hi hz0 hz1 hz2 rfl (by decide) sz 0 0 [] rfl rA _ rfl 0 (cs.take (0 * 4)) (hsrc1 _ pA) hone1 (by unfold maxLen; omega) (by omega) (by rw [sA]; omega) (sz + 1) sA 0 (Nat.zero_add _) ?_
                  intro g1 c1 w4 hw1 hg1 ha1
                  have p1 : Below sz w8 w4 := pA.grown hg1 (by rw [sA]; omega) (fun q e => by cases e; exact Nat.le_refl _)
                  have e1 : sz ≤ w4.heap.size := by have h9 := p1.size; rw [HSZ.out] at h9; exact h9
                  have hBw4 : Below w.heap.size w w4 := HB8.out.trans (p1.mono (by rw [← HSZ.out]; exact HB8.out.size))
                  have htw := twin_own w4 _ _ e.1 e.2.2.2 sq kk (HX.out.1.below hBw4 (Nat.le_refl _)).arg (HX.out.2.below hBw4 (Nat.le_refl _)).arg (by rw [HE.out.1.1]; exact HL.out.1) (by rw [HE.out.1.2]; exact HL.out.2.1)
                  simp only [enV] at htw
                  refine hK.out _ _ (fun _ => held19 p1 HLT.out.1 HLT.out.2 D0 BX8) ?_
                  clear hK K
                  try simp only [Act.put, List.setIfInBounds_toArray, List.set_cons_zero, List.set_cons_succ, List.getElem_toArray, List.getElem_cons_zero, List.getElem_cons_succ]
                  refine till_one (i := 10) (by kernel_rfl) rfl (fun K hK => ?_)
                  go_simp
                  go_at_call 12
                  refine htw.mono ?_
                  rintro o5 w5 ⟨x5, y5, rfl, ox, oy, hb5⟩
                  obtain ⟨tx, tc, ex⟩ := ox.rd.len
                  obtain ⟨ty, td, ey⟩ := oy.rd.len
                  rw [HE.out.1.1] at ex
                  rw [HE.out.1.2] at ey
                  subst ex ey
                  have p5 : Below sz w8 w5 := p1.trans (hb5.mono e1)
                  have e5 : sz ≤ w5.heap.size := Nat.le_trans e1 hb5.size
                  have hw5 := (row_below hw1 hb5).alloc (.cells #[.slice tx nl tc, .int .u64 sq, .int .u8 kk, .slice ty ml td] 38)
                  have p6 : Below sz w8 (w5.alloc (.cells #[.slice tx nl tc, .int .u64 sq, .int .u8 kk, .slice ty ml td] 38)) := p5.alloc e5 _
                  have e6 : sz ≤ (w5.alloc (.cells #[.slice tx nl tc, .int .u64 sq, .int .u8 kk, .slice ty ml td] 38)).heap.size := by simp; omega
                  have l6 := laid4 w5 (.slice tx nl tc) (.int .u64 sq) (.int .u8 kk) (.slice ty ml td) 38
                  have HOX : Hid (OwnN (w4.heap.size + 2) w5 (.slice tx nl tc) e.1 ∧ OwnN (w4.heap.size + 2) w5 (.slice ty ml td) e.2.2.2) := ⟨ox, oy⟩
                  clear htw ox oy
                  refine hK.out _ _ (fun _ => held19 p5 HLT.out.1 HLT.out.2 D0 BX8) ?_
                  clear hK K
                  try simp only [Act.put, List.setIfInBounds_toArray, List.set_cons_zero, List.set_cons_succ, List.getElem_toArray, List.getElem_cons_zero, List.getElem_cons_succ]
                  refine till_one (i := 11) (by kernel_rfl) rfl (fun K hK => ?_)
                  go_simp
                  refine hK.out _ _ (fun _ => held19 p6 HLT.out.1 HLT.out.2 D0 BX8) ?_
                  clear hK K
                  try simp only [Act.put, List.setIfInBounds_toArray, List.set_cons_zero, List.set_cons_succ, List.getElem_toArray, List.getElem_cons_zero, List.getElem_cons_succ]
                  refine till_one (i := 12) (by kernel_rfl) rfl (fun K hK => ?_)
                  refine step_append_src rfl (.tmp 59) (.tmp 62) 28 rfl sz 38 i0 (.agg #[.slice none 0 0, .int .u64 0, .int .u8 0, .slice none 0 0]) 4 64 Try.underlying28 hi hz0 hz1 hz2 rfl (by decide) g1 0 c1 _ rfl hw5 _ rfl 1 [.slice tx nl tc, .int .u64 sq, .int .u8 kk, .slice ty ml td] (.inr ⟨_, _, rfl, rfl, l6⟩) (oneE _ _ _ _ _ _ _ _) (by unfold maxLen; omega) (by omega) e6 _ rfl (0 + 1) rfl ?_
                  intro g2 c2 w6 hw2 hg2 ha2
                  have p7 : Below sz w8 w6 := p6.grown hg2 e6 (fun q e => by cases e; exact (hw1.lt _ rfl).1)
                  have e7 : sz ≤ w6.heap.size := by have h9 := p7.size; rw [HSZ.out] at h9; exact h9
                  refine hK.out _ _ (fun _ => held19 p7 HLT.out.1 HLT.out.2 D0 BX8) ?_
                  clear hK K
                  try simp only [Act.put, List.setIfInBounds_toArray, List.set_cons_zero, List.set_cons_succ, List.getElem_toArray, List.getElem_cons_zero, List.getElem_cons_succ]
                  refine till_one (i := 19) (by kernel_rfl) rfl (fun K hK => ?_)
                  refine step_append_src rfl (.tmp 63) (.tmp 69) 28 rfl sz 38 i0 (.agg #[.slice none 0 0, .int .u64 0, .int .u8 0, .slice none 0 0]) 4 64 Try.underlying28 hi hz0 hz1 hz2 rfl (by decide) g2 (0 + 1) c2 _ rfl hw2 _ rfl (0 - 0) (cs.drop (0 * 4)) (hsrc2 _ p7) hone2 (by unfold maxLen; omega) (by omega) e7 _ rfl (0 + 1) (by omega) ?_
                  intro g3 c3 w7 hw3 hg3 ha3
                  have ox8 := ownN_kept (ownN_kept (HOX.out.1.below (below_box4 w5 (.cells #[.slice tx nl tc, .int .u64 sq, .int .u8 kk, .slice ty ml td] 38)) (Nat.le_refl _)) (by decide) hw5 hg2) (by decide) hw2 hg3
                  have oy8 := ownN_kept (ownN_kept (HOX.out.2.below (below_box4 w5 (.cells #[.slice tx nl tc, .int .u64 sq, .int .u8 kk, .slice ty ml td] 38)) (Nat.le_refl _)) (by decide) hw5 hg2) (by decide) hw2 hg3
                  have p8 : Below sz w8 w7 := p7.grown hg3 e7 (fun q e => by cases e; exact (hw2.lt _ rfl).1)
                  have hD7 := held19 p8 HLT.out.1 HLT.out.2 D0 BX8
                  obtain ⟨f0, f1, f2, f3, f4⟩ := hD7
                  have fz : w7.frozen? ⟨b, 0, none⟩ = false := (FRZ.out w7 p8).1
                  have hHeld : (fun w' => w'.cell? ⟨b, 0, none⟩ = some (.slice none 0 0) ∧ w'.cell? ⟨bx, 0, none⟩ = some (.slice xa nl xc) ∧ w'.cell? ⟨bx, 1, none⟩ = some (.int .u64 sq) ∧ w'.cell? ⟨bx, 2, none⟩ = some (.int .u8 kk) ∧ w'.cell? ⟨bx, 3, none⟩ = some (.slice ya ml yc)) w7 := ⟨f0, f1, f2, f3, f4⟩
                  refine hK.out _ _ (fun _ => hHeld) ?_
                  clear hK K
                  try simp only [Act.put, List.setIfInBounds_toArray, List.set_cons_zero, List.set_cons_succ, List.getElem_toArray, List.getElem_cons_zero, List.getElem_cons_succ]
                  refine till_take (i := 20) (v := (.pointer (some ⟨b, 0, none⟩))) rfl (by kernel_rfl) (by kernel_rfl) (by kernel_rfl) (by kernel_rfl) (by kernel_rfl) (by kernel_rfl) (fun _ _ _ h => h) (Or.inl ⟨by rfl, fun w hSw => by (try dsimp only at hSw); go_simp⟩) hHeld ?_
                  simp only [Act.put, List.setIfInBounds_toArray, List.set_cons_zero, List.set_cons_succ, List.getElem_toArray, List.getElem_cons_zero, List.getElem_cons_succ]
                  refine till_take (i := 21) (v := (.pointer (some ⟨b, 0, none⟩))) rfl (by kernel_rfl) (by kernel_rfl) (by kernel_rfl) (by kernel_rfl) (by kernel_rfl) (by kernel_rfl) (fun _ _ _ h => h) (Or.inl ⟨by rfl, fun w hSw => by (try dsimp only at hSw); go_simp⟩) hHeld ?_
                  simp only [Act.put, List.setIfInBounds_toArray, List.set_cons_zero, List.set_cons_succ, List.getElem_toArray, List.getElem_cons_zero, List.getElem_cons_succ]
                  clear hHeld
                  refine till_one (i := 22) (by kernel_rfl) rfl (fun K hK => ?_)
                  go_simp
                  refine hK.out _ _ (fun h => absurd rfl h) ?_
                  clear hK K
                  try simp only [Act.put, List.setIfInBounds_toArray, List.set_cons_zero, List.set_cons_succ, List.getElem_toArray, List.getElem_cons_zero, List.getElem_cons_succ]
                  refine till_done (by kernel_rfl) ?_ _
                  have HMD : Hid (Mid19 G w w8 b L e 0 0 g3 c3 ha hc (w7.setCell ⟨b, 0, none⟩ (.slice (some ⟨g3, 0, none⟩) (0 + 1) c3))) := mid19 (x0 := .slice tx nl tc) (y0 := .slice ty ml td) HSZ.out HLT.out.1 HB8.out.size HC8.out HN.out.1 (by omega) p8 D1 f0 hw3 (by rw [HE.out.2.1]) (by rw [HE.out.2.2]) ox8 oy8 (by omega) HA8.out.blk
                  clear f0 f1 f2 f3 f4 fz
                  go_wp2_with fail
                  go_meet
                  exact ⟨rfl, g3, c3, (row_cap hw3).1, (row_cap hw3).2, HMD⟩
                · cases ev
                  have hgoz : go < sz := by rw [← HSZ.out]; exact (Array.getElem?_eq_some_iff.1 hgo).1
                  have hcell8 := hr8.cells (g := go) rfl
                  have hsrc1 : ∀ W : World, Below sz w8 W → SrcOf W 4 (Value.slice (some ⟨go, 0, none⟩) k lc) k (cs.take (k * 4)) := fun W hb => .inr ⟨_, _, rfl, hT1, fun j u hu => by
                    have h9 : cs[j]? = some u := by
                      rw [List.getElem?_take] at hu
                      split at hu
                      · exact hu
                      · cases hu
                    have h8 := hcell8 j u h9
                    rw [← h8, Addr.add_lit]
                    exact hb.cell hgoz⟩
                  have hkI0 : (0 : Int) ≤ (k : Int) := by omega
                  have hkI1 : (k : Int) ≤ (n : Int) := by omega
                  have hkI2 : (n : Int) ≤ (lc : Int) := by omega
                  have hkI3 : (k : Int) ≤ (lc : Int) := by omega
                  by_cases hck9 : lc = k
                  · have hnk : n = k := by omega
                    subst hck9
                    subst hnk
                    have hD0 : (cs.drop (n * 4)).length = 0 := by rw [hD1]; omega
                    have hsrc2 : ∀ W : World, Below sz w8 W → SrcOf W 4 (Value.slice (some ⟨go, 0, none⟩) 0 0) 0 (cs.drop (n * 4)) := fun W hb => .inr ⟨_, _, rfl, by rw [hD0], fun j u hu => by
                      rw [List.eq_nil_of_length_eq_zero hD0] at hu
                      simp at hu⟩
                    refine wp_region_till 22 (S := (fun w' => w'.cell? ⟨b, 0, none⟩ = some (.slice (some ⟨go, 0, none⟩) n n) ∧ w'.cell? ⟨bx, 0, none⟩ = some (.slice xa nl xc) ∧ w'.cell? ⟨bx, 1, none⟩ = some (.int .u64 sq) ∧ w'.cell? ⟨bx, 2, none⟩ = some (.int .u8 kk) ∧ w'.cell? ⟨bx, 3, none⟩ = some (.slice ya ml yc))) (by kernel_rfl) ?_
                    have hHeld : (fun w' => w'.cell? ⟨b, 0, none⟩ = some (.slice (some ⟨go, 0, none⟩) n n) ∧ w'.cell? ⟨bx, 0, none⟩ = some (.slice xa nl xc) ∧ w'.cell? ⟨bx, 1, none⟩ = some (.int .u64 sq) ∧ w'.cell? ⟨bx, 2, none⟩ = some (.int .u8 kk) ∧ w'.cell? ⟨bx, 3, none⟩ = some (.slice ya ml yc)) w8.drew := ⟨D0, BX8.c0, BX8.c1, BX8.c2, BX8.c3⟩
                    refine till_take (i := 0) (v := (.pointer (some ⟨b, 0, none⟩))) rfl (by kernel_rfl) (by kernel_rfl) (by kernel_rfl) (by kernel_rfl) (by kernel_rfl) (by kernel_rfl) (fun _ _ _ h => h) (Or.inl ⟨by rfl, fun w hSw => by (try dsimp only at hSw); go_simp⟩) hHeld ?_
                    simp only [Act.put, List.setIfInBounds_toArray, List.set_cons_zero, List.set_cons_succ, List.getElem_toArray, List.getElem_cons_zero]
                    refine till_take (i := 2) (v := (.pointer (some ⟨b, 0, none⟩))) rfl (by kernel_rfl) (by kernel_rfl) (by kernel_rfl) (by kernel_rfl) (by kernel_rfl) (by kernel_rfl) (fun _ _ _ h => h) (Or.inl ⟨by rfl, fun w hSw => by (try dsimp only at hSw); go_simp⟩) hHeld ?_
                    simp only [Act.put, List.setIfInBounds_toArray, List.set_cons_zero, List.set_cons_succ, List.getElem_toArray, List.getElem_cons_zero, List.getElem_cons_succ]
                    refine till_take (i := 3) (v := (.pointer (some ⟨b, 0, none⟩))) rfl (by kernel_rfl) (by kernel_rfl) (by kernel_rfl) (by kernel_rfl) (by kernel_rfl) (by kernel_rfl) (fun _ _ _ h => h) (Or.inl ⟨by rfl, fun w hSw => by (try dsimp only at hSw); go_simp⟩) hHeld ?_
                    simp only [Act.put, List.setIfInBounds_toArray, List.set_cons_zero, List.set_cons_succ, List.getElem_toArray, List.getElem_cons_zero, List.getElem_cons_succ]
                    refine till_take (i := 4) (v := (.pointer (some ⟨b, 0, none⟩))) rfl (by kernel_rfl) (by kernel_rfl) (by kernel_rfl) (by kernel_rfl) (by kernel_rfl) (by kernel_rfl) (fun _ _ _ h => h) (Or.inl ⟨by rfl, fun w hSw => by (try dsimp only at hSw); go_simp⟩) hHeld ?_
                    simp only [Act.put, List.setIfInBounds_toArray, List.set_cons_zero, List.set_cons_succ, List.getElem_toArray, List.getElem_cons_zero, List.getElem_cons_succ]
                    refine till_take (i := 5) (v := (.slice (some ⟨go, 0, none⟩) n n)) rfl (by kernel_rfl) (by kernel_rfl) (by kernel_rfl) (by kernel_rfl) (by kernel_rfl) (by kernel_rfl) (fun _ _ _ h => h) (Or.inl ⟨by rfl, fun w hSw => by (try dsimp only at hSw); go_simp⟩) hHeld ?_
                    simp only [Act.put, List.setIfInBounds_toArray, List.set_cons_zero, List.set_cons_succ, List.getElem_toArray, List.getElem_cons_zero, List.getElem_cons_succ]
                    refine till_take (i := 6) (v := (.int .i64 ((n : Nat) : Int))) rfl (by kernel_rfl) (by kernel_rfl) (by kernel_rfl) (by kernel_rfl) (by kernel_rfl) (by kernel_rfl) (fun _ _ _ h => h) (Or.inl ⟨by rfl, fun w hSw => by (try dsimp only at hSw); go_simp⟩) hHeld ?_
                    simp only [Act.put, List.setIfInBounds_toArray, List.set_cons_zero, List.set_cons_succ, List.getElem_toArray, List.getElem_cons_zero, List.getElem_cons_succ]
                    refine till_take (i := 7) (v := (.slice (some ⟨go, 0, none⟩) n n)) rfl (by kernel_rfl) (by kernel_rfl) (by kernel_rfl) (by kernel_rfl) (by kernel_rfl) (by kernel_rfl) (fun _ _ _ h => h) (Or.inl ⟨by rfl, fun w hSw => by (try dsimp only at hSw); go_simp⟩) hHeld ?_
                    simp only [Act.put, List.setIfInBounds_toArray, List.set_cons_zero, List.set_cons_succ, List.getElem_toArray, List.getElem_cons_zero, List.getElem_cons_succ]
                    refine till_take (i := 9) (v := (.agg #[.slice xa nl xc, .int .u64 sq, .int .u8 kk, .slice ya ml yc])) rfl (by kernel_rfl) (by kernel_rfl) (by kernel_rfl) (by kernel_rfl) (by kernel_rfl) (by kernel_rfl) (fun _ _ _ h => h) (Or.inl ⟨by rfl, fun w hSw => by (try dsimp only at hSw); go_simp⟩) hHeld ?_
                    simp only [Act.put, List.setIfInBounds_toArray, List.set_cons_zero, List.set_cons_succ, List.getElem_toArray, List.getElem_cons_zero, List.getElem_cons_succ]
                    refine till_take (i := 13) (v := (.pointer (some ⟨b, 0, none⟩))) rfl (by kernel_rfl) (by kernel_rfl) (by kernel_rfl) (by kernel_rfl) (by kernel_rfl) (by kernel_rfl) (fun _ _ _ h => h) (Or.inl ⟨by rfl, fun w hSw => by (try dsimp only at hSw); go_simp⟩) hHeld ?_
                    simp only [Act.put, List.setIfInBounds_toArray, List.set_cons_zero, List.set_cons_succ, List.getElem_toArray, List.getElem_cons_zero, List.getElem_cons_succ]
                    refine till_take (i := 14) (v := (.pointer (some ⟨b, 0, none⟩))) rfl (by kernel_rfl) (by kernel_rfl) (by kernel_rfl) (by kernel_rfl) (by kernel_rfl) (by kernel_rfl) (fun _ _ _ h => h) (Or.inl ⟨by rfl, fun w hSw => by (try dsimp only at hSw); go_simp⟩) hHeld ?_
                    simp only [Act.put, List.setIfInBounds_toArray, List.set_cons_zero, List.set_cons_succ, List.getElem_toArray, List.getElem_cons_zero, List.getElem_cons_succ]
                    refine till_take (i := 15) (v := (.pointer (some ⟨b, 0, none⟩))) rfl (by kernel_rfl) (by kernel_rfl) (by kernel_rfl) (by kernel_rfl) (by kernel_rfl) (by kernel_rfl) (fun _ _ _ h => h) (Or.inl ⟨by rfl, fun w hSw => by (try dsimp only at hSw); go_simp⟩) hHeld ?_
                    simp only [Act.put, List.setIfInBounds_toArray, List.set_cons_zero, List.set_cons_succ, List.getElem_toArray, List.getElem_cons_zero, List.getElem_cons_succ]
                    refine till_take (i := 16) (v := (.slice (some ⟨go, 0, none⟩) n n)) rfl (by kernel_rfl) (by kernel_rfl) (by kernel_rfl) (by kernel_rfl) (by kernel_rfl) (by kernel_rfl) (fun _ _ _ h => h) (Or.inl ⟨by rfl, fun w hSw => by (try dsimp only at hSw); go_simp⟩) hHeld ?_
                    simp only [Act.put, List.setIfInBounds_toArray, List.set_cons_zero, List.set_cons_succ, List.getElem_toArray, List.getElem_cons_zero, List.getElem_cons_succ]
                    refine till_take (i := 17) (v := (.int .i64 ((n : Nat) : Int))) rfl (by kernel_rfl) (by kernel_rfl) (by kernel_rfl) (by kernel_rfl) (by kernel_rfl) (by kernel_rfl) (fun _ _ _ h => h) (Or.inl ⟨by rfl, fun w hSw => by (try dsimp only at hSw); go_simp⟩) hHeld ?_
                    simp only [Act.put, List.setIfInBounds_toArray, List.set_cons_zero, List.set_cons_succ, List.getElem_toArray, List.getElem_cons_zero, List.getElem_cons_succ]
                    refine till_take (i := 18) (v := (.slice (some ⟨go, 0, none⟩) 0 0)) rfl (by kernel_rfl) (by kernel_rfl) (by kernel_rfl) (by kernel_rfl) (by kernel_rfl) (by kernel_rfl) (fun _ _ _ h => h) (Or.inl ⟨by rfl, fun w hSw => by (try dsimp only at hSw); go_simp⟩) hHeld ?_
                    simp only [Act.put, List.setIfInBounds_toArray, List.set_cons_zero, List.set_cons_succ, List.getElem_toArray, List.getElem_cons_zero, List.getElem_cons_succ]
                    clear hHeld
                    refine till_one (i := 1) (by kernel_rfl) rfl (fun K hK => ?_)
                    go_simp
                    refine hK.out _ _ (fun _ => cA) ?_
                    clear hK K
                    try simp only [Act.put, List.setIfInBounds_toArray, List.set_cons_zero, List.set_cons_succ, List.getElem_toArray, List.getElem_cons_zero, List.getElem_cons_succ]
                    refine till_one (i := 8) (by kernel_rfl) rfl (fun K hK => ?_)
                    refine step_append_src rfl (.tmp 52) (.tmp 58) 28 rfl sz 38 i0 (.agg #[.slice none 0 0, .int .u64 0, .int .u8 0, .slice none 0 0]) 4 64 Try.underlying28 hi hz0 hz1 hz2 rfl (by decide) sz 0 0 [] rfl rA _ rfl n (cs.take (n * 4)) (hsrc1 _ pA) hone1 (by unfold maxLen; omega) (by omega) (by rw [sA]; omega) (sz + 1) sA n (Nat.zero_add _) ?_
                    intro g1 c1 w4 hw1 hg1 ha1
                    have p1 : Below sz w8 w4 := pA.grown hg1 (by rw [sA]; omega) (fun q e => by cases e; exact Nat.le_refl _)
                    have e1 : sz ≤ w4.heap.size := by have h9 := p1.size; rw [HSZ.out] at h9; exact h9
                    have hBw4 : Below w.heap.size w w4 := HB8.out.trans (p1.mono (by rw [← HSZ.out]; exact HB8.out.size))
                    have htw := twin_own w4 _ _ e.1 e.2.2.2 sq kk (HX.out.1.below hBw4 (Nat.le_refl _)).arg (HX.out.2.below hBw4 (Nat.le_refl _)).arg (by rw [HE.out.1.1]; exact HL.out.1) (by rw [HE.out.1.2]; exact HL.out.2.1)
                    simp only [enV] at htw
                    refine hK.out _ _ (fun _ => held19 p1 HLT.out.1 HLT.out.2 D0 BX8) ?_
                    clear hK K
                    try simp only [Act.put, List.setIfInBounds_toArray, List.set_cons_zero, List.set_cons_succ, List.getElem_toArray, List.getElem_cons_zero, List.getElem_cons_succ]
                    refine till_one (i := 10) (by kernel_rfl) rfl (fun K hK => ?_)
                    go_simp
                    go_at_call 12
                    refine htw.mono ?_
                    rintro o5 w5 ⟨x5, y5, rfl, ox, oy, hb5⟩
                    obtain ⟨tx, tc, ex⟩ := ox.rd.len
                    obtain ⟨ty, td, ey⟩ := oy.rd.len
                    rw [HE.out.1.1] at ex
                    rw [HE.out.1.2] at ey
                    subst ex ey
                    have p5 : Below sz w8 w5 := p1.trans (hb5.mono e1)
                    have e5 : sz ≤ w5.heap.size := Nat.le_trans e1 hb5.size
                    have hw5 := (row_below hw1 hb5).alloc (.cells #[.slice tx nl tc, .int .u64 sq, .int .u8 kk, .slice ty ml td] 38)
                    have p6 : Below sz w8 (w5.alloc (.cells #[.slice tx nl tc, .int .u64 sq, .int .u8 kk, .slice ty ml td] 38)) := p5.alloc e5 _
                    have e6 : sz ≤ (w5.alloc (.cells #[.slice tx nl tc, .int .u64 sq, .int .u8 kk, .slice ty ml td] 38)).heap.size := by simp; omega
                    have l6 := laid4 w5 (.slice tx nl tc) (.int .u64 sq) (.int .u8 kk) (.slice ty ml td) 38
                    have HOX : Hid (OwnN (w4.heap.size + 2) w5 (.slice tx nl tc) e.1 ∧ OwnN (w4.heap.size + 2) w5 (.slice ty ml td) e.2.2.2) := ⟨ox, oy⟩
                    clear htw ox oy
                    refine hK.out _ _ (fun _ => held19 p5 HLT.out.1 HLT.out.2 D0 BX8) ?_
                    clear hK K
                    try simp only [Act.put, List.setIfInBounds_toArray, List.set_cons_zero, List.set_cons_succ, List.getElem_toArray, List.getElem_cons_zero, List.getElem_cons_succ]
                    refine till_one (i := 11) (by kernel_rfl) rfl (fun K hK => ?_)
                    go_simp
                    refine hK.out _ _ (fun _ => held19 p6 HLT.out.1 HLT.out.2 D0 BX8) ?_
                    clear hK K
                    try simp only [Act.put, List.setIfInBounds_toArray, List.set_cons_zero, List.set_cons_succ, List.getElem_toArray, List.getElem_cons_zero, List.getElem_cons_succ]
                    refine till_one (i := 12) (by kernel_rfl) rfl (fun K hK => ?_)
                    refine step_append_src rfl (.tmp 59) (.tmp 62) 28 rfl sz 38 i0 (.agg #[.slice none 0 0, .int .u64 0, .int .u8 0, .slice none 0 0]) 4 64 Try.underlying28 hi hz0 hz1 hz2 rfl (by decide) g1 n c1 _ rfl hw5 _ rfl 1 [.slice tx nl tc, .int .u64 sq, .int .u8 kk, .slice ty ml td] (.inr ⟨_, _, rfl, rfl, l6⟩) (oneE _ _ _ _ _ _ _ _) (by unfold maxLen; omega) (by omega) e6 _ rfl (n + 1) rfl ?_
                    intro g2 c2 w6 hw2 hg2 ha2
                    have p7 : Below sz w8 w6 := p6.grown hg2 e6 (fun q e => by cases e; exact (hw1.lt _ rfl).1)
                    have e7 : sz ≤ w6.heap.size := by have h9 := p7.size; rw [HSZ.out] at h9; exact h9
                    refine hK.out _ _ (fun _ => held19 p7 HLT.out.1 HLT.out.2 D0 BX8) ?_
                    clear hK K
                    try simp only [Act.put, List.setIfInBounds_toArray, List.set_cons_zero, List.set_cons_succ, List.getElem_toArray, List.getElem_cons_zero, List.getElem_cons_succ]
                    refine till_one (i := 19) (by kernel_rfl) rfl (fun K hK => ?_)
                    refine step_append_src rfl (.tmp 63) (.tmp 69) 28 rfl sz 38 i0 (.agg #[.slice none 0 0, .int .u64 0, .int .u8 0, .slice none 0 0]) 4 64 Try.underlying28 hi hz0 hz1 hz2 rfl (by decide) g2 (n + 1) c2 _ rfl hw2 _ rfl (0) (cs.drop (n * 4)) (hsrc2 _ p7) hone2 (by unfold maxLen; omega) (by omega) e7 _ rfl (n + 1) (by omega) ?_
                    intro g3 c3 w7 hw3 hg3 ha3
                    have ox8 := ownN_kept (ownN_kept (HOX.out.1.below (below_box4 w5 (.cells #[.slice tx nl tc, .int .u64 sq, .int .u8 kk, .slice ty ml td] 38)) (Nat.le_refl _)) (by decide) hw5 hg2) (by decide) hw2 hg3
                    have oy8 := ownN_kept (ownN_kept (HOX.out.2.below (below_box4 w5 (.cells #[.slice tx nl tc, .int .u64 sq, .int .u8 kk, .slice ty ml td] 38)) (Nat.le_refl _)) (by decide) hw5 hg2) (by decide) hw2 hg3
                    have p8 : Below sz w8 w7 := p7.grown hg3 e7 (fun q e => by cases e; exact (hw2.lt _ rfl).1)
                    have hD7 := held19 p8 HLT.out.1 HLT.out.2 D0 BX8
                    obtain ⟨f0, f1, f2, f3, f4⟩ := hD7
                    have fz : w7.frozen? ⟨b, 0, none⟩ = false := (FRZ.out w7 p8).1
                    have hHeld : (fun w' => w'.cell? ⟨b, 0, none⟩ = some (.slice (some ⟨go, 0, none⟩) n n) ∧ w'.cell? ⟨bx, 0, none⟩ = some (.slice xa nl xc) ∧ w'.cell? ⟨bx, 1, none⟩ = some (.int .u64 sq) ∧ w'.cell? ⟨bx, 2, none⟩ = some (.int .u8 kk) ∧ w'.cell? ⟨bx, 3, none⟩ = some (.slice ya ml yc)) w7 := ⟨f0, f1, f2, f3, f4⟩
                    refine hK.out _ _ (fun _ => hHeld) ?_
                    clear hK K
                    try simp only [Act.put, List.setIfInBounds_toArray, List.set_cons_zero, List.set_cons_succ, List.getElem_toArray, List.getElem_cons_zero, List.getElem_cons_succ]
                    refine till_take (i := 20) (v := (.pointer (some ⟨b, 0, none⟩))) rfl (by kernel_rfl) (by kernel_rfl) (by kernel_rfl) (by kernel_rfl) (by kernel_rfl) (by kernel_rfl) (fun _ _ _ h => h) (Or.inl ⟨by rfl, fun w hSw => by (try dsimp only at hSw); go_simp⟩) hHeld ?_
                    simp only [Act.put, List.setIfInBounds_toArray, List.set_cons_zero, List.set_cons_succ, List.getElem_toArray, List.getElem_cons_zero, List.getElem_cons_succ]
                    refine till_take (i := 21) (v := (.pointer (some ⟨b, 0, none⟩))) rfl (by kernel_rfl) (by kernel_rfl) (by kernel_rfl) (by kernel_rfl) (by kernel_rfl) (by kernel_rfl) (fun _ _ _ h => h) (Or.inl ⟨by rfl, fun w hSw => by (try dsimp only at hSw); go_simp⟩) hHeld ?_
                    simp only [Act.put, List.setIfInBounds_toArray, List.set_cons_zero, List.set_cons_succ, List.getElem_toArray, List.getElem_cons_zero, List.getElem_cons_succ]
                    clear hHeld
                    refine till_one (i := 22) (by kernel_rfl) rfl (fun K hK => ?_)
                    go_simp
                    refine hK.out _ _ (fun h => absurd rfl h) ?_
                    clear hK K
                    try simp only [Act.put, List.setIfInBounds_toArray, List.set_cons_zero, List.set_cons_succ, List.getElem_toArray, List.getElem_cons_zero, List.getElem_cons_succ]
                    refine till_done (by kernel_rfl) ?_ _
                    have HMD : Hid (Mid19 G w w8 b L e n n g3 c3 ha hc (w7.setCell ⟨b, 0, none⟩ (.slice (some ⟨g3, 0, none⟩) (n + 1) c3))) := mid19 (x0 := .slice tx nl tc) (y0 := .slice ty ml td) HSZ.out HLT.out.1 HB8.out.size HC8.out HN.out.1 (by omega) p8 D1 f0 hw3 (by rw [HE.out.2.1]) (by rw [HE.out.2.2]) ox8 oy8 (by omega) HA8.out.blk
                    clear f0 f1 f2 f3 f4 fz
                    go_wp2_with fail
                    go_meet
                    exact ⟨rfl, g3, c3, (row_cap hw3).1, (row_cap hw3).2, HMD⟩
                  · have hck8 : ¬ (lc : Int) = (k : Int) := by omega
                    have hsrc2 : ∀ W : World, Below sz w8 W → SrcOf W 4 (Value.slice (some ⟨go, k * 4, none⟩) (n - k) (lc - k)) (n - k) (cs.drop (k * 4)) := fun W hb => .inr ⟨_, _, rfl, hD1, fun j u hu => by
                      rw [List.getElem?_drop] at hu
                      have h8 := hcell8 _ u hu
                      rw [← h8, Addr.add_lit, Addr.add_lit, Nat.zero_add]
                      exact hb.cell hgoz⟩
                    refine wp_region_till 22 (S := (fun w' => w'.cell? ⟨b, 0, none⟩ = some (.slice (some ⟨go, 0, none⟩) n lc) ∧ w'.cell? ⟨bx, 0, none⟩ = some (.slice xa nl xc) ∧ w'.cell? ⟨bx, 1, none⟩ = some (.int .u64 sq) ∧ w'.cell? ⟨bx, 2, none⟩ = some (.int .u8 kk) ∧ w'.cell? ⟨bx, 3, none⟩ = some (.slice ya ml yc))) (by kernel_rfl) ?_
                    have hHeld : (fun w' => w'.cell? ⟨b, 0, none⟩ = some (.slice (some ⟨go, 0, none⟩) n lc) ∧ w'.cell? ⟨bx, 0, none⟩ = some (.slice xa nl xc) ∧ w'.cell? ⟨bx, 1, none⟩ = some (.int .u64 sq) ∧ w'.cell? ⟨bx, 2, none⟩ = some (.int .u8 kk) ∧ w'.cell? ⟨bx, 3, none⟩ = some (.slice ya ml yc)) w8.drew := ⟨D0, BX8.c0, BX8.c1, BX8.c2, BX8.c3⟩
                    refine till_take (i := 0) (v := (.pointer (some ⟨b, 0, none⟩))) rfl (by kernel_rfl) (by kernel_rfl) (by kernel_rfl) (by kernel_rfl) (by kernel_rfl) (by kernel_rfl) (fun _ _ _ h => h) (Or.inl ⟨by rfl, fun w hSw => by (try dsimp only at hSw); go_simp⟩) hHeld ?_
                    simp only [Act.put, List.setIfInBounds_toArray, List.set_cons_zero, List.set_cons_succ, List.getElem_toArray, List.getElem_cons_zero]
                    refine till_take (i := 2) (v := (.pointer (some ⟨b, 0, none⟩))) rfl (by kernel_rfl) (by kernel_rfl) (by kernel_rfl) (by kernel_rfl) (by kernel_rfl) (by kernel_rfl) (fun _ _ _ h => h) (Or.inl ⟨by rfl, fun w hSw => by (try dsimp only at hSw); go_simp⟩) hHeld ?_
                    simp only [Act.put, List.setIfInBounds_toArray, List.set_cons_zero, List.set_cons_succ, List.getElem_toArray, List.getElem_cons_zero, List.getElem_cons_succ]
                    refine till_take (i := 3) (v := (.pointer (some ⟨b, 0, none⟩))) rfl (by kernel_rfl) (by kernel_rfl) (by kernel_rfl) (by kernel_rfl) (by kernel_rfl) (by kernel_rfl) (fun _ _ _ h => h) (Or.inl ⟨by rfl, fun w hSw => by (try dsimp only at hSw); go_simp⟩) hHeld ?_
                    simp only [Act.put, List.setIfInBounds_toArray, List.set_cons_zero, List.set_cons_succ, List.getElem_toArray, List.getElem_cons_zero, List.getElem_cons_succ]
                    refine till_take (i := 4) (v := (.pointer (some ⟨b, 0, none⟩))) rfl (by kernel_rfl) (by kernel_rfl) (by kernel_rfl) (by kernel_rfl) (by kernel_rfl) (by kernel_rfl) (fun _ _ _ h => h) (Or.inl ⟨by rfl, fun w hSw => by (try dsimp only at hSw); go_simp⟩) hHeld ?_
                    simp only [Act.put, List.setIfInBounds_toArray, List.set_cons_zero, List.set_cons_succ, List.getElem_toArray, List.getElem_cons_zero, List.getElem_cons_succ]
                    refine till_take (i := 5) (v := (.slice (some ⟨go, 0, none⟩) n lc)) rfl (by kernel_rfl) (by kernel_rfl) (by kernel_rfl) (by kernel_rfl) (by kernel_rfl) (by kernel_rfl) (fun _ _ _ h => h) (Or.inl ⟨by rfl, fun w hSw => by (try dsimp only at hSw); go_simp⟩) hHeld ?_
                    simp only [Act.put, List.setIfInBounds_toArray, List.set_cons_zero, List.set_cons_succ, List.getElem_toArray, List.getElem_cons_zero, List.getElem_cons_succ]
                    refine till_take (i := 6) (v := (.int .i64 ((k : Nat) : Int))) rfl (by kernel_rfl) (by kernel_rfl) (by kernel_rfl) (by kernel_rfl) (by kernel_rfl) (by kernel_rfl) (fun _ _ _ h => h) (Or.inl ⟨by rfl, fun w hSw => by (try dsimp only at hSw); go_simp⟩) hHeld ?_
                    simp only [Act.put, List.setIfInBounds_toArray, List.set_cons_zero, List.set_cons_succ, List.getElem_toArray, List.getElem_cons_zero, List.getElem_cons_succ]
                    refine till_take (i := 7) (v := (.slice (some ⟨go, 0, none⟩) k lc)) rfl (by kernel_rfl) (by kernel_rfl) (by kernel_rfl) (by kernel_rfl) (by kernel_rfl) (by kernel_rfl) (fun _ _ _ h => h) (Or.inl ⟨by rfl, fun w hSw => by (try dsimp only at hSw); go_simp⟩) hHeld ?_
                    simp only [Act.put, List.setIfInBounds_toArray, List.set_cons_zero, List.set_cons_succ, List.getElem_toArray, List.getElem_cons_zero, List.getElem_cons_succ]
                    refine till_take (i := 9) (v := (.agg #[.slice xa nl xc, .int .u64 sq, .int .u8 kk, .slice ya ml yc])) rfl (by kernel_rfl) (by kernel_rfl) (by kernel_rfl) (by kernel_rfl) (by kernel_rfl) (by kernel_rfl) (fun _ _ _ h => h) (Or.inl ⟨by rfl, fun w hSw => by (try dsimp only at hSw); go_simp⟩) hHeld ?_
                    simp only [Act.put, List.setIfInBounds_toArray, List.set_cons_zero, List.set_cons_succ, List.getElem_toArray, List.getElem_cons_zero, List.getElem_cons_succ]
                    refine till_take (i := 13) (v := (.pointer (some ⟨b, 0, none⟩))) rfl (by kernel_rfl) (by kernel_rfl) (by kernel_rfl) (by kernel_rfl) (by kernel_rfl) (by kernel_rfl) (fun _ _ _ h => h) (Or.inl ⟨by rfl, fun w hSw => by (try dsimp only at hSw); go_simp⟩) hHeld ?_
                    simp only [Act.put, List.setIfInBounds_toArray, List.set_cons_zero, List.set_cons_succ, List.getElem_toArray, List.getElem_cons_zero, List.getElem_cons_succ]
                    refine till_take (i := 14) (v := (.pointer (some ⟨b, 0, none⟩))) rfl (by kernel_rfl) (by kernel_rfl) (by kernel_rfl) (by kernel_rfl) (by kernel_rfl) (by kernel_rfl) (fun _ _ _ h => h) (Or.inl ⟨by rfl, fun w hSw => by (try dsimp only at hSw); go_simp⟩) hHeld ?_
                    simp only [Act.put, List.setIfInBounds_toArray, List.set_cons_zero, List.set_cons_succ, List.getElem_toArray, List.getElem_cons_zero, List.getElem_cons_succ]
                    refine till_take (i := 15) (v := (.pointer (some ⟨b, 0, none⟩))) rfl (by kernel_rfl) (by kernel_rfl) (by kernel_rfl) (by kernel_rfl) (by kernel_rfl) (by kernel_rfl) (fun _ _ _ h => h) (Or.inl ⟨by rfl, fun w hSw => by (try dsimp only at hSw); go_simp⟩) hHeld ?_
                    simp only [Act.put, List.setIfInBounds_toArray, List.set_cons_zero, List.set_cons_succ, List.getElem_toArray, List.getElem_cons_zero, List.getElem_cons_succ]
                    refine till_take (i := 16) (v := (.slice (some ⟨go, 0, none⟩) n lc)) rfl (by kernel_rfl) (by kernel_rfl) (by kernel_rfl) (by kernel_rfl) (by kernel_rfl) (by kernel_rfl) (fun _ _ _ h => h) (Or.inl ⟨by rfl, fun w hSw => by (try dsimp only at hSw); go_simp⟩) hHeld ?_
                    simp only [Act.put, List.setIfInBounds_toArray, List.set_cons_zero, List.set_cons_succ, List.getElem_toArray, List.getElem_cons_zero, List.getElem_cons_succ]
                    refine till_take (i := 17) (v := (.int .i64 ((k : Nat) : Int))) rfl (by kernel_rfl) (by kernel_rfl) (by kernel_rfl) (by kernel_rfl) (by kernel_rfl) (by kernel_rfl) (fun _ _ _ h => h) (Or.inl ⟨by rfl, fun w hSw => by (try dsimp only at hSw); go_simp⟩) hHeld ?_
                    simp only [Act.put, List.setIfInBounds_toArray, List.set_cons_zero, List.set_cons_succ, List.getElem_toArray, List.getElem_cons_zero, List.getElem_cons_succ]
                    refine till_take (i := 18) (v := (.slice (some ⟨go, k * 4, none⟩) (n - k) (lc - k))) rfl (by kernel_rfl) (by kernel_rfl) (by kernel_rfl) (by kernel_rfl) (by kernel_rfl) (by kernel_rfl) (fun _ _ _ h => h) (Or.inl ⟨by rfl, fun w hSw => by (try dsimp only at hSw); go_simp⟩) hHeld ?_
                    simp only [Act.put, List.setIfInBounds_toArray, List.set_cons_zero, List.set_cons_succ, List.getElem_toArray, List.getElem_cons_zero, List.getElem_cons_succ]
                    clear hHeld
                    refine till_one (i := 1) (by kernel_rfl) rfl (fun K hK => ?_)
                    go_simp
                    refine hK.out _ _ (fun _ => cA) ?_
                    clear hK K
                    try simp only [Act.put, List.setIfInBounds_toArray, List.set_cons_zero, List.set_cons_succ, List.getElem_toArray, List.getElem_cons_zero, List.getElem_cons_succ]
                    refine till_one (i := 8) (by kernel_rfl) rfl (fun K hK => ?_)
                    refine step_append_src rfl (.tmp 52) (.tmp 58) 28 rfl sz 38 i0 (.agg #[.slice none 0 0, .int .u64 0, .int .u8 0, .slice none 0 0]) 4 64 Try.underlying28 hi hz0 hz1 hz2 rfl (by decide) sz 0 0 [] rfl rA _ rfl k (cs.take (k * 4)) (hsrc1 _ pA) hone1 (by unfold maxLen; omega) (by omega) (by rw [sA]; omega) (sz + 1) sA k (Nat.zero_add _) ?_
                    intro g1 c1 w4 hw1 hg1 ha1
                    have p1 : Below sz w8 w4 := pA.grown hg1 (by rw [sA]; omega) (fun q e => by cases e; exact Nat.le_refl _)
                    have e1 : sz ≤ w4.heap.size := by have h9 := p1.size; rw [HSZ.out] at h9; exact h9
                    have hBw4 : Below w.heap.size w w4 := HB8.out.trans (p1.mono (by rw [← HSZ.out]; exact HB8.out.size))
                    have htw := twin_own w4 _ _ e.1 e.2.2.2 sq kk (HX.out.1.below hBw4 (Nat.le_refl _)).arg (HX.out.2.below hBw4 (Nat.le_refl _)).arg (by rw [HE.out.1.1]; exact HL.out.1) (by rw [HE.out.1.2]; exact HL.out.2.1)
                    simp only [enV] at htw
                    refine hK.out _ _ (fun _ => held19 p1 HLT.out.1 HLT.out.2 D0 BX8) ?_
                    clear hK K
                    try simp only [Act.put, List.setIfInBounds_toArray, List.set_cons_zero, List.set_cons_succ, List.getElem_toArray, List.getElem_cons_zero, List.getElem_cons_succ]
                    refine till_one (i := 10) (by kernel_rfl) rfl (fun K hK => ?_)
                    go_simp
                    go_at_call 12
                    refine htw.mono ?_
                    rintro o5 w5 ⟨x5, y5, rfl, ox, oy, hb5⟩
                    obtain ⟨tx, tc, ex⟩ := ox.rd.len
                    obtain ⟨ty, td, ey⟩ := oy.rd.len
                    rw [HE.out.1.1] at ex
                    rw [HE.out.1.2] at ey
                    subst ex ey
                    have p5 : Below sz w8 w5 := p1.trans (hb5.mono e1)
                    have e5 : sz ≤ w5.heap.size := Nat.le_trans e1 hb5.size
                    have hw5 := (row_below hw1 hb5).alloc (.cells #[.slice tx nl tc, .int .u64 sq, .int .u8 kk, .slice ty ml td] 38)
                    have p6 : Below sz w8 (w5.alloc (.cells #[.slice tx nl tc, .int .u64 sq, .int .u8 kk, .slice ty ml td] 38)) := p5.alloc e5 _
                    have e6 : sz ≤ (w5.alloc (.cells #[.slice tx nl tc, .int .u64 sq, .int .u8 kk, .slice ty ml td] 38)).heap.size := by simp; omega
                    have l6 := laid4 w5 (.slice tx nl tc) (.int .u64 sq) (.int .u8 kk) (.slice ty ml td) 38
                    have HOX : Hid (OwnN (w4.heap.size + 2) w5 (.slice tx nl tc) e.1 ∧ OwnN (w4.heap.size + 2) w5 (.slice ty ml td) e.2.2.2) := ⟨ox, oy⟩
                    clear htw ox oy
                    refine hK.out _ _ (fun _ => held19 p5 HLT.out.1 HLT.out.2 D0 BX8) ?_
                    clear hK K
                    try simp only [Act.put, List.setIfInBounds_toArray, List.set_cons_zero, List.set_cons_succ, List.getElem_toArray, List.getElem_cons_zero, List.getElem_cons_succ]
                    refine till_one (i := 11) (by kernel_rfl) rfl (fun K hK => ?_)
                    go_simp
                    refine hK.out _ _ (fun _ => held19 p6 HLT.out.1 HLT.out.2 D0 BX8) ?_
                    clear hK K
                    try simp only [Act.put, List.setIfInBounds_toArray, List.set_cons_zero, List.set_cons_succ, List.getElem_toArray, List.getElem_cons_zero, List.getElem_cons_succ]
                    refine till_one (i := 12) (by kernel_rfl) rfl (fun K hK => ?_)
                    refine step_append_src rfl (.tmp 59) (.tmp 62) 28 rfl sz 38 i0 (.agg #[.slice none 0 0, .int .u64 0, .int .u8 0, .slice none 0 0]) 4 64 Try.underlying28 hi hz0 hz1 hz2 rfl (by decide) g1 k c1 _ rfl hw5 _ rfl 1 [.slice tx nl tc, .int .u64 sq, .int .u8 kk, .slice ty ml td] (.inr ⟨_, _, rfl, rfl, l6⟩) (oneE _ _ _ _ _ _ _ _) (by unfold maxLen; omega) (by omega) e6 _ rfl (k + 1) rfl ?_
                    intro g2 c2 w6 hw2 hg2 ha2
                    have p7 : Below sz w8 w6 := p6.grown hg2 e6 (fun q e => by cases e; exact (hw1.lt _ rfl).1)
                    have e7 : sz ≤ w6.heap.size := by have h9 := p7.size; rw [HSZ.out] at h9; exact h9
                    refine hK.out _ _ (fun _ => held19 p7 HLT.out.1 HLT.out.2 D0 BX8) ?_
                    clear hK K
                    try simp only [Act.put, List.setIfInBounds_toArray, List.set_cons_zero, List.set_cons_succ, List.getElem_toArray, List.getElem_cons_zero, List.getElem_cons_succ]
                    refine till_one (i := 19) (by kernel_rfl) rfl (fun K hK => ?_)
                    refine step_append_src rfl (.tmp 63) (.tmp 69) 28 rfl sz 38 i0 (.agg #[.slice none 0 0, .int .u64 0, .int .u8 0, .slice none 0 0]) 4 64 Try.underlying28 hi hz0 hz1 hz2 rfl (by decide) g2 (k + 1) c2 _ rfl hw2 _ rfl (n - k) (cs.drop (k * 4)) (hsrc2 _ p7) hone2 (by unfold maxLen; omega) (by omega) e7 _ rfl (n + 1) (by omega) ?_
                    intro g3 c3 w7 hw3 hg3 ha3
                    have ox8 := ownN_kept (ownN_kept (HOX.out.1.below (below_box4 w5 (.cells #[.slice tx nl tc, .int .u64 sq, .int .u8 kk, .slice ty ml td] 38)) (Nat.le_refl _)) (by decide) hw5 hg2) (by decide) hw2 hg3
                    have oy8 := ownN_kept (ownN_kept (HOX.out.2.below (below_box4 w5 (.cells #[.slice tx nl tc, .int .u64 sq, .int .u8 kk, .slice ty ml td] 38)) (Nat.le_refl _)) (by decide) hw5 hg2) (by decide) hw2 hg3
                    have p8 : Below sz w8 w7 := p7.grown hg3 e7 (fun q e => by cases e; exact (hw2.lt _ rfl).1)
                    have hD7 := held19 p8 HLT.out.1 HLT.out.2 D0 BX8
                    obtain ⟨f0, f1, f2, f3, f4⟩ := hD7
                    have fz : w7.frozen? ⟨b, 0, none⟩ = false := (FRZ.out w7 p8).1
                    have hHeld : (fun w' => w'.cell? ⟨b, 0, none⟩ = some (.slice (some ⟨go, 0, none⟩) n lc) ∧ w'.cell? ⟨bx, 0, none⟩ = some (.slice xa nl xc) ∧ w'.cell? ⟨bx, 1, none⟩ = some (.int .u64 sq) ∧ w'.cell? ⟨bx, 2, none⟩ = some (.int .u8 kk) ∧ w'.cell? ⟨bx, 3, none⟩ = some (.slice ya ml yc)) w7 := ⟨f0, f1, f2, f3, f4⟩
                    refine hK.out _ _ (fun _ => hHeld) ?_
                    clear hK K
                    try simp only [Act.put, List.setIfInBounds_toArray, List.set_cons_zero, List.set_cons_succ, List.getElem_toArray, List.getElem_cons_zero, List.getElem_cons_succ]
                    refine till_take (i := 20) (v := (.pointer (some ⟨b, 0, none⟩))) rfl (by kernel_rfl) (by kernel_rfl) (by kernel_rfl) (by kernel_rfl) (by kernel_rfl) (by kernel_rfl) (fun _ _ _ h => h) (Or.inl ⟨by rfl, fun w hSw => by (try dsimp only at hSw); go_simp⟩) hHeld ?_
                    simp only [Act.put, List.setIfInBounds_toArray, List.set_cons_zero, List.set_cons_succ, List.getElem_toArray, List.getElem_cons_zero, List.getElem_cons_succ]
                    refine till_take (i := 21) (v := (.pointer (some ⟨b, 0, none⟩))) rfl (by kernel_rfl) (by kernel_rfl) (by kernel_rfl) (by kernel_rfl) (by kernel_rfl) (by kernel_rfl) (fun _ _ _ h => h) (Or.inl ⟨by rfl, fun w hSw => by (try dsimp only at hSw); go_simp⟩) hHeld ?_
                    simp only [Act.put, List.setIfInBounds_toArray, List.set_cons_zero, List.set_cons_succ, List.getElem_toArray, List.getElem_cons_zero, List.getElem_cons_succ]
                    clear hHeld
                    refine till_one (i := 22) (by kernel_rfl) rfl (fun K hK => ?_)
                    go_simp
                    refine hK.out _ _ (fun h => absurd rfl h) ?_
                    clear hK K
                    try simp only [Act.put, List.setIfInBounds_toArray, List.set_cons_zero, List.set_cons_succ, List.getElem_toArray, List.getElem_cons_zero, List.getElem_cons_succ]
                    refine till_done (by kernel_rfl) ?_ _
                    have HMD : Hid (Mid19 G w w8 b L e k n g3 c3 ha hc (w7.setCell ⟨b, 0, none⟩ (.slice (some ⟨g3, 0, none⟩) (n + 1) c3))) := mid19 (x0 := .slice tx nl tc) (y0 := .slice ty ml td) HSZ.out HLT.out.1 HB8.out.size HC8.out HN.out.1 (by omega) p8 D1 f0 hw3 (by rw [HE.out.2.1]) (by rw [HE.out.2.2]) ox8 oy8 (by omega) HA8.out.blk
                    clear f0 f1 f2 f3 f4 fz
                    go_wp2_with fail
                    go_meet
                    exact ⟨rfl, g3, c3, (row_cap hw3).1, (row_cap hw3).2, HMD⟩
              case rest =>
                obtain ⟨rfl, g3, c3, hg3c, hc3m, HMD⟩ := hcut
                obtain ⟨sz2, hsz2⟩ : ∃ sz, wc.heap.size = sz := ⟨_, rfl⟩
                have HSZ2 : Hid (wc.heap.size = sz2) := hsz2
                have C1 : wc.cell? ⟨b, 1, none⟩ = some (.slice ha n hc) := HMD.out.c1
                have HBZ : Hid (b < sz2) := by show _ < _; rw [← hsz2]; exact World.block_lt_of_cell? _ _ C1
                have hRH9 : RowH (fun i => G i ∧ i ≠ b) wc (.slice ha H.length hc) H := HRH8.out.keeps HMD.out.kp (fun i hi e => hi.2 e)
                have hr9 := hRH9.2
                rw [HN.out.2] at hr9
                have hzl : (zv H).length = n := by rw [zv_len]; exact HN.out.2
                have FZ2 : Hid (∀ W, Below sz2 wc W → W.frozen? ⟨b, 1, none⟩ = false) := fun W hW => by
                  obtain ⟨ca, ty, _, hb⟩ := HMD.out.blk
                  have hb2 : W.heap[b]? = some (.cells ca ty (0, 0)) := by rw [hW.block b HBZ.out]; exact hb
                  exact frozen_of_row W b 1 ca ty hb2
                have pA : Below sz2 wc (wc.alloc (.cells #[] 3)).drew := by rw [← hsz2]; exact ((Below.refl _ _).alloc (Nat.le_refl _) _).drew
                have pL : Below sz2 wc (wc.alloc (.cells #[.int .i64 hh] 3)).drew := by rw [← hsz2]; exact ((Below.refl _ _).alloc (Nat.le_refl _) _).drew
                have pAL : Below sz2 wc ((wc.alloc (.cells #[] 3)).alloc (.cells #[.int .i64 hh] 3)).drew := by rw [← hsz2]; exact (((Below.refl _ _).alloc (Nat.le_refl _) _).alloc (by simp) _).drew
                have pLA : Below sz2 wc ((wc.alloc (.cells #[.int .i64 hh] 3)).alloc (.cells #[] 3)).drew := by rw [← hsz2]; exact (((Below.refl _ _).alloc (Nat.le_refl _) _).alloc (by simp) _).drew
                have sA : (wc.alloc (.cells #[] 3)).drew.heap.size = sz2 + 1 := by rw [← hsz2]; simp
                have sAL : ((wc.alloc (.cells #[] 3)).alloc (.cells #[.int .i64 hh] 3)).drew.heap.size = sz2 + 2 := by rw [← hsz2]; simp
                have sLA : ((wc.alloc (.cells #[.int .i64 hh] 3)).alloc (.cells #[] 3)).drew.heap.size = sz2 + 2 := by rw [← hsz2]; simp
                have rA : (wc.alloc (.cells #[] 3)).drew.ownsRow sz2 3 1 (.slice (some ⟨sz2, 0, none⟩) 0 0) 0 [] := by
                  have h9 := World.ownsRow_lit wc #[] 0 (base := sz2) (size := 1) (e := 3) (by rw [← hsz2]; exact Nat.le_refl _) (Nat.zero_le _) rfl
                  rw [hsz2] at h9
                  exact h9
                have rAL : ((wc.alloc (.cells #[] 3)).alloc (.cells #[.int .i64 hh] 3)).drew.ownsRow sz2 3 1 (.slice (some ⟨sz2, 0, none⟩) 0 0) 0 [] := rA.alloc _
                have rLA : ((wc.alloc (.cells #[.int .i64 hh] 3)).alloc (.cells #[] 3)).drew.ownsRow sz2 3 1 (.slice (some ⟨sz2 + 1, 0, none⟩) 0 0) 0 [] := by
                  have hq : (wc.alloc (.cells #[.int .i64 hh] 3)).heap.size = sz2 + 1 := by rw [← hsz2]; simp
                  have h9 := World.ownsRow_lit (wc.alloc (.cells #[.int .i64 hh] 3)) #[] 0 (base := sz2) (size := 1) (e := 3) (by rw [hq]; exact Nat.le_succ _) (Nat.zero_le _) rfl
                  rw [hq] at h9
                  exact h9
                have lAL : ∀ j u, [Value.int .i64 hh][j]? = some u → ((wc.alloc (.cells #[] 3)).alloc (.cells #[.int .i64 hh] 3)).drew.cell? ((⟨sz2 + 1, 0, none⟩ : Addr).add j) = some u := by
                  have h9 := laid1 (wc.alloc (.cells #[] 3)) (.int .i64 hh) 3
                  rw [show (wc.alloc (.cells #[] 3)).heap.size = sz2 + 1 by rw [← hsz2]; simp] at h9
                  exact h9
                have lLA : ∀ j u, [Value.int .i64 hh][j]? = some u → ((wc.alloc (.cells #[.int .i64 hh] 3)).alloc (.cells #[] 3)).drew.cell? ((⟨sz2, 0, none⟩ : Addr).add j) = some u := fun j u hu => by
                  have h9 := laid1 wc (.int .i64 hh) 3 j u hu
                  rw [hsz2] at h9
                  exact ((below_box4 (wc.alloc (.cells #[.int .i64 hh] 3)) (.cells #[] 3)).cell (World.block_lt_of_cell? _ _ h9)).trans h9
                have hone1 : ∀ u ∈ (zv H).take k, u.oneCell' = true := fun u hu => by
                  have h9 := List.mem_of_mem_take hu
                  unfold zv at h9
                  obtain ⟨z, _, rfl⟩ := List.mem_map.1 h9
                  rfl
                have hone2 : ∀ u ∈ (zv H).drop k, u.oneCell' = true := fun u hu => by
                  have h9 := List.mem_of_mem_drop hu
                  unfold zv at h9
                  obtain ⟨z, _, rfl⟩ := List.mem_map.1 h9
                  rfl
                go_wp2_with fail
                rcases hr9.2 with ⟨ev, hn0⟩ | ⟨go, cap, cur, ev, _, hgo, h1', h2', _⟩
                · cases ev
                  have hk0 : k = 0 := by omega
                  subst hk0
                  have hcs9 : zv H = [] := List.eq_nil_of_length_eq_zero hzl
                  have hsrc1 : ∀ W : World, Below sz2 wc W → SrcOf W 1 (Value.slice none 0 0) 0 ((zv H).take 0) := fun W _ => .inl ⟨rfl, rfl, by simp⟩
                  have hsrc2 : ∀ W : World, Below sz2 wc W → SrcOf W 1 (Value.slice none 0 0) (0 - 0) ((zv H).drop 0) := fun W _ => .inl ⟨rfl, rfl, by rw [hcs9]; rfl⟩
                  refine wp_region_till 21 (S := (fun w' => w'.cell? ⟨b, 1, none⟩ = some (.slice none 0 0))) (by kernel_rfl) ?_
                  have hHeld : (fun w' => w'.cell? ⟨b, 1, none⟩ = some (.slice none 0 0)) wc.drew := C1
                  refine till_take (i := 0) (v := (.pointer (some ⟨b, 0, none⟩))) rfl (by kernel_rfl) (by kernel_rfl) (by kernel_rfl) (by kernel_rfl) (by kernel_rfl) (by kernel_rfl) (fun _ _ _ h => h) (Or.inl ⟨by rfl, fun w hSw => by (try dsimp only at hSw); go_simp⟩) hHeld ?_
                  simp only [Act.put, List.setIfInBounds_toArray, List.set_cons_zero, List.set_cons_succ, List.getElem_toArray, List.getElem_cons_zero]
                  refine till_take (i := 2) (v := (.pointer (some ⟨b, 0, none⟩))) rfl (by kernel_rfl) (by kernel_rfl) (by kernel_rfl) (by kernel_rfl) (by kernel_rfl) (by kernel_rfl) (fun _ _ _ h => h) (Or.inl ⟨by rfl, fun w hSw => by (try dsimp only at hSw); go_simp⟩) hHeld ?_
                  simp only [Act.put, List.setIfInBounds_toArray, List.set_cons_zero, List.set_cons_succ, List.getElem_toArray, List.getElem_cons_zero, List.getElem_cons_succ]
                  refine till_take (i := 3) (v := (.pointer (some ⟨b, 0, none⟩))) rfl (by kernel_rfl) (by kernel_rfl) (by kernel_rfl) (by kernel_rfl) (by kernel_rfl) (by kernel_rfl) (fun _ _ _ h => h) (Or.inl ⟨by rfl, fun w hSw => by (try dsimp only at hSw); go_simp⟩) hHeld ?_
                  simp only [Act.put, List.setIfInBounds_toArray, List.set_cons_zero, List.set_cons_succ, List.getElem_toArray, List.getElem_cons_zero, List.getElem_cons_succ]
                  refine till_take (i := 4) (v := (.pointer (some ⟨b, 1, none⟩))) rfl (by kernel_rfl) (by kernel_rfl) (by kernel_rfl) (by kernel_rfl) (by kernel_rfl) (by kernel_rfl) (fun _ _ _ h => h) (Or.inl ⟨by rfl, fun w hSw => by (try dsimp only at hSw); go_simp⟩) hHeld ?_
                  simp only [Act.put, List.setIfInBounds_toArray, List.set_cons_zero, List.set_cons_succ, List.getElem_toArray, List.getElem_cons_zero, List.getElem_cons_succ]
                  refine till_take (i := 5) (v := (.slice none 0 0)) rfl (by kernel_rfl) (by kernel_rfl) (by kernel_rfl) (by kernel_rfl) (by kernel_rfl) (by kernel_rfl) (fun _ _ _ h => h) (Or.inl ⟨by rfl, fun w hSw => by (try dsimp only at hSw); go_simp⟩) hHeld ?_
                  simp only [Act.put, List.setIfInBounds_toArray, List.set_cons_zero, List.set_cons_succ, List.getElem_toArray, List.getElem_cons_zero, List.getElem_cons_succ]
                  refine till_take (i := 6) (v := (.int .i64 ((0 : Nat) : Int))) rfl (by kernel_rfl) (by kernel_rfl) (by kernel_rfl) (by kernel_rfl) (by kernel_rfl) (by kernel_rfl) (fun _ _ _ h => h) (Or.inl ⟨by rfl, fun w hSw => by (try dsimp only at hSw); go_simp⟩) hHeld ?_
                  simp only [Act.put, List.setIfInBounds_toArray, List.set_cons_zero, List.set_cons_succ, List.getElem_toArray, List.getElem_cons_zero, List.getElem_cons_succ]
                  refine till_take (i := 7) (v := (.slice none 0 0)) rfl (by kernel_rfl) (by kernel_rfl) (by kernel_rfl) (by kernel_rfl) (by kernel_rfl) (by kernel_rfl) (fun _ _ _ h => h) (Or.inl ⟨by rfl, fun w hSw => by (try dsimp only at hSw); go_simp⟩) hHeld ?_
                  simp only [Act.put, List.setIfInBounds_toArray, List.set_cons_zero, List.set_cons_succ, List.getElem_toArray, List.getElem_cons_zero, List.getElem_cons_succ]
                  refine till_take (i := 9) (v := (.int .i64 hh)) rfl (by kernel_rfl) (by kernel_rfl) (by kernel_rfl) (by kernel_rfl) (by kernel_rfl) (by kernel_rfl) (fun _ _ _ h => h) (Or.inl ⟨by rfl, fun w hSw => by (try dsimp only at hSw); go_simp⟩) hHeld ?_
                  simp only [Act.put, List.setIfInBounds_toArray, List.set_cons_zero, List.set_cons_succ, List.getElem_toArray, List.getElem_cons_zero, List.getElem_cons_succ]
                  refine till_take (i := 12) (v := (.pointer (some ⟨b, 0, none⟩))) rfl (by kernel_rfl) (by kernel_rfl) (by kernel_rfl) (by kernel_rfl) (by kernel_rfl) (by kernel_rfl) (fun _ _ _ h => h) (Or.inl ⟨by rfl, fun w hSw => by (try dsimp only at hSw); go_simp⟩) hHeld ?_
                  simp only [Act.put, List.setIfInBounds_toArray, List.set_cons_zero, List.set_cons_succ, List.getElem_toArray, List.getElem_cons_zero, List.getElem_cons_succ]
                  refine till_take (i := 13) (v := (.pointer (some ⟨b, 0, none⟩))) rfl (by kernel_rfl) (by kernel_rfl) (by kernel_rfl) (by kernel_rfl) (by kernel_rfl) (by kernel_rfl) (fun _ _ _ h => h) (Or.inl ⟨by rfl, fun w hSw => by (try dsimp only at hSw); go_simp⟩) hHeld ?_
                  simp only [Act.put, List.setIfInBounds_toArray, List.set_cons_zero, List.set_cons_succ, List.getElem_toArray, List.getElem_cons_zero, List.getElem_cons_succ]
                  refine till_take (i := 14) (v := (.pointer (some ⟨b, 1, none⟩))) rfl (by kernel_rfl) (by kernel_rfl) (by kernel_rfl) (by kernel_rfl) (by kernel_rfl) (by kernel_rfl) (fun _ _ _ h => h) (Or.inl ⟨by rfl, fun w hSw => by (try dsimp only at hSw); go_simp⟩) hHeld ?_
                  simp only [Act.put, List.setIfInBounds_toArray, List.set_cons_zero, List.set_cons_succ, List.getElem_toArray, List.getElem_cons_zero, List.getElem_cons_succ]
                  refine till_take (i := 15) (v := (.slice none 0 0)) rfl (by kernel_rfl) (by kernel_rfl) (by kernel_rfl) (by kernel_rfl) (by kernel_rfl) (by kernel_rfl) (fun _ _ _ h => h) (Or.inl ⟨by rfl, fun w hSw => by (try dsimp only at hSw); go_simp⟩) hHeld ?_
                  simp only [Act.put, List.setIfInBounds_toArray, List.set_cons_zero, List.set_cons_succ, List.getElem_toArray, List.getElem_cons_zero, List.getElem_cons_succ]
                  refine till_take (i := 16) (v := (.int .i64 ((0 : Nat) : Int))) rfl (by kernel_rfl) (by kernel_rfl) (by kernel_rfl) (by kernel_rfl) (by kernel_rfl) (by kernel_rfl) (fun _ _ _ h => h) (Or.inl ⟨by rfl, fun w hSw => by (try dsimp only at hSw); go_simp⟩) hHeld ?_
                  simp only [Act.put, List.setIfInBounds_toArray, List.set_cons_zero, List.set_cons_succ, List.getElem_toArray, List.getElem_cons_zero, List.getElem_cons_succ]
                  refine till_take (i := 17) (v := (.slice none 0 0)) rfl (by kernel_rfl) (by kernel_rfl) (by kernel_rfl) (by kernel_rfl) (by kernel_rfl) (by kernel_rfl) (fun _ _ _ h => h) (Or.inl ⟨by rfl, fun w hSw => by (try dsimp only at hSw); go_simp⟩) hHeld ?_
                  simp only [Act.put, List.setIfInBounds_toArray, List.set_cons_zero, List.set_cons_succ, List.getElem_toArray, List.getElem_cons_zero, List.getElem_cons_succ]
                  clear hHeld
                  refine till_two (i := 1) (j := 10) (by kernel_rfl) rfl rfl (fun K hK => ?_) (fun K hK => ?_)
                  · go_simp
                    refine hK.out _ _ (fun _ => (pA.cell (p := ⟨b, 1, none⟩) HBZ.out).trans C1) ?_
                    clear hK K
                    try simp only [Act.put, List.setIfInBounds_toArray, List.set_cons_zero, List.set_cons_succ, List.getElem_toArray, List.getElem_cons_zero, List.getElem_cons_succ]
                    refine till_two (i := 8) (j := 10) (by kernel_rfl) rfl rfl (fun K hK => ?_) (fun K hK => ?_)
                    · refine step_append_src rfl (.tmp 74) (.tmp 80) 29 rfl sz2 3 j0 (.int .i64 0) 1 8 Try.underlying29 hj hy0 hy1 hy2 rfl (by decide) sz2 0 0 [] rfl rA _ rfl 0 ((zv H).take 0) (hsrc1 _ pA) hone1 (by unfold maxLen; omega) (by omega) (by rw [sA]; omega) (sz2 + 1) sA 0 (Nat.zero_add _) ?_
                      intro g1 c1 w4 hw1 hg1 ha1
                      have p1 : Below sz2 wc w4 := pA.grown hg1 (by rw [sA]; omega) (fun q e => by cases e; omega)
                      have e1 : sz2 ≤ w4.heap.size := by have h9 := p1.size; rw [HSZ2.out] at h9; exact h9
                      refine hK.out _ _ (fun _ => (p1.cell (p := ⟨b, 1, none⟩) HBZ.out).trans C1) ?_
                      clear hK K
                      try simp only [Act.put, List.setIfInBounds_toArray, List.set_cons_zero, List.set_cons_succ, List.getElem_toArray, List.getElem_cons_zero, List.getElem_cons_succ]
                      have hw1a := hw1.alloc (.cells #[.int .i64 hh] 3)
                      have p1a : Below sz2 wc (w4.alloc (.cells #[.int .i64 hh] 3)) := p1.alloc e1 _
                      have e1a : sz2 ≤ (w4.alloc (.cells #[.int .i64 hh] 3)).heap.size := by simp; omega
                      have l1 := laid1 w4 (.int .i64 hh) 3
                      refine till_one (i := 10) (by kernel_rfl) rfl (fun K hK => ?_)
                      go_simp
                      refine hK.out _ _ (fun _ => (p1a.cell (p := ⟨b, 1, none⟩) HBZ.out).trans C1) ?_
                      clear hK K
                      try simp only [Act.put, List.setIfInBounds_toArray, List.set_cons_zero, List.set_cons_succ, List.getElem_toArray, List.getElem_cons_zero, List.getElem_cons_succ]
                      refine till_one (i := 11) (by kernel_rfl) rfl (fun K hK => ?_)
                      refine step_append_src rfl (.tmp 81) (.tmp 83) 29 rfl sz2 3 j0 (.int .i64 0) 1 8 Try.underlying29 hj hy0 hy1 hy2 rfl (by decide) g1 0 c1 _ rfl hw1a _ rfl 1 [.int .i64 hh] (.inr ⟨_, _, rfl, rfl, l1⟩) (by intro u hu; simp at hu; subst hu; rfl) (by unfold maxLen; omega) (by omega) e1a _ rfl (0 + 1) rfl ?_
                      intro g2 c2 w6 hw2 hg2 ha2
                      have p7 : Below sz2 wc w6 := p1a.grown hg2 e1a (fun q e => by cases e; exact (hw1.lt _ rfl).1)
                      have e7 : sz2 ≤ w6.heap.size := by have h9 := p7.size; rw [HSZ2.out] at h9; exact h9
                      refine hK.out _ _ (fun _ => (p7.cell (p := ⟨b, 1, none⟩) HBZ.out).trans C1) ?_
                      clear hK K
                      try simp only [Act.put, List.setIfInBounds_toArray, List.set_cons_zero, List.set_cons_succ, List.getElem_toArray, List.getElem_cons_zero, List.getElem_cons_succ]
                      refine till_one (i := 18) (by kernel_rfl) rfl (fun K hK => ?_)
                      refine step_append_src rfl (.tmp 84) (.tmp 90) 29 rfl sz2 3 j0 (.int .i64 0) 1 8 Try.underlying29 hj hy0 hy1 hy2 rfl (by decide) g2 (0 + 1) c2 _ rfl hw2 _ rfl (0 - 0) ((zv H).drop 0) (hsrc2 _ p7) hone2 (by unfold maxLen; omega) (by omega) e7 _ rfl (0 + 1) (by omega) ?_
                      intro g5 c5 w7 hw3 hg3 ha3
                      have p8 : Below sz2 wc w7 := p7.grown hg3 e7 (fun q e => by cases e; exact (hw2.lt _ rfl).1)
                      have hHeld : (fun w' => w'.cell? ⟨b, 1, none⟩ = some (.slice none 0 0)) w7 := (p8.cell (p := ⟨b, 1, none⟩) HBZ.out).trans C1
                      have fz := FZ2.out w7 p8
                      refine hK.out _ _ (fun _ => hHeld) ?_
                      clear hK K
                      try simp only [Act.put, List.setIfInBounds_toArray, List.set_cons_zero, List.set_cons_succ, List.getElem_toArray, List.getElem_cons_zero, List.getElem_cons_succ]
                      refine till_take (i := 19) (v := (.pointer (some ⟨b, 0, none⟩))) rfl (by kernel_rfl) (by kernel_rfl) (by kernel_rfl) (by kernel_rfl) (by kernel_rfl) (by kernel_rfl) (fun _ _ _ h => h) (Or.inl ⟨by rfl, fun w hSw => by (try dsimp only at hSw); go_simp⟩) hHeld ?_
                      simp only [Act.put, List.setIfInBounds_toArray, List.set_cons_zero, List.set_cons_succ, List.getElem_toArray, List.getElem_cons_zero, List.getElem_cons_succ]
                      refine till_take (i := 20) (v := (.pointer (some ⟨b, 1, none⟩))) rfl (by kernel_rfl) (by kernel_rfl) (by kernel_rfl) (by kernel_rfl) (by kernel_rfl) (by kernel_rfl) (fun _ _ _ h => h) (Or.inl ⟨by rfl, fun w hSw => by (try dsimp only at hSw); go_simp⟩) hHeld ?_
                      simp only [Act.put, List.setIfInBounds_toArray, List.set_cons_zero, List.set_cons_succ, List.getElem_toArray, List.getElem_cons_zero, List.getElem_cons_succ]
                      have f1 : w7.cell? ⟨b, 1, none⟩ = some (.slice none 0 0) := hHeld
                      refine till_one (i := 21) (by kernel_rfl) rfl (fun K hK => ?_)
                      go_simp
                      refine hK.out _ _ (fun h => absurd rfl h) ?_
                      clear hK K
                      try simp only [Act.put, List.setIfInBounds_toArray, List.set_cons_zero, List.set_cons_succ, List.getElem_toArray, List.getElem_cons_zero, List.getElem_cons_succ]
                      refine till_done (by kernel_rfl) ?_ _
                      have HFN : Hid (_ ∧ _) := fin20 HMD.out HB8.out HA8.out.gb HN.out.1 HN.out.2 (by omega) HSZ2.out HBZ.out p8 ⟨_, f1⟩ hw3
                      clear f1 fz hHeld
                      go_wp2
                      go_ret
                      refine .inr (.inr ⟨HC0.out, HK2.out.2, rfl, HFN.out.1, ?_⟩)
                      rw [← HK2.out.1]
                      exact HFN.out.2
                    · go_simp
                      refine hK.out _ _ (fun _ => (pAL.cell (p := ⟨b, 1, none⟩) HBZ.out).trans C1) ?_
                      clear hK K
                      try simp only [Act.put, List.setIfInBounds_toArray, List.set_cons_zero, List.set_cons_succ, List.getElem_toArray, List.getElem_cons_zero, List.getElem_cons_succ]
                      refine till_one (i := 8) (by kernel_rfl) rfl (fun K hK => ?_)
                      refine step_append_src rfl (.tmp 74) (.tmp 80) 29 rfl sz2 3 j0 (.int .i64 0) 1 8 Try.underlying29 hj hy0 hy1 hy2 rfl (by decide) sz2 0 0 [] rfl rAL _ rfl 0 ((zv H).take 0) (hsrc1 _ pAL) hone1 (by unfold maxLen; omega) (by omega) (by rw [sAL]; omega) (sz2 + 2) sAL 0 (Nat.zero_add _) ?_
                      intro g1 c1 w4 hw1 hg1 ha1
                      have p1 : Below sz2 wc w4 := pAL.grown hg1 (by rw [sAL]; omega) (fun q e => by cases e; omega)
                      have e1 : sz2 ≤ w4.heap.size := by have h9 := p1.size; rw [HSZ2.out] at h9; exact h9
                      refine hK.out _ _ (fun _ => (p1.cell (p := ⟨b, 1, none⟩) HBZ.out).trans C1) ?_
                      clear hK K
                      try simp only [Act.put, List.setIfInBounds_toArray, List.set_cons_zero, List.set_cons_succ, List.getElem_toArray, List.getElem_cons_zero, List.getElem_cons_succ]
                      have l1 := laid_kept lAL hg1 (by omega)
                      refine till_one (i := 11) (by kernel_rfl) rfl (fun K hK => ?_)
                      refine step_append_src rfl (.tmp 81) (.tmp 83) 29 rfl sz2 3 j0 (.int .i64 0) 1 8 Try.underlying29 hj hy0 hy1 hy2 rfl (by decide) g1 0 c1 _ rfl hw1 _ rfl 1 [.int .i64 hh] (.inr ⟨_, _, rfl, rfl, l1⟩) (by intro u hu; simp at hu; subst hu; rfl) (by unfold maxLen; omega) (by omega) e1 _ rfl (0 + 1) rfl ?_
                      intro g2 c2 w6 hw2 hg2 ha2
                      have p7 : Below sz2 wc w6 := p1.grown hg2 e1 (fun q e => by cases e; exact (hw1.lt _ rfl).1)
                      have e7 : sz2 ≤ w6.heap.size := by have h9 := p7.size; rw [HSZ2.out] at h9; exact h9
                      refine hK.out _ _ (fun _ => (p7.cell (p := ⟨b, 1, none⟩) HBZ.out).trans C1) ?_
                      clear hK K
                      try simp only [Act.put, List.setIfInBounds_toArray, List.set_cons_zero, List.set_cons_succ, List.getElem_toArray, List.getElem_cons_zero, List.getElem_cons_succ]
                      refine till_one (i := 18) (by kernel_rfl) rfl (fun K hK => ?_)
                      refine step_append_src rfl (.tmp 84) (.tmp 90) 29 rfl sz2 3 j0 (.int .i64 0) 1 8 Try.underlying29 hj hy0 hy1 hy2 rfl (by decide) g2 (0 + 1) c2 _ rfl hw2 _ rfl (0 - 0) ((zv H).drop 0) (hsrc2 _ p7) hone2 (by unfold maxLen; omega) (by omega) e7 _ rfl (0 + 1) (by omega) ?_
                      intro g5 c5 w7 hw3 hg3 ha3
                      have p8 : Below sz2 wc w7 := p7.grown hg3 e7 (fun q e => by cases e; exact (hw2.lt _ rfl).1)
                      have hHeld : (fun w' => w'.cell? ⟨b, 1, none⟩ = some (.slice none 0 0)) w7 := (p8.cell (p := ⟨b, 1, none⟩) HBZ.out).trans C1
                      have fz := FZ2.out w7 p8
                      refine hK.out _ _ (fun _ => hHeld) ?_
                      clear hK K
                      try simp only [Act.put, List.setIfInBounds_toArray, List.set_cons_zero, List.set_cons_succ, List.getElem_toArray, List.getElem_cons_zero, List.getElem_cons_succ]
                      refine till_take (i := 19) (v := (.pointer (some ⟨b, 0, none⟩))) rfl (by kernel_rfl) (by kernel_rfl) (by kernel_rfl) (by kernel_rfl) (by kernel_rfl) (by kernel_rfl) (fun _ _ _ h => h) (Or.inl ⟨by rfl, fun w hSw => by (try dsimp only at hSw); go_simp⟩) hHeld ?_
                      simp only [Act.put, List.setIfInBounds_toArray, List.set_cons_zero, List.set_cons_succ, List.getElem_toArray, List.getElem_cons_zero, List.getElem_cons_succ]
                      refine till_take (i := 20) (v := (.pointer (some ⟨b, 1, none⟩))) rfl (by kernel_rfl) (by kernel_rfl) (by kernel_rfl) (by kernel_rfl) (by kernel_rfl) (by kernel_rfl) (fun _ _ _ h => h) (Or.inl ⟨by rfl, fun w hSw => by (try dsimp only at hSw); go_simp⟩) hHeld ?_
                      simp only [Act.put, List.setIfInBounds_toArray, List.set_cons_zero, List.set_cons_succ, List.getElem_toArray, List.getElem_cons_zero, List.getElem_cons_succ]
                      have f1 : w7.cell? ⟨b, 1, none⟩ = some (.slice none 0 0) := hHeld
                      refine till_one (i := 21) (by kernel_rfl) rfl (fun K hK => ?_)
                      go_simp
                      refine hK.out _ _ (fun h => absurd rfl h) ?_
                      clear hK K
                      try simp only [Act.put, List.setIfInBounds_toArray, List.set_cons_zero, List.set_cons_succ, List.getElem_toArray, List.getElem_cons_zero, List.getElem_cons_succ]
                      refine till_done (by kernel_rfl) ?_ _
                      have HFN : Hid (_ ∧ _) := fin20 HMD.out HB8.out HA8.out.gb HN.out.1 HN.out.2 (by omega) HSZ2.out HBZ.out p8 ⟨_, f1⟩ hw3
                      clear f1 fz hHeld
                      go_wp2
                      go_ret
                      refine .inr (.inr ⟨HC0.out, HK2.out.2, rfl, HFN.out.1, ?_⟩)
                      rw [← HK2.out.1]
                      exact HFN.out.2
                  · go_simp
                    refine hK.out _ _ (fun _ => (pL.cell (p := ⟨b, 1, none⟩) HBZ.out).trans C1) ?_
                    clear hK K
                    try simp only [Act.put, List.setIfInBounds_toArray, List.set_cons_zero, List.set_cons_succ, List.getElem_toArray, List.getElem_cons_zero, List.getElem_cons_succ]
                    refine till_one (i := 1) (by kernel_rfl) rfl (fun K hK => ?_)
                    go_simp
                    refine hK.out _ _ (fun _ => (pLA.cell (p := ⟨b, 1, none⟩) HBZ.out).trans C1) ?_
                    clear hK K
                    try simp only [Act.put, List.setIfInBounds_toArray, List.set_cons_zero, List.set_cons_succ, List.getElem_toArray, List.getElem_cons_zero, List.getElem_cons_succ]
                    refine till_one (i := 8) (by kernel_rfl) rfl (fun K hK => ?_)
                    refine step_append_src rfl (.tmp 74) (.tmp 80) 29 rfl sz2 3 j0 (.int .i64 0) 1 8 Try.underlying29 hj hy0 hy1 hy2 rfl (by decide) (sz2 + 1) 0 0 [] rfl rLA _ rfl 0 ((zv H).take 0) (hsrc1 _ pLA) hone1 (by unfold maxLen; omega) (by omega) (by rw [sLA]; omega) (sz2 + 2) sLA 0 (Nat.zero_add _) ?_
                    intro g1 c1 w4 hw1 hg1 ha1
                    have p1 : Below sz2 wc w4 := pLA.grown hg1 (by rw [sLA]; omega) (fun q e => by cases e; omega)
                    have e1 : sz2 ≤ w4.heap.size := by have h9 := p1.size; rw [HSZ2.out] at h9; exact h9
                    refine hK.out _ _ (fun _ => (p1.cell (p := ⟨b, 1, none⟩) HBZ.out).trans C1) ?_
                    clear hK K
                    try simp only [Act.put, List.setIfInBounds_toArray, List.set_cons_zero, List.set_cons_succ, List.getElem_toArray, List.getElem_cons_zero, List.getElem_cons_succ]
                    have l1 := laid_kept lLA hg1 (by omega)
                    refine till_one (i := 11) (by kernel_rfl) rfl (fun K hK => ?_)
                    refine step_append_src rfl (.tmp 81) (.tmp 83) 29 rfl sz2 3 j0 (.int .i64 0) 1 8 Try.underlying29 hj hy0 hy1 hy2 rfl (by decide) g1 0 c1 _ rfl hw1 _ rfl 1 [.int .i64 hh] (.inr ⟨_, _, rfl, rfl, l1⟩) (by intro u hu; simp at hu; subst hu; rfl) (by unfold maxLen; omega) (by omega) e1 _ rfl (0 + 1) rfl ?_
                    intro g2 c2 w6 hw2 hg2 ha2
                    have p7 : Below sz2 wc w6 := p1.grown hg2 e1 (fun q e => by cases e; exact (hw1.lt _ rfl).1)
                    have e7 : sz2 ≤ w6.heap.size := by have h9 := p7.size; rw [HSZ2.out] at h9; exact h9
                    refine hK.out _ _ (fun _ => (p7.cell (p := ⟨b, 1, none⟩) HBZ.out).trans C1) ?_
                    clear hK K
                    try simp only [Act.put, List.setIfInBounds_toArray, List.set_cons_zero, List.set_cons_succ, List.getElem_toArray, List.getElem_cons_zero, List.getElem_cons_succ]
                    refine till_one (i := 18) (by kernel_rfl) rfl (fun K hK => ?_)
                    refine step_append_src rfl (.tmp 84) (.tmp 90) 29 rfl sz2 3 j0 (.int .i64 0) 1 8 Try.underlying29 hj hy0 hy1 hy2 rfl (by decide) g2 (0 + 1) c2 _ rfl hw2 _ rfl (0 - 0) ((zv H).drop 0) (hsrc2 _ p7) hone2 (by unfold maxLen; omega) (by omega) e7 _ rfl (0 + 1) (by omega) ?_
                    intro g5 c5 w7 hw3 hg3 ha3
                    have p8 : Below sz2 wc w7 := p7.grown hg3 e7 (fun q e => by cases e; exact (hw2.lt _ rfl).1)
                    have hHeld : (fun w' => w'.cell? ⟨b, 1, none⟩ = some (.slice none 0 0)) w7 := (p8.cell (p := ⟨b, 1, none⟩) HBZ.out).trans C1
                    have fz := FZ2.out w7 p8
                    refine hK.out _ _ (fun _ => hHeld) ?_
                    clear hK K
                    try simp only [Act.put, List.setIfInBounds_toArray, List.set_cons_zero, List.set_cons_succ, List.getElem_toArray, List.getElem_cons_zero, List.getElem_cons_succ]
                    refine till_take (i := 19) (v := (.pointer (some ⟨b, 0, none⟩))) rfl (by kernel_rfl) (by kernel_rfl) (by kernel_rfl) (by kernel_rfl) (by kernel_rfl) (by kernel_rfl) (fun _ _ _ h => h) (Or.inl ⟨by rfl, fun w hSw => by (try dsimp only at hSw); go_simp⟩) hHeld ?_
                    simp only [Act.put, List.setIfInBounds_toArray, List.set_cons_zero, List.set_cons_succ, List.getElem_toArray, List.getElem_cons_zero, List.getElem_cons_succ]
                    refine till_take (i := 20) (v := (.pointer (some ⟨b, 1, none⟩))) rfl (by kernel_rfl) (by kernel_rfl) (by kernel_rfl) (by kernel_rfl) (by kernel_rfl) (by kernel_rfl) (fun _ _ _ h => h) (Or.inl ⟨by rfl, fun w hSw => by (try dsimp only at hSw); go_simp⟩) hHeld ?_
                    simp only [Act.put, List.setIfInBounds_toArray, List.set_cons_zero, List.set_cons_succ, List.getElem_toArray, List.getElem_cons_zero, List.getElem_cons_succ]
                    have f1 : w7.cell? ⟨b, 1, none⟩ = some (.slice none 0 0) := hHeld
                    refine till_one (i := 21) (by kernel_rfl) rfl (fun K hK => ?_)
                    go_simp
                    refine hK.out _ _ (fun h => absurd rfl h) ?_
                    clear hK K
                    try simp only [Act.put, List.setIfInBounds_toArray, List.set_cons_zero, List.set_cons_succ, List.getElem_toArray, List.getElem_cons_zero, List.getElem_cons_succ]
                    refine till_done (by kernel_rfl) ?_ _
                    have HFN : Hid (_ ∧ _) := fin20 HMD.out HB8.out HA8.out.gb HN.out.1 HN.out.2 (by omega) HSZ2.out HBZ.out p8 ⟨_, f1⟩ hw3
                    clear f1 fz hHeld
                    go_wp2
                    go_ret
                    refine .inr (.inr ⟨HC0.out, HK2.out.2, rfl, HFN.out.1, ?_⟩)
                    rw [← HK2.out.1]
                    exact HFN.out.2
                · cases ev
                  have hgoz : go < sz2 := by rw [← HSZ2.out]; exact (Array.getElem?_eq_some_iff.1 hgo).1
                  have hcell9 := hr9.cells (g := go) rfl
                  have hsrc1 : ∀ W : World, Below sz2 wc W → SrcOf W 1 (Value.slice (some ⟨go, 0, none⟩) k hc) k ((zv H).take k) := fun W hb => .inr ⟨_, _, rfl, by rw [List.length_take, hzl]; omega, fun j u hu => by
                    have h9 : (zv H)[j]? = some u := by
                      rw [List.getElem?_take] at hu
                      split at hu
                      · exact hu
                      · cases hu
                    have h8 := hcell9 j u h9
                    rw [← h8, Addr.add_lit]
                    exact hb.cell hgoz⟩
                  have hkI0 : (0 : Int) ≤ (k : Int) := by omega
                  have hkI1 : (k : Int) ≤ (n : Int) := by omega
                  have hkI2 : (n : Int) ≤ (hc : Int) := by omega
                  have hkI3 : (k : Int) ≤ (hc : Int) := by omega
                  by_cases hck9 : hc = k
                  · have hnk : n = k := by omega
                    subst hck9
                    subst hnk
                    have hsrc2 : ∀ W : World, Below sz2 wc W → SrcOf W 1 (Value.slice (some ⟨go, 0, none⟩) 0 0) 0 ((zv H).drop n) := fun W hb => .inr ⟨_, _, rfl, by rw [List.length_drop, hzl]; omega, fun j u hu => by
                      rw [List.drop_eq_nil_of_le (by rw [hzl]; exact Nat.le_refl _)] at hu
                      simp at hu⟩
                    refine wp_region_till 21 (S := (fun w' => w'.cell? ⟨b, 1, none⟩ = some (.slice (some ⟨go, 0, none⟩) n n))) (by kernel_rfl) ?_
                    have hHeld : (fun w' => w'.cell? ⟨b, 1, none⟩ = some (.slice (some ⟨go, 0, none⟩) n n)) wc.drew := C1
                    refine till_take (i := 0) (v := (.pointer (some ⟨b, 0, none⟩))) rfl (by kernel_rfl) (by kernel_rfl) (by kernel_rfl) (by kernel_rfl) (by kernel_rfl) (by kernel_rfl) (fun _ _ _ h => h) (Or.inl ⟨by rfl, fun w hSw => by (try dsimp only at hSw); go_simp⟩) hHeld ?_
                    simp only [Act.put, List.setIfInBounds_toArray, List.set_cons_zero, List.set_cons_succ, List.getElem_toArray, List.getElem_cons_zero]
                    refine till_take (i := 2) (v := (.pointer (some ⟨b, 0, none⟩))) rfl (by kernel_rfl) (by kernel_rfl) (by kernel_rfl) (by kernel_rfl) (by kernel_rfl) (by kernel_rfl) (fun _ _ _ h => h) (Or.inl ⟨by rfl, fun w hSw => by (try dsimp only at hSw); go_simp⟩) hHeld ?_
                    simp only [Act.put, List.setIfInBounds_toArray, List.set_cons_zero, List.set_cons_succ, List.getElem_toArray, List.getElem_cons_zero, List.getElem_cons_succ]
                    refine till_take (i := 3) (v := (.pointer (some ⟨b, 0, none⟩))) rfl (by kernel_rfl) (by kernel_rfl) (by kernel_rfl) (by kernel_rfl) (by kernel_rfl) (by kernel_rfl) (fun _ _ _ h => h) (Or.inl ⟨by rfl, fun w hSw => by (try dsimp only at hSw); go_simp⟩) hHeld ?_
                    simp only [Act.put, List.setIfInBounds_toArray, List.set_cons_zero, List.set_cons_succ, List.getElem_toArray, List.getElem_cons_zero, List.getElem_cons_succ]
                    refine till_take (i := 4) (v := (.pointer (some ⟨b, 1, none⟩))) rfl (by kernel_rfl) (by kernel_rfl) (by kernel_rfl) (by kernel_rfl) (by kernel_rfl) (by kernel_rfl) (fun _ _ _ h => h) (Or.inl ⟨by rfl, fun w hSw => by (try dsimp only at hSw); go_simp⟩) hHeld ?_
                    simp only [Act.put, List.setIfInBounds_toArray, List.set_cons_zero, List.set_cons_succ, List.getElem_toArray, List.getElem_cons_zero, List.getElem_cons_succ]
                    refine till_take (i := 5) (v := (.slice (some ⟨go, 0, none⟩) n n)) rfl (by kernel_rfl) (by kernel_rfl) (by kernel_rfl) (by kernel_rfl) (by kernel_rfl) (by kernel_rfl) (fun _ _ _ h => h) (Or.inl ⟨by rfl, fun w hSw => by (try dsimp only at hSw); go_simp⟩) hHeld ?_
                    simp only [Act.put, List.setIfInBounds_toArray, List.set_cons_zero, List.set_cons_succ, List.getElem_toArray, List.getElem_cons_zero, List.getElem_cons_succ]
                    refine till_take (i := 6) (v := (.int .i64 ((n : Nat) : Int))) rfl (by kernel_rfl) (by kernel_rfl) (by kernel_rfl) (by kernel_rfl) (by kernel_rfl) (by kernel_rfl) (fun _ _ _ h => h) (Or.inl ⟨by rfl, fun w hSw => by (try dsimp only at hSw); go_simp⟩) hHeld ?_
                    simp only [Act.put, List.setIfInBounds_toArray, List.set_cons_zero, List.set_cons_succ, List.getElem_toArray, List.getElem_cons_zero, List.getElem_cons_succ]
                    refine till_take (i := 7) (v := (.slice (some ⟨go, 0, none⟩) n n)) rfl (by kernel_rfl) (by kernel_rfl) (by kernel_rfl) (by kernel_rfl) (by kernel_rfl) (by kernel_rfl) (fun _ _ _ h => h) (Or.inl ⟨by rfl, fun w hSw => by (try dsimp only at hSw); go_simp⟩) hHeld ?_
                    simp only [Act.put, List.setIfInBounds_toArray, List.set_cons_zero, List.set_cons_succ, List.getElem_toArray, List.getElem_cons_zero, List.getElem_cons_succ]
                    refine till_take (i := 9) (v := (.int .i64 hh)) rfl (by kernel_rfl) (by kernel_rfl) (by kernel_rfl) (by kernel_rfl) (by kernel_rfl) (by kernel_rfl) (fun _ _ _ h => h) (Or.inl ⟨by rfl, fun w hSw => by (try dsimp only at hSw); go_simp⟩) hHeld ?_
                    simp only [Act.put, List.setIfInBounds_toArray, List.set_cons_zero, List.set_cons_succ, List.getElem_toArray, List.getElem_cons_zero, List.getElem_cons_succ]
                    refine till_take (i := 12) (v := (.pointer (some ⟨b, 0, none⟩))) rfl (by kernel_rfl) (by kernel_rfl) (by kernel_rfl) (by kernel_rfl) (by kernel_rfl) (by kernel_rfl) (fun _ _ _ h => h) (Or.inl ⟨by rfl, fun w hSw => by (try dsimp only at hSw); go_simp⟩) hHeld ?_
                    simp only [Act.put, List.setIfInBounds_toArray, List.set_cons_zero, List.set_cons_succ, List.getElem_toArray, List.getElem_cons_zero, List.getElem_cons_succ]
                    refine till_take (i := 13) (v := (.pointer (some ⟨b, 0, none⟩))) rfl (by kernel_rfl) (by kernel_rfl) (by kernel_rfl) (by kernel_rfl) (by kernel_rfl) (by kernel_rfl) (fun _ _ _ h => h) (Or.inl ⟨by rfl, fun w hSw => by (try dsimp only at hSw); go_simp⟩) hHeld ?_
                    simp only [Act.put, List.setIfInBounds_toArray, List.set_cons_zero, List.set_cons_succ, List.getElem_toArray, List.getElem_cons_zero, List.getElem_cons_succ]
                    refine till_take (i := 14) (v := (.pointer (some ⟨b, 1, none⟩))) rfl (by kernel_rfl) (by kernel_rfl) (by kernel_rfl) (by kernel_rfl) (by kernel_rfl) (by kernel_rfl) (fun _ _ _ h => h) (Or.inl ⟨by rfl, fun w hSw => by (try dsimp only at hSw); go_simp⟩) hHeld ?_
                    simp only [Act.put, List.setIfInBounds_toArray, List.set_cons_zero, List.set_cons_succ, List.getElem_toArray, List.getElem_cons_zero, List.getElem_cons_succ]
                    refine till_take (i := 15) (v := (.slice (some ⟨go, 0, none⟩) n n)) rfl (by kernel_rfl) (by kernel_rfl) (by kernel_rfl) (by kernel_rfl) (by kernel_rfl) (by kernel_rfl) (fun _ _ _ h => h) (Or.inl ⟨by rfl, fun w hSw => by (try dsimp only at hSw); go_simp⟩) hHeld ?_
                    simp only [Act.put, List.setIfInBounds_toArray, List.set_cons_zero, List.set_cons_succ, List.getElem_toArray, List.getElem_cons_zero, List.getElem_cons_succ]
                    refine till_take (i := 16) (v := (.int .i64 ((n : Nat) : Int))) rfl (by kernel_rfl) (by kernel_rfl) (by kernel_rfl) (by kernel_rfl) (by kernel_rfl) (by kernel_rfl) (fun _ _ _ h => h) (Or.inl ⟨by rfl, fun w hSw => by (try dsimp only at hSw); go_simp⟩) hHeld ?_
                    simp only [Act.put, List.setIfInBounds_toArray, List.set_cons_zero, List.set_cons_succ, List.getElem_toArray, List.getElem_cons_zero, List.getElem_cons_succ]
                    refine till_take (i := 17) (v := (.slice (some ⟨go, 0, none⟩) 0 0)) rfl (by kernel_rfl) (by kernel_rfl) (by kernel_rfl) (by kernel_rfl) (by kernel_rfl) (by kernel_rfl) (fun _ _ _ h => h) (Or.inl ⟨by rfl, fun w hSw => by (try dsimp only at hSw); go_simp⟩) hHeld ?_
                    simp only [Act.put, List.setIfInBounds_toArray, List.set_cons_zero, List.set_cons_succ, List.getElem_toArray, List.getElem_cons_zero, List.getElem_cons_succ]
                    clear hHeld
                    refine till_two (i := 1) (j := 10) (by kernel_rfl) rfl rfl (fun K hK => ?_) (fun K hK => ?_)
                    · go_simp
                      refine hK.out _ _ (fun _ => (pA.cell (p := ⟨b, 1, none⟩) HBZ.out).trans C1) ?_
                      clear hK K
                      try simp only [Act.put, List.setIfInBounds_toArray, List.set_cons_zero, List.set_cons_succ, List.getElem_toArray, List.getElem_cons_zero, List.getElem_cons_succ]
                      refine till_two (i := 8) (j := 10) (by kernel_rfl) rfl rfl (fun K hK => ?_) (fun K hK => ?_)
                      · refine step_append_src rfl (.tmp 74) (.tmp 80) 29 rfl sz2 3 j0 (.int .i64 0) 1 8 Try.underlying29 hj hy0 hy1 hy2 rfl (by decide) sz2 0 0 [] rfl rA _ rfl n ((zv H).take n) (hsrc1 _ pA) hone1 (by unfold maxLen; omega) (by omega) (by rw [sA]; omega) (sz2 + 1) sA n (Nat.zero_add _) ?_
                        intro g1 c1 w4 hw1 hg1 ha1
                        have p1 : Below sz2 wc w4 := pA.grown hg1 (by rw [sA]; omega) (fun q e => by cases e; omega)
                        have e1 : sz2 ≤ w4.heap.size := by have h9 := p1.size; rw [HSZ2.out] at h9; exact h9
                        refine hK.out _ _ (fun _ => (p1.cell (p := ⟨b, 1, none⟩) HBZ.out).trans C1) ?_
                        clear hK K
                        try simp only [Act.put, List.setIfInBounds_toArray, List.set_cons_zero, List.set_cons_succ, List.getElem_toArray, List.getElem_cons_zero, List.getElem_cons_succ]
                        have hw1a := hw1.alloc (.cells #[.int .i64 hh] 3)
                        have p1a : Below sz2 wc (w4.alloc (.cells #[.int .i64 hh] 3)) := p1.alloc e1 _
                        have e1a : sz2 ≤ (w4.alloc (.cells #[.int .i64 hh] 3)).heap.size := by simp; omega
                        have l1 := laid1 w4 (.int .i64 hh) 3
                        refine till_one (i := 10) (by kernel_rfl) rfl (fun K hK => ?_)
                        go_simp
                        refine hK.out _ _ (fun _ => (p1a.cell (p := ⟨b, 1, none⟩) HBZ.out).trans C1) ?_
                        clear hK K
                        try simp only [Act.put, List.setIfInBounds_toArray, List.set_cons_zero, List.set_cons_succ, List.getElem_toArray, List.getElem_cons_zero, List.getElem_cons_succ]
                        refine till_one (i := 11) (by kernel_rfl) rfl (fun K hK => ?_)
                        refine step_append_src rfl (.tmp 81) (.tmp 83) 29 rfl sz2 3 j0 (.int .i64 0) 1 8 Try.underlying29 hj hy0 hy1 hy2 rfl (by decide) g1 n c1 _ rfl hw1a _ rfl 1 [.int .i64 hh] (.inr ⟨_, _, rfl, rfl, l1⟩) (by intro u hu; simp at hu; subst hu; rfl) (by unfold maxLen; omega) (by omega) e1a _ rfl (n + 1) rfl ?_
                        intro g2 c2 w6 hw2 hg2 ha2
                        have p7 : Below sz2 wc w6 := p1a.grown hg2 e1a (fun q e => by cases e; exact (hw1.lt _ rfl).1)
                        have e7 : sz2 ≤ w6.heap.size := by have h9 := p7.size; rw [HSZ2.out] at h9; exact h9
                        refine hK.out _ _ (fun _ => (p7.cell (p := ⟨b, 1, none⟩) HBZ.out).trans C1) ?_
                        clear hK K
                        try simp only [Act.put, List.setIfInBounds_toArray, List.set_cons_zero, List.set_cons_succ, List.getElem_toArray, List.getElem_cons_zero, List.getElem_cons_succ]
                        refine till_one (i := 18) (by kernel_rfl) rfl (fun K hK => ?_)
                        refine step_append_src rfl (.tmp 84) (.tmp 90) 29 rfl sz2 3 j0 (.int .i64 0) 1 8 Try.underlying29 hj hy0 hy1 hy2 rfl (by decide) g2 (n + 1) c2 _ rfl hw2 _ rfl (0) ((zv H).drop n) (hsrc2 _ p7) hone2 (by unfold maxLen; omega) (by omega) e7 _ rfl (n + 1) (by omega) ?_
                        intro g5 c5 w7 hw3 hg3 ha3
                        have p8 : Below sz2 wc w7 := p7.grown hg3 e7 (fun q e => by cases e; exact (hw2.lt _ rfl).1)
                        have hHeld : (fun w' => w'.cell? ⟨b, 1, none⟩ = some (.slice (some ⟨go, 0, none⟩) n n)) w7 := (p8.cell (p := ⟨b, 1, none⟩) HBZ.out).trans C1
                        have fz := FZ2.out w7 p8
                        refine hK.out _ _ (fun _ => hHeld) ?_
                        clear hK K
                        try simp only [Act.put, List.setIfInBounds_toArray, List.set_cons_zero, List.set_cons_succ, List.getElem_toArray, List.getElem_cons_zero, List.getElem_cons_succ]
                        refine till_take (i := 19) (v := (.pointer (some ⟨b, 0, none⟩))) rfl (by kernel_rfl) (by kernel_rfl) (by kernel_rfl) (by kernel_rfl) (by kernel_rfl) (by kernel_rfl) (fun _ _ _ h => h) (Or.inl ⟨by rfl, fun w hSw => by (try dsimp only at hSw); go_simp⟩) hHeld ?_
                        simp only [Act.put, List.setIfInBounds_toArray, List.set_cons_zero, List.set_cons_succ, List.getElem_toArray, List.getElem_cons_zero, List.getElem_cons_succ]
                        refine till_take (i := 20) (v := (.pointer (some ⟨b, 1, none⟩))) rfl (by kernel_rfl) (by kernel_rfl) (by kernel_rfl) (by kernel_rfl) (by kernel_rfl) (by kernel_rfl) (fun _ _ _ h => h) (Or.inl ⟨by rfl, fun w hSw => by (try dsimp only at hSw); go_simp⟩) hHeld ?_
                        simp only [Act.put, List.setIfInBounds_toArray, List.set_cons_zero, List.set_cons_succ, List.getElem_toArray, List.getElem_cons_zero, List.getElem_cons_succ]
                        have f1 : w7.cell? ⟨b, 1, none⟩ = some (.slice (some ⟨go, 0, none⟩) n n) := hHeld
                        refine till_one (i := 21) (by kernel_rfl) rfl (fun K hK => ?_)
                        go_simp
                        refine hK.out _ _ (fun h => absurd rfl h) ?_
                        clear hK K
                        try simp only [Act.put, List.setIfInBounds_toArray, List.set_cons_zero, List.set_cons_succ, List.getElem_toArray, List.getElem_cons_zero, List.getElem_cons_succ]
                        refine till_done (by kernel_rfl) ?_ _
                        have HFN : Hid (_ ∧ _) := fin20 HMD.out HB8.out HA8.out.gb HN.out.1 HN.out.2 (by omega) HSZ2.out HBZ.out p8 ⟨_, f1⟩ hw3
                        clear f1 fz hHeld
                        go_wp2
                        go_ret
                        refine .inr (.inr ⟨HC0.out, HK2.out.2, rfl, HFN.out.1, ?_⟩)
                        rw [← HK2.out.1]
                        exact HFN.out.2
                      · go_simp
                        refine hK.out _ _ (fun _ => (pAL.cell (p := ⟨b, 1, none⟩) HBZ.out).trans C1) ?_
                        clear hK K
                        try simp only [Act.put, List.setIfInBounds_toArray, List.set_cons_zero, List.set_cons_succ, List.getElem_toArray, List.getElem_cons_zero, List.getElem_cons_succ]
                        refine till_one (i := 8) (by kernel_rfl) rfl (fun K hK => ?_)
                        refine step_append_src rfl (.tmp 74) (.tmp 80) 29 rfl sz2 3 j0 (.int .i64 0) 1 8 Try.underlying29 hj hy0 hy1 hy2 rfl (by decide) sz2 0 0 [] rfl rAL _ rfl n ((zv H).take n) (hsrc1 _ pAL) hone1 (by unfold maxLen; omega) (by omega) (by rw [sAL]; omega) (sz2 + 2) sAL n (Nat.zero_add _) ?_
                        intro g1 c1 w4 hw1 hg1 ha1
                        have p1 : Below sz2 wc w4 := pAL.grown hg1 (by rw [sAL]; omega) (fun q e => by cases e; omega)
                        have e1 : sz2 ≤ w4.heap.size := by have h9 := p1.size; rw [HSZ2.out] at h9; exact h9
                        refine hK.out _ _ (fun _ => (p1.cell (p := ⟨b, 1, none⟩) HBZ.out).trans C1) ?_
                        clear hK K
                        try simp only [Act.put, List.setIfInBounds_toArray, List.set_cons_zero, List.set_cons_succ, List.getElem_toArray, List.getElem_cons_zero, List.getElem_cons_succ]
                        have l1 := laid_kept lAL hg1 (by omega)
                        refine till_one (i := 11) (by kernel_rfl) rfl (fun K hK => ?_)
                        refine step_append_src rfl (.tmp 81) (.tmp 83) 29 rfl sz2 3 j0 (.int .i64 0) 1 8 Try.underlying29 hj hy0 hy1 hy2 rfl (by decide) g1 n c1 _ rfl hw1 _ rfl 1 [.int .i64 hh] (.inr ⟨_, _, rfl, rfl, l1⟩) (by intro u hu; simp at hu; subst hu; rfl) (by unfold maxLen; omega) (by omega) e1 _ rfl (n + 1) rfl ?_
                        intro g2 c2 w6 hw2 hg2 ha2
                        have p7 : Below sz2 wc w6 := p1.grown hg2 e1 (fun q e => by cases e; exact (hw1.lt _ rfl).1)
                        have e7 : sz2 ≤ w6.heap.size := by have h9 := p7.size; rw [HSZ2.out] at h9; exact h9
                        refine hK.out _ _ (fun _ => (p7.cell (p := ⟨b, 1, none⟩) HBZ.out).trans C1) ?_
                        clear hK K
                        try simp only [Act.put, List.setIfInBounds_toArray, List.set_cons_zero, List.set_cons_succ, List.getElem_toArray, List.getElem_cons_zero, List.getElem_cons_succ]
                        refine till_one (i := 18) (by kernel_rfl) rfl (fun K hK => ?_)
                        refine step_append_src rfl (.tmp 84) (.tmp 90) 29 rfl sz2 3 j0 (.int .i64 0) 1 8 Try.underlying29 hj hy0 hy1 hy2 rfl (by decide) g2 (n + 1) c2 _ rfl hw2 _ rfl (0) ((zv H).drop n) (hsrc2 _ p7) hone2 (by unfold maxLen; omega) (by omega) e7 _ rfl (n + 1) (by omega) ?_
                        intro g5 c5 w7 hw3 hg3 ha3
                        have p8 : Below sz2 wc w7 := p7.grown hg3 e7 (fun q e => by cases e; exact (hw2.lt _ rfl).1)
                        have hHeld : (fun w' => w'.cell? ⟨b, 1, none⟩ = some (.slice (some ⟨go, 0, none⟩) n n)) w7 := (p8.cell (p := ⟨b, 1, none⟩) HBZ.out).trans C1
                        have fz := FZ2.out w7 p8
                        refine hK.out _ _ (fun _ => hHeld) ?_
                        clear hK K
                        try simp only [Act.put, List.setIfInBounds_toArray, List.set_cons_zero, List.set_cons_succ, List.getElem_toArray, List.getElem_cons_zero, List.getElem_cons_succ]
                        refine till_take (i := 19) (v := (.pointer (some ⟨b, 0, none⟩))) rfl (by kernel_rfl) (by kernel_rfl) (by kernel_rfl) (by kernel_rfl) (by kernel_rfl) (by kernel_rfl) (fun _ _ _ h => h) (Or.inl ⟨by rfl, fun w hSw => by (try dsimp only at hSw); go_simp⟩) hHeld ?_
                        simp only [Act.put, List.setIfInBounds_toArray, List.set_cons_zero, List.set_cons_succ, List.getElem_toArray, List.getElem_cons_zero, List.getElem_cons_succ]
                        refine till_take (i := 20) (v := (.pointer (some ⟨b, 1, none⟩))) rfl (by kernel_rfl) (by kernel_rfl) (by kernel_rfl) (by kernel_rfl) (by kernel_rfl) (by kernel_rfl) (fun _ _ _ h => h) (Or.inl ⟨by rfl, fun w hSw => by (try dsimp only at hSw); go_simp⟩) hHeld ?_
                        simp only [Act.put, List.setIfInBounds_toArray, List.set_cons_zero, List.set_cons_succ, List.getElem_toArray, List.getElem_cons_zero, List.getElem_cons_succ]
                        have f1 : w7.cell? ⟨b, 1, none⟩ = some (.slice (some ⟨go, 0, none⟩) n n) := hHeld
                        refine till_one (i := 21) (by kernel_rfl) rfl (fun K hK => ?_)
                        go_simp
                        refine hK.out _ _ (fun h => absurd rfl h) ?_
                        clear hK K
                        try simp only [Act.put, List.setIfInBounds_toArray, List.set_cons_zero, List.set_cons_succ, List.getElem_toArray, List.getElem_cons_zero, List.getElem_cons_succ]
                        refine till_done (by kernel_rfl) ?_ _
                        have HFN : Hid (_ ∧ _) := fin20 HMD.out HB8.out HA8.out.gb HN.out.1 HN.out.2 (by omega) HSZ2.out HBZ.out p8 ⟨_, f1⟩ hw3
                        clear f1 fz hHeld
                        go_wp2
                        go_ret
                        refine .inr (.inr ⟨HC0.out, HK2.out.2, rfl, HFN.out.1, ?_⟩)
                        rw [← HK2.out.1]
                        exact HFN.out.2
                    · go_simp
                      refine hK.out _ _ (fun _ => (pL.cell (p := ⟨b, 1, none⟩) HBZ.out).trans C1) ?_
                      clear hK K
                      try simp only [Act.put, List.setIfInBounds_toArray, List.set_cons_zero, List.set_cons_succ, List.getElem_toArray, List.getElem_cons_zero, List.getElem_cons_succ]
                      refine till_one (i := 1) (by kernel_rfl) rfl (fun K hK => ?_)
                      go_simp
                      refine hK.out _ _ (fun _ => (pLA.cell (p := ⟨b, 1, none⟩) HBZ.out).trans C1) ?_
                      clear hK K
                      try simp only [Act.put, List.setIfInBounds_toArray, List.set_cons_zero, List.set_cons_succ, List.getElem_toArray, List.getElem_cons_zero, List.getElem_cons_succ]
                      refine till_one (i := 8) (by kernel_rfl) rfl (fun K hK => ?_)
                      refine step_append_src rfl (.tmp 74) (.tmp 80) 29 rfl sz2 3 j0 (.int .i64 0) 1 8 Try.underlying29 hj hy0 hy1 hy2 rfl (by decide) (sz2 + 1) 0 0 [] rfl rLA _ rfl n ((zv H).take n) (hsrc1 _ pLA) hone1 (by unfold maxLen; omega) (by omega) (by rw [sLA]; omega) (sz2 + 2) sLA n (Nat.zero_add _) ?_
                      intro g1 c1 w4 hw1 hg1 ha1
                      have p1 : Below sz2 wc w4 := pLA.grown hg1 (by rw [sLA]; omega) (fun q e => by cases e; omega)
                      have e1 : sz2 ≤ w4.heap.size := by have h9 := p1.size; rw [HSZ2.out] at h9; exact h9
                      refine hK.out _ _ (fun _ => (p1.cell (p := ⟨b, 1, none⟩) HBZ.out).trans C1) ?_
                      clear hK K
                      try simp only [Act.put, List.setIfInBounds_toArray, List.set_cons_zero, List.set_cons_succ, List.getElem_toArray, List.getElem_cons_zero, List.getElem_cons_succ]
                      have l1 := laid_kept lLA hg1 (by omega)
                      refine till_one (i := 11) (by kernel_rfl) rfl (fun K hK => ?_)
                      refine step_append_src rfl (.tmp 81) (.tmp 83) 29 rfl sz2 3 j0 (.int .i64 0) 1 8 Try.underlying29 hj hy0 hy1 hy2 rfl (by decide) g1 n c1 _ rfl hw1 _ rfl 1 [.int .i64 hh] (.inr ⟨_, _, rfl, rfl, l1⟩) (by intro u hu; simp at hu; subst hu; rfl) (by unfold maxLen; omega) (by omega) e1 _ rfl (n + 1) rfl ?_
                      intro g2 c2 w6 hw2 hg2 ha2
                      have p7 : Below sz2 wc w6 := p1.grown hg2 e1 (fun q e => by cases e; exact (hw1.lt _ rfl).1)
                      have e7 : sz2 ≤ w6.heap.size := by have h9 := p7.size; rw [HSZ2.out] at h9; exact h9
                      refine hK.out _ _ (fun _ => (p7.cell (p := ⟨b, 1, none⟩) HBZ.out).trans C1) ?_
                      clear hK K
                      try simp only [Act.put, List.setIfInBounds_toArray, List.set_cons_zero, List.set_cons_succ, List.getElem_toArray, List.getElem_cons_zero, List.getElem_cons_succ]
                      refine till_one (i := 18) (by kernel_rfl) rfl (fun K hK => ?_)
                      refine step_append_src rfl (.tmp 84) (.tmp 90) 29 rfl sz2 3 j0 (.int .i64 0) 1 8 Try.underlying29 hj hy0 hy1 hy2 rfl (by decide) g2 (n + 1) c2 _ rfl hw2 _ rfl (0) ((zv H).drop n) (hsrc2 _ p7) hone2 (by unfold maxLen; omega) (by omega) e7 _ rfl (n + 1) (by omega) ?_
                      intro g5 c5 w7 hw3 hg3 ha3
                      have p8 : Below sz2 wc w7 := p7.grown hg3 e7 (fun q e => by cases e; exact (hw2.lt _ rfl).1)
                      have hHeld : (fun w' => w'.cell? ⟨b, 1, none⟩ = some (.slice (some ⟨go, 0, none⟩) n n)) w7 := (p8.cell (p := ⟨b, 1, none⟩) HBZ.out).trans C1
                      have fz := FZ2.out w7 p8
                      refine hK.out _ _ (fun _ => hHeld) ?_
                      clear hK K
                      try simp only [Act.put, List.setIfInBounds_toArray, List.set_cons_zero, List.set_cons_succ, List.getElem_toArray, List.getElem_cons_zero, List.getElem_cons_succ]
                      refine till_take (i := 19) (v := (.pointer (some ⟨b, 0, none⟩))) rfl (by kernel_rfl) (by kernel_rfl) (by kernel_rfl) (by kernel_rfl) (by kernel_rfl) (by kernel_rfl) (fun _ _ _ h => h) (Or.inl ⟨by rfl, fun w hSw => by (try dsimp only at hSw); go_simp⟩) hHeld ?_
                      simp only [Act.put, List.setIfInBounds_toArray, List.set_cons_zero, List.set_cons_succ, List.getElem_toArray, List.getElem_cons_zero, List.getElem_cons_succ]
                      refine till_take (i := 20) (v := (.pointer (some ⟨b, 1, none⟩))) rfl (by kernel_rfl) (by kernel_rfl) (by kernel_rfl) (by kernel_rfl) (by kernel_rfl) (by kernel_rfl) (fun _ _ _ h => h) (Or.inl ⟨by rfl, fun w hSw => by (try dsimp only at hSw); go_simp⟩) hHeld ?_
                      simp only [Act.put, List.setIfInBounds_toArray, List.set_cons_zero, List.set_cons_succ, List.getElem_toArray, List.getElem_cons_zero, List.getElem_cons_succ]
                      have f1 : w7.cell? ⟨b, 1, none⟩ = some (.slice (some ⟨go, 0, none⟩) n n) := hHeld
                      refine till_one (i := 21) (by kernel_rfl) rfl (fun K hK => ?_)
                      go_simp
                      refine hK.out _ _ (fun h => absurd rfl h) ?_
                      clear hK K
                      try simp only [Act.put, List.setIfInBounds_toArray, List.set_cons_zero, List.set_cons_succ, List.getElem_toArray, List.getElem_cons_zero, List.getElem_cons_succ]
                      refine till_done (by kernel_rfl) ?_ _
                      have HFN : Hid (_ ∧ _) := fin20 HMD.out HB8.out HA8.out.gb HN.out.1 HN.out.2 (by omega) HSZ2.out HBZ.out p8 ⟨_, f1⟩ hw3
                      clear f1 fz hHeld
                      go_wp2
                      go_ret
                      refine .inr (.inr ⟨HC0.out, HK2.out.2, rfl, HFN.out.1, ?_⟩)
                      rw [← HK2.out.1]
                      exact HFN.out.2
                  · have hck8 : ¬ (hc : Int) = (k : Int) := by omega
                    have hsrc2 : ∀ W : World, Below sz2 wc W → SrcOf W 1 (Value.slice (some ⟨go, k, none⟩) (n - k) (hc - k)) (n - k) ((zv H).drop k) := fun W hb => .inr ⟨_, _, rfl, by rw [List.length_drop, hzl]; omega, fun j u hu => by
                      rw [List.getElem?_drop] at hu
                      have h8 := hcell9 _ u hu
                      rw [← h8, Addr.add_lit, Addr.add_lit, Nat.zero_add]
                      exact hb.cell hgoz⟩
                    refine wp_region_till 21 (S := (fun w' => w'.cell? ⟨b, 1, none⟩ = some (.slice (some ⟨go, 0, none⟩) n hc))) (by kernel_rfl) ?_
                    have hHeld : (fun w' => w'.cell? ⟨b, 1, none⟩ = some (.slice (some ⟨go, 0, none⟩) n hc)) wc.drew := C1
                    refine till_take (i := 0) (v := (.pointer (some ⟨b, 0, none⟩))) rfl (by kernel_rfl) (by kernel_rfl) (by kernel_rfl) (by kernel_rfl) (by kernel_rfl) (by kernel_rfl) (fun _ _ _ h => h) (Or.inl ⟨by rfl, fun w hSw => by (try dsimp only at hSw); go_simp⟩) hHeld ?_
                    simp only [Act.put, List.setIfInBounds_toArray, List.set_cons_zero, List.set_cons_succ, List.getElem_toArray, List.getElem_cons_zero]
                    refine till_take (i := 2) (v := (.pointer (some ⟨b, 0, none⟩))) rfl (by kernel_rfl) (by kernel_rfl) (by kernel_rfl) (by kernel_rfl) (by kernel_rfl) (by kernel_rfl) (fun _ _ _ h => h) (Or.inl ⟨by rfl, fun w hSw => by (try dsimp only at hSw); go_simp⟩) hHeld ?_
                    simp only [Act.put, List.setIfInBounds_toArray, List.set_cons_zero, List.set_cons_succ, List.getElem_toArray, List.getElem_cons_zero, List.getElem_cons_succ]
                    refine till_take (i := 3) (v := (.pointer (some ⟨b, 0, none⟩))) rfl (by kernel_rfl) (by kernel_rfl) (by kernel_rfl) (by kernel_rfl) (by kernel_rfl) (by kernel_rfl) (fun _ _ _ h => h) (Or.inl ⟨by rfl, fun w hSw => by (try dsimp only at hSw); go_simp⟩) hHeld ?_
                    simp only [Act.put, List.setIfInBounds_toArray, List.set_cons_zero, List.set_cons_succ, List.getElem_toArray, List.getElem_cons_zero, List.getElem_cons_succ]
                    refine till_take (i := 4) (v := (.pointer (some ⟨b, 1, none⟩))) rfl (by kernel_rfl) (by kernel_rfl) (by kernel_rfl) (by kernel_rfl) (by kernel_rfl) (by kernel_rfl) (fun _ _ _ h => h) (Or.inl ⟨by rfl, fun w hSw => by (try dsimp only at hSw); go_simp⟩) hHeld ?_
                    simp only [Act.put, List.setIfInBounds_toArray, List.set_cons_zero, List.set_cons_succ, List.getElem_toArray, List.getElem_cons_zero, List.getElem_cons_succ]
                    refine till_take (i := 5) (v := (.slice (some ⟨go, 0, none⟩) n hc)) rfl (by kernel_rfl) (by kernel_rfl) (by kernel_rfl) (by kernel_rfl) (by kernel_rfl) (by kernel_rfl) (fun _ _ _ h => h) (Or.inl ⟨by rfl, fun w hSw => by (try dsimp only at hSw); go_simp⟩) hHeld ?_
                    simp only [Act.put, List.setIfInBounds_toArray, List.set_cons_zero, List.set_cons_succ, List.getElem_toArray, List.getElem_cons_zero, List.getElem_cons_succ]
                    refine till_take (i := 6) (v := (.int .i64 ((k : Nat) : Int))) rfl (by kernel_rfl) (by kernel_rfl) (by kernel_rfl) (by kernel_rfl) (by kernel_rfl) (by kernel_rfl) (fun _ _ _ h => h) (Or.inl ⟨by rfl, fun w hSw => by (try dsimp only at hSw); go_simp⟩) hHeld ?_
                    simp only [Act.put, List.setIfInBounds_toArray, List.set_cons_zero, List.set_cons_succ, List.getElem_toArray, List.getElem_cons_zero, List.getElem_cons_succ]
                    refine till_take (i := 7) (v := (.slice (some ⟨go, 0, none⟩) k hc)) rfl (by kernel_rfl) (by kernel_rfl) (by kernel_rfl) (by kernel_rfl) (by kernel_rfl) (by kernel_rfl) (fun _ _ _ h => h) (Or.inl ⟨by rfl, fun w hSw => by (try dsimp only at hSw); go_simp⟩) hHeld ?_
                    simp only [Act.put, List.setIfInBounds_toArray, List.set_cons_zero, List.set_cons_succ, List.getElem_toArray, List.getElem_cons_zero, List.getElem_cons_succ]
                    refine till_take (i := 9) (v := (.int .i64 hh)) rfl (by kernel_rfl) (by kernel_rfl) (by kernel_rfl) (by kernel_rfl) (by kernel_rfl) (by kernel_rfl) (fun _ _ _ h => h) (Or.inl ⟨by rfl, fun w hSw => by (try dsimp only at hSw); go_simp⟩) hHeld ?_
                    simp only [Act.put, List.setIfInBounds_toArray, List.set_cons_zero, List.set_cons_succ, List.getElem_toArray, List.getElem_cons_zero, List.getElem_cons_succ]
                    refine till_take (i := 12) (v := (.pointer (some ⟨b, 0, none⟩))) rfl (by kernel_rfl) (by kernel_rfl) (by kernel_rfl) (by kernel_rfl) (by kernel_rfl) (by kernel_rfl) (fun _ _ _ h => h) (Or.inl ⟨by rfl, fun w hSw => by (try dsimp only at hSw); go_simp⟩) hHeld ?_
                    simp only [Act.put, List.setIfInBounds_toArray, List.set_cons_zero, List.set_cons_succ, List.getElem_toArray, List.getElem_cons_zero, List.getElem_cons_succ]
                    refine till_take (i := 13) (v := (.pointer (some ⟨b, 0, none⟩))) rfl (by kernel_rfl) (by kernel_rfl) (by kernel_rfl) (by kernel_rfl) (by kernel_rfl) (by kernel_rfl) (fun _ _ _ h => h) (Or.inl ⟨by rfl, fun w hSw => by (try dsimp only at hSw); go_simp⟩) hHeld ?_
                    simp only [Act.put, List.setIfInBounds_toArray, List.set_cons_zero, List.set_cons_succ, List.getElem_toArray, List.getElem_cons_zero, List.getElem_cons_succ]
                    refine till_take (i := 14) (v := (.pointer (some ⟨b, 1, none⟩))) rfl (by kernel_rfl) (by kernel_rfl) (by kernel_rfl) (by kernel_rfl) (by kernel_rfl) (by kernel_rfl) (fun _ _ _ h => h) (Or.inl ⟨by rfl, fun w hSw => by (try dsimp only at hSw); go_simp⟩) hHeld ?_
                    simp only [Act.put, List.setIfInBounds_toArray, List.set_cons_zero, List.set_cons_succ, List.getElem_toArray, List.getElem_cons_zero, List.getElem_cons_succ]
                    refine till_take (i := 15) (v := (.slice (some ⟨go, 0, none⟩) n hc)) rfl (by kernel_rfl) (by kernel_rfl) (by kernel_rfl) (by kernel_rfl) (by kernel_rfl) (by kernel_rfl) (fun _ _ _ h => h) (Or.inl ⟨by rfl, fun w hSw => by (try dsimp only at hSw); go_simp⟩) hHeld ?_
                    simp only [Act.put, List.setIfInBounds_toArray, List.set_cons_zero, List.set_cons_succ, List.getElem_toArray, List.getElem_cons_zero, List.getElem_cons_succ]
                    refine till_take (i := 16) (v := (.int .i64 ((k : Nat) : Int))) rfl (by kernel_rfl) (by kernel_rfl) (by kernel_rfl) (by kernel_rfl) (by kernel_rfl) (by kernel_rfl) (fun _ _ _ h => h) (Or.inl ⟨by rfl, fun w hSw => by (try dsimp only at hSw); go_simp⟩) hHeld ?_
                    simp only [Act.put, List.setIfInBounds_toArray, List.set_cons_zero, List.set_cons_succ, List.getElem_toArray, List.getElem_cons_zero, List.getElem_cons_succ]
                    refine till_take (i := 17) (v := (.slice (some ⟨go, k, none⟩) (n - k) (hc - k))) rfl (by kernel_rfl) (by kernel_rfl) (by kernel_rfl) (by kernel_rfl) (by kernel_rfl) (by kernel_rfl) (fun _ _ _ h => h) (Or.inl ⟨by rfl, fun w hSw => by (try dsimp only at hSw); go_simp⟩) hHeld ?_
                    simp only [Act.put, List.setIfInBounds_toArray, List.set_cons_zero, List.set_cons_succ, List.getElem_toArray, List.getElem_cons_zero, List.getElem_cons_succ]
                    clear hHeld
                    refine till_two (i := 1) (j := 10) (by kernel_rfl) rfl rfl (fun K hK => ?_) (fun K hK => ?_)
                    · go_simp
                      refine hK.out _ _ (fun _ => (pA.cell (p := ⟨b, 1, none⟩) HBZ.out).trans C1) ?_
                      clear hK K
                      try simp only [Act.put, List.setIfInBounds_toArray, List.set_cons_zero, List.set_cons_succ, List.getElem_toArray, List.getElem_cons_zero, List.getElem_cons_succ]
                      refine till_two (i := 8) (j := 10) (by kernel_rfl) rfl rfl (fun K hK => ?_) (fun K hK => ?_)
                      · refine step_append_src rfl (.tmp 74) (.tmp 80) 29 rfl sz2 3 j0 (.int .i64 0) 1 8 Try.underlying29 hj hy0 hy1 hy2 rfl (by decide) sz2 0 0 [] rfl rA _ rfl k ((zv H).take k) (hsrc1 _ pA) hone1 (by unfold maxLen; omega) (by omega) (by rw [sA]; omega) (sz2 + 1) sA k (Nat.zero_add _) ?_
                        intro g1 c1 w4 hw1 hg1 ha1
                        have p1 : Below sz2 wc w4 := pA.grown hg1 (by rw [sA]; omega) (fun q e => by cases e; omega)
                        have e1 : sz2 ≤ w4.heap.size := by have h9 := p1.size; rw [HSZ2.out] at h9; exact h9
                        refine hK.out _ _ (fun _ => (p1.cell (p := ⟨b, 1, none⟩) HBZ.out).trans C1) ?_
                        clear hK K
                        try simp only [Act.put, List.setIfInBounds_toArray, List.set_cons_zero, List.set_cons_succ, List.getElem_toArray, List.getElem_cons_zero, List.getElem_cons_succ]
                        have hw1a := hw1.alloc (.cells #[.int .i64 hh] 3)
                        have p1a : Below sz2 wc (w4.alloc (.cells #[.int .i64 hh] 3)) := p1.alloc e1 _
                        have e1a : sz2 ≤ (w4.alloc (.cells #[.int .i64 hh] 3)).heap.size := by simp; omega
                        have l1 := laid1 w4 (.int .i64 hh) 3
                        refine till_one (i := 10) (by kernel_rfl) rfl (fun K hK => ?_)
                        go_simp
                        refine hK.out _ _ (fun _ => (p1a.cell (p := ⟨b, 1, none⟩) HBZ.out).trans C1) ?_
                        clear hK K
                        try simp only [Act.put, List.setIfInBounds_toArray, List.set_cons_zero, List.set_cons_succ, List.getElem_toArray, List.getElem_cons_zero, List.getElem_cons_succ]
                        refine till_one (i := 11) (by kernel_rfl) rfl (fun K hK => ?_)
                        refine step_append_src rfl (.tmp 81) (.tmp 83) 29 rfl sz2 3 j0 (.int .i64 0) 1 8 Try.underlying29 hj hy0 hy1 hy2 rfl (by decide) g1 k c1 _ rfl hw1a _ rfl 1 [.int .i64 hh] (.inr ⟨_, _, rfl, rfl, l1⟩) (by intro u hu; simp at hu; subst hu; rfl) (by unfold maxLen; omega) (by omega) e1a _ rfl (k + 1) rfl ?_
                        intro g2 c2 w6 hw2 hg2 ha2
                        have p7 : Below sz2 wc w6 := p1a.grown hg2 e1a (fun q e => by cases e; exact (hw1.lt _ rfl).1)
                        have e7 : sz2 ≤ w6.heap.size := by have h9 := p7.size; rw [HSZ2.out] at h9; exact h9
                        refine hK.out _ _ (fun _ => (p7.cell (p := ⟨b, 1, none⟩) HBZ.out).trans C1) ?_
                        clear hK K
                        try simp only [Act.put, List.setIfInBounds_toArray, List.set_cons_zero, List.set_cons_succ, List.getElem_toArray, List.getElem_cons_zero, List.getElem_cons_succ]
                        refine till_one (i := 18) (by kernel_rfl) rfl (fun K hK => ?_)
                        refine step_append_src rfl (.tmp 84) (.tmp 90) 29 rfl sz2 3 j0 (.int .i64 0) 1 8 Try.underlying29 hj hy0 hy1 hy2 rfl (by decide) g2 (k + 1) c2 _ rfl hw2 _ rfl (n - k) ((zv H).drop k) (hsrc2 _ p7) hone2 (by unfold maxLen; omega) (by omega) e7 _ rfl (n + 1) (by omega) ?_
                        intro g5 c5 w7 hw3 hg3 ha3
                        have p8 : Below sz2 wc w7 := p7.grown hg3 e7 (fun q e => by cases e; exact (hw2.lt _ rfl).1)
                        have hHeld : (fun w' => w'.cell? ⟨b, 1, none⟩ = some (.slice (some ⟨go, 0, none⟩) n hc)) w7 := (p8.cell (p := ⟨b, 1, none⟩) HBZ.out).trans C1
                        have fz := FZ2.out w7 p8
                        refine hK.out _ _ (fun _ => hHeld) ?_
                        clear hK K
                        try simp only [Act.put, List.setIfInBounds_toArray, List.set_cons_zero, List.set_cons_succ, List.getElem_toArray, List.getElem_cons_zero, List.getElem_cons_succ]
                        refine till_take (i := 19) (v := (.pointer (some ⟨b, 0, none⟩))) rfl (by kernel_rfl) (by kernel_rfl) (by kernel_rfl) (by kernel_rfl) (by kernel_rfl) (by kernel_rfl) (fun _ _ _ h => h) (Or.inl ⟨by rfl, fun w hSw => by (try dsimp only at hSw); go_simp⟩) hHeld ?_
                        simp only [Act.put, List.setIfInBounds_toArray, List.set_cons_zero, List.set_cons_succ, List.getElem_toArray, List.getElem_cons_zero, List.getElem_cons_succ]
                        refine till_take (i := 20) (v := (.pointer (some ⟨b, 1, none⟩))) rfl (by kernel_rfl) (by kernel_rfl) (by kernel_rfl) (by kernel_rfl) (by kernel_rfl) (by kernel_rfl) (fun _ _ _ h => h) (Or.inl ⟨by rfl, fun w hSw => by (try dsimp only at hSw); go_simp⟩) hHeld ?_
                        simp only [Act.put, List.setIfInBounds_toArray, List.set_cons_zero, List.set_cons_succ, List.getElem_toArray, List.getElem_cons_zero, List.getElem_cons_succ]
                        have f1 : w7.cell? ⟨b, 1, none⟩ = some (.slice (some ⟨go, 0, none⟩) n hc) := hHeld
                        refine till_one (i := 21) (by kernel_rfl) rfl (fun K hK => ?_)
                        go_simp
                        refine hK.out _ _ (fun h => absurd rfl h) ?_
                        clear hK K
                        try simp only [Act.put, List.setIfInBounds_toArray, List.set_cons_zero, List.set_cons_succ, List.getElem_toArray, List.getElem_cons_zero, List.getElem_cons_succ]
                        refine till_done (by kernel_rfl) ?_ _
                        have HFN : Hid (_ ∧ _) := fin20 HMD.out HB8.out HA8.out.gb HN.out.1 HN.out.2 (by omega) HSZ2.out HBZ.out p8 ⟨_, f1⟩ hw3
                        clear f1 fz hHeld
                        go_wp2
                        go_ret
                        refine .inr (.inr ⟨HC0.out, HK2.out.2, rfl, HFN.out.1, ?_⟩)
                        rw [← HK2.out.1]
                        exact HFN.out.2
                      · go_simp
                        refine hK.out _ _ (fun _ => (pAL.cell (p := ⟨b, 1, none⟩) HBZ.out).trans C1) ?_
                        clear hK K
                        try simp only [Act.put, List.setIfInBounds_toArray, List.set_cons_zero, List.set_cons_succ, List.getElem_toArray, List.getElem_cons_zero, List.getElem_cons_succ]
                        refine till_one (i := 8) (by kernel_rfl) rfl (fun K hK => ?_)
                        refine step_append_src rfl (.tmp 74) (.tmp 80) 29 rfl sz2 3 j0 (.int .i64 0) 1 8 Try.underlying29 hj hy0 hy1 hy2 rfl (by decide) sz2 0 0 [] rfl rAL _ rfl k ((zv H).take k) (hsrc1 _ pAL) hone1 (by unfold maxLen; omega) (by omega) (by rw [sAL]; omega) (sz2 + 2) sAL k (Nat.zero_add _) ?_
                        intro g1 c1 w4 hw1 hg1 ha1
                        have p1 : Below sz2 wc w4 := pAL.grown hg1 (by rw [sAL]; omega) (fun q e => by cases e; omega)
                        have e1 : sz2 ≤ w4.heap.size := by have h9 := p1.size; rw [HSZ2.out] at h9; exact h9
                        refine hK.out _ _ (fun _ => (p1.cell (p := ⟨b, 1, none⟩) HBZ.out).trans C1) ?_
                        clear hK K
                        try simp only [Act.put, List.setIfInBounds_toArray, List.set_cons_zero, List.set_cons_succ, List.getElem_toArray, List.getElem_cons_zero, List.getElem_cons_succ]
                        have l1 := laid_kept lAL hg1 (by omega)
                        refine till_one (i := 11) (by kernel_rfl) rfl (fun K hK => ?_)
                        refine step_append_src rfl (.tmp 81) (.tmp 83) 29 rfl sz2 3 j0 (.int .i64 0) 1 8 Try.underlying29 hj hy0 hy1 hy2 rfl (by decide) g1 k c1 _ rfl hw1 _ rfl 1 [.int .i64 hh] (.inr ⟨_, _, rfl, rfl, l1⟩) (by intro u hu; simp at hu; subst hu; rfl) (by unfold maxLen; omega) (by omega) e1 _ rfl (k + 1) rfl ?_
                        intro g2 c2 w6 hw2 hg2 ha2
                        have p7 : Below sz2 wc w6 := p1.grown hg2 e1 (fun q e => by cases e; exact (hw1.lt _ rfl).1)
                        have e7 : sz2 ≤ w6.heap.size := by have h9 := p7.size; rw [HSZ2.out] at h9; exact h9
                        refine hK.out _ _ (fun _ => (p7.cell (p := ⟨b, 1, none⟩) HBZ.out).trans C1) ?_
                        clear hK K
                        try simp only [Act.put, List.setIfInBounds_toArray, List.set_cons_zero, List.set_cons_succ, List.getElem_toArray, List.getElem_cons_zero, List.getElem_cons_succ]
                        refine till_one (i := 18) (by kernel_rfl) rfl (fun K hK => ?_)
                        refine step_append_src rfl (.tmp 84) (.tmp 90) 29 rfl sz2 3 j0 (.int .i64 0) 1 8 Try.underlying29 hj hy0 hy1 hy2 rfl (by decide) g2 (k + 1) c2 _ rfl hw2 _ rfl (n - k) ((zv H).drop k) (hsrc2 _ p7) hone2 (by unfold maxLen; omega) (by omega) e7 _ rfl (n + 1) (by omega) ?_
                        intro g5 c5 w7 hw3 hg3 ha3
                        have p8 : Below sz2 wc w7 := p7.grown hg3 e7 (fun q e => by cases e; exact (hw2.lt _ rfl).1)
                        have hHeld : (fun w' => w'.cell? ⟨b, 1, none⟩ = some (.slice (some ⟨go, 0, none⟩) n hc)) w7 := (p8.cell (p := ⟨b, 1, none⟩) HBZ.out).trans C1
                        have fz := FZ2.out w7 p8
                        refine hK.out _ _ (fun _ => hHeld) ?_
                        clear hK K
                        try simp only [Act.put, List.setIfInBounds_toArray, List.set_cons_zero, List.set_cons_succ, List.getElem_toArray, List.getElem_cons_zero, List.getElem_cons_succ]
                        refine till_take (i := 19) (v := (.pointer (some ⟨b, 0, none⟩))) rfl (by kernel_rfl) (by kernel_rfl) (by kernel_rfl) (by kernel_rfl) (by kernel_rfl) (by kernel_rfl) (fun _ _ _ h => h) (Or.inl ⟨by rfl, fun w hSw => by (try dsimp only at hSw); go_simp⟩) hHeld ?_
                        simp only [Act.put, List.setIfInBounds_toArray, List.set_cons_zero, List.set_cons_succ, List.getElem_toArray, List.getElem_cons_zero, List.getElem_cons_succ]
                        refine till_take (i := 20) (v := (.pointer (some ⟨b, 1, none⟩))) rfl (by kernel_rfl) (by kernel_rfl) (by kernel_rfl) (by kernel_rfl) (by kernel_rfl) (by kernel_rfl) (fun _ _ _ h => h) (Or.inl ⟨by rfl, fun w hSw => by (try dsimp only at hSw); go_simp⟩) hHeld ?_
                        simp only [Act.put, List.setIfInBounds_toArray, List.set_cons_zero, List.set_cons_succ, List.getElem_toArray, List.getElem_cons_zero, List.getElem_cons_succ]
                        have f1 : w7.cell? ⟨b, 1, none⟩ = some (.slice (some ⟨go, 0, none⟩) n hc) := hHeld
                        refine till_one (i := 21) (by kernel_rfl) rfl (fun K hK => ?_)
                        go_simp
                        refine hK.out _ _ (fun h => absurd rfl h) ?_
                        clear hK K
                        try simp only [Act.put, List.setIfInBounds_toArray, List.set_cons_zero, List.set_cons_succ, List.getElem_toArray, List.getElem_cons_zero, List.getElem_cons_succ]
                        refine till_done (by kernel_rfl) ?_ _
                        have HFN : Hid (_ ∧ _) := fin20 HMD.out HB8.out HA8.out.gb HN.out.1 HN.out.2 (by omega) HSZ2.out HBZ.out p8 ⟨_, f1⟩ hw3
                        clear f1 fz hHeld
                        go_wp2
                        go_ret
                        refine .inr (.inr ⟨HC0.out, HK2.out.2, rfl, HFN.out.1, ?_⟩)
                        rw [← HK2.out.1]
                        exact HFN.out.2
                    · go_simp
                      refine hK.out _ _ (fun _ => (pL.cell (p := ⟨b, 1, none⟩) HBZ.out).trans C1) ?_
                      clear hK K
                      try simp only [Act.put, List.setIfInBounds_toArray, List.set_cons_zero, List.set_cons_succ, List.getElem_toArray, List.getElem_cons_zero, List.getElem_cons_succ]
                      refine till_one (i := 1) (by kernel_rfl) rfl (fun K hK => ?_)
                      go_simp
                      refine hK.out _ _ (fun _ => (pLA.cell (p := ⟨b, 1, none⟩) HBZ.out).trans C1) ?_
                      clear hK K
                      try simp only [Act.put, List.setIfInBounds_toArray, List.set_cons_zero, List.set_cons_succ, List.getElem_toArray, List.getElem_cons_zero, List.getElem_cons_succ]
                      refine till_one (i := 8) (by kernel_rfl) rfl (fun K hK => ?_)
                      refine step_append_src rfl (.tmp 74) (.tmp 80) 29 rfl sz2 3 j0 (.int .i64 0) 1 8 Try.underlying29 hj hy0 hy1 hy2 rfl (by decide) (sz2 + 1) 0 0 [] rfl rLA _ rfl k ((zv H).take k) (hsrc1 _ pLA) hone1 (by unfold maxLen; omega) (by omega) (by rw [sLA]; omega) (sz2 + 2) sLA k (Nat.zero_add _) ?_
                      intro g1 c1 w4 hw1 hg1 ha1
                      have p1 : Below sz2 wc w4 := pLA.grown hg1 (by rw [sLA]; omega) (fun q e => by cases e; omega)
                      have e1 : sz2 ≤ w4.heap.size := by have h9 := p1.size; rw [HSZ2.out] at h9; exact h9
                      refine hK.out _ _ (fun _ => (p1.cell (p := ⟨b, 1, none⟩) HBZ.out).trans C1) ?_
                      clear hK K
                      try simp only [Act.put, List.setIfInBounds_toArray, List.set_cons_zero, List.set_cons_succ, List.getElem_toArray, List.getElem_cons_zero, List.getElem_cons_succ]
                      have l1 := laid_kept lLA hg1 (by omega)
                      refine till_one (i := 11) (by kernel_rfl) rfl (fun K hK => ?_)
                      refine step_append_src rfl (.tmp 81) (.tmp 83) 29 rfl sz2 3 j0 (.int .i64 0) 1 8 Try.underlying29 hj hy0 hy1 hy2 rfl (by decide) g1 k c1 _ rfl hw1 _ rfl 1 [.int .i64 hh] (.inr ⟨_, _, rfl, rfl, l1⟩) (by intro u hu; simp at hu; subst hu; rfl) (by unfold maxLen; omega) (by omega) e1 _ rfl (k + 1) rfl ?_
                      intro g2 c2 w6 hw2 hg2 ha2
                      have p7 : Below sz2 wc w6 := p1.grown hg2 e1 (fun q e => by cases e; exact (hw1.lt _ rfl).1)
                      have e7 : sz2 ≤ w6.heap.size := by have h9 := p7.size; rw [HSZ2.out] at h9; exact h9
                      refine hK.out _ _ (fun _ => (p7.cell (p := ⟨b, 1, none⟩) HBZ.out).trans C1) ?_
                      clear hK K
                      try simp only [Act.put, List.setIfInBounds_toArray, List.set_cons_zero, List.set_cons_succ, List.getElem_toArray, List.getElem_cons_zero, List.getElem_cons_succ]
                      refine till_one (i := 18) (by kernel_rfl) rfl (fun K hK => ?_)
                      refine step_append_src rfl (.tmp 84) (.tmp 90) 29 rfl sz2 3 j0 (.int .i64 0) 1 8 Try.underlying29 hj hy0 hy1 hy2 rfl (by decide) g2 (k + 1) c2 _ rfl hw2 _ rfl (n - k) ((zv H).drop k) (hsrc2 _ p7) hone2 (by unfold maxLen; omega) (by omega) e7 _ rfl (n + 1) (by omega) ?_
                      intro g5 c5 w7 hw3 hg3 ha3
                      have p8 : Below sz2 wc w7 := p7.grown hg3 e7 (fun q e => by cases e; exact (hw2.lt _ rfl).1)
                      have hHeld : (fun w' => w'.cell? ⟨b, 1, none⟩ = some (.slice (some ⟨go, 0, none⟩) n hc)) w7 := (p8.cell (p := ⟨b, 1, none⟩) HBZ.out).trans C1
                      have fz := FZ2.out w7 p8
                      refine hK.out _ _ (fun _ => hHeld) ?_
                      clear hK K
                      try simp only [Act.put, List.setIfInBounds_toArray, List.set_cons_zero, List.set_cons_succ, List.getElem_toArray, List.getElem_cons_zero, List.getElem_cons_succ]
                      refine till_take (i := 19) (v := (.pointer (some ⟨b, 0, none⟩))) rfl (by kernel_rfl) (by kernel_rfl) (by kernel_rfl) (by kernel_rfl) (by kernel_rfl) (by kernel_rfl) (fun _ _ _ h => h) (Or.inl ⟨by rfl, fun w hSw => by (try dsimp only at hSw); go_simp⟩) hHeld ?_
                      simp only [Act.put, List.setIfInBounds_toArray, List.set_cons_zero, List.set_cons_succ, List.getElem_toArray, List.getElem_cons_zero, List.getElem_cons_succ]
                      refine till_take (i := 20) (v := (.pointer (some ⟨b, 1, none⟩))) rfl (by kernel_rfl) (by kernel_rfl) (by kernel_rfl) (by kernel_rfl) (by kernel_rfl) (by kernel_rfl) (fun _ _ _ h => h) (Or.inl ⟨by rfl, fun w hSw => by (try dsimp only at hSw); go_simp⟩) hHeld ?_
                      simp only [Act.put, List.setIfInBounds_toArray, List.set_cons_zero, List.set_cons_succ, List.getElem_toArray, List.getElem_cons_zero, List.getElem_cons_succ]
                      have f1 : w7.cell? ⟨b, 1, none⟩ = some (.slice (some ⟨go, 0, none⟩) n hc) := hHeld
                      refine till_one (i := 21) (by kernel_rfl) rfl (fun K hK => ?_)
                      go_simp
                      refine hK.out _ _ (fun h => absurd rfl h) ?_
                      clear hK K
                      try simp only [Act.put, List.setIfInBounds_toArray, List.set_cons_zero, List.set_cons_succ, List.getElem_toArray, List.getElem_cons_zero, List.getElem_cons_succ]
                      refine till_done (by kernel_rfl) ?_ _
                      have HFN : Hid (_ ∧ _) := fin20 HMD.out HB8.out HA8.out.gb HN.out.1 HN.out.2 (by omega) HSZ2.out HBZ.out p8 ⟨_, f1⟩ hw3
                      clear f1 fz hHeld
                      go_wp2
                      go_ret
                      refine .inr (.inr ⟨HC0.out, HK2.out.2, rfl, HFN.out.1, ?_⟩)
                      rw [← HK2.out.1]
                      exact HFN.out.2
  · have HN : Hid (chkSk e hh = ck) := by show _ = _; rw [HC.out, if_neg hc0]
    have h0b : (ck == 0) = false := by simpa using hc0
    go_wp2
    go_ret
    refine .inl ⟨by rw [HN.out]; exact hc0, by rw [HN.out]; rfl, ?_⟩
    exact HB1.out

end Go.Proofs.Ytekmlbbfipldoaa

/- A list of the program's and one of the document's, side by side: what is put into both. -/
namespace Go.Proofs.Ytekmlbbfipldoaa
open Go.RowKit Go.Shelf
set_option linter.unusedVariables false

/-- the heights of towers -/
def htT (ts : List Tow) : List Int := ts.map (fun t => (t.h : Int))

theorem esT_ins (ts : List Tow) (c : Nat) (T : Tow) : esT (insT ts c T) = (esT ts).take c ++ T.e :: (esT ts).drop c := by
  unfold esT insT
  rw [List.map_append, List.map_cons, List.map_take, List.map_drop]

theorem htT_ins (ts : List Tow) (c : Nat) (T : Tow) : htT (insT ts c T) = (htT ts).take c ++ (T.h : Int) :: (htT ts).drop c := by
  unfold htT insT
  rw [List.map_append, List.map_cons, List.map_take, List.map_drop]

/-- no block of a tower, nor of what it holds -/
def OffT (t : Tow) (i : Nat) : Prop := i ≠ t.b ∧ (∀ q, t.x.ownBlock = some q → q ≠ i) ∧ (∀ q, t.y.ownBlock = some q → q ≠ i)

/-- both lists, so many puts being in -/
structure PlI (wf : World) (l xb j : Nat) (wr : World) (ts : List Tow) (G : Nat → Prop) : Prop where
  sk : SkAt wr l ts
  len : LenT ts 1000
  cnt : ts.length ≤ j
  tow : ∀ t ∈ ts, wf.heap.size ≤ t.b ∧ From wf.heap.size t.x ∧ From wf.heap.size t.y
  rf : RefAt G wr xb (esT ts) (htT ts)
  gl : ∀ i, G i → i < wr.heap.size ∧ (i = xb ∨ wf.heap.size ≤ i)
  gd : ∀ i, G i → ∀ t ∈ ts, OffT t i
  kp : Keeps (fun i => i = l ∨ i = xb ∨ wf.heap.size ≤ i) wf wr

theorem PlI.below {wf wr w' : World} {l xb j : Nat} {ts : List Tow} {G : Nat → Prop} (h : PlI wf l xb j wr ts G) (hb : Below wr.heap.size wr w') : PlI wf l xb j w' ts G :=
  ⟨h.sk.below hb, h.len, h.cnt, h.tow, h.rf.below hb, fun i hi => ⟨Nat.lt_of_lt_of_le (h.gl i hi).1 hb.size, (h.gl i hi).2⟩, h.gd, h.kp.trans (Below.keeps hb _)⟩

theorem nb_of {l : Nat} {ts : List Tow} {i : Nat} (h : ∃ a, a ≤ ts.length ∧ i = nb l ts a) : i = l ∨ ∃ t ∈ ts, i = t.b := by
  obtain ⟨a, ha, e⟩ := h
  rcases nb_cases (l := l) ha with h1 | ⟨t, ht, h1⟩
  · exact .inl (e.trans h1)
  · exact .inr ⟨t, ht, e.trans h1⟩

/-- behind the program's Insert -/
theorem PlI.mid {wf wr W w4 : World} {l xb j : Nat} {ts : List Tow} {G : Nat → Prop} {e : EnB} {hh : Int} {o : Ending} (h : PlI wf l xb j wr ts G) (hl : l < xb) (hx : xb < wf.heap.size) (hb : Below wr.heap.size wr W) (hp : InsPost2 l ts e hh W w4 o) :
    RefAt G w4 xb (esT ts) (htT ts) ∧ (∀ i, G i → i < w4.heap.size) ∧ Keeps (fun i => i = l ∨ ∃ t ∈ ts, i = t.b) W w4 := by
  have hW := h.below hb
  have kp : Keeps (fun i => i = l ∨ ∃ t ∈ ts, i = t.b) W w4 := by
    rcases hp with ⟨_, _, hb4⟩ | ⟨_, _, _, hb4⟩ | ⟨_, _, _, T, _, _, _, _, hk⟩
    · exact Below.keeps hb4 _
    · exact Below.keeps hb4 _
    · exact hk.mono (fun i hi => nb_of hi)
  refine ⟨hW.rf.keeps kp (fun i hi hF => ?_), fun i hi => Nat.lt_of_lt_of_le (hW.gl i hi).1 kp.size, kp⟩
  rcases hF with rfl | ⟨t, ht, rfl⟩
  · have := (h.gl _ hi).2; omega
  · exact (h.gd _ hi t ht).1 rfl

/-- behind the document's Insert, too: one answer, and both have it -/
theorem PlI.ins {wf wr W w4 w5 : World} {l xb j : Nat} {ts : List Tow} {G : Nat → Prop} {e : EnB} {hh : Int} {o o2 : Ending} (h : PlI wf l xb j wr ts G) (hl : l < xb) (hx : xb < wf.heap.size) (hj : j < 100) (he : e.1.length ≤ 80 ∧ e.2.2.2.length ≤ 600) (hb : Below wr.heap.size wr W) (hp : InsPost2 l ts e hh W w4 o) (hr : InsRef G xb (esT ts) (htT ts) e hh w4 w5 o2) :
    ∃ c ts' G', o = .returned (.int .i64 c) ∧ o2 = .returned (.int .i64 c) ∧ PlI wf l xb (j + 1) w5 ts' G' ∧ (∀ i, wr.heap.size ≤ i → i < W.heap.size → ¬ G' i ∧ ∀ t ∈ ts', OffT t i) ∧ Keeps (fun i => i = l ∨ i = xb ∨ ∃ t ∈ ts, i = t.b) W w5 := by
  obtain ⟨hR4, hG4, kp4⟩ := h.mid hl hx hb hp
  have hW := h.below hb
  have hwf := h.kp.size
  have hsW := hb.size
  have hold : ∀ i, wr.heap.size ≤ i → i < W.heap.size → ¬ G i ∧ ∀ t ∈ ts, OffT t i := fun i h1 h2 => by
    refine ⟨fun hi => by have := (h.gl i hi).1; omega, fun t ht => ⟨?_, fun q hq => ?_, fun q hq => ?_⟩⟩
    · obtain ⟨a, ha, rfl⟩ := List.getElem_of_mem ht
      have h9 := (h.sk.nod (a + 1) (by omega)).lt
      rw [nb_succ l ha] at h9
      omega
    · have := (h.sk.inn t ht).1 q hq; omega
    · have := (h.sk.inn t ht).2 q hq; omega
  -- nothing was put in
  have same : ∀ (c : Int), Below W.heap.size W w4 → Below w4.heap.size w4 w5 → o = .returned (.int .i64 c) → o2 = .returned (.int .i64 c) → ∃ c ts' G', o = .returned (.int .i64 c) ∧ o2 = .returned (.int .i64 c) ∧ PlI wf l xb (j + 1) w5 ts' G' ∧ (∀ i, wr.heap.size ≤ i → i < W.heap.size → ¬ G' i ∧ ∀ t ∈ ts', OffT t i) ∧ Keeps (fun i => i = l ∨ i = xb ∨ ∃ t ∈ ts, i = t.b) W w5 := fun c b4 b5 h1 h2 => by
    have hP := (hW.below b4).below b5
    exact ⟨c, ts, G, h1, h2, ⟨hP.sk, hP.len, Nat.le_succ_of_le hP.cnt, hP.tow, hP.rf, hP.gl, hP.gd, hP.kp⟩, hold, (Below.keeps b4 _).trans (Below.keeps b5 _)⟩
  rcases hp with ⟨hn, ho, b4⟩ | ⟨hc, ha, ho, b4⟩ | ⟨hc, ha, ho, T, hTe, hTh, hTb, hS, hk⟩
  · rcases hr with ⟨_, ho2, b5⟩ | ⟨hc2, _⟩ | ⟨hc2, _⟩
    · exact same _ b4 b5 ho ho2
    · exact absurd hc2 hn
    · exact absurd hc2 hn
  · rcases hr with ⟨hn2, _⟩ | ⟨_, _, ho2, b5⟩ | ⟨_, ha2, _⟩
    · exact absurd hc hn2
    · exact same _ b4 b5 ho ho2
    · rw [ha] at ha2; cases ha2
  · rcases hr with ⟨hn2, _⟩ | ⟨_, ha2, _⟩ | ⟨_, _, ho2, k5, hRf⟩
    · exact absurd hc hn2
    · rw [ha] at ha2; cases ha2
    · have hcl : cntE (esT ts) e ≤ ts.length := by
        have h9 : cntE (esT ts) e ≤ (esT ts).length := List.countP_le_length
        rwa [esT_len] at h9
      have hs4 := kp4.size
      have hs5 := k5.size
      have hwW := hb.size
      have hTl : T.b < w4.heap.size := by
        have h9 := (hS.nod (cntE (esT ts) e + 1) (by rw [insT_len hcl]; omega)).lt
        rwa [(nb_ins_at (l := l) hcl).1] at h9
      have hTi : ∀ t ∈ insT ts (cntE (esT ts) e) T, LtB w4 t.x ∧ LtB w4 t.y := hS.inn
      have hTm : T ∈ insT ts (cntE (esT ts) e) T := by unfold insT; simp
      -- the towers lie apart from the document's list
      have offx : ∀ t ∈ insT ts (cntE (esT ts) e) T, t.b ≠ xb ∧ (∀ q, t.x.ownBlock = some q → q ≠ xb) ∧ (∀ q, t.y.ownBlock = some q → q ≠ xb) := fun t ht => by
        rcases insT_mem ht with rfl | ht
        · exact ⟨by omega, fun q hq => by have := own_from hTb.2.1 hq; omega, fun q hq => by have := own_from hTb.2.2 hq; omega⟩
        · have h9 := h.tow t ht
          exact ⟨by omega, fun q hq => by have := own_from h9.2.1 hq; omega, fun q hq => by have := own_from h9.2.2 hq; omega⟩
      have hS5 : SkAt w5 l (insT ts (cntE (esT ts) e) T) := hS.keeps k5 (by omega) (fun t ht => (offx t ht).1) (fun t ht => (offx t ht).2)
      refine ⟨0, insT ts (cntE (esT ts) e) T, (fun i => G i ∨ (w4.heap.size ≤ i ∧ i < w5.heap.size)), ho, ho2, ⟨hS5, fun t ht => ?_, ?_, fun t ht => ?_, ?_, fun i hi => ?_, fun i hi t ht => ?_, ?_⟩, fun i h1 h2 => ⟨fun hi => ?_, fun t ht => ?_⟩, ?_⟩
      · rcases insT_mem ht with rfl | ht
        · rw [hTe]; omega
        · exact h.len t ht
      · rw [insT_len hcl]; have := h.cnt; omega
      · rcases insT_mem ht with rfl | ht
        · exact ⟨by omega, fun a n c e => by have := hTb.2.1 a n c e; omega, fun a n c e => by have := hTb.2.2 a n c e; omega⟩
        · exact h.tow t ht
      · rw [esT_ins, htT_ins, hTe, hTh]
        exact hRf
      · rcases hi with hi | hi
        · exact ⟨by have := hG4 i hi; omega, (h.gl i hi).2⟩
        · exact ⟨hi.2, .inr (by omega)⟩
      · rcases hi with hi | hi
        · rcases insT_mem ht with rfl | ht
          · have h9 := (h.gl i hi).1
            exact ⟨by omega, fun q hq => by have := own_from hTb.2.1 hq; omega, fun q hq => by have := own_from hTb.2.2 hq; omega⟩
          · exact h.gd i hi t ht
        · have h9 := hTi t ht
          refine ⟨fun e9 => ?_, fun q hq => by have := h9.1 q hq; omega, fun q hq => by have := h9.2 q hq; omega⟩
          obtain ⟨a, ha9, rfl⟩ := List.getElem_of_mem ht
          have h8 := (hS.nod (a + 1) (by omega)).lt
          rw [nb_succ l ha9] at h8
          omega
      · refine ((hW.kp.trans (kp4.mono (fun i hi => ?_))).trans (k5.mono (fun i hi => .inr (.inl hi))))
        rcases hi with rfl | ⟨t, ht, rfl⟩
        · exact .inl rfl
        · exact .inr (.inr (h.tow t ht).1)
      · rcases hi with hi | hi
        · exact (hold i h1 h2).1 hi
        · omega
      · rcases insT_mem ht with rfl | ht
        · exact ⟨by omega, fun q hq => by have := own_from hTb.2.1 hq; omega, fun q hq => by have := own_from hTb.2.2 hq; omega⟩
        · exact (hold i h1 h2).2 t ht
      · refine (kp4.mono (fun i hi => ?_)).trans (k5.mono (fun i hi => .inr (.inl hi)))
        rcases hi with h9 | h9
        · exact .inl h9
        · exact .inr (.inr h9)

/-- what lies apart from both is turned -/
theorem PlI.flip {wf wr w' : World} {l xb j A B : Nat} {ts : List Tow} {G : Nat → Prop} (h : PlI wf l xb j wr ts G) (hk : Keeps (fun i => A ≤ i ∧ i < B) wr w') (hA : wf.heap.size ≤ A) (hl : l < wf.heap.size) (hoff : ∀ i, A ≤ i → i < B → ¬ G i ∧ ∀ t ∈ ts, OffT t i) : PlI wf l xb j w' ts G := by
  refine ⟨h.sk.keeps hk (fun hF => by omega) (fun t ht hF => ((hoff _ hF.1 hF.2).2 t ht).1 rfl) (fun t ht => ⟨fun q hq hF => ((hoff _ hF.1 hF.2).2 t ht).2.1 q hq rfl, fun q hq hF => ((hoff _ hF.1 hF.2).2 t ht).2.2 q hq rfl⟩), h.len, h.cnt, h.tow, h.rf.keeps hk (fun i hi hF => (hoff i hF.1 hF.2).1 hi), fun i hi => ⟨Nat.lt_of_lt_of_le (h.gl i hi).1 hk.size, (h.gl i hi).2⟩, h.gd, h.kp.trans (hk.mono (fun i hi => .inr (.inr (by omega))))⟩

theorem someM_keeps {B : Nat} {F : Nat → Prop} {w w' : World} {x : Value} (h : SomeM B w x) (hk : Keeps F w w') (hF : ∀ q, x.ownBlock = some q → ¬ F q) : SomeM B w' x := by
  rcases h with h | ⟨g, n, c, e, ⟨cur, l, hg, r⟩, h2⟩
  · exact .inl h
  · exact .inr ⟨g, n, c, e, ⟨cur, l, by rw [hk.block g (Array.getElem?_eq_some_iff.1 hg).1 (hF g (by rw [e]; rfl))]; exact hg, r⟩, h2⟩

theorem Bx4.keeps {F : Nat → Prop} {w w' : World} {b : Nat} {v0 v1 v2 v3 : Value} (h : Bx4 w b v0 v1 v2 v3) (hk : Keeps F w w') (hF : ¬ F b) : Bx4 w' b v0 v1 v2 v3 := by
  obtain ⟨cur, t, ht, he⟩ := h.blk
  exact ⟨⟨hk.cell (p := ⟨b, 0, none⟩) hF h.box.c0, hk.cell (p := ⟨b, 1, none⟩) hF h.box.c1, hk.cell (p := ⟨b, 2, none⟩) hF h.box.c2, hk.cell (p := ⟨b, 3, none⟩) hF h.box.c3⟩, cur, t, ht, by rw [hk.block b (Array.getElem?_eq_some_iff.1 he).1 hF]; exact he⟩

theorem PlI.be {w wf wr : World} {l xb j : Nat} {ts : List Tow} {G : Nat → Prop} (h : PlI wf l xb j wr ts G) (hw : Below w.heap.size w wf) (hl : w.heap.size ≤ l) (hx : w.heap.size ≤ xb) : Below w.heap.size w wr :=
  hw.trans (h.kp.below (fun i hi => by have := hw.size; rcases hi with h | h | h <;> omega) hw.size)

end Go.Proofs.Ytekmlbbfipldoaa

/- What the law of SkipPlays holds the two lists against each other by. -/
namespace Go.Proofs.Ytekmlbbfipldoaa
open Go.RowKit Go.Shelf
set_option linter.unusedVariables false

/-- versions in a row of one's own; what they hold was there in the world wf -/
def OnceK (B : Nat) (wf w : World) (v : Value) (ks : List KyT) : Prop :=
  ∃ cs, w.ownsRow B 36 3 v ks.length cs ∧ ∀ j (h : j < ks.length), ∃ x, cs[j * 3]? = some x ∧ cs[j * 3 + 1]? = some (.int .u64 (ks[j].2.1 : Int)) ∧ cs[j * 3 + 2]? = some (.int .u8 (ks[j].2.2.toNat : Int)) ∧ Rd wf x ks[j].1

theorem OnceK.nil (B : Nat) (wf w : World) : OnceK B wf w (.slice none 0 0) [] := ⟨[], World.ownsRow_nil _ _ _ _, fun _ h => absurd h (Nat.not_lt_zero _)⟩

theorem OnceK.below {B : Nat} {wf w w' : World} {v : Value} {ks : List KyT} (h : OnceK B wf w v ks) (hb : Below w.heap.size w w') : OnceK B wf w' v ks := by
  obtain ⟨cs, hr, hj⟩ := h
  exact ⟨cs, row_below hr hb, hj⟩

theorem OnceK.rd {B : Nat} {wf w : World} {v : Value} {ks : List KyT} (h : OnceK B wf w v ks) (hb : Below wf.heap.size wf w) : RdKs w v ks := by
  obtain ⟨cs, hr, hj⟩ := h
  have hr2 := hr
  rcases hr.2 with ⟨e, hn⟩ | ⟨g, cap, cur, e, _, hg, h1, h2, h3, h4⟩
  · exact ⟨none, 0, by rw [e, hn], by omega, Nat.zero_le _, fun j hj => by omega⟩
  · subst e
    refine ⟨_, cap, rfl, h1, h2, fun j h => ⟨g, 0, rfl, ?_⟩⟩
    obtain ⟨x, c0, c1, c2, ox⟩ := hj j h
    have hc := hr2.cells (g := g) rfl
    refine ⟨x, ?_, ?_, ?_, ox.below hb (Nat.le_refl _)⟩
    · have := hc _ _ c0; rwa [Addr.add_lit] at this
    · have := hc _ _ c1; rwa [Addr.add_lit] at this
    · have := hc _ _ c2; rwa [Addr.add_lit] at this

theorem OnceK.push {B g c n : Nat} {wf w' : World} {x : Value} {ks : List KyT} {cs : List Value} (o : KyT) (hl : ks.length = n) (hcl : cs.length = n * 3)
    (hel : ∀ j (h : j < ks.length), ∃ x, cs[j * 3]? = some x ∧ cs[j * 3 + 1]? = some (.int .u64 (ks[j].2.1 : Int)) ∧ cs[j * 3 + 2]? = some (.int .u8 (ks[j].2.2.toNat : Int)) ∧ Rd wf x ks[j].1)
    (hx : Rd wf x o.1) (hn : w'.ownsRow B 36 3 (.slice (some ⟨g, 0, none⟩) (n + 1) c) (n + 1) (cs ++ [x, .int .u64 (o.2.1 : Int), .int .u8 (o.2.2.toNat : Int)])) : OnceK B wf w' (.slice (some ⟨g, 0, none⟩) (n + 1) c) (ks ++ [o]) := by
  subst hl
  refine ⟨_, by rw [List.length_append]; exact hn, fun j h => ?_⟩
  by_cases hj : j < ks.length
  · obtain ⟨x', c0, c1, c2, ox⟩ := hel j hj
    refine ⟨x', ?_, ?_, ?_, ?_⟩
    · rw [List.getElem?_append_left (by omega)]; exact c0
    · rw [List.getElem?_append_left (by omega), List.getElem_append_left hj]; exact c1
    · rw [List.getElem?_append_left (by omega), List.getElem_append_left hj]; exact c2
    · rw [List.getElem_append_left hj]; exact ox
  · have hje : j = ks.length := by rw [List.length_append] at h; simp at h; omega
    subst hje
    have e : (ks ++ [o])[ks.length]'h = o := by simp
    rw [e]
    refine ⟨x, ?_, ?_, ?_, hx⟩
    · rw [List.getElem?_append_right (by omega), show ks.length * 3 - cs.length = 0 by omega]; rfl
    · rw [List.getElem?_append_right (by omega), show ks.length * 3 + 1 - cs.length = 1 by omega]; rfl
    · rw [List.getElem?_append_right (by omega), show ks.length * 3 + 2 - cs.length = 2 by omega]; rfl

/-- of the first i, the versions of those that reach row z -/
def wantT (ts : List Tow) (z : Int) (i : Nat) : List KyT := ((ts.take i).filter (fun t => decide (1 ≤ z ∧ z ≤ (t.h : Int)))).map (fun t => kyE t.e)

theorem want_next {ts : List Tow} {z : Int} {i : Nat} (h : i < ts.length) : wantT ts z (i + 1) = if 1 ≤ z ∧ z ≤ (ts[i].h : Int) then wantT ts z i ++ [kyE ts[i].e] else wantT ts z i := by
  unfold wantT
  rw [List.take_succ_eq_append_getElem h, List.filter_append, List.map_append]
  by_cases hc : 1 ≤ z ∧ z ≤ (ts[i].h : Int)
  · rw [if_pos hc, List.filter_cons_of_pos (by simpa using hc)]
    rfl
  · rw [if_neg hc, List.filter_cons_of_neg (by simpa using hc)]
    simp

theorem want_le (ts : List Tow) (z : Int) (i : Nat) : (wantT ts z i).length ≤ i := by
  unfold wantT
  rw [List.length_map]
  refine Nat.le_trans (List.length_filter_le _ _) ?_
  rw [List.length_take]
  omega

theorem want_row {ts : List Tow} {q : Nat} {z : Int} (hz : z = (q : Int) + 1) : wantT ts z ts.length = ksT (rowT ts q) := by
  unfold wantT ksT rowT
  rw [List.take_length]
  congr 1
  congr 1
  funext t
  have e : (1 ≤ z ∧ z ≤ (t.h : Int)) ↔ q < t.h := by omega
  simp [e]

theorem want_no {ts : List Tow} {z : Int} (ht : ∀ t ∈ ts, 1 ≤ t.h ∧ t.h ≤ 8) (hz : ¬ (1 ≤ z ∧ z ≤ 8)) (i : Nat) : wantT ts z i = [] := by
  unfold wantT
  rw [List.filter_eq_nil_iff.2 (fun t h => by
    have h9 := ht t (List.mem_of_mem_take h)
    simp
    omega)]
  rfl

theorem rdKs_nil (w : World) : RdKs w (.slice none 0 0) [] := ⟨none, 0, rfl, Nat.le_refl _, Nat.zero_le _, fun j h => absurd h (Nat.not_lt_zero _)⟩

theorem rdE_nil (w : World) : RdE w (.slice none 0 0) [] := LsE.nil _ w

/-- what a list tells, behind the world wT -/
structure Tells (wT : World) (pv : Option Addr) (ts : List Tow) : Prop where
  all : ∀ W, Below wT.heap.size wT W → Calls Try.prog 17 #[.pointer pv] W fun e w' => ∃ v, e = .returned v ∧ RdE w' v (esT ts) ∧ Below W.heap.size W w'
  len : ∀ W, Below wT.heap.size wT W → Calls Try.prog 18 #[.pointer pv] W fun e w' => e = .returned (.int .i64 (ts.length : Int)) ∧ Below W.heap.size W w'
  siz : ∀ W, Below wT.heap.size wT W → Calls Try.prog 19 #[.pointer pv] W fun e w' => e = .returned (.int .i64 (sizT ts : Int)) ∧ Below W.heap.size W w'
  row : ∀ W (z : Int), Below wT.heap.size wT W → Calls Try.prog 21 #[.pointer pv, .int .i64 z] W fun e w' => ∃ v, e = .returned v ∧ RdKs w' v (wantT ts z ts.length) ∧ Below W.heap.size W w'
  from_ : ∀ W (kv : Value) (K : EnB), Below wT.heap.size wT W → Rd W kv K.1 → Calls Try.prog 23 #[.pointer pv, .agg #[kv, .int .u64 (K.2.1 : Int), .int .u8 (K.2.2.1.toNat : Int)]] W fun o w' => FoundE ((esT ts)[cntE (esT ts) K]?) W w' o
  bef : ∀ W (kv : Value) (K : EnB), Below wT.heap.size wT W → Rd W kv K.1 → Calls Try.prog 25 #[.pointer pv, .agg #[kv, .int .u64 (K.2.1 : Int), .int .u8 (K.2.2.1.toNat : Int)]] W fun o w' => FoundE (if cntE (esT ts) K = 0 then none else (esT ts)[cntE (esT ts) K - 1]?) W w' o

end Go.Proofs.Ytekmlbbfipldoaa
