/- Several texts in one. -/
import Derived.Test.YtekmlbbfipldoaaGrpE
import Derived.Test.YtekmlbbfipldoaaGrpD
import Derived.Test.YtekmlbbfipldoaaGrpC
import Derived.Test.YtekmlbbfipldoaaGrpL
import Derived.BigQuiet

/- SkipPlays. -/
namespace Go.Proofs.Ytekmlbbfipldoaa
open Go.RowKit Go.Shelf
set_option linter.unusedVariables false

theorem Box5.keeps {F : Nat → Prop} {w w' : World} {b : Nat} {v0 v1 v2 v3 v4 : Value} (h : Box5 w b v0 v1 v2 v3 v4) (hk : Keeps F w w') (hF : ¬ F b) : Box5 w' b v0 v1 v2 v3 v4 :=
  ⟨hk.cell (p := ⟨b, 0, none⟩) hF h.c0, hk.cell (p := ⟨b, 1, none⟩) hF h.c1, hk.cell (p := ⟨b, 2, none⟩) hF h.c2, hk.cell (p := ⟨b, 3, none⟩) hF h.c3, hk.cell (p := ⟨b, 4, none⟩) hF h.c4⟩

theorem kpMap {wf W w4 : World} {l xb : Nat} {ts : List Tow} (h : Keeps (fun i => i = l ∨ i = xb ∨ wf.heap.size ≤ i) wf W) (k : Keeps (fun i => i = l ∨ i = xb ∨ ∃ t ∈ ts, i = t.b) W w4) (ht : ∀ t ∈ ts, wf.heap.size ≤ t.b) : Keeps (fun i => i = l ∨ i = xb ∨ wf.heap.size ≤ i) wf w4 :=
  h.trans (k.mono (fun i hi => by
    rcases hi with h | h | ⟨t, h1, h2⟩
    · exact .inl h
    · exact .inr (.inl h)
    · exact .inr (.inr (by rw [h2]; exact ht t h1))))

theorem laid3 (w : World) (v0 v1 v2 : Value) (t : TypeId) : ∀ j u, [v0, v1, v2][j]? = some u → (w.alloc (.cells #[v0, v1, v2] t)).cell? ((⟨w.heap.size, 0, none⟩ : Addr).add j) = some u :=
  World.news_of_block (heap_alloc_new w _)

theorem one3 (a : Option Addr) (n c : Nat) (s k : Int) : ∀ u ∈ [Value.slice a n c, .int .u64 s, .int .u8 k], u.oneCell' = true := by
  intro u hu
  simp at hu
  rcases hu with rfl | rfl | rfl <;> rfl

theorem tells_sk {wT : World} {l : Nat} {ts : List Tow} (hS : SkAt wT l ts) (hL : LenT ts 1000) : Tells wT (some ⟨l, 0, none⟩) ts where
  all W hW := (skall_any W l ts (hS.below hW) hL).mono (fun e w' h => by
    obtain ⟨v, h1, h2, h3⟩ := h
    exact ⟨v, h1, h2.own.rd, h3⟩)
  len W hW := sklen_any W l ts (hS.below hW)
  siz W hW := sksize_any W l ts (hS.below hW) hL
  row W z hW := by
    by_cases hz : 1 ≤ z ∧ z ≤ 8
    · obtain ⟨q, hq⟩ : ∃ q : Nat, z = (q : Int) + 1 := ⟨(z - 1).toNat, by omega⟩
      have h := skrows_any W l ts (hS.below hW) hL (q + 1) q rfl (by omega)
      rw [show ((q + 1 : Nat) : Int) = z by omega] at h
      refine h.mono (fun e w' h => ?_)
      obtain ⟨v, h1, h2, h3⟩ := h
      exact ⟨v, h1, by rw [want_row hq]; exact h2.rd, h3⟩
    · refine (skrows_no W (some ⟨l, 0, none⟩) z (.inr hz)).mono (fun e w' h => ?_)
      exact ⟨_, h.1, by rw [want_no hS.ht hz]; exact rdKs_nil _, h.2⟩
  from_ W kv K hW hk := skfrom_any W l ts kv K (hS.below hW) hk (fun t ht => by have := hL t ht; omega)
  bef W kv K hW hk := skbefore_any W l ts kv K (hS.below hW) hk (fun t ht => by have := hL t ht; omega)

theorem tells_nil (wT : World) : Tells wT none [] where
  all W hW := (skall_nil W).mono (fun e w' h => ⟨_, h.1, rdE_nil _, h.2⟩)
  len W hW := sklen_nil W
  siz W hW := sksize_nil W
  row W z hW := (skrows_no W none z (.inl rfl)).mono (fun e w' h => ⟨_, h.1, by
    have h9 : wantT [] z ([] : List Tow).length = [] := rfl
    rw [h9]
    exact rdKs_nil _, h.2⟩)
  from_ W kv K hW hk := by
    obtain ⟨ka, kc, rfl⟩ := hk.len
    exact (skfrom_nil W ka _ kc _ _).mono (fun e w' h => ⟨h.2, h.1⟩)
  bef W kv K hW hk := by
    obtain ⟨ka, kc, rfl⟩ := hk.len
    exact (skbefore_nil W ka _ kc _ _).mono (fun e w' h => ⟨h.2, h.1⟩)

/-- what is found, or nothing -/
def fx (q : Option EnB) : List UInt8 := match q with | none => [] | some e => e.1
def fy (q : Option EnB) : List UInt8 := match q with | none => [] | some e => e.2.2.2
def fs (q : Option EnB) : Int := match q with | none => 0 | some e => (e.2.1 : Int)
def fk (q : Option EnB) : Int := match q with | none => 0 | some e => (e.2.2.1.toNat : Int)

/-- as a value that is written out -/
def Told (q : Option EnB) (w w' : World) (o : Ending) : Prop :=
  ∃ (xa ya : Option Addr) (xn xc yn yc : Nat), o = .returned (.tuple #[.agg #[.slice xa xn xc, .int .u64 (fs q), .int .u8 (fk q), .slice ya yn yc], .bool q.isSome]) ∧ Rd w' (.slice xa xn xc) (fx q) ∧ Rd w' (.slice ya yn yc) (fy q) ∧ Below w.heap.size w w'

theorem told_found {q : Option EnB} {w w' : World} {o : Ending} (h : FoundE q w w' o) : Told q w w' o := by
  obtain ⟨hb, h⟩ := h
  cases q with
  | none => exact ⟨none, none, 0, 0, 0, 0, h, .inl ⟨rfl, rfl⟩, .inl ⟨rfl, rfl⟩, hb⟩
  | some e =>
    obtain ⟨x, y, rfl, rx, ry⟩ := h
    obtain ⟨xa, xc, rfl⟩ := rx.1.len
    obtain ⟨ya, yc, rfl⟩ := ry.1.len
    exact ⟨xa, ya, _, xc, _, yc, rfl, rx.1, ry.1, hb⟩

theorem told_ref {q : Option EnB} {w w' : World} {o : Ending} (h : R8Post q w w' o) : Told q w w' o := by
  obtain ⟨hb, h⟩ := h
  cases q with
  | none => exact ⟨none, none, 0, 0, 0, 0, h, .inl ⟨rfl, rfl⟩, .inl ⟨rfl, rfl⟩, hb⟩
  | some e =>
    obtain ⟨x, y, rfl, rx, ry⟩ := h
    obtain ⟨xa, xc, rfl⟩ := rx.len
    obtain ⟨ya, yc, rfl⟩ := ry.len
    exact ⟨xa, ya, _, xc, _, yc, rfl, rx, ry, hb⟩

theorem box4_st {w : World} {b : Nat} {v0 v1 v2 v3 : Value} (h : Box4 w b v0 v1 v2 v3) (u0 u1 u2 u3 : Value) : Box4 ((((w.setCell ⟨b, 0, none⟩ u0).setCell ⟨b, 1, none⟩ u1).setCell ⟨b, 2, none⟩ u2).setCell ⟨b, 3, none⟩ u3) b u0 u1 u2 u3 :=
  ⟨by simp [go_sem, h.c0], by simp [go_sem, h.c1], by simp [go_sem, h.c2], by simp [go_sem, h.c3]⟩

theorem below_st4 {w w' : World} {B b : Nat} (h : Below B w w') (hb : B ≤ b) (u0 u1 u2 u3 : Value) : Below B w ((((w'.setCell ⟨b, 0, none⟩ u0).setCell ⟨b, 1, none⟩ u1).setCell ⟨b, 2, none⟩ u2).setCell ⟨b, 3, none⟩ u3) :=
  (((h.setCell (p := ⟨b, 0, none⟩) hb u0).setCell (p := ⟨b, 1, none⟩) hb u1).setCell (p := ⟨b, 2, none⟩) hb u2).setCell (p := ⟨b, 3, none⟩) hb u3

theorem box_set0 {w : World} {b : Nat} {v0 v1 v2 : Value} (h : Box w b v0 v1 v2) (u : Value) : Box (w.setCell ⟨b, 0, none⟩ u) b u v1 v2 :=
  ⟨by simp [go_sem, h.c0], by simp [go_sem, h.c1], by simp [go_sem, h.c2], by simp [go_sem, h.f0], by simp [go_sem, h.f1], by simp [go_sem, h.f2]⟩

theorem rd_of_row {B n : Nat} {w : World} {v : Value} {l : List UInt8} (h : w.ownsRow B 5 1 v n (bv l)) (hn : l.length = n) : Rd w v l := by
  subst hn
  rcases h.2 with ⟨e, h0⟩ | ⟨g, cap, cur, e, r⟩
  · exact .inl ⟨e, List.eq_nil_of_length_eq_zero h0⟩
  · exact (Own.of_row h (by rw [e]; simp)).rd

theorem rd_set_far {w : World} {v u : Value} {l : List UInt8} {b : Nat} (h : Rd w v l) (hne : ∀ q, v.ownBlock = some q → q ≠ b) : Rd (w.setCell ⟨b, 0, none⟩ u) v l :=
  rd_keep h (Keeps.setCell (F := fun i => i = b) (Keeps.refl _ _) (p := ⟨b, 0, none⟩) rfl u) (fun q hq => hne q hq)

theorem told_refW {q : Option EnB} {w0 w w' : World} {o : Ending} (h : R8PostW w0 q w w' o) : ∃ (xa ya : Option Addr) (xn xc yn yc : Nat), o = .returned (.tuple #[.agg #[.slice xa xn xc, .int .u64 (fs q), .int .u8 (fk q), .slice ya yn yc], .bool q.isSome]) ∧ Rd w0 (.slice xa xn xc) (fx q) ∧ Rd w0 (.slice ya yn yc) (fy q) ∧ Below w.heap.size w w' := by
  obtain ⟨hb, h⟩ := h
  cases q with
  | none => exact ⟨none, none, 0, 0, 0, 0, h, .inl ⟨rfl, rfl⟩, .inl ⟨rfl, rfl⟩, hb⟩
  | some e =>
    obtain ⟨x, y, rfl, rx, ry⟩ := h
    obtain ⟨xa, xc, rfl⟩ := rx.len
    obtain ⟨ya, yc, rfl⟩ := ry.len
    exact ⟨xa, ya, _, xc, _, yc, rfl, rx, ry, hb⟩

set_option maxRecDepth 100000 in
set_option maxHeartbeats 8000000 in
theorem plays_false (w : World) (a0 : Option Addr) (n0 c0 : Nat) (es : List PtB) (hv : ArgPt w (.slice a0 n0 c0) es) (pa : Option Addr) (pn pc : Nat) (pl : List KyT) (hpl : ArgKs w (.slice pa pn pc) pl) :
    Calls Try.prog 3 #[.bool false, .slice a0 n0 c0, .slice pa pn pc] w fun e w' => e = .returned (.bool true) ∧ Below w.heap.size w w' := by
  obtain ⟨k0i, hki, hkz0, hkz1, hkz2⟩ := info_parts infoKyT
  obtain ⟨i5, hi5, hv0, hv1, hv2⟩ := info_parts info5
  have HV : Hid (ArgPt w (.slice a0 n0 c0) es) := hv
  have HPA : Hid (ArgKs w (.slice pa pn pc) pl) := hpl
  clear hv hpl
  go_enter Try.func3, Try.ntmps3
  go_wp2_with fail
  refine (skawake_any w).mono ?_
  rintro e w1 ⟨rfl, hb1⟩
  have HB1 : Hid (Below w.heap.size w w1) := hb1
  clear hb1
  go_wp2_with fail
  refine (sknew_any w1).mono ?_
  rintro e w2 ⟨rfl, hS2, hb2⟩
  have HB2 : Hid (Below w.heap.size w w2) := bsplit HB1.out hb2
  have HS2 : Hid (SkAt w2 w1.heap.size []) := hS2
  obtain ⟨l, hl⟩ : ∃ l, w1.heap.size = l := ⟨_, rfl⟩
  have HLW : Hid (w.heap.size ≤ l) := by show _ ≤ _; rw [← hl]; exact HB1.out.size
  have HL2 : Hid (l < w2.heap.size) := by
    show _ < _
    have h9 := (hS2.nod 0 (Nat.zero_le _)).lt
    rw [← hl]
    exact h9
  rw [hl] at HS2 ⊢
  have hb3 := below_box4 w2 (.cells #[.slice none 0 0, .slice none 0 0] 31)
  have hrn := RefAt.new w2 31 (by decide)
  have HB3 : Hid (Below w.heap.size w (w2.alloc (.cells #[.slice none 0 0, .slice none 0 0] 31))) := bsplit HB2.out hb3
  have HRN : Hid (RefAt (fun i => i = w2.heap.size) (w2.alloc (.cells #[.slice none 0 0, .slice none 0 0] 31)) w2.heap.size [] []) := hrn
  have HS3 : Hid (SkAt (w2.alloc (.cells #[.slice none 0 0, .slice none 0 0] 31)) l []) := SkAt.below HS2.out hb3
  have HZ3 : Hid ((w2.alloc (.cells #[.slice none 0 0, .slice none 0 0] 31)).heap.size = w2.heap.size + 1) := by show _ = _; simp
  clear hl hS2 hb2 hb3 hrn
  go_wp2_with fail
  refine (fewP_any _ _ es (argPt_below HV.out HB3.out (Nat.le_refl _))).mono ?_
  rintro e wf ⟨fv, rfl, hO, hbf⟩
  rw [HZ3.out] at hO
  obtain ⟨xb, hxb⟩ : ∃ x, w2.heap.size = x := ⟨_, rfl⟩
  have HXB : Hid (l < xb ∧ xb < wf.heap.size ∧ w.heap.size ≤ l ∧ w.heap.size ≤ xb) := by
    have h9 := hbf.size
    rw [HZ3.out] at h9
    have h8 := HL2.out
    have h7 := HLW.out
    exact ⟨by omega, by omega, h7, by omega⟩
  rw [hxb] at HRN hO ⊢
  have HOF : Hid (OwnPt (xb + 1) wf fv (fewP es)) := hO
  have HBF : Hid (Below w.heap.size w wf) := bsplit HB3.out hbf
  have HP0 : Hid (PlI wf l xb 0 wf [] (fun i => i = xb)) := ⟨SkAt.below HS3.out hbf, fun t ht => by simp at ht, Nat.le_refl _, fun t ht => by simp at ht, RefAt.below HRN.out hbf, fun i hi => ⟨by rw [hi]; exact HXB.out.2.1, .inl hi⟩, fun i hi t ht => by simp at ht, Keeps.refl _ _⟩
  obtain ⟨fa, fc, hfv, h1, h2, _⟩ := hO.rd
  subst hfv
  obtain ⟨ps, hps⟩ : ∃ ps, fewP es = ps := ⟨_, rfl⟩
  have HSH : Hid (∀ p ∈ ps, p.1.1.length ≤ 80 ∧ p.1.2.2.2.length ≤ 600) := by intro p hp; rw [← hps] at hp; exact fewP_short p hp
  have hp60 : ps.length ≤ 60 := by rw [← hps]; exact fewP_len es
  rw [hps] at HOF h1 ⊢
  obtain ⟨N, hN⟩ : ∃ N, ps.length = N := ⟨_, rfl⟩
  have HN : Hid (ps.length = N) := hN
  rw [hN] at h1 hp60 ⊢
  unfold maxLen at h2
  have HN60 : Hid (N ≤ 60) := hp60
  clear hO hbf hps hN hp60 hxb HB3 HRN HS3 HZ3 HS2 HB2 HL2
  go_wp2_with fail
  go_loopg [40] N (fun gk iv wr => ∃ (j : Nat) (ts : List Tow) (G : Nat → Prop), gk + j = N ∧ iv = .int .i64 (j : Int) ∧ Hid (PlI wf l xb j wr ts G))
  case atStart => exact ⟨0, [], fun i => i = xb, by omega, rfl, HP0⟩
  case round =>
    obtain ⟨j, ts, G, hj, rfl, HP⟩ := hrel
    by_cases hlt : j < N
    · have hlt2 : j < ps.length := by rw [HN.out]; exact hlt
      have hXB := HXB.out
      obtain ⟨Gk, hGk⟩ : ∃ Gk, Gk = gk := ⟨_, rfl⟩
      subst hGk
      obtain ⟨q1, q2⟩ : Gk - 1 < Gk ∧ Gk - 1 + (j + 1) = N := by omega
      have hOr := HOF.out.keeps HP.out.kp (fun i hi => by rcases hi with h | h | h <;> omega)
      obtain ⟨_, _, e, _, _, h3⟩ := hOr.rd
      cases e
      obtain ⟨b, off, rfl, xv, yv, d0, d1, d2, d3, d4, rx, ry⟩ := h3 j hlt2
      obtain ⟨x1, x2, ex⟩ := rx.len
      obtain ⟨y1, y2, ey⟩ := ry.len
      subst ex ey
      have hsh := HSH.out _ (List.getElem_mem hlt2)
      obtain ⟨⟨E, oh⟩, ho⟩ : ∃ o, ps[j] = o := ⟨_, rfl⟩
      rw [ho] at d0 d1 d2 d3 d4 rx ry hsh
      simp only at d0 d1 d2 d3 d4 rx ry hsh
      obtain ⟨kk, hkk⟩ : ∃ kk, E.2.2.1.toNat = kk := ⟨_, rfl⟩
      obtain ⟨ks, hks⟩ : ∃ ks, E.2.1 = ks := ⟨_, rfl⟩
      obtain ⟨nl, hnl⟩ : ∃ nl, E.1.length = nl := ⟨_, rfl⟩
      obtain ⟨vl, hvl⟩ : ∃ vl, E.2.2.2.length = vl := ⟨_, rfl⟩
      have HE : Hid ((E.1.length = nl ∧ E.2.2.2.length = vl) ∧ E.2.1 = ks ∧ E.2.2.1.toNat = kk) := ⟨⟨hnl, hvl⟩, hks, hkk⟩
      rw [hnl] at d0 rx
      rw [hks] at d1
      rw [hkk] at d2
      rw [hvl] at d3 ry
      have HEL : Hid (E.1.length ≤ 80 ∧ E.2.2.2.length ≤ 600) := hsh
      -- what p holds is read wherever the row is
      have HRD : Hid (∀ V, Keeps (fun i => i = l ∨ i = xb ∨ wf.heap.size ≤ i) wf V → Rd V (.slice x1 nl x2) E.1 ∧ Rd V (.slice y1 vl y2) E.2.2.2) := fun V hV => by
        obtain ⟨_, _, e9, _, _, h9⟩ := (HOF.out.keeps hV (fun i hi => by rcases hi with h | h | h <;> omega)).rd
        cases e9
        obtain ⟨b9, off9, e8, xw, yw, v0, v1, v2, v3, v4, r0, r1⟩ := h9 j hlt2
        cases e8
        obtain ⟨_, _, e7, _, _, h8⟩ := HOF.out.rd
        cases e7
        obtain ⟨b7, off7, e6, xu, yu, u0, u1, u2, u3, u4, _, _⟩ := h8 j hlt2
        cases e6
        have hbb : ¬ (b = l ∨ b = xb ∨ wf.heap.size ≤ b) := by
          obtain ⟨csp, hrp, _⟩ := HOF.out
          have h5 := hrp.lt b rfl
          omega
        have k0 := HP.out.kp.cell (p := ⟨b, off + j * 5, none⟩) hbb u0
        have k3 := HP.out.kp.cell (p := ⟨b, off + j * 5 + 3, none⟩) hbb u3
        have l0 := hV.cell (p := ⟨b, off + j * 5, none⟩) hbb u0
        have l3 := hV.cell (p := ⟨b, off + j * 5 + 3, none⟩) hbb u3
        rw [d0] at k0
        rw [d3] at k3
        rw [v0] at l0
        rw [v3] at l3
        rw [ho] at r0 r1
        have e1 : xw = .slice x1 nl x2 := by rw [Option.some.inj l0, ← Option.some.inj k0]
        have e3 : yw = .slice y1 vl y2 := by rw [Option.some.inj l3, ← Option.some.inj k3]
        rw [e1] at r0
        rw [e3] at r1
        exact ⟨r0, r1⟩
      have hb0 := below_box4 wr (.cells #[.slice x1 nl x2, .int .u64 (ks : Int), .int .u8 (kk : Int), .slice y1 vl y2, .int .i64 oh] 40)
      have bx0 := box5_new wr (.slice x1 nl x2) (.int .u64 (ks : Int)) (.int .u8 (kk : Int)) (.slice y1 vl y2) (.int .i64 oh) 40
      have htw := twin_own (wr.alloc (.cells #[.slice x1 nl x2, .int .u64 (ks : Int), .int .u8 (kk : Int), .slice y1 vl y2, .int .i64 oh] 40)) _ _ E.1 E.2.2.2 (ks : Int) (kk : Int) (rx.below hb0 (Nat.le_refl _)).arg (ry.below hb0 (Nat.le_refl _)).arg (by omega) (by omega)
      simp only [enV] at htw
      have HB0 : Hid (Below wr.heap.size wr (wr.alloc (.cells #[.slice x1 nl x2, .int .u64 (ks : Int), .int .u8 (kk : Int), .slice y1 vl y2, .int .i64 oh] 40))) := hb0
      have HX0 : Hid (Box5 (wr.alloc (.cells #[.slice x1 nl x2, .int .u64 (ks : Int), .int .u8 (kk : Int), .slice y1 vl y2, .int .i64 oh] 40)) wr.heap.size (.slice x1 nl x2) (.int .u64 (ks : Int)) (.int .u8 (kk : Int)) (.slice y1 vl y2) (.int .i64 oh)) := bx0
      have HZ0 : Hid ((wr.alloc (.cells #[.slice x1 nl x2, .int .u64 (ks : Int), .int .u8 (kk : Int), .slice y1 vl y2, .int .i64 oh] 40)).heap.size = wr.heap.size + 1) := by show _ = _; simp
      obtain ⟨z0, z1, z2, z3, z4⟩ := bx0
      clear ho h3 hOr rx ry hsh hnl hks hkk hvl hb0 hj
      go_wp2_with fail
      refine htw.mono ?_
      rintro o2 v2 ⟨x5, y5, rfl, ox, oy, hb5⟩
      obtain ⟨tx, tc, ex⟩ := ox.rd.len
      obtain ⟨ty, td, ey⟩ := oy.rd.len
      rw [HE.out.1.1] at ex
      rw [HE.out.1.2] at ey
      subst ex ey
      have hb6 := below_box4 v2 (.cells #[.slice tx nl tc, .int .u64 (ks : Int), .int .u8 (kk : Int), .slice ty vl td] 38)
      have HBW : Hid (Below wr.heap.size wr (v2.alloc (.cells #[.slice tx nl tc, .int .u64 (ks : Int), .int .u8 (kk : Int), .slice ty vl td] 38))) := bsplit (bsplit HB0.out hb5) hb6
      have HM3 : Hid (Bx4 (v2.alloc (.cells #[.slice tx nl tc, .int .u64 (ks : Int), .int .u8 (kk : Int), .slice ty vl td] 38)) v2.heap.size (.slice tx nl tc) (.int .u64 (ks : Int)) (.int .u8 (kk : Int)) (.slice ty vl td)) := bx4_new v2 _ _ _ _ 38 (by decide)
      have HX3 : Hid (Box5 (v2.alloc (.cells #[.slice tx nl tc, .int .u64 (ks : Int), .int .u8 (kk : Int), .slice ty vl td] 38)) wr.heap.size (.slice x1 nl x2) (.int .u64 (ks : Int)) (.int .u8 (kk : Int)) (.slice y1 vl y2) (.int .i64 oh)) := (HX0.out.below hb5 (Nat.le_refl _)).below hb6 (Nat.le_refl _)
      have HOX : Hid (OwnN (wr.heap.size + 3) (v2.alloc (.cells #[.slice tx nl tc, .int .u64 (ks : Int), .int .u8 (kk : Int), .slice ty vl td] 38)) (.slice tx nl tc) E.1 ∧ OwnN (wr.heap.size + 3) (v2.alloc (.cells #[.slice tx nl tc, .int .u64 (ks : Int), .int .u8 (kk : Int), .slice ty vl td] 38)) (.slice ty vl td) E.2.2.2) := by
        rw [HZ0.out] at ox oy
        exact ⟨ox.below hb6 (Nat.le_refl _), oy.below hb6 (Nat.le_refl _)⟩
      obtain ⟨W3, hW3⟩ : ∃ W3, v2.alloc (.cells #[.slice tx nl tc, .int .u64 (ks : Int), .int .u8 (kk : Int), .slice ty vl td] 38) = W3 := ⟨_, rfl⟩
      obtain ⟨bm, hbm⟩ : ∃ bm, v2.heap.size = bm := ⟨_, rfl⟩
      have HBM : Hid (wr.heap.size ≤ bm ∧ bm < W3.heap.size ∧ wr.heap.size < W3.heap.size) := by
        have h9 := hb5.size
        rw [HZ0.out] at h9
        have h8 : W3.heap.size = v2.heap.size + 1 := by rw [← hW3]; simp
        exact ⟨by omega, by omega, by omega⟩
      rw [hW3] at HBW HM3 HX3 HOX
      rw [hbm] at HM3
      have hPW := HP.out.below HBW.out
      have hcn := HP.out.cnt
      have hn9 := HN60.out
      have hin := skinsert_own W3 l ts (.slice tx nl tc) (.slice ty vl td) E oh hPW.sk HOX.out.1.rd HOX.out.2.rd (by have := HEL.out; omega) (by have := HEL.out; omega) (by omega)
      rw [HE.out.2.1, HE.out.2.2] at hin
      simp only [enV] at hin
      obtain ⟨m0, m1, m2, m3⟩ := HM3.out.box
      obtain ⟨k0, k1, k2, k3, k4⟩ := HX3.out
      clear htw ox oy hb5 hb6 z0 z1 z2 z3 z4 hPW hcn hn9
      go_wp2_with fail
      clear hW3 hbm
      refine hin.mono ?_
      rintro o4 w4 hp4
      have hmid := HP.out.mid hXB.1 hXB.2.1 HBW.out hp4
      obtain ⟨hR4, hG4, kp4⟩ := hmid
      have HP4 : Hid (InsPost2 l ts E oh W3 w4 o4) := hp4
      have KF4 : Hid (Keeps (fun i => i = l ∨ i = xb ∨ wf.heap.size ≤ i) wf w4) := kpMap (HP.out.below HBW.out).kp (kp4.mono (fun i hi => by
        rcases hi with h | h
        · exact .inl h
        · exact .inr (.inr h))) (fun t ht => (HP.out.tow t ht).1)
      have hns : ∀ i, wr.heap.size ≤ i → i < W3.heap.size → ¬ (i = l ∨ ∃ t ∈ ts, i = t.b) := fun i h1 h2 h3 => by
        have hkz := HP.out.kp.size
        rcases h3 with h3 | ⟨t, ht, h3⟩
        · omega
        · obtain ⟨a9, ha9, rfl⟩ := List.getElem_of_mem ht
          have h9 := (HP.out.sk.nod (a9 + 1) (by omega)).lt
          rw [nb_succ l ha9] at h9
          omega
      have HNS : Hid (∀ i, wr.heap.size ≤ i → i < W3.heap.size → ¬ (i = l ∨ ∃ t ∈ ts, i = t.b)) := hns
      obtain ⟨c4', hc4⟩ : ∃ c, o4 = .returned (.int .i64 c) := by
        rcases hp4 with ⟨_, h, _⟩ | ⟨_, _, h, _⟩ | ⟨_, _, h, _⟩ <;> exact ⟨_, h⟩
      subst hc4
      have hX4 := HX3.out.keeps kp4 (hns _ (Nat.le_refl _) HBM.out.2.2)
      have hri := r8insert_any w4 G xb (esT ts) (htT ts) (.slice x1 nl x2) (.slice y1 vl y2) E oh hR4 hG4 (HRD.out w4 KF4.out).1 (HRD.out w4 KF4.out).2 (by have := HEL.out; omega) (by have := HEL.out; omega) (by rw [esT_len]; have := HP.out.cnt; have := HN60.out; omega)
      rw [HE.out.2.1, HE.out.2.2] at hri
      simp only [enV] at hri
      obtain ⟨n0', n1', n2', n3', n4'⟩ := hX4
      clear hin hp4 hR4 hG4 kp4 hns m0 m1 m2 m3 k0 k1 k2 k3 k4 d0 d1 d2 d3 d4
      go_wp2_with fail
      refine hri.mono ?_
      rintro o5 w5 hr5
      obtain ⟨c5, ts', G', e4, e5, hP5, hoff, K5⟩ := HP.out.ins hXB.1 hXB.2.1 (by have := HN60.out; omega) HEL.out HBW.out HP4.out hr5
      cases e4
      subst e5
      have hne5 : ∀ i, wr.heap.size ≤ i → i < W3.heap.size → ¬ (i = l ∨ i = xb ∨ ∃ t ∈ ts, i = t.b) := fun i h1 h2 h3 => by
        rcases h3 with h3 | h3 | h3
        · exact HNS.out i h1 h2 (.inl h3)
        · have hkz := HP.out.kp.size
          omega
        · exact HNS.out i h1 h2 (.inr h3)
      have hX5 := HX3.out.keeps K5 (hne5 _ (Nat.le_refl _) HBM.out.2.2)
      have hM5 := HM3.out.keeps K5 (hne5 _ HBM.out.1 HBM.out.2.1)
      have hown : ∀ x q, OwnN (wr.heap.size + 3) W3 x q → ∀ i, x.ownBlock = some i → wr.heap.size ≤ i ∧ i < W3.heap.size := fun x q h i hi => by have := ownN_blk h i hi; omega
      have hsx5 := someM_keeps (someM_of HOX.out.1) K5 (fun q hq => hne5 q (hown _ _ HOX.out.1 q hq).1 (hown _ _ HOX.out.1 q hq).2)
      have hsy5 := someM_keeps (someM_of HOX.out.2) K5 (fun q hq => hne5 q (hown _ _ HOX.out.2 q hq).1 (hown _ _ HOX.out.2 q hq).2)
      have hrx5 := rd_keep HOX.out.1.rd K5 (fun q hq => hne5 q (hown _ _ HOX.out.1 q hq).1 (hown _ _ HOX.out.1 q hq).2)
      have hry5 := rd_keep HOX.out.2.rd K5 (fun q hq => hne5 q (hown _ _ HOX.out.2 q hq).1 (hown _ _ HOX.out.2 q hq).2)
      have KF5 : Keeps (fun i => i = l ∨ i = xb ∨ wf.heap.size ≤ i) wf w5 := hP5.kp
      have hsm := sameen_any w5 (.slice tx nl tc) (.slice ty vl td) (.slice x1 nl x2) (.slice y1 vl y2) E.1 E.2.2.2 E.1 E.2.2.2 (ks : Int) (kk : Int) (ks : Int) (kk : Int) true hrx5 hry5 (HRD.out w5 KF5).1 (HRD.out w5 KF5).2 (by simp)
      have HP5 : Hid (PlI wf l xb (j + 1) w5 ts' G') := hP5
      have HOFF : Hid (∀ i, wr.heap.size ≤ i → i < W3.heap.size → ¬ G' i ∧ ∀ t ∈ ts', OffT t i) := hoff
      have HM5 : Hid (Bx4 w5 bm (.slice tx nl tc) (.int .u64 (ks : Int)) (.int .u8 (kk : Int)) (.slice ty vl td)) := hM5
      have HSX5 : Hid (SomeM (wr.heap.size + 3) w5 (.slice tx nl tc)) := hsx5
      have HSY5 : Hid (SomeM (wr.heap.size + 3) w5 (.slice ty vl td)) := hsy5
      have HQX : Hid (∀ q, (Value.slice tx nl tc).ownBlock = some q → q < W3.heap.size) := fun q hq => (hown _ _ HOX.out.1 q hq).2
      have HQY : Hid (∀ q, (Value.slice ty vl td).ownBlock = some q → q < W3.heap.size) := fun q hq => (hown _ _ HOX.out.2 q hq).2
      have hnl9 : nl ≤ 80 := by rw [← HE.out.1.1]; exact HEL.out.1
      have hvl9 : vl ≤ 600 := by rw [← HE.out.1.2]; exact HEL.out.2
      obtain ⟨m0, m1, m2, m3⟩ := hM5.box
      obtain ⟨k0, k1, k2, k3, k4⟩ := hX5
      clear hri hr5 hP5 hoff K5 hne5 hown hsx5 hsy5 hrx5 hry5 KF5 hM5 n0' n1' n2' n3' n4' HP4 KF4 HNS
      go_wp2_with fail
      refine hsm.mono ?_
      rintro o6 w6 ⟨rfl, hb6⟩
      have HP6 : Hid (PlI wf l xb (j + 1) w6 ts' G') := HP5.out.below hb6
      have HM6 : Hid (Bx4 w6 bm (.slice tx nl tc) (.int .u64 (ks : Int)) (.int .u8 (kk : Int)) (.slice ty vl td)) := HM5.out.below hb6
      have HSX6 : Hid (SomeM (wr.heap.size + 3) w6 (.slice tx nl tc)) := HSX5.out.below hb6
      have HSY6 : Hid (SomeM (wr.heap.size + 3) w6 (.slice ty vl td)) := HSY5.out.below hb6
      obtain ⟨A, hA⟩ : ∃ A, wr.heap.size = A := ⟨_, rfl⟩
      obtain ⟨Z, hZ⟩ : ∃ Z, W3.heap.size = Z := ⟨_, rfl⟩
      have HAW : Hid (wf.heap.size ≤ A) := by show _ ≤ _; rw [← hA]; exact HP.out.kp.size
      rw [hA] at HSX6 HSY6 HOFF HBM
      rw [hZ] at HOFF HQX HQY HBM
      clear hsm hb6 m0 m1 m2 m3 k0 k1 k2 k3 k4 HP5 HM5 HSX5 HSY5
      obtain ⟨m0, m1, m2, m3⟩ := HM6.out.box
      go_wp2_with fail
      clear m0 m1 m2 m3
      go_loopg [70] vl (fun gk iv wr => ∃ i : Nat, gk + i = vl ∧ iv = .int .i64 (i : Int) ∧ Hid (Keeps (fun i => A ≤ i ∧ i < Z) w6 wr) ∧ Hid (Bx4 wr bm (.slice tx nl tc) (.int .u64 (ks : Int)) (.int .u8 (kk : Int)) (.slice ty vl td)) ∧ Hid (SomeM (A + 3) wr (.slice tx nl tc)) ∧ Hid (SomeM (A + 3) wr (.slice ty vl td)))
      case atStart => exact ⟨0, by omega, rfl, Keeps.refl _ _, HM6, HSX6, HSY6⟩
      case round =>
        clear HM6 HSX6 HSY6
        obtain ⟨i, hi, rfl, HK, HM, HSX, HSY⟩ := hrel
        by_cases hlt3 : i < vl
        · obtain ⟨p1, p2⟩ : gk - 1 < gk ∧ gk - 1 + (i + 1) = vl := by omega
          rcases HSY.out with h | ⟨gx, n, c', e, hu, h1', h2', h3'⟩
          · cases h
            omega
          · cases e
            unfold maxLen at h2'
            have hgz := HQY.out gx rfl
            obtain ⟨bb, hcx, hfx⟩ := u8_cell hu i hlt3
            have hxb := bb.toNat_lt
            have hx1 := xor_one bb
            have HQ1 : Hid (Keeps (fun i => A ≤ i ∧ i < Z) w6 _) := Keeps.setCell (F := fun i => A ≤ i ∧ i < Z) HK.out (p := ⟨gx, i, none⟩) ⟨by show A ≤ gx; omega, hgz⟩ (.int .u8 ((bb ^^^ 1).toNat : Int))
            have HQ2 : Hid (Bx4 _ _ _ _ _ _) := HM.out.set (u := .int .u8 ((bb ^^^ 1).toNat : Int)) hu i
            have HQ3 : Hid (SomeM _ _ _) := HSX.out.set gx i (bb ^^^ 1)
            have HQ4 : Hid (SomeM _ _ _) := HSY.out.set gx i (bb ^^^ 1)
            obtain ⟨f0, f1, f2, f3⟩ := HM.out.box
            clear HK HM HSX HSY hu hi
            go_wp2
            go_roundg (gk - 1)
            case measure => exact p1
            case rel => exact ⟨i + 1, p2, by go_num, HQ1, HQ2, HQ3, HQ4⟩
        · obtain ⟨f0, f1, f2, f3⟩ := HM.out.box
          clear hi HSY
          go_wp2_with fail
          clear f0 f1 f2 f3
          go_loopg [85] nl (fun gk iv wr => ∃ i : Nat, gk + i = nl ∧ iv = .int .i64 (i : Int) ∧ Hid (Keeps (fun i => A ≤ i ∧ i < Z) w6 wr) ∧ Hid (Bx4 wr bm (.slice tx nl tc) (.int .u64 (ks : Int)) (.int .u8 (kk : Int)) (.slice ty vl td)) ∧ Hid (SomeM (A + 3) wr (.slice tx nl tc)))
          case atStart => exact ⟨0, by omega, rfl, HK, HM, HSX⟩
          case round =>
            clear HK HM HSX
            obtain ⟨i', hi, rfl, HK, HM, HSX⟩ := hrel
            by_cases hlt4 : i' < nl
            · obtain ⟨p1, p2⟩ : gk - 1 < gk ∧ gk - 1 + (i' + 1) = nl := by omega
              rcases HSX.out with h | ⟨gx, n, c', e, hu, h1', h2', h3'⟩
              · cases h
                omega
              · cases e
                unfold maxLen at h2'
                have hgz := HQX.out gx rfl
                obtain ⟨bb, hcx, hfx⟩ := u8_cell hu i' hlt4
                have hxb := bb.toNat_lt
                have hx1 := xor_one bb
                have HQ1 : Hid (Keeps (fun i => A ≤ i ∧ i < Z) w6 _) := Keeps.setCell (F := fun i => A ≤ i ∧ i < Z) HK.out (p := ⟨gx, i', none⟩) ⟨by show A ≤ gx; omega, hgz⟩ (.int .u8 ((bb ^^^ 1).toNat : Int))
                have HQ2 : Hid (Bx4 _ _ _ _ _ _) := HM.out.set (u := .int .u8 ((bb ^^^ 1).toNat : Int)) hu i'
                have HQ3 : Hid (SomeM _ _ _) := HSX.out.set gx i' (bb ^^^ 1)
                obtain ⟨f0, f1, f2, f3⟩ := HM.out.box
                clear HK HM HSX hu hi
                go_wp2
                go_roundg (gk - 1)
                case measure => exact p1
                case rel => exact ⟨i' + 1, p2, by go_num, HQ1, HQ2, HQ3⟩
            · have HPF : Hid (PlI wf l xb (j + 1) wr ts' G') := HP6.out.flip HK.out HAW.out (by omega) HOFF.out
              clear hi HM HSX
              go_wp2
              go_roundg (Gk - 1)
              case measure => exact q1
              case rel => exact ⟨j + 1, ts', G', q2, by go_num, HPF⟩
    · obtain ⟨wT, hwT⟩ : ∃ wT, wT = wr := ⟨_, rfl⟩
      subst hwT
      obtain ⟨va, vb, X0, X1, hRL, hRH⟩ := HP.out.rf.row
      obtain ⟨csL, hrL, _⟩ := hRL.2
      obtain ⟨la, lc, hva, g1, g2, _⟩ := rowAny_shape hrL
      obtain ⟨ha, hc, hvb, g3, g4, _⟩ := rowAny_shape hRH.2
      subst hva hvb
      have HRL : Hid (RdE wT (.slice la (esT ts).length lc) (esT ts)) := hRL.rd
      have HT : Hid (Tells wT (some ⟨l, 0, none⟩) ts) := tells_sk HP.out.sk HP.out.len
      obtain ⟨n, hn⟩ : ∃ n, ts.length = n := ⟨_, rfl⟩
      have HTS : Hid ((∀ t ∈ ts, 1 ≤ t.h ∧ t.h ≤ 8) ∧ riseB (esT ts) = true ∧ ts.length = n ∧ n ≤ 1000 ∧ LenT ts 1000) := ⟨HP.out.sk.ht, HP.out.sk.ris, hn, by rw [← hn]; exact HP.out.sk.len, HP.out.len⟩
      have HSML : Hid (∀ e ∈ esT ts, e.1.length ≤ 1000 ∧ e.2.2.2.length ≤ 1000) := fun e he => by
        unfold esT at he
        obtain ⟨t, ht, rfl⟩ := List.mem_map.1 he
        exact HP.out.len t ht
      have hhl : (htT ts).length = n := by unfold htT; rw [List.length_map]; exact hn
      rw [esT_len, hn] at X0 g1
      rw [hhl] at X1 g3
      have HRH : Hid (wT.ownsRow 0 3 1 (.slice ha n hc) n (zv (htT ts))) := by
        have h9 := hRH.2
        rw [hhl] at h9
        exact h9
      have HWT : Hid (Below w.heap.size w wT) := HP.out.be HBF.out HXB.out.2.2.1 HXB.out.2.2.2
      clear hRL hRH hrL hn hhl hj h1 h2 HOF HP0 HSH HN HN60 HB1
      have HR0 : Hid (RdE wT (.slice la (esT ts).length lc) (esT ts)) := HRL
      have HSE : Hid (sizL (esT ts) = sizT ts) := rfl
      have hET : (esT ts).length = n := by rw [esT_len]; exact HTS.out.2.2.1
      have HET : Hid ((esT ts).length = n) := hET
      have hn9 : n ≤ 1000 := HTS.out.2.2.2.1
      clear hET
      go_wp2_with fail
      have pT0 : Below wT.heap.size wT wT.drew := (Below.refl _ _).drew
      have hXc : ∀ W, Below wT.heap.size wT W → W.cell? ⟨xb, 0, none⟩ = some (.slice la n lc) := fun W hW => (hW.cell (p := ⟨xb, 0, none⟩) (World.block_lt_of_cell? _ _ X0)).trans X0
      have HXC : Hid (∀ W, Below wT.heap.size wT W → W.cell? ⟨xb, 0, none⟩ = some (.slice la n lc)) := hXc
      have HHC : Hid (∀ W, Below wT.heap.size wT W → W.cell? ⟨xb, 1, none⟩ = some (.slice ha n hc)) := fun W hW => (hW.cell (p := ⟨xb, 1, none⟩) (World.block_lt_of_cell? _ _ X1)).trans X1
      clear hXc
      go_region_held3 (fun w' => w'.cell? ⟨xb, 0, none⟩ = some (.slice la n lc))
        (first | exact HXC.out _ p5 | exact HXC.out _ p4 | exact HXC.out _ p3 | exact HXC.out _ p2 | exact HXC.out _ p1 | exact HXC.out _ pT0)
        (first
          | (go_at_call 17; refine (HT.out.all _ pT0).mono ?_; rintro o1 a1 ⟨v1, rfl, r1, b1⟩; have p1 : Below wT.heap.size wT a1 := bsplit pT0 b1; have hR1 := r1; obtain ⟨va1, vc1, hv1, _⟩ := r1; subst hv1; have hsm := sameens_any a1 _ (.slice la (esT ts).length lc) (esT ts) (esT ts) true hR1 (rdE_below HR0.out p1 (Nat.le_refl _)) (by simp); rw [HET.out] at hsm ⊢; clear hR1 b1)
          | (go_at_call 16; refine hsm.mono ?_; rintro o2 a2 ⟨rfl, b2⟩; have p2 : Below wT.heap.size wT a2 := bsplit p1 b2; have hln := HT.out.len a2 p2; rw [HTS.out.2.2.1] at hln; clear hsm b2)
          | (go_at_call 18; refine hln.mono ?_; rintro o3 a3 ⟨rfl, b3⟩; have p3 : Below wT.heap.size wT a3 := bsplit p2 b3; clear hln b3)
          | (go_at_call 19; refine (HT.out.siz a3 p3).mono ?_; rintro o4 a4 ⟨rfl, b4⟩; have p4 : Below wT.heap.size wT a4 := bsplit p3 b4; have hrs := r8size_any a4 (.slice la (esT ts).length lc) (esT ts) (rdE_below HR0.out p4 (Nat.le_refl _)) (by rw [HET.out]; exact hn9) HSML.out; rw [HET.out, HSE.out] at hrs; clear b4)
          | (go_at_call 20; refine hrs.mono ?_; rintro o5 a5 ⟨rfl, b5⟩; have p5 : Below wT.heap.size wT a5 := bsplit p4 b5; clear hrs b5)
          | fail)
      have P5 : Hid (Below wT.heap.size wT a5) := p5
      clear pT0 p1 p2 p3 p4 p5
      go_wp2_with fail
      go_loopg [15] 12 (fun gk zv0 wr => ∃ (d : Nat) (z : Int), gk + d = 12 ∧ zv0 = .int .i64 z ∧ -1 ≤ z ∧ z ≤ 11 ∧ Hid (z = (d : Int) - 1) ∧ Hid (Below wT.heap.size wT wr))
      case atStart => exact ⟨0, -1, by omega, rfl, by omega, by omega, by show _ = _; omega, P5⟩
      case round =>
        obtain ⟨d, z, hgd, rfl, hz0, hz1, HZ, HBZ⟩ := hrel
        by_cases hz10 : z ≤ 10
        · obtain ⟨Gd, hGd⟩ : ∃ G, G = gk := ⟨_, rfl⟩
          subst hGd
          obtain ⟨qa, qb⟩ : Gd - 1 < Gd ∧ Gd - 1 + (d + 1) = 12 := by have := HZ.out; omega
          have c0x := HXC.out _ HBZ.out
          clear hgd
          go_wp2_with fail
          clear c0x
          go_loopg [16, 138] n (fun gk wv iv wr => ∃ (i m c : Nat) (a : Option Addr), gk + i = n ∧ iv = .int .i64 (i : Int) ∧ wv = .slice a m c ∧ m ≤ i ∧ Hid ((wantT ts z i).length = m) ∧ Hid (OnceK wT.heap.size wT wr (.slice a m c) (wantT ts z i)) ∧ Hid (Below wT.heap.size wT wr))
          case atStart => exact ⟨0, 0, 0, none, by omega, rfl, rfl, Nat.le_refl _, by show _ = _; simp [wantT], by show OnceK _ _ _ _ _; rw [show wantT ts z 0 = [] by simp [wantT]]; exact OnceK.nil _ _ _, HBZ⟩
          case round =>
            obtain ⟨i, m, c, a, hgi, rfl, rfl, hmi, HWL, HOK, HBI⟩ := hrel
            by_cases hlti : i < n
            · have l2 : i < (esT ts).length := by rw [HET.out]; exact hlti
              have l3 : i < ts.length := by rw [HTS.out.2.2.1]; exact hlti
              obtain ⟨_, _, e0, _, _, h4⟩ := rdE_below (show RdE wT (.slice la (esT ts).length lc) (esT ts) from HR0.out) HBI.out (Nat.le_refl _)
              cases e0
              obtain ⟨p, o, rfl, xv, yv, e0, e1, e2, e3, rx, ry⟩ := h4 i l2
              obtain ⟨_, _, e9, _, _, h9⟩ := HR0.out
              cases e9
              obtain ⟨p', o', epo, xw, yw, f0, _, _, _, rxf, _⟩ := h9 i l2
              cases epo
              obtain rfl : xw = xv := by
                have h8 := HBI.out.cell (p := ⟨p, o + i * 4, none⟩) (World.block_lt_of_cell? _ _ f0)
                rw [h8, f0] at e0
                exact Option.some.inj e0
              obtain ⟨u1, u2, ex⟩ := rx.len
              obtain ⟨u3, u4, ey⟩ := ry.len
              subst ex ey
              obtain ⟨q3, q4⟩ : gk - 1 < gk ∧ gk - 1 + (i + 1) = n := by omega
              have hwn := want_next (z := z) l3
              have hte : ts[i].e = (esT ts)[i] := (esT_get l3).symm
              rw [hte] at hwn
              obtain ⟨hgt, hhgt⟩ : ∃ h : Int, (ts[i].h : Int) = h := ⟨_, rfl⟩
              rw [hhgt] at hwn
              -- the height
              obtain ⟨hg0, hcel⟩ : ∃ g, ha = some ⟨g, 0, none⟩ ∧ wr.cell? ⟨g, i, none⟩ = some (.int .i64 hgt) := by
                obtain ⟨cs0, hr0⟩ : ∃ x, x = HRH.out := ⟨_, rfl⟩
                have hrr := HRH.out
                rcases hrr.2 with ⟨ev, hn0⟩ | ⟨g, cap, cur, ev, _, hgo, _⟩
                · omega
                · cases ev
                  refine ⟨g, rfl, ?_⟩
                  have h8 := hrr.cells (g := g) rfl i (.int .i64 hgt) (by
                    unfold zv htT
                    rw [List.getElem?_map, List.getElem?_map, List.getElem?_eq_getElem l3]
                    simp [hhgt])
                  rw [Addr.add_lit, Nat.zero_add] at h8
                  exact (HBI.out.cell (p := ⟨g, i, none⟩) (World.block_lt_of_cell? _ _ h8)).trans h8
              obtain ⟨rfl, hcc⟩ := hcel
              obtain ⟨⟨ku, ks, kd, kv⟩, hX⟩ : ∃ o, (esT ts)[i] = o := ⟨_, rfl⟩
              rw [hX] at e0 e1 e2 e3 rx ry rxf hwn
              simp only [kyE] at hwn
              simp only at e0 e1 e2 e3 rx ry rxf
              obtain ⟨m1, hm1⟩ : ∃ nl, ku.length = nl := ⟨_, rfl⟩
              obtain ⟨m2, hm2⟩ : ∃ oln, kv.length = oln := ⟨_, rfl⟩
              obtain ⟨kk, hkk⟩ : ∃ z, kd.toNat = z := ⟨_, rfl⟩
              rw [hm1] at e0 rx rxf
              rw [hm2] at e3
              rw [hkk] at e2
              have HXF : Hid (Rd wT (.slice u1 m1 u2) ku) := rxf
              have HKK : Hid (kd.toNat = kk) := hkk
              have HWN : Hid (wantT ts z (i + 1) = if 1 ≤ z ∧ z ≤ hgt then wantT ts z i ++ [(ku, ks, kd)] else wantT ts z i) := hwn
              have hb5 := below_box4 wr (.cells #[.slice u1 m1 u2, .int .u64 (ks : Int), .int .u8 (kk : Int), .slice u3 m2 u4] 38)
              have HB5 : Hid (Below wT.heap.size wT (wr.alloc (.cells #[.slice u1 m1 u2, .int .u64 (ks : Int), .int .u8 (kk : Int), .slice u3 m2 u4] 38))) := bsplit HBI.out hb5
              obtain ⟨y0, y1', y2', y3⟩ := box4_new wr (.slice u1 m1 u2) (.int .u64 (ks : Int)) (.int .u8 (kk : Int)) (.slice u3 m2 u4) 38
              have HOK5 : Hid (OnceK wT.heap.size wT (wr.alloc (.cells #[.slice u1 m1 u2, .int .u64 (ks : Int), .int .u8 (kk : Int), .slice u3 m2 u4] 38)) (.slice a m c) (wantT ts z i)) := HOK.out.below hb5
              have hc5 := (hb5.cell (p := ⟨hg0, i, none⟩) (World.block_lt_of_cell? _ _ hcc)).trans hcc
              have c1x := HHC.out _ HB5.out
              clear h4 h9 rx ry rxf hX hm1 hm2 hkk hb5 hwn hte hhgt f0 hcc
              by_cases hz1c : 1 ≤ z
              · by_cases hzh : z ≤ hgt
                · obtain ⟨cs, hrow, hel⟩ := HOK5.out
                  rw [HWL.out] at hrow
                  have HEL : Hid (∀ j (h : j < (wantT ts z i).length), ∃ x, cs[j * 3]? = some x ∧ cs[j * 3 + 1]? = some (.int .u64 ((wantT ts z i)[j].2.1 : Int)) ∧ cs[j * 3 + 2]? = some (.int .u8 ((wantT ts z i)[j].2.2.toNat : Int)) ∧ Rd wT x (wantT ts z i)[j].1) := hel
                  have HRW : Hid (cs.length = m * 3) := hrow.1
                  have hrow6 := row_below hrow (below_box4 _ (.cells #[.slice u1 m1 u2, .int .u64 (ks : Int), .int .u8 (kk : Int)] 36))
                  have hlit := laid3 (wr.alloc (.cells #[.slice u1 m1 u2, .int .u64 (ks : Int), .int .u8 (kk : Int), .slice u3 m2 u4] 38)) (.slice u1 m1 u2) (.int .u64 (ks : Int)) (.int .u8 (kk : Int)) 36
                  have hB6 := bsplit HB5.out (below_box4 (wr.alloc (.cells #[.slice u1 m1 u2, .int .u64 (ks : Int), .int .u8 (kk : Int), .slice u3 m2 u4] 38)) (.cells #[.slice u1 m1 u2, .int .u64 (ks : Int), .int .u8 (kk : Int)] 36))
                  have hse := hB6.size
                  have HB6 : Hid (Below wT.heap.size wT _) := hB6
                  simp only [World.size_alloc] at hlit
                  have HMI : Hid (m ≤ 1000) := by show _ ≤ _; omega
                  clear hel hrow hB6
                  go_wp2_with (first
                    | (at_builtin; refine wpList_append_lies _ rfl (.tmp 156) (.tmp 159) 23 rfl wT.heap.size 36 k0i (.agg #[.slice none 0 0, .int .u64 0, .int .u8 0]) 3 40 Try.underlying23 hki hkz0 hkz1 hkz2 rfl (by decide) (.slice a m c) m cs rfl hrow6 ⟨wr.heap.size + 1, 0, none⟩ 1 1 [.slice u1 m1 u2, .int .u64 (ks : Int), .int .u8 (kk : Int)] rfl rfl hlit (one3 _ _ _ _ _) (by decide) (by have := HMI.out; simp only [maxLen]; omega) (by have := HMI.out; omega) hse _ rfl ?_; intro g4 c4 w4 hown hgrow hat hlt4; rw [← HKK.out] at hown; have HP9 : Hid (OnceK wT.heap.size wT w4 (.slice (some ⟨g4, 0, none⟩) (m + 1) c4) (wantT ts z i ++ [(ku, ks, kd)])) := OnceK.push (ku, ks, kd) HWL.out HRW.out HEL.out HXF.out hown; have HB9 : Hid (Below wT.heap.size wT w4) := HB6.out.grown hgrow HB6.out.size (fun k' e => (hrow6.lt k' e).1); clear hown hgrow hat hlt4)
                    | fail)
                  clear hrow6 hlit hse
                  have HWE : Hid (wantT ts z (i + 1) = wantT ts z i ++ [(ku, ks, kd)]) := by show _ = _; rw [HWN.out, if_pos ⟨hz1c, hzh⟩]
                  go_roundg (gk - 1)
                  case measure => exact q3
                  case rel => exact ⟨i + 1, m + 1, c4, _, q4, by go_num, rfl, by omega, by show _ = _; rw [HWE.out, List.length_append, HWL.out]; rfl, by show OnceK _ _ _ _ _; rw [HWE.out]; exact HP9.out, HB9⟩
                · have HWE : Hid (wantT ts z (i + 1) = wantT ts z i) := by show _ = _; rw [HWN.out, if_neg (fun h => hzh h.2)]
                  go_wp2
                  go_roundg (gk - 1)
                  case measure => exact q3
                  case rel => exact ⟨i + 1, m, c, a, q4, by go_num, rfl, by omega, by show _ = _; rw [HWE.out]; exact HWL.out, by show OnceK _ _ _ _ _; rw [HWE.out]; exact HOK5.out, HB5⟩
              · have HWE : Hid (wantT ts z (i + 1) = wantT ts z i) := by show _ = _; rw [HWN.out, if_neg (fun h => hz1c h.1)]
                go_wp2
                go_roundg (gk - 1)
                case measure => exact q3
                case rel => exact ⟨i + 1, m, c, a, q4, by go_num, rfl, by omega, by show _ = _; rw [HWE.out]; exact HWL.out, by show OnceK _ _ _ _ _; rw [HWE.out]; exact HOK5.out, HB5⟩
            · have hni : n = i := by omega
              subst hni
              have hrw := HT.out.row wr z HBI.out
              rw [HTS.out.2.2.1] at hrw
              have HRW0 : Hid (RdKs wr (.slice a m c) (wantT ts z n)) := HOK.out.rd HBI.out
              clear hgi
              go_wp2_with fail
              refine hrw.mono ?_
              rintro o7 w7 ⟨v7, rfl, r7, b7⟩
              have HR7 : Hid (RdKs w7 v7 (wantT ts z n)) := r7
              obtain ⟨ga, gc, hv7, gg1, gg2, _⟩ := r7
              subst hv7
              have HW7 : Hid (RdKs w7 (.slice a m c) (wantT ts z n)) := HRW0.out.below b7
              obtain ⟨ca', cc', hcw, cw1, cw2, _⟩ := HRW0.out
              have HB7 : Hid (Below wT.heap.size wT w7) := bsplit HBI.out b7
              rw [HWL.out] at gg1 ⊢
              unfold maxLen at gg2 cw2
              have hmc : m ≤ c ∧ c ≤ 9223372036854775807 := by
                rw [HWL.out] at hcw cw1
                cases hcw
                exact ⟨cw1, cw2⟩
              clear hrw b7 HRW0 hcw cw1 cw2
              go_wp2_with fail
              go_loopg [172] m (fun gk iv wr => ∃ i : Nat, gk + i = m ∧ iv = .int .i64 (i : Int) ∧ Hid (Below w7.heap.size w7 wr))
              case atStart => exact ⟨0, by omega, rfl, Below.refl _ _⟩
              case round =>
                obtain ⟨i, hgi, rfl, HB8⟩ := hrel
                by_cases hlt4 : i < m
                · have hi2 : i < (wantT ts z n).length := by rw [HWL.out]; exact hlt4
                  obtain ⟨q5, q6⟩ : gk - 1 < gk ∧ gk - 1 + (i + 1) = m := by omega
                  obtain ⟨_, _, e1, _, _, h5⟩ := HR7.out.below HB8.out
                  cases e1
                  obtain ⟨b1, off1, rfl, x1v, s0, s1, s2, rs⟩ := h5 i hi2
                  have hw8 := HW7.out.below HB8.out
                  rw [← HWL.out] at hw8
                  obtain ⟨_, _, e2, _, _, h6⟩ := hw8
                  cases e2
                  obtain ⟨b2, off2, rfl, x2v, t0, t1, t2, rt⟩ := h6 i hi2
                  obtain ⟨x1a, x1c, ex1⟩ := rs.len
                  obtain ⟨x2a, x2c, ex2⟩ := rt.len
                  subst ex1 ex2
                  obtain ⟨⟨ku, ks, kd⟩, hK⟩ : ∃ K, (wantT ts z n)[i] = K := ⟨_, rfl⟩
                  rw [hK] at s0 s1 s2 rs t0 t1 t2 rt
                  simp only at s0 s1 s2 rs t0 t1 t2 rt
                  obtain ⟨m1, hm1⟩ : ∃ nl, ku.length = nl := ⟨_, rfl⟩
                  obtain ⟨kk, hkk⟩ : ∃ z, kd.toNat = z := ⟨_, rfl⟩
                  rw [hm1] at s0 rs t0 rt
                  rw [hkk] at s2 t2
                  have hss := keysame_any wr.drew (.slice x1a m1 x1c) (.slice x2a m1 x2c) ku ku (ks : Int) (kk : Int) (ks : Int) (kk : Int) true rs.drew rt.drew (by simp)
                  obtain ⟨hI0, hI1⟩ : (0 : Int) ≤ (i : Int) ∧ (i : Int) < (m : Int) := by omega
                  have HB9 : Hid (Below w7.heap.size w7 wr.drew) := HB8.out.drew
                  clear h5 h6 hK hm1 hkk rs rt hgi
                  go_wp2_with fail
                  go_region_held3 (fun w' => (w'.cell? ⟨b1, off1 + i * 3, none⟩ = some (.slice x1a m1 x1c) ∧ w'.cell? ⟨b1, off1 + i * 3 + 1, none⟩ = some (.int .u64 (ks : Int)) ∧ w'.cell? ⟨b1, off1 + i * 3 + 2, none⟩ = some (.int .u8 (kk : Int))) ∧ (w'.cell? ⟨b2, off2 + i * 3, none⟩ = some (.slice x2a m1 x2c) ∧ w'.cell? ⟨b2, off2 + i * 3 + 1, none⟩ = some (.int .u64 (ks : Int)) ∧ w'.cell? ⟨b2, off2 + i * 3 + 2, none⟩ = some (.int .u8 (kk : Int))))
                    (first | exact ⟨⟨s0', s1', s2'⟩, ⟨t0', t1', t2'⟩⟩ | exact ⟨⟨s0, s1, s2⟩, ⟨t0, t1, t2⟩⟩)
                    (first
                      | (go_at_call 22; refine hss.mono ?_; rintro o8 w9 ⟨rfl, b9⟩; have s0' := (b9.cell (p := ⟨b1, off1 + i * 3, none⟩) (World.block_lt_of_cell? _ _ s0)).trans s0; have s1' := (b9.cell (p := ⟨b1, off1 + i * 3 + 1, none⟩) (World.block_lt_of_cell? _ _ s1)).trans s1; have s2' := (b9.cell (p := ⟨b1, off1 + i * 3 + 2, none⟩) (World.block_lt_of_cell? _ _ s2)).trans s2; have t0' := (b9.cell (p := ⟨b2, off2 + i * 3, none⟩) (World.block_lt_of_cell? _ _ t0)).trans t0; have t1' := (b9.cell (p := ⟨b2, off2 + i * 3 + 1, none⟩) (World.block_lt_of_cell? _ _ t1)).trans t1; have t2' := (b9.cell (p := ⟨b2, off2 + i * 3 + 2, none⟩) (World.block_lt_of_cell? _ _ t2)).trans t2; have HB10 : Hid (Below w7.heap.size w7 w9) := bsplit HB9.out b9; clear b9)
                      | fail)
                  all_goals
                    go_wp2_with fail
                    go_roundg (gk - 1)
                    case measure => exact q5
                    case rel => exact ⟨i + 1, q6, by go_num, HB10⟩
                · have HB11 : Hid (Below wT.heap.size wT wr) := bsplit HB7.out HB8.out
                  have hz2 : -1 ≤ z + 1 ∧ z + 1 ≤ 11 := by omega
                  clear hgi
                  go_wp2
                  go_roundg (Gd - 1)
                  case measure => exact qa
                  case rel => exact ⟨d + 1, z + 1, qb, by go_num, hz2.1, hz2.2, by show _ = _; rw [HZ.out]; omega, HB11⟩
        · have hpl : pl.length = pn := by
            obtain ⟨_, _, hpe, _⟩ := HPA.out
            injection hpe with _ h9 _
            exact h9.symm
          have hpc : pn ≤ pc ∧ pc ≤ 9223372036854775807 := by
            obtain ⟨_, _, hpe, h8, h9, _⟩ := HPA.out
            unfold maxLen at h9
            injection hpe with _ e1 e2
            omega
          obtain ⟨hpc1, hpc2⟩ := hpc
          have HPL : Hid (pl.length = pn) := hpl
          have HPA2 : Hid (ArgKs w (.slice pa pl.length pc) pl) := by rw [hpl]; exact HPA.out
          clear hpl hgd
          go_wp2_with fail
          go_loopg [188] pn (fun gk iv wr => ∃ i : Nat, gk + i = pn ∧ iv = .int .i64 (i : Int) ∧ Hid (Below wT.heap.size wT wr))
          case atStart => exact ⟨0, by omega, rfl, HBZ⟩
          case round =>
            obtain ⟨i, hgi, rfl, HBI⟩ := hrel
            by_cases hlti : i < pn
            · have hi2 : i < pl.length := by rw [HPL.out]; exact hlti
              obtain ⟨qa, qb⟩ : gk - 1 < gk ∧ gk - 1 + (i + 1) = pn := by omega
              have hBw : Below w.heap.size w wr := bsplit HWT.out HBI.out
              obtain ⟨_, _, e, _, _, h3⟩ := argKs_below HPA2.out hBw (Nat.le_refl _)
              cases e
              obtain ⟨bp, offp, rfl, x, c0', c1', c2', rx⟩ := h3 i hi2
              obtain ⟨x1, x2, ex⟩ := Arg.shape rx
              subst ex
              obtain ⟨⟨ku, ks, kd⟩, hK⟩ : ∃ K, pl[i] = K := ⟨_, rfl⟩
              rw [hK] at c0' c1' c2' rx
              simp only at c0' c1' c2' rx
              obtain ⟨kk, hkk⟩ : ∃ z, kd.toNat = z := ⟨_, rfl⟩
              obtain ⟨nl, hnl⟩ : ∃ z, ku.length = z := ⟨_, rfl⟩
              have HKK : Hid (kd.toNat = kk) := hkk
              have HNL : Hid (ku.length = nl) := hnl
              rw [hkk] at c2'
              rw [hnl] at c0' rx
              have hb5 := below_box4 wr (.cells #[.slice x1 nl x2, .int .u64 (ks : Int), .int .u8 (kk : Int)] 36)
              have bx5 := box_new wr (.slice x1 nl x2) (.int .u64 (ks : Int)) (.int .u8 (kk : Int)) 36
              have HB5 : Hid (Below wT.heap.size wT (wr.alloc (.cells #[.slice x1 nl x2, .int .u64 (ks : Int), .int .u8 (kk : Int)] 36))) := bsplit HBI.out hb5
              have hrx5 := rx.below hb5 (Nat.le_refl _)
              clear h3 hK hkk hnl rx hgi hBw
              by_cases h20 : 20 ≤ i
              · have HB20 : Hid (Below w.heap.size w (wr.alloc (.cells #[.slice x1 nl x2, .int .u64 (ks : Int), .int .u8 (kk : Int)] 36))) := bsplit HWT.out HB5.out
                clear hb5 bx5 hrx5
                go_wp2
                go_ret
                exact ⟨rfl, HB20.out⟩
              · obtain ⟨W1, hW1⟩ : ∃ W1, wr.alloc (.cells #[.slice x1 nl x2, .int .u64 (ks : Int), .int .u8 (kk : Int)] 36) = W1 := ⟨_, rfl⟩
                obtain ⟨bk, hbk⟩ : ∃ bk, wr.heap.size = bk := ⟨_, rfl⟩
                have hs1 : W1.heap.size = bk + 1 := by rw [← hW1, ← hbk]; simp
                rw [hW1] at bx5 HB5 hrx5
                rw [hbk] at bx5
                have BK : Hid (Box W1 bk (.slice x1 nl x2) (.int .u64 (ks : Int)) (.int .u8 (kk : Int))) := bx5
                have HS1 : Hid (W1.heap.size = bk + 1) := hs1
                obtain ⟨y0, y1', y2', fz0, fz1, fz2⟩ := bx5
                have HBK : Hid (wT.heap.size ≤ bk) := by show _ ≤ _; rw [← hbk]; exact HBI.out.size
                clear hb5
                go_upto_region 51 with fail
                clear hW1 hbk
                go_cut [22] (fun kv wx => ∃ (qa9 : Option Addr) (qn qc : Nat), kv = .pointer (some ⟨bk, 0, none⟩) ∧ Hid (Box wx bk (.slice qa9 qn qc) (.int .u64 (ks : Int)) (.int .u8 (kk : Int))) ∧ Hid (Rd wx (.slice qa9 qn qc) (ku.take 80)) ∧ Hid (Below wT.heap.size wT wx))
                case first =>
                  have hown0 : (W1.alloc (.cells #[] 5)).ownsRow W1.heap.size 5 1 (.slice (some ⟨W1.heap.size, 0, none⟩) 0 0) 0 [] := World.ownsRow_lit W1 #[] 0 (Nat.le_refl _) (Nat.zero_le _) rfl
                  have hb2 := below_box4 W1 (.cells #[] 5)
                  have hrx6 := hrx5.below hb2 (Nat.le_refl _)
                  have BK2 : Hid (Box (W1.alloc (.cells #[] 5)) bk (.slice x1 nl x2) (.int .u64 (ks : Int)) (.int .u8 (kk : Int))) := BK.out.alloc _
                  have HB6 : Hid (Below wT.heap.size wT (W1.alloc (.cells #[] 5))) := bsplit HB5.out hb2
                  rw [HS1.out] at hown0
                  rcases hrx6 with ⟨hxe, hke⟩ | ⟨ad, cap, hxe, h1a, h2a, h3a⟩
                  · cases hxe
                    have hmin : min (0 : Int) 80 = 0 := by omega
                    have HKE : Hid (ku.take 80 = []) := by show _ = _; rw [hke]; rfl
                    have HOW : Hid ((W1.alloc (.cells #[] 5)).ownsRow (bk + 1) 5 1 (.slice (some ⟨bk + 1, 0, none⟩) 0 0) 0 []) := hown0
                    clear hown0 hb2 hke
                    have HF : Hid (Box ((W1.setCell ⟨bk, 0, none⟩ (.slice (some ⟨bk + 1, 0, none⟩) 0 0)).alloc (.cells #[] 5)) bk (.slice (some ⟨bk + 1, 0, none⟩) 0 0) (.int .u64 (ks : Int)) (.int .u8 (kk : Int))) := (box_set0 BK.out _).alloc _
                    have HG : Hid (Below wT.heap.size wT ((W1.setCell ⟨bk, 0, none⟩ (.slice (some ⟨bk + 1, 0, none⟩) 0 0)).alloc (.cells #[] 5))) := by
                      have h9 := HB5.out.setCell (p := ⟨bk, 0, none⟩) HBK.out (.slice (some ⟨bk + 1, 0, none⟩) 0 0)
                      exact h9.alloc h9.size _
                    clear BK2 HB6 HOW
                    go_wp2_with fail
                    go_meet
                    exact ⟨_, _, _, rfl, HF, by show Rd _ _ _; rw [HKE.out]; exact .inr ⟨bk + 1, 0, 0, rfl, Nat.le_refl _, Nat.zero_le _, fun j u hu => by simp [bv] at hu⟩, HG⟩
                  · injection hxe with e1 e2 e3
                    subst e1
                    subst e3
                    clear e2
                    unfold maxLen at h2a
                    obtain ⟨kq, hkq⟩ : ∃ k, (ku.take 80).length = k := ⟨_, rfl⟩
                    have HKQ : Hid ((ku.take 80).length = kq) := hkq
                    have hk2 : kq = min nl 80 := by rw [← hkq, List.length_take, HNL.out, Nat.min_comm]
                    rw [HNL.out] at h1a
                    have hmin : min (nl : Int) 80 = (kq : Int) := by omega
                    have hmin2 : (if 80 < nl then (80 : Int) else (nl : Int)) = (kq : Int) := by split <;> omega
                    have hkl : kq ≤ nl := by omega
                    have hkc : kq ≤ x2 := by omega
                    have hkI : (0 : Int) ≤ (kq : Int) := by omega
                    have hkJ : (kq : Int) ≤ (x2 : Int) := by omega
                    have hkK : (kq : Int) ≤ (nl : Int) := by omega
                    have hnews : ∀ j u, (bv (ku.take 80))[j]? = some u → (W1.alloc (.cells #[] 5)).cell? (ad.add j) = some u := fun j u hu => h3a j u (by
                      rw [← hu]
                      have hj : j < kq := by have := (List.getElem?_eq_some_iff.1 hu).1; rw [bv_length] at this; omega
                      simp [bv, show j < 80 by omega])
                    have hse : bk + 1 ≤ (W1.alloc (.cells #[] 5)).heap.size := by rw [← HS1.out]; exact hb2.size
                    have hk80 : kq ≤ 80 := by omega
                    clear h3a hk2 hb2
                    go_wp2_with (first
                      | (at_builtin; refine wpList_append_own _ rfl (.tmp 195) (.tmp 202) 33 rfl (bk + 1) 5 i5 (.int .u8 0) 1 1 Try.underlying33 hi5 hv0 hv1 hv2 rfl (by decide) (.slice (some ⟨bk + 1, 0, none⟩) 0 0) 0 [] rfl hown0 ad kq x2 (bv (ku.take 80)) rfl (by rw [bv_length, HKQ.out]; omega) hnews (bv_one _) (by unfold maxLen; omega) (by omega) hse ?_; intro v' w5 hw2 hg5 hw4; rw [Nat.zero_add] at hw2; have HRW : Hid (w5.ownsRow (bk + 1) 5 1 v' kq ([] ++ bv (ku.take 80))) := hw2; have BK5 : Hid (Box w5 bk (.slice (some ad) nl x2) (.int .u64 (ks : Int)) (.int .u8 (kk : Int))) := BK2.out.grown hg5 (by simp [Value.ownBlock]); have HB7 : Hid (Below wT.heap.size wT w5) := HB6.out.grown hg5 HB6.out.size (fun q e => by cases e; exact Nat.le_succ_of_le HBK.out); obtain ⟨qa8, qc8, hv8, _⟩ := rowAny_shape hw2; subst hv8; obtain ⟨t0, t1, t2, tz0, tz1, tz2⟩ := BK5.out; clear hw2 hg5 hw4)
                      | fail)
                    have HFB : Hid (Box _ bk (.slice qa8 kq qc8) (.int .u64 (ks : Int)) (.int .u8 (kk : Int))) := box_set0 BK5.out (.slice qa8 kq qc8)
                    have HFR : Hid (Rd (w5.setCell ⟨bk, 0, none⟩ (.slice qa8 kq qc8)) (.slice qa8 kq qc8) (ku.take 80)) := rd_set_far (rd_of_row HRW.out HKQ.out) (fun q hq => by have := (HRW.out.lt q hq).1; omega)
                    have HFG : Hid (Below wT.heap.size wT (w5.setCell ⟨bk, 0, none⟩ (.slice qa8 kq qc8))) := HB7.out.setCell (p := ⟨bk, 0, none⟩) HBK.out _
                    go_meet
                    exact ⟨_, _, _, rfl, HFB, HFR, HFG⟩
                case rest =>
                  obtain ⟨qa9, qn, qc, rfl, HBX, HRK, HBC⟩ := hcut
                  have hfr := HT.out.from_ wc (.slice qa9 qn qc) (ku.take 80, ks, kd, []) HBC.out HRK.out
                  simp only [HKK.out] at hfr
                  obtain ⟨qf, hqf⟩ : ∃ q, (esT ts)[cntE (esT ts) (ku.take 80, ks, kd, [])]? = q := ⟨_, rfl⟩
                  obtain ⟨qg, hqg⟩ : ∃ q, (if cntE (esT ts) (ku.take 80, ks, kd, []) = 0 then none else (esT ts)[cntE (esT ts) (ku.take 80, ks, kd, []) - 1]?) = q := ⟨_, rfl⟩
                  have HQF : Hid ((esT ts)[cntE (esT ts) (ku.take 80, ks, kd, [])]? = qf) := hqf
                  have HQG : Hid ((if cntE (esT ts) (ku.take 80, ks, kd, []) = 0 then none else (esT ts)[cntE (esT ts) (ku.take 80, ks, kd, []) - 1]?) = qg) := hqg
                  rw [hqf] at hfr
                  clear hqf hqg
                  obtain ⟨t0, t1, t2, tz0, tz1, tz2⟩ := HBX.out
                  go_wp2_with fail
                  refine hfr.mono ?_
                  rintro o8 w8 h8
                  obtain ⟨xa1, ya1, xn1, xc1, yn1, yc1, rfl, hrx1, hry1, hb8⟩ := told_found h8
                  have hb81 := below_box4 w8 (.cells #[.slice xa1 xn1 xc1, .int .u64 (fs qf), .int .u8 (fk qf), .slice ya1 yn1 yc1] 38)
                  have hBa : Below wc.heap.size wc (w8.alloc (.cells #[.slice xa1 xn1 xc1, .int .u64 (fs qf), .int .u8 (fk qf), .slice ya1 yn1 yc1] 38)) := bsplit hb8 hb81
                  have HA1 : Hid (Box4 (w8.alloc (.cells #[.slice xa1 xn1 xc1, .int .u64 (fs qf), .int .u8 (fk qf), .slice ya1 yn1 yc1] 38)) w8.heap.size (.slice xa1 xn1 xc1) (.int .u64 (fs qf)) (.int .u8 (fk qf)) (.slice ya1 yn1 yc1)) := box4_new w8 _ _ _ _ _
                  have HR1 : Hid (Rd (w8.alloc (.cells #[.slice xa1 xn1 xc1, .int .u64 (fs qf), .int .u8 (fk qf), .slice ya1 yn1 yc1] 38)) (.slice xa1 xn1 xc1) (fx qf) ∧ Rd (w8.alloc (.cells #[.slice xa1 xn1 xc1, .int .u64 (fs qf), .int .u8 (fk qf), .slice ya1 yn1 yc1] 38)) (.slice ya1 yn1 yc1) (fy qf)) := ⟨hrx1.below hb81 (Nat.le_refl _), hry1.below hb81 (Nat.le_refl _)⟩
                  obtain ⟨WA, hWA⟩ : ∃ WA, w8.alloc (.cells #[.slice xa1 xn1 xc1, .int .u64 (fs qf), .int .u8 (fk qf), .slice ya1 yn1 yc1] 38) = WA := ⟨_, rfl⟩
                  obtain ⟨ba, hba⟩ : ∃ ba, w8.heap.size = ba := ⟨_, rfl⟩
                  rw [hWA] at HA1 HR1 hBa
                  rw [hba] at HA1
                  have WABelow : Hid (Below wT.heap.size wT WA) := bsplit HBC.out hBa
                  have WAKey : Hid (Box WA bk (.slice qa9 qn qc) (.int .u64 (ks : Int)) (.int .u8 (kk : Int))) := HBX.out.below hBa (Nat.le_refl _)
                  have WARd : Hid (Rd WA (.slice qa9 qn qc) (ku.take 80)) := HRK.out.below hBa (Nat.le_refl _)
                  clear hfr h8 hrx1 hry1 hb8 hb81 hBa t0 t1 t2 tz0 tz1 tz2
                  have HLX : Hid (xb < WA.heap.size ∧ bk < WA.heap.size) := ⟨Nat.lt_of_lt_of_le (World.block_lt_of_cell? _ _ X0) WABelow.out.size, WAKey.out.lt⟩
                  go_upto_region 53 with fail
                  go_cut [25, 26] (fun bv0 rv wx => ∃ (bb : Nat) (xa ya : Option Addr) (xn xc yn yc : Nat), bv0 = .pointer (some ⟨bb, 0, none⟩) ∧ rv = .bool qf.isSome ∧ Hid (Box4 wx bb (.slice xa xn xc) (.int .u64 (fs qf)) (.int .u8 (fk qf)) (.slice ya yn yc)) ∧ Hid (Rd wT (.slice xa xn xc) (fx qf) ∧ Rd wT (.slice ya yn yc) (fy qf)) ∧ Hid (Below WA.heap.size WA wx))
                  case first =>
                    have hD0 := ((WABelow.out.drew).cell (p := ⟨xb, 0, none⟩) (World.block_lt_of_cell? _ _ X0)).trans X0
                    have hDZ := ((WABelow.out.alloc WABelow.out.size (.cells #[.slice none 0 0, .int .u64 0, .int .u8 0, .slice none 0 0] 38)).drew.cell (p := ⟨xb, 0, none⟩) (World.block_lt_of_cell? _ _ X0)).trans X0
                    have hKB := WAKey.out.drew
                    have hKZ := (WAKey.out.alloc (.cells #[.slice none 0 0, .int .u64 0, .int .u8 0, .slice none 0 0] 38)).drew
                    have hz := below_box4 WA (.cells #[.slice none 0 0, .int .u64 0, .int .u8 0, .slice none 0 0] 38)
                    have hrf0 := r8from_w wT WA.drew (.slice la (esT ts).length lc) (.slice qa9 qn qc) (esT ts) (ku.take 80, ks, kd, []) WABelow.out.drew HR0.out WARd.out.drew HTS.out.2.1 (by rw [HET.out]; exact hn9)
                    have hrfZ := r8from_w wT (WA.alloc (.cells #[.slice none 0 0, .int .u64 0, .int .u8 0, .slice none 0 0] 38)).drew (.slice la (esT ts).length lc) (.slice qa9 qn qc) (esT ts) (ku.take 80, ks, kd, []) (bsplit WABelow.out hz).drew HR0.out (WARd.out.below hz (Nat.le_refl _)).drew HTS.out.2.1 (by rw [HET.out]; exact hn9)
                    simp only [HET.out, HKK.out] at hrf0 hrfZ
                    rw [HQF.out] at hrf0 hrfZ
                    have HZB : Hid (Box4f (WA.alloc (.cells #[.slice none 0 0, .int .u64 0, .int .u8 0, .slice none 0 0] 38)).drew WA.heap.size (.slice none 0 0) (.int .u64 0) (.int .u8 0) (.slice none 0 0)) := ⟨(box4f_new WA _ _ _ _ _).bx.drew, (box4f_new WA _ _ _ _ _).f0, (box4f_new WA _ _ _ _ _).f1, (box4f_new WA _ _ _ _ _).f2, (box4f_new WA _ _ _ _ _).f3⟩
                    go_wp2_with fail
                    go_region_held3 (fun w' => w'.cell? ⟨xb, 0, none⟩ = some (.slice la n lc) ∧ w'.cell? ⟨bk, 0, none⟩ = some (.slice qa9 qn qc) ∧ w'.cell? ⟨bk, 1, none⟩ = some (.int .u64 (ks : Int)) ∧ w'.cell? ⟨bk, 2, none⟩ = some (.int .u8 (kk : Int)))
                      (first | with_reducible exact kS | with_reducible exact kA | with_reducible exact kC | with_reducible exact ⟨hDZ, hKZ.c0, hKZ.c1, hKZ.c2⟩ | exact ⟨hD0, hKB.c0, hKB.c1, hKB.c2⟩)
                      (first
                        | (go_at_call 24; refine hrf0.mono ?_; rintro o9 w9 h9; obtain ⟨xa, ya, xn, xc, yn, yc, rfl, hrx, hry, hb9⟩ := told_refW h9; have HBX9 : Hid (Below WA.heap.size WA w9) := bsplit (Below.refl _ _).drew hb9; have hD9 := (hb9.cell (p := ⟨xb, 0, none⟩) (World.block_lt_of_cell? _ _ hD0)).trans hD0; have hK9 := hKB.below hb9 (Nat.le_refl _); have kC := (⟨hD9, hK9.c0, hK9.c1, hK9.c2⟩ : _ ∧ _ ∧ _ ∧ _); have hz9 := below_box4 w9 (.cells #[.slice none 0 0, .int .u64 0, .int .u8 0, .slice none 0 0] 38); have hKA := hK9.alloc (.cells #[.slice none 0 0, .int .u64 0, .int .u8 0, .slice none 0 0] 38); have kA := (⟨(hz9.cell (p := ⟨xb, 0, none⟩) (World.block_lt_of_cell? _ _ hD9)).trans hD9, hKA.c0, hKA.c1, hKA.c2⟩ : _ ∧ _ ∧ _ ∧ _); have hz8 := below_box4 w9 (.cells #[.slice xa xn xc, .int .u64 (fs qf), .int .u8 (fk qf), .slice ya yn yc] 38); have hKS := hK9.alloc (.cells #[.slice xa xn xc, .int .u64 (fs qf), .int .u8 (fk qf), .slice ya yn yc] 38); have kS := (⟨(hz8.cell (p := ⟨xb, 0, none⟩) (World.block_lt_of_cell? _ _ hD9)).trans hD9, hKS.c0, hKS.c1, hKS.c2⟩ : _ ∧ _ ∧ _ ∧ _); have HRR : Hid (Rd wT (.slice xa xn xc) (fx qf) ∧ Rd wT (.slice ya yn yc) (fy qf)) := ⟨hrx, hry⟩; have HENB : Hid (Box4 (w9.alloc (.cells #[.slice xa xn xc, .int .u64 (fs qf), .int .u8 (fk qf), .slice ya yn yc] 38)) w9.heap.size (.slice xa xn xc) (.int .u64 (fs qf)) (.int .u8 (fk qf)) (.slice ya yn yc)) := box4_new w9 _ _ _ _ _; have HENG : Hid (Below WA.heap.size WA (w9.alloc (.cells #[.slice xa xn xc, .int .u64 (fs qf), .int .u8 (fk qf), .slice ya yn yc] 38))) := bsplit HBX9.out hz8; clear hrx hry h9)
                        | (go_at_call 24; refine hrfZ.mono ?_; rintro o9 w9 h9; obtain ⟨xa, ya, xn, xc, yn, yc, rfl, hrx, hry, hb9⟩ := told_refW h9; have HBX9 : Hid (Below WA.heap.size WA w9) := bsplit hz.drew hb9; have hD9 := (hb9.cell (p := ⟨xb, 0, none⟩) (World.block_lt_of_cell? _ _ hDZ)).trans hDZ; have hK9 := hKZ.below hb9 (Nat.le_refl _); have kC := (⟨hD9, hK9.c0, hK9.c1, hK9.c2⟩ : _ ∧ _ ∧ _ ∧ _); obtain ⟨⟨u0, u1, u2, u3⟩, fu0, fu1, fu2, fu3⟩ := HZB.out.below hb9 (Nat.le_refl _); have hst := below_st4 (Below.refl WA.heap.size w9) (Nat.le_refl _) (.slice xa xn xc) (.int .u64 (fs qf)) (.int .u8 (fk qf)) (.slice ya yn yc); have kS := (⟨(hst.cell (p := ⟨xb, 0, none⟩) HLX.out.1).trans hD9, (hst.cell (p := ⟨bk, 0, none⟩) HLX.out.2).trans hK9.c0, (hst.cell (p := ⟨bk, 1, none⟩) HLX.out.2).trans hK9.c1, (hst.cell (p := ⟨bk, 2, none⟩) HLX.out.2).trans hK9.c2⟩ : _ ∧ _ ∧ _ ∧ _); have HRR : Hid (Rd wT (.slice xa xn xc) (fx qf) ∧ Rd wT (.slice ya yn yc) (fy qf)) := ⟨hrx, hry⟩; have HENB : Hid (Box4 _ WA.heap.size (.slice xa xn xc) (.int .u64 (fs qf)) (.int .u8 (fk qf)) (.slice ya yn yc)) := box4_st (⟨u0, u1, u2, u3⟩ : Box4 w9 WA.heap.size _ _ _ _) _ _ _ _; have HENG : Hid (Below WA.heap.size WA _) := below_st4 HBX9.out (Nat.le_refl _) (.slice xa xn xc) (.int .u64 (fs qf)) (.int .u8 (fk qf)) (.slice ya yn yc); clear hrx hry h9 hst)
                        | fail)
                    all_goals
                      go_wp2_with fail
                      go_meet
                      exact ⟨_, xa, ya, xn, xc, yn, yc, rfl, rfl, HENB, HRR, HENG⟩
                  case rest =>
                    obtain ⟨bb2, xa2, ya2, xn2, xc2, yn2, yc2, rfl, rfl, HBO2, HRR2, HBE2⟩ := hcut
                    obtain ⟨wd2, hwd2⟩ : ∃ wd, wd = wc := ⟨_, rfl⟩
                    subst hwd2
                    have hbf := HT.out.bef wd2 (.slice qa9 qn qc) (ku.take 80, ks, kd, []) (bsplit WABelow.out HBE2.out) (WARd.out.below HBE2.out (Nat.le_refl _))
                    simp only [HKK.out] at hbf
                    rw [HQG.out] at hbf
                    obtain ⟨t0, t1, t2, tz0, tz1, tz2⟩ := WAKey.out.below HBE2.out (Nat.le_refl _)
                    go_wp2_with fail
                    refine hbf.mono ?_
                    rintro o8 w10 h8
                    obtain ⟨xa3, ya3, xn3, xc3, yn3, yc3, rfl, hrx3, hry3, hb10⟩ := told_found h8
                    have hb11 := below_box4 w10 (.cells #[.slice xa3 xn3 xc3, .int .u64 (fs qg), .int .u8 (fk qg), .slice ya3 yn3 yc3] 38)
                    have hBb : Below wd2.heap.size wd2 (w10.alloc (.cells #[.slice xa3 xn3 xc3, .int .u64 (fs qg), .int .u8 (fk qg), .slice ya3 yn3 yc3] 38)) := bsplit hb10 hb11
                    have HA3 : Hid (Box4 (w10.alloc (.cells #[.slice xa3 xn3 xc3, .int .u64 (fs qg), .int .u8 (fk qg), .slice ya3 yn3 yc3] 38)) w10.heap.size (.slice xa3 xn3 xc3) (.int .u64 (fs qg)) (.int .u8 (fk qg)) (.slice ya3 yn3 yc3)) := box4_new w10 _ _ _ _ _
                    have HR3 : Hid (Rd (w10.alloc (.cells #[.slice xa3 xn3 xc3, .int .u64 (fs qg), .int .u8 (fk qg), .slice ya3 yn3 yc3] 38)) (.slice xa3 xn3 xc3) (fx qg) ∧ Rd (w10.alloc (.cells #[.slice xa3 xn3 xc3, .int .u64 (fs qg), .int .u8 (fk qg), .slice ya3 yn3 yc3] 38)) (.slice ya3 yn3 yc3) (fy qg)) := ⟨hrx3.below hb11 (Nat.le_refl _), hry3.below hb11 (Nat.le_refl _)⟩
                    obtain ⟨WB, hWB⟩ : ∃ WB, w10.alloc (.cells #[.slice xa3 xn3 xc3, .int .u64 (fs qg), .int .u8 (fk qg), .slice ya3 yn3 yc3] 38) = WB := ⟨_, rfl⟩
                    obtain ⟨bc, hbc⟩ : ∃ bc, w10.heap.size = bc := ⟨_, rfl⟩
                    rw [hWB] at HA3 HR3 hBb
                    rw [hbc] at HA3
                    have HBAB : Hid (Below WA.heap.size WA WB) := bsplit HBE2.out hBb
                    have HB2B : Hid (Below wd2.heap.size wd2 WB) := hBb
                    have WBBelow : Hid (Below wT.heap.size wT WB) := bsplit WABelow.out HBAB.out
                    have WBKey : Hid (Box WB bk (.slice qa9 qn qc) (.int .u64 (ks : Int)) (.int .u8 (kk : Int))) := WAKey.out.below HBAB.out (Nat.le_refl _)
                    have WBRd : Hid (Rd WB (.slice qa9 qn qc) (ku.take 80)) := WARd.out.below HBAB.out (Nat.le_refl _)
                    clear hbf h8 hrx3 hry3 hb10 hb11 hBb t0 t1 t2 tz0 tz1 tz2
                    have HLX : Hid (xb < WB.heap.size ∧ bk < WB.heap.size) := ⟨Nat.lt_of_lt_of_le (World.block_lt_of_cell? _ _ X0) WBBelow.out.size, WBKey.out.lt⟩
                    go_upto_region 55 with fail
                    go_cut [29, 30] (fun bv0 rv wx => ∃ (bb : Nat) (xa ya : Option Addr) (xn xc yn yc : Nat), bv0 = .pointer (some ⟨bb, 0, none⟩) ∧ rv = .bool qg.isSome ∧ Hid (Box4 wx bb (.slice xa xn xc) (.int .u64 (fs qg)) (.int .u8 (fk qg)) (.slice ya yn yc)) ∧ Hid (Rd wT (.slice xa xn xc) (fx qg) ∧ Rd wT (.slice ya yn yc) (fy qg)) ∧ Hid (Below WB.heap.size WB wx))
                    case first =>
                      have hD0 := ((WBBelow.out.drew).cell (p := ⟨xb, 0, none⟩) (World.block_lt_of_cell? _ _ X0)).trans X0
                      have hDZ := ((WBBelow.out.alloc WBBelow.out.size (.cells #[.slice none 0 0, .int .u64 0, .int .u8 0, .slice none 0 0] 38)).drew.cell (p := ⟨xb, 0, none⟩) (World.block_lt_of_cell? _ _ X0)).trans X0
                      have hKB := WBKey.out.drew
                      have hKZ := (WBKey.out.alloc (.cells #[.slice none 0 0, .int .u64 0, .int .u8 0, .slice none 0 0] 38)).drew
                      have hz := below_box4 WB (.cells #[.slice none 0 0, .int .u64 0, .int .u8 0, .slice none 0 0] 38)
                      have hrf0 := r8before_w wT WB.drew (.slice la (esT ts).length lc) (.slice qa9 qn qc) (esT ts) (ku.take 80, ks, kd, []) WBBelow.out.drew HR0.out WBRd.out.drew HTS.out.2.1 (by rw [HET.out]; exact hn9)
                      have hrfZ := r8before_w wT (WB.alloc (.cells #[.slice none 0 0, .int .u64 0, .int .u8 0, .slice none 0 0] 38)).drew (.slice la (esT ts).length lc) (.slice qa9 qn qc) (esT ts) (ku.take 80, ks, kd, []) (bsplit WBBelow.out hz).drew HR0.out (WBRd.out.below hz (Nat.le_refl _)).drew HTS.out.2.1 (by rw [HET.out]; exact hn9)
                      simp only [HET.out, HKK.out] at hrf0 hrfZ
                      rw [HQG.out] at hrf0 hrfZ
                      have HZB : Hid (Box4f (WB.alloc (.cells #[.slice none 0 0, .int .u64 0, .int .u8 0, .slice none 0 0] 38)).drew WB.heap.size (.slice none 0 0) (.int .u64 0) (.int .u8 0) (.slice none 0 0)) := ⟨(box4f_new WB _ _ _ _ _).bx.drew, (box4f_new WB _ _ _ _ _).f0, (box4f_new WB _ _ _ _ _).f1, (box4f_new WB _ _ _ _ _).f2, (box4f_new WB _ _ _ _ _).f3⟩
                      go_wp2_with fail
                      go_region_held3 (fun w' => w'.cell? ⟨xb, 0, none⟩ = some (.slice la n lc) ∧ w'.cell? ⟨bk, 0, none⟩ = some (.slice qa9 qn qc) ∧ w'.cell? ⟨bk, 1, none⟩ = some (.int .u64 (ks : Int)) ∧ w'.cell? ⟨bk, 2, none⟩ = some (.int .u8 (kk : Int)))
                        (first | with_reducible exact kS | with_reducible exact kA | with_reducible exact kC | with_reducible exact ⟨hDZ, hKZ.c0, hKZ.c1, hKZ.c2⟩ | exact ⟨hD0, hKB.c0, hKB.c1, hKB.c2⟩)
                        (first
                          | (go_at_call 26; refine hrf0.mono ?_; rintro o9 w9 h9; obtain ⟨xa, ya, xn, xc, yn, yc, rfl, hrx, hry, hb9⟩ := told_refW h9; have HBX9 : Hid (Below WB.heap.size WB w9) := bsplit (Below.refl _ _).drew hb9; have hD9 := (hb9.cell (p := ⟨xb, 0, none⟩) (World.block_lt_of_cell? _ _ hD0)).trans hD0; have hK9 := hKB.below hb9 (Nat.le_refl _); have kC := (⟨hD9, hK9.c0, hK9.c1, hK9.c2⟩ : _ ∧ _ ∧ _ ∧ _); have hz9 := below_box4 w9 (.cells #[.slice none 0 0, .int .u64 0, .int .u8 0, .slice none 0 0] 38); have hKA := hK9.alloc (.cells #[.slice none 0 0, .int .u64 0, .int .u8 0, .slice none 0 0] 38); have kA := (⟨(hz9.cell (p := ⟨xb, 0, none⟩) (World.block_lt_of_cell? _ _ hD9)).trans hD9, hKA.c0, hKA.c1, hKA.c2⟩ : _ ∧ _ ∧ _ ∧ _); have hz8 := below_box4 w9 (.cells #[.slice xa xn xc, .int .u64 (fs qg), .int .u8 (fk qg), .slice ya yn yc] 38); have hKS := hK9.alloc (.cells #[.slice xa xn xc, .int .u64 (fs qg), .int .u8 (fk qg), .slice ya yn yc] 38); have kS := (⟨(hz8.cell (p := ⟨xb, 0, none⟩) (World.block_lt_of_cell? _ _ hD9)).trans hD9, hKS.c0, hKS.c1, hKS.c2⟩ : _ ∧ _ ∧ _ ∧ _); have HRR : Hid (Rd wT (.slice xa xn xc) (fx qg) ∧ Rd wT (.slice ya yn yc) (fy qg)) := ⟨hrx, hry⟩; have HENB : Hid (Box4 (w9.alloc (.cells #[.slice xa xn xc, .int .u64 (fs qg), .int .u8 (fk qg), .slice ya yn yc] 38)) w9.heap.size (.slice xa xn xc) (.int .u64 (fs qg)) (.int .u8 (fk qg)) (.slice ya yn yc)) := box4_new w9 _ _ _ _ _; have HENG : Hid (Below WB.heap.size WB (w9.alloc (.cells #[.slice xa xn xc, .int .u64 (fs qg), .int .u8 (fk qg), .slice ya yn yc] 38))) := bsplit HBX9.out hz8; clear hrx hry h9)
                          | (go_at_call 26; refine hrfZ.mono ?_; rintro o9 w9 h9; obtain ⟨xa, ya, xn, xc, yn, yc, rfl, hrx, hry, hb9⟩ := told_refW h9; have HBX9 : Hid (Below WB.heap.size WB w9) := bsplit hz.drew hb9; have hD9 := (hb9.cell (p := ⟨xb, 0, none⟩) (World.block_lt_of_cell? _ _ hDZ)).trans hDZ; have hK9 := hKZ.below hb9 (Nat.le_refl _); have kC := (⟨hD9, hK9.c0, hK9.c1, hK9.c2⟩ : _ ∧ _ ∧ _ ∧ _); obtain ⟨⟨u0, u1, u2, u3⟩, fu0, fu1, fu2, fu3⟩ := HZB.out.below hb9 (Nat.le_refl _); have hst := below_st4 (Below.refl WB.heap.size w9) (Nat.le_refl _) (.slice xa xn xc) (.int .u64 (fs qg)) (.int .u8 (fk qg)) (.slice ya yn yc); have kS := (⟨(hst.cell (p := ⟨xb, 0, none⟩) HLX.out.1).trans hD9, (hst.cell (p := ⟨bk, 0, none⟩) HLX.out.2).trans hK9.c0, (hst.cell (p := ⟨bk, 1, none⟩) HLX.out.2).trans hK9.c1, (hst.cell (p := ⟨bk, 2, none⟩) HLX.out.2).trans hK9.c2⟩ : _ ∧ _ ∧ _ ∧ _); have HRR : Hid (Rd wT (.slice xa xn xc) (fx qg) ∧ Rd wT (.slice ya yn yc) (fy qg)) := ⟨hrx, hry⟩; have HENB : Hid (Box4 _ WB.heap.size (.slice xa xn xc) (.int .u64 (fs qg)) (.int .u8 (fk qg)) (.slice ya yn yc)) := box4_st (⟨u0, u1, u2, u3⟩ : Box4 w9 WB.heap.size _ _ _ _) _ _ _ _; have HENG : Hid (Below WB.heap.size WB _) := below_st4 HBX9.out (Nat.le_refl _) (.slice xa xn xc) (.int .u64 (fs qg)) (.int .u8 (fk qg)) (.slice ya yn yc); clear hrx hry h9 hst)
                          | fail)
                      all_goals
                        go_wp2_with fail
                        go_meet
                        exact ⟨_, xa, ya, xn, xc, yn, yc, rfl, rfl, HENB, HRR, HENG⟩
                    case rest =>
                      obtain ⟨bb4, xa4, ya4, xn4, xc4, yn4, yc4, rfl, rfl, HBO4, HRR4, HBE4⟩ := hcut
                      obtain ⟨wd4, hwd4⟩ : ∃ wd, wd = wc := ⟨_, rfl⟩
                      subst hwd4
                      have HB4W : Hid (Below wT.heap.size wT wd4) := bsplit WBBelow.out HBE4.out
                      have HA4 : Hid (Below WA.heap.size WA wd4) := bsplit HBAB.out HBE4.out
                      have H24 : Hid (Below wd2.heap.size wd2 wd4) := bsplit HB2B.out HBE4.out
                      have hsm1 := sameen_any wd4 (.slice xa1 xn1 xc1) (.slice ya1 yn1 yc1) (.slice xa2 xn2 xc2) (.slice ya2 yn2 yc2) (fx qf) (fy qf) (fx qf) (fy qf) (fs qf) (fk qf) (fs qf) (fk qf) true (HR1.out.1.below HA4.out (Nat.le_refl _)) (HR1.out.2.below HA4.out (Nat.le_refl _)) (HRR2.out.1.below HB4W.out (Nat.le_refl _)) (HRR2.out.2.below HB4W.out (Nat.le_refl _)) (by simp)
                      obtain ⟨a0', a1', a2', a3'⟩ := HA1.out.below HA4.out (Nat.le_refl _)
                      obtain ⟨b0', b1', b2', b3'⟩ := HBO2.out.below H24.out (Nat.le_refl _)
                      go_wp2_with fail
                      refine hsm1.mono ?_
                      rintro o11 w11 ⟨rfl, hb11⟩
                      have HB11 : Hid (Below wd4.heap.size wd4 w11) := hb11
                      have hsm2 := sameen_any w11 (.slice xa3 xn3 xc3) (.slice ya3 yn3 yc3) (.slice xa4 xn4 xc4) (.slice ya4 yn4 yc4) (fx qg) (fy qg) (fx qg) (fy qg) (fs qg) (fk qg) (fs qg) (fk qg) true (HR3.out.1.below (bsplit HBE4.out hb11) (Nat.le_refl _)) (HR3.out.2.below (bsplit HBE4.out hb11) (Nat.le_refl _)) (HRR4.out.1.below (bsplit HB4W.out hb11) (Nat.le_refl _)) (HRR4.out.2.below (bsplit HB4W.out hb11) (Nat.le_refl _)) (by simp)
                      clear hsm1 a0' a1' a2' a3' b0' b1' b2' b3'
                      obtain ⟨a0', a1', a2', a3'⟩ := HA3.out.below (bsplit HBE4.out hb11) (Nat.le_refl _)
                      obtain ⟨b0', b1', b2', b3'⟩ := HBO4.out.below hb11 (Nat.le_refl _)
                      clear hb11
                      go_wp2_with fail
                      refine hsm2.mono ?_
                      rintro o12 w12 ⟨rfl, hb12⟩
                      have HB12 : Hid (Below wT.heap.size wT w12) := bsplit (bsplit HB4W.out HB11.out) hb12
                      clear hsm2 hb12 a0' a1' a2' a3' b0' b1' b2' b3'
                      go_wp2_with fail
                      go_roundg (gk - 1)
                      case measure => exact qa
                      case rel => exact ⟨i + 1, qb, by go_num, HB12⟩
            · have HBR : Hid (Below w.heap.size w wr) := bsplit HWT.out HBI.out
              go_wp2
              go_ret
              exact ⟨rfl, HBR.out⟩

end Go.Proofs.Ytekmlbbfipldoaa

/- SkipPlays, of a nil list. -/
namespace Go.Proofs.Ytekmlbbfipldoaa
open Go.RowKit Go.Shelf
set_option linter.unusedVariables false

set_option maxRecDepth 100000 in
set_option maxHeartbeats 8000000 in
theorem plays_true (w : World) (a0 : Option Addr) (n0 c0 : Nat) (es : List PtB) (hv : ArgPt w (.slice a0 n0 c0) es) (pa : Option Addr) (pn pc : Nat) (pl : List KyT) (hpl : ArgKs w (.slice pa pn pc) pl) :
    Calls Try.prog 3 #[.bool true, .slice a0 n0 c0, .slice pa pn pc] w fun e w' => e = .returned (.bool true) ∧ Below w.heap.size w w' := by
  obtain ⟨k0i, hki, hkz0, hkz1, hkz2⟩ := info_parts infoKyT
  obtain ⟨i5, hi5, hv0, hv1, hv2⟩ := info_parts info5
  have HV : Hid (ArgPt w (.slice a0 n0 c0) es) := hv
  have HPA : Hid (ArgKs w (.slice pa pn pc) pl) := hpl
  clear hv hpl
  go_enter Try.func3, Try.ntmps3
  go_wp2_with fail
  refine (skawake_any w).mono ?_
  rintro e w1 ⟨rfl, hb1⟩
  have HB1 : Hid (Below w.heap.size w w1) := hb1
  clear hb1
  go_wp2_with fail
  refine (sknew_any w1).mono ?_
  rintro e w2 ⟨rfl, hS2, hb2⟩
  have HB2 : Hid (Below w.heap.size w w2) := bsplit HB1.out hb2
  have HB3 : Hid (Below w.heap.size w (w2.alloc (.cells #[.slice none 0 0, .slice none 0 0] 31))) := bsplit HB2.out (below_box4 w2 _)
  clear hS2 hb2
  go_wp2_with fail
  refine (fewP_any _ _ es (argPt_below HV.out HB3.out (Nat.le_refl _))).mono ?_
  rintro e wf ⟨fv, rfl, hO, hbf⟩
  have HBF : Hid (Below w.heap.size w wf) := bsplit HB3.out hbf
  have HRF : Hid (RdPt wf fv (fewP es)) := hO.rd
  obtain ⟨fa, fc, hfv, h1, h2, _⟩ := hO.rd
  subst hfv
  obtain ⟨ps, hps⟩ : ∃ ps, fewP es = ps := ⟨_, rfl⟩
  have HSH : Hid (∀ p ∈ ps, p.1.1.length ≤ 80 ∧ p.1.2.2.2.length ≤ 600) := by intro p hp; rw [← hps] at hp; exact fewP_short p hp
  have hp60 : ps.length ≤ 60 := by rw [← hps]; exact fewP_len es
  rw [hps] at HRF h1 ⊢
  obtain ⟨N, hN⟩ : ∃ N, ps.length = N := ⟨_, rfl⟩
  have HN : Hid (ps.length = N) := hN
  rw [hN] at h1 hp60 ⊢
  unfold maxLen at h2
  clear hO hbf hps hN hp60 HB3 HB2
  go_wp2_with fail
  go_loopg [40] N (fun gk iv wr => ∃ (j : Nat), gk + j = N ∧ iv = .int .i64 (j : Int) ∧ Hid (Below wf.heap.size wf wr))
  case atStart => exact ⟨0, by omega, rfl, Below.refl _ _⟩
  case round =>
    obtain ⟨j, hj, rfl, HP⟩ := hrel
    by_cases hlt : j < N
    · have hlt2 : j < ps.length := by rw [HN.out]; exact hlt
      obtain ⟨Gk, hGk⟩ : ∃ Gk, Gk = gk := ⟨_, rfl⟩
      subst hGk
      obtain ⟨q1, q2⟩ : Gk - 1 < Gk ∧ Gk - 1 + (j + 1) = N := by omega
      obtain ⟨_, _, e, _, _, h3⟩ := rdPt_below (show RdPt wf _ ps from HRF.out) HP.out (Nat.le_refl _)
      cases e
      obtain ⟨b, off, rfl, xv, yv, d0, d1, d2, d3, d4, rx, ry⟩ := h3 j hlt2
      obtain ⟨x1, x2, ex⟩ := rx.len
      obtain ⟨y1, y2, ey⟩ := ry.len
      subst ex ey
      have hsh := HSH.out _ (List.getElem_mem hlt2)
      obtain ⟨⟨E, oh⟩, ho⟩ : ∃ o, ps[j] = o := ⟨_, rfl⟩
      rw [ho] at d0 d1 d2 d3 d4 rx ry hsh
      simp only at d0 d1 d2 d3 d4 rx ry hsh
      obtain ⟨kk, hkk⟩ : ∃ kk, E.2.2.1.toNat = kk := ⟨_, rfl⟩
      obtain ⟨ks, hks⟩ : ∃ ks, E.2.1 = ks := ⟨_, rfl⟩
      obtain ⟨nl, hnl⟩ : ∃ nl, E.1.length = nl := ⟨_, rfl⟩
      obtain ⟨vl, hvl⟩ : ∃ vl, E.2.2.2.length = vl := ⟨_, rfl⟩
      have HE : Hid (E.1.length = nl ∧ E.2.2.2.length = vl) := ⟨hnl, hvl⟩
      have hnl9 : nl ≤ 80 := by rw [← hnl]; exact hsh.1
      have hvl9 : vl ≤ 600 := by rw [← hvl]; exact hsh.2
      rw [hnl] at d0 rx
      rw [hks] at d1
      rw [hkk] at d2
      rw [hvl] at d3 ry
      have hb0 := below_box4 wr (.cells #[.slice x1 nl x2, .int .u64 (ks : Int), .int .u8 (kk : Int), .slice y1 vl y2, .int .i64 oh] 40)
      have bx0 := box5_new wr (.slice x1 nl x2) (.int .u64 (ks : Int)) (.int .u8 (kk : Int)) (.slice y1 vl y2) (.int .i64 oh) 40
      have htw := twin_own (wr.alloc (.cells #[.slice x1 nl x2, .int .u64 (ks : Int), .int .u8 (kk : Int), .slice y1 vl y2, .int .i64 oh] 40)) _ _ E.1 E.2.2.2 (ks : Int) (kk : Int) (rx.below hb0 (Nat.le_refl _)).arg (ry.below hb0 (Nat.le_refl _)).arg (by omega) (by omega)
      simp only [enV] at htw
      have HB0 : Hid (Below wr.heap.size wr (wr.alloc (.cells #[.slice x1 nl x2, .int .u64 (ks : Int), .int .u8 (kk : Int), .slice y1 vl y2, .int .i64 oh] 40))) := hb0
      have HX0 : Hid (Box5 (wr.alloc (.cells #[.slice x1 nl x2, .int .u64 (ks : Int), .int .u8 (kk : Int), .slice y1 vl y2, .int .i64 oh] 40)) wr.heap.size (.slice x1 nl x2) (.int .u64 (ks : Int)) (.int .u8 (kk : Int)) (.slice y1 vl y2) (.int .i64 oh)) := bx0
      have HRXY : Hid (Rd wr (.slice x1 nl x2) E.1 ∧ Rd wr (.slice y1 vl y2) E.2.2.2) := ⟨rx, ry⟩
      obtain ⟨z0, z1, z2, z3, z4⟩ := bx0
      clear ho h3 rx ry hsh hnl hks hkk hvl hb0 hj
      go_wp2_with fail
      refine htw.mono ?_
      rintro o2 v2 ⟨x5, y5, rfl, ox, oy, hb5⟩
      obtain ⟨tx, tc, ex⟩ := ox.rd.len
      obtain ⟨ty, td, ey⟩ := oy.rd.len
      rw [HE.out.1] at ex
      rw [HE.out.2] at ey
      subst ex ey
      have hb6 := below_box4 v2 (.cells #[.slice tx nl tc, .int .u64 (ks : Int), .int .u8 (kk : Int), .slice ty vl td] 38)
      have HBW : Hid (Below wr.heap.size wr (v2.alloc (.cells #[.slice tx nl tc, .int .u64 (ks : Int), .int .u8 (kk : Int), .slice ty vl td] 38))) := bsplit (bsplit HB0.out hb5) hb6
      have HM3 : Hid (Bx4 (v2.alloc (.cells #[.slice tx nl tc, .int .u64 (ks : Int), .int .u8 (kk : Int), .slice ty vl td] 38)) v2.heap.size (.slice tx nl tc) (.int .u64 (ks : Int)) (.int .u8 (kk : Int)) (.slice ty vl td)) := bx4_new v2 _ _ _ _ 38 (by decide)
      have HX3 : Hid (Box5 (v2.alloc (.cells #[.slice tx nl tc, .int .u64 (ks : Int), .int .u8 (kk : Int), .slice ty vl td] 38)) wr.heap.size (.slice x1 nl x2) (.int .u64 (ks : Int)) (.int .u8 (kk : Int)) (.slice y1 vl y2) (.int .i64 oh)) := (HX0.out.below hb5 (Nat.le_refl _)).below hb6 (Nat.le_refl _)
      have HOX : Hid (OwnN wr.heap.size (v2.alloc (.cells #[.slice tx nl tc, .int .u64 (ks : Int), .int .u8 (kk : Int), .slice ty vl td] 38)) (.slice tx nl tc) E.1 ∧ OwnN wr.heap.size (v2.alloc (.cells #[.slice tx nl tc, .int .u64 (ks : Int), .int .u8 (kk : Int), .slice ty vl td] 38)) (.slice ty vl td) E.2.2.2) := ⟨(ox.below hb6 (Nat.le_refl _)).mono (by have := HB0.out.size; omega), (oy.below hb6 (Nat.le_refl _)).mono (by have := HB0.out.size; omega)⟩
      obtain ⟨W3, hW3⟩ : ∃ W3, v2.alloc (.cells #[.slice tx nl tc, .int .u64 (ks : Int), .int .u8 (kk : Int), .slice ty vl td] 38) = W3 := ⟨_, rfl⟩
      obtain ⟨bm, hbm⟩ : ∃ bm, v2.heap.size = bm := ⟨_, rfl⟩
      rw [hW3] at HBW HM3 HX3 HOX
      rw [hbm] at HM3
      have hin := skinsert_nil W3 tx ty nl tc vl td (ks : Int) (kk : Int) oh
      simp only [enV] at hin
      obtain ⟨m0, m1, m2, m3⟩ := HM3.out.box
      obtain ⟨k0, k1, k2, k3, k4⟩ := HX3.out
      clear htw ox oy hb5 hb6 z0 z1 z2 z3 z4
      go_wp2_with fail
      clear hW3 hbm
      refine hin.mono ?_
      rintro o4 w4 ⟨rfl, hb4⟩
      have HB4 : Hid (Below W3.heap.size W3 w4) := hb4
      have hri := r8insert_nil w4 x1 y1 nl x2 vl y2 (ks : Int) (kk : Int) oh
      simp only [enV] at hri
      obtain ⟨n0', n1', n2', n3', n4'⟩ := HX3.out.below hb4 (Nat.le_refl _)
      clear hin hb4 m0 m1 m2 m3 k0 k1 k2 k3 k4 d0 d1 d2 d3 d4
      go_wp2_with fail
      refine hri.mono ?_
      rintro o5 w5 ⟨rfl, hb5⟩
      have HB5 : Hid (Below W3.heap.size W3 w5) := bsplit HB4.out hb5
      have HBR5 : Hid (Below wr.heap.size wr w5) := bsplit HBW.out HB5.out
      have hsm := sameen_any w5 (.slice tx nl tc) (.slice ty vl td) (.slice x1 nl x2) (.slice y1 vl y2) E.1 E.2.2.2 E.1 E.2.2.2 (ks : Int) (kk : Int) (ks : Int) (kk : Int) true (HOX.out.1.rd.below HB5.out (Nat.le_refl _)) (HOX.out.2.rd.below HB5.out (Nat.le_refl _)) (HRXY.out.1.below HBR5.out (Nat.le_refl _)) (HRXY.out.2.below HBR5.out (Nat.le_refl _)) (by simp)
      obtain ⟨m0, m1, m2, m3⟩ := (HM3.out.below HB5.out).box
      obtain ⟨k0, k1, k2, k3, k4⟩ := HX3.out.below HB5.out (Nat.le_refl _)
      clear hri hb5 n0' n1' n2' n3' n4'
      go_wp2_with fail
      refine hsm.mono ?_
      rintro o6 w6 ⟨rfl, hb6⟩
      have HB6 : Hid (Below W3.heap.size W3 w6) := bsplit HB5.out hb6
      have HP6 : Hid (Below wf.heap.size wf w6) := bsplit HP.out (bsplit HBW.out HB6.out)
      have HM6 : Hid (Bx4 w6 bm (.slice tx nl tc) (.int .u64 (ks : Int)) (.int .u8 (kk : Int)) (.slice ty vl td)) := HM3.out.below HB6.out
      have HSX6 : Hid (SomeM wf.heap.size w6 (.slice tx nl tc)) := ((someM_of HOX.out.1).mono HP.out.size).below HB6.out
      have HSY6 : Hid (SomeM wf.heap.size w6 (.slice ty vl td)) := ((someM_of HOX.out.2).mono HP.out.size).below HB6.out
      clear hsm hb6 m0 m1 m2 m3 k0 k1 k2 k3 k4
      obtain ⟨m0, m1, m2, m3⟩ := HM6.out.box
      go_wp2_with fail
      clear m0 m1 m2 m3
      go_loopg [70] vl (fun gk iv wr => ∃ i : Nat, gk + i = vl ∧ iv = .int .i64 (i : Int) ∧ Hid (Below wf.heap.size wf wr) ∧ Hid (Bx4 wr bm (.slice tx nl tc) (.int .u64 (ks : Int)) (.int .u8 (kk : Int)) (.slice ty vl td)) ∧ Hid (SomeM wf.heap.size wr (.slice tx nl tc)) ∧ Hid (SomeM wf.heap.size wr (.slice ty vl td)))
      case atStart => exact ⟨0, by omega, rfl, HP6, HM6, HSX6, HSY6⟩
      case round =>
        clear HM6 HSX6 HSY6 HP6
        obtain ⟨i, hi, rfl, HK, HM, HSX, HSY⟩ := hrel
        by_cases hlt3 : i < vl
        · obtain ⟨p1, p2⟩ : gk - 1 < gk ∧ gk - 1 + (i + 1) = vl := by omega
          rcases HSY.out with h | ⟨gx, n, c', e, hu, h1', h2', h3'⟩
          · cases h
            omega
          · cases e
            unfold maxLen at h2'
            obtain ⟨bb, hcx, hfx⟩ := u8_cell hu i hlt3
            have hxb := bb.toNat_lt
            have hx1 := xor_one bb
            have HQ1 : Hid (Below wf.heap.size wf _) := HK.out.setCell (p := ⟨gx, i, none⟩) h3' (.int .u8 ((bb ^^^ 1).toNat : Int))
            have HQ2 : Hid (Bx4 _ _ _ _ _ _) := HM.out.set (u := .int .u8 ((bb ^^^ 1).toNat : Int)) hu i
            have HQ3 : Hid (SomeM _ _ _) := HSX.out.set gx i (bb ^^^ 1)
            have HQ4 : Hid (SomeM _ _ _) := HSY.out.set gx i (bb ^^^ 1)
            obtain ⟨f0, f1, f2, f3⟩ := HM.out.box
            clear HK HM HSX HSY hu hi
            go_wp2
            go_roundg (gk - 1)
            case measure => exact p1
            case rel => exact ⟨i + 1, p2, by go_num, HQ1, HQ2, HQ3, HQ4⟩
        · obtain ⟨f0, f1, f2, f3⟩ := HM.out.box
          clear hi HSY
          go_wp2_with fail
          clear f0 f1 f2 f3
          go_loopg [85] nl (fun gk iv wr => ∃ i : Nat, gk + i = nl ∧ iv = .int .i64 (i : Int) ∧ Hid (Below wf.heap.size wf wr) ∧ Hid (Bx4 wr bm (.slice tx nl tc) (.int .u64 (ks : Int)) (.int .u8 (kk : Int)) (.slice ty vl td)) ∧ Hid (SomeM wf.heap.size wr (.slice tx nl tc)))
          case atStart => exact ⟨0, by omega, rfl, HK, HM, HSX⟩
          case round =>
            clear HK HM HSX
            obtain ⟨i', hi, rfl, HK, HM, HSX⟩ := hrel
            by_cases hlt4 : i' < nl
            · obtain ⟨p1, p2⟩ : gk - 1 < gk ∧ gk - 1 + (i' + 1) = nl := by omega
              rcases HSX.out with h | ⟨gx, n, c', e, hu, h1', h2', h3'⟩
              · cases h
                omega
              · cases e
                unfold maxLen at h2'
                obtain ⟨bb, hcx, hfx⟩ := u8_cell hu i' hlt4
                have hxb := bb.toNat_lt
                have hx1 := xor_one bb
                have HQ1 : Hid (Below wf.heap.size wf _) := HK.out.setCell (p := ⟨gx, i', none⟩) h3' (.int .u8 ((bb ^^^ 1).toNat : Int))
                have HQ2 : Hid (Bx4 _ _ _ _ _ _) := HM.out.set (u := .int .u8 ((bb ^^^ 1).toNat : Int)) hu i'
                have HQ3 : Hid (SomeM _ _ _) := HSX.out.set gx i' (bb ^^^ 1)
                obtain ⟨f0, f1, f2, f3⟩ := HM.out.box
                clear HK HM HSX hu hi
                go_wp2
                go_roundg (gk - 1)
                case measure => exact p1
                case rel => exact ⟨i' + 1, p2, by go_num, HQ1, HQ2, HQ3⟩
            · clear hi HM HSX
              go_wp2
              go_roundg (Gk - 1)
              case measure => exact q1
              case rel => exact ⟨j + 1, q2, by go_num, HK⟩
    · have hbT := below_box4 wr (.cells #[.slice none 0 0, .slice none 0 0] 31)
      have hx0 : (wr.alloc (.cells #[.slice none 0 0, .slice none 0 0] 31)).cell? ⟨wr.heap.size, 0, none⟩ = some (.slice none 0 0) := by rw [cell_of_row _ _ 0 _ _ _ (heap_alloc_new wr _)]; rfl
      have hx1 : (wr.alloc (.cells #[.slice none 0 0, .slice none 0 0] 31)).cell? ⟨wr.heap.size, 1, none⟩ = some (.slice none 0 0) := by rw [cell_of_row _ _ 1 _ _ _ (heap_alloc_new wr _)]; rfl
      obtain ⟨wT, hwT⟩ : ∃ wT, wr.alloc (.cells #[.slice none 0 0, .slice none 0 0] 31) = wT := ⟨_, rfl⟩
      obtain ⟨xb, hxb⟩ : ∃ xb, wr.heap.size = xb := ⟨_, rfl⟩
      rw [hwT] at hbT hx0 hx1
      rw [hxb] at hx0 hx1
      have HWT : Hid (Below w.heap.size w wT) := bsplit HBF.out (bsplit HP.out hbT)
      obtain ⟨ts, hts⟩ : ∃ ts : List Tow, ts = [] := ⟨_, rfl⟩
      obtain ⟨n, hn⟩ : ∃ n : Nat, n = 0 := ⟨_, rfl⟩
      obtain ⟨la, hla⟩ : ∃ la : Option Addr, la = none := ⟨_, rfl⟩
      obtain ⟨lc, hlc⟩ : ∃ lc : Nat, lc = 0 := ⟨_, rfl⟩
      obtain ⟨ha, hha⟩ : ∃ ha : Option Addr, ha = none := ⟨_, rfl⟩
      obtain ⟨hc, hhc⟩ : ∃ hc : Nat, hc = 0 := ⟨_, rfl⟩
      have X0 : wT.cell? ⟨xb, 0, none⟩ = some (.slice la n lc) := by rw [hla, hn, hlc]; exact hx0
      have X1 : wT.cell? ⟨xb, 1, none⟩ = some (.slice ha n hc) := by rw [hha, hn, hhc]; exact hx1
      have HT : Hid (Tells wT none ts) := by rw [hts]; exact tells_nil wT
      have HTS : Hid ((∀ t ∈ ts, 1 ≤ t.h ∧ t.h ≤ 8) ∧ riseB (esT ts) = true ∧ ts.length = n ∧ n ≤ 1000 ∧ LenT ts 1000) := by
        rw [hts, hn]
        exact ⟨fun t ht => by simp at ht, rfl, rfl, by omega, fun t ht => by simp at ht⟩
      have HSML : Hid (∀ e ∈ esT ts, e.1.length ≤ 1000 ∧ e.2.2.2.length ≤ 1000) := by
        rw [hts]
        exact fun e he => by simp [esT] at he
      have HRL : Hid (RdE wT (.slice la (esT ts).length lc) (esT ts)) := by
        rw [hts, hla, hlc]
        exact rdE_nil wT
      have HRH : Hid (wT.ownsRow 0 3 1 (.slice ha n hc) n (zv (htT ts))) := by
        rw [hts, hha, hn, hhc]
        exact World.ownsRow_nil _ _ _ _
      have g1 : n ≤ lc := by omega
      have g2 : lc ≤ 9223372036854775807 := by omega
      have g3 : n ≤ hc := by omega
      have g4 : hc ≤ 9223372036854775807 := by omega
      clear hbT hx0 hx1 hts hn hla hlc hha hhc hj h1 h2 HSH HN HB1 HRF
      have HR0 : Hid (RdE wT (.slice la (esT ts).length lc) (esT ts)) := HRL
      have HSE : Hid (sizL (esT ts) = sizT ts) := rfl
      have hET : (esT ts).length = n := by rw [esT_len]; exact HTS.out.2.2.1
      have HET : Hid ((esT ts).length = n) := hET
      have hn9 : n ≤ 1000 := HTS.out.2.2.2.1
      clear hET
      go_wp2_with fail
      clear hwT hxb
      have pT0 : Below wT.heap.size wT wT.drew := (Below.refl _ _).drew
      have hXc : ∀ W, Below wT.heap.size wT W → W.cell? ⟨xb, 0, none⟩ = some (.slice la n lc) := fun W hW => (hW.cell (p := ⟨xb, 0, none⟩) (World.block_lt_of_cell? _ _ X0)).trans X0
      have HXC : Hid (∀ W, Below wT.heap.size wT W → W.cell? ⟨xb, 0, none⟩ = some (.slice la n lc)) := hXc
      have HHC : Hid (∀ W, Below wT.heap.size wT W → W.cell? ⟨xb, 1, none⟩ = some (.slice ha n hc)) := fun W hW => (hW.cell (p := ⟨xb, 1, none⟩) (World.block_lt_of_cell? _ _ X1)).trans X1
      clear hXc
      go_region_held3 (fun w' => w'.cell? ⟨xb, 0, none⟩ = some (.slice la n lc))
        (first | exact HXC.out _ p5 | exact HXC.out _ p4 | exact HXC.out _ p3 | exact HXC.out _ p2 | exact HXC.out _ p1 | exact HXC.out _ pT0)
        (first
          | (go_at_call 17; refine (HT.out.all _ pT0).mono ?_; rintro o1 a1 ⟨v1, rfl, r1, b1⟩; have p1 : Below wT.heap.size wT a1 := bsplit pT0 b1; have hR1 := r1; obtain ⟨va1, vc1, hv1, _⟩ := r1; subst hv1; have hsm := sameens_any a1 _ (.slice la (esT ts).length lc) (esT ts) (esT ts) true hR1 (rdE_below HR0.out p1 (Nat.le_refl _)) (by simp); rw [HET.out] at hsm ⊢; clear hR1 b1)
          | (go_at_call 16; refine hsm.mono ?_; rintro o2 a2 ⟨rfl, b2⟩; have p2 : Below wT.heap.size wT a2 := bsplit p1 b2; have hln := HT.out.len a2 p2; rw [HTS.out.2.2.1] at hln; clear hsm b2)
          | (go_at_call 18; refine hln.mono ?_; rintro o3 a3 ⟨rfl, b3⟩; have p3 : Below wT.heap.size wT a3 := bsplit p2 b3; clear hln b3)
          | (go_at_call 19; refine (HT.out.siz a3 p3).mono ?_; rintro o4 a4 ⟨rfl, b4⟩; have p4 : Below wT.heap.size wT a4 := bsplit p3 b4; have hrs := r8size_any a4 (.slice la (esT ts).length lc) (esT ts) (rdE_below HR0.out p4 (Nat.le_refl _)) (by rw [HET.out]; exact hn9) HSML.out; rw [HET.out, HSE.out] at hrs; clear b4)
          | (go_at_call 20; refine hrs.mono ?_; rintro o5 a5 ⟨rfl, b5⟩; have p5 : Below wT.heap.size wT a5 := bsplit p4 b5; clear hrs b5)
          | fail)
      have P5 : Hid (Below wT.heap.size wT a5) := p5
      clear pT0 p1 p2 p3 p4 p5
      go_wp2_with fail
      go_loopg [15] 12 (fun gk zv0 wr => ∃ (d : Nat) (z : Int), gk + d = 12 ∧ zv0 = .int .i64 z ∧ -1 ≤ z ∧ z ≤ 11 ∧ Hid (z = (d : Int) - 1) ∧ Hid (Below wT.heap.size wT wr))
      case atStart => exact ⟨0, -1, by omega, rfl, by omega, by omega, by show _ = _; omega, P5⟩
      case round =>
        obtain ⟨d, z, hgd, rfl, hz0, hz1, HZ, HBZ⟩ := hrel
        by_cases hz10 : z ≤ 10
        · obtain ⟨Gd, hGd⟩ : ∃ G, G = gk := ⟨_, rfl⟩
          subst hGd
          obtain ⟨qa, qb⟩ : Gd - 1 < Gd ∧ Gd - 1 + (d + 1) = 12 := by have := HZ.out; omega
          have c0x := HXC.out _ HBZ.out
          clear hgd
          go_wp2_with fail
          clear c0x
          go_loopg [16, 138] n (fun gk wv iv wr => ∃ (i m c : Nat) (a : Option Addr), gk + i = n ∧ iv = .int .i64 (i : Int) ∧ wv = .slice a m c ∧ m ≤ i ∧ Hid ((wantT ts z i).length = m) ∧ Hid (OnceK wT.heap.size wT wr (.slice a m c) (wantT ts z i)) ∧ Hid (Below wT.heap.size wT wr))
          case atStart => exact ⟨0, 0, 0, none, by omega, rfl, rfl, Nat.le_refl _, by show _ = _; simp [wantT], by show OnceK _ _ _ _ _; rw [show wantT ts z 0 = [] by simp [wantT]]; exact OnceK.nil _ _ _, HBZ⟩
          case round =>
            obtain ⟨i, m, c, a, hgi, rfl, rfl, hmi, HWL, HOK, HBI⟩ := hrel
            by_cases hlti : i < n
            · have l2 : i < (esT ts).length := by rw [HET.out]; exact hlti
              have l3 : i < ts.length := by rw [HTS.out.2.2.1]; exact hlti
              obtain ⟨_, _, e0, _, _, h4⟩ := rdE_below (show RdE wT (.slice la (esT ts).length lc) (esT ts) from HR0.out) HBI.out (Nat.le_refl _)
              cases e0
              obtain ⟨p, o, rfl, xv, yv, e0, e1, e2, e3, rx, ry⟩ := h4 i l2
              obtain ⟨_, _, e9, _, _, h9⟩ := HR0.out
              cases e9
              obtain ⟨p', o', epo, xw, yw, f0, _, _, _, rxf, _⟩ := h9 i l2
              cases epo
              obtain rfl : xw = xv := by
                have h8 := HBI.out.cell (p := ⟨p, o + i * 4, none⟩) (World.block_lt_of_cell? _ _ f0)
                rw [h8, f0] at e0
                exact Option.some.inj e0
              obtain ⟨u1, u2, ex⟩ := rx.len
              obtain ⟨u3, u4, ey⟩ := ry.len
              subst ex ey
              obtain ⟨q3, q4⟩ : gk - 1 < gk ∧ gk - 1 + (i + 1) = n := by omega
              have hwn := want_next (z := z) l3
              have hte : ts[i].e = (esT ts)[i] := (esT_get l3).symm
              rw [hte] at hwn
              obtain ⟨hgt, hhgt⟩ : ∃ h : Int, (ts[i].h : Int) = h := ⟨_, rfl⟩
              rw [hhgt] at hwn
              -- the height
              obtain ⟨hg0, hcel⟩ : ∃ g, ha = some ⟨g, 0, none⟩ ∧ wr.cell? ⟨g, i, none⟩ = some (.int .i64 hgt) := by
                obtain ⟨cs0, hr0⟩ : ∃ x, x = HRH.out := ⟨_, rfl⟩
                have hrr := HRH.out
                rcases hrr.2 with ⟨ev, hn0⟩ | ⟨g, cap, cur, ev, _, hgo, _⟩
                · omega
                · cases ev
                  refine ⟨g, rfl, ?_⟩
                  have h8 := hrr.cells (g := g) rfl i (.int .i64 hgt) (by
                    unfold zv htT
                    rw [List.getElem?_map, List.getElem?_map, List.getElem?_eq_getElem l3]
                    simp [hhgt])
                  rw [Addr.add_lit, Nat.zero_add] at h8
                  exact (HBI.out.cell (p := ⟨g, i, none⟩) (World.block_lt_of_cell? _ _ h8)).trans h8
              obtain ⟨rfl, hcc⟩ := hcel
              obtain ⟨⟨ku, ks, kd, kv⟩, hX⟩ : ∃ o, (esT ts)[i] = o := ⟨_, rfl⟩
              rw [hX] at e0 e1 e2 e3 rx ry rxf hwn
              simp only [kyE] at hwn
              simp only at e0 e1 e2 e3 rx ry rxf
              obtain ⟨m1, hm1⟩ : ∃ nl, ku.length = nl := ⟨_, rfl⟩
              obtain ⟨m2, hm2⟩ : ∃ oln, kv.length = oln := ⟨_, rfl⟩
              obtain ⟨kk, hkk⟩ : ∃ z, kd.toNat = z := ⟨_, rfl⟩
              rw [hm1] at e0 rx rxf
              rw [hm2] at e3
              rw [hkk] at e2
              have HXF : Hid (Rd wT (.slice u1 m1 u2) ku) := rxf
              have HKK : Hid (kd.toNat = kk) := hkk
              have HWN : Hid (wantT ts z (i + 1) = if 1 ≤ z ∧ z ≤ hgt then wantT ts z i ++ [(ku, ks, kd)] else wantT ts z i) := hwn
              have hb5 := below_box4 wr (.cells #[.slice u1 m1 u2, .int .u64 (ks : Int), .int .u8 (kk : Int), .slice u3 m2 u4] 38)
              have HB5 : Hid (Below wT.heap.size wT (wr.alloc (.cells #[.slice u1 m1 u2, .int .u64 (ks : Int), .int .u8 (kk : Int), .slice u3 m2 u4] 38))) := bsplit HBI.out hb5
              obtain ⟨y0, y1', y2', y3⟩ := box4_new wr (.slice u1 m1 u2) (.int .u64 (ks : Int)) (.int .u8 (kk : Int)) (.slice u3 m2 u4) 38
              have HOK5 : Hid (OnceK wT.heap.size wT (wr.alloc (.cells #[.slice u1 m1 u2, .int .u64 (ks : Int), .int .u8 (kk : Int), .slice u3 m2 u4] 38)) (.slice a m c) (wantT ts z i)) := HOK.out.below hb5
              have hc5 := (hb5.cell (p := ⟨hg0, i, none⟩) (World.block_lt_of_cell? _ _ hcc)).trans hcc
              have c1x := HHC.out _ HB5.out
              clear h4 h9 rx ry rxf hX hm1 hm2 hkk hb5 hwn hte hhgt f0 hcc
              by_cases hz1c : 1 ≤ z
              · by_cases hzh : z ≤ hgt
                · obtain ⟨cs, hrow, hel⟩ := HOK5.out
                  rw [HWL.out] at hrow
                  have HEL : Hid (∀ j (h : j < (wantT ts z i).length), ∃ x, cs[j * 3]? = some x ∧ cs[j * 3 + 1]? = some (.int .u64 ((wantT ts z i)[j].2.1 : Int)) ∧ cs[j * 3 + 2]? = some (.int .u8 ((wantT ts z i)[j].2.2.toNat : Int)) ∧ Rd wT x (wantT ts z i)[j].1) := hel
                  have HRW : Hid (cs.length = m * 3) := hrow.1
                  have hrow6 := row_below hrow (below_box4 _ (.cells #[.slice u1 m1 u2, .int .u64 (ks : Int), .int .u8 (kk : Int)] 36))
                  have hlit := laid3 (wr.alloc (.cells #[.slice u1 m1 u2, .int .u64 (ks : Int), .int .u8 (kk : Int), .slice u3 m2 u4] 38)) (.slice u1 m1 u2) (.int .u64 (ks : Int)) (.int .u8 (kk : Int)) 36
                  have hB6 := bsplit HB5.out (below_box4 (wr.alloc (.cells #[.slice u1 m1 u2, .int .u64 (ks : Int), .int .u8 (kk : Int), .slice u3 m2 u4] 38)) (.cells #[.slice u1 m1 u2, .int .u64 (ks : Int), .int .u8 (kk : Int)] 36))
                  have hse := hB6.size
                  have HB6 : Hid (Below wT.heap.size wT _) := hB6
                  simp only [World.size_alloc] at hlit
                  have HMI : Hid (m ≤ 1000) := by show _ ≤ _; omega
                  clear hel hrow hB6
                  go_wp2_with (first
                    | (at_builtin; refine wpList_append_lies _ rfl (.tmp 156) (.tmp 159) 23 rfl wT.heap.size 36 k0i (.agg #[.slice none 0 0, .int .u64 0, .int .u8 0]) 3 40 Try.underlying23 hki hkz0 hkz1 hkz2 rfl (by decide) (.slice a m c) m cs rfl hrow6 ⟨wr.heap.size + 1, 0, none⟩ 1 1 [.slice u1 m1 u2, .int .u64 (ks : Int), .int .u8 (kk : Int)] rfl rfl hlit (one3 _ _ _ _ _) (by decide) (by have := HMI.out; simp only [maxLen]; omega) (by have := HMI.out; omega) hse _ rfl ?_; intro g4 c4 w4 hown hgrow hat hlt4; rw [← HKK.out] at hown; have HP9 : Hid (OnceK wT.heap.size wT w4 (.slice (some ⟨g4, 0, none⟩) (m + 1) c4) (wantT ts z i ++ [(ku, ks, kd)])) := OnceK.push (ku, ks, kd) HWL.out HRW.out HEL.out HXF.out hown; have HB9 : Hid (Below wT.heap.size wT w4) := HB6.out.grown hgrow HB6.out.size (fun k' e => (hrow6.lt k' e).1); clear hown hgrow hat hlt4)
                    | fail)
                  clear hrow6 hlit hse
                  have HWE : Hid (wantT ts z (i + 1) = wantT ts z i ++ [(ku, ks, kd)]) := by show _ = _; rw [HWN.out, if_pos ⟨hz1c, hzh⟩]
                  go_roundg (gk - 1)
                  case measure => exact q3
                  case rel => exact ⟨i + 1, m + 1, c4, _, q4, by go_num, rfl, by omega, by show _ = _; rw [HWE.out, List.length_append, HWL.out]; rfl, by show OnceK _ _ _ _ _; rw [HWE.out]; exact HP9.out, HB9⟩
                · have HWE : Hid (wantT ts z (i + 1) = wantT ts z i) := by show _ = _; rw [HWN.out, if_neg (fun h => hzh h.2)]
                  go_wp2
                  go_roundg (gk - 1)
                  case measure => exact q3
                  case rel => exact ⟨i + 1, m, c, a, q4, by go_num, rfl, by omega, by show _ = _; rw [HWE.out]; exact HWL.out, by show OnceK _ _ _ _ _; rw [HWE.out]; exact HOK5.out, HB5⟩
              · have HWE : Hid (wantT ts z (i + 1) = wantT ts z i) := by show _ = _; rw [HWN.out, if_neg (fun h => hz1c h.1)]
                go_wp2
                go_roundg (gk - 1)
                case measure => exact q3
                case rel => exact ⟨i + 1, m, c, a, q4, by go_num, rfl, by omega, by show _ = _; rw [HWE.out]; exact HWL.out, by show OnceK _ _ _ _ _; rw [HWE.out]; exact HOK5.out, HB5⟩
            · have hni : n = i := by omega
              subst hni
              have hrw := HT.out.row wr z HBI.out
              rw [HTS.out.2.2.1] at hrw
              have HRW0 : Hid (RdKs wr (.slice a m c) (wantT ts z n)) := HOK.out.rd HBI.out
              clear hgi
              go_wp2_with fail
              refine hrw.mono ?_
              rintro o7 w7 ⟨v7, rfl, r7, b7⟩
              have HR7 : Hid (RdKs w7 v7 (wantT ts z n)) := r7
              obtain ⟨ga, gc, hv7, gg1, gg2, _⟩ := r7
              subst hv7
              have HW7 : Hid (RdKs w7 (.slice a m c) (wantT ts z n)) := HRW0.out.below b7
              obtain ⟨ca', cc', hcw, cw1, cw2, _⟩ := HRW0.out
              have HB7 : Hid (Below wT.heap.size wT w7) := bsplit HBI.out b7
              rw [HWL.out] at gg1 ⊢
              unfold maxLen at gg2 cw2
              have hmc : m ≤ c ∧ c ≤ 9223372036854775807 := by
                rw [HWL.out] at hcw cw1
                cases hcw
                exact ⟨cw1, cw2⟩
              clear hrw b7 HRW0 hcw cw1 cw2
              go_wp2_with fail
              go_loopg [172] m (fun gk iv wr => ∃ i : Nat, gk + i = m ∧ iv = .int .i64 (i : Int) ∧ Hid (Below w7.heap.size w7 wr))
              case atStart => exact ⟨0, by omega, rfl, Below.refl _ _⟩
              case round =>
                obtain ⟨i, hgi, rfl, HB8⟩ := hrel
                by_cases hlt4 : i < m
                · have hi2 : i < (wantT ts z n).length := by rw [HWL.out]; exact hlt4
                  obtain ⟨q5, q6⟩ : gk - 1 < gk ∧ gk - 1 + (i + 1) = m := by omega
                  obtain ⟨_, _, e1, _, _, h5⟩ := HR7.out.below HB8.out
                  cases e1
                  obtain ⟨b1, off1, rfl, x1v, s0, s1, s2, rs⟩ := h5 i hi2
                  have hw8 := HW7.out.below HB8.out
                  rw [← HWL.out] at hw8
                  obtain ⟨_, _, e2, _, _, h6⟩ := hw8
                  cases e2
                  obtain ⟨b2, off2, rfl, x2v, t0, t1, t2, rt⟩ := h6 i hi2
                  obtain ⟨x1a, x1c, ex1⟩ := rs.len
                  obtain ⟨x2a, x2c, ex2⟩ := rt.len
                  subst ex1 ex2
                  obtain ⟨⟨ku, ks, kd⟩, hK⟩ : ∃ K, (wantT ts z n)[i] = K := ⟨_, rfl⟩
                  rw [hK] at s0 s1 s2 rs t0 t1 t2 rt
                  simp only at s0 s1 s2 rs t0 t1 t2 rt
                  obtain ⟨m1, hm1⟩ : ∃ nl, ku.length = nl := ⟨_, rfl⟩
                  obtain ⟨kk, hkk⟩ : ∃ z, kd.toNat = z := ⟨_, rfl⟩
                  rw [hm1] at s0 rs t0 rt
                  rw [hkk] at s2 t2
                  have hss := keysame_any wr.drew (.slice x1a m1 x1c) (.slice x2a m1 x2c) ku ku (ks : Int) (kk : Int) (ks : Int) (kk : Int) true rs.drew rt.drew (by simp)
                  obtain ⟨hI0, hI1⟩ : (0 : Int) ≤ (i : Int) ∧ (i : Int) < (m : Int) := by omega
                  have HB9 : Hid (Below w7.heap.size w7 wr.drew) := HB8.out.drew
                  clear h5 h6 hK hm1 hkk rs rt hgi
                  go_wp2_with fail
                  go_region_held3 (fun w' => (w'.cell? ⟨b1, off1 + i * 3, none⟩ = some (.slice x1a m1 x1c) ∧ w'.cell? ⟨b1, off1 + i * 3 + 1, none⟩ = some (.int .u64 (ks : Int)) ∧ w'.cell? ⟨b1, off1 + i * 3 + 2, none⟩ = some (.int .u8 (kk : Int))) ∧ (w'.cell? ⟨b2, off2 + i * 3, none⟩ = some (.slice x2a m1 x2c) ∧ w'.cell? ⟨b2, off2 + i * 3 + 1, none⟩ = some (.int .u64 (ks : Int)) ∧ w'.cell? ⟨b2, off2 + i * 3 + 2, none⟩ = some (.int .u8 (kk : Int))))
                    (first | exact ⟨⟨s0', s1', s2'⟩, ⟨t0', t1', t2'⟩⟩ | exact ⟨⟨s0, s1, s2⟩, ⟨t0, t1, t2⟩⟩)
                    (first
                      | (go_at_call 22; refine hss.mono ?_; rintro o8 w9 ⟨rfl, b9⟩; have s0' := (b9.cell (p := ⟨b1, off1 + i * 3, none⟩) (World.block_lt_of_cell? _ _ s0)).trans s0; have s1' := (b9.cell (p := ⟨b1, off1 + i * 3 + 1, none⟩) (World.block_lt_of_cell? _ _ s1)).trans s1; have s2' := (b9.cell (p := ⟨b1, off1 + i * 3 + 2, none⟩) (World.block_lt_of_cell? _ _ s2)).trans s2; have t0' := (b9.cell (p := ⟨b2, off2 + i * 3, none⟩) (World.block_lt_of_cell? _ _ t0)).trans t0; have t1' := (b9.cell (p := ⟨b2, off2 + i * 3 + 1, none⟩) (World.block_lt_of_cell? _ _ t1)).trans t1; have t2' := (b9.cell (p := ⟨b2, off2 + i * 3 + 2, none⟩) (World.block_lt_of_cell? _ _ t2)).trans t2; have HB10 : Hid (Below w7.heap.size w7 w9) := bsplit HB9.out b9; clear b9)
                      | fail)
                  all_goals
                    go_wp2_with fail
                    go_roundg (gk - 1)
                    case measure => exact q5
                    case rel => exact ⟨i + 1, q6, by go_num, HB10⟩
                · have HB11 : Hid (Below wT.heap.size wT wr) := bsplit HB7.out HB8.out
                  have hz2 : -1 ≤ z + 1 ∧ z + 1 ≤ 11 := by omega
                  clear hgi
                  go_wp2
                  go_roundg (Gd - 1)
                  case measure => exact qa
                  case rel => exact ⟨d + 1, z + 1, qb, by go_num, hz2.1, hz2.2, by show _ = _; rw [HZ.out]; omega, HB11⟩
        · have hpl : pl.length = pn := by
            obtain ⟨_, _, hpe, _⟩ := HPA.out
            injection hpe with _ h9 _
            exact h9.symm
          have hpc : pn ≤ pc ∧ pc ≤ 9223372036854775807 := by
            obtain ⟨_, _, hpe, h8, h9, _⟩ := HPA.out
            unfold maxLen at h9
            injection hpe with _ e1 e2
            omega
          obtain ⟨hpc1, hpc2⟩ := hpc
          have HPL : Hid (pl.length = pn) := hpl
          have HPA2 : Hid (ArgKs w (.slice pa pl.length pc) pl) := by rw [hpl]; exact HPA.out
          clear hpl hgd
          go_wp2_with fail
          go_loopg [188] pn (fun gk iv wr => ∃ i : Nat, gk + i = pn ∧ iv = .int .i64 (i : Int) ∧ Hid (Below wT.heap.size wT wr))
          case atStart => exact ⟨0, by omega, rfl, HBZ⟩
          case round =>
            obtain ⟨i, hgi, rfl, HBI⟩ := hrel
            by_cases hlti : i < pn
            · have hi2 : i < pl.length := by rw [HPL.out]; exact hlti
              obtain ⟨qa, qb⟩ : gk - 1 < gk ∧ gk - 1 + (i + 1) = pn := by omega
              have hBw : Below w.heap.size w wr := bsplit HWT.out HBI.out
              obtain ⟨_, _, e, _, _, h3⟩ := argKs_below HPA2.out hBw (Nat.le_refl _)
              cases e
              obtain ⟨bp, offp, rfl, x, c0', c1', c2', rx⟩ := h3 i hi2
              obtain ⟨x1, x2, ex⟩ := Arg.shape rx
              subst ex
              obtain ⟨⟨ku, ks, kd⟩, hK⟩ : ∃ K, pl[i] = K := ⟨_, rfl⟩
              rw [hK] at c0' c1' c2' rx
              simp only at c0' c1' c2' rx
              obtain ⟨kk, hkk⟩ : ∃ z, kd.toNat = z := ⟨_, rfl⟩
              obtain ⟨nl, hnl⟩ : ∃ z, ku.length = z := ⟨_, rfl⟩
              have HKK : Hid (kd.toNat = kk) := hkk
              have HNL : Hid (ku.length = nl) := hnl
              rw [hkk] at c2'
              rw [hnl] at c0' rx
              have hb5 := below_box4 wr (.cells #[.slice x1 nl x2, .int .u64 (ks : Int), .int .u8 (kk : Int)] 36)
              have bx5 := box_new wr (.slice x1 nl x2) (.int .u64 (ks : Int)) (.int .u8 (kk : Int)) 36
              have HB5 : Hid (Below wT.heap.size wT (wr.alloc (.cells #[.slice x1 nl x2, .int .u64 (ks : Int), .int .u8 (kk : Int)] 36))) := bsplit HBI.out hb5
              have hrx5 := rx.below hb5 (Nat.le_refl _)
              clear h3 hK hkk hnl rx hgi hBw
              by_cases h20 : 20 ≤ i
              · have HB20 : Hid (Below w.heap.size w (wr.alloc (.cells #[.slice x1 nl x2, .int .u64 (ks : Int), .int .u8 (kk : Int)] 36))) := bsplit HWT.out HB5.out
                clear hb5 bx5 hrx5
                go_wp2
                go_ret
                exact ⟨rfl, HB20.out⟩
              · obtain ⟨W1, hW1⟩ : ∃ W1, wr.alloc (.cells #[.slice x1 nl x2, .int .u64 (ks : Int), .int .u8 (kk : Int)] 36) = W1 := ⟨_, rfl⟩
                obtain ⟨bk, hbk⟩ : ∃ bk, wr.heap.size = bk := ⟨_, rfl⟩
                have hs1 : W1.heap.size = bk + 1 := by rw [← hW1, ← hbk]; simp
                rw [hW1] at bx5 HB5 hrx5
                rw [hbk] at bx5
                have BK : Hid (Box W1 bk (.slice x1 nl x2) (.int .u64 (ks : Int)) (.int .u8 (kk : Int))) := bx5
                have HS1 : Hid (W1.heap.size = bk + 1) := hs1
                obtain ⟨y0, y1', y2', fz0, fz1, fz2⟩ := bx5
                have HBK : Hid (wT.heap.size ≤ bk) := by show _ ≤ _; rw [← hbk]; exact HBI.out.size
                clear hb5
                go_upto_region 51 with fail
                clear hW1 hbk
                go_cut [22] (fun kv wx => ∃ (qa9 : Option Addr) (qn qc : Nat), kv = .pointer (some ⟨bk, 0, none⟩) ∧ Hid (Box wx bk (.slice qa9 qn qc) (.int .u64 (ks : Int)) (.int .u8 (kk : Int))) ∧ Hid (Rd wx (.slice qa9 qn qc) (ku.take 80)) ∧ Hid (Below wT.heap.size wT wx))
                case first =>
                  have hown0 : (W1.alloc (.cells #[] 5)).ownsRow W1.heap.size 5 1 (.slice (some ⟨W1.heap.size, 0, none⟩) 0 0) 0 [] := World.ownsRow_lit W1 #[] 0 (Nat.le_refl _) (Nat.zero_le _) rfl
                  have hb2 := below_box4 W1 (.cells #[] 5)
                  have hrx6 := hrx5.below hb2 (Nat.le_refl _)
                  have BK2 : Hid (Box (W1.alloc (.cells #[] 5)) bk (.slice x1 nl x2) (.int .u64 (ks : Int)) (.int .u8 (kk : Int))) := BK.out.alloc _
                  have HB6 : Hid (Below wT.heap.size wT (W1.alloc (.cells #[] 5))) := bsplit HB5.out hb2
                  rw [HS1.out] at hown0
                  rcases hrx6 with ⟨hxe, hke⟩ | ⟨ad, cap, hxe, h1a, h2a, h3a⟩
                  · cases hxe
                    have hmin : min (0 : Int) 80 = 0 := by omega
                    have HKE : Hid (ku.take 80 = []) := by show _ = _; rw [hke]; rfl
                    have HOW : Hid ((W1.alloc (.cells #[] 5)).ownsRow (bk + 1) 5 1 (.slice (some ⟨bk + 1, 0, none⟩) 0 0) 0 []) := hown0
                    clear hown0 hb2 hke
                    have HF : Hid (Box ((W1.setCell ⟨bk, 0, none⟩ (.slice (some ⟨bk + 1, 0, none⟩) 0 0)).alloc (.cells #[] 5)) bk (.slice (some ⟨bk + 1, 0, none⟩) 0 0) (.int .u64 (ks : Int)) (.int .u8 (kk : Int))) := (box_set0 BK.out _).alloc _
                    have HG : Hid (Below wT.heap.size wT ((W1.setCell ⟨bk, 0, none⟩ (.slice (some ⟨bk + 1, 0, none⟩) 0 0)).alloc (.cells #[] 5))) := by
                      have h9 := HB5.out.setCell (p := ⟨bk, 0, none⟩) HBK.out (.slice (some ⟨bk + 1, 0, none⟩) 0 0)
                      exact h9.alloc h9.size _
                    clear BK2 HB6 HOW
                    go_wp2_with fail
                    go_meet
                    exact ⟨_, _, _, rfl, HF, by show Rd _ _ _; rw [HKE.out]; exact .inr ⟨bk + 1, 0, 0, rfl, Nat.le_refl _, Nat.zero_le _, fun j u hu => by simp [bv] at hu⟩, HG⟩
                  · injection hxe with e1 e2 e3
                    subst e1
                    subst e3
                    clear e2
                    unfold maxLen at h2a
                    obtain ⟨kq, hkq⟩ : ∃ k, (ku.take 80).length = k := ⟨_, rfl⟩
                    have HKQ : Hid ((ku.take 80).length = kq) := hkq
                    have hk2 : kq = min nl 80 := by rw [← hkq, List.length_take, HNL.out, Nat.min_comm]
                    rw [HNL.out] at h1a
                    have hmin : min (nl : Int) 80 = (kq : Int) := by omega
                    have hmin2 : (if 80 < nl then (80 : Int) else (nl : Int)) = (kq : Int) := by split <;> omega
                    have hkl : kq ≤ nl := by omega
                    have hkc : kq ≤ x2 := by omega
                    have hkI : (0 : Int) ≤ (kq : Int) := by omega
                    have hkJ : (kq : Int) ≤ (x2 : Int) := by omega
                    have hkK : (kq : Int) ≤ (nl : Int) := by omega
                    have hnews : ∀ j u, (bv (ku.take 80))[j]? = some u → (W1.alloc (.cells #[] 5)).cell? (ad.add j) = some u := fun j u hu => h3a j u (by
                      rw [← hu]
                      have hj : j < kq := by have := (List.getElem?_eq_some_iff.1 hu).1; rw [bv_length] at this; omega
                      simp [bv, show j < 80 by omega])
                    have hse : bk + 1 ≤ (W1.alloc (.cells #[] 5)).heap.size := by rw [← HS1.out]; exact hb2.size
                    have hk80 : kq ≤ 80 := by omega
                    clear h3a hk2 hb2
                    go_wp2_with (first
                      | (at_builtin; refine wpList_append_own _ rfl (.tmp 195) (.tmp 202) 33 rfl (bk + 1) 5 i5 (.int .u8 0) 1 1 Try.underlying33 hi5 hv0 hv1 hv2 rfl (by decide) (.slice (some ⟨bk + 1, 0, none⟩) 0 0) 0 [] rfl hown0 ad kq x2 (bv (ku.take 80)) rfl (by rw [bv_length, HKQ.out]; omega) hnews (bv_one _) (by unfold maxLen; omega) (by omega) hse ?_; intro v' w5 hw2 hg5 hw4; rw [Nat.zero_add] at hw2; have HRW : Hid (w5.ownsRow (bk + 1) 5 1 v' kq ([] ++ bv (ku.take 80))) := hw2; have BK5 : Hid (Box w5 bk (.slice (some ad) nl x2) (.int .u64 (ks : Int)) (.int .u8 (kk : Int))) := BK2.out.grown hg5 (by simp [Value.ownBlock]); have HB7 : Hid (Below wT.heap.size wT w5) := HB6.out.grown hg5 HB6.out.size (fun q e => by cases e; exact Nat.le_succ_of_le HBK.out); obtain ⟨qa8, qc8, hv8, _⟩ := rowAny_shape hw2; subst hv8; obtain ⟨t0, t1, t2, tz0, tz1, tz2⟩ := BK5.out; clear hw2 hg5 hw4)
                      | fail)
                    have HFB : Hid (Box _ bk (.slice qa8 kq qc8) (.int .u64 (ks : Int)) (.int .u8 (kk : Int))) := box_set0 BK5.out (.slice qa8 kq qc8)
                    have HFR : Hid (Rd (w5.setCell ⟨bk, 0, none⟩ (.slice qa8 kq qc8)) (.slice qa8 kq qc8) (ku.take 80)) := rd_set_far (rd_of_row HRW.out HKQ.out) (fun q hq => by have := (HRW.out.lt q hq).1; omega)
                    have HFG : Hid (Below wT.heap.size wT (w5.setCell ⟨bk, 0, none⟩ (.slice qa8 kq qc8))) := HB7.out.setCell (p := ⟨bk, 0, none⟩) HBK.out _
                    go_meet
                    exact ⟨_, _, _, rfl, HFB, HFR, HFG⟩
                case rest =>
                  obtain ⟨qa9, qn, qc, rfl, HBX, HRK, HBC⟩ := hcut
                  have hfr := HT.out.from_ wc (.slice qa9 qn qc) (ku.take 80, ks, kd, []) HBC.out HRK.out
                  simp only [HKK.out] at hfr
                  obtain ⟨qf, hqf⟩ : ∃ q, (esT ts)[cntE (esT ts) (ku.take 80, ks, kd, [])]? = q := ⟨_, rfl⟩
                  obtain ⟨qg, hqg⟩ : ∃ q, (if cntE (esT ts) (ku.take 80, ks, kd, []) = 0 then none else (esT ts)[cntE (esT ts) (ku.take 80, ks, kd, []) - 1]?) = q := ⟨_, rfl⟩
                  have HQF : Hid ((esT ts)[cntE (esT ts) (ku.take 80, ks, kd, [])]? = qf) := hqf
                  have HQG : Hid ((if cntE (esT ts) (ku.take 80, ks, kd, []) = 0 then none else (esT ts)[cntE (esT ts) (ku.take 80, ks, kd, []) - 1]?) = qg) := hqg
                  rw [hqf] at hfr
                  clear hqf hqg
                  obtain ⟨t0, t1, t2, tz0, tz1, tz2⟩ := HBX.out
                  go_wp2_with fail
                  refine hfr.mono ?_
                  rintro o8 w8 h8
                  obtain ⟨xa1, ya1, xn1, xc1, yn1, yc1, rfl, hrx1, hry1, hb8⟩ := told_found h8
                  have hb81 := below_box4 w8 (.cells #[.slice xa1 xn1 xc1, .int .u64 (fs qf), .int .u8 (fk qf), .slice ya1 yn1 yc1] 38)
                  have hBa : Below wc.heap.size wc (w8.alloc (.cells #[.slice xa1 xn1 xc1, .int .u64 (fs qf), .int .u8 (fk qf), .slice ya1 yn1 yc1] 38)) := bsplit hb8 hb81
                  have HA1 : Hid (Box4 (w8.alloc (.cells #[.slice xa1 xn1 xc1, .int .u64 (fs qf), .int .u8 (fk qf), .slice ya1 yn1 yc1] 38)) w8.heap.size (.slice xa1 xn1 xc1) (.int .u64 (fs qf)) (.int .u8 (fk qf)) (.slice ya1 yn1 yc1)) := box4_new w8 _ _ _ _ _
                  have HR1 : Hid (Rd (w8.alloc (.cells #[.slice xa1 xn1 xc1, .int .u64 (fs qf), .int .u8 (fk qf), .slice ya1 yn1 yc1] 38)) (.slice xa1 xn1 xc1) (fx qf) ∧ Rd (w8.alloc (.cells #[.slice xa1 xn1 xc1, .int .u64 (fs qf), .int .u8 (fk qf), .slice ya1 yn1 yc1] 38)) (.slice ya1 yn1 yc1) (fy qf)) := ⟨hrx1.below hb81 (Nat.le_refl _), hry1.below hb81 (Nat.le_refl _)⟩
                  obtain ⟨WA, hWA⟩ : ∃ WA, w8.alloc (.cells #[.slice xa1 xn1 xc1, .int .u64 (fs qf), .int .u8 (fk qf), .slice ya1 yn1 yc1] 38) = WA := ⟨_, rfl⟩
                  obtain ⟨ba, hba⟩ : ∃ ba, w8.heap.size = ba := ⟨_, rfl⟩
                  rw [hWA] at HA1 HR1 hBa
                  rw [hba] at HA1
                  have WABelow : Hid (Below wT.heap.size wT WA) := bsplit HBC.out hBa
                  have WAKey : Hid (Box WA bk (.slice qa9 qn qc) (.int .u64 (ks : Int)) (.int .u8 (kk : Int))) := HBX.out.below hBa (Nat.le_refl _)
                  have WARd : Hid (Rd WA (.slice qa9 qn qc) (ku.take 80)) := HRK.out.below hBa (Nat.le_refl _)
                  clear hfr h8 hrx1 hry1 hb8 hb81 hBa t0 t1 t2 tz0 tz1 tz2
                  have HLX : Hid (xb < WA.heap.size ∧ bk < WA.heap.size) := ⟨Nat.lt_of_lt_of_le (World.block_lt_of_cell? _ _ X0) WABelow.out.size, WAKey.out.lt⟩
                  go_upto_region 53 with fail
                  go_cut [25, 26] (fun bv0 rv wx => ∃ (bb : Nat) (xa ya : Option Addr) (xn xc yn yc : Nat), bv0 = .pointer (some ⟨bb, 0, none⟩) ∧ rv = .bool qf.isSome ∧ Hid (Box4 wx bb (.slice xa xn xc) (.int .u64 (fs qf)) (.int .u8 (fk qf)) (.slice ya yn yc)) ∧ Hid (Rd wT (.slice xa xn xc) (fx qf) ∧ Rd wT (.slice ya yn yc) (fy qf)) ∧ Hid (Below WA.heap.size WA wx))
                  case first =>
                    have hD0 := ((WABelow.out.drew).cell (p := ⟨xb, 0, none⟩) (World.block_lt_of_cell? _ _ X0)).trans X0
                    have hDZ := ((WABelow.out.alloc WABelow.out.size (.cells #[.slice none 0 0, .int .u64 0, .int .u8 0, .slice none 0 0] 38)).drew.cell (p := ⟨xb, 0, none⟩) (World.block_lt_of_cell? _ _ X0)).trans X0
                    have hKB := WAKey.out.drew
                    have hKZ := (WAKey.out.alloc (.cells #[.slice none 0 0, .int .u64 0, .int .u8 0, .slice none 0 0] 38)).drew
                    have hz := below_box4 WA (.cells #[.slice none 0 0, .int .u64 0, .int .u8 0, .slice none 0 0] 38)
                    have hrf0 := r8from_w wT WA.drew (.slice la (esT ts).length lc) (.slice qa9 qn qc) (esT ts) (ku.take 80, ks, kd, []) WABelow.out.drew HR0.out WARd.out.drew HTS.out.2.1 (by rw [HET.out]; exact hn9)
                    have hrfZ := r8from_w wT (WA.alloc (.cells #[.slice none 0 0, .int .u64 0, .int .u8 0, .slice none 0 0] 38)).drew (.slice la (esT ts).length lc) (.slice qa9 qn qc) (esT ts) (ku.take 80, ks, kd, []) (bsplit WABelow.out hz).drew HR0.out (WARd.out.below hz (Nat.le_refl _)).drew HTS.out.2.1 (by rw [HET.out]; exact hn9)
                    simp only [HET.out, HKK.out] at hrf0 hrfZ
                    rw [HQF.out] at hrf0 hrfZ
                    have HZB : Hid (Box4f (WA.alloc (.cells #[.slice none 0 0, .int .u64 0, .int .u8 0, .slice none 0 0] 38)).drew WA.heap.size (.slice none 0 0) (.int .u64 0) (.int .u8 0) (.slice none 0 0)) := ⟨(box4f_new WA _ _ _ _ _).bx.drew, (box4f_new WA _ _ _ _ _).f0, (box4f_new WA _ _ _ _ _).f1, (box4f_new WA _ _ _ _ _).f2, (box4f_new WA _ _ _ _ _).f3⟩
                    go_wp2_with fail
                    go_region_held3 (fun w' => w'.cell? ⟨xb, 0, none⟩ = some (.slice la n lc) ∧ w'.cell? ⟨bk, 0, none⟩ = some (.slice qa9 qn qc) ∧ w'.cell? ⟨bk, 1, none⟩ = some (.int .u64 (ks : Int)) ∧ w'.cell? ⟨bk, 2, none⟩ = some (.int .u8 (kk : Int)))
                      (first | with_reducible exact kS | with_reducible exact kA | with_reducible exact kC | with_reducible exact ⟨hDZ, hKZ.c0, hKZ.c1, hKZ.c2⟩ | exact ⟨hD0, hKB.c0, hKB.c1, hKB.c2⟩)
                      (first
                        | (go_at_call 24; refine hrf0.mono ?_; rintro o9 w9 h9; obtain ⟨xa, ya, xn, xc, yn, yc, rfl, hrx, hry, hb9⟩ := told_refW h9; have HBX9 : Hid (Below WA.heap.size WA w9) := bsplit (Below.refl _ _).drew hb9; have hD9 := (hb9.cell (p := ⟨xb, 0, none⟩) (World.block_lt_of_cell? _ _ hD0)).trans hD0; have hK9 := hKB.below hb9 (Nat.le_refl _); have kC := (⟨hD9, hK9.c0, hK9.c1, hK9.c2⟩ : _ ∧ _ ∧ _ ∧ _); have hz9 := below_box4 w9 (.cells #[.slice none 0 0, .int .u64 0, .int .u8 0, .slice none 0 0] 38); have hKA := hK9.alloc (.cells #[.slice none 0 0, .int .u64 0, .int .u8 0, .slice none 0 0] 38); have kA := (⟨(hz9.cell (p := ⟨xb, 0, none⟩) (World.block_lt_of_cell? _ _ hD9)).trans hD9, hKA.c0, hKA.c1, hKA.c2⟩ : _ ∧ _ ∧ _ ∧ _); have hz8 := below_box4 w9 (.cells #[.slice xa xn xc, .int .u64 (fs qf), .int .u8 (fk qf), .slice ya yn yc] 38); have hKS := hK9.alloc (.cells #[.slice xa xn xc, .int .u64 (fs qf), .int .u8 (fk qf), .slice ya yn yc] 38); have kS := (⟨(hz8.cell (p := ⟨xb, 0, none⟩) (World.block_lt_of_cell? _ _ hD9)).trans hD9, hKS.c0, hKS.c1, hKS.c2⟩ : _ ∧ _ ∧ _ ∧ _); have HRR : Hid (Rd wT (.slice xa xn xc) (fx qf) ∧ Rd wT (.slice ya yn yc) (fy qf)) := ⟨hrx, hry⟩; have HENB : Hid (Box4 (w9.alloc (.cells #[.slice xa xn xc, .int .u64 (fs qf), .int .u8 (fk qf), .slice ya yn yc] 38)) w9.heap.size (.slice xa xn xc) (.int .u64 (fs qf)) (.int .u8 (fk qf)) (.slice ya yn yc)) := box4_new w9 _ _ _ _ _; have HENG : Hid (Below WA.heap.size WA (w9.alloc (.cells #[.slice xa xn xc, .int .u64 (fs qf), .int .u8 (fk qf), .slice ya yn yc] 38))) := bsplit HBX9.out hz8; clear hrx hry h9)
                        | (go_at_call 24; refine hrfZ.mono ?_; rintro o9 w9 h9; obtain ⟨xa, ya, xn, xc, yn, yc, rfl, hrx, hry, hb9⟩ := told_refW h9; have HBX9 : Hid (Below WA.heap.size WA w9) := bsplit hz.drew hb9; have hD9 := (hb9.cell (p := ⟨xb, 0, none⟩) (World.block_lt_of_cell? _ _ hDZ)).trans hDZ; have hK9 := hKZ.below hb9 (Nat.le_refl _); have kC := (⟨hD9, hK9.c0, hK9.c1, hK9.c2⟩ : _ ∧ _ ∧ _ ∧ _); obtain ⟨⟨u0, u1, u2, u3⟩, fu0, fu1, fu2, fu3⟩ := HZB.out.below hb9 (Nat.le_refl _); have hst := below_st4 (Below.refl WA.heap.size w9) (Nat.le_refl _) (.slice xa xn xc) (.int .u64 (fs qf)) (.int .u8 (fk qf)) (.slice ya yn yc); have kS := (⟨(hst.cell (p := ⟨xb, 0, none⟩) HLX.out.1).trans hD9, (hst.cell (p := ⟨bk, 0, none⟩) HLX.out.2).trans hK9.c0, (hst.cell (p := ⟨bk, 1, none⟩) HLX.out.2).trans hK9.c1, (hst.cell (p := ⟨bk, 2, none⟩) HLX.out.2).trans hK9.c2⟩ : _ ∧ _ ∧ _ ∧ _); have HRR : Hid (Rd wT (.slice xa xn xc) (fx qf) ∧ Rd wT (.slice ya yn yc) (fy qf)) := ⟨hrx, hry⟩; have HENB : Hid (Box4 _ WA.heap.size (.slice xa xn xc) (.int .u64 (fs qf)) (.int .u8 (fk qf)) (.slice ya yn yc)) := box4_st (⟨u0, u1, u2, u3⟩ : Box4 w9 WA.heap.size _ _ _ _) _ _ _ _; have HENG : Hid (Below WA.heap.size WA _) := below_st4 HBX9.out (Nat.le_refl _) (.slice xa xn xc) (.int .u64 (fs qf)) (.int .u8 (fk qf)) (.slice ya yn yc); clear hrx hry h9 hst)
                        | fail)
                    all_goals
                      go_wp2_with fail
                      go_meet
                      exact ⟨_, xa, ya, xn, xc, yn, yc, rfl, rfl, HENB, HRR, HENG⟩
                  case rest =>
                    obtain ⟨bb2, xa2, ya2, xn2, xc2, yn2, yc2, rfl, rfl, HBO2, HRR2, HBE2⟩ := hcut
                    obtain ⟨wd2, hwd2⟩ : ∃ wd, wd = wc := ⟨_, rfl⟩
                    subst hwd2
                    have hbf := HT.out.bef wd2 (.slice qa9 qn qc) (ku.take 80, ks, kd, []) (bsplit WABelow.out HBE2.out) (WARd.out.below HBE2.out (Nat.le_refl _))
                    simp only [HKK.out] at hbf
                    rw [HQG.out] at hbf
                    obtain ⟨t0, t1, t2, tz0, tz1, tz2⟩ := WAKey.out.below HBE2.out (Nat.le_refl _)
                    go_wp2_with fail
                    refine hbf.mono ?_
                    rintro o8 w10 h8
                    obtain ⟨xa3, ya3, xn3, xc3, yn3, yc3, rfl, hrx3, hry3, hb10⟩ := told_found h8
                    have hb11 := below_box4 w10 (.cells #[.slice xa3 xn3 xc3, .int .u64 (fs qg), .int .u8 (fk qg), .slice ya3 yn3 yc3] 38)
                    have hBb : Below wd2.heap.size wd2 (w10.alloc (.cells #[.slice xa3 xn3 xc3, .int .u64 (fs qg), .int .u8 (fk qg), .slice ya3 yn3 yc3] 38)) := bsplit hb10 hb11
                    have HA3 : Hid (Box4 (w10.alloc (.cells #[.slice xa3 xn3 xc3, .int .u64 (fs qg), .int .u8 (fk qg), .slice ya3 yn3 yc3] 38)) w10.heap.size (.slice xa3 xn3 xc3) (.int .u64 (fs qg)) (.int .u8 (fk qg)) (.slice ya3 yn3 yc3)) := box4_new w10 _ _ _ _ _
                    have HR3 : Hid (Rd (w10.alloc (.cells #[.slice xa3 xn3 xc3, .int .u64 (fs qg), .int .u8 (fk qg), .slice ya3 yn3 yc3] 38)) (.slice xa3 xn3 xc3) (fx qg) ∧ Rd (w10.alloc (.cells #[.slice xa3 xn3 xc3, .int .u64 (fs qg), .int .u8 (fk qg), .slice ya3 yn3 yc3] 38)) (.slice ya3 yn3 yc3) (fy qg)) := ⟨hrx3.below hb11 (Nat.le_refl _), hry3.below hb11 (Nat.le_refl _)⟩
                    obtain ⟨WB, hWB⟩ : ∃ WB, w10.alloc (.cells #[.slice xa3 xn3 xc3, .int .u64 (fs qg), .int .u8 (fk qg), .slice ya3 yn3 yc3] 38) = WB := ⟨_, rfl⟩
                    obtain ⟨bc, hbc⟩ : ∃ bc, w10.heap.size = bc := ⟨_, rfl⟩
                    rw [hWB] at HA3 HR3 hBb
                    rw [hbc] at HA3
                    have HBAB : Hid (Below WA.heap.size WA WB) := bsplit HBE2.out hBb
                    have HB2B : Hid (Below wd2.heap.size wd2 WB) := hBb
                    have WBBelow : Hid (Below wT.heap.size wT WB) := bsplit WABelow.out HBAB.out
                    have WBKey : Hid (Box WB bk (.slice qa9 qn qc) (.int .u64 (ks : Int)) (.int .u8 (kk : Int))) := WAKey.out.below HBAB.out (Nat.le_refl _)
                    have WBRd : Hid (Rd WB (.slice qa9 qn qc) (ku.take 80)) := WARd.out.below HBAB.out (Nat.le_refl _)
                    clear hbf h8 hrx3 hry3 hb10 hb11 hBb t0 t1 t2 tz0 tz1 tz2
                    have HLX : Hid (xb < WB.heap.size ∧ bk < WB.heap.size) := ⟨Nat.lt_of_lt_of_le (World.block_lt_of_cell? _ _ X0) WBBelow.out.size, WBKey.out.lt⟩
                    go_upto_region 55 with fail
                    go_cut [29, 30] (fun bv0 rv wx => ∃ (bb : Nat) (xa ya : Option Addr) (xn xc yn yc : Nat), bv0 = .pointer (some ⟨bb, 0, none⟩) ∧ rv = .bool qg.isSome ∧ Hid (Box4 wx bb (.slice xa xn xc) (.int .u64 (fs qg)) (.int .u8 (fk qg)) (.slice ya yn yc)) ∧ Hid (Rd wT (.slice xa xn xc) (fx qg) ∧ Rd wT (.slice ya yn yc) (fy qg)) ∧ Hid (Below WB.heap.size WB wx))
                    case first =>
                      have hD0 := ((WBBelow.out.drew).cell (p := ⟨xb, 0, none⟩) (World.block_lt_of_cell? _ _ X0)).trans X0
                      have hDZ := ((WBBelow.out.alloc WBBelow.out.size (.cells #[.slice none 0 0, .int .u64 0, .int .u8 0, .slice none 0 0] 38)).drew.cell (p := ⟨xb, 0, none⟩) (World.block_lt_of_cell? _ _ X0)).trans X0
                      have hKB := WBKey.out.drew
                      have hKZ := (WBKey.out.alloc (.cells #[.slice none 0 0, .int .u64 0, .int .u8 0, .slice none 0 0] 38)).drew
                      have hz := below_box4 WB (.cells #[.slice none 0 0, .int .u64 0, .int .u8 0, .slice none 0 0] 38)
                      have hrf0 := r8before_w wT WB.drew (.slice la (esT ts).length lc) (.slice qa9 qn qc) (esT ts) (ku.take 80, ks, kd, []) WBBelow.out.drew HR0.out WBRd.out.drew HTS.out.2.1 (by rw [HET.out]; exact hn9)
                      have hrfZ := r8before_w wT (WB.alloc (.cells #[.slice none 0 0, .int .u64 0, .int .u8 0, .slice none 0 0] 38)).drew (.slice la (esT ts).length lc) (.slice qa9 qn qc) (esT ts) (ku.take 80, ks, kd, []) (bsplit WBBelow.out hz).drew HR0.out (WBRd.out.below hz (Nat.le_refl _)).drew HTS.out.2.1 (by rw [HET.out]; exact hn9)
                      simp only [HET.out, HKK.out] at hrf0 hrfZ
                      rw [HQG.out] at hrf0 hrfZ
                      have HZB : Hid (Box4f (WB.alloc (.cells #[.slice none 0 0, .int .u64 0, .int .u8 0, .slice none 0 0] 38)).drew WB.heap.size (.slice none 0 0) (.int .u64 0) (.int .u8 0) (.slice none 0 0)) := ⟨(box4f_new WB _ _ _ _ _).bx.drew, (box4f_new WB _ _ _ _ _).f0, (box4f_new WB _ _ _ _ _).f1, (box4f_new WB _ _ _ _ _).f2, (box4f_new WB _ _ _ _ _).f3⟩
                      go_wp2_with fail
                      go_region_held3 (fun w' => w'.cell? ⟨xb, 0, none⟩ = some (.slice la n lc) ∧ w'.cell? ⟨bk, 0, none⟩ = some (.slice qa9 qn qc) ∧ w'.cell? ⟨bk, 1, none⟩ = some (.int .u64 (ks : Int)) ∧ w'.cell? ⟨bk, 2, none⟩ = some (.int .u8 (kk : Int)))
                        (first | with_reducible exact kS | with_reducible exact kA | with_reducible exact kC | with_reducible exact ⟨hDZ, hKZ.c0, hKZ.c1, hKZ.c2⟩ | exact ⟨hD0, hKB.c0, hKB.c1, hKB.c2⟩)
                        (first
                          | (go_at_call 26; refine hrf0.mono ?_; rintro o9 w9 h9; obtain ⟨xa, ya, xn, xc, yn, yc, rfl, hrx, hry, hb9⟩ := told_refW h9; have HBX9 : Hid (Below WB.heap.size WB w9) := bsplit (Below.refl _ _).drew hb9; have hD9 := (hb9.cell (p := ⟨xb, 0, none⟩) (World.block_lt_of_cell? _ _ hD0)).trans hD0; have hK9 := hKB.below hb9 (Nat.le_refl _); have kC := (⟨hD9, hK9.c0, hK9.c1, hK9.c2⟩ : _ ∧ _ ∧ _ ∧ _); have hz9 := below_box4 w9 (.cells #[.slice none 0 0, .int .u64 0, .int .u8 0, .slice none 0 0] 38); have hKA := hK9.alloc (.cells #[.slice none 0 0, .int .u64 0, .int .u8 0, .slice none 0 0] 38); have kA := (⟨(hz9.cell (p := ⟨xb, 0, none⟩) (World.block_lt_of_cell? _ _ hD9)).trans hD9, hKA.c0, hKA.c1, hKA.c2⟩ : _ ∧ _ ∧ _ ∧ _); have hz8 := below_box4 w9 (.cells #[.slice xa xn xc, .int .u64 (fs qg), .int .u8 (fk qg), .slice ya yn yc] 38); have hKS := hK9.alloc (.cells #[.slice xa xn xc, .int .u64 (fs qg), .int .u8 (fk qg), .slice ya yn yc] 38); have kS := (⟨(hz8.cell (p := ⟨xb, 0, none⟩) (World.block_lt_of_cell? _ _ hD9)).trans hD9, hKS.c0, hKS.c1, hKS.c2⟩ : _ ∧ _ ∧ _ ∧ _); have HRR : Hid (Rd wT (.slice xa xn xc) (fx qg) ∧ Rd wT (.slice ya yn yc) (fy qg)) := ⟨hrx, hry⟩; have HENB : Hid (Box4 (w9.alloc (.cells #[.slice xa xn xc, .int .u64 (fs qg), .int .u8 (fk qg), .slice ya yn yc] 38)) w9.heap.size (.slice xa xn xc) (.int .u64 (fs qg)) (.int .u8 (fk qg)) (.slice ya yn yc)) := box4_new w9 _ _ _ _ _; have HENG : Hid (Below WB.heap.size WB (w9.alloc (.cells #[.slice xa xn xc, .int .u64 (fs qg), .int .u8 (fk qg), .slice ya yn yc] 38))) := bsplit HBX9.out hz8; clear hrx hry h9)
                          | (go_at_call 26; refine hrfZ.mono ?_; rintro o9 w9 h9; obtain ⟨xa, ya, xn, xc, yn, yc, rfl, hrx, hry, hb9⟩ := told_refW h9; have HBX9 : Hid (Below WB.heap.size WB w9) := bsplit hz.drew hb9; have hD9 := (hb9.cell (p := ⟨xb, 0, none⟩) (World.block_lt_of_cell? _ _ hDZ)).trans hDZ; have hK9 := hKZ.below hb9 (Nat.le_refl _); have kC := (⟨hD9, hK9.c0, hK9.c1, hK9.c2⟩ : _ ∧ _ ∧ _ ∧ _); obtain ⟨⟨u0, u1, u2, u3⟩, fu0, fu1, fu2, fu3⟩ := HZB.out.below hb9 (Nat.le_refl _); have hst := below_st4 (Below.refl WB.heap.size w9) (Nat.le_refl _) (.slice xa xn xc) (.int .u64 (fs qg)) (.int .u8 (fk qg)) (.slice ya yn yc); have kS := (⟨(hst.cell (p := ⟨xb, 0, none⟩) HLX.out.1).trans hD9, (hst.cell (p := ⟨bk, 0, none⟩) HLX.out.2).trans hK9.c0, (hst.cell (p := ⟨bk, 1, none⟩) HLX.out.2).trans hK9.c1, (hst.cell (p := ⟨bk, 2, none⟩) HLX.out.2).trans hK9.c2⟩ : _ ∧ _ ∧ _ ∧ _); have HRR : Hid (Rd wT (.slice xa xn xc) (fx qg) ∧ Rd wT (.slice ya yn yc) (fy qg)) := ⟨hrx, hry⟩; have HENB : Hid (Box4 _ WB.heap.size (.slice xa xn xc) (.int .u64 (fs qg)) (.int .u8 (fk qg)) (.slice ya yn yc)) := box4_st (⟨u0, u1, u2, u3⟩ : Box4 w9 WB.heap.size _ _ _ _) _ _ _ _; have HENG : Hid (Below WB.heap.size WB _) := below_st4 HBX9.out (Nat.le_refl _) (.slice xa xn xc) (.int .u64 (fs qg)) (.int .u8 (fk qg)) (.slice ya yn yc); clear hrx hry h9 hst)
                          | fail)
                      all_goals
                        go_wp2_with fail
                        go_meet
                        exact ⟨_, xa, ya, xn, xc, yn, yc, rfl, rfl, HENB, HRR, HENG⟩
                    case rest =>
                      obtain ⟨bb4, xa4, ya4, xn4, xc4, yn4, yc4, rfl, rfl, HBO4, HRR4, HBE4⟩ := hcut
                      obtain ⟨wd4, hwd4⟩ : ∃ wd, wd = wc := ⟨_, rfl⟩
                      subst hwd4
                      have HB4W : Hid (Below wT.heap.size wT wd4) := bsplit WBBelow.out HBE4.out
                      have HA4 : Hid (Below WA.heap.size WA wd4) := bsplit HBAB.out HBE4.out
                      have H24 : Hid (Below wd2.heap.size wd2 wd4) := bsplit HB2B.out HBE4.out
                      have hsm1 := sameen_any wd4 (.slice xa1 xn1 xc1) (.slice ya1 yn1 yc1) (.slice xa2 xn2 xc2) (.slice ya2 yn2 yc2) (fx qf) (fy qf) (fx qf) (fy qf) (fs qf) (fk qf) (fs qf) (fk qf) true (HR1.out.1.below HA4.out (Nat.le_refl _)) (HR1.out.2.below HA4.out (Nat.le_refl _)) (HRR2.out.1.below HB4W.out (Nat.le_refl _)) (HRR2.out.2.below HB4W.out (Nat.le_refl _)) (by simp)
                      obtain ⟨a0', a1', a2', a3'⟩ := HA1.out.below HA4.out (Nat.le_refl _)
                      obtain ⟨b0', b1', b2', b3'⟩ := HBO2.out.below H24.out (Nat.le_refl _)
                      go_wp2_with fail
                      refine hsm1.mono ?_
                      rintro o11 w11 ⟨rfl, hb11⟩
                      have HB11 : Hid (Below wd4.heap.size wd4 w11) := hb11
                      have hsm2 := sameen_any w11 (.slice xa3 xn3 xc3) (.slice ya3 yn3 yc3) (.slice xa4 xn4 xc4) (.slice ya4 yn4 yc4) (fx qg) (fy qg) (fx qg) (fy qg) (fs qg) (fk qg) (fs qg) (fk qg) true (HR3.out.1.below (bsplit HBE4.out hb11) (Nat.le_refl _)) (HR3.out.2.below (bsplit HBE4.out hb11) (Nat.le_refl _)) (HRR4.out.1.below (bsplit HB4W.out hb11) (Nat.le_refl _)) (HRR4.out.2.below (bsplit HB4W.out hb11) (Nat.le_refl _)) (by simp)
                      clear hsm1 a0' a1' a2' a3' b0' b1' b2' b3'
                      obtain ⟨a0', a1', a2', a3'⟩ := HA3.out.below (bsplit HBE4.out hb11) (Nat.le_refl _)
                      obtain ⟨b0', b1', b2', b3'⟩ := HBO4.out.below hb11 (Nat.le_refl _)
                      clear hb11
                      go_wp2_with fail
                      refine hsm2.mono ?_
                      rintro o12 w12 ⟨rfl, hb12⟩
                      have HB12 : Hid (Below wT.heap.size wT w12) := bsplit (bsplit HB4W.out HB11.out) hb12
                      clear hsm2 hb12 a0' a1' a2' a3' b0' b1' b2' b3'
                      go_wp2_with fail
                      go_roundg (gk - 1)
                      case measure => exact qa
                      case rel => exact ⟨i + 1, qb, by go_num, HB12⟩
            · have HBR : Hid (Below w.heap.size w wr) := bsplit HWT.out HBI.out
              go_wp2
              go_ret
              exact ⟨rfl, HBR.out⟩

theorem skipPlays_walk (a0 : Bool) (a1 : Option Addr) (len1 cap1 : Nat) (z1 : List PtB) (a2 : Option Addr) (len2 cap2 : Nat) (z2 : List KyT) (w : World) (w1 : ArgPt w (.slice a1 len1 cap1) z1 ∧ True) (w2 : ArgKs w (.slice a2 len2 cap2) z2 ∧ True) :
    Calls Try.prog 3 #[.bool a0, .slice a1 len1 cap1, .slice a2 len2 cap2] w fun e w' => e = .returned (.bool true) ∧ Below w.heap.size w w' := by
  cases a0
  · exact plays_false w a1 len1 cap1 z1 w1.1 a2 len2 cap2 z2 w2.1
  · exact plays_true w a1 len1 cap1 z1 w1.1 a2 len2 cap2 z2 w2.1

end Go.Proofs.Ytekmlbbfipldoaa
