/- (*skip.List).Size. -/
import Derived.Test.YthcoblmfmbmdkaaSkLen
namespace Go.Proofs.Ythcoblmfmbmdkaa
open Go.RowKit Go.Shelf
set_option linter.unusedVariables false

attribute [local go_sem] Oper.semAt_some

/-- how many bytes the entries count for -/
def sizE (e : EnB) : Nat := e.1.length + e.2.2.2.length + 16
def sizL (l : List EnB) : Nat := (l.map sizE).sum
def sizT (ts : List Tow) : Nat := sizL (esT ts)
def sizS {ts : List Tow} (pre : List {t : Tow // t ∈ ts}) : Nat := sizT (pre.map (·.1))

theorem sizS_snoc {ts : List Tow} (pre : List {t : Tow // t ∈ ts}) (x : {t : Tow // t ∈ ts}) : sizS (pre ++ [x]) = sizS pre + (x.1.e.1.length + x.1.e.2.2.2.length + 16) := by
  simp [sizS, sizT, sizL, esT, sizE]

/-- no entry is longer than that -/
def LenT (ts : List Tow) (m : Nat) : Prop := ∀ t ∈ ts, t.e.1.length ≤ m ∧ t.e.2.2.2.length ≤ m

theorem sizS_le {ts : List Tow} {m : Nat} (h : LenT ts m) (pre : List {t : Tow // t ∈ ts}) : sizS pre ≤ pre.length * (2 * m + 16) := by
  induction pre with
  | nil => simp [sizS, sizT, sizL, esT]
  | cons x xs ih =>
    have hx := h x.1 x.2
    have e : sizS (x :: xs) = sizE x.1.e + sizS xs := by simp [sizS, sizT, sizL, esT]
    rw [e, List.length_cons, Nat.add_mul]
    unfold sizE
    omega

theorem kpR_alloc {n0 Bh : Nat} {W : World} (h : n0 ≤ W.heap.size) (o : Obj) : KpR n0 Bh W (W.alloc o) := ⟨(Below.refl n0 W).alloc h o, fun v hv => cell_alloc_l o hv⟩

set_option maxRecDepth 100000 in
set_option maxHeartbeats 4000000 in
theorem sksize_any (w : World) (l : Nat) (ts : List Tow) (hS : SkAt w l ts) (hL : LenT ts 1000) :
    Calls Try.prog 43 #[.pointer (some ⟨l, 0, none⟩)] w fun e w' => e = .returned (.int .i64 (sizT ts : Int)) ∧ Below w.heap.size w w' := by
  have HS : Hid (SkAt w l ts) := hS
  have c0 := cell_new_l w (.int .i64 0) 3
  have hB1 : Below w.heap.size w (w.alloc (.cells #[.int .i64 0] 3)) := (Below.refl _ w).alloc (Nat.le_refl _) _
  have hrw := skrow_any (w.alloc (.cells #[.int .i64 0] 3)) (some ⟨l, 0, none⟩) 1
  have hs1 : (w.alloc (.cells #[.int .i64 0] 3)).heap.size = w.heap.size + 1 := by simp
  rw [hs1] at hrw
  have c1 := cell_new_l (w.alloc (.cells #[.int .i64 0] 3)) (.pointer (some ⟨l, 0, none⟩)) 79
  have c2 := cell_new_l ((w.alloc (.cells #[.int .i64 0] 3)).alloc (.cells #[.pointer (some ⟨l, 0, none⟩)] 79)) (.int .i64 1) 3
  have d0 := cell_alloc_l (.cells #[.int .i64 1] 3) (cell_alloc_l (.cells #[.pointer (some ⟨l, 0, none⟩)] 79) c0.1)
  have d0f := frozen_alloc_l (.cells #[.int .i64 1] 3) (cell_alloc_l (.cells #[.pointer (some ⟨l, 0, none⟩)] 79) c0.1) (frozen_alloc_l (.cells #[.pointer (some ⟨l, 0, none⟩)] 79) c0.1 c0.2)
  have d1 := cell_alloc_l (.cells #[.int .i64 1] 3) c1.1
  have hB3 : Below w.heap.size w (((w.alloc (.cells #[.int .i64 0] 3)).alloc (.cells #[.pointer (some ⟨l, 0, none⟩)] 79)).alloc (.cells #[.int .i64 1] 3)) := (hB1.alloc hB1.size _).alloc (hB1.alloc hB1.size _).size _
  simp only [World.size_alloc] at c1 c2 d1
  have hz3 : (((w.alloc (.cells #[.int .i64 0] 3)).alloc (.cells #[.pointer (some ⟨l, 0, none⟩)] 79)).alloc (.cells #[.int .i64 1] 3)).heap.size = w.heap.size + 3 := by simp
  have hlen := hS.len
  refine (callsIn_wide (n := 4)).1 ?_
  refine callsIn_of_wp_marks Try.func43 rfl trivial ?_ rfl
  simp only [Try.ntmps43, List.size_toArray, List.length_cons, List.length_nil, Nat.reduceAdd, Nat.reduceSub, Array.replicate_succ, Array.replicate_zero, List.push_toArray, List.append_toArray, List.nil_append, List.cons_append]
  gi_wp2_with fail
  refine ⟨trivial, ?_⟩
  refine (callsIn_wide.2 hrw).mono ?_
  rintro e w3 ⟨rfl, hw3⟩
  rw [← hw3] at c2 d0 d0f d1 hB3 hz3
  clear hw3 c0 c1 hB1 hrw hs1
  have HB3 : Hid (Below w.heap.size w w3) := hB3
  have HL : Hid (LenT ts 1000) := hL
  clear hL
  gi_wp2_with fail
  refine wpIn_rangeFunc_ownH rfl (by omega) (gf := 72) (lb := #[.pointer (some ⟨w.heap.size + 1, 0, none⟩), .pointer (some ⟨w.heap.size + 1 + 1, 0, none⟩)]) rfl trivial (enters_of Try.func72 (by kernel_rfl) rfl)
    (row_stops 3 (by omega) w w3 l 1 0 _ _ ts HS.out hB3 rfl (by omega) d1 c2.1) kpR_t (kpR_b (by omega)) (Below.refl _ _) (fun _ => rfl)
    (fun (pre : List {t : Tow // t ∈ ts}) W => ((W.cell? ⟨w.heap.size, 0, none⟩ = some (.int .i64 (sizS pre : Int)) ∧ W.frozen? ⟨w.heap.size, 0, none⟩ = false)) ∧ Below w.heap.size w W)
    (fun c (pre : List {t : Tow // t ∈ ts}) W => False)
    (OwnFrom.and (Go.Own.from (fun s A B row hs hg hr => ⟨cell_kept hs.1 hg hr, (frozen_kept hs.1 hg hr).trans hs.2⟩) _) (ownFrom_below (Nat.le_refl _) (by omega)))
    (fun c s A B row hs hg hr => hs)
    ⟨⟨d0, d0f⟩, hB3⟩
    (fun (x : {t : Tow // t ∈ ts}) a' W => ∃ Bx, w.heap.size < Bx ∧ Box4 W Bx x.1.x (.int .u64 (x.1.e.2.1 : Int)) (.int .u8 (x.1.e.2.2.1.toNat : Int)) x.1.y ∧ a' = { tmps := #[.pointer (some ⟨l, 0, none⟩), undef, .int .i64 0, .pointer (some ⟨w.heap.size, 0, none⟩), .pointer (some ⟨Bx, 0, none⟩), .pointer (some ⟨l, 0, none⟩), .func (.func 72) #[] #[.pointer (some ⟨w.heap.size + 1, 0, none⟩), .pointer (some ⟨w.heap.size + 1 + 1, 0, none⟩)], enV x.1.x (x.1.e.2.1 : Int) (x.1.e.2.2.1.toNat : Int) x.1.y, undef, undef, undef, undef, undef, undef, undef, undef, undef, undef, undef, undef], defers := [] })
    (fun x a' _ X Y row hs hg hr => by
      obtain ⟨Bx, h1, h2, h3⟩ := hs
      exact ⟨Bx, h1, ⟨cell_kept h2.c0 hg (fun r e => (hr r e).2), cell_kept h2.c1 hg (fun r e => (hr r e).2), cell_kept h2.c2 hg (fun r e => (hr r e).2), cell_kept h2.c3 hg (fun r e => (hr r e).2)⟩, h3⟩)
    ?assign ?body ?done ?stop
  case assign =>
    rintro l pre x W K ⟨⟨hc, hf⟩, hBW⟩ hK
    have hent := HS.out.ent x.1 x.2
    obtain ⟨x1, xc, ex⟩ := hent.rx.len
    obtain ⟨y1, yc, ey⟩ := hent.ry.len
    have HX : Hid (x.1.x = .slice x1 x.1.e.1.length xc) := ex
    have HY : Hid (x.1.y = .slice y1 x.1.e.2.2.2.length yc) := ey
    have HK : Hid _ := hK
    rw [ex, ey]
    clear hent ex ey hK
    simp only [enV]
    gi_wp2
    refine HK.out _ _ ((KeepsOthers.alloc _ _).from _) (kpR_alloc hBW.size _) ⟨⟨cell_alloc_l _ hc, frozen_alloc_l _ hc hf⟩, hBW.alloc hBW.size _⟩ ⟨W.heap.size, World.block_lt_of_cell? _ _ hc, ?_, ?_⟩
    · rw [HX.out, HY.out]
      exact box4_new W _ _ _ _ _
    · rw [HX.out, HY.out]
  case body =>
    rintro l pre x a' W hl hlr ⟨⟨hc, hf⟩, hBW⟩ ⟨Bx, hBx, ⟨b0, b1, b2, b3⟩, rfl⟩ hpl
    have hxl := HL.out x.1 x.2
    have hsl := sizS_le HL.out pre
    have hent := HS.out.ent x.1 x.2
    obtain ⟨x1, xc, ex⟩ := hent.rx.len
    obtain ⟨y1, yc, ey⟩ := hent.ry.len
    rw [ex] at b0
    rw [ey] at b3
    have HSN : Hid (sizS (pre ++ [x]) = sizS pre + (x.1.e.1.length + x.1.e.2.2.2.length + 16)) := sizS_snoc pre x
    obtain ⟨n1, hn1⟩ : ∃ n, x.1.e.1.length = n := ⟨_, rfl⟩
    obtain ⟨n2, hn2⟩ : ∃ n, x.1.e.2.2.2.length = n := ⟨_, rfl⟩
    obtain ⟨n3, hn3⟩ : ∃ n, sizS pre = n := ⟨_, rfl⟩
    rw [hn1, hn2, hn3] at HSN
    rw [hn1] at b0 hxl
    rw [hn2] at b3 hxl
    rw [hn3] at hc hsl
    have hpI : (n3 : Int) ≤ 10000000 := by have : pre.length ≤ 4000 := by omega
                                           omega
    have hn1I : (n1 : Int) ≤ 1000 := by omega
    have hn2I : (n2 : Int) ≤ 1000 := by omega
    rw [ex, ey]
    clear hn1 hn2 hn3 hxl hsl hent ex ey
    gi_wp2_with fail
    refine ⟨(KeepsOthers.setCell _ _ _).from _, kpR_set (Nat.le_refl _) (by omega) _ _, ⟨?_, ?_⟩, hBW.setCell (p := ⟨w.heap.size, 0, none⟩) (by simp) _⟩
    · rw [World.cell?_setCell_same' _ _ _ (by rw [hc]; rfl), HSN.out]
      congr 2
    · simpa [World.frozen?_setCell] using hf
  case done =>
    rintro D ys W hD hys ⟨⟨hc, hf⟩, hBW⟩ hK
    rw [row_low HS.out.ht] at hys
    have hyl : sizS ys = sizT ts := by unfold sizS; rw [hys]
    rw [hyl] at hc
    gi_wp2
    refine ⟨by simp, .inl ⟨_, _, rfl, run_takeDeferred hK, ?_⟩⟩
    refine ⟨.int .i64 (sizT ts : Int), ?_, rfl, hBW.trans (belowK_b (w := w) (Nat.le_refl _) _ D _ _ (by omega) hK rfl rfl)⟩
    simp [results, Try.f43, go_sem]
  case stop =>
    rintro D c pre W hD hpre hF hK
    exact hF.elim

end Go.Proofs.Ythcoblmfmbmdkaa
