/- set.Without of requests. -/
import Derived.Test.YthiogpojccohgaaLkWithout
import Derived.Deep.AppendLies
namespace Go.Proofs.Ythiogpojccohgaa
set_option maxRecDepth 20000
open Go.RowKit
set_option linter.unusedVariables false
set_option linter.unusedSimpArgs false

/-- five cells in block b -/
structure Box5 (w : World) (b : Nat) (v0 v1 v2 v3 v4 : Value) : Prop where
  c0 : w.cell? ⟨b, 0, none⟩ = some v0
  c1 : w.cell? ⟨b, 1, none⟩ = some v1
  c2 : w.cell? ⟨b, 2, none⟩ = some v2
  c3 : w.cell? ⟨b, 3, none⟩ = some v3
  c4 : w.cell? ⟨b, 4, none⟩ = some v4

theorem box5_new (w : World) (v0 v1 v2 v3 v4 : Value) (t : TypeId) : Box5 (w.alloc (.cells #[v0, v1, v2, v3, v4] t)) w.heap.size v0 v1 v2 v3 v4 := by
  have h := heap_alloc_new w (.cells #[v0, v1, v2, v3, v4] t)
  have c := fun i => cell_of_row (w.alloc (.cells #[v0, v1, v2, v3, v4] t)) w.heap.size i _ t (0, 0) h
  exact ⟨by rw [c]; rfl, by rw [c]; rfl, by rw [c]; rfl, by rw [c]; rfl, by rw [c]; rfl⟩

theorem Box5.lt {w : World} {b : Nat} {v0 v1 v2 v3 v4 : Value} (h : Box5 w b v0 v1 v2 v3 v4) : b < w.heap.size := World.block_lt_of_cell? w _ h.c0

theorem Box5.below {B : Nat} {w w' : World} {b : Nat} {v0 v1 v2 v3 v4 : Value} (h : Box5 w b v0 v1 v2 v3 v4) (hb : Below B w w') (hB : w.heap.size ≤ B) : Box5 w' b v0 v1 v2 v3 v4 := by
  have hl : b < B := Nat.lt_of_lt_of_le h.lt hB
  exact ⟨by rw [hb.cell (p := ⟨b, 0, none⟩) hl]; exact h.c0, by rw [hb.cell (p := ⟨b, 1, none⟩) hl]; exact h.c1, by rw [hb.cell (p := ⟨b, 2, none⟩) hl]; exact h.c2, by rw [hb.cell (p := ⟨b, 3, none⟩) hl]; exact h.c3, by rw [hb.cell (p := ⟨b, 4, none⟩) hl]; exact h.c4⟩

theorem Box5.drew {w : World} {b : Nat} {v0 v1 v2 v3 v4 : Value} (h : Box5 w b v0 v1 v2 v3 v4) : Box5 w.drew b v0 v1 v2 v3 v4 := ⟨h.c0, h.c1, h.c2, h.c3, h.c4⟩

theorem Box5.grown {w w' : World} {b : Nat} {v0 v1 v2 v3 v4 : Value} {row : Option Nat} (h : Box5 w b v0 v1 v2 v3 v4) (hg : w.grownBy w' row) (hne : some b ≠ row) : Box5 w' b v0 v1 v2 v3 v4 := by
  have e : w'.heap[b]? = w.heap[b]? := hg.block b h.lt hne
  obtain ⟨c0, c1, c2, c3, c4⟩ := h
  exact ⟨by rw [← c0]; unfold World.cell?; rw [e], by rw [← c1]; unfold World.cell?; rw [e], by rw [← c2]; unfold World.cell?; rw [e], by rw [← c3]; unfold World.cell?; rw [e], by rw [← c4]; unfold World.cell?; rw [e]⟩

theorem laid5 (w : World) (v0 v1 v2 v3 v4 : Value) (t : TypeId) : ∀ j u, [v0, v1, v2, v3, v4][j]? = some u → (w.alloc (.cells #[v0, v1, v2, v3, v4] t)).cell? ((⟨w.heap.size, 0, none⟩ : Addr).add j) = some u := by
  intro j u hu
  rw [Addr.add_lit, Nat.zero_add]
  have hg : (w.alloc (.cells #[v0, v1, v2, v3, v4] t)).heap[w.heap.size]? = some (.cells #[v0, v1, v2, v3, v4] t) := heap_alloc_new w _
  rw [cell_of_row _ _ j _ _ _ hg]
  simpa using hu

/-- a request's value -/
def rqV (n : Int) (x y : Value) (m u : Int) : Value := .agg #[.int .u64 n, x, y, .int .u8 m, .int .u64 u]

theorem oneR (r : Rq) (h : LkS r.l) : ∀ u ∈ encR r, u.oneCell' = true := by
  obtain ⟨⟨a, n, c, e⟩, ⟨a', n', c', e'⟩⟩ := h
  intro u hu
  simp only [encR, List.mem_cons, List.not_mem_nil, or_false] at hu
  rcases hu with rfl | rfl | rfl | rfl | rfl
  · rfl
  · rw [e]; rfl
  · rw [e']; rfl
  · rfl
  · rfl

theorem ent_lv (args : Array Value) (W : World) : Sem.run Try.prog (callFunc 33 args) W = .ok (.enter 33 args) W := by kernel_rfl
theorem ent_plc (args : Array Value) (W : World) : Sem.run Try.prog (callFunc 37 args) W = .ok (.enter 37 args) W := by kernel_rfl
theorem ent_has (args : Array Value) (W : World) : Sem.run Try.prog (callFunc 40 args) W = .ok (.enter 40 args) W := by kernel_rfl
theorem ent_upg (args : Array Value) (W : World) : Sem.run Try.prog (callFunc 57 args) W = .ok (.enter 57 args) W := by kernel_rfl

/-- a row of requests of one's own -/
def OwnQ (B : Nat) (w : World) (v : Value) (gs : List Rq) : Prop := w.ownsRow B 63 5 v gs.length (gs.flatMap encR)

set_option maxHeartbeats 2000000 in
theorem woq_any (w : World) (v : Value) (gs : List Rq) (fn : Nat) (cap : Value) (p : Rq → Bool) (hf : ∀ (args : Array Value) (W : World), Sem.run Try.prog (callFunc fn args) W = .ok (.enter fn args) W) (h : RowQ w v gs) (hs : ∀ g ∈ gs, LkS g.l) (hn : gs.length ≤ 100000)
    (hc : ∀ g ∈ gs, ∀ W, Below w.heap.size w W → Calls Try.prog fn #[rqV (g.l.n : Int) g.l.x g.l.y (g.l.m.toNat : Int) (g.u : Int), cap] W fun e w' => e = .returned (.bool (p g)) ∧ Below W.heap.size W w') :
    Calls Try.prog 32 #[v, .func (.func fn) #[] #[cap]] w fun e w' => ∃ v', e = .returned v' ∧ OwnQ w.heap.size w' v' (gs.filter fun g => !p g) ∧ Below w.heap.size w w' := by
  obtain ⟨i0, hi, hz0, hz1, hz2⟩ := info_parts infoRq
  obtain ⟨va, vc, rfl, hvc, hvc2⟩ := row_slice9 h
  obtain ⟨N, hN⟩ : ∃ N, gs.length = N := ⟨_, rfl⟩
  have HV : Hid (RowQ w (.slice va gs.length vc) gs) := h
  have HC : Hid (∀ g ∈ gs, ∀ W, Below w.heap.size w W → Calls Try.prog fn #[rqV (g.l.n : Int) g.l.x g.l.y (g.l.m.toNat : Int) (g.u : Int), cap] W fun e w' => e = .returned (.bool (p g)) ∧ Below W.heap.size W w') := hc
  have HS : Hid (∀ g ∈ gs, LkS g.l) := hs
  have HN : Hid (gs.length = N) := hN
  rw [hN] at HV hn hvc ⊢
  clear h hN hc hs
  go_enter Try.func32, Try.ntmps32
  go_wp2_with fail
  go_loopg [5, 10] N (fun gk rv iv wr => ∃ (j n' c' : Nat) (a' : Option Addr), gk + j = N ∧ iv = .int .i64 (j : Int) ∧ rv = .slice a' n' c' ∧ n' ≤ j ∧ Hid (((gs.take j).filter fun g => !p g).length = n') ∧ Hid (OwnQ w.heap.size wr rv ((gs.take j).filter fun g => !p g)) ∧ Hid (Below w.heap.size w wr))
  case atStart => exact ⟨0, 0, 0, none, by omega, rfl, rfl, by omega, rfl, World.ownsRow_nil _ _ _ _, Below.refl _ _⟩
  case round =>
    obtain ⟨j, n', c', a', hj, rfl, rfl, hnj, HL, HO, HB⟩ := hrel
    by_cases hlt : j < N
    · have hlt2 : j < gs.length := by rw [HN.out]; exact hlt
      obtain ⟨b, c, e, _, c0, c1, c2, c3, c4⟩ := (HV.out.below HB.out).at j hlt2
      rw [HN.out] at e
      cases e
      obtain ⟨q1, q2⟩ := gk_nxt hj hlt
      have hft := filter_take_succ (fun g => !p g) gs j hlt2
      have hsg := HS.out _ (List.getElem_mem hlt2)
      have hcg := HC.out _ (List.getElem_mem hlt2)
      obtain ⟨g, hg⟩ : ∃ g, gs[j] = g := ⟨_, rfl⟩
      rw [hg] at c0 c1 c2 c3 c4 hft hsg hcg
      have hone := oneR g hsg
      obtain ⟨⟨x1, x2, x3, ex⟩, ⟨y1, y2, y3, ey⟩⟩ := hsg
      obtain ⟨gn, hgn⟩ : ∃ z : Int, (g.l.n : Int) = z := ⟨_, rfl⟩
      obtain ⟨gu, hgu⟩ : ∃ z : Int, (g.u : Int) = z := ⟨_, rfl⟩
      obtain ⟨gm, hgm⟩ : ∃ z : Int, (g.l.m.toNat : Int) = z := ⟨_, rfl⟩
      have henc : encR g = [.int .u64 gn, .slice x1 x2 x3, .slice y1 y2 y3, .int .u8 gm, .int .u64 gu] := by unfold encR; rw [ex, ey, hgn, hgm, hgu]
      rw [hgn] at c0
      rw [hgm] at c3
      rw [hgu] at c4
      rw [ex] at c1
      rw [ey] at c2
      have hb0 := below_box4 wr (.cells #[.int .u64 gn, .slice x1 x2 x3, .slice y1 y2 y3, .int .u8 gm, .int .u64 gu] 63)
      have hcl := hcg (wr.alloc (.cells #[.int .u64 gn, .slice x1 x2 x3, .slice y1 y2 y3, .int .u8 gm, .int .u64 gu] 63)) (bsplit HB.out hb0)
      rw [ex, ey, hgn, hgm, hgu] at hcl
      unfold rqV at hcl
      have BX := box5_new wr (.int .u64 gn) (.slice x1 x2 x3) (.slice y1 y2 y3) (.int .u8 gm) (.int .u64 gu) 63
      have BX' := BX
      obtain ⟨z0, z1, z2, z3, z4⟩ := BX'
      have HB0 : Hid (Below wr.heap.size wr (wr.alloc (.cells #[.int .u64 gn, .slice x1 x2 x3, .slice y1 y2 y3, .int .u8 gm, .int .u64 gu] 63))) := hb0
      obtain ⟨r, hr⟩ : ∃ r, p g = r := ⟨_, rfl⟩
      rw [hr] at hcl
      have HFT : Hid ((gs.take (j + 1)).filter (fun g => !p g) = if r = true then (gs.take j).filter (fun g => !p g) else (gs.take j).filter (fun g => !p g) ++ [g]) := by
        show _ = _
        rw [hft, hr]
        cases r <;> rfl
      have HE : Hid (encR g = [.int .u64 gn, .slice x1 x2 x3, .slice y1 y2 y3, .int .u8 gm, .int .u64 gu] ∧ ∀ u ∈ encR g, u.oneCell' = true) := ⟨henc, hone⟩
      clear hft hcg hg ex ey hgn hgm hgu henc hone hb0 hr
      go_wp2_with fail
      refine hcl.mono ?_
      rintro e w2 ⟨rfl, hb2⟩
      have HB2 : Hid (Below wr.heap.size wr w2) := bsplit HB0.out hb2
      have BY := BX.below hb2 (Nat.le_refl _)
      have HO2 : Hid (OwnQ w.heap.size w2 (.slice a' n' c') ((gs.take j).filter fun g => !p g)) := row_below HO.out HB2.out
      have HBW : Hid (Below w.heap.size w w2) := bsplit HB.out HB2.out
      clear hcl hb2 z0 z1 z2 z3 z4 BX c0 c1 c2 c3 c4
      cases r with
      | true =>
        go_wp2_with fail
        go_roundg (gk - 1)
        case measure => exact q1
        case rel => exact ⟨j + 1, n', c', a', q2, by go_num, rfl, by omega, by show _ = _; rw [HFT.out]; exact HL.out, by show OwnQ _ _ _ _; rw [HFT.out]; exact HO2.out, HBW⟩
      | false =>
        obtain ⟨z0, z1, z2, z3, z4⟩ := BY
        have hb3 := below_box4 w2 (.cells #[.int .u64 gn, .slice x1 x2 x3, .slice y1 y2 y3, .int .u8 gm, .int .u64 gu] 63)
        have hrow : (w2.alloc (.cells #[.int .u64 gn, .slice x1 x2 x3, .slice y1 y2 y3, .int .u8 gm, .int .u64 gu] 63)).ownsRow w.heap.size 63 5 (.slice a' n' c') n' (((gs.take j).filter fun g => !p g).flatMap encR) := by
          have := row_below HO2.out hb3
          rw [HL.out] at this
          exact this
        have hB3 := bsplit HBW.out hb3
        have hlaid := laid5 w2 (.int .u64 gn) (.slice x1 x2 x3) (.slice y1 y2 y3) (.int .u8 gm) (.int .u64 gu) 63
        have hone := HE.out.2
        rw [HE.out.1] at hone
        go_wp2_with (first | (at_builtin; refine wpList_append_lies _ rfl (.tmp 18) (.tmp 20) 52 rfl w.heap.size 63 i0 (.agg #[.int .u64 0, .slice none 0 0, .slice none 0 0, .int .u8 0, .int .u64 0]) 5 72 Try.underlying52 hi hz0 hz1 hz2 rfl (by decide) (.slice a' n' c') n' _ rfl hrow ⟨w2.heap.size, 0, none⟩ 1 1 [.int .u64 gn, .slice x1 x2 x3, .slice y1 y2 y3, .int .u8 gm, .int .u64 gu] rfl rfl hlaid hone (by decide) (by simp only [maxLen]; omega) (by omega) hB3.size _ rfl ?_; intro g4 c4 w4 hown hgrow hat hlt4) | fail)
        have HO4 : Hid (OwnQ w.heap.size w4 (.slice (some ⟨g4, 0, none⟩) (n' + 1) c4) ((gs.take (j + 1)).filter fun g => !p g)) := by
          show OwnQ _ _ _ _
          rw [HFT.out, if_neg (by decide)]
          unfold OwnQ
          rw [flat_snoc, HE.out.1, List.length_append, HL.out]
          exact hown
        have HL4 : Hid (((gs.take (j + 1)).filter fun g => !p g).length = n' + 1) := by show _ = _; rw [HFT.out, if_neg (by decide), List.length_append, HL.out]; rfl
        have HB4 : Hid (Below w.heap.size w w4) := hB3.grown hgrow hB3.size (fun k' e => (hrow.lt k' e).1)
        clear hrow hlaid hone hown hgrow hat hB3 hb3
        go_roundg (gk - 1)
        case measure => exact q1
        case rel => exact ⟨j + 1, n' + 1, c4, _, q2, by go_num, rfl, by omega, HL4, HO4, HB4⟩
    · have hjN : j = N := by omega
      subst hjN
      have HE : Hid ((gs.take j).filter (fun g => !p g) = gs.filter fun g => !p g) := by show _ = _; rw [← HN.out, List.take_length]
      go_wp2
      go_ret
      exact ⟨_, rfl, by rw [← HE.out]; exact HO.out, HB.out⟩

end Go.Proofs.Ythiogpojccohgaa
