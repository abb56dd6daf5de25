/- set.Without of locks. -/
import Derived.Test.YthiogpojccohgaaLkSmall2
import Derived.Deep.AppendLies
namespace Go.Proofs.Ythiogpojccohgaa
set_option maxRecDepth 20000
open Go.RowKit
set_option linter.unusedVariables false
set_option linter.unusedSimpArgs false

/-- a lock's two values are slices -/
def LkS (g : Lk) : Prop := (∃ a n c, g.x = .slice a n c) ∧ ∃ a n c, g.y = .slice a n c

theorem LkOk.s {w : World} {g : Lk} (h : LkOk w g) : LkS g := by
  obtain ⟨a, c, e⟩ := h.1.rd.len
  obtain ⟨a', c', e'⟩ := h.2.1.rd.len
  exact ⟨⟨_, _, _, e⟩, ⟨_, _, _, e'⟩⟩

theorem oneL (g : Lk) (h : LkS g) : ∀ u ∈ encL g, u.oneCell' = true := by
  obtain ⟨⟨a, n, c, e⟩, ⟨a', n', c', e'⟩⟩ := h
  intro u hu
  simp only [encL, List.mem_cons, List.not_mem_nil, or_false] at hu
  rcases hu with rfl | rfl | rfl | rfl
  · rfl
  · rw [e]; rfl
  · rw [e']; rfl
  · rfl

theorem ent_rel (args : Array Value) (W : World) : Sem.run Try.prog (callFunc 19 args) W = .ok (.enter 19 args) W := by kernel_rfl
theorem ent_of (args : Array Value) (W : World) : Sem.run Try.prog (callFunc 53 args) W = .ok (.enter 53 args) W := by kernel_rfl

/-- a row of locks of one's own -/
def OwnL (B : Nat) (w : World) (v : Value) (gs : List Lk) : Prop := w.ownsRow B 32 4 v gs.length (gs.flatMap encL)

theorem filter_take_succ {α : Type} (p : α → Bool) (l : List α) (j : Nat) (h : j < l.length) : (l.take (j + 1)).filter p = if p l[j] = true then (l.take j).filter p ++ [l[j]] else (l.take j).filter p := by
  rw [List.take_succ_eq_append_getElem h, List.filter_append]
  by_cases hp : p l[j] = true
  · rw [if_pos hp, List.filter_cons_of_pos hp]; rfl
  · rw [if_neg hp, List.filter_cons_of_neg hp]; simp

set_option maxHeartbeats 2000000 in
theorem wol_any (w : World) (v : Value) (gs : List Lk) (fn : Nat) (cap : Value) (p : Lk → Bool) (hf : ∀ (args : Array Value) (W : World), Sem.run Try.prog (callFunc fn args) W = .ok (.enter fn args) W) (h : RowL w v gs) (hs : ∀ g ∈ gs, LkS g) (hn : gs.length ≤ 100000)
    (hc : ∀ g ∈ gs, ∀ W, Below w.heap.size w W → Calls Try.prog fn #[lkV (g.n : Int) g.x g.y (g.m.toNat : Int), cap] W fun e w' => e = .returned (.bool (p g)) ∧ Below W.heap.size W w') :
    Calls Try.prog 18 #[v, .func (.func fn) #[] #[cap]] w fun e w' => ∃ v', e = .returned v' ∧ OwnL w.heap.size w' v' (gs.filter fun g => !p g) ∧ Below w.heap.size w w' := by
  obtain ⟨i0, hi, hz0, hz1, hz2⟩ := info_parts infoLk
  obtain ⟨va, vc, rfl, hvc, hvc2⟩ := row_slice9 h
  obtain ⟨N, hN⟩ : ∃ N, gs.length = N := ⟨_, rfl⟩
  have HV : Hid (RowL w (.slice va gs.length vc) gs) := h
  have HC : Hid (∀ g ∈ gs, ∀ W, Below w.heap.size w W → Calls Try.prog fn #[lkV (g.n : Int) g.x g.y (g.m.toNat : Int), cap] W fun e w' => e = .returned (.bool (p g)) ∧ Below W.heap.size W w') := hc
  have HS : Hid (∀ g ∈ gs, LkS g) := hs
  have HN : Hid (gs.length = N) := hN
  rw [hN] at HV hn hvc ⊢
  clear h hN hc hs
  go_enter Try.func18, Try.ntmps18
  go_wp2_with fail
  go_loopg [5, 10] N (fun gk rv iv wr => ∃ (j n' c' : Nat) (a' : Option Addr), gk + j = N ∧ iv = .int .i64 (j : Int) ∧ rv = .slice a' n' c' ∧ n' ≤ j ∧ Hid (((gs.take j).filter fun g => !p g).length = n') ∧ Hid (OwnL w.heap.size wr rv ((gs.take j).filter fun g => !p g)) ∧ Hid (Below w.heap.size w wr))
  case atStart => exact ⟨0, 0, 0, none, by omega, rfl, rfl, by omega, rfl, World.ownsRow_nil _ _ _ _, Below.refl _ _⟩
  case round =>
    obtain ⟨j, n', c', a', hj, rfl, rfl, hnj, HL, HO, HB⟩ := hrel
    by_cases hlt : j < N
    · have hlt2 : j < gs.length := by rw [HN.out]; exact hlt
      obtain ⟨b, c, e, _, c0, c1, c2, c3⟩ := (HV.out.below HB.out).at j hlt2
      rw [HN.out] at e
      cases e
      obtain ⟨q1, q2⟩ := gk_nxt hj hlt
      have hft := filter_take_succ (fun g => !p g) gs j hlt2
      have hsg := HS.out _ (List.getElem_mem hlt2)
      have hcg := HC.out _ (List.getElem_mem hlt2)
      obtain ⟨g, hg⟩ : ∃ g, gs[j] = g := ⟨_, rfl⟩
      rw [hg] at c0 c1 c2 c3 hft hsg hcg
      have hone := oneL g hsg
      obtain ⟨⟨x1, x2, x3, ex⟩, ⟨y1, y2, y3, ey⟩⟩ := hsg
      obtain ⟨gn, hgn⟩ : ∃ z : Int, (g.n : Int) = z := ⟨_, rfl⟩
      obtain ⟨gm, hgm⟩ : ∃ z : Int, (g.m.toNat : Int) = z := ⟨_, rfl⟩
      have henc : encL g = [.int .u64 gn, .slice x1 x2 x3, .slice y1 y2 y3, .int .u8 gm] := by unfold encL; rw [ex, ey, hgn, hgm]
      rw [hgn] at c0
      rw [hgm] at c3
      rw [ex] at c1
      rw [ey] at c2
      have hb0 := below_box4 wr (.cells #[.int .u64 gn, .slice x1 x2 x3, .slice y1 y2 y3, .int .u8 gm] 32)
      have hcl := hcg (wr.alloc (.cells #[.int .u64 gn, .slice x1 x2 x3, .slice y1 y2 y3, .int .u8 gm] 32)) (bsplit HB.out hb0)
      rw [ex, ey, hgn, hgm] at hcl
      unfold lkV at hcl
      have BX := box4_new wr (.int .u64 gn) (.slice x1 x2 x3) (.slice y1 y2 y3) (.int .u8 gm) 32
      have BX' := BX
      obtain ⟨z0, z1, z2, z3⟩ := BX'
      have HB0 : Hid (Below wr.heap.size wr (wr.alloc (.cells #[.int .u64 gn, .slice x1 x2 x3, .slice y1 y2 y3, .int .u8 gm] 32))) := hb0
      obtain ⟨r, hr⟩ : ∃ r, p g = r := ⟨_, rfl⟩
      rw [hr] at hcl
      have HFT : Hid ((gs.take (j + 1)).filter (fun g => !p g) = if r = true then (gs.take j).filter (fun g => !p g) else (gs.take j).filter (fun g => !p g) ++ [g]) := by
        show _ = _
        rw [hft, hr]
        cases r <;> rfl
      have HE : Hid (encL g = [.int .u64 gn, .slice x1 x2 x3, .slice y1 y2 y3, .int .u8 gm] ∧ ∀ u ∈ encL g, u.oneCell' = true) := ⟨henc, hone⟩
      clear hft hcg hg ex ey hgn hgm henc hone hb0 hr
      go_wp2_with fail
      refine hcl.mono ?_
      rintro e w2 ⟨rfl, hb2⟩
      have HB2 : Hid (Below wr.heap.size wr w2) := bsplit HB0.out hb2
      have BY := BX.below hb2 (Nat.le_refl _)
      have HO2 : Hid (OwnL w.heap.size w2 (.slice a' n' c') ((gs.take j).filter fun g => !p g)) := row_below HO.out HB2.out
      have HBW : Hid (Below w.heap.size w w2) := bsplit HB.out HB2.out
      clear hcl hb2 z0 z1 z2 z3 BX c0 c1 c2 c3
      cases r with
      | true =>
        go_wp2_with fail
        go_roundg (gk - 1)
        case measure => exact q1
        case rel => exact ⟨j + 1, n', c', a', q2, by go_num, rfl, by omega, by show _ = _; rw [HFT.out]; exact HL.out, by show OwnL _ _ _ _; rw [HFT.out]; exact HO2.out, HBW⟩
      | false =>
        obtain ⟨z0, z1, z2, z3⟩ := BY
        have hb3 := below_box4 w2 (.cells #[.int .u64 gn, .slice x1 x2 x3, .slice y1 y2 y3, .int .u8 gm] 32)
        have hrow : (w2.alloc (.cells #[.int .u64 gn, .slice x1 x2 x3, .slice y1 y2 y3, .int .u8 gm] 32)).ownsRow w.heap.size 32 4 (.slice a' n' c') n' (((gs.take j).filter fun g => !p g).flatMap encL) := by
          have := row_below HO2.out hb3
          rw [HL.out] at this
          exact this
        have hB3 := bsplit HBW.out hb3
        have hlaid := laid4 w2 (.int .u64 gn) (.slice x1 x2 x3) (.slice y1 y2 y3) (.int .u8 gm) 32
        have hone := HE.out.2
        rw [HE.out.1] at hone
        go_wp2_with (first | (at_builtin; refine wpList_append_lies _ rfl (.tmp 18) (.tmp 20) 51 rfl w.heap.size 32 i0 (.agg #[.int .u64 0, .slice none 0 0, .slice none 0 0, .int .u8 0]) 4 64 Try.underlying51 hi hz0 hz1 hz2 rfl (by decide) (.slice a' n' c') n' _ rfl hrow ⟨w2.heap.size, 0, none⟩ 1 1 [.int .u64 gn, .slice x1 x2 x3, .slice y1 y2 y3, .int .u8 gm] rfl rfl hlaid hone (by decide) (by simp only [maxLen]; omega) (by omega) hB3.size _ rfl ?_; intro g4 c4 w4 hown hgrow hat hlt4) | fail)
        have HO4 : Hid (OwnL w.heap.size w4 (.slice (some ⟨g4, 0, none⟩) (n' + 1) c4) ((gs.take (j + 1)).filter fun g => !p g)) := by
          show OwnL _ _ _ _
          rw [HFT.out, if_neg (by decide)]
          unfold OwnL
          rw [flat_snoc, HE.out.1, List.length_append, HL.out]
          exact hown
        have HL4 : Hid (((gs.take (j + 1)).filter fun g => !p g).length = n' + 1) := by show _ = _; rw [HFT.out, if_neg (by decide), List.length_append, HL.out]; rfl
        have HB4 : Hid (Below w.heap.size w w4) := hB3.grown hgrow hB3.size (fun k' e => (hrow.lt k' e).1)
        clear hrow hlaid hone hown hgrow hat hB3 hb3
        go_roundg (gk - 1)
        case measure => exact q1
        case rel => exact ⟨j + 1, n' + 1, c4, _, q2, by go_num, rfl, by omega, HL4, HO4, HB4⟩
    · have hjN : j = N := by omega
      subst hjN
      have HE : Hid ((gs.take j).filter (fun g => !p g) = gs.filter fun g => !p g) := by show _ = _; rw [← HN.out, List.take_length]
      go_wp2
      go_ret
      exact ⟨_, rfl, by rw [← HE.out]; exact HO.out, HB.out⟩

end Go.Proofs.Ythiogpojccohgaa
