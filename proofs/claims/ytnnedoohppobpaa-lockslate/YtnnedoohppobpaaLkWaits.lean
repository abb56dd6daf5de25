/- (*locks.Table).Waits. -/
import Derived.Test.YtnnedoohppobpaaLkTick
namespace Go.Proofs.Ytnnedoohppobpaa
set_option maxRecDepth 100000
open Go.RowKit Go.Maps
set_option linter.unusedVariables false
set_option linter.unusedSimpArgs false

theorem idxB_lt {α : Type} (p : α → Bool) (l : List α) (h : 0 ≤ idxB p l) : ∃ j, j < l.length ∧ idxB p l = (j : Int) := by
  unfold idxB at h ⊢
  cases h9 : l.findIdx? p with
  | none => rw [h9] at h; simp only at h; omega
  | some i =>
    obtain ⟨h1, _⟩ := List.findIdx?_eq_some_iff_getElem.1 h9
    exact ⟨i, h1, rfl⟩

/-- what Waits answers -/
def WtPost (w : World) (r : Bool) (e : Ending) (w' : World) : Prop :=
  ∃ (n m : Int) (a1 a2 : Option Addr) (l1 c1 l2 c2 : Nat), e = .returned (.tuple #[.agg #[.int .u64 n, .slice a1 l1 c1, .slice a2 l2 c2, .int .u8 m], .bool r]) ∧ Below w.heap.size w w'

set_option maxHeartbeats 2000000 in
theorem waits_any (G : Nat → Prop) (w : World) (t : Nat) (mo ea : Int) (gs : List Lk) (qs : List Rq) (n : Nat) (h : LkP G w t mo ea gs qs) (hn : qs.length ≤ 1000) :
    Calls Try.prog 22 #[.pointer (some ⟨t, 0, none⟩), .int .u64 (n : Int)] w (WtPost w (qs.any fun q => decide (q.l.n = n))) := by
  have he := eqT t
  obtain ⟨gv, qv, h⟩ := h
  have HL : Hid (LkAt G w t mo ea gs qs gv qv) := h
  have hb0 := below_box4 w (.cells #[.int .u64 0, .slice none 0 0, .slice none 0 0, .int .u8 0] 32)
  have HB0 : Hid (Below w.heap.size w (w.alloc (.cells #[.int .u64 0, .slice none 0 0, .slice none 0 0, .int .u8 0] 32))) := hb0
  have BX : Hid (Box4f (w.alloc (.cells #[.int .u64 0, .slice none 0 0, .slice none 0 0, .int .u8 0] 32)) w.heap.size (.int .u64 0) (.slice none 0 0) (.slice none 0 0) (.int .u8 0)) := box4f_new w _ _ _ _ _
  have hpl := place_any G _ t mo ea gs qs gv qv n (h.below hb0) (by omega)
  have HZ : Hid (decide (0 ≤ idxB (fun q : Rq => decide (q.l.n = n)) qs) = (qs.any fun q => decide (q.l.n = n)) ∧ (0 ≤ idxB (fun q : Rq => decide (q.l.n = n)) qs → ∃ j, j < qs.length ∧ idxB (fun q : Rq => decide (q.l.n = n)) qs = (j : Int))) := ⟨idxB_any _ _, idxB_lt _ _⟩
  obtain ⟨z, hz⟩ : ∃ z, idxB (fun q : Rq => decide (q.l.n = n)) qs = z := ⟨_, rfl⟩
  obtain ⟨r, hr⟩ : ∃ r, (qs.any fun q => decide (q.l.n = n)) = r := ⟨_, rfl⟩
  rw [hz, hr] at HZ
  rw [hz] at hpl
  rw [hr]
  clear h hb0 hz hr
  go_enter Try.func22, Try.ntmps22
  go_wp2_with fail
  refine hpl.mono ?_
  rintro e w2 ⟨rfl, hb2⟩
  have HB2 : Hid (Below w.heap.size w w2) := bsplit HB0.out hb2
  have BX2 : Hid (Box4f w2 w.heap.size (.int .u64 0) (.slice none 0 0) (.slice none 0 0) (.int .u8 0)) := BX.out.below hb2 (Nat.le_refl _)
  obtain ⟨⟨k0, k1, k2, k3⟩, j0, j1, j2, j3⟩ := BX2.out
  clear hpl hb2
  by_cases h0 : 0 ≤ z
  · obtain ⟨j, hj, rfl⟩ := HZ.out.2 h0
    have hr : r = true := by rw [← HZ.out.1]; exact decide_eq_true h0
    subst hr
    have hat := HL.out.below HB2.out
    have c3 := hat.bx.c3
    obtain ⟨b, c, eq, _, q0, q1, q2, q3, q4⟩ := hat.rq.at j hj
    have hok := hat.oq qs[j] (List.getElem_mem hj)
    subst eq
    obtain ⟨q, hq⟩ : ∃ q, qs[j] = q := ⟨_, rfl⟩
    rw [hq] at q0 q1 q2 q3 hok
    obtain ⟨⟨x1, x2, x3, ex⟩, ⟨y1, y2, y3, ey⟩⟩ := hok.s
    have hap := apart_any w2 q.l.x q.l.y q.l.f q.l.t (q.l.n : Int) (q.l.m.toNat : Int) hok.1.rd hok.2.1.rd hok.2.2.2.1 hok.2.2.2.2
    rw [ex, ey] at hap
    rw [ex] at q1
    rw [ey] at q2
    obtain ⟨gn, hgn⟩ : ∃ z : Int, (q.l.n : Int) = z := ⟨_, rfl⟩
    obtain ⟨gm, hgm⟩ : ∃ z : Int, (q.l.m.toNat : Int) = z := ⟨_, rfl⟩
    rw [hgn, hgm] at hap
    rw [hgn] at q0
    rw [hgm] at q3
    obtain ⟨N, hN⟩ : ∃ N, qs.length = N := ⟨_, rfl⟩
    rw [hN] at c3 hj
    unfold lkV at hap
    clear hat hok hq ex ey hgn hgm hN q4
    go_wp2_with fail
    refine hap.mono ?_
    rintro e w3 ⟨x', y', rfl, ox, oy, hb3⟩
    obtain ⟨p1, p3, ep⟩ := ox.rd.len
    obtain ⟨r1, r3, er⟩ := oy.rd.len
    obtain ⟨fl, hfl⟩ : ∃ z, q.l.f.length = z := ⟨_, rfl⟩
    obtain ⟨tl, htl⟩ : ∃ z, q.l.t.length = z := ⟨_, rfl⟩
    rw [hfl] at ep
    rw [htl] at er
    subst ep er
    have HB3 : Hid (Below w.heap.size w w3) := bsplit HB2.out hb3
    have BX3 := BX2.out.below hb3 (Nat.le_refl _)
    clear hap ox oy hb3 k0 k1 k2 k3 j0 j1 j2 j3 q0 q1 q2 q3 c3 hfl htl
    obtain ⟨⟨k0, k1, k2, k3⟩, j0, j1, j2, j3⟩ := BX3
    go_wp2
    refine bodyPost_ret (v := .tuple #[.agg #[.int .u64 gn, .slice p1 fl p3, .slice r1 tl r3, .int .u8 gm], .bool true]) (by simp [results, Try.results22, go_sem, k0, k1, k2, k3]) rfl ⟨_, _, _, _, _, _, _, _, rfl, below_store4 HB3.out (Nat.le_refl _) _ _ _ _⟩
  · have hr : r = false := by rw [← HZ.out.1]; exact decide_eq_false h0
    subst hr
    go_wp2
    refine bodyPost_ret (v := .tuple #[.agg #[.int .u64 0, .slice none 0 0, .slice none 0 0, .int .u8 0], .bool false]) (by simp [results, Try.results22, go_sem, k0, k1, k2, k3]) rfl ⟨_, _, _, _, _, _, _, _, rfl, below_store4 HB2.out (Nat.le_refl _) _ _ _ _⟩

/-- by its blocks -/
theorem waitsq_any (B : Nat) (w : World) (t : Nat) (mo ea : Int) (gs : List Lk) (qs : List Rq) (n : Nat) (h : LkQ B w t mo ea gs qs) (hn : qs.length ≤ 1000) :
    Calls Try.prog 22 #[.pointer (some ⟨t, 0, none⟩), .int .u64 (n : Int)] w (WtPost w (qs.any fun q => decide (q.l.n = n))) := by
  obtain ⟨_, G, h, _⟩ := h
  exact waits_any G w t mo ea gs qs n h hn

theorem queueq_any (B : Nat) (w : World) (t : Nat) (mo ea : Int) (gs : List Lk) (qs : List Rq) (h : LkQ B w t mo ea gs qs) (hn : qs.length ≤ 100000) :
    Calls Try.prog 20 #[.pointer (some ⟨t, 0, none⟩)] w fun e w' => ∃ v, e = .returned v ∧ OwnU w.heap.size w' v (qs.map (·.l.n)) ∧ Below w.heap.size w w' := by
  obtain ⟨_, G, h, _⟩ := h
  exact queue_any G w t mo ea gs qs h hn

end Go.Proofs.Ytnnedoohppobpaa
