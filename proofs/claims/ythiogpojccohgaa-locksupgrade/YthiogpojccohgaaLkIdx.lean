/- slices.IndexFunc of requests, of locks; slices.ContainsFunc of locks. -/
import Derived.Test.YthiogpojccohgaaLkFns
namespace Go.Proofs.Ythiogpojccohgaa
set_option maxRecDepth 20000
open Go.RowKit
set_option linter.unusedVariables false
set_option linter.unusedSimpArgs false

/-- the first one, or -1 -/
def idxB {α : Type} (p : α → Bool) (l : List α) : Int := match l.findIdx? p with | some i => (i : Int) | none => -1

theorem idxB_at {α : Type} (p : α → Bool) (l : List α) (j : Nat) (h : j < l.length) (h1 : (l.take j).any p = false) (h2 : p l[j] = true) : idxB p l = (j : Int) := by
  have : l.findIdx? p = some j := by
    rw [List.findIdx?_eq_some_iff_getElem]
    refine ⟨h, h2, fun i hi => ?_⟩
    rw [List.any_eq_false] at h1
    exact h1 l[i] (List.mem_take_iff_getElem.2 ⟨i, by omega, rfl⟩)
  unfold idxB
  rw [this]

theorem idxB_none {α : Type} (p : α → Bool) (l : List α) (h1 : l.any p = false) : idxB p l = -1 := by
  have : l.findIdx? p = none := by
    rw [List.findIdx?_eq_none_iff]
    intro x hx
    rw [List.any_eq_false] at h1
    simpa using h1 x hx
  unfold idxB
  rw [this]

theorem idxB_any {α : Type} (p : α → Bool) (l : List α) : decide (0 ≤ idxB p l) = l.any p := by
  by_cases h : l.any p = true
  · rw [h]
    obtain ⟨x, hx, hp⟩ := List.any_eq_true.1 h
    unfold idxB
    cases h9 : l.findIdx? p with
    | none => rw [List.findIdx?_eq_none_iff] at h9; rw [h9 x hx] at hp; cases hp
    | some i => show decide ((0 : Int) ≤ (i : Int)) = true; exact decide_eq_true (by omega)
  · rw [Bool.not_eq_true] at h
    rw [h, idxB_none p l h]
    rfl

theorem any_take_succ {α : Type} (p : α → Bool) (l : List α) (j : Nat) (h : j < l.length) (h1 : (l.take j).any p = false) (h2 : p l[j] = false) : (l.take (j + 1)).any p = false := by
  rw [List.take_succ_eq_append_getElem h, List.any_append, h1]
  simp [h2]

set_option maxHeartbeats 2000000 in
theorem idxl_any (w : World) (v : Value) (gs : List Lk) (fn : Nat) (cap : Value) (p : Lk → Bool) (hf : ∀ (args : Array Value) (W : World), Sem.run Try.prog (callFunc fn args) W = .ok (.enter fn args) W) (h : RowL w v gs) (hs : ∀ g ∈ gs, LkS g) (hn : gs.length ≤ 100000)
    (hc : ∀ g ∈ gs, ∀ W, Below w.heap.size w W → Calls Try.prog fn #[lkV (g.n : Int) g.x g.y (g.m.toNat : Int), cap] W fun e w' => e = .returned (.bool (p g)) ∧ Below W.heap.size W w') :
    Calls Try.prog 52 #[v, .func (.func fn) #[] #[cap]] w fun e w' => e = .returned (.int .i64 (idxB p gs)) ∧ Below w.heap.size w w' := by
  obtain ⟨va, vc, rfl, hvc, hvc2⟩ := row_slice9 h
  obtain ⟨N, hN⟩ : ∃ N, gs.length = N := ⟨_, rfl⟩
  have HV : Hid (RowL w (.slice va gs.length vc) gs) := h
  have HC : Hid (∀ g ∈ gs, ∀ W, Below w.heap.size w W → Calls Try.prog fn #[lkV (g.n : Int) g.x g.y (g.m.toNat : Int), cap] W fun e w' => e = .returned (.bool (p g)) ∧ Below W.heap.size W w') := hc
  have HS : Hid (∀ g ∈ gs, LkS g) := hs
  have HN : Hid (gs.length = N) := hN
  rw [hN] at HV hn hvc ⊢
  clear h hN hc hs
  go_enter Try.func52, Try.ntmps52
  go_wp2_with fail
  go_loopg [8] N (fun gk iv wr => ∃ j : Nat, gk + j = N ∧ iv = .int .i64 (j : Int) ∧ Hid ((gs.take j).any p = false) ∧ Hid (Below w.heap.size w wr))
  case atStart => exact ⟨0, by omega, rfl, by show _ = _; simp, Below.refl _ _⟩
  case round =>
    obtain ⟨j, hj, rfl, HA, HB⟩ := hrel
    by_cases hlt : j < N
    · have hlt2 : j < gs.length := by rw [HN.out]; exact hlt
      obtain ⟨b, c, e, _, c0, c1, c2, c3⟩ := (HV.out.below HB.out).at j hlt2
      rw [HN.out] at e
      cases e
      obtain ⟨q1, q2⟩ := gk_nxt hj hlt
      have hsg := HS.out _ (List.getElem_mem hlt2)
      have hcg := HC.out _ (List.getElem_mem hlt2)
      have HYES : Hid (p gs[j] = true → idxB p gs = (j : Int)) := fun h9 => idxB_at p gs j hlt2 HA.out h9
      have HNO : Hid (p gs[j] = false → (gs.take (j + 1)).any p = false) := fun h9 => any_take_succ p gs j hlt2 HA.out h9
      obtain ⟨g, hg⟩ : ∃ g, gs[j] = g := ⟨_, rfl⟩
      rw [hg] at c0 c1 c2 c3 hsg hcg HYES HNO
      obtain ⟨⟨x1, x2, x3, ex⟩, ⟨y1, y2, y3, ey⟩⟩ := hsg
      obtain ⟨gn, hgn⟩ : ∃ z : Int, (g.n : Int) = z := ⟨_, rfl⟩
      obtain ⟨gm, hgm⟩ : ∃ z : Int, (g.m.toNat : Int) = z := ⟨_, rfl⟩
      rw [hgn] at c0
      rw [hgm] at c3
      rw [ex] at c1
      rw [ey] at c2
      have hcl := hcg wr HB.out
      rw [ex, ey, hgn, hgm] at hcl
      unfold lkV at hcl
      obtain ⟨r, hr⟩ : ∃ r, p g = r := ⟨_, rfl⟩
      rw [hr] at hcl HYES HNO
      clear hcg hg ex ey hgn hgm hr
      go_wp2_with fail
      refine hcl.mono ?_
      rintro e w2 ⟨rfl, hb2⟩
      have HB2 : Hid (Below w.heap.size w w2) := bsplit HB.out hb2
      clear hcl hb2 c0 c1 c2 c3
      cases r with
      | false =>
        have HN2 : Hid ((gs.take (j + 1)).any p = false) := HNO.out rfl
        go_wp2_with fail
        go_roundg (gk - 1)
        case measure => exact q1
        case rel => exact ⟨j + 1, q2, by go_num, HN2, HB2⟩
      | true =>
        have HY2 : Hid (idxB p gs = (j : Int)) := HYES.out rfl
        go_wp2_with fail
        go_wp2
        go_ret
        exact ⟨by rw [HY2.out]; rfl, HB2.out⟩
    · have hjN : j = N := by omega
      subst hjN
      have HE : Hid (idxB p gs = -1) := by
        show _ = _
        refine idxB_none p gs ?_
        have h9 := HA.out
        rw [← HN.out, List.take_length] at h9
        exact h9
      go_wp2_with fail
      go_wp2
      go_ret
      exact ⟨by rw [HE.out]; rfl, HB.out⟩

set_option maxHeartbeats 2000000 in
theorem idxq_any (w : World) (v : Value) (gs : List Rq) (fn : Nat) (cap : Value) (p : Rq → Bool) (hf : ∀ (args : Array Value) (W : World), Sem.run Try.prog (callFunc fn args) W = .ok (.enter fn args) W) (h : RowQ w v gs) (hs : ∀ g ∈ gs, LkS g.l) (hn : gs.length ≤ 100000)
    (hc : ∀ g ∈ gs, ∀ W, Below w.heap.size w W → Calls Try.prog fn #[rqV (g.l.n : Int) g.l.x g.l.y (g.l.m.toNat : Int) (g.u : Int), cap] W fun e w' => e = .returned (.bool (p g)) ∧ Below W.heap.size W w') :
    Calls Try.prog 36 #[v, .func (.func fn) #[] #[cap]] w fun e w' => e = .returned (.int .i64 (idxB p gs)) ∧ Below w.heap.size w w' := by
  obtain ⟨va, vc, rfl, hvc, hvc2⟩ := row_slice9 h
  obtain ⟨N, hN⟩ : ∃ N, gs.length = N := ⟨_, rfl⟩
  have HV : Hid (RowQ w (.slice va gs.length vc) gs) := h
  have HC : Hid (∀ g ∈ gs, ∀ W, Below w.heap.size w W → Calls Try.prog fn #[rqV (g.l.n : Int) g.l.x g.l.y (g.l.m.toNat : Int) (g.u : Int), cap] W fun e w' => e = .returned (.bool (p g)) ∧ Below W.heap.size W w') := hc
  have HS : Hid (∀ g ∈ gs, LkS g.l) := hs
  have HN : Hid (gs.length = N) := hN
  rw [hN] at HV hn hvc ⊢
  clear h hN hc hs
  go_enter Try.func36, Try.ntmps36
  go_wp2_with fail
  go_loopg [8] N (fun gk iv wr => ∃ j : Nat, gk + j = N ∧ iv = .int .i64 (j : Int) ∧ Hid ((gs.take j).any p = false) ∧ Hid (Below w.heap.size w wr))
  case atStart => exact ⟨0, by omega, rfl, by show _ = _; simp, Below.refl _ _⟩
  case round =>
    obtain ⟨j, hj, rfl, HA, HB⟩ := hrel
    by_cases hlt : j < N
    · have hlt2 : j < gs.length := by rw [HN.out]; exact hlt
      obtain ⟨b, c, e, _, c0, c1, c2, c3, c4⟩ := (HV.out.below HB.out).at j hlt2
      rw [HN.out] at e
      cases e
      obtain ⟨q1, q2⟩ := gk_nxt hj hlt
      have hsg := HS.out _ (List.getElem_mem hlt2)
      have hcg := HC.out _ (List.getElem_mem hlt2)
      have HYES : Hid (p gs[j] = true → idxB p gs = (j : Int)) := fun h9 => idxB_at p gs j hlt2 HA.out h9
      have HNO : Hid (p gs[j] = false → (gs.take (j + 1)).any p = false) := fun h9 => any_take_succ p gs j hlt2 HA.out h9
      obtain ⟨g, hg⟩ : ∃ g, gs[j] = g := ⟨_, rfl⟩
      rw [hg] at c0 c1 c2 c3 c4 hsg hcg HYES HNO
      obtain ⟨⟨x1, x2, x3, ex⟩, ⟨y1, y2, y3, ey⟩⟩ := hsg
      obtain ⟨gn, hgn⟩ : ∃ z : Int, (g.l.n : Int) = z := ⟨_, rfl⟩
      obtain ⟨gu, hgu⟩ : ∃ z : Int, (g.u : Int) = z := ⟨_, rfl⟩
      obtain ⟨gm, hgm⟩ : ∃ z : Int, (g.l.m.toNat : Int) = z := ⟨_, rfl⟩
      rw [hgn] at c0
      rw [hgm] at c3
      rw [hgu] at c4
      rw [ex] at c1
      rw [ey] at c2
      have hcl := hcg wr HB.out
      rw [ex, ey, hgn, hgm, hgu] at hcl
      unfold rqV at hcl
      obtain ⟨r, hr⟩ : ∃ r, p g = r := ⟨_, rfl⟩
      rw [hr] at hcl HYES HNO
      clear hcg hg ex ey hgn hgm hgu hr
      go_wp2_with fail
      refine hcl.mono ?_
      rintro e w2 ⟨rfl, hb2⟩
      have HB2 : Hid (Below w.heap.size w w2) := bsplit HB.out hb2
      clear hcl hb2 c0 c1 c2 c3 c4
      cases r with
      | false =>
        have HN2 : Hid ((gs.take (j + 1)).any p = false) := HNO.out rfl
        go_wp2_with fail
        go_roundg (gk - 1)
        case measure => exact q1
        case rel => exact ⟨j + 1, q2, by go_num, HN2, HB2⟩
      | true =>
        have HY2 : Hid (idxB p gs = (j : Int)) := HYES.out rfl
        go_wp2_with fail
        go_wp2
        go_ret
        exact ⟨by rw [HY2.out]; rfl, HB2.out⟩
    · have hjN : j = N := by omega
      subst hjN
      have HE : Hid (idxB p gs = -1) := by
        show _ = _
        refine idxB_none p gs ?_
        have h9 := HA.out
        rw [← HN.out, List.take_length] at h9
        exact h9
      go_wp2_with fail
      go_wp2
      go_ret
      exact ⟨by rw [HE.out]; rfl, HB.out⟩

theorem contl_any (w : World) (v : Value) (gs : List Lk) (fn : Nat) (cap : Value) (p : Lk → Bool) (hf : ∀ (args : Array Value) (W : World), Sem.run Try.prog (callFunc fn args) W = .ok (.enter fn args) W) (h : RowL w v gs) (hs : ∀ g ∈ gs, LkS g) (hn : gs.length ≤ 100000)
    (hc : ∀ g ∈ gs, ∀ W, Below w.heap.size w W → Calls Try.prog fn #[lkV (g.n : Int) g.x g.y (g.m.toNat : Int), cap] W fun e w' => e = .returned (.bool (p g)) ∧ Below W.heap.size W w') :
    Calls Try.prog 38 #[v, .func (.func fn) #[] #[cap]] w fun e w' => e = .returned (.bool (gs.any p)) ∧ Below w.heap.size w w' := by
  have hi := idxl_any w v gs fn cap p hf h hs hn hc
  obtain ⟨va, vc, rfl, hvc, hvc2⟩ := row_slice9 h
  have HP : Hid (decide (0 ≤ idxB p gs) = gs.any p) := idxB_any p gs
  obtain ⟨z, hz⟩ : ∃ z, idxB p gs = z := ⟨_, rfl⟩
  obtain ⟨N, hN⟩ : ∃ N, gs.length = N := ⟨_, rfl⟩
  rw [hz] at hi HP
  rw [hN] at hi ⊢
  clear h hz hs hc hN hn
  by_cases h0 : 0 ≤ z
  · have HP2 : Hid (gs.any p = true) := by show _ = _; rw [← HP.out]; exact decide_eq_true h0
    go_enter Try.func38, Try.ntmps38
    go_wp2_with fail
    refine hi.mono ?_
    rintro e w1 ⟨rfl, hb1⟩
    go_wp2
    go_ret
    exact ⟨by rw [HP2.out]; simp [h0], hb1⟩
  · have HP2 : Hid (gs.any p = false) := by show _ = _; rw [← HP.out]; exact decide_eq_false h0
    go_enter Try.func38, Try.ntmps38
    go_wp2_with fail
    refine hi.mono ?_
    rintro e w1 ⟨rfl, hb1⟩
    go_wp2
    go_ret
    exact ⟨by rw [HP2.out]; simp [h0], hb1⟩

end Go.Proofs.Ythiogpojccohgaa
