/- bartizanref01's TakeText. -/
import Derived.Test.YtmgofohaoppajaaDoorRefTakeAll
import Derived.Deep.RegionLaw
namespace Go.Proofs.YtmgofohaoppajaaDoor
set_option maxRecDepth 20000
open Go.RowKit

/-- append to a row of the call's own, as one step of a region that draws its order -/
theorem step_append_own {P : Program} {ops : Array Oper} {o : Oper} {a : Act} {w : World} {K : Act → World → Prop} {Q : Exit → Act → World → Prop} {E : Prop}
    (hg : o.guard = none) (s x : Operand) (t : TypeId) (hop : o.op = Op.call { callee := Callee.builtin Builtin.append, args := #[s, x], argTypes := #[t, t] })
    (base : Nat) (e : TypeId) (i : TypeInfo) (z : Value) (size bytes : Nat) (h1 : P.underlying t = some (.slice e)) (h2 : P.info? e = some i) (h3 : i.zero = some z) (h4 : i.size = size) (h5 : i.bytes = bytes) (h6 : z.cells.size = size) (h7 : 0 < size)
    (v : Value) (n : Nat) (xs : List Value) (hs : a.eval s = v) (hown : w.ownsRow base e size v n xs)
    (ad : Addr) (m c : Nat) (news : List Value) (hx : a.eval x = .slice (some ad) m c) (hn : news.length = m * size) (hc : ∀ j u, news[j]? = some u → w.cell? (ad.add j) = some u) (h1c : ∀ u ∈ news, u.oneCell' = true)
    (b1 : n + m ≤ maxLen) (b2 : (n + m) * bytes ≤ 140737488355328) (hbase : base ≤ w.heap.size)
    (hK : ∀ v' w', w'.ownsRow base e size v' (n + m) (xs ++ news) → w.grownBy w' v.ownBlock → (v' = .slice none 0 0 ↔ v = .slice none 0 0 ∧ m = 0) → K (a.put o.dst v') w') :
    if Region.wanted o (yielded ops a.tmps) = true then Oper.wp P o a w K Q else E := by
  have hw : Region.wanted o (yielded ops a.tmps) = true := by simp [Region.wanted, hg]
  rw [if_pos hw]
  obtain ⟨v', w', hrun, r1, r2, r3⟩ := run_append_own (P := P) w base t o.type e i z size bytes h1 h2 h3 h4 h5 h6 h7 v n xs hown ad m c news hn hc h1c b1 b2 hbase
  unfold Oper.wp
  simp [execOp, hop, resolve, invoke, builtin, hs, hx, hrun, Result.andThen]
  exact hK v' w' r1 r2 r3

theorem rtt_front (w : World) (v : Value) (l : List UInt8) (most : Int) (e : Nat) (hv : Rd w v l) (hlen : l.length ≤ 1099511627776) (hf : frontS l = (0, 0, e)) (he : e = 2 ∨ e = 4) :
    Calls Tryd.prog 51 #[v, .int .i64 most] w fun r w' => r = .returned (.tuple #[.slice none 0 0, .slice none 0 0, .int .i64 (e : Int)]) ∧ Below w.heap.size w w' := by
  have hV : Hid (∀ x, takeV l x = .tuple #[.int .u64 0, x, .int .i64 (e : Int)]) := by intro x; unfold takeV; rw [hf]; rfl
  have he0 : ((e : Int) == 0) = false := by simp; omega
  clear hf
  go_enter Tryd.func51, Tryd.ntmps51
  go_wp2_with (go_at_call 50; refine (reftake_any _ _ l hv hlen).mono ?_; rintro r w1 ⟨x, rfl, hp, hb⟩; rw [hV.out])
  go_ret3
  exact ⟨rfl, hb⟩

theorem rtt_long (w : World) (v : Value) (l : List UInt8) (most : Int) (n s : Nat) (hm2 : most ≤ 9223372036854775807) (hv : Rd w v l) (hlen : l.length ≤ 1099511627776) (hf : frontS l = (n, s, 0)) (hm : most < 0 ∨ most < (n : Int)) :
    Calls Tryd.prog 51 #[v, .int .i64 most] w fun r w' => r = .returned (.tuple #[.slice none 0 0, .slice none 0 0, .int .i64 3]) ∧ Below w.heap.size w w' := by
  have hV : Hid (∀ x, takeV l x = .tuple #[.int .u64 (n : Int), x, .int .i64 0]) := by intro x; unfold takeV; rw [hf]; rfl
  clear hf
  by_cases h0 : most < 0
  · have h0' : decide (most < 0) = true := decide_eq_true h0
    go_enter Tryd.func51, Tryd.ntmps51
    go_wp2_with (go_at_call 50; refine (reftake_any _ _ l hv hlen).mono ?_; rintro r w1 ⟨x, rfl, hp, hb⟩; rw [hV.out])
    go_ret3
    exact ⟨rfl, hb⟩
  · have hm' : most < (n : Int) := by omega
    have h0' : decide (most < 0) = false := decide_eq_false h0
    have h00 : 0 ≤ most := by omega
    clear hm
    go_enter Tryd.func51, Tryd.ntmps51
    go_wp2_with (go_at_call 50; refine (reftake_any _ _ l hv hlen).mono ?_; rintro r w1 ⟨x, rfl, hp, hb⟩; rw [hV.out])
    go_ret3
    exact ⟨rfl, hb⟩

theorem rtt_short (w : World) (v : Value) (l : List UInt8) (most : Int) (n s : Nat) (hm2 : most ≤ 9223372036854775807) (hv : Rd w v l) (hlen : l.length ≤ 1099511627776) (hf : frontS l = (n, s, 0)) (hm : (n : Int) ≤ most) (hl : l.length - s < n) :
    Calls Tryd.prog 51 #[v, .int .i64 most] w fun r w' => r = .returned (.tuple #[.slice none 0 0, .slice none 0 0, .int .i64 2]) ∧ Below w.heap.size w w' := by
  have hV : Hid (∀ x, takeV l x = .tuple #[.int .u64 (n : Int), x, .int .i64 0]) := by intro x; unfold takeV; rw [hf]; rfl
  have hP : Hid (∀ B w x, TakePost l B w x → Own B w x (l.drop s)) := by intro B w x h; unfold TakePost at h; rw [hf] at h; exact h
  obtain ⟨r, hr⟩ : ∃ r, l.drop s = r := ⟨_, rfl⟩
  have hrl : r.length < n := by rw [← hr, List.length_drop]; omega
  rw [hr] at hP
  clear hf hr
  have h0' : decide (most < 0) = false := decide_eq_false (by omega)
  have h00 : 0 ≤ most := by omega
  go_enter Tryd.func51, Tryd.ntmps51
  go_wp2_with (go_at_call 50; refine (reftake_any _ _ l hv hlen).mono ?_; rintro r w1 ⟨x, rfl, hp, hb⟩; rw [hV.out]; replace hp := hP.out _ _ _ hp; obtain ⟨g, k, hx⟩ := hp.shape; subst hx)
  go_ret3
  exact ⟨rfl, hb⟩

/-- a slice that lies from block B on -/
def From (B : Nat) (v : Value) : Prop := ∀ a n c, v = .slice (some a) n c → B ≤ a.block

theorem from_nil (B : Nat) : From B (.slice none 0 0) := fun a n c h => by cases h
theorem from_at {B g o n k : Nat} (h : B ≤ g) : From B (.slice (some ⟨g, o, none⟩) n k) := fun a n' c e => by cases e; exact h
theorem Own.from {B : Nat} {w : World} {v : Value} {l : List UInt8} (h : Own B w v l) : From B v := by
  obtain ⟨g, k, rfl⟩ := h.shape
  exact from_at h.lt.1

set_option maxHeartbeats 2000000 in
theorem rtt_ok (w : World) (v : Value) (l t r : List UInt8) (most : Int) (n s : Nat) (hm2 : most ≤ 9223372036854775807) (hv : Rd w v l) (hf : frontS l = (n, s, 0)) (hm : (n : Int) ≤ most) (hl : n ≤ l.length - s) (hlen : l.length ≤ 1099511627776)
    (ht : (l.drop s).take n = t) (hr : l.drop (s + n) = r) :
    Calls Tryd.prog 51 #[v, .int .i64 most] w fun e w' => ∃ x y, e = .returned (.tuple #[x, y, .int .i64 0]) ∧ Rd w' x t ∧ Rd w' y r ∧ From w.heap.size x ∧ From w.heap.size y ∧ Below w.heap.size w w' := by
  obtain ⟨i0, hi, hz0, hz1, hz2⟩ := info_parts info5
  have hV : Hid (∀ x, takeV l x = .tuple #[.int .u64 (n : Int), x, .int .i64 0]) := by intro x; unfold takeV; rw [hf]; rfl
  have hP : Hid (∀ B w x, TakePost l B w x → Own B w x (l.drop s)) := by intro B w x h; unfold TakePost at h; rw [hf] at h; exact h
  obtain ⟨q, hq⟩ : ∃ q, l.drop s = q := ⟨_, rfl⟩
  have hql : q.length = l.length - s := by rw [← hq, List.length_drop]
  have hr2 : q.drop n = r := by rw [← hq, List.drop_drop]; exact hr
  rw [hq] at hP ht
  have hnq : n ≤ q.length := by omega
  have hqb : q.length ≤ 1099511627776 := by omega
  clear hf hq hr hql
  have h0' : decide (most < 0) = false := decide_eq_false (by omega)
  have h00 : 0 ≤ most := by omega
  go_enter Tryd.func51, Tryd.ntmps51
  go_wp2_with (go_at_call 50; refine (reftake_any _ _ l hv hlen).mono ?_; rintro r w1 ⟨x, rfl, hp, hb⟩; rw [hV.out]; replace hp := hP.out _ _ _ hp; obtain ⟨g, k, hx⟩ := hp.shape; subst hx)
  have hrd := hp.rd
  have hgB := hp.lt.1
  have hcs : ∀ j u, (bv q)[j]? = some u → w1.cell? ⟨g, 0 + j, none⟩ = some u := fun j u hu => by
    have := (rd_cells hrd).2 j u hu
    rwa [Addr.add_lit] at this
  have hkl : q.length ≤ k ∧ k ≤ maxLen := by
    obtain ⟨g', k', c', e, _, _, h1, h2, _⟩ := hp
    simp only [Value.slice.injEq] at e
    obtain ⟨_, _, rfl⟩ := e
    exact ⟨h1, h2⟩
  have hT : Rd w1 (.slice (some ⟨g, 0, none⟩) n k) t := by
    have := rd_sub hcs 0 n k (by omega) hkl.2 (by omega)
    rw [List.drop_zero, ht] at this
    exact this
  obtain ⟨off1, o1, o2, hR, _hcc⟩ := rd_drop hcs hkl.1 hkl.2 n hnq
  rw [hr2] at hR
  have hkm := hkl.2
  have hqk := hkl.1
  unfold maxLen at hkm
  have hcells := (rd_cells (hR.below (below_empty w1) (Nat.le_refl _))).2
  have hrl := (rd_cells hR).1
  have HRL : Hid (r.length = q.length - n) := hrl
  clear hrl _hcc hcs hkl hrd hp ht hr2 hv
  by_cases hcap : n = k
  · subst hcap
    have := o2 rfl
    subst this
    clear o1 o2
    have hnk : n ≤ n := by omega
    go_region_law (refine step_append_own rfl (.tmp 35) (.tmp 38) 26 rfl w1.heap.size 5 i0 (.int .u8 0) 1 1 Tryd.underlying26 hi hz0 hz1 hz2 rfl (by decide) (.slice (some ⟨w1.heap.size, 0, none⟩) 0 0) 0 [] rfl (by first | exact own_empty w1 | exact (own_empty w1).drew) _ _ _ (bv r) rfl (by rw [bv_length, HRL.out]; omega) (by exact hcells) (bv_one _) (by simp only [maxLen]; omega) (by omega) (by simp) ?_; intro v' w3 ho' hgr' hn')
    all_goals
      have hoc := own_copied (w := w1) (n := 0) (by rw [HRL.out]; omega) ho' ⟨hgr'.os, hgr'.tape, hgr'.output, hgr'.size, hgr'.block⟩ (fun e => by have := (hn'.1 e).1; cases this)
      go_wp2
      go_ret3
      exact ⟨_, _, rfl, hT.below hoc.2 (Nat.le_refl _), hoc.1.rd, from_at hgB, (hoc.1.mono hb.size).from, hb.trans (hoc.2.mono hb.size)⟩
  · have := o1 (fun e => hcap e.symm)
    subst this
    clear o1 o2
    have hnk : n ≤ k := by omega
    have hcap' : ¬ k = n := fun e => hcap e.symm
    rw [Nat.zero_add] at hcells
    go_region_law (refine step_append_own rfl (.tmp 35) (.tmp 38) 26 rfl w1.heap.size 5 i0 (.int .u8 0) 1 1 Tryd.underlying26 hi hz0 hz1 hz2 rfl (by decide) (.slice (some ⟨w1.heap.size, 0, none⟩) 0 0) 0 [] rfl (by first | exact own_empty w1 | exact (own_empty w1).drew) _ _ _ (bv r) rfl (by rw [bv_length, HRL.out]; omega) (by exact hcells) (bv_one _) (by simp only [maxLen]; omega) (by omega) (by simp) ?_; intro v' w3 ho' hgr' hn')
    all_goals
      have hoc := own_copied (w := w1) (n := q.length - n) HRL.out ho' ⟨hgr'.os, hgr'.tape, hgr'.output, hgr'.size, hgr'.block⟩ (fun e => by have := (hn'.1 e).1; cases this)
      go_wp2
      go_ret3
      exact ⟨_, _, rfl, hT.below hoc.2 (Nat.le_refl _), hoc.1.rd, from_at hgB, (hoc.1.mono hb.size).from, hb.trans (hoc.2.mono hb.size)⟩

end Go.Proofs.YtmgofohaoppajaaDoor
