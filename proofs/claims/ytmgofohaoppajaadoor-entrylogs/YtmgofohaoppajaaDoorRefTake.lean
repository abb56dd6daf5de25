/- bartizanref01's Take. -/
import Derived.Test.YtmgofohaoppajaaDoorNumRead
import Derived.Test.YtmgofohaoppajaaDoorTextOk
import Derived.Test.YtmgofohaoppajaaDoorCut
namespace Go.Proofs.YtmgofohaoppajaaDoor
open Go.RowKit

set_option maxRecDepth 100000 in
theorem reftake_nil (w : World) (v : Value) (hv : Rd w v []) :
    Calls Tryd.prog 50 #[v] w fun e w' => e = .returned (.tuple #[.int .u64 0, .slice none 0 0, .int .i64 2]) ∧ w' = w := by
  rcases hv with ⟨rfl, _⟩ | ⟨b, off, cap, rfl, h1, h2, h3⟩
  all_goals
    try simp only [List.length_nil]
    go_enter Tryd.func50, Tryd.ntmps50
    go_wp2
    go_ret3
    exact ⟨rfl, rfl⟩

theorem refnum_lit (k : Int) (n : Nat) (hk : k = (n : Int)) (w : World) (h2 : n < 18446744073709551616) :
    Calls Tryd.prog 25 #[.int .u64 k] w fun e w' => ∃ v, e = .returned v ∧ Own w.heap.size w' v (Mth.numB n) ∧ Below w.heap.size w w' := by
  subst hk
  exact refnum_any n w h2

/-- what it answers -/
def refV (same : Bool) (d : Nat) (x : Value) : Value := .tuple #[.int .u64 (if same then (d : Int) else 0), x, .int .i64 (if same then 0 else 4)]

/-- and what of its second result -/
def RefPost (same : Bool) (rest : List UInt8) (B : Nat) (w : World) (x : Value) : Prop := if same then Own B w x rest else x = .slice none 0 0

theorem ref_eq {k : Int} {d : Nat} (h : k = (d : Int)) (x : Value) : Ending.returned (.tuple #[.int .u64 k, x, .int .i64 0]) = .returned (refV true d x) := by subst h; rfl

/-- behind append([]byte{}, piece...) -/
theorem own_copied {w w2 : World} {v' : Value} {l : List UInt8} {n : Nat} (hn : l.length = n) (ho' : w2.ownsRow w.heap.size 5 1 v' (0 + n) ([] ++ bv l)) (hgr' : (w.alloc (.cells #[] 5)).grownBy w2 (Value.slice (some ⟨w.heap.size, 0, none⟩) 0 0).ownBlock)
    (hn' : v' ≠ .slice none 0 0) : Own w.heap.size w2 v' l ∧ Below w.heap.size w w2 := by
  subst hn
  refine ⟨Own.of_row ?_ hn', (below_empty w).grown hgr' (by simp) (fun k' e => ((own_empty w).lt k' e).1)⟩
  rw [Nat.zero_add, List.nil_append] at ho'
  exact ho'

set_option maxHeartbeats 1000000 in
set_option maxRecDepth 100000 in
theorem reftake_one (w : World) (v : Value) (f : UInt8) (t : List UInt8) (hv : Rd w v (f :: t)) (h : f.toNat ≤ 240) (hlen : (f :: t).length ≤ 1099511627776) :
    Calls Tryd.prog 50 #[v] w fun e w' => ∃ x, e = .returned (.tuple #[.int .u64 (f.toNat : Int), x, .int .i64 0]) ∧ Own w.heap.size w' x t ∧ Below w.heap.size w w' := by
  obtain ⟨i0, hi, hz0, hz1, hz2⟩ := info_parts info5
  rcases hv with ⟨_, h⟩ | ⟨b, off, cap, rfl, h1, h2, h3⟩
  · cases h
  have hc := h3 0 _ (bv_get (f :: t) 0 (by simp))
  simp only [Nat.add_zero, List.getElem_cons_zero] at hc
  obtain ⟨off1, o1, o2, hR, _⟩ := rd_drop h3 h1 h2 1 (by simp)
  simp only [List.length_cons, Nat.add_sub_cancel, List.drop_succ_cons, List.drop_zero] at hR
  have hR' := rd_cells (hR.below (below_empty w) (Nat.le_refl _))
  simp only [List.length_cons] at h1 hlen ⊢
  unfold maxLen at h2
  have h0 : ((t.length : Int) + 1 == 0) = false := by simp; omega
  have hown0 := own_empty w
  clear h3 hR
  have hcells := hR'.2
  clear hR'
  by_cases hcap : 1 = cap
  · subst hcap
    have := o2 rfl
    subst this
    clear o1 o2
    have ht0 : t.length = 0 := by omega
    go_enter Tryd.func50, Tryd.ntmps50
    go_wp2_with (at_builtin; refine wpList_append_own _ rfl (.tmp 24) (.tmp 26) 26 rfl w.heap.size 5 i0 (.int .u8 0) 1 1 Tryd.underlying26 hi hz0 hz1 hz2 rfl (by decide) (.slice (some ⟨w.heap.size, 0, none⟩) 0 0) 0 [] rfl hown0 ⟨b, off1, none⟩ 0 0 (bv t) rfl (by rw [bv_length]; omega) hcells (bv_one _) (by simp only [maxLen]; omega) (by omega) (by simp) ?_; intro v' w2 ho' hgr' hn')
    go_ret3
    have := own_copied ht0 ho' hgr' (fun e => by have := (hn'.1 e).1; cases this)
    exact ⟨v', rfl, this.1, this.2⟩
  · have := o1 (fun e => hcap e.symm)
    subst this
    clear o1 o2
    go_enter Tryd.func50, Tryd.ntmps50
    go_wp2_with (at_builtin; refine wpList_append_own _ rfl (.tmp 24) (.tmp 26) 26 rfl w.heap.size 5 i0 (.int .u8 0) 1 1 Tryd.underlying26 hi hz0 hz1 hz2 rfl (by decide) (.slice (some ⟨w.heap.size, 0, none⟩) 0 0) 0 [] rfl hown0 ⟨b, off + 1, none⟩ t.length (cap - 1) (bv t) rfl (by rw [bv_length]; omega) hcells (bv_one _) (by simp only [maxLen]; omega) (by omega) (by simp) ?_; intro v' w2 ho' hgr' hn')
    go_ret3
    have := own_copied rfl ho' hgr' (fun e => by have := (hn'.1 e).1; cases this)
    exact ⟨v', rfl, this.1, this.2⟩

end Go.Proofs.YtmgofohaoppajaaDoor
