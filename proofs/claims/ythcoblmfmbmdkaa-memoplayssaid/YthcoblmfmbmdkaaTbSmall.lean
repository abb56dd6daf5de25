/- tomb's small functions. -/
import Derived.Test.YthcoblmfmbmdkaaSpRow
import Derived.Test.YthcoblmfmbmdkaaLess
import Derived.Test.YthcoblmfmbmdkaaKeyCmp
namespace Go.Proofs.Ythcoblmfmbmdkaa
set_option maxRecDepth 20000
open Go.RowKit
set_option linter.unusedVariables false
set_option linter.unusedSimpArgs false

/-- a span as a value -/
abbrev spV (x y : Value) (s : Int) : Value := .agg #[x, y, .int .u64 s]

theorem isEnd_any (w : World) (a : Option Addr) (n c : Nat) (r : Bool) (hr : decide (1 ≤ n ∧ n ≤ 64) = r) :
    Calls Try.prog 82 #[.slice a n c] w fun e w' => e = .returned (.bool r) ∧ w' = w := by
  subst hr
  go_enter Try.func82, Try.ntmps82
  go_wp2
  all_goals go_ret
  all_goals (refine ⟨ret_bool ?_, rfl⟩; grind)

/-- what is not right with a span -/
def chkSp (l m : List UInt8) (s : Int) : Int :=
  if (1 ≤ l.length ∧ l.length ≤ 64) ∧ (1 ≤ m.length ∧ m.length ≤ 64) ∧ Lib.compareBytes l m < 0 ∧ 1 ≤ s ∧ s ≤ 72057594037927935 then 0 else 4

set_option maxHeartbeats 2000000 in
theorem tcheck_any (w : World) (x y : Value) (l m : List UInt8) (s c : Int) (hx : Rd w x l) (hy : Rd w y m) (hc : chkSp l m s = c) :
    Calls Try.prog 71 #[spV x y s] w fun e w' => e = .returned (.int .i64 c) ∧ Below w.heap.size w w' := by
  obtain ⟨xa, xc, rfl⟩ := hx.len
  obtain ⟨ya, yc, rfl⟩ := hy.len
  have hb0 := below_box w #[.slice xa l.length xc, .slice ya m.length yc, .int .u64 s] 46
  have HB0 : Hid (Below w.heap.size w (w.alloc (.cells #[.slice xa l.length xc, .slice ya m.length yc, .int .u64 s] 46))) := hb0
  obtain ⟨r1, hr1⟩ : ∃ r, decide (1 ≤ l.length ∧ l.length ≤ 64) = r := ⟨_, rfl⟩
  obtain ⟨r2, hr2⟩ : ∃ r, decide (1 ≤ m.length ∧ m.length ≤ 64) = r := ⟨_, rfl⟩
  obtain ⟨r3, hr3⟩ : ∃ r, decide (Lib.compareBytes l m < 0) = r := ⟨_, rfl⟩
  have HC : Hid (c = if r1 && r2 && r3 && decide (1 ≤ s) && decide (s ≤ 72057594037927935) then 0 else 4) := by
    show c = _
    rw [← hc, ← hr1, ← hr2, ← hr3]
    unfold chkSp
    simp [and_assoc]
  have e1 := isEnd_any (w.alloc (.cells #[.slice xa l.length xc, .slice ya m.length yc, .int .u64 s] 46)) xa l.length xc r1 hr1
  have e2 := isEnd_any (w.alloc (.cells #[.slice xa l.length xc, .slice ya m.length yc, .int .u64 s] 46)) ya m.length yc r2 hr2
  have e3 := less_b (w.alloc (.cells #[.slice xa l.length xc, .slice ya m.length yc, .int .u64 s] 46)) _ _ l m r3 (hx.below hb0 (Nat.le_refl _)) (hy.below hb0 (Nat.le_refl _)) hr3
  obtain ⟨c0, c1, c2, _, _, _⟩ := box_new w (.slice xa l.length xc) (.slice ya m.length yc) (.int .u64 s) 46
  clear hc hr1 hr2 hr3 hx hy hb0
  go_enter Try.func71, Try.ntmps71
  go_wp2_with fail
  refine e1.mono ?_
  rintro o w1 ⟨rfl, rfl⟩
  cases r1
  · go_wp2
    go_ret
    exact ⟨by rw [HC.out]; rfl, HB0.out⟩
  go_wp2_with fail
  refine e2.mono ?_
  rintro o w1 ⟨rfl, rfl⟩
  cases r2
  · go_wp2
    go_ret
    exact ⟨by rw [HC.out]; rfl, HB0.out⟩
  go_wp2_with fail
  refine e3.mono ?_
  rintro o w1 ⟨rfl, rfl⟩
  cases r3
  · go_wp2
    go_ret
    exact ⟨by rw [HC.out]; rfl, HB0.out⟩
  go_wp2
  all_goals go_ret
  all_goals (refine ⟨ret_int ?_, HB0.out⟩; rw [HC.out]; simp; omega)

/-- is a key within a span? -/
def covB (l m k : List UInt8) : Bool := !decide (Lib.compareBytes k l < 0) && decide (Lib.compareBytes k m < 0)

set_option maxHeartbeats 2000000 in
theorem covers_any (w : World) (x y kv : Value) (l m k : List UInt8) (s : Int) (r : Bool) (hx : Rd w x l) (hy : Rd w y m) (hk : Rd w kv k) (hr : covB l m k = r) :
    Calls Try.prog 66 #[spV x y s, kv] w fun e w' => e = .returned (.bool r) ∧ Below w.heap.size w w' := by
  obtain ⟨xa, xc, rfl⟩ := hx.len
  obtain ⟨ya, yc, rfl⟩ := hy.len
  obtain ⟨ka, kc, rfl⟩ := hk.len
  have hb0 := below_box w #[.slice xa l.length xc, .slice ya m.length yc, .int .u64 s] 46
  have HB0 : Hid (Below w.heap.size w (w.alloc (.cells #[.slice xa l.length xc, .slice ya m.length yc, .int .u64 s] 46))) := hb0
  obtain ⟨r1, hr1⟩ : ∃ r, decide (Lib.compareBytes k l < 0) = r := ⟨_, rfl⟩
  obtain ⟨r2, hr2⟩ : ∃ r, decide (Lib.compareBytes k m < 0) = r := ⟨_, rfl⟩
  have HC : Hid (r = (!r1 && r2)) := by show r = _; rw [← hr, ← hr1, ← hr2]; rfl
  have e1 := less_b (w.alloc (.cells #[.slice xa l.length xc, .slice ya m.length yc, .int .u64 s] 46)) _ _ k l r1 (hk.below hb0 (Nat.le_refl _)) (hx.below hb0 (Nat.le_refl _)) hr1
  have e2 := less_b (w.alloc (.cells #[.slice xa l.length xc, .slice ya m.length yc, .int .u64 s] 46)) _ _ k m r2 (hk.below hb0 (Nat.le_refl _)) (hy.below hb0 (Nat.le_refl _)) hr2
  obtain ⟨c0, c1, c2, _, _, _⟩ := box_new w (.slice xa l.length xc) (.slice ya m.length yc) (.int .u64 s) 46
  clear hr hr1 hr2 hx hy hk hb0
  go_enter Try.func66, Try.ntmps66
  go_wp2_with fail
  refine e1.mono ?_
  rintro o w1 ⟨rfl, rfl⟩
  cases r1
  · go_wp2_with fail
    refine e2.mono ?_
    rintro o w1 ⟨rfl, rfl⟩
    go_wp2
    go_ret
    exact ⟨ret_bool (by rw [HC.out]; simp), HB0.out⟩
  · go_wp2
    go_ret
    exact ⟨ret_bool (by rw [HC.out]; rfl), HB0.out⟩

end Go.Proofs.Ythcoblmfmbmdkaa
