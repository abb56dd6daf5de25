/- Is an op right: batch.CheckOp, and the document's own answer. -/
import Derived.Test.YtmgofohaoppajaaDoorKeyCmp
import Derived.Test.YtmgofohaoppajaaDoorBoxes
namespace Go.Proofs.YtmgofohaoppajaaDoor
open Go.RowKit

/-- what is not right with an op -/
def chkOp (k : Int) (l m : List UInt8) : Int :=
  if k < 1 ∨ 3 < k then 1
  else if 64 < l.length ∨ (k = 2 ∧ 512 < m.length) ∨ (k = 3 ∧ 64 < m.length) then 3
  else if l.length = 0 ∨ (k = 1 ∧ 0 < m.length) ∨ (k = 3 ∧ 0 ≤ Lib.compareBytes l m) then 4 else 0

theorem known_any (w : World) (k : Int) : Calls Tryd.prog 73 #[.int .u8 k] w fun e w' => e = .returned (.bool (decide (k = 1 ∨ k = 2 ∨ k = 3))) ∧ w' = w := by
  go_enter Tryd.func73, Tryd.ntmps73
  go_wp2
  all_goals (go_ret)
  all_goals (refine ⟨ret_bool ?_, rfl⟩; grind)

theorem tooLong_any (w : World) (ao bo : Option Addr) (n c m d : Nat) (k : Int) :
    Calls Tryd.prog 74 #[.agg #[.int .u8 k, .slice ao n c, .slice bo m d]] w fun e w' => e = .returned (.bool (decide (64 < n ∨ (k = 2 ∧ 512 < m) ∨ (k = 3 ∧ 64 < m)))) ∧ Below w.heap.size w w' := by
  go_enter Tryd.func74, Tryd.ntmps74
  go_wp2
  all_goals (go_ret)
  all_goals (refine ⟨ret_bool ?_, below_box _ _ _⟩; grind)

theorem fits_any (w : World) (x y : Value) (l m : List UInt8) (k : Int) (b : Bool) (hx : Rd w x l) (hy : Rd w y m) (hb : decide (¬ (k = 1 ∧ 0 < m.length) ∧ ¬ (k = 3 ∧ 0 ≤ Lib.compareBytes l m)) = b) :
    Calls Tryd.prog 75 #[.agg #[.int .u8 k, x, y]] w fun e w' => e = .returned (.bool b) ∧ Below w.heap.size w w' := by
  obtain ⟨a1, a2, ea⟩ := hx.len
  obtain ⟨b1, b2, eb⟩ := hy.len
  subst ea eb
  have hB := below_box w #[.int .u8 k, .slice a1 l.length a2, .slice b1 m.length b2] 72
  have rx := hx.below hB (Nat.le_refl _)
  have ry := hy.below hB (Nat.le_refl _)
  have H : Hid _ := hb
  clear hx hy hb
  by_cases h3 : k = 3
  · subst h3
    obtain ⟨q, hq⟩ : ∃ q, decide (Lib.compareBytes l m < 0) = q := ⟨_, rfl⟩
    have HQ : Hid _ := hq
    have hqb : Hid (q = b) := by show q = b; rw [← hq, ← H.out]; simp
    clear hq
    go_enter Tryd.func75, Tryd.ntmps75
    go_wp2_with fail
    refine (less_b _ _ _ l m q rx ry HQ.out).mono ?_
    rintro e w1 ⟨rfl, hw⟩
    subst hw
    go_wp2
    go_ret
    exact ⟨ret_bool hqb.out, hB⟩
  · clear rx ry
    go_enter Tryd.func75, Tryd.ntmps75
    go_wp2
    all_goals (go_ret)
    all_goals (refine ⟨ret_bool ?_, hB⟩; rw [← H.out]; grind)

theorem checkop_any (w : World) (x y : Value) (l m : List UInt8) (k c : Int) (hk : 0 ≤ k) (hx : Rd w x l) (hy : Rd w y m) (hc : chkOp k l m = c) :
    Calls Tryd.prog 65 #[.agg #[.int .u8 k, x, y]] w fun e w' => e = .returned (.int .i64 c) ∧ Below w.heap.size w w' := by
  obtain ⟨a1, a2, ea⟩ := hx.len
  obtain ⟨b1, b2, eb⟩ := hy.len
  subst ea eb
  have hB := below_box w #[.int .u8 k, .slice a1 l.length a2, .slice b1 m.length b2] 72
  have b0 := box_new w (.int .u8 k) (.slice a1 l.length a2) (.slice b1 m.length b2) 72
  have rx := hx.below hB (Nat.le_refl _)
  have ry := hy.below hB (Nat.le_refl _)
  have H : Hid _ := hc
  clear hx hy hc
  obtain ⟨q, hq⟩ : ∃ q, decide (k = 1 ∨ k = 2 ∨ k = 3) = q := ⟨_, rfl⟩
  obtain ⟨r, hr⟩ : ∃ q, decide (64 < l.length ∨ (k = 2 ∧ 512 < m.length) ∨ (k = 3 ∧ 64 < m.length)) = q := ⟨_, rfl⟩
  obtain ⟨s, hs⟩ : ∃ q, decide (¬ (k = 1 ∧ 0 < m.length) ∧ ¬ (k = 3 ∧ 0 ≤ Lib.compareBytes l m)) = q := ⟨_, rfl⟩
  have HQ : Hid _ := hq
  have HR : Hid _ := hr
  have HS : Hid _ := hs
  clear hq hr hs
  have fin : Hid (c = if q = false then 1 else if r = true then 3 else if l.length = 0 ∨ s = false then 4 else 0) := by
    show _ = _
    rw [← H.out, ← HQ.out, ← HR.out, ← HS.out]
    unfold chkOp
    grind
  clear H
  go_enter Tryd.func65, Tryd.ntmps65
  go_wp2_with fail
  refine (known_any _ k).mono ?_
  rintro e w1 ⟨rfl, hw⟩
  subst hw
  rw [HQ.out]
  cases q
  · go_wp2
    go_ret
    exact ⟨ret_int (by rw [fin.out]; rfl), hB⟩
  · go_wp2_with fail
    refine (tooLong_any _ _ _ _ _ _ _ _).mono ?_
    rintro e w2 ⟨rfl, hb⟩
    rw [HR.out]
    have hB2 := hB.trans (hb.mono hB.size)
    obtain ⟨c0, c1, c2, f0, f1, f2⟩ := b0.below hb (Nat.le_refl _)
    replace rx := rx.below hb (Nat.le_refl _)
    replace ry := ry.below hb (Nat.le_refl _)
    clear b0 hb hB
    cases r
    · by_cases h0 : l.length = 0
      · clear rx ry
        go_wp2
        go_ret
        exact ⟨ret_int (by rw [fin.out]; simp [h0]), hB2⟩
      · go_wp2_with fail
        refine (fits_any _ _ _ l m k s rx ry HS.out).mono ?_
        rintro e w3 ⟨rfl, hb⟩
        have hB3 := hB2.trans (hb.mono hB2.size)
        clear c0 c1 c2 f0 f1 f2 rx ry
        cases s
        · go_wp2
          go_ret
          exact ⟨ret_int (by rw [fin.out]; simp), hB3⟩
        · go_wp2
          go_ret
          exact ⟨ret_int (by rw [fin.out]; simp [h0]), hB3⟩
    · clear rx ry
      go_wp2
      go_ret
      exact ⟨ret_int (by rw [fin.out]; rfl), hB2⟩

set_option maxHeartbeats 2000000 in
theorem refcheckop_any (w : World) (x y : Value) (l m : List UInt8) (k c : Int) (hk : 0 ≤ k) (hx : Rd w x l) (hy : Rd w y m) (hc : chkOp k l m = c) :
    Calls Tryd.prog 59 #[.agg #[.int .u8 k, x, y]] w fun e w' => e = .returned (.int .i64 c) ∧ Below w.heap.size w w' := by
  obtain ⟨a1, a2, ea⟩ := hx.len
  obtain ⟨b1, b2, eb⟩ := hy.len
  subst ea eb
  have hB := below_box w #[.int .u8 k, .slice a1 l.length a2, .slice b1 m.length b2] 72
  have rx := hx.below hB (Nat.le_refl _)
  have ry := hy.below hB (Nat.le_refl _)
  have H : Hid _ := hc
  clear hx hy hc
  by_cases h3 : k = 3
  · subst h3
    obtain ⟨q, hq⟩ : ∃ q, decide (Lib.compareBytes l m < 0) = q := ⟨_, rfl⟩
    have HQ : Hid _ := hq
    have fin : Hid (c = if 64 < l.length ∨ 64 < m.length then 3 else if l.length = 0 ∨ q = false then 4 else 0) := by
      show _ = _
      rw [← H.out, ← HQ.out]
      unfold chkOp
      grind
    clear H hq
    go_enter Tryd.func59, Tryd.ntmps59
    by_cases h1 : 64 < l.length
    · go_wp2
      go_ret
      exact ⟨ret_int (by rw [fin.out]; simp [h1]), hB⟩
    · by_cases h2 : 64 < m.length
      · go_wp2
        go_ret
        exact ⟨ret_int (by rw [fin.out]; simp [h2]), hB⟩
      · by_cases h4 : l.length = 0
        · go_wp2
          go_ret
          exact ⟨ret_int (by rw [fin.out]; simp [h4, h2]), below_box _ _ _⟩
        · go_wp2_with fail
          refine (refless_any _ _ _ l m q rx ry HQ.out).mono ?_
          rintro e w1 ⟨rfl, hw⟩
          subst hw
          cases q
          · go_wp2
            go_ret
            exact ⟨ret_int (by rw [fin.out]; simp [h1, h2]), hB⟩
          · go_wp2
            go_ret
            exact ⟨ret_int (by rw [fin.out]; simp [h1, h2, h4]), hB⟩
  · clear rx ry
    have fin : Hid (c = if k < 1 ∨ 3 < k then 1 else if 64 < l.length ∨ (k = 2 ∧ 512 < m.length) then 3 else if l.length = 0 ∨ (k = 1 ∧ 0 < m.length) then 4 else 0) := by
      show _ = _
      rw [← H.out]
      unfold chkOp
      grind
    clear H
    by_cases h1 : k = 1
    · subst h1
      by_cases h2 : 64 < l.length
      · go_enter Tryd.func59, Tryd.ntmps59
        go_wp2
        go_ret
        exact ⟨ret_int (by rw [fin.out]; simp [h2]), below_box _ _ _⟩
      · by_cases h4 : l.length = 0
        · go_enter Tryd.func59, Tryd.ntmps59
          go_wp2
          go_ret
          exact ⟨ret_int (by rw [fin.out]; simp [h4]), below_box _ _ _⟩
        · by_cases h6 : 0 < m.length
          · go_enter Tryd.func59, Tryd.ntmps59
            go_wp2
            go_ret
            exact ⟨ret_int (by rw [fin.out]; simp [h2, h4, h6]), below_box _ _ _⟩
          · go_enter Tryd.func59, Tryd.ntmps59
            go_wp2
            go_ret
            exact ⟨ret_int (by rw [fin.out]; simp [h2, h4, h6]), below_box _ _ _⟩
    · by_cases h2 : k = 2
      · subst h2
        by_cases h2 : 64 < l.length
        · go_enter Tryd.func59, Tryd.ntmps59
          go_wp2
          go_ret
          exact ⟨ret_int (by rw [fin.out]; simp [h2]), below_box _ _ _⟩
        · by_cases h6 : 512 < m.length
          · go_enter Tryd.func59, Tryd.ntmps59
            go_wp2
            go_ret
            exact ⟨ret_int (by rw [fin.out]; simp [h6]), below_box _ _ _⟩
          · by_cases h4 : l.length = 0
            · go_enter Tryd.func59, Tryd.ntmps59
              go_wp2
              go_ret
              exact ⟨ret_int (by rw [fin.out]; simp [h4, h6]), below_box _ _ _⟩
            · go_enter Tryd.func59, Tryd.ntmps59
              go_wp2
              go_ret
              exact ⟨ret_int (by rw [fin.out]; simp [h2, h4, h6]), below_box _ _ _⟩
      · have h0 : Hid (k < 1 ∨ 3 < k) := by show _ ∨ _; omega
        by_cases h5 : k < 1
        · go_enter Tryd.func59, Tryd.ntmps59
          go_wp2
          go_ret
          exact ⟨ret_int (by rw [fin.out, if_pos h0.out]), below_box _ _ _⟩
        · have h6 : 3 < k := by omega
          go_enter Tryd.func59, Tryd.ntmps59
          go_wp2
          go_ret
          exact ⟨ret_int (by rw [fin.out, if_pos h0.out]), below_box _ _ _⟩

end Go.Proofs.YtmgofohaoppajaaDoor
