/- Which of two versions stands ahead: ikey.Compare, and the document's own answers. -/
import Derived.Test.YthcoblmfmbmdkaaLess
import Derived.Test.YthcoblmfmbmdkaaKeyCheck
import Derived.Test.YthcoblmfmbmdkaaCmpMath
namespace Go.Proofs.Ythcoblmfmbmdkaa
open Go.RowKit

theorem ret_bool {a b : Bool} (h : a = b) : Ending.returned (.bool a) = .returned (.bool b) := by rw [h]

theorem cmpU64 (w : World) (a b : Int) :
    Calls Try.prog 85 #[.int .u64 a, .int .u64 b] w fun e w' => e = .returned (.int .i64 (if a < b then -1 else if b < a then 1 else 0)) ∧ w' = w := by
  go_enter Try.func85, Try.ntmps85
  go_wp2
  all_goals (go_ret; refine ⟨ret_int ?_, rfl⟩; grind)

theorem cmpU8 (w : World) (a b : Int) :
    Calls Try.prog 86 #[.int .u8 a, .int .u8 b] w fun e w' => e = .returned (.int .i64 (if a < b then -1 else if b < a then 1 else 0)) ∧ w' = w := by
  go_enter Try.func86, Try.ntmps86
  go_wp2
  all_goals (go_ret; refine ⟨ret_int ?_, rfl⟩; grind)

theorem bytesLess_eq (l m : List UInt8) : Op.bytesLess l m = decide (Lib.compareBytes l m < 0) := by
  induction l generalizing m with
  | nil => cases m <;> simp [Op.bytesLess, Lib.compareBytes]
  | cons x l ih =>
    cases m with
    | nil => simp [Op.bytesLess, Lib.compareBytes]
    | cons y m =>
      simp only [Op.bytesLess, Lib.compareBytes, ih]
      by_cases h1 : x < y
      · simp [h1]
      · by_cases h2 : y < x
        · have h3 : ¬ x = y := by rintro rfl; exact h1 h2
          simp [h1, h2, h3]
        · have h3 : x = y := by apply UInt8.toNat_inj.1; simp only [UInt8.lt_iff_toNat_lt] at *; omega
          simp [h3, UInt8.lt_irrefl]

theorem refless_any (w : World) (a b : Value) (l m : List UInt8) (x : Bool) (ha : Rd w a l) (hb : Rd w b m) (hx : decide (Lib.compareBytes l m < 0) = x) :
    Calls Try.prog 56 #[a, b] w fun e w' => e = .returned (.bool x) ∧ w' = w := by
  have c1 := conv_rd ha
  have c2 := conv_rd hb
  have H : Hid _ := hx
  clear ha hb hx
  go_enter Try.func56, Try.ntmps56
  go_wp2
  go_ret
  have h := H.out
  subst h
  rw [← bytesLess_eq]
  exact ⟨rfl, rfl⟩

/-- two structs that come in are laid anew -/
theorem below_box2 (w : World) (cs ds : Array Value) (t u : TypeId) : Below w.heap.size w ((w.alloc (.cells cs t)).alloc (.cells ds u)) := ((Below.refl _ _).alloc (Nat.le_refl _) _).alloc (by simp) _

theorem compare_any (w : World) (a b : Value) (l m : List UInt8) (s k t j : Int) (r : Int) (ha : Rd w a l) (hb : Rd w b m) (hr : Mth.cmpK l s k m t j = r) :
    Calls Try.prog 81 #[.agg #[a, .int .u64 s, .int .u8 k], .agg #[b, .int .u64 t, .int .u8 j]] w fun e w' => e = .returned (.int .i64 r) ∧ Below w.heap.size w w' := by
  obtain ⟨a1, a2, ea⟩ := ha.len
  obtain ⟨b1, b2, eb⟩ := hb.len
  subst ea eb
  have hB := below_box2 w #[.slice a1 l.length a2, .int .u64 s, .int .u8 k] #[.slice b1 m.length b2, .int .u64 t, .int .u8 j] 42 42
  have ha' := ha.below hB (Nat.le_refl _)
  have hb' := hb.below hB (Nat.le_refl _)
  obtain ⟨c, hc⟩ : ∃ c, Lib.compareBytes l m = c := ⟨_, rfl⟩
  have HC : Hid _ := hc
  have HR : Hid _ := hr
  clear hc hr ha hb
  go_enter Try.func81, Try.ntmps81
  go_wp2_with fail
  refine (cmp_any _ _ _ l m ha' hb').mono ?_
  rintro e w1 ⟨rfl, hw⟩
  subst hw
  rw [HC.out]
  by_cases h0 : c = 0
  · subst h0
    go_wp2_with fail
    refine (cmpU64 _ t s).mono ?_
    rintro e w1 ⟨rfl, hw⟩
    subst hw
    by_cases h1 : t < s
    · rw [if_pos h1]
      go_wp2
      go_ret
      refine ⟨ret_int ?_, hB⟩
      have := HR.out; have := HC.out; unfold Mth.cmpK at *; grind
    · rw [if_neg h1]
      by_cases h2 : s < t
      · rw [if_pos h2]
        go_wp2
        go_ret
        refine ⟨ret_int ?_, hB⟩
        have := HR.out; have := HC.out; unfold Mth.cmpK at *; grind
      · rw [if_neg h2]
        go_wp2_with fail
        refine (cmpU8 _ j k).mono ?_
        rintro e w1 ⟨rfl, hw⟩
        subst hw
        go_wp2
        all_goals
          go_ret
          refine ⟨ret_int ?_, hB⟩
          have := HR.out; have := HC.out; unfold Mth.cmpK at *; grind
  · have hc0 : (c != 0) = true := by simp [h0]
    go_wp2
    go_ret
    refine ⟨ret_int ?_, hB⟩
    have := HR.out; have := HC.out; unfold Mth.cmpK at *; grind

theorem keyless_any (w : World) (a b : Value) (l m : List UInt8) (s k t j : Int) (r : Bool) (ha : Rd w a l) (hb : Rd w b m) (hr : decide (Mth.cmpK l s k m t j < 0) = r) :
    Calls Try.prog 39 #[.agg #[a, .int .u64 s, .int .u8 k], .agg #[b, .int .u64 t, .int .u8 j]] w fun e w' => e = .returned (.bool r) ∧ Below w.heap.size w w' := by
  obtain ⟨a1, a2, ea⟩ := ha.len
  obtain ⟨b1, b2, eb⟩ := hb.len
  subst ea eb
  have hB := below_box2 w #[.slice a1 l.length a2, .int .u64 s, .int .u8 k] #[.slice b1 m.length b2, .int .u64 t, .int .u8 j] 42 42
  have ha' := ha.below hB (Nat.le_refl _)
  have hb' := hb.below hB (Nat.le_refl _)
  have HR : Hid _ := hr
  clear hr ha hb
  by_cases hlm : l = m
  · have HLM : Hid (l = m) := hlm
    have hsame : (l == m) = true := by simp [hlm]
    clear hlm
    go_enter Try.func39, Try.ntmps39
    go_wp2_with fail
    refine (same_b _ _ _ l m true ha' hb' hsame).mono ?_
    rintro e w1 ⟨rfl, hw⟩
    subst hw
    have := HLM.out
    subst this
    have hc := (Mth.cmp_zero (l := l) (m := l)).2 rfl
    have HC : Hid _ := hc
    clear hc
    go_wp2
    all_goals
      go_ret
      refine ⟨ret_bool ?_, below_box2 _ _ _ _ _⟩
      have := HR.out; have := HC.out; unfold Mth.cmpK at *; grind
  · have hsame : (l == m) = false := by simp [hlm]
    have hc : Hid (¬ Lib.compareBytes l m = 0) := fun h => hlm (Mth.cmp_zero.1 h)
    clear hlm
    go_enter Try.func39, Try.ntmps39
    go_wp2_with fail
    refine (same_b _ _ _ l m false ha' hb' hsame).mono ?_
    rintro e w1 ⟨rfl, hw⟩
    subst hw
    go_wp2_with fail
    refine (refless_any _ _ _ l m _ ha' hb' rfl).mono ?_
    rintro e w1 ⟨rfl, hw⟩
    subst hw
    go_wp2
    go_ret
    refine ⟨ret_bool ?_, below_box2 _ _ _ _ _⟩
    have := HR.out; have := hc.out; unfold Mth.cmpK at *; grind

theorem keysame_any (w : World) (a b : Value) (l m : List UInt8) (s k t j : Int) (r : Bool) (ha : Rd w a l) (hb : Rd w b m) (hr : decide (l = m ∧ s = t ∧ k = j) = r) :
    Calls Try.prog 59 #[.agg #[a, .int .u64 s, .int .u8 k], .agg #[b, .int .u64 t, .int .u8 j]] w fun e w' => e = .returned (.bool r) ∧ Below w.heap.size w w' := by
  obtain ⟨a1, a2, ea⟩ := ha.len
  obtain ⟨b1, b2, eb⟩ := hb.len
  subst ea eb
  have hB := below_box2 w #[.slice a1 l.length a2, .int .u64 s, .int .u8 k] #[.slice b1 m.length b2, .int .u64 t, .int .u8 j] 42 42
  have ha' := ha.below hB (Nat.le_refl _)
  have hb' := hb.below hB (Nat.le_refl _)
  have HR : Hid _ := hr
  obtain ⟨x, hx⟩ : ∃ x, (l == m) = x := ⟨_, rfl⟩
  have HX : Hid _ := hx
  clear hr ha hb hx
  go_enter Try.func59, Try.ntmps59
  go_wp2_with fail
  refine (same_b _ _ _ l m x ha' hb' HX.out).mono ?_
  rintro e w1 ⟨rfl, hw⟩
  subst hw
  cases x
  all_goals
    go_wp2
    all_goals
      go_ret
      refine ⟨ret_bool ?_, below_box2 _ _ _ _ _⟩
      have := HR.out; have := HX.out; grind

end Go.Proofs.Ythcoblmfmbmdkaa
