/- Which of two versions stands ahead: ikey.Compare, and the document's own answers. -/
import Derived.Test.YtifdomhmmhepcaaLess
import Derived.Test.YtifdomhmmhepcaaKeyCheck
import Derived.Test.YtifdomhmmhepcaaCmpMath
namespace Go.Proofs.Ytifdomhmmhepcaa
open Go.RowKit

theorem ret_bool {a b : Bool} (h : a = b) : Ending.returned (.bool a) = .returned (.bool b) := by rw [h]

theorem cmpU64 (w : World) (a b : Int) :
    Calls Try.prog 54 #[.int .u64 a, .int .u64 b] w fun e w' => e = .returned (.int .i64 (if a < b then -1 else if b < a then 1 else 0)) ∧ w' = w := by
  go_enter Try.func54, Try.ntmps54
  go_wp2
  all_goals (go_ret; refine ⟨ret_int ?_, rfl⟩; grind)

theorem bytesLess_eq (l m : List UInt8) : Op.bytesLess l m = decide (Lib.compareBytes l m < 0) := by
  induction l generalizing m with
  | nil => cases m <;> simp [Op.bytesLess, Lib.compareBytes]
  | cons x l ih =>
    cases m with
    | nil => simp [Op.bytesLess, Lib.compareBytes]
    | cons y m =>
      simp only [Op.bytesLess, Lib.compareBytes, ih]
      by_cases h1 : x < y
      · simp [h1]
      · by_cases h2 : y < x
        · have h3 : ¬ x = y := by rintro rfl; exact h1 h2
          simp [h1, h2, h3]
        · have h3 : x = y := by apply UInt8.toNat_inj.1; simp only [UInt8.lt_iff_toNat_lt] at *; omega
          simp [h3, UInt8.lt_irrefl]

theorem refless_any (w : World) (a b : Value) (l m : List UInt8) (x : Bool) (ha : Rd w a l) (hb : Rd w b m) (hx : decide (Lib.compareBytes l m < 0) = x) :
    Calls Try.prog 24 #[a, b] w fun e w' => e = .returned (.bool x) ∧ w' = w := by
  have c1 := conv_rd ha
  have c2 := conv_rd hb
  have H : Hid _ := hx
  clear ha hb hx
  go_enter Try.func24, Try.ntmps24
  go_wp2
  go_ret
  have h := H.out
  subst h
  rw [← bytesLess_eq]
  exact ⟨rfl, rfl⟩

/-- two structs that come in are laid anew -/
theorem below_box2 (w : World) (cs ds : Array Value) (t u : TypeId) : Below w.heap.size w ((w.alloc (.cells cs t)).alloc (.cells ds u)) := ((Below.refl _ _).alloc (Nat.le_refl _) _).alloc (by simp) _

end Go.Proofs.Ytifdomhmmhepcaa
