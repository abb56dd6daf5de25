/- Same and bytes.Equal tell whether two slices hold the same bytes. -/
import Derived.Test.YtecmijocgkhnpaaBase
namespace Go.Proofs.Ytecmijocgkhnpaa
open Go.RowKit

theorem same_any (w : World) (a b : Value) (l m : List UInt8) (ha : Rd w a l) (hb : Rd w b m) :
    Calls Try.prog 11 #[a, b] w fun e w' => e = .returned (.bool (l == m)) ∧ w' = w := by
  have c1 := conv_rd ha
  have c2 := conv_rd hb
  clear ha hb
  go_enter Try.func11, Try.ntmps11
  go_wp2
  go_ret
  exact ⟨rfl, rfl⟩

theorem equal_any (w : World) (a b : Value) (l m : List UInt8) (ha : Rd w a l) (hb : Rd w b m) :
    Calls Try.prog 30 #[a, b] w fun e w' => e = .returned (.bool (l == m)) ∧ w' = w := by
  have c1 := conv_rd ha
  have c2 := conv_rd hb
  clear ha hb
  go_enter Try.func30, Try.ntmps30
  go_wp2
  go_ret
  exact ⟨rfl, rfl⟩

end Go.Proofs.Ytecmijocgkhnpaa
