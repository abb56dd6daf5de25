/- Same and bytes.Equal. -/
import Derived.Test.YtanmfmllnbbdoaaBase
namespace Go.Proofs.Ytanmfmllnbbdoaa
open Go.RowKit

theorem same_any (w : World) (a b : Value) (l m : List UInt8) (ha : Rd w a l) (hb : Rd w b m) :
    Calls Try.prog 29 #[a, b] w fun e w' => e = .returned (.bool (l == m)) ∧ w' = w := by
  have c1 := conv_rd ha
  have c2 := conv_rd hb
  clear ha hb
  go_enter Try.func29, Try.ntmps29
  go_wp2
  go_ret
  exact ⟨rfl, rfl⟩

theorem same_b (w : World) (a b : Value) (l m : List UInt8) (x : Bool) (ha : Rd w a l) (hb : Rd w b m) (hx : (l == m) = x) :
    Calls Try.prog 29 #[a, b] w fun e w' => e = .returned (.bool x) ∧ w' = w := by
  subst hx
  exact same_any w a b l m ha hb

end Go.Proofs.Ytanmfmllnbbdoaa
