/- bartizanref01's Take. -/
import Derived.Test.YtgkgdbdapkgkgaaNumRead
import Derived.Test.YtgkgdbdapkgkgaaTextOk
import Derived.Test.YtgkgdbdapkgkgaaCut
namespace Go.Proofs.Ytgkgdbdapkgkgaa
open Go.RowKit

/-- what it answers -/
def refV (same : Bool) (d : Nat) (x : Value) : Value := .tuple #[.int .u64 (if same then (d : Int) else 0), x, .int .i64 (if same then 0 else 4)]

/-- and what of its second result -/
def RefPost (same : Bool) (rest : List UInt8) (B : Nat) (w : World) (x : Value) : Prop := if same then Own B w x rest else x = .slice none 0 0

theorem ref_eq {k : Int} {d : Nat} (h : k = (d : Int)) (x : Value) : Ending.returned (.tuple #[.int .u64 k, x, .int .i64 0]) = .returned (refV true d x) := by subst h; rfl

/-- behind append([]byte{}, piece...) -/
theorem own_copied {w w2 : World} {v' : Value} {l : List UInt8} {n : Nat} (hn : l.length = n) (ho' : w2.ownsRow w.heap.size 5 1 v' (0 + n) ([] ++ bv l)) (hgr' : (w.alloc (.cells #[] 5)).grownBy w2 (Value.slice (some ⟨w.heap.size, 0, none⟩) 0 0).ownBlock)
    (hn' : v' ≠ .slice none 0 0) : Own w.heap.size w2 v' l ∧ Below w.heap.size w w2 := by
  subst hn
  refine ⟨Own.of_row ?_ hn', (below_empty w).grown hgr' (by simp) (fun k' e => ((own_empty w).lt k' e).1)⟩
  rw [Nat.zero_add, List.nil_append] at ho'
  exact ho'

end Go.Proofs.Ytgkgdbdapkgkgaa
