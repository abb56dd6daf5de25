/- Small things that many texts need. -/
import Derived.Test.YtgkgdbdapkgkgaaCut
namespace Go.Proofs.Ytgkgdbdapkgkgaa
open Go.RowKit

theorem arg_drew {w : World} {v : Value} {l : List UInt8} (h : Arg w v l) : Arg w.drew v l := h

theorem below_drewN {B : Nat} {a w : World} (h : Below B a w) (n : Nat) : Below B a (w.drewN n) := ⟨h.os, h.tape, h.output, h.size, h.block⟩

theorem gk_nxt {gk j n : Nat} (hj : gk + j = n) (hlt : j < n) : gk - 1 < gk ∧ gk - 1 + (j + 1) = n := by omega

end Go.Proofs.Ytgkgdbdapkgkgaa
