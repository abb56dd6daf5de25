/- reel.lowFirst. -/
import Derived.Test.YtlonomjepipjlaaDoorReelAwake
namespace Go.Proofs.YtlonomjepipjlaaDoor
open Go.RowKit

theorem orb (n b s k : Nat) (hk : k ≤ 24) (hn : n < 2 ^ k) (hs : s = 2 ^ k) (h : b * s < 4294967296) : bits BinOp.or IntKind.u32 (n : Int) ((b : Int) * (s : Int)) = ((n + b * s : Nat) : Int) := by
  subst hs
  have h2 : (2 : Nat) ^ k ≤ 2 ^ 24 := Nat.pow_le_pow_right (by omega) hk
  have e : ((b : Int) * ((2 ^ k : Nat) : Int)) = ((b * 2 ^ k : Nat) : Int) := by simp
  rw [e, u32_or_nat _ _ (by omega) h, Nat.or_comm, nat_join k _ _ (by simp) hn, Nat.add_comm]

end Go.Proofs.YtlonomjepipjlaaDoor
