/- atom's readers of numbers. -/
import Derived.Test.YtgkgdbdapkgkgaaWide
namespace Go.Proofs.Ytgkgdbdapkgkgaa
open Go.RowKit

theorem hf_take_succ (l : List UInt8) (k : Nat) (h : k < l.length) : Mth.hf (l.take (k + 1)) = Mth.hf (l.take k) * 256 + (l[k]).toNat := by
  rw [List.take_succ_eq_append_getElem h, Mth.hf_snoc]

theorem or_byte (h b : Nat) (hh : h < 72057594037927936) (hb : b < 256) : bits BinOp.or IntKind.u64 ((h : Int) * 256) (b : Int) = ((h * 256 + b : Nat) : Int) := by
  have e : ((h : Int) * 256) = ((h * 256 : Nat) : Int) := by omega
  rw [e, u64_or_nat _ _ (by omega) (by omega), nat_join 8 _ _ (by omega) (by omega)]

/-- how many bytes a number has in all, by its first -/
def sizeN (f : Nat) : Nat := if f ≤ 240 then 1 else if f ≤ 248 then 2 else if f = 249 then 3 else f - 246

theorem sizeN_bd (f : Nat) (h : f < 256) : 1 ≤ sizeN f ∧ sizeN f ≤ 9 := by
  unfold sizeN
  repeat' split
  all_goals omega

/-- the number for which bytes stand, in whichever form -/
def decN (l : List UInt8) : Nat :=
  if (l.headD 0).toNat ≤ 240 then (l.headD 0).toNat
  else if (l.headD 0).toNat ≤ 248 then 240 + ((l.headD 0).toNat - 241) * 256 + Mth.hf l.tail
  else if (l.headD 0).toNat = 249 then 2288 + Mth.hf l.tail
  else Mth.hf l.tail

end Go.Proofs.Ytgkgdbdapkgkgaa
