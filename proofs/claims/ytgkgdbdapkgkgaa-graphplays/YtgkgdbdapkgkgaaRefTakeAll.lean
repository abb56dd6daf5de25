/- bartizanref01's Take, and atom.Take beside it. -/
import Derived.Test.YtgkgdbdapkgkgaaRefTake2
import Derived.Test.YtgkgdbdapkgkgaaRefTake3
import Derived.Test.YtgkgdbdapkgkgaaRefTake4
namespace Go.Proofs.Ytgkgdbdapkgkgaa
set_option maxRecDepth 20000
open Go.RowKit

/-- what Take says, of either program: x is what stands behind -/
def TakePost (l : List UInt8) (B : Nat) (w : World) (x : Value) : Prop := if (frontS l).2.2 = 0 then Own B w x (l.drop (frontS l).2.1) else x = .slice none 0 0

def takeV (l : List UInt8) (x : Value) : Value := .tuple #[.int .u64 ((frontS l).1 : Int), x, .int .i64 ((frontS l).2.2 : Int)]

theorem decN_cons (f : UInt8) (t : List UInt8) : decN (f :: t) = if f.toNat ≤ 240 then f.toNat else if f.toNat ≤ 248 then 240 + (f.toNat - 241) * 256 + Mth.hf t else if f.toNat = 249 then 2288 + Mth.hf t else Mth.hf t := rfl

theorem ofNat_toNat (f : UInt8) : UInt8.ofNat f.toNat = f := by simp

theorem front_one (f : UInt8) (t : List UInt8) (h : f.toNat ≤ 240) : frontS (f :: t) = (f.toNat, 1, 0) := by
  have hs : sizeN f.toNat = 1 := by rw [sizeN, if_pos h]
  have hd : decN [f] = f.toNat := by rw [decN_cons, if_pos h]
  have hn : Mth.numB f.toNat = [f] := by rw [Mth.numB, if_pos h, ofNat_toNat]
  rw [frontS, hs, if_neg (by simp)]
  have ht : (f :: t).take 1 = [f] := by simp
  rw [ht, hd, hn]
  simp

theorem front_two (f : UInt8) (t u : List UInt8) (k : Nat) (hk : sizeN f.toNat = k) (hk1 : 1 ≤ k) (hl : k ≤ (f :: t).length) (hu : t.take (k - 1) = u) (d : Nat) (hd : decN (f :: u) = d) (same : Bool) (hs : (Mth.numB d == f :: u) = same) :
    frontS (f :: t) = if same then (d, k, 0) else (0, 0, 4) := by
  have ht : (f :: t).take k = f :: u := by
    obtain ⟨q, rfl⟩ : ∃ q, k = q + 1 := ⟨k - 1, by omega⟩
    rw [List.take_succ_cons, ← hu, Nat.add_sub_cancel]
  rw [frontS, hk, if_neg (by omega), ht, hd, hs]

end Go.Proofs.Ytgkgdbdapkgkgaa
