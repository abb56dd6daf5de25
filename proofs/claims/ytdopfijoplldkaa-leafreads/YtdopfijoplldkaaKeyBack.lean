/- A version's bytes, read again. -/
import Derived.Test.YtdopfijoplldkaaKeyReads
import Derived.Test.YtdopfijoplldkaaKeyBytes
import Derived.Test.YtdopfijoplldkaaNumRead
namespace Go.Proofs.Ytdopfijoplldkaa
set_option maxRecDepth 20000
open Go.RowKit
set_option linter.unusedVariables false

theorem seqOf_tail (s : Nat) (hs : s ≤ 72057594037927935) : seqOf (UInt8.ofNat (s % 256)) (UInt8.ofNat (s / 256 % 256)) (UInt8.ofNat (s / 65536 % 256)) (UInt8.ofNat (s / 16777216 % 256)) (UInt8.ofNat (s / 4294967296 % 256)) (UInt8.ofNat (s / 1099511627776 % 256)) (UInt8.ofNat (s / 281474976710656 % 256)) = s := by
  unfold seqOf
  simp only [UInt8.toNat_ofNat', Nat.mod_mod]
  omega

theorem textS_text (l t : List UInt8) (hl : l.length ≤ 64) : textS (textB l ++ t) 64 = (l, t, 0) := by
  unfold textS textB
  rw [List.append_assoc, front_numB l.length (by omega) (l ++ t)]
  simp only [if_true]
  rw [if_neg (by omega), if_neg (by simp only [List.length_append]; omega)]
  simp

theorem keyS_keyB (l t : List UInt8) (s k : Nat) (hs : s ≤ 72057594037927935) (hk : k < 256) (hl : l.length ≤ 64) (hc : chk l.length (s : Int) (k : Int) = 0) : keyS (keyB l s k ++ t) = (l, s, k, t, 0) := by
  have hkk : (UInt8.ofNat k).toNat = k := by simp; omega
  have hT : textS (keyB l s k ++ t) 64 = (l, UInt8.ofNat k :: UInt8.ofNat (s % 256) :: UInt8.ofNat (s / 256 % 256) :: UInt8.ofNat (s / 65536 % 256) :: UInt8.ofNat (s / 16777216 % 256) :: UInt8.ofNat (s / 4294967296 % 256) :: UInt8.ofNat (s / 1099511627776 % 256) :: UInt8.ofNat (s / 281474976710656 % 256) :: t, 0) := by
    unfold keyB
    rw [List.append_assoc, textS_text l _ hl]
    rfl
  rw [keyS_ok hT (by rw [seqOf_tail s hs, hkk]; exact hc), seqOf_tail s hs, hkk]

end Go.Proofs.Ytdopfijoplldkaa
