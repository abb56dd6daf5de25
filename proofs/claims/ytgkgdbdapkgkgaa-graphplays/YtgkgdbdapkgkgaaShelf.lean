/- bits.Len64. -/
import Derived.Test.YtgkgdbdapkgkgaaBase
import Derived.Shelf.Strconv.Itoa0
namespace Go.Proofs.Ytgkgdbdapkgkgaa
open Go.Shelf

def ren27 : Go.Shelf.Ren := ⟨fun | 129 => 50 | n => n, fun | 53 => 30 | 3 => 3 | 4 => 4 | 46 => 73 | 5 => 5 | 9 => 9 | n => n, fun | n => n⟩

theorem lays27 : Go.Proofs.Lays.n129 Try.prog ren27 := {
  mixed := by kernel_rfl
  f129 := Try.func50.trans (congrArg some (by kernel_rfl))
  t3 := Try.underlying3
  a3 := Try.isAgg3
  z3 := Try.sizeOf3
  v3 := Try.zeroValue3
  t4 := Try.underlying4
  a4 := Try.isAgg4
  z4 := Try.sizeOf4
  v4 := Try.zeroValue4
  t5 := Try.underlying5
  a5 := Try.isAgg5
  z5 := Try.sizeOf5
  v5 := Try.zeroValue5
  t9 := Try.underlying9
  a9 := Try.isAgg9
  z9 := Try.sizeOf9
  v9 := Try.zeroValue9
  t46 := Try.underlying73
  a46 := Try.isAgg73
  z46 := Try.sizeOf73
  v46 := Try.zeroValue73
  t53 := Try.underlying30
  a53 := Try.isAgg30
  z53 := Try.sizeOf30
  v53 := Try.zeroValue30 }

theorem bl_pos : ∀ n : Fin 256, n.val ≠ 0 → 1 ≤ Lib.bitLen n.val := by decide +kernel

theorem bl_bd (x : Nat) (h0 : x ≠ 0) (h : x < 256) : 1 ≤ Lib.bitLen x ∧ Lib.bitLen x ≤ 8 := ⟨bl_pos ⟨x, h⟩ h0, Lib.bitLen_le8 ⟨x, h⟩⟩

theorem bl_wsize (n : Nat) (h1 : 67823 < n) (h2 : n < 18446744073709551616) : (Lib.bitLen n + 7) / 8 = Mth.wsize n := by
  unfold Mth.wsize
  split
  · have := Lib.bitLen_shift16 n (by omega) h2
    have := bl_bd (n / 65536) (by omega) (by omega)
    omega
  split
  · have := Lib.bitLen_shift24 n (by omega) h2
    have := bl_bd (n / 16777216) (by omega) (by omega)
    omega
  split
  · have := Lib.bitLen_shift32 n (by omega) h2
    have := bl_bd (n / 4294967296) (by omega) (by omega)
    omega
  split
  · have := Lib.bitLen_shift40 n (by omega) h2
    have := bl_bd (n / 1099511627776) (by omega) (by omega)
    omega
  split
  · have := Lib.bitLen_shift48 n (by omega) h2
    have := bl_bd (n / 281474976710656) (by omega) (by omega)
    omega
  · have := Lib.bitLen_shift56 n (by omega) h2
    have := bl_bd (n / 72057594037927936) (by omega) (by omega)
    omega

/-- bits.Len64: how many bytes its bits fill -/
theorem len64_any (n : Nat) (w : World) (h1 : 67823 < n) (h2 : n < 18446744073709551616) :
    Calls Try.prog 50 #[.int .u64 (n : Int)] w fun e w' => ∃ t : Nat, (t + 7) / 8 = Mth.wsize n ∧ t ≤ 64 ∧ e = .returned (.int .i64 (t : Int)) ∧ w' = w := by
  refine (Any.bits_Len64 lays27 (n : Int) w (by omega) (by omega)).mono ?_
  rintro e w' ⟨rfl, rfl⟩
  exact ⟨_, bl_wsize n h1 h2, Lib.bitLen_le n 64 (Nat.le_refl _) (by omega), by simp, rfl⟩

end Go.Proofs.Ytgkgdbdapkgkgaa
