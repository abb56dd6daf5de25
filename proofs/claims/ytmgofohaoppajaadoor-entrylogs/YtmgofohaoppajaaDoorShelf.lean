/- bits.Len64. -/
import Derived.Test.YtmgofohaoppajaaDoorBase
import Derived.Shelf.Strconv.Itoa0
namespace Go.Proofs.YtmgofohaoppajaaDoor
open Go.Shelf

def ren27 : Go.Shelf.Ren := ⟨fun | 129 => 66 | n => n, fun | 53 => 33 | 3 => 3 | 4 => 4 | 46 => 95 | 5 => 5 | 9 => 9 | n => n, fun | n => n⟩

theorem lays27 : Go.Proofs.Lays.n129 Tryd.prog ren27 := {
  mixed := by kernel_rfl
  f129 := Tryd.func66.trans (congrArg some (by kernel_rfl))
  t3 := Tryd.underlying3
  a3 := Tryd.isAgg3
  z3 := Tryd.sizeOf3
  v3 := Tryd.zeroValue3
  t4 := Tryd.underlying4
  a4 := Tryd.isAgg4
  z4 := Tryd.sizeOf4
  v4 := Tryd.zeroValue4
  t5 := Tryd.underlying5
  a5 := Tryd.isAgg5
  z5 := Tryd.sizeOf5
  v5 := Tryd.zeroValue5
  t9 := Tryd.underlying9
  a9 := Tryd.isAgg9
  z9 := Tryd.sizeOf9
  v9 := Tryd.zeroValue9
  t46 := Tryd.underlying95
  a46 := Tryd.isAgg95
  z46 := Tryd.sizeOf95
  v46 := Tryd.zeroValue95
  t53 := Tryd.underlying33
  a53 := Tryd.isAgg33
  z53 := Tryd.sizeOf33
  v53 := Tryd.zeroValue33 }

theorem bl_pos : ∀ n : Fin 256, n.val ≠ 0 → 1 ≤ Lib.bitLen n.val := by decide +kernel

theorem bl_bd (x : Nat) (h0 : x ≠ 0) (h : x < 256) : 1 ≤ Lib.bitLen x ∧ Lib.bitLen x ≤ 8 := ⟨bl_pos ⟨x, h⟩ h0, Lib.bitLen_le8 ⟨x, h⟩⟩

theorem bl_wsize (n : Nat) (h1 : 67823 < n) (h2 : n < 18446744073709551616) : (Lib.bitLen n + 7) / 8 = Mth.wsize n := by
  unfold Mth.wsize
  split
  · have := Lib.bitLen_shift16 n (by omega) h2
    have := bl_bd (n / 65536) (by omega) (by omega)
    omega
  split
  · have := Lib.bitLen_shift24 n (by omega) h2
    have := bl_bd (n / 16777216) (by omega) (by omega)
    omega
  split
  · have := Lib.bitLen_shift32 n (by omega) h2
    have := bl_bd (n / 4294967296) (by omega) (by omega)
    omega
  split
  · have := Lib.bitLen_shift40 n (by omega) h2
    have := bl_bd (n / 1099511627776) (by omega) (by omega)
    omega
  split
  · have := Lib.bitLen_shift48 n (by omega) h2
    have := bl_bd (n / 281474976710656) (by omega) (by omega)
    omega
  · have := Lib.bitLen_shift56 n (by omega) h2
    have := bl_bd (n / 72057594037927936) (by omega) (by omega)
    omega

/-- bits.Len64: how many bytes its bits fill -/
theorem len64_any (n : Nat) (w : World) (h1 : 67823 < n) (h2 : n < 18446744073709551616) :
    Calls Tryd.prog 66 #[.int .u64 (n : Int)] w fun e w' => ∃ t : Nat, (t + 7) / 8 = Mth.wsize n ∧ t ≤ 64 ∧ e = .returned (.int .i64 (t : Int)) ∧ w' = w := by
  refine (Any.bits_Len64 lays27 (n : Int) w (by omega) (by omega)).mono ?_
  rintro e w' ⟨rfl, rfl⟩
  exact ⟨_, bl_wsize n h1 h2, Lib.bitLen_le n 64 (Nat.le_refl _) (by omega), by simp, rfl⟩

end Go.Proofs.YtmgofohaoppajaaDoor
