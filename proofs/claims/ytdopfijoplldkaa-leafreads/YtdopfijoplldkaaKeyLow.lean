/- ikey.lowFirst: eight bytes as one number, the lowest first. -/
import Derived.Test.YtdopfijoplldkaaKeyTail
namespace Go.Proofs.Ytdopfijoplldkaa
open Go.RowKit

set_option maxHeartbeats 2000000 in
theorem klow_walk (w : World) (bl off n cap : Nat) (x0 x1 x2 x3 x4 x5 x6 x7 N1 N2 N3 N4 N5 N6 N7 N8 : Int) (hn : 8 ≤ n)
    (c0 : w.cell? ⟨bl, off, none⟩ = some (.int .u8 x0)) (c1 : w.cell? ⟨bl, off + 1, none⟩ = some (.int .u8 x1)) (c2 : w.cell? ⟨bl, off + 2, none⟩ = some (.int .u8 x2)) (c3 : w.cell? ⟨bl, off + 3, none⟩ = some (.int .u8 x3))
    (c4 : w.cell? ⟨bl, off + 4, none⟩ = some (.int .u8 x4)) (c5 : w.cell? ⟨bl, off + 5, none⟩ = some (.int .u8 x5)) (c6 : w.cell? ⟨bl, off + 6, none⟩ = some (.int .u8 x6)) (c7 : w.cell? ⟨bl, off + 7, none⟩ = some (.int .u8 x7))
    (b0 : 0 ≤ x0 ∧ x0 < 256) (b1 : 0 ≤ x1 ∧ x1 < 256) (b2 : 0 ≤ x2 ∧ x2 < 256) (b3 : 0 ≤ x3 ∧ x3 < 256) (b4 : 0 ≤ x4 ∧ x4 < 256) (b5 : 0 ≤ x5 ∧ x5 < 256) (b6 : 0 ≤ x6 ∧ x6 < 256) (b7 : 0 ≤ x7 ∧ x7 < 256)
    (r0 : bits BinOp.or IntKind.u64 0 x0 = N1) (r1 : bits BinOp.or IntKind.u64 N1 (x1 * 256) = N2) (r2 : bits BinOp.or IntKind.u64 N2 (x2 * 65536) = N3) (r3 : bits BinOp.or IntKind.u64 N3 (x3 * 16777216) = N4)
    (r4 : bits BinOp.or IntKind.u64 N4 (x4 * 4294967296) = N5) (r5 : bits BinOp.or IntKind.u64 N5 (x5 * 1099511627776) = N6) (r6 : bits BinOp.or IntKind.u64 N6 (x6 * 281474976710656) = N7) (r7 : bits BinOp.or IntKind.u64 N7 (x7 * 72057594037927936) = N8) :
    Calls Try.prog 72 #[.slice (some ⟨bl, off, none⟩) n cap] w fun e w' => e = .returned (.int .u64 N8) ∧ w' = w := by
  have k1 : (1 : Int) < (n : Int) := by omega
  have k2 : (2 : Int) < (n : Int) := by omega
  have k3 : (3 : Int) < (n : Int) := by omega
  have k4 : (4 : Int) < (n : Int) := by omega
  have k5 : (5 : Int) < (n : Int) := by omega
  have k6 : (6 : Int) < (n : Int) := by omega
  have k7 : (7 : Int) < (n : Int) := by omega
  obtain ⟨b0, b0'⟩ := b0; obtain ⟨b1, b1'⟩ := b1; obtain ⟨b2, b2'⟩ := b2; obtain ⟨b3, b3'⟩ := b3; obtain ⟨b4, b4'⟩ := b4; obtain ⟨b5, b5'⟩ := b5; obtain ⟨b6, b6'⟩ := b6; obtain ⟨b7, b7'⟩ := b7
  go_enter Try.func72, Try.ntmps72
  go_wp2
  refine wp_loop_rounds 9 ?_
  rw [rounds_succ]
  go_wp2
  rw [rounds_succ]
  go_wp2
  rw [rounds_succ]
  go_wp2
  rw [rounds_succ]
  go_wp2
  rw [rounds_succ]
  go_wp2
  rw [rounds_succ]
  go_wp2
  rw [rounds_succ]
  go_wp2
  rw [rounds_succ]
  go_wp2
  rw [rounds_succ]
  go_wp2
  go_ret
  exact ⟨rfl, rfl⟩

theorem orb64 (n b s k : Nat) (hn : n < 2 ^ k) (hs : s = 2 ^ k) (h : b * s < 18446744073709551616) (hn2 : n < 18446744073709551616) : bits BinOp.or IntKind.u64 (n : Int) ((b : Int) * (s : Int)) = ((n + b * s : Nat) : Int) := by
  subst hs
  have e : ((b : Int) * ((2 ^ k : Nat) : Int)) = ((b * 2 ^ k : Nat) : Int) := by simp
  rw [e, u64_or_nat _ _ hn2 h, Nat.or_comm, nat_join k _ _ (by simp) hn, Nat.add_comm]

/-- Seq out of seven bytes, the lowest first -/
def seqOf (a1 a2 a3 a4 a5 a6 a7 : UInt8) : Nat := a1.toNat + a2.toNat * 256 + a3.toNat * 65536 + a4.toNat * 16777216 + a5.toNat * 4294967296 + a6.toNat * 1099511627776 + a7.toNat * 281474976710656

theorem klow_any (w : World) (v : Value) (a0 a1 a2 a3 a4 a5 a6 a7 : UInt8) (t : List UInt8) (hv : Rd w v (a0 :: a1 :: a2 :: a3 :: a4 :: a5 :: a6 :: a7 :: t)) :
    Calls Try.prog 72 #[v] w fun e w' => e = .returned (.int .u64 ((seqOf a1 a2 a3 a4 a5 a6 a7 * 256 + a0.toNat : Nat) : Int)) ∧ w' = w := by
  rcases hv with ⟨_, h⟩ | ⟨bl, off, cap, rfl, h1, h2, h3⟩
  · cases h
  have c0 := h3 0 (.int .u8 (a0.toNat : Int)) rfl
  have c1 := h3 1 (.int .u8 (a1.toNat : Int)) rfl
  have c2 := h3 2 (.int .u8 (a2.toNat : Int)) rfl
  have c3 := h3 3 (.int .u8 (a3.toNat : Int)) rfl
  have c4 := h3 4 (.int .u8 (a4.toNat : Int)) rfl
  have c5 := h3 5 (.int .u8 (a5.toNat : Int)) rfl
  have c6 := h3 6 (.int .u8 (a6.toNat : Int)) rfl
  have c7 := h3 7 (.int .u8 (a7.toNat : Int)) rfl
  have g0 := a0.toNat_lt; have g1 := a1.toNat_lt; have g2 := a2.toNat_lt; have g3 := a3.toNat_lt; have g4 := a4.toNat_lt; have g5 := a5.toNat_lt; have g6 := a6.toNat_lt; have g7 := a7.toNat_lt
  have r0 : bits BinOp.or IntKind.u64 0 (a0.toNat : Int) = (a0.toNat : Int) := by
    have h := u64_or_nat 0 a0.toNat (by omega) (by omega)
    rw [Nat.zero_or] at h
    exact h
  have r1 := orb64 a0.toNat a1.toNat 256 8 (by omega) (by rfl) (by omega) (by omega)
  have r2 := orb64 (a0.toNat + a1.toNat * 256) a2.toNat 65536 16 (by omega) (by rfl) (by omega) (by omega)
  have r3 := orb64 (a0.toNat + a1.toNat * 256 + a2.toNat * 65536) a3.toNat 16777216 24 (by omega) (by rfl) (by omega) (by omega)
  have r4 := orb64 (a0.toNat + a1.toNat * 256 + a2.toNat * 65536 + a3.toNat * 16777216) a4.toNat 4294967296 32 (by omega) (by rfl) (by omega) (by omega)
  have r5 := orb64 (a0.toNat + a1.toNat * 256 + a2.toNat * 65536 + a3.toNat * 16777216 + a4.toNat * 4294967296) a5.toNat 1099511627776 40 (by omega) (by rfl) (by omega) (by omega)
  have r6 := orb64 (a0.toNat + a1.toNat * 256 + a2.toNat * 65536 + a3.toNat * 16777216 + a4.toNat * 4294967296 + a5.toNat * 1099511627776) a6.toNat 281474976710656 48 (by omega) (by rfl) (by omega) (by omega)
  have r7 := orb64 (a0.toNat + a1.toNat * 256 + a2.toNat * 65536 + a3.toNat * 16777216 + a4.toNat * 4294967296 + a5.toNat * 1099511627776 + a6.toNat * 281474976710656) a7.toNat 72057594037927936 56 (by omega) (by rfl) (by omega) (by omega)
  refine (klow_walk w bl off _ cap _ _ _ _ _ _ _ _ _ _ _ _ _ _ _ _ (by simp) (by simpa using c0) c1 c2 c3 c4 c5 c6 c7 ⟨by omega, by omega⟩ ⟨by omega, by omega⟩ ⟨by omega, by omega⟩ ⟨by omega, by omega⟩ ⟨by omega, by omega⟩ ⟨by omega, by omega⟩ ⟨by omega, by omega⟩ ⟨by omega, by omega⟩ r0 r1 r2 r3 r4 r5 r6 r7).mono ?_
  rintro e w' ⟨rfl, rfl⟩
  refine ⟨ret_int ?_, rfl⟩
  unfold seqOf
  omega

end Go.Proofs.Ytdopfijoplldkaa
