/- reel.lowFirst. -/
import Derived.Test.YtppoimmoohfbnaaDoorReelAwake
namespace Go.Proofs.YtppoimmoohfbnaaDoor
open Go.RowKit

theorem orb (n b s k : Nat) (hk : k ≤ 24) (hn : n < 2 ^ k) (hs : s = 2 ^ k) (h : b * s < 4294967296) : bits BinOp.or IntKind.u32 (n : Int) ((b : Int) * (s : Int)) = ((n + b * s : Nat) : Int) := by
  subst hs
  have h2 : (2 : Nat) ^ k ≤ 2 ^ 24 := Nat.pow_le_pow_right (by omega) hk
  have e : ((b : Int) * ((2 ^ k : Nat) : Int)) = ((b * 2 ^ k : Nat) : Int) := by simp
  rw [e, u32_or_nat _ _ (by omega) h, Nat.or_comm, nat_join k _ _ (by simp) hn, Nat.add_comm]

set_option maxHeartbeats 1000000 in
theorem rlow_any (w : World) (v : Value) (a b c d : UInt8) (hv : Rd w v [a, b, c, d]) :
    Calls Tryd.prog 36 #[v] w fun e w' => e = .returned (.int .u32 (Crc.low [a, b, c, d] : Int)) ∧ w' = w := by
  rcases hv with ⟨_, h⟩ | ⟨bl, off, cap, rfl, h1, h2, h3⟩
  · cases h
  unfold maxLen at h2
  have c0 := h3 0 _ (bv_get [a, b, c, d] 0 (by simp))
  have c1 := h3 1 _ (bv_get [a, b, c, d] 1 (by simp))
  have c2 := h3 2 _ (bv_get [a, b, c, d] 2 (by simp))
  have c3 := h3 3 _ (bv_get [a, b, c, d] 3 (by simp))
  simp only [List.getElem_cons_zero, List.getElem_cons_succ, Nat.add_zero, List.length_cons, List.length_nil] at c0 c1 c2 c3 h1 ⊢
  have HL : Hid (Crc.low [a, b, c, d] = a.toNat + b.toNat * 256 + c.toNat * 65536 + d.toNat * 16777216) := rfl
  have ha := a.toNat_lt; have hb := b.toNat_lt; have hc := c.toNat_lt; have hd := d.toNat_lt
  obtain ⟨x, hx⟩ : ∃ x, a.toNat = x := ⟨_, rfl⟩
  obtain ⟨y, hy⟩ : ∃ y, b.toNat = y := ⟨_, rfl⟩
  obtain ⟨z, hz⟩ : ∃ z, c.toNat = z := ⟨_, rfl⟩
  obtain ⟨u, hu⟩ : ∃ u, d.toNat = u := ⟨_, rfl⟩
  rw [hx] at c0 ha HL
  rw [hy] at c1 hb HL
  rw [hz] at c2 hc HL
  rw [hu] at c3 hd HL
  clear h3 hx hy hz hu
  have r0 : bits BinOp.or IntKind.u32 0 (x : Int) = (x : Int) := by
    have h := u32_or_nat 0 x (by omega) (by omega)
    rw [Nat.zero_or] at h
    exact h
  obtain ⟨n2, hn2⟩ : ∃ n2, x + y * 256 = n2 := ⟨_, rfl⟩
  obtain ⟨n3, hn3⟩ : ∃ n3, n2 + z * 65536 = n3 := ⟨_, rfl⟩
  obtain ⟨n4, hn4⟩ : ∃ n4, n3 + u * 16777216 = n4 := ⟨_, rfl⟩
  have r1 := orb x y 256 8 (by omega) (by omega) (by rfl) (by omega)
  have r2 := orb n2 z 65536 16 (by omega) (by omega) (by rfl) (by omega)
  have r3 := orb n3 u 16777216 24 (by omega) (by omega) (by rfl) (by omega)
  rw [hn2] at r1
  rw [hn3] at r2
  rw [hn4] at r3
  have HE : Hid (Crc.low [a, b, c, d] = n4) := by show _ = _; rw [HL.out]; omega
  have e1 : ((256 : Nat) : Int) = 256 := rfl
  have e2 : ((65536 : Nat) : Int) = 65536 := rfl
  have e3 : ((16777216 : Nat) : Int) = 16777216 := rfl
  rw [e1] at r1
  rw [e2] at r2
  rw [e3] at r3
  have b2 : n2 < 65536 := by omega
  have b3 : n3 < 16777216 := by omega
  clear hn2 hn3 hn4 e1 e2 e3 HL
  go_enter Tryd.func36, Tryd.ntmps36
  go_wp2
  refine wp_loop_rounds 5 ?_
  rw [rounds_succ]
  go_wp2
  rw [rounds_succ]
  go_wp2
  rw [rounds_succ]
  go_wp2
  rw [rounds_succ]
  go_wp2
  rw [rounds_succ]
  go_wp2
  go_ret
  exact ⟨ret_int (by rw [HE.out]), rfl⟩

set_option maxHeartbeats 1000000 in
theorem rlow2_any (w : World) (v : Value) (a b : UInt8) (hv : Rd w v [a, b]) :
    Calls Tryd.prog 36 #[v] w fun e w' => e = .returned (.int .u32 ((a.toNat + b.toNat * 256 : Nat) : Int)) ∧ w' = w := by
  rcases hv with ⟨_, h⟩ | ⟨bl, off, cap, rfl, h1, h2, h3⟩
  · cases h
  unfold maxLen at h2
  have c0 := h3 0 _ (bv_get [a, b] 0 (by simp))
  have c1 := h3 1 _ (bv_get [a, b] 1 (by simp))
  simp only [List.getElem_cons_zero, List.getElem_cons_succ, Nat.add_zero, List.length_cons, List.length_nil] at c0 c1 h1 ⊢
  have ha := a.toNat_lt; have hb := b.toNat_lt
  obtain ⟨x, hx⟩ : ∃ x, a.toNat = x := ⟨_, rfl⟩
  obtain ⟨y, hy⟩ : ∃ y, b.toNat = y := ⟨_, rfl⟩
  rw [hx] at c0 ha
  rw [hy] at c1 hb
  rw [hx, hy]
  clear h3 hx hy
  have r0 : bits BinOp.or IntKind.u32 0 (x : Int) = (x : Int) := by
    have h := u32_or_nat 0 x (by omega) (by omega)
    rw [Nat.zero_or] at h
    exact h
  obtain ⟨n2, hn2⟩ : ∃ n2, x + y * 256 = n2 := ⟨_, rfl⟩
  have r1 := orb x y 256 8 (by omega) (by omega) (by rfl) (by omega)
  rw [hn2] at r1
  have e1 : ((256 : Nat) : Int) = 256 := rfl
  rw [e1] at r1
  rw [hn2]
  clear hn2 e1
  go_enter Tryd.func36, Tryd.ntmps36
  go_wp2
  refine wp_loop_rounds 3 ?_
  rw [rounds_succ]
  go_wp2
  rw [rounds_succ]
  go_wp2
  rw [rounds_succ]
  go_wp2
  go_ret
  exact ⟨rfl, rfl⟩

end Go.Proofs.YtppoimmoohfbnaaDoor
