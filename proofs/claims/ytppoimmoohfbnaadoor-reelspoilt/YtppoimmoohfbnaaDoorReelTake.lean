/- reel.piece: the piece at a place, if there is one. -/
import Derived.Test.YtppoimmoohfbnaaDoorReelLow
namespace Go.Proofs.YtppoimmoohfbnaaDoor
open Go.RowKit
set_option linter.unusedVariables false

/-- the piece at a place: its kind, its bytes -/
def pcAt (p : List UInt8) (a : Nat) : Option (UInt8 × List UInt8) :=
  match (p.drop a).take (leftN a) with
  | s0 :: s1 :: s2 :: s3 :: n0 :: n1 :: k :: r =>
    if (n0.toNat + n1.toNat * 256 ≤ r.length ∧ 1 ≤ k.toNat ∧ k.toNat ≤ 4) ∧ Crc.low [s0, s1, s2, s3] = Crc.mask (Crc.sum (k :: r.take (n0.toNat + n1.toNat * 256))) then some (k, r.take (n0.toNat + n1.toNat * 256)) else none
  | _ => none

theorem pcAt_short {p : List UInt8} {a : Nat} (h : ((p.drop a).take (leftN a)).length < 7) : pcAt p a = none := by
  unfold pcAt
  split
  · rename_i e
    rw [e] at h
    simp at h
    omega
  · rfl

theorem seven {q : List UInt8} (h : 7 ≤ q.length) : ∃ s0 s1 s2 s3 n0 n1 k r, q = s0 :: s1 :: s2 :: s3 :: n0 :: n1 :: k :: r := by
  match q, h with
  | s0 :: s1 :: s2 :: s3 :: n0 :: n1 :: k :: r, _ => exact ⟨s0, s1, s2, s3, n0, n1, k, r, rfl⟩

theorem piece_out (w : World) (z : Int) (v : Value) (p : List UInt8) (hv : Rd w v p) (h : z < 0 ∨ (p.length : Int) ≤ z) :
    Calls Tryd.prog 31 #[v, .int .i64 z] w fun e w' => e = .returned (.tuple #[.int .u8 0, .slice none 0 0, .bool false]) ∧ w' = w := by
  obtain ⟨ao, cap, rfl⟩ := hv.len
  obtain ⟨n, hn⟩ : ∃ n, p.length = n := ⟨_, rfl⟩
  rw [hn] at h ⊢
  clear hv hn
  by_cases h1 : z < 0
  · clear h
    go_enter Tryd.func31, Tryd.ntmps31
    go_wp2
    go_ret3
    exact ⟨rfl, rfl⟩
  · have h2 : (n : Int) ≤ z := by omega
    clear h
    go_enter Tryd.func31, Tryd.ntmps31
    go_wp2
    go_ret3
    exact ⟨rfl, rfl⟩

theorem win_facts {p a e m d c lf : Nat} (ha : a < p) (hc : p ≤ c) (hp : p ≤ 1000000) (hlf : 1 ≤ lf ∧ lf ≤ 64) (he : min p (a + lf) = e) (hm : e - a = m) (hd : c - a = d) : ¬ c = a ∧ (a : Int) < (p : Int) ∧ (a : Int) ≤ (e : Int) ∧ (e : Int) ≤ (c : Int) ∧ min (p : Int) ((a : Int) + (lf : Int)) = (e : Int) ∧ (1 : Int) ≤ (m : Int) ∧ (m : Int) ≤ 64 ∧ (m : Int) ≤ (d : Int) ∧ a ≤ 4611686018427387904 ∧ (a : Int) ≤ 1000000 ∧ (lf : Int) ≤ 64 ∧ (1 : Int) ≤ (lf : Int) ∧ (if (a : Int) + (lf : Int) < (p : Int) then (a : Int) + (lf : Int) else (p : Int)) = (e : Int) := by
  refine ⟨by omega, by omega, by omega, by omega, by omega, by omega, by omega, by omega, by omega, by omega, by omega, by omega, ?_⟩
  split <;> omega

set_option maxRecDepth 100000 in
set_option maxHeartbeats 4000000 in
theorem piece_few (w : World) (a b off c : Nat) (p : List UInt8) (ha : a < p.length) (hc : p.length ≤ c) (hp : p.length ≤ 1000000) (h7 : min p.length (a + leftN a) - a < 7) :
    Calls Tryd.prog 31 #[.slice (some ⟨b, off, none⟩) p.length c, .int .i64 (a : Int)] w fun e w' => e = .returned (.tuple #[.int .u8 0, .slice none 0 0, .bool false]) ∧ w' = w := by
  obtain ⟨lf, hlf⟩ : ∃ lf, leftN a = lf := ⟨_, rfl⟩
  have hl := left_bd a
  obtain ⟨n, hn⟩ : ∃ n, p.length = n := ⟨_, rfl⟩
  rw [hlf] at h7 hl
  rw [hn] at ha hc hp h7 ⊢
  obtain ⟨e, he⟩ : ∃ e, min n (a + lf) = e := ⟨_, rfl⟩
  obtain ⟨m, hm⟩ : ∃ m, e - a = m := ⟨_, rfl⟩
  obtain ⟨d, hd⟩ : ∃ d, c - a = d := ⟨_, rfl⟩
  obtain ⟨f1, f2, f3, f4, f5, f6, f7, f8, f9, f10, f11, f12, f13⟩ := win_facts ha hc hp hl he hm hd
  have hleft := left_any w a f9
  rw [hlf] at hleft
  have h7' : (m : Int) < 7 := by rw [he, hm] at h7; omega
  have ha0 : (0 : Int) ≤ (a : Int) := Int.natCast_nonneg a
  clear hlf hl hn ha hc hp h7 he f9
  go_enter Tryd.func31, Tryd.ntmps31
  go_wp2_with fail
  refine hleft.mono ?_
  rintro e' w1 ⟨rfl, rfl⟩
  clear hleft
  go_wp2
  go_ret3
  exact ⟨rfl, rfl⟩

end Go.Proofs.YtppoimmoohfbnaaDoor
