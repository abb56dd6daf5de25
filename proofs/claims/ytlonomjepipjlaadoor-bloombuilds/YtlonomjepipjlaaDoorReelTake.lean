/- reel.piece: the piece at a place, if there is one. -/
import Derived.Test.YtlonomjepipjlaaDoorReelLow
namespace Go.Proofs.YtlonomjepipjlaaDoor
open Go.RowKit
set_option linter.unusedVariables false

/-- the piece at a place: its kind, its bytes -/
def pcAt (p : List UInt8) (a : Nat) : Option (UInt8 × List UInt8) :=
  match (p.drop a).take (leftN a) with
  | s0 :: s1 :: s2 :: s3 :: n0 :: n1 :: k :: r =>
    if (n0.toNat + n1.toNat * 256 ≤ r.length ∧ 1 ≤ k.toNat ∧ k.toNat ≤ 4) ∧ Crc.low [s0, s1, s2, s3] = Crc.mask (Crc.sum (k :: r.take (n0.toNat + n1.toNat * 256))) then some (k, r.take (n0.toNat + n1.toNat * 256)) else none
  | _ => none

theorem pcAt_short {p : List UInt8} {a : Nat} (h : ((p.drop a).take (leftN a)).length < 7) : pcAt p a = none := by
  unfold pcAt
  split
  · rename_i e
    rw [e] at h
    simp at h
    omega
  · rfl

theorem seven {q : List UInt8} (h : 7 ≤ q.length) : ∃ s0 s1 s2 s3 n0 n1 k r, q = s0 :: s1 :: s2 :: s3 :: n0 :: n1 :: k :: r := by
  match q, h with
  | s0 :: s1 :: s2 :: s3 :: n0 :: n1 :: k :: r, _ => exact ⟨s0, s1, s2, s3, n0, n1, k, r, rfl⟩

theorem win_facts {p a e m d c lf : Nat} (ha : a < p) (hc : p ≤ c) (hp : p ≤ 1000000) (hlf : 1 ≤ lf ∧ lf ≤ 64) (he : min p (a + lf) = e) (hm : e - a = m) (hd : c - a = d) : ¬ c = a ∧ (a : Int) < (p : Int) ∧ (a : Int) ≤ (e : Int) ∧ (e : Int) ≤ (c : Int) ∧ min (p : Int) ((a : Int) + (lf : Int)) = (e : Int) ∧ (1 : Int) ≤ (m : Int) ∧ (m : Int) ≤ 64 ∧ (m : Int) ≤ (d : Int) ∧ a ≤ 4611686018427387904 ∧ (a : Int) ≤ 1000000 ∧ (lf : Int) ≤ 64 ∧ (1 : Int) ≤ (lf : Int) ∧ (if (a : Int) + (lf : Int) < (p : Int) then (a : Int) + (lf : Int) else (p : Int)) = (e : Int) := by
  refine ⟨by omega, by omega, by omega, by omega, by omega, by omega, by omega, by omega, by omega, by omega, by omega, by omega, ?_⟩
  split <;> omega

end Go.Proofs.YtlonomjepipjlaaDoor
