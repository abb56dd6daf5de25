/- reel.piece, as one contract. -/
import Derived.Test.YtlonomjepipjlaaDoorReelSeven7
namespace Go.Proofs.YtlonomjepipjlaaDoor
open Go.RowKit
set_option linter.unusedVariables false

theorem pcAt_eq {p : List UInt8} {a : Nat} {s0 s1 s2 s3 n0 n1 k : UInt8} {r : List UInt8} (hq : (p.drop a).take (leftN a) = s0 :: s1 :: s2 :: s3 :: n0 :: n1 :: k :: r) :
    pcAt p a = if (n0.toNat + n1.toNat * 256 ≤ r.length ∧ 1 ≤ k.toNat ∧ k.toNat ≤ 4) ∧ Crc.low [s0, s1, s2, s3] = Crc.mask (Crc.sum (k :: r.take (n0.toNat + n1.toNat * 256))) then some (k, r.take (n0.toNat + n1.toNat * 256)) else none := by
  unfold pcAt
  rw [hq]

/-- what reel.piece answers -/
def PcPost (w : World) (b : Nat) (q : Option (UInt8 × List UInt8)) (x : Ending) (w' : World) : Prop :=
  Below w.heap.size w w' ∧ match q with
    | none => x = .returned (.tuple #[.int .u8 0, .slice none 0 0, .bool false])
    | some (k, t) => ∃ o' d', x = .returned (.tuple #[.int .u8 (k.toNat : Int), .slice (some ⟨b, o', none⟩) t.length d', .bool true]) ∧ Rd w (.slice (some ⟨b, o', none⟩) t.length d') t

theorem post_none {w w' : World} {b : Nat} {x : Ending} (h : x = .returned (.tuple #[.int .u8 0, .slice none 0 0, .bool false]) ∧ Below w.heap.size w w') : PcPost w b none x w' := ⟨h.2, h.1⟩

theorem rd_rest {w : World} {b o d : Nat} {r : List UInt8} (h : ∀ j u, (bv r)[j]? = some u → w.cell? ⟨b, o + j, none⟩ = some u) (n : Nat) (hn : n ≤ r.length) (hd : r.length ≤ d) (hM : d ≤ maxLen) : Rd w (.slice (some ⟨b, o, none⟩) n d) (r.take n) := by
  have := rd_sub h 0 n d (by omega) hM (by omega)
  rwa [Nat.add_zero, List.drop_zero] at this

end Go.Proofs.YtlonomjepipjlaaDoor
