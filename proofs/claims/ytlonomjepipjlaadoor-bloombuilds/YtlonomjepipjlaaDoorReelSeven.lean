/- reel.piece: seven bytes and more. -/
import Derived.Test.YtlonomjepipjlaaDoorReelTake
namespace Go.Proofs.YtlonomjepipjlaaDoor
open Go.RowKit
set_option linter.unusedVariables false

theorem cells_drop {w : World} {b off a : Nat} {p : List UInt8} (h : ∀ j u, (bv p)[j]? = some u → w.cell? ⟨b, off + j, none⟩ = some u) : ∀ j u, (bv (p.drop a))[j]? = some u → w.cell? ⟨b, off + a + j, none⟩ = some u := fun j u hu => by
  rw [Nat.add_assoc]
  refine h (a + j) u ?_
  rw [← hu]
  simp [bv]

theorem take_in (l : List UInt8) (L i k : Nat) (h : i + k ≤ L) : (l.drop i).take k = ((l.take L).drop i).take k := by
  rw [List.drop_take, List.take_take, Nat.min_eq_left (by omega)]

/-- what the walk of a piece is told -/
structure Seven (w : World) (b o m d : Nat) (s0 s1 s2 s3 n0 n1 k : UInt8) (r : List UInt8) : Prop where
  r4 : Rd w (.slice (some ⟨b, o, none⟩) 4 d) [s0, s1, s2, s3]
  r2 : Rd w (.slice (some ⟨b, o + 4, none⟩) 2 (d - 4)) [n0, n1]
  c6 : w.cell? ⟨b, o + 6, none⟩ = some (.int .u8 (k.toNat : Int))
  cr : ∀ j u, (bv r)[j]? = some u → w.cell? ⟨b, o + 7 + j, none⟩ = some u
  ln : r.length = m - 7

theorem seven_of {w : World} {b off a c m : Nat} {p : List UInt8} {s0 s1 s2 s3 n0 n1 k : UInt8} {r : List UInt8} (h : ∀ j u, (bv p)[j]? = some u → w.cell? ⟨b, off + j, none⟩ = some u) (hq : (p.drop a).take (leftN a) = s0 :: s1 :: s2 :: s3 :: n0 :: n1 :: k :: r)
    (ha : a < p.length) (hc : p.length ≤ c) (hM : c ≤ maxLen) (hm : min p.length (a + leftN a) - a = m) : Seven w b (off + a) m (c - a) s0 s1 s2 s3 n0 n1 k r := by
  have hcd := cells_drop (a := a) h
  have hl : ((p.drop a).take (leftN a)).length = m := by rw [List.length_take, List.length_drop]; omega
  have hl2 : m = 7 + r.length := by rw [← hl, hq]; simp; omega
  have hlen : m ≤ (p.drop a).length := by rw [List.length_drop]; omega
  have hml : m ≤ leftN a := by omega
  have hcut : ∀ j u, (bv (s0 :: s1 :: s2 :: s3 :: n0 :: n1 :: k :: r))[j]? = some u → w.cell? ⟨b, off + a + j, none⟩ = some u := fun j u hu => by
    refine hcd j u ?_
    rw [← hq] at hu
    have hj : j < m := by have := (List.getElem?_eq_some_iff.1 hu).1; rw [bv_length, hl] at this; exact this
    rw [← hu]
    unfold bv
    rw [List.map_take, List.getElem?_take, if_pos (by omega)]
  have hd7 : 7 ≤ c - a := by rw [List.length_drop] at hlen; omega
  refine ⟨?_, ?_, ?_, fun j u hu => ?_, by omega⟩
  · have := rd_sub hcut 0 4 (c - a) (by omega) (by omega) (by simp)
    simpa using this
  · have := rd_sub hcut 4 2 (c - a - 4) (by omega) (by omega) (by simp)
    simpa using this
  · have := hcut 6 (.int .u8 (k.toNat : Int)) (by simp [bv])
    exact this
  · have := hcut (7 + j) u (by
      rw [← hu]
      simp [bv, show 7 + j = j + 7 by omega])
    rw [← Nat.add_assoc] at this
    exact this

theorem low2_bd (a b : UInt8) : a.toNat + b.toNat * 256 < 65536 := by have := a.toNat_lt; have := b.toNat_lt; omega

end Go.Proofs.YtlonomjepipjlaaDoor
