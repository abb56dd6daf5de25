/- Cut and Copy of bartizanref01; what a law is told of bytes that came in. -/
import Derived.Test.YtgkgdbdapkgkgaaSame
namespace Go.Proofs.Ytgkgdbdapkgkgaa
open Go.RowKit

/-- WHAT A LAW IS TOLD OF A SLICE OF BYTES THAT CAME IN -/
def IsRow (k : IntKind) (w : World) (a : Option Addr) (len cap : Nat) (zs : List Int) : Prop :=
  (a = none ∧ len = 0 ∧ cap = 0 ∧ zs = []) ∨
  ∃ x, a = some x ∧ len ≤ cap ∧ cap ≤ maxLen ∧ zs.length = cap ∧ (∀ i, i < zs.length → w.cell? (x.add i) = some (.int k (zs.getD i 0))) ∧ ∀ n ∈ zs, (Lit.int k n).wf = true

/-- the slice value v, wherever it lies, reads as the bytes l -/
def Arg (w : World) (v : Value) (l : List UInt8) : Prop :=
  (v = .slice none 0 0 ∧ l = []) ∨ ∃ a cap, v = .slice (some a) l.length cap ∧ l.length ≤ cap ∧ cap ≤ maxLen ∧ ∀ j u, (bv l)[j]? = some u → w.cell? (a.add j) = some u

theorem Rd.arg {w : World} {v : Value} {l : List UInt8} (h : Rd w v l) : Arg w v l := by
  rcases h with h | ⟨b, off, cap, rfl, h1, h2, h3⟩
  · exact .inl h
  · exact .inr ⟨_, cap, rfl, h1, h2, fun j u hu => by rw [Addr.add_lit]; exact h3 j u hu⟩

theorem Arg.below {B : Nat} {w w' : World} {v : Value} {l : List UInt8} (h : Arg w v l) (hb : Below B w w') (hB : w.heap.size ≤ B) : Arg w' v l := by
  rcases h with h | ⟨a, cap, rfl, h1, h2, h3⟩
  · exact .inl h
  · refine .inr ⟨a, cap, rfl, h1, h2, fun j u hu => ?_⟩
    have := h3 j u hu
    rw [hb.cell (Nat.lt_of_lt_of_le (World.block_lt_of_cell? w _ this) hB)]
    exact this

/-- what came in reads as bytes -/
def argB (len : Nat) (zs : List Int) : List UInt8 := (zs.take len).map fun n => UInt8.ofNat n.toNat

theorem arg_of {w : World} {a : Option Addr} {len cap : Nat} {zs : List Int} (h : IsRow .u8 w a len cap zs) : Arg w (.slice a len cap) (argB len zs) := by
  rcases h with ⟨rfl, rfl, rfl, rfl⟩ | ⟨x, rfl, hl, hm, hz, hc, hw⟩
  · exact .inl ⟨rfl, rfl⟩
  · have el : (argB len zs).length = len := by simp [argB]; omega
    refine .inr ⟨x, cap, by rw [el], by omega, hm, fun j u hu => ?_⟩
    have hj : j < len := by have := (List.getElem?_eq_some_iff.1 hu).1; rw [bv_length] at this; omega
    have hjz : j < zs.length := by omega
    rw [hc j (by omega)]
    rw [← hu]
    have hb := bounds_u8 (hw zs[j] (List.getElem_mem hjz))
    simp [bv, argB, hj, hjz]
    omega

end Go.Proofs.Ytgkgdbdapkgkgaa
