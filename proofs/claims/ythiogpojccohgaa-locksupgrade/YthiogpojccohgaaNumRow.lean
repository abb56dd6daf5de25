/- Rows of numbers. -/
import Derived.Test.YthiogpojccohgaaKeepB
namespace Go.Proofs.Ythiogpojccohgaa
set_option maxRecDepth 20000
open Go.RowKit
set_option linter.unusedVariables false
set_option linter.unusedSimpArgs false

theorem infoU64 : (Try.prog.info? 29).map (fun i => (i.zero, i.size, i.bytes)) = some (some (.int .u64 0), 1, 8) := by kernel_rfl

def encN (n : Nat) : Value := .int .u64 (n : Int)
/-- numbers in a row of one's own -/
def OwnU (B : Nat) (w : World) (v : Value) (ns : List Nat) : Prop := w.ownsRow B 29 1 v ns.length (ns.map encN)

/-- numbers, read -/
def RdU (w : World) (v : Value) (ns : List Nat) : Prop := w.ownsRow 0 29 1 v ns.length (ns.map encN)
theorem OwnU.rd {B : Nat} {w : World} {v : Value} {ns : List Nat} (h : OwnU B w v ns) : RdU w v ns := row_mono9 h (Nat.zero_le _)

theorem RdU.at {w : World} {v : Value} {ns : List Nat} (h : RdU w v ns) (j : Nat) (hj : j < ns.length) : ∃ b c, v = .slice (some ⟨b, 0, none⟩) ns.length c ∧ ns.length ≤ c ∧ w.cell? ⟨b, j, none⟩ = some (.int .u64 (ns[j] : Int)) := by
  have h' := h
  unfold RdU at h'
  rcases h'.2 with ⟨_, h0⟩ | ⟨b, c, cur, e, _, _, hc, _⟩
  · omega
  · subst e
    refine ⟨b, c, rfl, hc, ?_⟩
    rw [World.ownsRow.cellAt h' _ (by rw [Nat.mul_one]; exact hj), List.getElem?_map, List.getElem?_eq_getElem hj]
    rfl

end Go.Proofs.Ythiogpojccohgaa
