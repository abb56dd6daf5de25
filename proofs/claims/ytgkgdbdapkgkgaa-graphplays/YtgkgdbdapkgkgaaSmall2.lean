/- Small things, of rounds behind the sixth. -/
import Derived.Test.YtgkgdbdapkgkgaaHeld
namespace Go.Proofs.Ytgkgdbdapkgkgaa
open Go.RowKit

theorem Rd.spots {w : World} {v : Value} {l : List UInt8} (h : Rd w v l) : ∃ ao cap, v = .slice ao l.length cap ∧ l.length ≤ cap ∧ cap ≤ 9223372036854775807 ∧ ∀ j (h : j < l.length), ∃ b off, ao = some ⟨b, off, none⟩ ∧ w.cell? ⟨b, off + j, none⟩ = some (.int .u8 ((l[j]).toNat : Int)) := by
  rcases h with ⟨rfl, rfl⟩ | ⟨b, off, cap, rfl, h1, h2, h3⟩
  · exact ⟨none, 0, rfl, Nat.le_refl _, by omega, fun j h => absurd h (Nat.not_lt_zero _)⟩
  · exact ⟨_, cap, rfl, h1, by unfold maxLen at h2; omega, fun j h => ⟨b, off, rfl, h3 j _ (bv_get l j h)⟩⟩

theorem Own.spots {B : Nat} {w : World} {g n k : Nat} {l : List UInt8} (h : Own B w (.slice (some ⟨g, 0, none⟩) n k) l) : ∀ j u, (bv l)[j]? = some u → w.cell? ⟨g, 0 + j, none⟩ = some u := fun j u hu => by
  have := (rd_cells h.rd).2 j u hu
  rwa [Addr.add_lit] at this

theorem byteI {a b : UInt8} : ((a.toNat : Int) = (b.toNat : Int)) ↔ a = b := ⟨fun h => UInt8.toNat_inj.1 (by omega), fun h => by rw [h]⟩

end Go.Proofs.Ytgkgdbdapkgkgaa
