/- []byte(s): a row of the call's own that reads as the string's bytes. -/
import Derived.Test.YthiogpojccohgaaBoxes
import Derived.Lib.ConvBytes
namespace Go.Proofs.Ythiogpojccohgaa
open Go.RowKit

theorem conv_str (w : World) (t : ByteArray) (l : List UInt8) (hl : t.data.toList = l) (hm : l.length ≤ 100) :
    ∃ cap w', (convert 9 30 (.string t)).run Try.prog w = .ok (.slice (some ⟨w.heap.size, 0, none⟩) l.length cap) w' ∧ Rd w' (.slice (some ⟨w.heap.size, 0, none⟩) l.length cap) l ∧ Below w.heap.size w w' ∧ w'.heap.size = w.heap.size + 1 := by
  subst hl
  have hsz : t.size = t.data.toList.length := by rw [Array.length_toList]; rfl
  have hcap := grownCap_ge w t.size 0 5
  have hcap2 := grownCap_le_maxLen w t.size 0 5 (by rw [hsz]; unfold maxLen; omega)
  refine ⟨grownCap w t.size 0 5, Lib.bytesWorld w 5 t, ?_, .inr ⟨w.heap.size, 0, grownCap w t.size 0 5, rfl, by rw [← hsz]; exact hcap, hcap2, fun j u hu => ?_⟩, ?_, Lib.bytesWorld_size w 5 t⟩
  · have := Lib.run_convert_string_bytes (P := Try.prog) w 9 30 5 t Try.underlying9 Try.underlying30 Try.underlying5
    rw [this, hsz]
  · have hj : j < t.data.toList.length := by have := (List.getElem?_eq_some_iff.1 hu).1; rwa [bv_length] at this
    rw [Nat.zero_add, Lib.bytesWorld_cell w 5 t j (by rw [hsz]; exact hj), ← hu, bv_get _ j hj]
    have hj2 : j < t.data.size := by rwa [Array.length_toList] at hj
    have e : t.data[j]? = some t.data[j] := Array.getElem?_eq_getElem hj2
    simp [List.getD]
    rw [e]
    rfl
  · refine ⟨?_, ?_, ?_, ?_, fun k hk => Lib.bytesWorld_at_old w 5 t k hk⟩
    all_goals first | rfl | (rw [Lib.bytesWorld_size]; omega)

end Go.Proofs.Ythiogpojccohgaa
