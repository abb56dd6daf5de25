/- atom.Text. -/
import Derived.Test.YtmgofohaoppajaaDoorJoin
import Derived.Test.YtmgofohaoppajaaDoorNumRead
import Derived.Deep.Slices
namespace Go.Proofs.YtmgofohaoppajaaDoor
open Go.ChangeShapes Go.WideShapes Go.ChangeAt Go.RowKit

/-- a text's bytes -/
def textB (t : List UInt8) : List UInt8 := Mth.numB t.length ++ t

theorem textB_flat (t : List UInt8) : [Mth.numB t.length, t].flatten = textB t := by simp [textB]

theorem text_own (w : World) (v : Value) (l : List UInt8) (hv : Rd w v l) (hl : l.length ≤ 1000000) :
    Calls Tryd.prog 37 #[v] w fun e w' => ∃ x, e = .returned x ∧ Own w.heap.size w' x (textB l) ∧ Below w.heap.size w w' := by
  obtain ⟨ao, cap, hvv⟩ := hv.len
  subst hvv
  have hfl : ([Mth.numB l.length, l].flatten).length ≤ 1099511627776 := by
    have h1 := Mth.numL_bd l.length
    simp only [List.flatten_cons, List.flatten_nil, List.append_nil, List.length_append, Mth.numB_length]
    omega
  go_enter Tryd.func37, Tryd.ntmps37
  go_wp2_with fail
  refine (num_any l.length _ (by omega)).mono ?_
  rintro e w1 ⟨v1, rfl, o1, hb1⟩
  obtain ⟨g, k, hv1⟩ := o1.shape
  subst hv1
  have r1 := o1.rd
  have rv := hv.below hb1 (Nat.le_refl _)
  go_wp2_with fail
  refine (join_any _ _ [Mth.numB l.length, l] (rdl_two _ _ _ _ _ r1 rv) hfl).mono ?_
  rintro e w2 ⟨x, rfl, ox, hb2⟩
  rw [textB_flat] at ox
  go_wp2
  go_ret
  exact ⟨x, rfl, ox.mono (Nat.le_trans hb1.size (by simp)), (hb1.alloc hb1.size _).trans (hb2.mono (Nat.le_trans hb1.size (by simp)))⟩

end Go.Proofs.YtmgofohaoppajaaDoor
