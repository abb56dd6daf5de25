/- bartizanref01's Text. -/
import Derived.Test.YtmgofohaoppajaaDoorText
import Derived.Test.YtmgofohaoppajaaDoorRefNum
namespace Go.Proofs.YtmgofohaoppajaaDoor
open Go.RowKit

theorem rtext_any (w : World) (v : Value) (l : List UInt8) (hv : Rd w v l) (hl : l.length ≤ 1000000) :
    Calls Tryd.prog 26 #[v] w fun e w' => ∃ x, e = .returned x ∧ Own w.heap.size w' x (textB l) ∧ Below w.heap.size w w' := by
  obtain ⟨i0, hi, hz0, hz1, hz2⟩ := info_parts info5
  obtain ⟨nb, hnb⟩ : ∃ nb, Mth.numB l.length = nb := ⟨_, rfl⟩
  have hnl : nb.length ≤ 9 := by rw [← hnb, Mth.numB_length]; exact (Mth.numL_bd _).2
  have HNB : Hid _ := hnb
  have HT : Hid (textB l = nb ++ l) := by show _ = _; rw [← hnb]; rfl
  clear hnb
  rcases hv with ⟨rfl, rfl⟩ | ⟨b, off, cap, rfl, h1, h2, h3⟩
  · go_enter Tryd.func26, Tryd.ntmps26
    go_wp2_with fail
    refine (refnum_any 0 _ (by omega)).mono ?_
    rintro e w1 ⟨v1, rfl, o1, hb1⟩
    rw [show Mth.numB 0 = nb from HNB.out] at o1
    obtain ⟨g, k, hv1⟩ := o1.shape
    subst hv1
    have hrow := o1.row
    go_wp2_with (at_builtin; refine wpList_append_own_none rfl (.tmp 6) (.tmp 7) 26 rfl w.heap.size 5 i0 1 Tryd.underlying26 hi _ _ _ rfl hrow rfl ?_)
    go_ret
    exact ⟨_, rfl, by rw [HT.out, List.append_nil]; exact o1, hb1⟩
  · have rv : Rd w (.slice (some ⟨b, off, none⟩) l.length cap) l := .inr ⟨b, off, cap, rfl, h1, h2, h3⟩
    clear h1 h2 h3
    go_enter Tryd.func26, Tryd.ntmps26
    go_wp2_with fail
    refine (refnum_any l.length _ (by omega)).mono ?_
    rintro e w1 ⟨v1, rfl, o1, hb1⟩
    rw [HNB.out] at o1
    obtain ⟨g, k, hv1⟩ := o1.shape
    subst hv1
    have hrow := o1.row
    have hcs := (rd_cells (rv.below hb1 (Nat.le_refl _))).2
    have hsz := hb1.size
    go_wp2_with (at_builtin; refine wpList_append_own _ rfl (.tmp 6) (.tmp 7) 26 rfl w.heap.size 5 i0 (.int .u8 0) 1 1 Tryd.underlying26 hi hz0 hz1 hz2 rfl (by decide) (.slice (some ⟨g, 0, none⟩) nb.length k) nb.length (bv nb) rfl hrow ⟨b, off, none⟩ l.length cap (bv l) rfl (by rw [bv_length, Nat.mul_one]) hcs (bv_one _) (by simp only [maxLen]; omega) (by omega) (by omega) ?_; intro v' w2 ho' hgr' hn')
    go_ret
    refine ⟨_, rfl, ?_, hb1.grown hgr' hsz (fun k' e => (hrow.lt k' e).1)⟩
    rw [HT.out]
    refine Own.of_row ?_ (fun e => by have := (hn'.1 e).1; cases this)
    rw [List.length_append, bv_append]
    exact ho'

end Go.Proofs.YtmgofohaoppajaaDoor
