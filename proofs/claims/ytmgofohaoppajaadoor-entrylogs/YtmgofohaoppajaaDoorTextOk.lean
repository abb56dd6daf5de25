/- atom.TakeText, where there is a text. -/
import Derived.Test.YtmgofohaoppajaaDoorTakeText
import Derived.Deep.RegionWith
namespace Go.Proofs.YtmgofohaoppajaaDoor
open Go.RowKit

set_option maxHeartbeats 2000000 in
theorem tt_ok (w : World) (v : Value) (l t r : List UInt8) (most : Int) (n s : Nat) (hm2 : most ≤ 9223372036854775807) (hv : Rd w v l) (hf : frontS l = (n, s, 0)) (hm : (n : Int) ≤ most) (hl : n ≤ l.length - s) (hlen : l.length ≤ 1099511627776)
    (ht : (l.drop s).take n = t) (hr : l.drop (s + n) = r) :
    Calls Tryd.prog 48 #[v, .int .i64 most] w fun e w' => ∃ x y, e = .returned (.tuple #[x, y, .int .i64 0]) ∧ Own w.heap.size w' x t ∧ Own w.heap.size w' y r ∧ Below w.heap.size w w' := by
  obtain ⟨hs1, hs2, hs9, hn⟩ := frontS_ok hf
  have hV : Hid (frontV (frontS l) = .tuple #[.int .u64 (n : Int), .int .i64 (s : Int), .int .i64 0]) := by show _ = _; rw [hf]; rfl
  clear hf
  have htl : t.length = n := by rw [← ht, List.length_take, List.length_drop]; omega
  have hrl : r.length = l.length - s - n := by rw [← hr, List.length_drop]; omega
  have hh := hv
  rcases hh with ⟨_, rfl⟩ | ⟨b, off, cap, rfl, h1, h2, h3⟩
  · simp at hs2; omega
  obtain ⟨off1, o1, o2, hR, hc1⟩ := rd_drop h3 h1 h2 s hs2
  have hdl : (l.drop s).length = l.length - s := List.length_drop
  have hR1 : Rd w (.slice (some ⟨b, off1, none⟩) n (cap - s)) t := by
    have := rd_sub hc1 0 n (cap - s) (by omega) (by omega) (by omega)
    rw [List.drop_zero, ht] at this
    exact this
  obtain ⟨off2, p1, p2, hR2, _hc2⟩ := rd_drop hc1 (cap := cap - s) (by omega) (by omega) n (by omega)
  rw [List.drop_drop, hr, hdl] at hR2
  unfold maxLen at h2
  have h0' : decide (most < 0) = false := decide_eq_false (by omega)
  have h00 : 0 ≤ most := by omega
  have HT : Hid (t.length = n) := htl
  have HR : Hid (r.length = l.length - s - n) := hrl
  clear _hc2 h3 hc1 ht hr hdl htl hrl hR
  by_cases hcap : s = cap
  · subst hcap
    have := o2 rfl
    subst this
    have hn0 : n = 0 := by omega
    subst hn0
    rw [Nat.sub_self] at hR1 hR2
    rw [show l.length - s - 0 = 0 by omega, Nat.sub_zero] at hR2
    have hz : off2 = off1 := p2 (by omega)
    subst hz
    clear p1 p2 o1 o2
    go_enter Tryd.func48, Tryd.ntmps48
    go_wp2_with (go_at_call 62; refine (front_any _ _ l hv).mono ?_; rintro r w1 ⟨rfl, hb⟩; rw [hV.out])
    have hA := hR1.below hb (Nat.le_refl _)
    have hB := hR2.below hb (Nat.le_refl _)
    clear hR1 hR2 hv
    go_region_with (first | (go_at_call 63; refine (fresh_any _ _ t (by first | exact hA.drew | exact hA.drew.below hbb (Nat.le_refl _)) (by rw [HT.out]; omega)).mono ?_; rintro e wa ⟨xa, rfl, oa, hba⟩) | (go_at_call 63; refine (fresh_any _ _ r (by first | exact hB.drew | exact hB.drew.below hba (Nat.le_refl _)) (by rw [HR.out]; omega)).mono ?_; rintro e wb ⟨xb, rfl, ob, hbb⟩))
    all_goals
      go_wp2
      go_ret3
      have hba' := (Below.refl w1.heap.size w1).drew.trans hba
      have hB2 := hb.trans (hba'.mono hb.size)
      exact ⟨xa, xb, rfl, (oa.below hbb (Nat.le_refl _)).mono hb.size, ob.mono hB2.size, hB2.trans (hbb.mono hB2.size)⟩
  · have := o1 (fun e => hcap e.symm)
    subst this
    clear o1 o2
    by_cases hcap2 : cap - s = n
    · have := p2 hcap2
      subst this
      subst hcap2
      rw [Nat.sub_self] at hR2
      clear p1 p2
      go_enter Tryd.func48, Tryd.ntmps48
      go_wp2_with (go_at_call 62; refine (front_any _ _ l hv).mono ?_; rintro r w1 ⟨rfl, hb⟩; rw [hV.out])
      have hA := hR1.below hb (Nat.le_refl _)
      have hB := hR2.below hb (Nat.le_refl _)
      clear hR1 hR2 hv
      go_region_with (first | (go_at_call 63; refine (fresh_any _ _ t (by first | exact hA.drew | exact hA.drew.below hbb (Nat.le_refl _)) (by rw [HT.out]; omega)).mono ?_; rintro e wa ⟨xa, rfl, oa, hba⟩) | (go_at_call 63; refine (fresh_any _ _ r (by first | exact hB.drew | exact hB.drew.below hba (Nat.le_refl _)) (by rw [HR.out]; omega)).mono ?_; rintro e wb ⟨xb, rfl, ob, hbb⟩))
      all_goals
        go_wp2
        go_ret3
        have hba' := (Below.refl w1.heap.size w1).drew.trans hba
        have hB2 := hb.trans (hba'.mono hb.size)
        exact ⟨xa, xb, rfl, (oa.below hbb (Nat.le_refl _)).mono hb.size, ob.mono hB2.size, hB2.trans (hbb.mono hB2.size)⟩
    · have := p1 hcap2
      subst this
      clear p1 p2
      go_enter Tryd.func48, Tryd.ntmps48
      go_wp2_with (go_at_call 62; refine (front_any _ _ l hv).mono ?_; rintro r w1 ⟨rfl, hb⟩; rw [hV.out])
      have hA := hR1.below hb (Nat.le_refl _)
      have hB := hR2.below hb (Nat.le_refl _)
      clear hR1 hR2 hv
      go_region_with (first | (go_at_call 63; refine (fresh_any _ _ t (by first | exact hA.drew | exact hA.drew.below hbb (Nat.le_refl _)) (by rw [HT.out]; omega)).mono ?_; rintro e wa ⟨xa, rfl, oa, hba⟩) | (go_at_call 63; refine (fresh_any _ _ r (by first | exact hB.drew | exact hB.drew.below hba (Nat.le_refl _)) (by rw [HR.out]; omega)).mono ?_; rintro e wb ⟨xb, rfl, ob, hbb⟩))
      all_goals
        go_wp2
        go_ret3
        have hba' := (Below.refl w1.heap.size w1).drew.trans hba
        have hB2 := hb.trans (hba'.mono hb.size)
        exact ⟨xa, xb, rfl, (oa.below hbb (Nat.le_refl _)).mono hb.size, ob.mono hB2.size, hB2.trans (hbb.mono hB2.size)⟩

end Go.Proofs.YtmgofohaoppajaaDoor
