/- seal.Open answers the text of a seal, in new memory; or the error. -/
import Derived.Test.YtgmoedoalbmkpaaDoorClose
import Derived.Deep.RegionWith
namespace Go.Proofs.YtgmoedoalbmkpaaDoor
open Go.RowKit

theorem open_short (w : World) (v : Value) (l : List UInt8) (hv : Rd w v l) (hl : l.length < 4) :
    Calls Tryd.prog 19 #[v] w fun e w' => e = .returned (.tuple #[.slice none 0 0, .int .i64 2]) ∧ w' = w := by
  obtain ⟨ao, cap, hvv⟩ := hv.len
  subst hvv
  clear hv
  go_enter Tryd.func19, Tryd.ntmps19
  go_wp2
  go_ret2
  exact ⟨rfl, rfl⟩

theorem RdL.drew {w : World} {v : Value} {ls : List (List UInt8)} (h : RdL w v ls) : RdL w.drew v ls := h
theorem Tab.drew {w : World} (h : Tab w) : Tab w.drew := h

/-- what it answers -/
def OpenPost (bad : Bool) (t : List UInt8) (B : Nat) (w : World) (x y : Value) : Prop := if bad then x = .slice none 0 0 ∧ y = .int .i64 5 else Own B w x t ∧ y = .int .i64 0

set_option maxHeartbeats 4000000 in
set_option maxRecDepth 20000 in
theorem open_long (w : World) (v : Value) (t : List UInt8) (a b c d : UInt8) (hv : Rd w v (t ++ [a, b, c, d])) (hl : t.length ≤ 1000000) (ht : Tab w) (bad : Bool) (hbad : (((Crc.low [a, b, c, d] : Nat) : Int) != ((Crc.mask (Crc.sum t) : Nat) : Int)) = bad) :
    Calls Tryd.prog 19 #[v] w fun e w' => ∃ x y, e = .returned (.tuple #[x, y]) ∧ OpenPost bad t w.heap.size w' x y ∧ Below w.heap.size w w' := by
  obtain ⟨i0, hi, hz0, hz1, hz2⟩ := info_parts info5
  have hsz : (Tryd.prog.info? 5).map (·.size) = some 1 := by rw [hi]; simp [hz1]
  rcases hv with ⟨_, h⟩ | ⟨bl, off, cap, rfl, h1, h2, h3⟩
  · simp at h
  have hlen : (t ++ [a, b, c, d]).length = t.length + 4 := by simp
  rw [hlen] at h1
  rw [hlen]
  have hT : Rd w (.slice (some ⟨bl, off, none⟩) t.length cap) t := by
    have := rd_sub h3 0 t.length cap (by omega) h2 (by simp)
    simpa using this
  have hD : Rd w (.slice (some ⟨bl, off + t.length, none⟩) 4 (cap - t.length)) [a, b, c, d] := by
    have := rd_sub h3 t.length 4 (cap - t.length) (by omega) (by omega) (by simp)
    simpa using this
  have hpos : ∀ j u, (bv t)[j]? = some u → w.cell? ((⟨bl, off, none⟩ : Addr).add j) = some u := (rd_cells hT).2
  unfold maxLen at h2
  have hsl := Crc.sum_lt t
  have HF : Hid ([t].flatten = t) := by show _ = _; simp
  have HB : Hid _ := hbad
  have hba : Below w.heap.size w (w.alloc (.cells #[.slice (some ⟨bl, off, none⟩) t.length cap] 24)) := (Below.refl _ _).alloc (Nat.le_refl _) _
  have hDa := hD.below hba (Nat.le_refl _)
  have hta := ht.below hba (Nat.le_refl _)
  have hLa := rdl_one _ _ _ hT
  have e4 : ((t.length : Int) + 4 - 4) = (t.length : Int) := by omega
  have hne : ¬ cap = t.length := by omega
  have hle : t.length ≤ cap := by omega
  have hle2 : t.length ≤ t.length + 4 := by omega
  have hle3 : (t.length : Int) ≤ (t.length : Int) + 4 := by omega
  have hle4 : t.length + 4 ≤ cap := by omega
  clear h3 hlen hbad hT
  go_enter Tryd.func19, Tryd.ntmps19
  go_wp2
  go_region_with (first | (go_at_call 25; refine (low_any _ _ a b c d (by first | exact hD.drew | exact hDa.drew)).mono ?_; rintro e w1 ⟨rfl, hw1⟩; subst hw1) | (go_at_call 12; refine (sum_any _ _ [t] (by exact hLa.drew) (by exact hta.drew)).mono ?_; rintro e w2 ⟨rfl, hw2⟩; subst hw2; rw [HF.out]) | (go_at_call 14; refine (mask_any (Crc.sum t) hsl _).mono ?_; rintro e w3 ⟨rfl, hw3⟩; subst hw3))
  all_goals
    obtain ⟨W, hW⟩ : ∃ W, w.alloc (.cells #[.slice (some ⟨bl, off, none⟩) t.length cap] 24) = W := ⟨_, rfl⟩
    rw [hW] at hba
    rw [HB.out]
    rw [hW]
    have hsW : w.heap.size < W.heap.size := by rw [← hW]; simp
    clear hW hDa hta hLa hD HF HB hsl
    generalize Crc.low [a, b, c, d] = q1
    generalize Crc.mask (Crc.sum t) = q2
    generalize Crc.sum t = q3
    cases bad
    · go_wp2_with (first | (at_make; refine wpList_make_full _ rfl (.tmp 23) (.tmp 23) 24 rfl w.heap.size 5 i0 (.int .u8 0) 1 Tryd.underlying24 hi hz0 hz1 .i64 .i64 _ _ t.length rfl rfl (by omega) (by omega) (by rw [hz2]; omega) (by simp only [maxLen]; omega) (by exact hba.size) ?_; intro w1 hown hgr; have hb1 := hba.drew.grown hgr (by exact hba.size) (fun k h => by cases h); obtain ⟨cur, hg1, hcl⟩ := row_of hown) | (refine wpList_copy_splice rfl (.tmp 25) (.tmp 26) 24 24 rfl 5 Tryd.underlying24 hsz _ _ _ _ _ _ rfl rfl W.heap.size 0 cur 5 hg1 (bv t) (by rw [bv_length]; exact (Nat.min_eq_right (by omega)).symm) (fun hp => ⟨rfl, ⟨bl, off, none⟩, rfl, fun j u hu => by have := hpos j u hu; rw [hb1.cell (World.block_lt_of_cell? w _ this)]; exact this⟩) (by rw [bv_length, hcl]; omega) (bv_one t) w.heap.size w hb1 (by omega) ?_; intro w2 hg2 hb2) | fail)
      go_ret2
      refine ⟨_, _, rfl, ⟨?_, rfl⟩, hb2⟩
      have hg3 := hg2.out
      have e : splice cur 0 (bv t) = bv t := by simp [splice, bv_length, hcl]
      rw [e] at hg3
      exact ⟨W.heap.size, t.length, _, rfl, by omega, hg3, Nat.le_refl _, by simp only [maxLen]; omega, by simp [bv_length], by simp [List.take_of_length_le, bv_length]⟩
    · go_wp2
      go_ret2
      exact ⟨_, _, rfl, ⟨rfl, rfl⟩, hba.drew⟩

end Go.Proofs.YtgmoedoalbmkpaaDoor
