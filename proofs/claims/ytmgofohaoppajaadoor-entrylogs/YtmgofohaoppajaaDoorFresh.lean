/- atom.fresh. -/
import Derived.Test.YtmgofohaoppajaaDoorWide
namespace Go.Proofs.YtmgofohaoppajaaDoor
open Go.RowKit

/-- fresh: the same bytes in new memory -/
theorem fresh_any (w : World) (v : Value) (l : List UInt8) (hv : Rd w v l) (hl : l.length ≤ 281474976710656) :
    Calls Tryd.prog 63 #[v] w fun e w' => ∃ x, e = .returned x ∧ Own w.heap.size w' x l ∧ Below w.heap.size w w' := by
  obtain ⟨i0, hi, hz0, hz1, hz2⟩ := info_parts info5
  have hsz : (Tryd.prog.info? 5).map (·.size) = some 1 := by rw [hi]; simp [hz1]
  have hh := hv
  obtain ⟨ao, cap, rfl, hcap⟩ : ∃ ao cap, v = .slice ao l.length cap ∧ cap ≤ maxLen := by
    rcases hv with ⟨rfl, rfl⟩ | ⟨b, off, cap, rfl, h1, h2, h3⟩
    · exact ⟨none, 0, rfl, Nat.zero_le _⟩
    · exact ⟨_, cap, rfl, h2⟩
  unfold maxLen at hcap
  have hpos : 0 < (bv l).length → ∃ ad, ao = some ad ∧ ∀ j u, (bv l)[j]? = some u → w.cell? (ad.add j) = some u := by
    intro hp
    rcases hh with ⟨_, rfl⟩ | ⟨b, off, cap', e, h1, h2, h3⟩
    · simp [bv] at hp
    · simp only [Value.slice.injEq] at e
      exact ⟨_, e.1, fun j u hu => by rw [Addr.add_lit]; exact h3 j u hu⟩
  go_enter Tryd.func63, Tryd.ntmps63
  go_wp2_with (first | (at_make; refine wpList_make_full _ rfl (.tmp 5) (.tmp 5) 26 rfl w.heap.size 5 i0 (.int .u8 0) 1 Tryd.underlying26 hi hz0 hz1 .i64 .i64 _ _ l.length rfl rfl (by omega) (by omega) (by rw [hz2]; omega) (by simp only [maxLen]; omega) (Nat.le_refl _) ?_; intro w1 hown hgr; have hb1 := (Below.refl w.heap.size w).grown hgr (Nat.le_refl _) (fun k h => by cases h); obtain ⟨cur, hg1, hcl⟩ := row_of hown) | (refine wpList_copy_splice rfl (.tmp 7) (.tmp 8) 26 26 rfl 5 Tryd.underlying26 hsz _ _ _ _ _ _ rfl rfl w.heap.size 0 cur 5 hg1 (bv l) (by rw [bv_length]; exact (Nat.min_self _).symm) (fun hp => ⟨rfl, by obtain ⟨ad, e, hc⟩ := hpos hp; exact ⟨ad, e, fun j u hu => by have := hc j u hu; rw [hb1.cell (World.block_lt_of_cell? w _ this)]; exact this⟩⟩) (by rw [bv_length, hcl]; omega) (bv_one l) w.heap.size w hb1 (Nat.le_refl _) ?_; intro w2 hg2 hb2))
  go_ret
  refine ⟨_, rfl, ?_, hb2⟩
  have hg3 := hg2.out
  have e : splice cur 0 (bv l) = bv l := by simp [splice, bv_length, hcl]
  rw [e] at hg3
  exact ⟨w.heap.size, l.length, _, rfl, Nat.le_refl _, hg3, Nat.le_refl _, by simp only [maxLen]; omega, by simp [bv_length], by simp [List.take_of_length_le, bv_length]⟩

end Go.Proofs.YtmgofohaoppajaaDoor
