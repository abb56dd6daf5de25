/- bartizanlaw06's awake: the document's examples. -/
import Derived.Test.YtppoimmoohfbnaaDoorReelFrame
import Derived.Lib.SmallJoins
namespace Go.Proofs.YtppoimmoohfbnaaDoor
open Go.RowKit
set_option linter.unusedVariables false

theorem rex1 : ∃ P, frameB 0 [97, 98] = P ∧ P.length = 9 ∧ P.drop 4 = [2, 0, 1, 97, 98] := by
  refine ⟨pcB 1 [97, 98], ?_, rfl, rfl⟩
  have h0 : gapN 0 = 0 := by decide
  unfold frameB
  rw [h0]
  have h1 : leftN (0 + 0) - 7 = 57 := by decide
  rw [h1]
  unfold frF
  rw [if_pos (by decide)]
  rfl

theorem rex2 : ∃ P, frameB 60 [120] = P ∧ P.length = 12 ∧ P.take 4 = [0, 0, 0, 0] := by
  refine ⟨[0, 0, 0, 0] ++ pcB 1 [120], ?_, rfl, rfl⟩
  have h0 : gapN 60 = 4 := by decide
  unfold frameB
  rw [h0]
  have h1 : leftN (60 + 4) - 7 = 57 := by decide
  rw [h1]
  unfold frF
  rw [if_pos (by decide)]
  rfl

theorem Own.caps {B : Nat} {w : World} {g n k : Nat} {l : List UInt8} (h : Own B w (.slice (some ⟨g, 0, none⟩) n k) l) : l.length ≤ k ∧ k ≤ maxLen := by
  obtain ⟨g', k', c, e, _, _, h1, h2, _⟩ := h
  cases e
  exact ⟨h1, h2⟩

theorem Own.cellsAt {B : Nat} {w : World} {g n k : Nat} {l : List UInt8} (h : Own B w (.slice (some ⟨g, 0, none⟩) n k) l) : ∀ j u, (bv l)[j]? = some u → w.cell? ⟨g, 0 + j, none⟩ = some u := fun j u hu => by
  have := (rd_cells h.rd).2 j u hu
  rwa [Addr.add_lit] at this

theorem zeros_rd {w : World} : Rd (w.alloc (.cells #[.int .u8 0, .int .u8 0, .int .u8 0, .int .u8 0] 5)) (.slice (some ⟨w.heap.size, 0, none⟩) 4 4) [0, 0, 0, 0] := rd_lit w [0, 0, 0, 0] (by simp [maxLen]) _ rfl

set_option maxRecDepth 100000 in
set_option maxHeartbeats 4000000 in
theorem rawake_any (w : World) (hT : Tab w) (h0 : 0 < w.heap.size) : Calls Tryd.prog 10 #[] w fun e w' => e = .returned (.bool true) ∧ Below w.heap.size w w' := by
  obtain ⟨P, hP, hP9, hP4⟩ := rex1
  obtain ⟨Q, hQ, hQ12, hQ4⟩ := rex2
  have HP : Hid (frameB 0 [97, 98] = P ∧ P.length = 9 ∧ P.drop 4 = [2, 0, 1, 97, 98]) := ⟨hP, hP9, hP4⟩
  have HQ : Hid (frameB 60 [120] = Q ∧ Q.length = 12 ∧ Q.take 4 = [0, 0, 0, 0]) := ⟨hQ, hQ12, hQ4⟩
  clear hP hP9 hP4 hQ hQ12 hQ4
  have hb1 : Below w.heap.size w (w.alloc (.cells #[.int .u8 97, .int .u8 98] 5 (2, 3))) := (Below.refl _ _).alloc (Nat.le_refl _) _
  have r1 := rd_mark w [97, 98] (by simp [maxLen]) (2, 3) #[.int .u8 97, .int .u8 98] rfl
  have k1 := Joins.run_convert_bytes_const_at (P := Tryd.prog) w 22 5 #[.int .u8 97, .int .u8 98] 2 2 w.heap.size rfl Tryd.underlying22 Tryd.underlying5
  have f1 := frame_any _ 0 _ [97, 98] r1 (fun b h => by simp [Value.ownBlock] at h; simp; omega) (by decide) (hT.below hb1 (Nat.le_refl _)) (by simp)
  rw [HP.out.1, HP.out.2.1] at f1
  have HB1 : Hid _ := hb1
  have HT : Hid (Tab w) := hT
  have H0 : Hid (0 < w.heap.size) := h0
  clear hb1 r1 hT h0
  go_enter Tryd.func10, Tryd.ntmps10
  go_wp2_with fail
  refine f1.mono ?_
  rintro e w1 ⟨gp, cp, rfl, op, hbp⟩
  have HBp : Hid (Below w.heap.size w w1) := HB1.out.trans (hbp.mono HB1.out.size)
  have OP : Hid (Own w.heap.size w1 (.slice (some ⟨gp, 0, none⟩) 9 cp) P) := op.mono HB1.out.size
  clear f1 k1 op hbp
  have hb2 : Below w1.heap.size w1 (w1.alloc (.cells #[.int .u8 120] 5 (1, 2))) := (Below.refl _ _).alloc (Nat.le_refl _) _
  have r2 := rd_mark w1 [120] (by simp [maxLen]) (1, 2) #[.int .u8 120] rfl
  have k2 := Joins.run_convert_bytes_const_at (P := Tryd.prog) w1 22 5 #[.int .u8 120] 1 1 w1.heap.size rfl Tryd.underlying22 Tryd.underlying5
  have f2 := frame_any _ 60 _ [120] r2 (fun b h => by simp [Value.ownBlock] at h; simp; omega) (by decide) ((HT.out.below HBp.out (Nat.le_refl _)).below hb2 (Nat.le_refl _)) (by simp)
  rw [HQ.out.1, HQ.out.2.1] at f2
  have HB2 : Hid _ := hb2
  clear hb2 r2
  go_wp2_with fail
  refine f2.mono ?_
  rintro e w2 ⟨gq, cq, rfl, oq, hbq⟩
  have hbb := HB2.out.trans (hbq.mono HB2.out.size)
  have HBq : Hid (Below w.heap.size w w2) := HBp.out.trans (hbb.mono HBp.out.size)
  have op2 := OP.out.below hbb (Nat.le_refl _)
  obtain ⟨cp1, cp2⟩ := op2.caps
  obtain ⟨cq1, cq2⟩ := oq.caps
  rw [HP.out.2.1] at cp1
  rw [HQ.out.2.1] at cq1
  have hcp : (4 : Int) ≤ (cp : Int) := by omega
  have hcp9 : (9 : Int) ≤ (cp : Int) := by omega
  have hcpn : ¬ cp = 4 := by omega
  have hcq : (4 : Int) ≤ (cq : Int) := by omega
  have RP : Hid (Rd w2 (.slice (some ⟨gp, 4, none⟩) 5 (cp - 4)) [2, 0, 1, 97, 98]) := by
    have := rd_sub op2.cellsAt 4 5 (cp - 4) (by omega) (by omega) (by rw [HP.out.2.1]; decide)
    rw [HP.out.2.2, Nat.zero_add] at this
    exact this
  have RQ : Hid (Rd w2 (.slice (some ⟨gq, 0, none⟩) 4 cq) [0, 0, 0, 0]) := by
    have := rd_sub oq.cellsAt 0 4 cq (by omega) cq2 (by rw [HQ.out.2.1]; decide)
    rw [List.drop_zero, HQ.out.2.2] at this
    exact this
  clear f2 k2 oq hbq hbb op2 cp1 cp2 cq1 cq2
  obtain ⟨i0, hi, hz0, hz1, hz2⟩ := info_parts info5
  have hbl : Below w2.heap.size w2 (w2.alloc (.cells #[.int .u8 2, .int .u8 0, .int .u8 1, .int .u8 97, .int .u8 98] 5)).drew := ((Below.refl w2.heap.size w2).alloc (Nat.le_refl _) _).drew
  have HRL : Hid (Rd ((w2.alloc (.cells #[.int .u8 2, .int .u8 0, .int .u8 1, .int .u8 97, .int .u8 98] 5)).drew) (.slice (some ⟨w2.heap.size, 0, none⟩) 5 5) [2, 0, 1, 97, 98]) := (rd_lit w2 [2, 0, 1, 97, 98] (by simp [maxLen]) _ rfl).drew
  have HRP2 : Hid (Rd ((w2.alloc (.cells #[.int .u8 2, .int .u8 0, .int .u8 1, .int .u8 97, .int .u8 98] 5)).drew) (.slice (some ⟨gp, 4, none⟩) 5 (cp - 4)) [2, 0, 1, 97, 98]) := RP.out.below hbl (Nat.le_refl _)
  obtain ⟨wz, hmk, hoz, hgz⟩ := run_make_full (P := Tryd.prog) ((w2.alloc (.cells #[.int .u8 2, .int .u8 0, .int .u8 1, .int .u8 97, .int .u8 98] 5)).drew) (w2.heap.size + 1) 22 5 i0 (.int .u8 0) 1 Tryd.underlying22 hi hz0 hz1 .i64 .i64 4 (by rw [hz2]; decide) (by unfold maxLen; decide) (by show _ ≤ (w2.alloc (.cells #[.int .u8 2, .int .u8 0, .int .u8 1, .int .u8 97, .int .u8 98] 5)).heap.size; simp)
  have hsz : ((w2.alloc (.cells #[.int .u8 2, .int .u8 0, .int .u8 1, .int .u8 97, .int .u8 98] 5)).drew).heap.size = w2.heap.size + 1 := by show (w2.alloc (.cells #[.int .u8 2, .int .u8 0, .int .u8 1, .int .u8 97, .int .u8 98] 5)).heap.size = _; simp
  have h44 : ((4 : Nat) : Int) = 4 := rfl
  rw [hsz, h44] at hmk
  rw [hsz] at hoz
  have HRZ : Hid (Rd wz (.slice (some ⟨w2.heap.size + 1, 0, none⟩) 4 4) [0, 0, 0, 0]) := by
    have := (zeros_of hoz).rd
    exact this
  have hbz := hbl.trans (((Below.refl _ _).grown hgz (Nat.le_refl _) (fun k' e => by cases e)).mono hbl.size)
  have HRQ : Hid (Rd wz (.slice (some ⟨gq, 0, none⟩) 4 cq) [0, 0, 0, 0]) := RQ.out.below hbz (Nat.le_refl _)
  have HBZ : Hid (Below w.heap.size w wz) := HBq.out.trans (hbz.mono HBq.out.size)
  clear hbl hoz hgz hsz h44 hbz hi hz0 hz1 hz2
  go_wp2_with fail
  go_region_held3 (fun _ => True) (trivial)
    (first
      | (go_at_call 15; refine (same_b _ _ _ [2, 0, 1, 97, 98] [2, 0, 1, 97, 98] true HRP2.out HRL.out (by decide)).mono ?_; rintro e wx ⟨rfl, hwx⟩; subst hwx; clear HRP2 HRL)
      | (go_at_call 15; refine (same_b _ _ _ [0, 0, 0, 0] [0, 0, 0, 0] true HRQ.out HRZ.out (by decide)).mono ?_; rintro e wx ⟨rfl, hwx⟩; subst hwx)
      | fail)
  all_goals
    go_wp2
    go_ret
    exact ⟨rfl, HBZ.out⟩

end Go.Proofs.YtppoimmoohfbnaaDoor
