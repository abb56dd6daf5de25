/- seal.Close answers the text with its masked sum behind it, in new memory. -/
import Derived.Test.YtgmoedoalbmkpaaDoorLow
namespace Go.Proofs.YtgmoedoalbmkpaaDoor
open Go.RowKit

theorem rdl_one (w : World) (v : Value) (l : List UInt8) (h : Rd w v l) : RdL (w.alloc (.cells #[v] 24)) (.slice (some ⟨w.heap.size, 0, none⟩) 1 1) [l] := by
  have hb : Below w.heap.size w (w.alloc (.cells #[v] 24)) := (Below.refl _ _).alloc (Nat.le_refl _) _
  refine .inr ⟨w.heap.size, 0, 1, rfl, by simp, by simp [maxLen], fun j hj => ?_⟩
  have : j = 0 := by simp at hj; omega
  subst this
  exact ⟨v, by simp, h.below hb (Nat.le_refl _)⟩

/-- a seal -/
def sealB (l : List UInt8) : List UInt8 := l ++ Crc.four (Crc.mask (Crc.sum l))

/-- a row that is filled behind so many cells, one by one -/
theorem fill4 {w : World} {B g L : Nat} {hd : List Value} {t0 t1 t2 t3 u0 u1 u2 u3 : Value} (hL : hd.length = L) (h : w.ownsRow B 5 1 (.slice (some ⟨g, 0, none⟩) (L + 4) (L + 4)) (L + 4) (hd ++ [t0, t1, t2, t3])) :
    ((((w.setCell ⟨g, L, none⟩ u0).setCell ⟨g, L + 1, none⟩ u1).setCell ⟨g, L + 2, none⟩ u2).setCell ⟨g, L + 3, none⟩ u3).ownsRow B 5 1 (.slice (some ⟨g, 0, none⟩) (L + 4) (L + 4)) (L + 4) (hd ++ [u0, u1, u2, u3]) := by
  have h0 := (h.stored L u0).1
  have h1 := (h0.stored (L + 1) u1).1
  have h2 := (h1.stored (L + 2) u2).1
  have h3 := (h2.stored (L + 3) u3).1
  have e : ((((hd ++ [t0, t1, t2, t3]).set L u0).set (L + 1) u1).set (L + 2) u2).set (L + 3) u3 = hd ++ [u0, u1, u2, u3] := by
    subst hL
    simp [List.set_append_right]
  rw [e] at h3
  exact h3

theorem bytes4 (m : Nat) (h : m < 4294967296) : Value.int .u8 ((m : Int) % 256) = .int .u8 ((UInt8.ofNat (m % 256)).toNat : Int) ∧ Value.int .u8 ((m : Int) / 256 % 256) = .int .u8 ((UInt8.ofNat (m / 256 % 256)).toNat : Int) ∧
    Value.int .u8 ((m : Int) / 65536 % 256) = .int .u8 ((UInt8.ofNat (m / 65536 % 256)).toNat : Int) ∧ Value.int .u8 ((m : Int) / 16777216) = .int .u8 ((UInt8.ofNat (m / 16777216 % 256)).toNat : Int) := by
  refine ⟨?_, ?_, ?_, ?_⟩ <;> congr 1 <;> simp <;> omega

set_option maxHeartbeats 2000000 in
set_option maxRecDepth 20000 in
theorem close_any (w : World) (v : Value) (l : List UInt8) (hv : Rd w v l) (hl : l.length ≤ 1000000) (ht : Tab w) :
    Calls Tryd.prog 18 #[v] w fun e w' => ∃ x, e = .returned x ∧ Own w.heap.size w' x (sealB l) ∧ Below w.heap.size w w' := by
  obtain ⟨i0, hi, hz0, hz1, hz2⟩ := info_parts info5
  have hsz : (Tryd.prog.info? 5).map (·.size) = some 1 := by rw [hi]; simp [hz1]
  obtain ⟨ao, cap, rfl, hcap⟩ : ∃ ao cap, v = .slice ao l.length cap ∧ cap ≤ maxLen := by
    rcases hv with ⟨rfl, rfl⟩ | ⟨b, off, cap, rfl, h1, h2, h3⟩
    · exact ⟨none, 0, rfl, Nat.zero_le _⟩
    · exact ⟨_, cap, rfl, h2⟩
  unfold maxLen at hcap
  have hpos : 0 < (bv l).length → ∃ ad, ao = some ad ∧ ∀ j u, (bv l)[j]? = some u → w.cell? (ad.add j) = some u := by
    intro hp
    rcases hv with ⟨_, rfl⟩ | ⟨b, off, cap', e, h1, h2, h3⟩
    · simp [bv] at hp
    · simp only [Value.slice.injEq] at e
      exact ⟨_, e.1, fun j u hu => by rw [Addr.add_lit]; exact h3 j u hu⟩
  have hsl := Crc.sum_lt l
  have HF : Hid ([l].flatten = l) := by show _ = _; simp
  obtain ⟨m, hm⟩ : ∃ m, Crc.mask (Crc.sum l) = m := ⟨_, rfl⟩
  have hml : m < 4294967296 := by rw [← hm]; exact Crc.mask_lt _
  have HM : Hid (Crc.mask (Crc.sum l) = m) := hm
  have HE : Hid (sealB l = l ++ Crc.four m) := by show _ = _; unfold sealB; rw [hm]
  clear hm
  go_enter Tryd.func18, Tryd.ntmps18
  go_wp2_with (first | (at_make; refine wpList_make_full _ rfl (.tmp 8) (.tmp 8) 24 rfl w.heap.size 5 i0 (.int .u8 0) 1 Tryd.underlying24 hi hz0 hz1 .i64 .i64 _ _ (l.length + 4) rfl rfl (by omega) (by omega) (by rw [hz2]; omega) (by simp only [maxLen]; omega) (Nat.le_refl _) ?_; intro w1 hown hgr; have hb1 := (Below.refl w.heap.size w).grown hgr (Nat.le_refl _) (fun k h => by cases h); obtain ⟨cur, hg1, hcl⟩ := row_of hown) | (refine wpList_copy_splice rfl (.tmp 10) (.tmp 11) 24 24 rfl 5 Tryd.underlying24 hsz _ _ _ _ _ _ rfl rfl w.heap.size 0 cur 5 hg1 (bv l) (by rw [bv_length]; exact (Nat.min_eq_left (by omega)).symm) (fun hp => ⟨rfl, by obtain ⟨ad, e, hc⟩ := hpos hp; exact ⟨ad, e, fun j u hu => by have := hc j u hu; rw [hb1.cell (World.block_lt_of_cell? w _ this)]; exact this⟩⟩) (by rw [bv_length, hcl]; omega) (bv_one l) w.heap.size w hb1 (Nat.le_refl _) ?_; intro w2 hg2 hb2) | fail)
  have hv2 := hv.below hb2 (Nat.le_refl _)
  have ht2 := ht.below hb2 (Nat.le_refl _)
  have hba : Below w2.heap.size w2 (w2.alloc (.cells #[.slice ao l.length cap] 24)) := (Below.refl _ _).alloc (Nat.le_refl _) _
  have hb3 := hb2.trans (hba.mono hb2.size)
  have ht3 := ht2.below hba (Nat.le_refl _)
  have hgs : w.heap.size < w2.heap.size := (Array.getElem?_eq_some_iff.1 hg2.out).1
  obtain ⟨t0, t1, t2, t3, hrow⟩ : ∃ t0 t1 t2 t3, (w2.alloc (.cells #[.slice ao l.length cap] 24)).ownsRow w.heap.size 5 1 (.slice (some ⟨w.heap.size, 0, none⟩) (l.length + 4) (l.length + 4)) (l.length + 4) (bv l ++ [t0, t1, t2, t3]) := by
    have hdl : (cur.drop l.length).length = 4 := by rw [List.length_drop]; omega
    have e : splice cur 0 (bv l) = bv l ++ cur.drop l.length := by simp [splice, bv_length]
    have hgh : (w2.alloc (.cells #[.slice ao l.length cap] 24)).heap[w.heap.size]? = some (.cells (bv l ++ cur.drop l.length).toArray 5 (0, 0)) := by
      rw [Below.heap_alloc _ _ _ hgs, ← e]; exact hg2.out
    match hh : cur.drop l.length, hdl with
    | [t0, t1, t2, t3], _ =>
      rw [hh] at hgh
      refine ⟨t0, t1, t2, t3, by simp [bv_length], .inr ⟨w.heap.size, _, _, rfl, Nat.le_refl _, hgh, Nat.le_refl _, by simp only [maxLen]; omega, by simp [bv_length], ?_⟩⟩
      exact List.take_of_length_le (by simp [bv_length])
  refine (sum_any _ _ [l] (rdl_one _ _ _ hv2) ht3).mono ?_
  rintro e w3 ⟨rfl, hw3⟩
  rw [HF.out]
  obtain ⟨sm, hsm⟩ : ∃ sm, Crc.sum l = sm := ⟨_, rfl⟩
  rw [hsm] at HM hsl
  rw [hsm]
  rw [← hw3] at hrow hb3
  clear hsm hw3 hba ht3 ht2 hv2 hg2 hb2 hg1 hb1 hown hgr hcl HF ht hv hpos hgs
  go_wp2_with (go_at_call 14; refine (mask_any sm hsl _).mono ?_; rintro e w4 ⟨rfl, hw4⟩; rw [HM.out]; subst hw4)
  have f0 := hrow.frozenAt l.length
  have f1 := hrow.frozenAt (l.length + 1)
  have f2 := hrow.frozenAt (l.length + 2)
  have f3 := hrow.frozenAt (l.length + 3)
  obtain ⟨q0, c0⟩ := cell_owned hrow l.length (by omega)
  obtain ⟨q1, c1⟩ := cell_owned hrow (l.length + 1) (by omega)
  obtain ⟨q2, c2⟩ := cell_owned hrow (l.length + 2) (by omega)
  obtain ⟨q3, c3⟩ := cell_owned hrow (l.length + 3) (by omega)
  refine wp_loop_rounds 5 ?_
  rw [rounds_succ]
  go_wp2
  rw [rounds_succ]
  go_wp2
  rw [rounds_succ]
  go_wp2
  rw [rounds_succ]
  go_wp2
  rw [rounds_succ]
  go_wp2
  go_ret
  refine ⟨_, rfl, ?_, (((hb3.setCell (Nat.le_refl _) _).setCell (Nat.le_refl _) _).setCell (Nat.le_refl _) _).setCell (Nat.le_refl _) _⟩
  obtain ⟨e0, e1, e2, e3⟩ := bytes4 m hml
  rw [e0, e1, e2, e3]
  have hfin := fill4 (u0 := .int .u8 ((UInt8.ofNat (m % 256)).toNat : Int)) (u1 := .int .u8 ((UInt8.ofNat (m / 256 % 256)).toNat : Int)) (u2 := .int .u8 ((UInt8.ofNat (m / 65536 % 256)).toNat : Int)) (u3 := .int .u8 ((UInt8.ofNat (m / 16777216 % 256)).toNat : Int)) (bv_length l) hrow
  have el : bv (sealB l) = bv l ++ [.int .u8 ((UInt8.ofNat (m % 256)).toNat : Int), .int .u8 ((UInt8.ofNat (m / 256 % 256)).toNat : Int), .int .u8 ((UInt8.ofNat (m / 65536 % 256)).toNat : Int), .int .u8 ((UInt8.ofNat (m / 16777216 % 256)).toNat : Int)] := by
    rw [HE.out, bv_append]; rfl
  have eln : (sealB l).length = l.length + 4 := by rw [HE.out, List.length_append]; rfl
  refine Own.of_row ?_ (fun e => by cases e)
  rw [eln, el]
  exact hfin

end Go.Proofs.YtgmoedoalbmkpaaDoor
