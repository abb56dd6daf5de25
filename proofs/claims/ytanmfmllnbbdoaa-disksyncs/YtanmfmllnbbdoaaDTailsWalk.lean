/- DiskTails answers true. -/
import Derived.Test.YtanmfmllnbbdoaaStepApp
namespace Go.Proofs.Ytanmfmllnbbdoaa
open Go.RowKit
set_option linter.unusedVariables false

theorem Own.cap_le {B : Nat} {w : World} {g n k : Nat} {l : List UInt8} (h : Own B w (.slice (some ⟨g, 0, none⟩) n k) l) : l.length ≤ k := by
  obtain ⟨g', k', c, e, _, _, h1, h2, _⟩ := h
  cases e
  exact h1

theorem take_cells {w : World} {g n c : Nat} {Q : List UInt8} (h : Rd w (.slice (some ⟨g, 0, none⟩) n c) Q) (m : Nat) : ∀ j u, (bv (Q.take m))[j]? = some u → w.cell? ((⟨g, 0, none⟩ : Addr).add j) = some u := fun j u hu =>
  (rd_cells h).2 j u (by
    rw [← hu]
    unfold bv
    rw [List.map_take, List.getElem?_take, if_pos (by have := (List.getElem?_eq_some_iff.1 hu).1; rw [bv_length, List.length_take] at this; omega)])

set_option maxRecDepth 100000 in
set_option maxHeartbeats 8000000 in
theorem dtails_a (w : World) (vp vq : Value) (lp lq P Q : List UInt8) (keep mx : Int) (t : UInt8) (n pl : Nat) (HP : Hid (lp.take 200 = P)) (HQ : Hid (lq.take 200 = Q)) (hp : Arg w vp lp) (hq : Arg w vq lq)
    (hPl : P.length ≤ 200) (hQl : Q.length ≤ 200) (HT : Hid (tear (P ++ Q) P.length keep t = torn P Q n t)) (hmx : max keep 0 = mx) (hmn0 : min mx (Q.length : Int) = (n : Int)) (HNQ : Hid (n ≤ Q.length)) (HPL : Hid (P.length + n = pl))
    (j : Nat) (b : UInt8) (hc0 : (0 : Int) < (n : Int)) (hc1 : (n : Int) < (Q.length : Int)) (hd0 : 0 < n) (hd1 : n < Q.length) (hjl : (j : Int) < (pl : Int)) (hjl2 : (pl : Int) - 1 = (j : Int)) (hjw1 : wrap64 (j : Int) = (j : Int)) (hjw2 : IntKind.i64.wrap (j : Int) = (j : Int))
    (HBb : Hid (∀ (B : Nat) (w : World) (g k : Nat), Own B w (.slice (some ⟨g, 0, none⟩) (P.length + n) k) (P ++ Q.take n) → w.cell? ⟨g, j, none⟩ = some (.int .u8 (b.toNat : Int)))) (HX : Hid (torn P Q n t = (P ++ Q.take n).set j (b ^^^ t)))
    (hxr : bits BinOp.xor IntKind.u8 (b.toNat : Int) (t.toNat : Int) = ((b ^^^ t).toNat : Int)) :
    Calls Try.prog 5 #[vp, vq, .int .i64 keep, .int .u8 (t.toNat : Int)] w fun e w' => e = .returned (.bool true) ∧ Below w.heap.size w w' := by
  obtain ⟨i0, hi, hz0, hz1, hz2⟩ := info_parts info5
  have HB1 : Hid (P.length ≤ 1099511627776 ∧ Q.length ≤ 1099511627776 ∧ (P.length : Int) ≤ 1048576 ∧ (Q.length : Int) ≤ 1048576) := by show _ ∧ _; omega
  have HB2 : Hid (((([] : List UInt8).length : Nat) : Int) + (P.length : Int) ≤ 5000 ∧ (P.length : Int) + (Q.length : Int) ≤ 5000) := by show _ ∧ _; simp; omega
  have HB4 : Hid (P.length + n ≤ maxLen ∧ (P.length + n) * 1 ≤ 140737488355328 ∧ (bv (Q.take n)).length = n * 1 ∧ (Q.take n).length = n) := by
    have := HNQ.out
    refine ⟨by simp only [maxLen]; omega, by omega, by rw [bv_length, List.length_take]; omega, by rw [List.length_take]; omega⟩
  clear hPl hQl
  go_enter Try.func5, Try.ntmps5
  go_wp2_with fail
  refine (dawake_any w).mono ?_
  rintro e w1 ⟨rfl, hb1⟩
  go_wp2_with fail
  refine (cut_any _ _ lp 200 (hp.below hb1 (Nat.le_refl _)) (by decide)).mono ?_
  rintro e w2 ⟨vp', rfl, op, hb2⟩
  rw [HP.out] at op
  obtain ⟨gp, kp, rfl⟩ := op.shape
  have hB2 := hb1.trans (hb2.mono hb1.size)
  clear hb1 hb2 hp
  go_wp2_with fail
  refine (cut_any _ _ lq 200 (hq.below hB2 (Nat.le_refl _)) (by decide)).mono ?_
  rintro e w3 ⟨vq', rfl, oq, hb3⟩
  rw [HQ.out] at oq
  obtain ⟨gq, kq, rfl⟩ := oq.shape
  have HB3 : Hid (Below w.heap.size w w3) := hB2.trans (hb3.mono hB2.size)
  have op3 := op.below hb3 (Nat.le_refl _)
  clear hb3 hB2 op hq
  have hnkI : (n : Int) ≤ (kq : Int) := Int.ofNat_le.2 (Nat.le_trans HNQ.out oq.cap_le)
  have OP3 : Hid (Own w1.heap.size w3 (.slice (some ⟨gp, 0, none⟩) P.length kp) P) := op3
  have OQ3 : Hid (Own w2.heap.size w3 (.slice (some ⟨gq, 0, none⟩) Q.length kq) Q) := oq
  clear op3 oq
  go_wp2_with fail
  refine (new_k w3 w3 (Below.refl _ _) 5000 (by decide) (by decide)).mono ?_
  rintro e w4 ⟨d, rfl, h4⟩
  go_wp2_with fail
  refine (create_k h4 _ [97] 0 (one 1 5000 [97] [] 0) rfl (by decide) (by decide) (by kernel_rfl)).mono ?_
  rintro e w5 ⟨rfl, h5⟩
  clear h4
  go_wp2_with fail
  refine (copy_any _ _ P (OP3.out.below h5.bel (Nat.le_refl _)).rd.arg HB1.out.1).mono ?_
  rintro e w6 ⟨v6, rfl, o6, hb6⟩
  have h6 := h5.below hb6
  obtain ⟨g6, k6, rfl⟩ := o6.shape
  clear h5 hb6
  go_wp2_with fail
  refine (append_k h6 _ [97] P _ 0 (one 2 5000 [97] ([] ++ P) 0) rfl (by decide) (by decide) o6.rd.arg HB1.out.2.2.1 (one_app 1 5000 [97] [] P 0 HB2.out.1)).mono ?_
  rintro e w7 ⟨rfl, h7⟩
  rw [List.nil_append] at h7
  clear h6 o6
  go_wp2_with fail
  refine (sync_k h7 _ [97] 0 (one 3 5000 [97] P P.length) rfl (by decide) (by simp [one]) (one_sync 2 5000 [97] P 0)).mono ?_
  rintro e w8 ⟨rfl, h8⟩
  clear h7
  go_wp2_with fail
  refine (copy_any _ _ Q (OQ3.out.below h8.bel (Nat.le_refl _)).rd.arg HB1.out.2.1).mono ?_
  rintro e w9 ⟨v9, rfl, o9, hb9⟩
  have h9 := h8.below hb9
  obtain ⟨g9, k9, rfl⟩ := o9.shape
  clear h8 hb9
  go_wp2_with fail
  refine (append_k h9 _ [97] Q _ 0 (one 4 5000 [97] (P ++ Q) P.length) rfl (by decide) (by simp [one]) o9.rd.arg HB1.out.2.2.2 (one_app 3 5000 [97] P Q P.length HB2.out.2)).mono ?_
  rintro e w10 ⟨rfl, h10⟩
  clear h9 o9
  go_wp2_with fail
  refine (crash_k (t := t) h10 ((Below.refl _ _).alloc (Nat.le_refl _) _) [keep] _ (argI_one w3 w10 keep) (by simp [one])).mono ?_
  rintro e w11 ⟨rfl, h11⟩
  obtain ⟨s11, e11⟩ := one_crash 4 5000 [97] P Q keep t
  rw [e11, HT.out] at h11
  clear h10 e11
  go_wp2_with fail
  refine (on_k h11).mono ?_
  rintro e w12 ⟨rfl, rfl⟩
  have OQ : Hid (Own w2.heap.size w12 (.slice (some ⟨gq, 0, none⟩) Q.length kq) Q) := OQ3.out.below h11.bel (Nat.le_refl _)
  have OP : Hid (Own w1.heap.size w12 (.slice (some ⟨gp, 0, none⟩) P.length kp) P) := OP3.out.below h11.bel (Nat.le_refl _)
  have H11 : Hid (Dk w3 w12 d (one 4 5000 [97] (torn P Q n t) s11)) := h11
  have HOff : (one 4 5000 [97] (torn P Q n t) s11).off = false := rfl
  rw [HOff]
  clear h11 HOff
  go_wp2_with fail
  go_region_held3 (fun _ => True) (trivial)
    (first
      | (go_at_call 14; refine (copy_any w12.drew _ P OP.out.rd.arg HB1.out.1).mono ?_; rintro e wx ⟨x, rfl, ox, hbx⟩; obtain ⟨gx, kx, hx⟩ := ox.shape; subst hx; have HBX : Hid (Below w12.heap.size w12 wx) := Below.mk hbx.os hbx.tape hbx.output hbx.size hbx.block; have OX : Hid (Own w12.heap.size wx (.slice (some ⟨gx, 0, none⟩) P.length kx) P) := ox; clear hbx ox)
      | (have hqc := take_cells (OQ.out.below HBX.out (Nat.le_refl _)).rd n
         refine step_app rfl (.tmp 54) (.tmp 57) 31 rfl w12.heap.size 5 i0 (.int .u8 0) 1 1 Try.underlying31 hi hz0 hz1 hz2 rfl (by decide) (.slice (some ⟨gx, 0, none⟩) P.length kx) P.length (bv P) rfl OX.out.row ⟨gq, 0, none⟩ n kq (bv (Q.take n)) rfl HB4.out.2.2.1 hqc (bv_one _) HB4.out.1 HB4.out.2.1 HBX.out.size ?_
         intro v' w13 ho' hgr' hn'
         obtain ⟨gv, kv, hvv, hk1, hk2, ov⟩ := app_shape ho' rfl HB4.out.2.2.2 (fun e => by have := (hn'.1 e).1; cases this)
         subst hvv
         have OV : Hid (Own w12.heap.size w13 (.slice (some ⟨gv, 0, none⟩) (P.length + n) kv) (P ++ Q.take n)) := ov
         have HB13 : Hid (Below w12.heap.size w12 w13) := HBX.out.grown hgr' HBX.out.size (fun k' e => (OX.out.row.lt k' e).1)
         clear ho' hgr' hn' ov hqc hk1 hk2
         have kb : w13.cell? ⟨gv, j, none⟩ = some (.int .u8 (b.toNat : Int)) := HBb.out _ _ _ _ OV.out
         have fb : w13.frozen? ⟨gv, j, none⟩ = false := OV.out.frozen j
         rw [HPL.out])
      | fail)
  all_goals
    go_wp2_with fail
    have OW : Hid (Own w12.heap.size (w13.setCell ⟨gv, j, none⟩ (.int .u8 ((b ^^^ t).toNat : Int))) (.slice (some ⟨gv, 0, none⟩) pl kv) (torn P Q n t)) := by
      have := OV.out.store j (b ^^^ t)
      rw [HX.out, ← HPL.out]
      exact this
    have HB14 : Hid (Below w12.heap.size w12 (w13.setCell ⟨gv, j, none⟩ (.int .u8 ((b ^^^ t).toNat : Int)))) := HB13.out.setCell (p := ⟨gv, j, none⟩) OV.out.lt.1 _
    have D14 := H11.out.below HB14.out
    clear kb fb
    refine (read_k D14 _ [97] 0 (torn P Q n t) rfl (by decide) (one_read 4 5000 [97] _ s11)).mono ?_
    rintro e w14 ⟨a, k, rfl, ox, h14, hb14⟩
    have ow := OW.out.below hb14 (Nat.le_refl _)
    go_wp2_with fail
    refine (same_b _ _ _ _ _ true ox.rd ow.rd (by simp)).mono ?_
    rintro e w15 ⟨rfl, rfl⟩
    go_wp2
    go_ret
    exact ⟨rfl, HB3.out.trans (h14.bel.mono HB3.out.size)⟩

set_option maxRecDepth 100000 in
set_option maxHeartbeats 8000000 in
theorem dtails_b (w : World) (vp vq : Value) (lp lq P Q : List UInt8) (keep mx : Int) (t : UInt8) (n pl : Nat) (HP : Hid (lp.take 200 = P)) (HQ : Hid (lq.take 200 = Q)) (hp : Arg w vp lp) (hq : Arg w vq lq)
    (hPl : P.length ≤ 200) (hQl : Q.length ≤ 200) (HT : Hid (tear (P ++ Q) P.length keep t = torn P Q n t)) (hmx : max keep 0 = mx) (hmn0 : min mx (Q.length : Int) = (n : Int)) (HNQ : Hid (n ≤ Q.length)) (HPL : Hid (P.length + n = pl))
    (hc0 : (0 : Int) < (n : Int)) (hc1 : ¬ (n : Int) < (Q.length : Int)) (hd0 : 0 < n) (hd1 : ¬ n < Q.length) (HX : Hid (torn P Q n t = P ++ Q.take n)) :
    Calls Try.prog 5 #[vp, vq, .int .i64 keep, .int .u8 (t.toNat : Int)] w fun e w' => e = .returned (.bool true) ∧ Below w.heap.size w w' := by
  obtain ⟨i0, hi, hz0, hz1, hz2⟩ := info_parts info5
  have HB1 : Hid (P.length ≤ 1099511627776 ∧ Q.length ≤ 1099511627776 ∧ (P.length : Int) ≤ 1048576 ∧ (Q.length : Int) ≤ 1048576) := by show _ ∧ _; omega
  have HB2 : Hid (((([] : List UInt8).length : Nat) : Int) + (P.length : Int) ≤ 5000 ∧ (P.length : Int) + (Q.length : Int) ≤ 5000) := by show _ ∧ _; simp; omega
  have HB4 : Hid (P.length + n ≤ maxLen ∧ (P.length + n) * 1 ≤ 140737488355328 ∧ (bv (Q.take n)).length = n * 1 ∧ (Q.take n).length = n) := by
    have := HNQ.out
    refine ⟨by simp only [maxLen]; omega, by omega, by rw [bv_length, List.length_take]; omega, by rw [List.length_take]; omega⟩
  clear hPl hQl
  go_enter Try.func5, Try.ntmps5
  go_wp2_with fail
  refine (dawake_any w).mono ?_
  rintro e w1 ⟨rfl, hb1⟩
  go_wp2_with fail
  refine (cut_any _ _ lp 200 (hp.below hb1 (Nat.le_refl _)) (by decide)).mono ?_
  rintro e w2 ⟨vp', rfl, op, hb2⟩
  rw [HP.out] at op
  obtain ⟨gp, kp, rfl⟩ := op.shape
  have hB2 := hb1.trans (hb2.mono hb1.size)
  clear hb1 hb2 hp
  go_wp2_with fail
  refine (cut_any _ _ lq 200 (hq.below hB2 (Nat.le_refl _)) (by decide)).mono ?_
  rintro e w3 ⟨vq', rfl, oq, hb3⟩
  rw [HQ.out] at oq
  obtain ⟨gq, kq, rfl⟩ := oq.shape
  have HB3 : Hid (Below w.heap.size w w3) := hB2.trans (hb3.mono hB2.size)
  have op3 := op.below hb3 (Nat.le_refl _)
  clear hb3 hB2 op hq
  have hnkI : (n : Int) ≤ (kq : Int) := Int.ofNat_le.2 (Nat.le_trans HNQ.out oq.cap_le)
  have OP3 : Hid (Own w1.heap.size w3 (.slice (some ⟨gp, 0, none⟩) P.length kp) P) := op3
  have OQ3 : Hid (Own w2.heap.size w3 (.slice (some ⟨gq, 0, none⟩) Q.length kq) Q) := oq
  clear op3 oq
  go_wp2_with fail
  refine (new_k w3 w3 (Below.refl _ _) 5000 (by decide) (by decide)).mono ?_
  rintro e w4 ⟨d, rfl, h4⟩
  go_wp2_with fail
  refine (create_k h4 _ [97] 0 (one 1 5000 [97] [] 0) rfl (by decide) (by decide) (by kernel_rfl)).mono ?_
  rintro e w5 ⟨rfl, h5⟩
  clear h4
  go_wp2_with fail
  refine (copy_any _ _ P (OP3.out.below h5.bel (Nat.le_refl _)).rd.arg HB1.out.1).mono ?_
  rintro e w6 ⟨v6, rfl, o6, hb6⟩
  have h6 := h5.below hb6
  obtain ⟨g6, k6, rfl⟩ := o6.shape
  clear h5 hb6
  go_wp2_with fail
  refine (append_k h6 _ [97] P _ 0 (one 2 5000 [97] ([] ++ P) 0) rfl (by decide) (by decide) o6.rd.arg HB1.out.2.2.1 (one_app 1 5000 [97] [] P 0 HB2.out.1)).mono ?_
  rintro e w7 ⟨rfl, h7⟩
  rw [List.nil_append] at h7
  clear h6 o6
  go_wp2_with fail
  refine (sync_k h7 _ [97] 0 (one 3 5000 [97] P P.length) rfl (by decide) (by simp [one]) (one_sync 2 5000 [97] P 0)).mono ?_
  rintro e w8 ⟨rfl, h8⟩
  clear h7
  go_wp2_with fail
  refine (copy_any _ _ Q (OQ3.out.below h8.bel (Nat.le_refl _)).rd.arg HB1.out.2.1).mono ?_
  rintro e w9 ⟨v9, rfl, o9, hb9⟩
  have h9 := h8.below hb9
  obtain ⟨g9, k9, rfl⟩ := o9.shape
  clear h8 hb9
  go_wp2_with fail
  refine (append_k h9 _ [97] Q _ 0 (one 4 5000 [97] (P ++ Q) P.length) rfl (by decide) (by simp [one]) o9.rd.arg HB1.out.2.2.2 (one_app 3 5000 [97] P Q P.length HB2.out.2)).mono ?_
  rintro e w10 ⟨rfl, h10⟩
  clear h9 o9
  go_wp2_with fail
  refine (crash_k (t := t) h10 ((Below.refl _ _).alloc (Nat.le_refl _) _) [keep] _ (argI_one w3 w10 keep) (by simp [one])).mono ?_
  rintro e w11 ⟨rfl, h11⟩
  obtain ⟨s11, e11⟩ := one_crash 4 5000 [97] P Q keep t
  rw [e11, HT.out] at h11
  clear h10 e11
  go_wp2_with fail
  refine (on_k h11).mono ?_
  rintro e w12 ⟨rfl, rfl⟩
  have OQ : Hid (Own w2.heap.size w12 (.slice (some ⟨gq, 0, none⟩) Q.length kq) Q) := OQ3.out.below h11.bel (Nat.le_refl _)
  have OP : Hid (Own w1.heap.size w12 (.slice (some ⟨gp, 0, none⟩) P.length kp) P) := OP3.out.below h11.bel (Nat.le_refl _)
  have H11 : Hid (Dk w3 w12 d (one 4 5000 [97] (torn P Q n t) s11)) := h11
  have HOff : (one 4 5000 [97] (torn P Q n t) s11).off = false := rfl
  rw [HOff]
  clear h11 HOff
  go_wp2_with fail
  go_region_held3 (fun _ => True) (trivial)
    (first
      | (go_at_call 14; refine (copy_any w12.drew _ P OP.out.rd.arg HB1.out.1).mono ?_; rintro e wx ⟨x, rfl, ox, hbx⟩; obtain ⟨gx, kx, hx⟩ := ox.shape; subst hx; have HBX : Hid (Below w12.heap.size w12 wx) := Below.mk hbx.os hbx.tape hbx.output hbx.size hbx.block; have OX : Hid (Own w12.heap.size wx (.slice (some ⟨gx, 0, none⟩) P.length kx) P) := ox; clear hbx ox)
      | (have hqc := take_cells (OQ.out.below HBX.out (Nat.le_refl _)).rd n
         refine step_app rfl (.tmp 54) (.tmp 57) 31 rfl w12.heap.size 5 i0 (.int .u8 0) 1 1 Try.underlying31 hi hz0 hz1 hz2 rfl (by decide) (.slice (some ⟨gx, 0, none⟩) P.length kx) P.length (bv P) rfl OX.out.row ⟨gq, 0, none⟩ n kq (bv (Q.take n)) rfl HB4.out.2.2.1 hqc (bv_one _) HB4.out.1 HB4.out.2.1 HBX.out.size ?_
         intro v' w13 ho' hgr' hn'
         obtain ⟨gv, kv, hvv, hk1, hk2, ov⟩ := app_shape ho' rfl HB4.out.2.2.2 (fun e => by have := (hn'.1 e).1; cases this)
         subst hvv
         have OV : Hid (Own w12.heap.size w13 (.slice (some ⟨gv, 0, none⟩) (P.length + n) kv) (P ++ Q.take n)) := ov
         have HB13 : Hid (Below w12.heap.size w12 w13) := HBX.out.grown hgr' HBX.out.size (fun k' e => (OX.out.row.lt k' e).1)
         clear ho' hgr' hn' ov hqc hk1 hk2
         rw [HPL.out])
      | fail)
  all_goals
    go_wp2_with fail
    have OW : Hid (Own w12.heap.size w13 (.slice (some ⟨gv, 0, none⟩) pl kv) (torn P Q n t)) := by
      rw [HX.out, ← HPL.out]
      exact OV.out
    have D14 := H11.out.below HB13.out
    refine (read_k D14 _ [97] 0 (torn P Q n t) rfl (by decide) (one_read 4 5000 [97] _ s11)).mono ?_
    rintro e w14 ⟨a, k, rfl, ox, h14, hb14⟩
    have ow := OW.out.below hb14 (Nat.le_refl _)
    go_wp2_with fail
    refine (same_b _ _ _ _ _ true ox.rd ow.rd (by simp)).mono ?_
    rintro e w15 ⟨rfl, rfl⟩
    go_wp2
    go_ret
    exact ⟨rfl, HB3.out.trans (h14.bel.mono HB3.out.size)⟩

set_option maxRecDepth 100000 in
set_option maxHeartbeats 8000000 in
theorem dtails_c (w : World) (vp vq : Value) (lp lq P Q : List UInt8) (keep mx : Int) (t : UInt8) (n pl : Nat) (HP : Hid (lp.take 200 = P)) (HQ : Hid (lq.take 200 = Q)) (hp : Arg w vp lp) (hq : Arg w vq lq)
    (hPl : P.length ≤ 200) (hQl : Q.length ≤ 200) (HT : Hid (tear (P ++ Q) P.length keep t = torn P Q n t)) (hmx : max keep 0 = mx) (hmn0 : min mx (Q.length : Int) = (n : Int)) (HNQ : Hid (n ≤ Q.length)) (HPL : Hid (P.length + n = pl))
    (hc0 : ¬ (0 : Int) < (n : Int)) (hd0 : ¬ 0 < n) (HX : Hid (torn P Q n t = P ++ Q.take n)) :
    Calls Try.prog 5 #[vp, vq, .int .i64 keep, .int .u8 (t.toNat : Int)] w fun e w' => e = .returned (.bool true) ∧ Below w.heap.size w w' := by
  obtain ⟨i0, hi, hz0, hz1, hz2⟩ := info_parts info5
  have HB1 : Hid (P.length ≤ 1099511627776 ∧ Q.length ≤ 1099511627776 ∧ (P.length : Int) ≤ 1048576 ∧ (Q.length : Int) ≤ 1048576) := by show _ ∧ _; omega
  have HB2 : Hid (((([] : List UInt8).length : Nat) : Int) + (P.length : Int) ≤ 5000 ∧ (P.length : Int) + (Q.length : Int) ≤ 5000) := by show _ ∧ _; simp; omega
  have HB4 : Hid (P.length + n ≤ maxLen ∧ (P.length + n) * 1 ≤ 140737488355328 ∧ (bv (Q.take n)).length = n * 1 ∧ (Q.take n).length = n) := by
    have := HNQ.out
    refine ⟨by simp only [maxLen]; omega, by omega, by rw [bv_length, List.length_take]; omega, by rw [List.length_take]; omega⟩
  clear hPl hQl
  go_enter Try.func5, Try.ntmps5
  go_wp2_with fail
  refine (dawake_any w).mono ?_
  rintro e w1 ⟨rfl, hb1⟩
  go_wp2_with fail
  refine (cut_any _ _ lp 200 (hp.below hb1 (Nat.le_refl _)) (by decide)).mono ?_
  rintro e w2 ⟨vp', rfl, op, hb2⟩
  rw [HP.out] at op
  obtain ⟨gp, kp, rfl⟩ := op.shape
  have hB2 := hb1.trans (hb2.mono hb1.size)
  clear hb1 hb2 hp
  go_wp2_with fail
  refine (cut_any _ _ lq 200 (hq.below hB2 (Nat.le_refl _)) (by decide)).mono ?_
  rintro e w3 ⟨vq', rfl, oq, hb3⟩
  rw [HQ.out] at oq
  obtain ⟨gq, kq, rfl⟩ := oq.shape
  have HB3 : Hid (Below w.heap.size w w3) := hB2.trans (hb3.mono hB2.size)
  have op3 := op.below hb3 (Nat.le_refl _)
  clear hb3 hB2 op hq
  have hnkI : (n : Int) ≤ (kq : Int) := Int.ofNat_le.2 (Nat.le_trans HNQ.out oq.cap_le)
  have OP3 : Hid (Own w1.heap.size w3 (.slice (some ⟨gp, 0, none⟩) P.length kp) P) := op3
  have OQ3 : Hid (Own w2.heap.size w3 (.slice (some ⟨gq, 0, none⟩) Q.length kq) Q) := oq
  clear op3 oq
  go_wp2_with fail
  refine (new_k w3 w3 (Below.refl _ _) 5000 (by decide) (by decide)).mono ?_
  rintro e w4 ⟨d, rfl, h4⟩
  go_wp2_with fail
  refine (create_k h4 _ [97] 0 (one 1 5000 [97] [] 0) rfl (by decide) (by decide) (by kernel_rfl)).mono ?_
  rintro e w5 ⟨rfl, h5⟩
  clear h4
  go_wp2_with fail
  refine (copy_any _ _ P (OP3.out.below h5.bel (Nat.le_refl _)).rd.arg HB1.out.1).mono ?_
  rintro e w6 ⟨v6, rfl, o6, hb6⟩
  have h6 := h5.below hb6
  obtain ⟨g6, k6, rfl⟩ := o6.shape
  clear h5 hb6
  go_wp2_with fail
  refine (append_k h6 _ [97] P _ 0 (one 2 5000 [97] ([] ++ P) 0) rfl (by decide) (by decide) o6.rd.arg HB1.out.2.2.1 (one_app 1 5000 [97] [] P 0 HB2.out.1)).mono ?_
  rintro e w7 ⟨rfl, h7⟩
  rw [List.nil_append] at h7
  clear h6 o6
  go_wp2_with fail
  refine (sync_k h7 _ [97] 0 (one 3 5000 [97] P P.length) rfl (by decide) (by simp [one]) (one_sync 2 5000 [97] P 0)).mono ?_
  rintro e w8 ⟨rfl, h8⟩
  clear h7
  go_wp2_with fail
  refine (copy_any _ _ Q (OQ3.out.below h8.bel (Nat.le_refl _)).rd.arg HB1.out.2.1).mono ?_
  rintro e w9 ⟨v9, rfl, o9, hb9⟩
  have h9 := h8.below hb9
  obtain ⟨g9, k9, rfl⟩ := o9.shape
  clear h8 hb9
  go_wp2_with fail
  refine (append_k h9 _ [97] Q _ 0 (one 4 5000 [97] (P ++ Q) P.length) rfl (by decide) (by simp [one]) o9.rd.arg HB1.out.2.2.2 (one_app 3 5000 [97] P Q P.length HB2.out.2)).mono ?_
  rintro e w10 ⟨rfl, h10⟩
  clear h9 o9
  go_wp2_with fail
  refine (crash_k (t := t) h10 ((Below.refl _ _).alloc (Nat.le_refl _) _) [keep] _ (argI_one w3 w10 keep) (by simp [one])).mono ?_
  rintro e w11 ⟨rfl, h11⟩
  obtain ⟨s11, e11⟩ := one_crash 4 5000 [97] P Q keep t
  rw [e11, HT.out] at h11
  clear h10 e11
  go_wp2_with fail
  refine (on_k h11).mono ?_
  rintro e w12 ⟨rfl, rfl⟩
  have OQ : Hid (Own w2.heap.size w12 (.slice (some ⟨gq, 0, none⟩) Q.length kq) Q) := OQ3.out.below h11.bel (Nat.le_refl _)
  have OP : Hid (Own w1.heap.size w12 (.slice (some ⟨gp, 0, none⟩) P.length kp) P) := OP3.out.below h11.bel (Nat.le_refl _)
  have H11 : Hid (Dk w3 w12 d (one 4 5000 [97] (torn P Q n t) s11)) := h11
  have HOff : (one 4 5000 [97] (torn P Q n t) s11).off = false := rfl
  rw [HOff]
  clear h11 HOff
  go_wp2_with fail
  go_region_held3 (fun _ => True) (trivial)
    (first
      | (go_at_call 14; refine (copy_any w12.drew _ P OP.out.rd.arg HB1.out.1).mono ?_; rintro e wx ⟨x, rfl, ox, hbx⟩; obtain ⟨gx, kx, hx⟩ := ox.shape; subst hx; have HBX : Hid (Below w12.heap.size w12 wx) := Below.mk hbx.os hbx.tape hbx.output hbx.size hbx.block; have OX : Hid (Own w12.heap.size wx (.slice (some ⟨gx, 0, none⟩) P.length kx) P) := ox; clear hbx ox)
      | (have hqc := take_cells (OQ.out.below HBX.out (Nat.le_refl _)).rd n
         refine step_app rfl (.tmp 54) (.tmp 57) 31 rfl w12.heap.size 5 i0 (.int .u8 0) 1 1 Try.underlying31 hi hz0 hz1 hz2 rfl (by decide) (.slice (some ⟨gx, 0, none⟩) P.length kx) P.length (bv P) rfl OX.out.row ⟨gq, 0, none⟩ n kq (bv (Q.take n)) rfl HB4.out.2.2.1 hqc (bv_one _) HB4.out.1 HB4.out.2.1 HBX.out.size ?_
         intro v' w13 ho' hgr' hn'
         obtain ⟨gv, kv, hvv, hk1, hk2, ov⟩ := app_shape ho' rfl HB4.out.2.2.2 (fun e => by have := (hn'.1 e).1; cases this)
         subst hvv
         have OV : Hid (Own w12.heap.size w13 (.slice (some ⟨gv, 0, none⟩) (P.length + n) kv) (P ++ Q.take n)) := ov
         have HB13 : Hid (Below w12.heap.size w12 w13) := HBX.out.grown hgr' HBX.out.size (fun k' e => (OX.out.row.lt k' e).1)
         clear ho' hgr' hn' ov hqc hk1 hk2
         rw [HPL.out])
      | fail)
  all_goals
    go_wp2_with fail
    have OW : Hid (Own w12.heap.size w13 (.slice (some ⟨gv, 0, none⟩) pl kv) (torn P Q n t)) := by
      rw [HX.out, ← HPL.out]
      exact OV.out
    have D14 := H11.out.below HB13.out
    refine (read_k D14 _ [97] 0 (torn P Q n t) rfl (by decide) (one_read 4 5000 [97] _ s11)).mono ?_
    rintro e w14 ⟨a, k, rfl, ox, h14, hb14⟩
    have ow := OW.out.below hb14 (Nat.le_refl _)
    go_wp2_with fail
    refine (same_b _ _ _ _ _ true ox.rd ow.rd (by simp)).mono ?_
    rintro e w15 ⟨rfl, rfl⟩
    go_wp2
    go_ret
    exact ⟨rfl, HB3.out.trans (h14.bel.mono HB3.out.size)⟩

theorem diskTails_walk (a0 : Option Addr) (len0 cap0 : Nat) (z0 : List Int) (a1 : Option Addr) (len1 cap1 : Nat) (z1 : List Int) (keep : Int) (k3 : Int) (w : World) (w0 : IsRow .u8 w a0 len0 cap0 z0) (w1 : IsRow .u8 w a1 len1 cap1 z1) (_w2 : (Lit.int .i64 keep).wf = true) (w3 : (Lit.int .u8 k3).wf = true) :
    Calls Try.prog 5 #[.slice a0 len0 cap0, .slice a1 len1 cap1, .int .i64 keep, .int .u8 k3] w fun e w' => e = .returned (.bool true) ∧ Below w.heap.size w w' := by
  have hb := bounds_u8 w3
  have hk3 : k3 = ((UInt8.ofNat k3.toNat).toNat : Int) := by simp; omega
  rw [hk3]
  generalize UInt8.ofNat k3.toNat = t
  clear hk3 hb w3
  obtain ⟨P, HP⟩ : ∃ P, (argB len0 z0).take 200 = P := ⟨_, rfl⟩
  obtain ⟨Q, HQ⟩ : ∃ Q, (argB len1 z1).take 200 = Q := ⟨_, rfl⟩
  have hPl : P.length ≤ 200 := by rw [← HP]; exact List.length_take_le _ _
  have hQl : Q.length ≤ 200 := by rw [← HQ]; exact List.length_take_le _ _
  obtain ⟨n, hmn⟩ : ∃ n : Nat, (min (max keep 0) (Q.length : Int)) = (n : Int) := ⟨(min (max keep 0) (Q.length : Int)).toNat, by omega⟩
  have HT := tear_torn P Q keep t n hmn
  have hnq : n ≤ Q.length := by omega
  by_cases hc0 : 0 < n
  · by_cases hc1 : n < Q.length
    · have hl : P.length + n - 1 < (P ++ Q.take n).length := by rw [List.length_append, List.length_take]; omega
      refine dtails_a w _ _ _ _ P Q keep _ t n _ HP HQ (arg_of w0) (arg_of w1) hPl hQl HT rfl hmn hnq rfl (P.length + n - 1) ((P ++ Q.take n).getD (P.length + n - 1) 0) (by omega) (by omega) hc0 hc1 (by omega) (by omega) (wrap64_of (by omega) (by omega)) (wrapi_of (by omega) (by omega)) ?_ ?_ (xor_u8 _ _)
      · intro B w g k h
        rw [h.cell _ hl, List.getD_eq_getElem?_getD, List.getElem?_eq_getElem hl]
        rfl
      · show _ = _
        unfold torn
        rw [if_pos ⟨hc0, hc1⟩]
    · exact dtails_b w _ _ _ _ P Q keep _ t n _ HP HQ (arg_of w0) (arg_of w1) hPl hQl HT rfl hmn hnq rfl (by omega) (by omega) hc0 hc1 (by show _ = _; unfold torn; rw [if_neg (fun h => hc1 h.2)])
  · exact dtails_c w _ _ _ _ P Q keep _ t n _ HP HQ (arg_of w0) (arg_of w1) hPl hQl HT rfl hmn hnq rfl (by omega) hc0 (by show _ = _; unfold torn; rw [if_neg (fun h => hc0 h.1)])

end Go.Proofs.Ytanmfmllnbbdoaa
