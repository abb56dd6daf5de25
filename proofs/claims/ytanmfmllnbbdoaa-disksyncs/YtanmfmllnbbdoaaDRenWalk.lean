/- DiskRenames answers true. -/
import Derived.Test.YtanmfmllnbbdoaaDTailsWalk
namespace Go.Proofs.Ytanmfmllnbbdoaa
open Go.RowKit
set_option linter.unusedVariables false

/-- disks of two files -/
def two (c : Int) (D1 : List UInt8) (s1 : Nat) (D2 : List UInt8) (s2 : Nat) : Dsk := ⟨false, 0, c, 5000, [⟨[97], D1, s1⟩, ⟨[98], D2, s2⟩]⟩

theorem two_appB (c : Int) (D1 D2 P : List UInt8) (s1 s2 : Nat) (h : (D1.length : Int) + D2.length + P.length ≤ 5000) : appD (two c D1 s1 D2 s2) [98] P = (0, two (c + 1) D1 s1 (D2 ++ P) s2) := by
  unfold appD two
  simp only [getBy, List.find?_cons]
  rw [show (([97] : List UInt8) == [98]) = false by decide, show (([98] : List UInt8) == [98]) = true by decide]
  simp only
  rw [if_neg (by simp [usedA]; omega)]
  simp [setBy, chg]

theorem two_appA (c : Int) (D1 D2 P : List UInt8) (s1 s2 : Nat) (h : (D1.length : Int) + D2.length + P.length ≤ 5000) : appD (two c D1 s1 D2 s2) [97] P = (0, two (c + 1) (D1 ++ P) s1 D2 s2) := by
  unfold appD two
  simp only [getBy, List.find?_cons]
  rw [show (([97] : List UInt8) == [97]) = true by decide]
  simp only
  rw [if_neg (by simp [usedA]; omega)]
  simp [setBy, chg]

theorem two_sync (c : Int) (D1 D2 : List UInt8) (s1 s2 : Nat) : syncD (two c D1 s1 D2 s2) [97] = (0, two (c + 1) D1 D1.length D2 s2) := by
  unfold syncD two doD
  simp [getBy, setBy, chg]

theorem two_ren (c : Int) (D1 D2 : List UInt8) (s1 s2 : Nat) : renD (two c D1 s1 D2 s2) [97] [98] = (0, one (c + 1) 5000 [98] D1 s1) := by
  unfold renD two doD one
  rw [if_neg (by decide)]
  simp [getBy, chg, putBy, delBy, insBy]

theorem one_readA (c : Int) (D : List UInt8) (s : Nat) : readD (one c 5000 [98] D s) [97] = (6, []) := by
  unfold readD one
  simp [getBy]

theorem torn_zero (P Q : List UInt8) (n : Nat) : torn P Q n 0 = P ++ Q.take n := by
  unfold torn
  split
  · rename_i h
    have hl : P.length + n - 1 < (P ++ Q.take n).length := by rw [List.length_append, List.length_take]; omega
    rw [List.getD_eq_getElem?_getD, List.getElem?_eq_getElem hl]
    simp
  · rfl

set_option maxRecDepth 100000 in
set_option maxHeartbeats 8000000 in
theorem drenames (w : World) (vp vq vo : Value) (lp lq lo P Q O : List UInt8) (keep mx : Int) (n : Nat) (HP : Hid (lp.take 50 = P)) (HQ : Hid (lq.take 50 = Q)) (HO : Hid (lo.take 50 = O)) (hp : Arg w vp lp) (hq : Arg w vq lq) (ho : Arg w vo lo)
    (hPl : P.length ≤ 50) (hQl : Q.length ≤ 50) (hOl : O.length ≤ 50) (R : List UInt8) (HR : Hid (P ++ Q.take n = R)) (HT : Hid (tear (P ++ Q) P.length keep 0 = R)) (hmx : max keep 0 = mx) (hmn0 : min mx (Q.length : Int) = (n : Int)) (HNQ : Hid (n ≤ Q.length)) :
    Calls Try.prog 8 #[vp, vq, vo, .int .i64 keep] w fun e w' => e = .returned (.bool true) ∧ Below w.heap.size w w' := by
  obtain ⟨i0, hi, hz0, hz1, hz2⟩ := info_parts info5
  have HB1 : Hid (P.length ≤ 1099511627776 ∧ Q.length ≤ 1099511627776 ∧ O.length ≤ 1099511627776 ∧ (P.length : Int) ≤ 1048576 ∧ (Q.length : Int) ≤ 1048576 ∧ (O.length : Int) ≤ 1048576) := by show _ ∧ _; omega
  have HBO : Hid (((([] : List UInt8).length : Nat) : Int) + ((([] : List UInt8).length : Nat) : Int) + (O.length : Int) ≤ 5000) := by show _ ≤ _; simp; omega
  have HBP : Hid (((([] : List UInt8).length : Nat) : Int) + (O.length : Int) + (P.length : Int) ≤ 5000) := by show _ ≤ _; simp; omega
  have HBQ : Hid ((P.length : Int) + (O.length : Int) + (Q.length : Int) ≤ 5000) := by show _ ≤ _; omega
  have HB4 : Hid (P.length + n ≤ maxLen ∧ (P.length + n) * 1 ≤ 140737488355328 ∧ (bv (Q.take n)).length = n * 1 ∧ (Q.take n).length = n) := by
    have := HNQ.out
    refine ⟨by simp only [maxLen]; omega, by omega, by rw [bv_length, List.length_take]; omega, by rw [List.length_take]; omega⟩
  clear hPl hQl hOl
  go_enter Try.func8, Try.ntmps8
  go_wp2_with fail
  refine (dawake_any w).mono ?_
  rintro e w1 ⟨rfl, hb1⟩
  go_wp2_with fail
  refine (cut_any _ _ lp 50 (hp.below hb1 (Nat.le_refl _)) (by decide)).mono ?_
  rintro e w2 ⟨vp', rfl, op, hb2⟩
  rw [HP.out] at op
  obtain ⟨gp, kp, rfl⟩ := op.shape
  have hB2 := hb1.trans (hb2.mono hb1.size)
  have hs12 := hb2.size
  clear hb2 hp
  go_wp2_with fail
  refine (cut_any _ _ lq 50 (hq.below hB2 (Nat.le_refl _)) (by decide)).mono ?_
  rintro e w3 ⟨vq', rfl, oq, hb3⟩
  rw [HQ.out] at oq
  obtain ⟨gq, kq, rfl⟩ := oq.shape
  have hB3 := hB2.trans (hb3.mono hB2.size)
  have op3 := op.below hb3 (Nat.le_refl _)
  have hgpq : gp ≠ gq := by
    have h1 := op.lt.2
    have h2 := oq.lt.1
    omega
  clear hb3 hB2 op hq
  go_wp2_with fail
  refine (cut_any _ _ lo 50 (ho.below hB3 (Nat.le_refl _)) (by decide)).mono ?_
  rintro e w3' ⟨vo', rfl, oo, hb3⟩
  rw [HO.out] at oo
  obtain ⟨go, ko, rfl⟩ := oo.shape
  have HB3 : Hid (Below w.heap.size w w3') := hB3.trans (hb3.mono hB3.size)
  have HW1 : Hid (w.heap.size ≤ w1.heap.size ∧ w1.heap.size ≤ w3'.heap.size) := ⟨hb1.size, by have := hb3.size; have := oq.lt; omega⟩
  have hnkI : (n : Int) ≤ (kq : Int) := Int.ofNat_le.2 (Nat.le_trans HNQ.out oq.cap_le)
  have OP3 : Hid (Own w1.heap.size w3' (.slice (some ⟨gp, 0, none⟩) P.length kp) P) := op3.below hb3 (Nat.le_refl _)
  have OQ3 : Hid (Own w2.heap.size w3' (.slice (some ⟨gq, 0, none⟩) Q.length kq) Q) := oq.below hb3 (Nat.le_refl _)
  have OO3 : Hid (Own w3.heap.size w3' (.slice (some ⟨go, 0, none⟩) O.length ko) O) := oo
  clear op3 oq oo hb1 hB3 hb3 hs12 ho
  go_wp2_with fail
  refine (new_k w3' w3' (Below.refl _ _) 5000 (by decide) (by decide)).mono ?_
  rintro e w4 ⟨d, rfl, h4⟩
  go_wp2_with fail
  refine (create_k h4 _ [97] 0 (one 1 5000 [97] [] 0) rfl (by decide) (by decide) (by kernel_rfl)).mono ?_
  rintro e w5 ⟨rfl, h5⟩
  clear h4
  go_wp2_with fail
  refine (create_k h5 _ [98] 0 (two 2 [] 0 [] 0) rfl (by decide) (by decide) (by kernel_rfl)).mono ?_
  rintro e w6 ⟨rfl, h6⟩
  clear h5
  go_wp2_with fail
  refine (copy_any _ _ O (OO3.out.below h6.bel (Nat.le_refl _)).rd.arg HB1.out.2.2.1).mono ?_
  rintro e w7 ⟨v7, rfl, o7, hb7⟩
  have h7 := h6.below hb7
  obtain ⟨g7, k7, rfl⟩ := o7.shape
  clear h6 hb7
  go_wp2_with fail
  refine (append_k h7 _ [98] O _ 0 (two 3 [] 0 ([] ++ O) 0) rfl (by decide) (by decide) o7.rd.arg HB1.out.2.2.2.2.2 (two_appB 2 [] [] O 0 0 HBO.out)).mono ?_
  rintro e w8 ⟨rfl, h8⟩
  rw [List.nil_append] at h8
  clear h7 o7
  go_wp2_with fail
  refine (copy_any _ _ P (OP3.out.below h8.bel (Nat.le_refl _)).rd.arg HB1.out.1).mono ?_
  rintro e w9 ⟨v9, rfl, o9, hb9⟩
  have h9 := h8.below hb9
  obtain ⟨g9, k9, rfl⟩ := o9.shape
  clear h8 hb9
  go_wp2_with fail
  refine (append_k h9 _ [97] P _ 0 (two 4 ([] ++ P) 0 O 0) rfl (by decide) (by simp [two]) o9.rd.arg HB1.out.2.2.2.1 (two_appA 3 [] O P 0 0 HBP.out)).mono ?_
  rintro e w10 ⟨rfl, h10⟩
  rw [List.nil_append] at h10
  clear h9 o9
  go_wp2_with fail
  refine (sync_k h10 _ [97] 0 (two 5 P P.length O 0) rfl (by decide) (by simp [two]) (two_sync 4 P O 0 0)).mono ?_
  rintro e w11 ⟨rfl, h11⟩
  clear h10
  go_wp2_with fail
  refine (copy_any _ _ Q (OQ3.out.below h11.bel (Nat.le_refl _)).rd.arg HB1.out.2.1).mono ?_
  rintro e w12 ⟨v12, rfl, o12, hb12⟩
  have h12 := h11.below hb12
  obtain ⟨g12, k12, rfl⟩ := o12.shape
  clear h11 hb12
  go_wp2_with fail
  refine (append_k h12 _ [97] Q _ 0 (two 6 (P ++ Q) P.length O 0) rfl (by decide) (by simp [two]) o12.rd.arg HB1.out.2.2.2.2.1 (two_appA 5 P O Q P.length 0 HBQ.out)).mono ?_
  rintro e w13 ⟨rfl, h13⟩
  clear h12 o12
  go_wp2_with fail
  refine (ren_k h13 _ _ [97] [98] 0 (one 7 5000 [98] (P ++ Q) P.length) rfl (by decide) rfl (by decide) (by simp [two]) (two_ren 6 (P ++ Q) O P.length 0)).mono ?_
  rintro e w14 ⟨rfl, h14⟩
  clear h13
  go_wp2_with fail
  refine (crash_k (t := 0) h14 ((Below.refl _ _).alloc (Nat.le_refl _) _) [keep] _ (argI_one w3' w14 keep) (by simp [one])).mono ?_
  rintro e w15 ⟨rfl, h15⟩
  obtain ⟨s15, e15⟩ := one_crash 7 5000 [98] P Q keep 0
  rw [e15, HT.out] at h15
  have h15s := h15.bel.size
  clear h14 e15
  go_wp2_with fail
  refine (read_k h15 _ [98] 0 R rfl (by decide) (one_read 7 5000 [98] _ s15)).mono ?_
  rintro e w16 ⟨a16, k16, rfl, o16, h16, hb16⟩
  clear h15 hb16
  go_wp2_with fail
  refine (read_k h16 _ [97] 6 [] rfl (by decide) (one_readA 7 _ s15)).mono ?_
  rintro e w17 ⟨a17, k17, rfl, o17, h17, hb17⟩
  have O16 : Hid (OwnN w15.heap.size w17 (.slice a16 R.length k16) R) := o16.below hb17 (Nat.le_refl _)
  have HSZ : Hid (w1.heap.size ≤ w17.heap.size ∧ w3'.heap.size ≤ w15.heap.size) := ⟨Nat.le_trans HW1.out.2 h17.bel.size, h15s⟩
  have OQ : Hid (Own w2.heap.size w17 (.slice (some ⟨gq, 0, none⟩) Q.length kq) Q) := OQ3.out.below h17.bel (Nat.le_refl _)
  have OP : Hid (Own w1.heap.size w17 (.slice (some ⟨gp, 0, none⟩) P.length kp) P) := OP3.out.below h17.bel (Nat.le_refl _)
  have H17 : Hid (Dk w3' w17 d (one 7 5000 [98] R s15)) := h17
  clear h16 h17 o16 o17 hb17
  have hqc := take_cells OQ.out.rd n
  have hrow := OP.out.row
  go_wp2_with (at_builtin; refine wpList_app_guard (by rfl) (.tmp 79) (.tmp 82) 31 rfl w1.heap.size 5 i0 (.int .u8 0) 1 1 Try.underlying31 hi hz0 hz1 hz2 rfl (by decide) (.slice (some ⟨gp, 0, none⟩) P.length kp) P.length (bv P) rfl hrow ⟨gq, 0, none⟩ n kq (bv (Q.take n)) rfl HB4.out.2.2.1 hqc (bv_one _) HB4.out.1 HB4.out.2.1 HSZ.out.1 ?_; intro v' w18 ho' hgr' hn'; obtain ⟨gv, kv, hvv, hk1, hk2, ov⟩ := app_shape ho' rfl HB4.out.2.2.2 (fun e => by have := (hn'.1 e).1; cases this); subst hvv)
  have hgp : gp < w3'.heap.size := OP3.out.lt.2
  have HG : Hid (OwnN w15.heap.size w18 (.slice a16 R.length k16) R) := by
    refine ownN_stay O16.out fun i hi hv => hgr'.block i hi fun e => ?_
    cases e
    have hb : w15.heap.size ≤ gp := by
      rcases O16.out with ⟨e, _⟩ | h
      · rw [e] at hv; simp [Value.ownBlock] at hv
      · obtain ⟨g, k, e⟩ := h.shape
        have := h
        rw [e] at this hv
        simp only [Value.ownBlock, Option.some.injEq] at hv
        have := this.lt.1
        omega
    have := HSZ.out.2
    omega
  have HD : Hid (DiskIs (fun i => w3'.heap.size ≤ i) w18 d (one 7 5000 [98] R s15)) := H17.out.is.stay fun i hi hF => hgr'.block i hi fun e => by
    cases e
    simp only at hF
    omega
  have HB18 : Hid (Below w.heap.size w w18) := by
    have h1 := HB3.out.trans (H17.out.bel.mono HB3.out.size)
    exact h1.grown hgr' h1.size (fun k' e => Nat.le_trans HW1.out.1 (OP.out.row.lt k' e).1)
  have OV : Hid (Own w1.heap.size w18 (.slice (some ⟨gv, 0, none⟩) (P.length + n) kv) R) := by rw [← HR.out]; exact ov
  clear ho' hgr' hn' ov hqc hrow hgp hk1 hk2
  refine (same_b _ _ _ _ _ true HG.out.rd OV.out.rd (by simp)).mono ?_
  rintro e w19 ⟨rfl, rfl⟩
  go_wp2_with fail
  refine (list_any _ _ d _ HD.out).mono ?_
  rintro e w20 ⟨v, rfl, hrow, hb⟩
  obtain ⟨a20, k20, rfl, _⟩ := names_shape hrow
  have HB20 : Hid (Below w.heap.size w w20) := HB18.out.trans (hb.mono HB18.out.size)
  clear hrow hb
  simp only [one, List.map_cons, List.map_nil, List.length_cons, List.length_nil]
  go_wp2
  go_ret
  exact ⟨rfl, HB20.out⟩

theorem diskRenames_walk (a0 : Option Addr) (len0 cap0 : Nat) (z0 : List Int) (a1 : Option Addr) (len1 cap1 : Nat) (z1 : List Int) (a2 : Option Addr) (len2 cap2 : Nat) (z2 : List Int) (keep : Int) (w : World) (w0 : IsRow .u8 w a0 len0 cap0 z0) (w1 : IsRow .u8 w a1 len1 cap1 z1) (w2 : IsRow .u8 w a2 len2 cap2 z2) (_w3 : (Lit.int .i64 keep).wf = true) :
    Calls Try.prog 8 #[.slice a0 len0 cap0, .slice a1 len1 cap1, .slice a2 len2 cap2, .int .i64 keep] w fun e w' => e = .returned (.bool true) ∧ Below w.heap.size w w' := by
  obtain ⟨P, HP⟩ : ∃ P, (argB len0 z0).take 50 = P := ⟨_, rfl⟩
  obtain ⟨Q, HQ⟩ : ∃ Q, (argB len1 z1).take 50 = Q := ⟨_, rfl⟩
  obtain ⟨O, HO⟩ : ∃ O, (argB len2 z2).take 50 = O := ⟨_, rfl⟩
  have hPl : P.length ≤ 50 := by rw [← HP]; exact List.length_take_le _ _
  have hQl : Q.length ≤ 50 := by rw [← HQ]; exact List.length_take_le _ _
  have hOl : O.length ≤ 50 := by rw [← HO]; exact List.length_take_le _ _
  obtain ⟨n, hmn⟩ : ∃ n : Nat, (min (max keep 0) (Q.length : Int)) = (n : Int) := ⟨(min (max keep 0) (Q.length : Int)).toNat, by omega⟩
  have HT := tear_torn P Q keep 0 n hmn
  rw [torn_zero] at HT
  have hnq : n ≤ Q.length := by omega
  exact drenames w _ _ _ _ _ _ P Q O keep _ n HP HQ HO (arg_of w0) (arg_of w1) (arg_of w2) hPl hQl hOl _ rfl HT rfl hmn hnq

end Go.Proofs.Ytanmfmllnbbdoaa
