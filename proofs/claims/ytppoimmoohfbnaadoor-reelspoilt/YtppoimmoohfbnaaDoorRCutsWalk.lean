/- ReelCuts answers true. -/
import Derived.Test.YtppoimmoohfbnaaDoorReelCut
namespace Go.Proofs.YtppoimmoohfbnaaDoor
open Go.RowKit
set_option linter.unusedVariables false

/-- where the loop has come to: the last record that ends ahead of the cut -/
structure CutI (w2 wr : World) (T : List (List UInt8)) (cut j k : Nat) : Prop where
  le : k ≤ j
  ok : offT T k ≤ cut
  no : ∀ i, k < i → i ≤ j → cut < offT T i
  be : Below w2.heap.size w2 wr

theorem cut_yes {w2 wr w3 : World} {T : List (List UInt8)} {cut j k : Nat} (h : CutI w2 wr T cut j k) (hj : offT T (j + 1) ≤ cut) (hb : Below w2.heap.size w2 w3) : CutI w2 w3 T cut (j + 1) (j + 1) :=
  ⟨Nat.le_refl _, hj, fun i h1 h2 => by omega, hb⟩

theorem cut_no {w2 wr w3 : World} {T : List (List UInt8)} {cut j k : Nat} (h : CutI w2 wr T cut j k) (hj : ¬ offT T (j + 1) ≤ cut) (hb : Below w2.heap.size w2 w3) : CutI w2 w3 T cut (j + 1) k :=
  ⟨Nat.le_succ_of_le h.le, h.ok, fun i h1 h2 => by
    by_cases e : i = j + 1
    · rw [e]; omega
    · exact h.no i h1 (by omega), hb⟩

theorem tmod_pos (z : Int) (L : Nat) (h0 : 0 ≤ z) : ∃ c : Nat, z.tmod ((L : Int) + 1) = (c : Int) ∧ c ≤ L := by
  obtain ⟨n, rfl⟩ := Int.eq_ofNat_of_zero_le h0
  refine ⟨n % (L + 1), ?_, by have := Nat.mod_lt n (show 0 < L + 1 by omega); omega⟩
  rw [Int.tmod_eq_emod_of_nonneg h0]
  exact (Int.natCast_emod n (L + 1)).symm

theorem ownN_take {B : Nat} {w : World} {a : Option Addr} {n c : Nat} {l : List UInt8} (h : OwnN B w (.slice a n c) l) (k : Nat) (hk : k ≤ l.length) : Rd w (.slice a k c) (l.take k) ∧ ∀ b, (Value.slice a k c).ownBlock = some b → b < w.heap.size := by
  have hb := ownN_block h
  rcases h with ⟨e, rfl⟩ | h
  · cases e
    obtain rfl : k = 0 := by simpa using hk
    exact ⟨.inl ⟨rfl, rfl⟩, fun b e => by simp [Value.ownBlock] at e⟩
  · obtain ⟨g, k', e⟩ := h.shape
    cases e
    refine ⟨?_, fun b e => by cases e; exact h.lt.2⟩
    have hcs := h.cellsAt
    obtain ⟨g', cap', cur, e, _, _, h1, h2, _⟩ := h
    cases e
    have := rd_sub hcs 0 k c (by omega) h2 (by omega)
    rwa [List.drop_zero, Nat.add_zero] at this

set_option maxRecDepth 100000 in
set_option maxHeartbeats 3000000 in
theorem rcuts (w : World) (v : Value) (ls : List (List UInt8)) (z : Int) (bv0 : Value) (xb : List UInt8) (hv : ArgL w v ls) (hz0 : 0 ≤ z) (hz1 : z ≤ 65535) (hxb : Arg w bv0 xb) (hT : Tab w) (h0 : 0 < w.heap.size) :
    Calls Tryd.prog 6 #[v, .int .u16 z, bv0] w fun e w' => e = .returned (.bool true) ∧ Below w.heap.size w w' := by
  obtain ⟨i0, hi, hi0, hi1, hi2⟩ := info_parts info5
  obtain ⟨ao, cap, hvv, _⟩ := hv.places
  obtain ⟨bo, bcap, hbb⟩ := hxb.shape
  have HV : Hid (ArgL w v ls) := hv
  have HXB : Hid (Arg w bv0 xb) := hxb
  have HT : Hid (Tab w) := hT
  have H0 : Hid (0 < w.heap.size) := h0
  clear hv hT h0 hxb
  subst hvv hbb
  go_enter Tryd.func6, Tryd.ntmps6
  go_wp2_with fail
  refine (rawake_any w HT.out H0.out).mono ?_
  rintro e w1 ⟨rfl, hb1⟩
  have HB1 : Hid (Below w.heap.size w w1) := hb1
  have hv1 := HV.out.below hb1 (Nat.le_refl _)
  clear hb1
  go_wp2_with fail
  refine (few_any w1 _ ls 12 200 hv1 (by decide) (by decide)).mono ?_
  rintro e w2 ⟨x, rfl, oT, hb2⟩
  obtain ⟨T, hTT⟩ : ∃ T, fewT 12 200 ls = T := ⟨_, rfl⟩
  have HTL : Hid (T.length ≤ 12 ∧ ∀ l ∈ T, l.length ≤ 200) := ⟨by rw [← hTT]; exact few_len _ _ _, fun l hl => few_mem (by rw [hTT]; exact hl)⟩
  rw [hTT] at oT
  obtain ⟨ta, tc, rfl⟩ := oT.shape
  have HB2 : Hid (Below w.heap.size w w2) := HB1.out.trans (hb2.mono HB1.out.size)
  have OT : Hid (OwnT w1.heap.size w2 (.slice ta T.length tc) T) := oT
  obtain ⟨N, hN⟩ : ∃ N, T.length = N := ⟨_, rfl⟩
  rw [hN]
  rw [hN] at OT
  have HN : Hid (T.length = N) := hN
  have hN12 : N ≤ 12 := by rw [← hN]; exact HTL.out.1
  have hall := rall_any w2 _ T 200 OT.out.tex HTL.out.2 (by decide) (by have := HTL.out.1; omega)
  clear hv1 oT hb2 hTT hN
  go_wp2_with fail
  refine hall.mono ?_
  rintro e w3 ⟨pv, rfl, oP, hb3⟩
  obtain ⟨P, hPq⟩ : ∃ P, allB T [] = P := ⟨_, rfl⟩
  rw [hPq] at oP
  have HPQ : Hid (allB T [] = P) := hPq
  have hPl : P.length ≤ 5040 := by
    have h1 := allB_most 200 T [] HTL.out.2
    rw [hPq, HN.out] at h1
    simp at h1
    omega
  obtain ⟨pa, pc, rfl⟩ := oP.rd.len
  obtain ⟨L, hL⟩ : ∃ L, P.length = L := ⟨_, rfl⟩
  rw [hL] at hPl oP ⊢
  have HL : Hid (P.length = L) := hL
  have HOP : Hid (OwnN w2.heap.size w3 (.slice pa L pc) P) := oP
  have HB3 : Hid (Below w.heap.size w w3) := HB2.out.trans (hb3.mono HB2.out.size)
  have OT3 : Hid (OwnT w1.heap.size w3 (.slice ta N tc) T) := OT.out.below hb3 (Nat.le_refl _)
  obtain ⟨cut, hcut, hcutL⟩ := tmod_pos z L hz0
  have hLI : (L : Int) ≤ 5040 := by omega
  have hLI0 : (0 : Int) ≤ (L : Int) := by omega
  have HPL : Hid (L ≤ 5040 ∧ cut ≤ L) := ⟨hPl, hcutL⟩
  have htc : Hid (N ≤ tc ∧ tc ≤ 9223372036854775807) := by
    obtain ⟨a', c', e, h1, h2, _⟩ := OT.out.tex
    cases e
    exact ⟨by rw [HN.out] at h1; exact h1, h2⟩
  have hpc : Hid (L ≤ pc) := by
    rcases HOP.out with ⟨e, _⟩ | h
    · cases e; exact Nat.le_refl _
    · obtain ⟨g', k', e⟩ := h.shape
      cases e
      have := h.caps.1; rw [HL.out] at this; exact this
  clear hall hb3 oP hPq hL
  go_wp2_with fail
  go_loopg [9, 10, 31] N (fun gk wv kv iv wr => ∃ (j k wh : Nat), gk + j = N ∧ iv = .int .i64 (j : Int) ∧ wv = .int .i64 (wh : Int) ∧ kv = .int .i64 (k : Int) ∧ Hid (wh = offT T k) ∧ Hid (CutI w3 wr T cut j k))
  case atStart => exact ⟨0, 0, 0, by omega, rfl, rfl, rfl, (offT_zero T).symm, ⟨Nat.le_refl _, by rw [offT_zero]; exact Nat.zero_le _, fun i h1 h2 => by omega, Below.refl _ _⟩⟩
  case round =>
    obtain ⟨j, k, wh, hj, rfl, rfl, rfl, HW, HC⟩ := hrel
    by_cases hlt : j < N
    · obtain ⟨q1, q2⟩ := gk_nxt hj hlt
      have hjt : (j : Int) + 1 ≤ (tc : Int) := by have := htc.out; omega
      have hjI : (j : Int) ≤ 12 := by omega
      have htx := (OT3.out.tex.below HC.out.be (Nat.le_refl _)).take (j + 1) (by rw [HN.out]; omega)
      have hal := rall_any wr _ (T.take (j + 1)) 200 htx (fun l hl => HTL.out.2 l (List.mem_of_mem_take hl)) (by decide) (by have := HTL.out.1; rw [List.length_take]; omega)
      obtain ⟨O, hO⟩ : ∃ O, offT T (j + 1) = O := ⟨_, rfl⟩
      have hOl : O ≤ 5040 := by
        have h1 := offT_mono T (j + 1) N (by omega) (by rw [HN.out]; exact Nat.le_refl _)
        rw [hO] at h1
        have h2 : offT T N = L := by unfold offT; rw [← HN.out, List.take_length, HPQ.out, HL.out]
        have := HPL.out
        omega
      have hOI : (O : Int) ≤ 5040 := by omega
      have HO : Hid (offT T (j + 1) = O) := hO
      by_cases hoc : O ≤ cut
      · have hocI : (O : Int) ≤ (cut : Int) := by omega
        clear htx hO hOl
        go_wp2_with fail
        refine hal.mono ?_
        rintro e w4 ⟨y, rfl, oy, hb4⟩
        have hyl : (allB (T.take (j + 1)) []).length = O := HO.out
        obtain ⟨ya, yc, hy⟩ := oy.rd.len
        rw [hyl] at hy
        subst hy
        have HB4 : Hid (Below w3.heap.size w3 w4) := HC.out.be.trans (hb4.mono HC.out.be.size)
        clear hal hb4 oy hyl
        go_wp2_with fail
        go_roundg (gk - 1)
        case measure => exact q1
        case rel => exact ⟨j + 1, j + 1, O, q2, by go_num, rfl, by go_num, HO.out.symm, cut_yes HC.out (by rw [HO.out]; exact hoc) HB4.out⟩
      · have hocI : ¬ (O : Int) ≤ (cut : Int) := by omega
        clear htx hO hOl
        go_wp2_with fail
        refine hal.mono ?_
        rintro e w4 ⟨y, rfl, oy, hb4⟩
        have hyl : (allB (T.take (j + 1)) []).length = O := HO.out
        obtain ⟨ya, yc, hy⟩ := oy.rd.len
        rw [hyl] at hy
        subst hy
        have HB4 : Hid (Below w3.heap.size w3 w4) := HC.out.be.trans (hb4.mono HC.out.be.size)
        clear hal hb4 oy hyl
        go_wp2_with fail
        go_roundg (gk - 1)
        case measure => exact q1
        case rel => exact ⟨j + 1, k, wh, q2, by go_num, rfl, rfl, HW, cut_no HC.out (by rw [HO.out]; exact hoc) HB4.out⟩
    · have hjN : j = N := by omega
      subst hjN
      have hrc := read_cut T cut k (fun r hr => by have := HTL.out.2 r hr; omega) (by rw [HPQ.out, HL.out]; exact HPL.out.2) (by rw [HN.out]; exact HC.out.le) HC.out.ok (fun i h1 h2 => HC.out.no i h1 (by rw [HN.out] at h2; exact h2))
      rw [HPQ.out, ← HW.out] at hrc
      have hwc : wh ≤ cut := by rw [HW.out]; exact HC.out.ok
      have hbd := readN_bd (P.take cut)
      rw [hrc] at hbd
      have hPt := allB_take T k
      rw [HPQ.out, ← HW.out] at hPt
      have hBr : Below w.heap.size w wr := HB3.out.trans (HC.out.be.mono HB3.out.size)
      have hOPr := HOP.out.below HC.out.be (Nat.le_refl _)
      obtain ⟨rd1, bk1⟩ := ownN_take hOPr cut (by rw [HL.out]; exact HPL.out.2)
      have hr1 := read_any wr _ (P.take cut) rd1 bk1 (by rw [List.length_take, HL.out]; have := HPL.out; omega) (HT.out.below hBr (Nat.le_refl _))
      unfold ReadPost at hr1
      rw [hrc] at hr1
      obtain ⟨n, hn⟩ : ∃ n, readN (P.take cut) = n := ⟨_, rfl⟩
      rw [hn] at hr1 hbd
      rw [List.length_take, HL.out, Nat.min_eq_left HPL.out.2] at hbd
      have HKN : Hid (k ≤ j) := HC.out.le
      have HBR : Hid (Below w.heap.size w wr) := hBr
      have HOPR : Hid (OwnN w2.heap.size wr (.slice pa L pc) P) := hOPr
      have OTR : Hid (OwnT w1.heap.size wr (.slice ta j tc) T) := OT3.out.below HC.out.be (Nat.le_refl _)
      have HPT : Hid (P.take wh = allB (T.take k) []) := hPt
      have HTKL : Hid ((T.take k).length = k) := by show _ = _; rw [List.length_take, HN.out]; exact Nat.min_eq_left HC.out.le
      obtain ⟨TK, hTK⟩ : ∃ TK, T.take k = TK := ⟨_, rfl⟩
      rw [hTK] at hr1 HPT HTKL
      have HTK : Hid (T.take k = TK) := hTK
      have c1 : (cut : Int) ≤ (pc : Int) := by have := hpc.out; have := HPL.out; omega
      have c2 : (k : Int) ≤ (tc : Int) := by have := htc.out; have := HKN.out; omega
      have c3 : (wh : Int) ≤ (n : Int) := by omega
      have c4 : (n : Int) ≤ (cut : Int) := by omega
      have c5 : (wh : Int) ≤ (pc : Int) := by omega
      have c6 : (0 : Int) ≤ (cut : Int) := by omega
      have c7 : (0 : Int) ≤ (wh : Int) := by omega
      have c8 : (0 : Int) ≤ (k : Int) := by omega
      have HWL : Hid (wh ≤ L) := by show _ ≤ _; have := HPL.out; omega
      clear hrc hwc hbd hPt hBr hOPr rd1 bk1 hn hj hlt HC hTK
      go_wp2_with fail
      refine hr1.mono ?_
      rintro e w5 ⟨hb5, y, rfl, oy0⟩
      have oy : OwnT wr.heap.size w5 y TK := oy0
      clear oy0
      obtain ⟨y1, y2, rfl⟩ := oy.shape
      have hlk := (OTR.out.below hb5 (Nat.le_refl _)).takeRd k (by rw [HN.out]; exact HKN.out)
      rw [HTK.out] at hlk
      have hsm := sameT_any w5 _ _ TK TK true oy.rd hlk (by simp)
      rw [HTKL.out] at hsm ⊢
      have HB5 : Hid (Below wr.heap.size wr w5) := hb5
      clear hr1 hb5 oy hlk
      go_wp2_with fail
      refine hsm.mono ?_
      rintro e w6 ⟨rfl, n6, hw6⟩
      have HB6 : Hid (Below wr.heap.size wr w6) := by rw [hw6]; exact below_drewN' HB5.out _
      clear hsm hw6 HB5
      obtain ⟨rd2, bk2⟩ := ownN_take (HOPR.out.below HB6.out (Nat.le_refl _)) wh (by rw [HL.out]; exact HWL.out)
      have hcp := copy_any w6 _ (P.take wh) rd2.arg (by rw [List.length_take, HL.out]; have := HPL.out; omega)
      obtain ⟨A, hA⟩ : ∃ A, P.take wh = A := ⟨_, rfl⟩
      have hAl : A.length ≤ 5040 := by rw [← hA, List.length_take, HL.out]; have := HPL.out; omega
      rw [hA] at hcp
      have HA : Hid (A = allB TK []) := by show _ = _; rw [← hA]; exact HPT.out
      clear rd2 bk2 hA
      go_wp2_with fail
      refine hcp.mono ?_
      rintro e w7 ⟨v7, rfl, o7, hb7⟩
      obtain ⟨g7, k7, rfl⟩ := o7.shape
      have HB7 : Hid (Below wr.heap.size wr w7) := HB6.out.trans (hb7.mono HB6.out.size)
      have HBW7 : Hid (Below w.heap.size w w7) := HBR.out.trans (HB7.out.mono HBR.out.size)
      have hct := cut_any w7 _ xb 100 (HXB.out.below HBW7.out (Nat.le_refl _)) (by decide)
      have HO7 : Hid (Own w6.heap.size w7 (.slice (some ⟨g7, 0, none⟩) A.length k7) A) := o7
      have HS6 : Hid (wr.heap.size ≤ w6.heap.size) := HB6.out.size
      clear hcp hb7 o7
      go_wp2_with fail
      refine hct.mono ?_
      rintro e w8 ⟨v8, rfl, o8, hb8⟩
      obtain ⟨Bb, hBb⟩ : ∃ Bb, xb.take 100 = Bb := ⟨_, rfl⟩
      have hBl : Bb.length ≤ 100 := by rw [← hBb]; exact List.length_take_le _ _
      rw [hBb] at o8
      obtain ⟨g8, k8, rfl⟩ := o8.shape
      have HB8 : Hid (Below wr.heap.size wr w8) := HB7.out.trans (hb8.mono HB7.out.size)
      have hrow := (HO7.out.below hb8 (Nat.le_refl _)).row
      have hbc := (rd_cells o8.rd).2
      have HSZ : Hid (w6.heap.size ≤ w8.heap.size) := by show _ ≤ _; have := HO7.out.lt; have := hb8.size; omega
      have HLN : Hid (A.length ≤ 5040 ∧ Bb.length ≤ 100) := ⟨hAl, hBl⟩
      clear hct hb8 o8 hBb hAl hBl
      obtain ⟨Q, HQ⟩ : ∃ Q, Hid (A ++ Bb = Q) := ⟨_, rfl⟩
      go_wp2_with (first | (at_builtin; refine wpList_append_own _ rfl (.tmp 74) (.tmp 76) 22 rfl w6.heap.size 5 i0 (.int .u8 0) 1 1 Tryd.underlying22 hi hi0 hi1 hi2 rfl (by decide) (.slice (some ⟨g7, 0, none⟩) A.length k7) A.length (bv A) rfl hrow ⟨g8, 0, none⟩ Bb.length k8 (bv Bb) rfl (by rw [bv_length, Nat.mul_one]) hbc (bv_one _) (by have := HLN.out; unfold maxLen; omega) (by have := HLN.out; omega) HSZ.out ?_; intro v9 w9 ho9 hgr9 hn9; have h9 : OwnN w6.heap.size w9 v9 (A ++ Bb) := ownN_of_rowT ho9; rw [HQ.out] at h9; have HO9 : Hid (OwnN w6.heap.size w9 v9 Q) := h9; obtain ⟨va9, vc9, hv9⟩ := h9.rd.len; subst hv9; have HB9 : Hid (Below wr.heap.size wr w9) := HB8.out.grown hgr9 HB8.out.size (fun k' e => by have := (hrow.lt k' e).1; have := HS6.out; omega); clear ho9 hgr9 hn9 h9) | fail)
      clear hrow hbc
      have HBW9 : Hid (Below w.heap.size w w9) := HBR.out.trans (HB9.out.mono HBR.out.size)
      have hQl : Q.length ≤ 5140 := by rw [← HQ.out, List.length_append]; have := HLN.out; omega
      obtain ⟨X, hX⟩ := read_more TK Bb (fun r hr => by have := HTL.out.2 r (List.mem_of_mem_take (by rw [HTK.out]; exact hr)); omega)
      rw [← HA.out, HQ.out] at hX
      have hr2 := read_any w9 _ Q HO9.out.rd (ownN_block HO9.out) (by omega) (HT.out.below HBW9.out (Nat.le_refl _))
      unfold ReadPost at hr2
      rw [hX] at hr2
      obtain ⟨n9, hn9⟩ : ∃ n9, readN Q = n9 := ⟨_, rfl⟩
      rw [hn9] at hr2
      clear hn9 hX hQl
      refine hr2.mono ?_
      rintro e w10 ⟨hb10, y10, rfl, o10⟩
      obtain ⟨M, hM⟩ : ∃ M, TK ++ X = M := ⟨_, rfl⟩
      rw [hM] at o10
      obtain ⟨ya, yc, rfl⟩ := o10.shape
      obtain ⟨ml, hml⟩ : ∃ ml, M.length = ml := ⟨_, rfl⟩
      rw [hml] at o10 ⊢
      have hkm : k ≤ ml := by rw [← hml, ← hM, List.length_append, HTKL.out]; omega
      have hmt : M.take k = TK := by rw [← hM]; exact List.take_left' HTKL.out
      have hyc : ml ≤ yc := by
        obtain ⟨a', c', e, h1, h2, _⟩ := o10.tex
        cases e
        rw [hml] at h1; exact h1
      have d1 : (k : Int) ≤ (ml : Int) := by omega
      have d2 : (k : Int) ≤ (yc : Int) := by omega
      have hsm2 := fun wq (hq : ∃ nq, wq = w10.drewN nq) => sameT_any wq _ _ TK TK true (by obtain ⟨nq, rfl⟩ := hq; have h8 := o10.takeRd k (by rw [hml]; exact hkm); rw [hmt] at h8; exact h8) (by obtain ⟨nq, rfl⟩ := hq; have h8 := ((OTR.out.below HB9.out (Nat.le_refl _)).below hb10 (Nat.le_refl _)).takeRd k (by rw [HN.out]; exact HKN.out); rw [HTK.out] at h8; exact h8) (by simp)
      have HB10 : Hid (Below w.heap.size w w10) := HBW9.out.trans (hb10.mono HBW9.out.size)
      have HSM2 : Hid _ := hsm2
      clear hr2 hb10 o10 hM hml hmt hkm hyc hsm2
      go_wp2_with fail
      go_quiet (first
        | (go_at_call 20; refine Calls.quiet_of (HSM2.out _ ⟨_, rfl⟩)))
      go_wp2
      go_ret
      exact ⟨rfl, below_drewN' HB10.out _⟩

theorem reelCuts_walk (a0 : Option Addr) (len0 cap0 : Nat) (z0 : List (List UInt8)) (z : Int) (a2 : Option Addr) (len2 cap2 : Nat) (z2 : List Int) (w : World) (w0 : ArgL w (.slice a0 len0 cap0) z0) (wz : (Lit.int .u16 z).wf = true) (w2 : IsRow .u8 w a2 len2 cap2 z2) (ht : Tab w) :
    Calls Tryd.prog 6 #[.slice a0 len0 cap0, .int .u16 z, .slice a2 len2 cap2] w fun e w' => e = .returned (.bool true) ∧ Below w.heap.size w w' := by
  have hb : 0 ≤ z ∧ z ≤ 65535 := by
    exact bounds_u16 wz
  exact rcuts w _ z0 z _ _ w0 hb.1 hb.2 (arg_of w2) ht (World.block_lt_of_cell? w _ (ht 0 (by decide)))

end Go.Proofs.YtppoimmoohfbnaaDoor
