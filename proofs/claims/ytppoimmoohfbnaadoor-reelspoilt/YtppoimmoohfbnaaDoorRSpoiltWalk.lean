/- ReelSpoilt answers true. -/
import Derived.Test.YtppoimmoohfbnaaDoorRefPieceF
import Derived.Test.YtppoimmoohfbnaaDoorReelSpoil
import Derived.Test.YtppoimmoohfbnaaDoorRCutsWalk
import Derived.Laws.BitsAllLaws
namespace Go.Proofs.YtppoimmoohfbnaaDoor
open Go.RowKit
set_option linter.unusedVariables false

theorem xor_neq (x y : UInt8) (h : y ≠ 0) : x ^^^ y ≠ x := by
  intro e
  apply h
  have : x ^^^ (x ^^^ y) = x ^^^ x := by rw [e]
  simpa [← UInt8.xor_assoc] using this

theorem tmod_in (z : Int) (L : Nat) (h0 : 0 ≤ z) (hL : 0 < L) : ∃ c : Nat, z.tmod (L : Int) = (c : Int) ∧ c < L := by
  obtain ⟨n, rfl⟩ := Int.eq_ofNat_of_zero_le h0
  refine ⟨n % L, ?_, Nat.mod_lt n hL⟩
  rw [Int.tmod_eq_emod_of_nonneg h0]
  exact (Int.natCast_emod n L).symm

/-- the pieces from a place on, and what is known if no length of them is there -/
structure SpI (P : List UInt8) (PS : List (UInt8 × List UInt8)) (k a : Nat) (ps : List (UInt8 × List UInt8)) : Prop where
  eq : P.drop a = tailB a ps
  ok : tailOk a ps
  im : okK a ps k → okK 0 PS k

theorem sp_head {P : List UInt8} {PS : List (UInt8 × List UInt8)} {k a : Nat} {ps : List (UInt8 × List UInt8)} (h : SpI P PS k a ps) (ha : a < P.length) : ∃ (kd : UInt8) (t : List UInt8) (ps' : List (UInt8 × List UInt8)), pcAt P (a + gapN a) = some (kd, t) ∧ a + gapN a + 7 + t.length ≤ P.length ∧ 7 + t.length ≤ leftN (a + gapN a) ∧ (k ≠ a + gapN a + 4 → k ≠ a + gapN a + 5 → SpI P PS k (a + gapN a + 7 + t.length) ps') := by
  obtain ⟨h1, h2, h3⟩ := h
  cases ps with
  | nil =>
    have := congrArg List.length h1
    rw [List.length_drop, tailB, List.length_nil] at this
    omega
  | cons x ps' =>
    obtain ⟨kd, t⟩ := x
    rw [tailB] at h1
    have hlen := congrArg List.length h1
    rw [List.length_drop, List.length_append, List.length_append, List.length_replicate, pcB_length] at hlen
    have hd1 : P.drop (a + gapN a) = pcB kd t ++ tailB (a + gapN a + 7 + t.length) ps' := by
      rw [← List.drop_drop, h1, List.drop_left' (by simp)]
    have hd2 : P.drop (a + gapN a + 7 + t.length) = tailB (a + gapN a + 7 + t.length) ps' := by
      rw [show a + gapN a + 7 + t.length = a + gapN a + (7 + t.length) by omega, ← List.drop_drop, hd1, List.drop_left' (pcB_length kd t)]
      congr 1
      omega
    exact ⟨kd, t, ps', pcAt_there P _ t _ kd hd1 h2.1 h2.2.1, by omega, h2.2.1, fun n4 n5 => ⟨hd2, h2.2.2, fun ho => h3 ⟨⟨n4, n5⟩, ho⟩⟩⟩

theorem sp_end {P : List UInt8} {PS : List (UInt8 × List UInt8)} {k a : Nat} {ps : List (UInt8 × List UInt8)} (h : SpI P PS k a ps) (ha : P.length ≤ a) : okK 0 PS k := by
  obtain ⟨h1, h2, h3⟩ := h
  cases ps with
  | nil => exact h3 trivial
  | cons x ps' =>
    exfalso
    obtain ⟨kd, t⟩ := x
    rw [tailB] at h1
    have hlen := congrArg List.length h1
    rw [List.length_drop, List.length_append, List.length_append, List.length_replicate, pcB_length] at hlen
    omega

theorem sp_start (T : List (List UInt8)) (k : Nat) : SpI (allB T []) (pcsAll 0 T) k 0 (pcsAll 0 T) := by
  obtain ⟨X, h1, h2, h3⟩ := pcsAll_tail T []
  rw [List.nil_append] at h1
  rw [List.length_nil] at h2 h3
  exact ⟨by rw [List.drop_zero, h1, h2], h3, fun h => h⟩

theorem sp_rem (a lf : Nat) (h : leftN a = lf) : ∃ rr : Int, (a : Int).tmod 64 = rr ∧ 64 - rr = (lf : Int) ∧ 0 ≤ rr ∧ rr ≤ 63 ∧ (lf < 7 → 57 < rr) ∧ (¬ lf < 7 → ¬ 57 < rr) := by
  refine ⟨((a % 64 : Nat) : Int), mod_64 a, ?_, by omega, by omega, ?_, ?_⟩
  all_goals
    unfold leftN at h
    omega

theorem sp_nums {a a1 tl en L : Nat} (hen : a1 + 7 + tl = en) (hle : en ≤ L) (hLb : L ≤ 5040) (h1 : a ≤ a1) : (a : Int) ≤ 5040 ∧ (a1 : Int) ≤ 5040 ∧ (en : Int) ≤ 5040 ∧ (0 : Int) ≤ (a1 : Int) ∧ (0 : Int) ≤ (en : Int) ∧ a1 < L ∧ a1 ≤ 2000000 := by omega

set_option maxHeartbeats 2000000 in
set_option maxRecDepth 20000 in
theorem rspoilt_zero (w : World) (v : Value) (z : Int) (hT : Tab w) (h0 : 0 < w.heap.size) :
    Calls Tryd.prog 7 #[v, .int .u16 z, .int .u8 0] w fun e w' => e = .returned (.bool true) ∧ Below w.heap.size w w' := by
  go_enter Tryd.func7, Tryd.ntmps7
  go_wp2_with fail
  refine (rawake_any w hT h0).mono ?_
  rintro e w1 ⟨rfl, hb1⟩
  go_wp2_with fail
  refine (rawake_any w1 (hT.below hb1 (Nat.le_refl _)) (Nat.lt_of_lt_of_le h0 hb1.size)).mono ?_
  rintro e w2 ⟨rfl, hb2⟩
  go_wp2
  go_ret
  exact ⟨rfl, hb1.trans (hb2.mono hb1.size)⟩

set_option maxRecDepth 100000 in
set_option maxHeartbeats 3000000 in
theorem rspoilt (w : World) (v : Value) (ls : List (List UInt8)) (z : Int) (by0 : UInt8) (hv : ArgL w v ls) (hz0 : 0 ≤ z) (hz1 : z ≤ 65535) (hby : by0 ≠ 0) (hT : Tab w) (h0 : 0 < w.heap.size) :
    Calls Tryd.prog 7 #[v, .int .u16 z, .int .u8 (by0.toNat : Int)] w fun e w' => e = .returned (.bool true) ∧ Below w.heap.size w w' := by
  obtain ⟨i0, hi, hi0, hi1, hi2⟩ := info_parts info5
  obtain ⟨ao, cap, hvv, _⟩ := hv.places
  have HV : Hid (ArgL w v ls) := hv
  have HT : Hid (Tab w) := hT
  have H0 : Hid (0 < w.heap.size) := h0
  have HBY : Hid (by0 ≠ 0) := hby
  obtain ⟨nb, hnb⟩ : ∃ nb, by0.toNat = nb := ⟨_, rfl⟩
  have hnz : ¬ (nb : Int) = 0 := fun e => hby (UInt8.toNat_inj.1 (by rw [hnb]; have : nb = 0 := by omega
                                                                     rw [this]; rfl))
  have hnbq : ((nb : Int) == 0) = false := by simpa using hnz
  have hnl : nb < 256 := by rw [← hnb]; exact by0.toNat_lt
  have HNB : Hid (by0.toNat = nb ∧ nb < 256) := ⟨hnb, hnl⟩
  have hnI : (nb : Int) ≤ 255 := by omega
  rw [hnb]
  clear hv hT h0 hby hnb hnl
  subst hvv
  go_enter Tryd.func7, Tryd.ntmps7
  go_wp2_with fail
  refine (rawake_any w HT.out H0.out).mono ?_
  rintro e w1 ⟨rfl, hb1⟩
  have HB1 : Hid (Below w.heap.size w w1) := hb1
  have hv1 := HV.out.below hb1 (Nat.le_refl _)
  clear hb1
  go_wp2_with fail
  refine (few_any w1 _ ls 12 200 hv1 (by decide) (by decide)).mono ?_
  rintro e w2 ⟨x, rfl, oT, hb2⟩
  obtain ⟨T, hTT⟩ : ∃ T, fewT 12 200 ls = T := ⟨_, rfl⟩
  have HTL : Hid (T.length ≤ 12 ∧ ∀ l ∈ T, l.length ≤ 200) := ⟨by rw [← hTT]; exact few_len _ _ _, fun l hl => few_mem (by rw [hTT]; exact hl)⟩
  rw [hTT] at oT
  obtain ⟨ta, tc, rfl⟩ := oT.shape
  have HB2 : Hid (Below w.heap.size w w2) := HB1.out.trans (hb2.mono HB1.out.size)
  have OT : Hid (OwnT w1.heap.size w2 (.slice ta T.length tc) T) := oT
  obtain ⟨N, hN⟩ : ∃ N, T.length = N := ⟨_, rfl⟩
  rw [hN]
  rw [hN] at OT
  have HN : Hid (T.length = N) := hN
  have hN12 : N ≤ 12 := by rw [← hN]; exact HTL.out.1
  have hall := rall_any w2 _ T 200 OT.out.tex HTL.out.2 (by decide) (by have := HTL.out.1; omega)
  clear hv1 oT hb2 hTT hN
  go_wp2_with fail
  refine hall.mono ?_
  rintro e w3 ⟨pv, rfl, oP, hb3⟩
  obtain ⟨P, hPq⟩ : ∃ P, allB T [] = P := ⟨_, rfl⟩
  rw [hPq] at oP
  have HPQ : Hid (allB T [] = P) := hPq
  have hPl : P.length ≤ 5040 := by
    have h1 := allB_most 200 T [] HTL.out.2
    rw [hPq, HN.out] at h1
    simp at h1
    omega
  obtain ⟨pa, pc, rfl⟩ := oP.rd.len
  have HB3 : Hid (Below w.heap.size w w3) := HB2.out.trans (hb3.mono HB2.out.size)
  have OT3 : Hid (OwnT w1.heap.size w3 (.slice ta N tc) T) := OT.out.below hb3 (Nat.le_refl _)
  have HB23 : Hid (Below w2.heap.size w2 w3) := hb3
  by_cases hL0 : P.length = 0
  · rw [hL0]
    clear hall hb3 oP hPl
    go_wp2
    go_ret
    exact ⟨rfl, HB3.out⟩
  · obtain ⟨g, rfl, oP2⟩ := ownN_some oP (by omega)
    obtain ⟨L, hL⟩ : ∃ L, P.length = L := ⟨_, rfl⟩
    rw [hL] at hPl oP2 hL0 ⊢
    have HL : Hid (P.length = L) := hL
    have HOP : Hid (Own w2.heap.size w3 (.slice (some ⟨g, 0, none⟩) L pc) P) := oP2
    obtain ⟨k, hk, hkL⟩ := tmod_in z L hz0 (by omega)
    have hLI : (L : Int) ≤ 5040 := by omega
    have hLI0 : ¬ (L : Int) = 0 := by omega
    have hLbq : ((L : Int) == 0) = false := by simpa using hLI0
    have hkI : (k : Int) < (L : Int) := by omega
    have hkI0 : (0 : Int) ≤ (k : Int) := by omega
    have HKL : Hid (k < L ∧ L ≤ 5040) := ⟨hkL, hPl⟩
    have HPC : Hid (L ≤ pc ∧ pc ≤ maxLen) := by have h9 := oP2.caps; rw [hL] at h9; exact h9
    have HG : Hid (w2.heap.size ≤ g ∧ g < w3.heap.size) := oP2.lt
    have HS0 : Hid (SpI P (pcsAll 0 T) k 0 (pcsAll 0 T)) := by have h9 := sp_start T k; rw [hPq] at h9; exact h9
    have htc : Hid (N ≤ tc ∧ tc ≤ 9223372036854775807) := by
      obtain ⟨a', c', e, h1, h2, _⟩ := OT.out.tex
      cases e
      exact ⟨by rw [HN.out] at h1; exact h1, h2⟩
    clear hall hb3 oP oP2 hPq hL hL0 hPl hkL
    go_wp2_with fail
    go_loopg [9] L (fun gk iv wr => ∃ (a : Nat) (z1 : Int) (ps : List (UInt8 × List UInt8)), gk + a = L ∧ iv = .int .i64 z1 ∧ 0 ≤ z1 ∧ z1 ≤ 5040 ∧ Hid (z1 = (a : Int)) ∧ Hid (SpI P (pcsAll 0 T) k a ps) ∧ Hid (Below w3.heap.size w3 wr))
    case atStart => exact ⟨0, 0, pcsAll 0 T, by omega, rfl, by decide, by decide, rfl, HS0, Below.refl _ _⟩
    case round =>
      obtain ⟨a, z1, ps, ha, rfl, hz00, hz11, HZ, HSP, HBB⟩ := hrel
      by_cases hlt : a < L
      · obtain ⟨kd, t, ps', hpc, hle, hfit, hnext⟩ := sp_head HSP.out (by rw [HL.out]; exact hlt)
        obtain ⟨tl, htl⟩ : ∃ tl, t.length = tl := ⟨_, rfl⟩
        obtain ⟨a1, ha1⟩ : ∃ a1, a + gapN a = a1 := ⟨_, rfl⟩
        obtain ⟨lf, hlf⟩ : ∃ lf, leftN a = lf := ⟨_, rfl⟩
        rw [ha1] at hpc
        rw [ha1, htl] at hle hfit hnext
        obtain ⟨en, hen⟩ : ∃ en, a1 + 7 + tl = en := ⟨_, rfl⟩
        rw [hen] at hle hnext
        rw [HL.out] at hle
        obtain rfl : z1 = (a : Int) := HZ.out
        obtain ⟨rr, hr1, hr2, hr3, hr4, hr5, hr6⟩ := sp_rem a lf hlf
        obtain ⟨b1, b2, b3, b4, b5, b6, b7⟩ := sp_nums (a := a) hen hle HKL.out.2 (by omega)
        have hownr := HOP.out.below HBB.out (Nat.le_refl _)
        have hpf := rpiece_at wr a1 g 0 pc P hownr.cellsAt (Nat.lt_of_lt_of_le HG.out.2 HBB.out.size) b7 (by rw [HL.out]; exact HPC.out.1) HPC.out.2 (by rw [HL.out]; have := HKL.out; omega)
        rw [HL.out, hpc] at hpf
        have HM : Hid (L - en < gk ∧ L - en + en = L) := by show _ ∧ _; omega
        have HNX : Hid (k ≠ a1 + 4 → k ≠ a1 + 5 → SpI P (pcsAll 0 T) k en ps') := hnext
        have HEN : Hid (a1 + 7 + t.length = en) := by show _ = _; rw [htl]; exact hen
        have haL : (a : Int) < (L : Int) := by omega
        have HBW : Hid (Below w.heap.size w wr) := HB3.out.trans (HBB.out.mono HB3.out.size)
        have hstp : (lf < 7 ∧ (lf : Int) < 7 ∧ 57 < rr ∧ (a : Int) + (lf : Int) = (a1 : Int)) ∨ (¬ 57 < rr ∧ a1 = a) := by
          by_cases h7 : lf < 7
          · refine .inl ⟨h7, by omega, hr5 h7, ?_⟩
            have hga : gapN a = lf := by unfold gapN; rw [hlf, if_pos h7]
            omega
          · refine .inr ⟨hr6 h7, ?_⟩
            have hga : gapN a = 0 := by unfold gapN; rw [hlf, if_neg h7]
            omega
        have hkc : ((k : Int) = (a1 : Int) + 4) ∨ (¬ (k : Int) = (a1 : Int) + 4 ∧ (k : Int) = (a1 : Int) + 5) ∨ (¬ (k : Int) = (a1 : Int) + 4 ∧ ¬ (k : Int) = (a1 : Int) + 5) := by omega
        clear hpc hle hfit hnext ha1 hlf hen hownr htl hr5 hr6 b6 b7 ha hlt
        rcases hkc with hk4 | ⟨hk4, hk5⟩ | ⟨hk4, hk5⟩
        · rcases hstp with ⟨_, h7, h57, hsum⟩ | ⟨h57, hsum⟩
          all_goals
            first | subst hsum | skip
            go_wp2_with fail
            refine hpf.mono ?_
            rintro e' w5 ⟨hb5, y, rfl, oy⟩
            obtain ⟨y1, y2, rfl⟩ := oy.rd.len
            have HB5 : Hid (Below w.heap.size w w5) := HBW.out.trans (hb5.mono HBW.out.size)
            clear hb5 oy hpf
            go_wp2
            go_ret
            exact ⟨rfl, HB5.out⟩
        · have hbq4 : ((k : Int) == (a1 : Int) + 4) = false := by simpa using hk4
          rcases hstp with ⟨_, h7, h57, hsum⟩ | ⟨h57, hsum⟩
          all_goals
            first | subst hsum | skip
            go_wp2_with fail
            refine hpf.mono ?_
            rintro e' w5 ⟨hb5, y, rfl, oy⟩
            obtain ⟨y1, y2, rfl⟩ := oy.rd.len
            have HB5 : Hid (Below w.heap.size w w5) := HBW.out.trans (hb5.mono HBW.out.size)
            clear hb5 oy hpf
            go_wp2
            go_ret
            exact ⟨rfl, HB5.out⟩
        · have hbq4 : ((k : Int) == (a1 : Int) + 4) = false := by simpa using hk4
          have hbq5 : ((k : Int) == (a1 : Int) + 5) = false := by simpa using hk5
          have HSN : Hid (SpI P (pcsAll 0 T) k en ps') := HNX.out (by omega) (by omega)
          rcases hstp with ⟨_, h7, h57, hsum⟩ | ⟨h57, hsum⟩
          all_goals
            first | subst hsum | skip
            go_wp2_with fail
            refine hpf.mono ?_
            rintro e' w5 ⟨hb5, y, rfl, oy⟩
            obtain ⟨y1, y2, rfl⟩ := oy.rd.len
            rw [HEN.out]
            have HB5 : Hid (Below w3.heap.size w3 w5) := HBB.out.trans (hb5.mono HBB.out.size)
            clear hb5 oy hpf
            go_wp2_with fail
            go_roundg (L - en)
            case measure => exact HM.out.1
            case rel => exact ⟨en, (en : Int), ps', HM.out.2, rfl, b5, b3, rfl, HSN, HB5⟩
      · have hzL : ¬ z1 < (L : Int) := by rw [HZ.out]; omega
        have HOK : Hid (okK 0 (pcsAll 0 T) k) := sp_end HSP.out (by rw [HL.out]; omega)
        have HBW : Hid (Below w.heap.size w wr) := HB3.out.trans (HBB.out.mono HB3.out.size)
        have hownr := HOP.out.below HBB.out (Nat.le_refl _)
        have hkP : k < P.length := by rw [HL.out]; exact HKL.out.1
        obtain ⟨q, hq⟩ : ∃ q, P[k] = q := ⟨_, rfl⟩
        have hc := hownr.cell k hkP
        rw [hq] at hc
        have hfz := hownr.frozen k
        have hst := hownr.store k (q ^^^ by0)
        have hX : (q ^^^ by0).toNat = q.toNat ^^^ nb := by rw [UInt8.toNat_xor, HNB.out.1]
        have hx8 := u8_xor_nat q.toNat nb q.toNat_lt HNB.out.2
        rw [← hX] at hx8
        obtain ⟨vv, hvv⟩ : ∃ vv, q ^^^ by0 = vv := ⟨_, rfl⟩
        rw [hvv] at hst hx8
        have HNE : Hid (P[k]? ≠ some vv) := by
          show _ ≠ _
          rw [List.getElem?_eq_getElem hkP, hq, ← hvv]
          intro h
          exact xor_neq q by0 HBY.out (Option.some.inj h).symm
        obtain ⟨r, hr⟩ : ∃ r, vv.toNat = r := ⟨_, rfl⟩
        have hrl : (r : Int) ≤ 255 := by have := vv.toNat_lt; omega
        rw [hr] at hst hx8
        obtain ⟨nq, hnq⟩ : ∃ nq, q.toNat = nq := ⟨_, rfl⟩
        have hql : (nq : Int) ≤ 255 := by have := q.toNat_lt; omega
        rw [hnq] at hc hx8
        have HB2R : Hid (Below w2.heap.size w2 wr) := HB23.out.trans (HBB.out.mono HB23.out.size)
        have HB24 : Hid (Below w2.heap.size w2 (wr.setCell ⟨g, k, none⟩ (.int .u8 (r : Int)))) := HB2R.out.setCell (p := ⟨g, k, none⟩) HG.out.1 _
        have HBW4 : Hid (Below w.heap.size w (wr.setCell ⟨g, k, none⟩ (.int .u8 (r : Int)))) := HB2.out.trans (HB24.out.mono HB2.out.size)
        have OT4 : Hid (OwnT w1.heap.size (wr.setCell ⟨g, k, none⟩ (.int .u8 (r : Int))) (.slice ta N tc) T) := OT.out.below HB24.out (Nat.le_refl _)
        have hrd := read_any _ _ (P.set k vv) hst.rd (fun b e => by cases e; exact hst.lt.2) (by rw [List.length_set, HL.out]; have := HKL.out; omega) (HT.out.below HBW4.out (Nat.le_refl _))
        unfold ReadPost at hrd
        obtain ⟨G, hG⟩ : ∃ G, (readB (P.set k vv)).1 = G := ⟨_, rfl⟩
        obtain ⟨n, hn⟩ : ∃ n, readN (P.set k vv) = n := ⟨_, rfl⟩
        rw [hG, hn] at hrd
        have HGN : Hid ((readB (P.set k vv)).1 = G ∧ readN (P.set k vv) = n) := ⟨hG, hn⟩
        have hn5040 : n ≤ 5040 := by
          have h9 := (readN_bd (P.set k vv)).2
          rw [hn, List.length_set, HL.out] at h9
          have := HKL.out
          omega
        have hnI2 : (n : Int) ≤ 5040 := by omega
        clear hownr hkP hq hX hvv hr hnq hst hG hn hn5040 HSP HZ
        go_wp2_with fail
        clear hc hfz hx8 hrl hql
        refine hrd.mono ?_
        rintro e w5 ⟨hb5, y, rfl, oy⟩
        obtain ⟨ya, yc, rfl⟩ := oy.shape
        obtain ⟨ml, hml⟩ : ∃ ml, G.length = ml := ⟨_, rfl⟩
        rw [hml] at oy ⊢
        have HML : Hid (G.length = ml) := hml
        have OG : Hid (OwnT (wr.setCell ⟨g, k, none⟩ (.int .u8 (r : Int))).heap.size w5 (.slice ya ml yc) G) := oy
        have OT5 : Hid (OwnT w1.heap.size w5 (.slice ta N tc) T) := OT4.out.below hb5 (Nat.le_refl _)
        have HBW5 : Hid (Below w.heap.size w w5) := HBW4.out.trans (hb5.mono HBW4.out.size)
        clear hrd hb5 oy hml OT4 HBW4 HB24 HB2R
        go_wp2_with fail
        go_loopg [16, 84] N (fun gk2 wv iv wr2 => ∃ (j wh : Nat), gk2 + j = N ∧ iv = .int .i64 (j : Int) ∧ wv = .int .i64 (wh : Int) ∧ Hid (CutI w5 wr2 T k j wh))
        case atStart => exact ⟨0, 0, by omega, rfl, rfl, ⟨Nat.le_refl _, by rw [offT_zero]; exact Nat.zero_le _, fun i h1 h2 => by omega, Below.refl _ _⟩⟩
        case round =>
          obtain ⟨j, wh, hj, rfl, rfl, HC⟩ := hrel
          by_cases hlt2 : j < N
          · obtain ⟨q1, q2⟩ := gk_nxt hj hlt2
            have hjt : (j : Int) + 1 ≤ (tc : Int) := by have := htc.out; omega
            have hjI : (j : Int) ≤ 12 := by omega
            have htx := (OT5.out.tex.below HC.out.be (Nat.le_refl _)).take (j + 1) (by rw [HN.out]; omega)
            have hal := rall_any _ _ (T.take (j + 1)) 200 htx (fun l hl => HTL.out.2 l (List.mem_of_mem_take hl)) (by decide) (by have := HTL.out.1; rw [List.length_take]; omega)
            obtain ⟨O, hO⟩ : ∃ O, offT T (j + 1) = O := ⟨_, rfl⟩
            have hOl : O ≤ 5040 := by
              have h1 := offT_mono T (j + 1) N (by omega) (by rw [HN.out]; exact Nat.le_refl _)
              rw [hO] at h1
              have h2 : offT T N = L := by unfold offT; rw [← HN.out, List.take_length, HPQ.out, HL.out]
              have := HKL.out
              omega
            have hOI : (O : Int) ≤ 5040 := by omega
            have HO : Hid (offT T (j + 1) = O) := hO
            by_cases hoc : O ≤ k
            · have hocI : (O : Int) ≤ (k : Int) := by omega
              clear htx hO hOl
              go_wp2_with fail
              refine hal.mono ?_
              rintro e w6 ⟨y6, rfl, oy6, hb6⟩
              have hyl : (allB (T.take (j + 1)) []).length = O := HO.out
              obtain ⟨ya6, yc6, hy6⟩ := oy6.rd.len
              rw [hyl] at hy6
              subst hy6
              have HB6 : Hid (Below w5.heap.size w5 w6) := HC.out.be.trans (hb6.mono HC.out.be.size)
              clear hal hb6 oy6 hyl
              go_wp2_with fail
              go_roundg (gk - 1)
              case measure => exact q1
              case rel => exact ⟨j + 1, j + 1, q2, by go_num, by go_num, cut_yes HC.out (by rw [HO.out]; exact hoc) HB6.out⟩
            · have hocI : ¬ (O : Int) ≤ (k : Int) := by omega
              clear htx hO hOl
              go_wp2_with fail
              refine hal.mono ?_
              rintro e w6 ⟨y6, rfl, oy6, hb6⟩
              have hyl : (allB (T.take (j + 1)) []).length = O := HO.out
              obtain ⟨ya6, yc6, hy6⟩ := oy6.rd.len
              rw [hyl] at hy6
              subst hy6
              have HB6 : Hid (Below w5.heap.size w5 w6) := HC.out.be.trans (hb6.mono HC.out.be.size)
              clear hal hb6 oy6 hyl
              go_wp2_with fail
              go_roundg (gk - 1)
              case measure => exact q1
              case rel => exact ⟨j + 1, wh, q2, by go_num, rfl, cut_no HC.out (by rw [HO.out]; exact hoc) HB6.out⟩
          · have hjN : j = N := by omega
            subst hjN
            have hwN : wh < T.length := by
              have h1 := HC.out.le
              rw [HN.out]
              by_cases e : wh = j
              · exfalso
                have h2 : offT T j = L := by unfold offT; rw [← HN.out, List.take_length, HPQ.out, HL.out]
                have h3 := HC.out.ok
                rw [e, h2] at h3
                have := HKL.out
                omega
              · omega
            have hrs := read_spoilt T k wh vv (fun r hr => by have := HTL.out.2 r hr; omega) hwN HC.out.ok (HC.out.no (wh + 1) (by omega) (by rw [HN.out] at hwN; omega)) (by rw [HPQ.out]; exact HNE.out) HOK.out
            rw [HPQ.out] at hrs
            have hGT : G = T.take wh := by rw [← HGN.out.1, hrs.1]
            have hnk : n ≤ k := by rw [← HGN.out.2]; exact hrs.2
            have hmw : ml = wh := by rw [← HML.out, hGT, List.length_take]; omega
            have hnkI : (n : Int) ≤ (k : Int) := by omega
            have hwt : (wh : Int) ≤ (tc : Int) := by have := htc.out; have := HC.out.le; omega
            subst hmw
            have h8 := (OG.out.below HC.out.be (Nat.le_refl _)).rd
            rw [hGT] at h8
            have hsm := sameT_any wr _ _ (T.take ml) (T.take ml) true h8 ((OT5.out.below HC.out.be (Nat.le_refl _)).takeRd ml (by omega)) (by simp)
            have HB10 : Hid (Below w.heap.size w wr) := HBW5.out.trans (HC.out.be.mono HBW5.out.size)
            clear hrs hGT hnk hj hlt2 hwN HC h8
            go_wp2_with fail
            refine hsm.mono ?_
            rintro e w10 ⟨rfl, n10, hw10⟩
            have HB11 : Hid (Below w.heap.size w w10) := by rw [hw10]; exact below_drewN' HB10.out _
            clear hsm hw10
            go_wp2
            go_ret
            exact ⟨rfl, HB11.out⟩

theorem reelSpoilt_walk (a0 : Option Addr) (len0 cap0 : Nat) (z0 : List (List UInt8)) (z : Int) (bz : Int) (w : World) (w0 : ArgL w (.slice a0 len0 cap0) z0) (wz : (Lit.int .u16 z).wf = true) (wb : (Lit.int .u8 bz).wf = true) (ht : Tab w) :
    Calls Tryd.prog 7 #[.slice a0 len0 cap0, .int .u16 z, .int .u8 bz] w fun e w' => e = .returned (.bool true) ∧ Below w.heap.size w w' := by
  have hb := bounds_u16 wz
  have h2 := bounds_u8 wb
  have h0 := World.block_lt_of_cell? w _ (ht 0 (by decide))
  by_cases hz : bz = 0
  · subst hz
    exact rspoilt_zero w _ z ht h0
  · obtain ⟨b, rfl⟩ : ∃ b : UInt8, bz = (b.toNat : Int) := ⟨UInt8.ofNat bz.toNat, by simp; omega⟩
    exact rspoilt w _ z0 z b w0 hb.1 hb.2 (fun e => hz (by rw [e]; rfl)) ht h0

end Go.Proofs.YtppoimmoohfbnaaDoor
