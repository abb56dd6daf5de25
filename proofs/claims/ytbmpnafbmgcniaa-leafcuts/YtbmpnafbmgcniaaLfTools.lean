/- leaf.num, word, common, formOf, packed. -/
import Derived.Test.YtbmpnafbmgcniaaLfPure
import Derived.Test.YtbmpnafbmgcniaaJoin
import Derived.Test.YtbmpnafbmgcniaaSmall2
import Derived.BigQuiet
namespace Go.Proofs.Ytbmpnafbmgcniaa
set_option maxRecDepth 20000
open Go.RowKit
set_option linter.unusedVariables false

theorem lnum_any (w : World) (n : Nat) (h : n ≤ 1000000) :
    Calls Try.prog 48 #[.int .i64 (n : Int)] w fun e w' => ∃ v, e = .returned v ∧ Own w.heap.size w' v (Mth.numB n) ∧ Below w.heap.size w w' := by
  have hn := num_any n w (by omega)
  have hw : IntKind.u64.wrap (n : Int) = (n : Int) := by rw [IntKind.wrap_u64]; omega
  go_enter Try.func48, Try.ntmps48
  go_wp2_with fail
  refine hn.mono ?_
  rintro e w1 ⟨v, rfl, ov, hb⟩
  clear hn
  go_wp2
  go_ret
  exact ⟨_, rfl, ov, hb⟩

theorem byte_of (n : Nat) : ((UInt8.ofNat n).toNat : Int) = ((n % 256 : Nat) : Int) := by simp

theorem lword_any (w : World) (n : Nat) (h : n < 65536) :
    Calls Try.prog 34 #[.int .i64 (n : Int)] w fun e w' => ∃ v, e = .returned v ∧ Own w.heap.size w' v (wordB n) ∧ Below w.heap.size w w' := by
  have hq : (n : Int) / 256 = ((n / 256 : Nat) : Int) := by omega
  obtain ⟨q, hqq⟩ : ∃ q, n / 256 = q := ⟨_, rfl⟩
  rw [hqq] at hq
  have hq2 : q < 256 := by omega
  have hw1 : IntKind.u8.wrap (n : Int) = ((n % 256 : Nat) : Int) := by rw [IntKind.wrap_u8]; omega
  obtain ⟨r, hrr⟩ : ∃ r, n % 256 = r := ⟨_, rfl⟩
  rw [hrr] at hw1
  have hr2 : r < 256 := by omega
  have hw2 : IntKind.u8.wrap (q : Int) = (q : Int) := by rw [IntKind.wrap_u8]; omega
  have HE : Hid (wordB n = [UInt8.ofNat r, UInt8.ofNat q]) := by show _ = _; unfold wordB; rw [hqq, hrr]
  have hl : Own w.heap.size (w.alloc (.cells #[.int .u8 (r : Int), .int .u8 (q : Int)] 5)) (.slice (some ⟨w.heap.size, 0, none⟩) 2 2) [UInt8.ofNat r, UInt8.ofNat q] :=
    own_lit w w.heap.size (Nat.le_refl _) [UInt8.ofNat r, UInt8.ofNat q] (by simp [maxLen]) _ (by simp [bv]; omega)
  have HL : Hid _ := hl
  have hb := below_box4 w (.cells #[.int .u8 (r : Int), .int .u8 (q : Int)] 5)
  have HB : Hid _ := hb
  clear hqq hrr hl hb
  go_enter Try.func34, Try.ntmps34
  go_wp2
  go_ret
  exact ⟨_, rfl, by rw [HE.out]; exact HL.out, HB.out⟩

theorem lform_any (w : World) (v : Value) (l : List UInt8) (s k : Nat) (hv : Rd w v l) (hs : s ≤ 72057594037927935) (hk : k < 256) (hc : chk l.length s k = 0) (hl : l.length ≤ 64) :
    Calls Try.prog 32 #[.agg #[v, .int .u64 (s : Int), .int .u8 (k : Int)]] w fun e w' => ∃ x, e = .returned x ∧ Rd w' x (l ++ tailB s k) ∧ From w.heap.size x ∧ Below w.heap.size w w' := by
  obtain ⟨ao, cap, rfl⟩ := hv.len
  obtain ⟨n, hn⟩ : ∃ n, l.length = n := ⟨_, rfl⟩
  have hb0 := below_box w #[.slice ao l.length cap, .int .u64 (s : Int), .int .u8 (k : Int)] 37
  have hkb := keybytes_ok (w.alloc (.cells #[.slice ao l.length cap, .int .u64 (s : Int), .int .u8 (k : Int)] 37)) _ l s k (hv.below hb0 (Nat.le_refl _)) hs hk hc hl
  have BX := box_new w (.slice ao l.length cap) (.int .u64 (s : Int)) (.int .u8 (k : Int)) 37
  have BX' := BX
  obtain ⟨L, hL⟩ : ∃ L, (keyB l s k).length = L := ⟨_, rfl⟩
  have hn1 : Mth.numB l.length = [UInt8.ofNat l.length] := by unfold Mth.numB; rw [if_pos (by omega)]
  have hLn : L = n + 9 := by rw [← hL, ← hn]; unfold keyB textB; rw [hn1]; simp [tailB_len]
  have HD : Hid ((keyB l s k).drop 1 = l ++ tailB s k) := by show _ = _; unfold keyB textB; rw [hn1]; rfl
  rw [hn] at hkb hb0 BX BX' hl ⊢
  have HB0 : Hid _ := hb0
  have HL : Hid ((keyB l s k).length = L) := hL
  have e1 : (L : Int) - 8 = ((n + 1 : Nat) : Int) := by omega
  obtain ⟨A, hA⟩ : ∃ A, n + 1 = A := ⟨_, rfl⟩
  rw [hA] at e1
  have e2 : (A : Int) - (n : Int) = 1 := by omega
  have hL1 : (1 : Int) ≤ (L : Int) := by omega
  have hL2 : (L : Int) ≤ 1000 := by omega
  have hA1 : (A : Int) ≤ 1000 := by omega
  have hA0 : (0 : Int) ≤ (A : Int) := by omega
  have HLN : Hid (L = n + 9) := hLn
  clear hv hc hL hn hA hLn hb0 hn1
  obtain ⟨c0, c1, c2, _⟩ := BX'
  go_enter Try.func32, Try.ntmps32
  go_wp2_with fail
  refine hkb.mono ?_
  rintro e w1 ⟨x, rfl, ox, hb1⟩
  obtain ⟨g, kc, rfl⟩ := ox.shape
  rw [HL.out] at ox ⊢
  clear c0 c1 c2
  obtain ⟨c0, c1, c2, _⟩ := BX.below hb1 (Nat.le_refl _)
  have hcap : Hid (L ≤ kc ∧ kc ≤ maxLen) := by
    obtain ⟨g', k', c', e, _, _, h1, h2, _⟩ := ox
    simp only [Value.slice.injEq] at e
    obtain ⟨_, _, rfl⟩ := e
    rw [HL.out] at h1
    exact ⟨h1, h2⟩
  have hck : (1 : Int) ≤ (kc : Int) := by have := hcap.out.1; omega
  have hck1 : ¬ kc = 1 := by have := hcap.out.1; have := HLN.out; omega
  have hck2 : ¬ (kc : Int) = 1 := by omega
  have hLk : (L : Int) ≤ (kc : Int) := by have := hcap.out.1; omega
  have HOX : Hid _ := ox
  have HB1 : Hid _ := bsplit HB0.out hb1
  clear hkb hb1 BX ox
  go_wp2
  go_ret
  refine ⟨_, rfl, ?_, from_at (Nat.le_trans (Nat.le_succ _) (by have := (Own.lt (show Own _ w1 (.slice (some ⟨g, 0, none⟩) L kc) (keyB l s k) from HOX.out)).1; simpa using this)), HB1.out⟩
  have h9 := Own.spots (show Own _ w1 (.slice (some ⟨g, 0, none⟩) L kc) (keyB l s k) from HOX.out)
  have h8 := rd_sub h9 1 (L - 1) (kc - 1) (by have := hcap.out; omega) (by have := hcap.out; omega) (by rw [HL.out]; have := HLN.out; omega)
  rw [List.take_of_length_le (by rw [List.length_drop, HL.out]; exact Nat.le_refl _), HD.out] at h8
  exact h8

set_option maxHeartbeats 4000000 in
theorem lcommon_any (w : World) (va vb : Value) (l m : List UInt8) (ha : Rd w va l) (hb : Rd w vb m) :
    Calls Try.prog 33 #[va, vb] w fun e w' => e = .returned (.int .i64 (comN l m : Int)) ∧ Below w.heap.size w w' := by
  obtain ⟨a1, a2, rfl, h1, h2, h3⟩ := Rd.spots ha
  obtain ⟨b1, b2, rfl, k1, k2, k3⟩ := Rd.spots hb
  obtain ⟨N, hN⟩ : ∃ N, l.length = N := ⟨_, rfl⟩
  obtain ⟨M, hM⟩ : ∃ M, m.length = M := ⟨_, rfl⟩
  rw [hN] at h1 ⊢
  rw [hM] at k1 ⊢
  have HNM : Hid (l.length = N ∧ m.length = M) := ⟨hN, hM⟩
  have H3 : Hid _ := h3
  have K3 : Hid _ := k3
  clear hN hM h3 k3 ha hb
  go_enter Try.func33, Try.ntmps33
  go_wp2_with fail
  go_loopg [5] N (fun gk iv wr => ∃ j : Nat, gk + j = N ∧ j ≤ M ∧ iv = .int .i64 (j : Int) ∧ Hid (∀ i, i < j → l[i]? = m[i]?) ∧ Hid (Below w.heap.size w wr))
  case atStart => exact ⟨0, by omega, by omega, rfl, fun i h => absurd h (Nat.not_lt_zero _), Below.refl _ _⟩
  case round =>
    obtain ⟨j, hj, hjM, rfl, HS, HW⟩ := hrel
    have HEND : Hid ((j < N → j < M → l[j]? ≠ m[j]?) → comN l m = j) := fun h => comN_is j l m (by rw [HNM.out.1]; omega) (by rw [HNM.out.2]; omega) HS.out (by rw [HNM.out.1, HNM.out.2]; exact h)
    by_cases hlt : j < N
    · have hltI : (j : Int) < (N : Int) := by omega
      by_cases hlt2 : j < M
      · have hltI2 : (j : Int) < (M : Int) := by omega
        have l1 : j < l.length := by rw [HNM.out.1]; exact hlt
        have l2 : j < m.length := by rw [HNM.out.2]; exact hlt2
        obtain ⟨p, o, rfl, hc⟩ := H3.out j l1
        obtain ⟨p', o', rfl, hd⟩ := K3.out j l2
        have hc' : wr.cell? ⟨p, o + j, none⟩ = some (.int .u8 ((l[j]).toNat : Int)) := (HW.out.cell (p := ⟨p, o + j, none⟩) (World.block_lt_of_cell? w _ hc)).trans hc
        have hd' : wr.cell? ⟨p', o' + j, none⟩ = some (.int .u8 ((m[j]).toNat : Int)) := (HW.out.cell (p := ⟨p', o' + j, none⟩) (World.block_lt_of_cell? w _ hd)).trans hd
        obtain ⟨x, hx⟩ : ∃ x, ((l[j]).toNat : Int) = x := ⟨_, rfl⟩
        obtain ⟨y, hy⟩ : ∃ y, ((m[j]).toNat : Int) = y := ⟨_, rfl⟩
        have HXY : Hid (x = y ↔ l[j] = m[j]) := by show _ ↔ _; rw [← hx, ← hy]; exact byteI
        rw [hx] at hc'
        rw [hy] at hd'
        obtain ⟨q1, q2⟩ := gk_nxt hj hlt
        clear hc hd hx hy
        by_cases hxy : x = y
        · subst hxy
          have HS2 : Hid (∀ i, i < j + 1 → l[i]? = m[i]?) := fun i hi => by
            by_cases e : i = j
            · subst e; rw [List.getElem?_eq_getElem l1, List.getElem?_eq_getElem l2, HXY.out.1 rfl]
            · exact HS.out i (by omega)
          go_wp2_with fail
          go_quiet (fail)
          go_wp2_with fail
          go_roundg (gk - 1)
          case measure => exact q1
          case rel => exact ⟨j + 1, q2, by omega, by go_num, HS2, below_drewN HW.out _⟩
        · have HF : Hid (comN l m = j) := HEND.out fun _ _ e => hxy (HXY.out.2 (by rw [List.getElem?_eq_getElem l1, List.getElem?_eq_getElem l2] at e; exact Option.some.inj e))
          go_wp2_with fail
          go_quiet (fail)
          go_wp2
          go_ret
          exact ⟨ret_int (by rw [HF.out]), below_drewN HW.out _⟩
      · have hltI2 : ¬ (j : Int) < (M : Int) := by omega
        have hlb2 : decide ((j : Int) < (M : Int)) = false := decide_eq_false hltI2
        have HF : Hid (comN l m = j) := HEND.out fun _ h => absurd h hlt2
        go_wp2_with fail
        go_quiet (fail)
        go_wp2
        go_ret
        exact ⟨ret_int (by rw [HF.out]), below_drewN HW.out _⟩
    · have hltI : ¬ (j : Int) < (N : Int) := by omega
      have hlb : decide ((j : Int) < (N : Int)) = false := decide_eq_false hltI
      have HF : Hid (comN l m = j) := HEND.out fun h => absurd h hlt
      go_wp2_with fail
      go_quiet (fail)
      go_wp2
      go_ret
      exact ⟨ret_int (by rw [HF.out]), below_drewN HW.out _⟩

set_option maxHeartbeats 4000000 in
theorem lpacked_any (w : World) (n : Nat) (vf vv : Value) (f v : List UInt8) (hf : Rd w vf (f.drop n)) (hv : Rd w vv v) (hn : n ≤ f.length) (hfl : f.length ≤ 100000) (hvl : v.length ≤ 100000) :
    Calls Try.prog 35 #[.int .i64 (n : Int), vf, vv] w fun e w' => ∃ x, e = .returned x ∧ Own w.heap.size w' x (packB n f v) ∧ Below w.heap.size w w' := by
  obtain ⟨a1, a2, rfl⟩ := hf.len
  obtain ⟨b1, b2, rfl⟩ := hv.len
  obtain ⟨N, hN⟩ : ∃ N, (f.drop n).length = N := ⟨_, rfl⟩
  obtain ⟨M, hM⟩ : ∃ M, v.length = M := ⟨_, rfl⟩
  have hNN : N = f.length - n := by rw [← hN, List.length_drop]
  have HE : Hid (packB n f v = [Mth.numB n, Mth.numB N, Mth.numB M, f.drop n, v].flatten) := by show _ = _; unfold packB; rw [← hNN, hM]; simp
  rw [hN] at hf ⊢
  rw [hM] at hv ⊢
  have HFV : Hid (Rd w (.slice a1 N a2) (f.drop n) ∧ Rd w (.slice b1 M b2) v) := ⟨hf, hv⟩
  have HLL : Hid (n ≤ 100000 ∧ N ≤ 100000 ∧ M ≤ 100000) := ⟨by omega, by omega, by omega⟩
  have HLF : Hid (([Mth.numB n, Mth.numB N, Mth.numB M, f.drop n, v].flatten).length ≤ 1099511627776) := by
    have h1 := Mth.numL_bd n
    have h2 := Mth.numL_bd N
    have h3 := Mth.numL_bd M
    show _ ≤ _
    simp only [List.flatten_cons, List.flatten_nil, List.append_nil, List.length_append, Mth.numB_length, hN, hM]
    omega
  clear hf hv hN hM hNN
  go_enter Try.func35, Try.ntmps35
  go_wp2_with fail
  refine (lnum_any w n (by have := HLL.out; omega)).mono ?_
  rintro e w1 ⟨v1, rfl, o1, hb1⟩
  obtain ⟨g1, c1, rfl⟩ := o1.shape
  have HB1 : Hid (Below w.heap.size w w1) := hb1
  clear hb1
  go_wp2_with fail
  refine (lnum_any w1 N (by have := HLL.out; omega)).mono ?_
  rintro e w2 ⟨v2, rfl, o2, hb2⟩
  obtain ⟨g2, c2, rfl⟩ := o2.shape
  have HB2 : Hid (Below w.heap.size w w2) := bsplit HB1.out hb2
  have o12 := o1.below hb2 (Nat.le_refl _)
  clear hb2 o1
  go_wp2_with fail
  refine (lnum_any w2 M (by have := HLL.out; omega)).mono ?_
  rintro e w3 ⟨v3, rfl, o3, hb3⟩
  obtain ⟨g3, c3, rfl⟩ := o3.shape
  have HB3 : Hid (Below w.heap.size w w3) := bsplit HB2.out hb3
  have hrl := rdl_many w3 [.slice (some ⟨g1, 0, none⟩) (Mth.numB n).length c1, .slice (some ⟨g2, 0, none⟩) (Mth.numB N).length c2, .slice (some ⟨g3, 0, none⟩) (Mth.numB M).length c3, .slice a1 N a2, .slice b1 M b2] [Mth.numB n, Mth.numB N, Mth.numB M, f.drop n, v] 5 rfl rfl (by decide) (by decide) (by
    intro j h1 h2
    match j, h1, h2 with
    | 0, _, _ => exact (o12.below hb3 (Nat.le_refl _)).rd
    | 1, _, _ => exact (o2.below hb3 (Nat.le_refl _)).rd
    | 2, _, _ => exact o3.rd
    | 3, _, _ => exact HFV.out.1.below HB3.out (Nat.le_refl _)
    | 4, _, _ => exact HFV.out.2.below HB3.out (Nat.le_refl _)
    | (j + 5), h1, _ => exact absurd h1 (by simp))
  have hj := join_any _ _ _ hrl HLF.out
  obtain ⟨PK, hPK⟩ : ∃ PK, [Mth.numB n, Mth.numB N, Mth.numB M, f.drop n, v].flatten = PK := ⟨_, rfl⟩
  rw [hPK] at hj HE
  have hba := below_box4 w3 (.cells #[.slice (some ⟨g1, 0, none⟩) (Mth.numB n).length c1, .slice (some ⟨g2, 0, none⟩) (Mth.numB N).length c2, .slice (some ⟨g3, 0, none⟩) (Mth.numB M).length c3, .slice a1 N a2, .slice b1 M b2] 26)
  have HBA : Hid _ := bsplit HB3.out hba
  clear hb3 o12 o2 o3 hrl hba hPK
  go_wp2_with fail
  refine hj.mono ?_
  rintro e w4 ⟨v4, rfl, o4, hb4⟩
  obtain ⟨g4, c4, rfl⟩ := o4.shape
  have HB4 : Hid _ := bsplit HBA.out hb4
  have HO : Hid (Own w.heap.size w4 (.slice (some ⟨g4, 0, none⟩) PK.length c4) PK) := o4.mono HBA.out.size
  clear hj hb4 o4
  go_wp2
  go_ret
  exact ⟨_, rfl, by rw [HE.out]; exact HO.out, HB4.out⟩

end Go.Proofs.Ytbmpnafbmgcniaa
