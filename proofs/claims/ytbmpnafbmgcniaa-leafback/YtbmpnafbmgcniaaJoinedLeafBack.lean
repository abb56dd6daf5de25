/- Several texts in one. -/
import Derived.Test.YtbmpnafbmgcniaaHeld
import Derived.Test.YtbmpnafbmgcniaaLfPure
import Derived.Test.YtbmpnafbmgcniaaJoin
import Derived.BigQuiet
import Derived.Test.YtbmpnafbmgcniaaLfRdPure
import Derived.Test.YtbmpnafbmgcniaaTake2
import Derived.Test.YtbmpnafbmgcniaaEnRow
import Derived.Test.YtbmpnafbmgcniaaClone
import Derived.Test.YtbmpnafbmgcniaaLfForm
import Derived.Test.YtbmpnafbmgcniaaSame
import Derived.Test.YtbmpnafbmgcniaaConvStr
import Derived.Deep.AppendLies
import Derived.Deep.AppendSrc
import Derived.Test.YtbmpnafbmgcniaaKeyCmp

/- Small things, of rounds behind the sixth. -/
namespace Go.Proofs.Ytbmpnafbmgcniaa
open Go.RowKit

theorem Rd.spots {w : World} {v : Value} {l : List UInt8} (h : Rd w v l) : ∃ ao cap, v = .slice ao l.length cap ∧ l.length ≤ cap ∧ cap ≤ 9223372036854775807 ∧ ∀ j (h : j < l.length), ∃ b off, ao = some ⟨b, off, none⟩ ∧ w.cell? ⟨b, off + j, none⟩ = some (.int .u8 ((l[j]).toNat : Int)) := by
  rcases h with ⟨rfl, rfl⟩ | ⟨b, off, cap, rfl, h1, h2, h3⟩
  · exact ⟨none, 0, rfl, Nat.le_refl _, by omega, fun j h => absurd h (Nat.not_lt_zero _)⟩
  · exact ⟨_, cap, rfl, h1, by unfold maxLen at h2; omega, fun j h => ⟨b, off, rfl, h3 j _ (bv_get l j h)⟩⟩

theorem Own.spots {B : Nat} {w : World} {g n k : Nat} {l : List UInt8} (h : Own B w (.slice (some ⟨g, 0, none⟩) n k) l) : ∀ j u, (bv l)[j]? = some u → w.cell? ⟨g, 0 + j, none⟩ = some u := fun j u hu => by
  have := (rd_cells h.rd).2 j u hu
  rwa [Addr.add_lit] at this

/-- texts in a row, as a literal lays them -/
theorem rdl_many (w : World) (vs : List Value) (ls : List (List UInt8)) (n : Nat) (hl : vs.length = n) (hl2 : ls.length = n) (hm : n ≤ maxLen) (hn : 0 < n) (h : ∀ j (h1 : j < vs.length) (h2 : j < ls.length), Rd w vs[j] ls[j]) :
    RdL (w.alloc (.cells vs.toArray 26)) (.slice (some ⟨w.heap.size, 0, none⟩) n n) ls := by
  subst hl2
  refine .inr ⟨w.heap.size, 0, _, rfl, Nat.le_refl _, hm, fun j hj => ?_⟩
  refine ⟨vs[j]'(by omega), ?_, (h j (by omega) hj).below (below_box4 w _) (Nat.le_refl _)⟩
  have h0 := heap_alloc_new w (.cells vs.toArray 26)
  rw [cell_of_row _ _ _ _ _ _ h0]
  simp

theorem byteI {a b : UInt8} : ((a.toNat : Int) = (b.toNat : Int)) ↔ a = b := ⟨fun h => UInt8.toNat_inj.1 (by omega), fun h => by rw [h]⟩

end Go.Proofs.Ytbmpnafbmgcniaa

/- leaf.num, word, common, formOf, packed. -/
namespace Go.Proofs.Ytbmpnafbmgcniaa
set_option maxRecDepth 20000
open Go.RowKit
set_option linter.unusedVariables false

theorem lnum_any (w : World) (n : Nat) (h : n ≤ 1000000) :
    Calls Try.prog 48 #[.int .i64 (n : Int)] w fun e w' => ∃ v, e = .returned v ∧ Own w.heap.size w' v (Mth.numB n) ∧ Below w.heap.size w w' := by
  have hn := num_any n w (by omega)
  have hw : IntKind.u64.wrap (n : Int) = (n : Int) := by rw [IntKind.wrap_u64]; omega
  go_enter Try.func48, Try.ntmps48
  go_wp2_with fail
  refine hn.mono ?_
  rintro e w1 ⟨v, rfl, ov, hb⟩
  clear hn
  go_wp2
  go_ret
  exact ⟨_, rfl, ov, hb⟩

theorem byte_of (n : Nat) : ((UInt8.ofNat n).toNat : Int) = ((n % 256 : Nat) : Int) := by simp

theorem lword_any (w : World) (n : Nat) (h : n < 65536) :
    Calls Try.prog 34 #[.int .i64 (n : Int)] w fun e w' => ∃ v, e = .returned v ∧ Own w.heap.size w' v (wordB n) ∧ Below w.heap.size w w' := by
  have hq : (n : Int) / 256 = ((n / 256 : Nat) : Int) := by omega
  obtain ⟨q, hqq⟩ : ∃ q, n / 256 = q := ⟨_, rfl⟩
  rw [hqq] at hq
  have hq2 : q < 256 := by omega
  have hw1 : IntKind.u8.wrap (n : Int) = ((n % 256 : Nat) : Int) := by rw [IntKind.wrap_u8]; omega
  obtain ⟨r, hrr⟩ : ∃ r, n % 256 = r := ⟨_, rfl⟩
  rw [hrr] at hw1
  have hr2 : r < 256 := by omega
  have hw2 : IntKind.u8.wrap (q : Int) = (q : Int) := by rw [IntKind.wrap_u8]; omega
  have HE : Hid (wordB n = [UInt8.ofNat r, UInt8.ofNat q]) := by show _ = _; unfold wordB; rw [hqq, hrr]
  have hl : Own w.heap.size (w.alloc (.cells #[.int .u8 (r : Int), .int .u8 (q : Int)] 5)) (.slice (some ⟨w.heap.size, 0, none⟩) 2 2) [UInt8.ofNat r, UInt8.ofNat q] :=
    own_lit w w.heap.size (Nat.le_refl _) [UInt8.ofNat r, UInt8.ofNat q] (by simp [maxLen]) _ (by simp [bv]; omega)
  have HL : Hid _ := hl
  have hb := below_box4 w (.cells #[.int .u8 (r : Int), .int .u8 (q : Int)] 5)
  have HB : Hid _ := hb
  clear hqq hrr hl hb
  go_enter Try.func34, Try.ntmps34
  go_wp2
  go_ret
  exact ⟨_, rfl, by rw [HE.out]; exact HL.out, HB.out⟩

theorem lform_any (w : World) (v : Value) (l : List UInt8) (s k : Nat) (hv : Rd w v l) (hs : s ≤ 72057594037927935) (hk : k < 256) (hc : chk l.length s k = 0) (hl : l.length ≤ 64) :
    Calls Try.prog 32 #[.agg #[v, .int .u64 (s : Int), .int .u8 (k : Int)]] w fun e w' => ∃ x, e = .returned x ∧ Rd w' x (l ++ tailB s k) ∧ From w.heap.size x ∧ Below w.heap.size w w' := by
  obtain ⟨ao, cap, rfl⟩ := hv.len
  obtain ⟨n, hn⟩ : ∃ n, l.length = n := ⟨_, rfl⟩
  have hb0 := below_box w #[.slice ao l.length cap, .int .u64 (s : Int), .int .u8 (k : Int)] 37
  have hkb := keybytes_ok (w.alloc (.cells #[.slice ao l.length cap, .int .u64 (s : Int), .int .u8 (k : Int)] 37)) _ l s k (hv.below hb0 (Nat.le_refl _)) hs hk hc hl
  have BX := box_new w (.slice ao l.length cap) (.int .u64 (s : Int)) (.int .u8 (k : Int)) 37
  have BX' := BX
  obtain ⟨L, hL⟩ : ∃ L, (keyB l s k).length = L := ⟨_, rfl⟩
  have hn1 : Mth.numB l.length = [UInt8.ofNat l.length] := by unfold Mth.numB; rw [if_pos (by omega)]
  have hLn : L = n + 9 := by rw [← hL, ← hn]; unfold keyB textB; rw [hn1]; simp [tailB_len]
  have HD : Hid ((keyB l s k).drop 1 = l ++ tailB s k) := by show _ = _; unfold keyB textB; rw [hn1]; rfl
  rw [hn] at hkb hb0 BX BX' hl ⊢
  have HB0 : Hid _ := hb0
  have HL : Hid ((keyB l s k).length = L) := hL
  have e1 : (L : Int) - 8 = ((n + 1 : Nat) : Int) := by omega
  obtain ⟨A, hA⟩ : ∃ A, n + 1 = A := ⟨_, rfl⟩
  rw [hA] at e1
  have e2 : (A : Int) - (n : Int) = 1 := by omega
  have hL1 : (1 : Int) ≤ (L : Int) := by omega
  have hL2 : (L : Int) ≤ 1000 := by omega
  have hA1 : (A : Int) ≤ 1000 := by omega
  have hA0 : (0 : Int) ≤ (A : Int) := by omega
  have HLN : Hid (L = n + 9) := hLn
  clear hv hc hL hn hA hLn hb0 hn1
  obtain ⟨c0, c1, c2, _⟩ := BX'
  go_enter Try.func32, Try.ntmps32
  go_wp2_with fail
  refine hkb.mono ?_
  rintro e w1 ⟨x, rfl, ox, hb1⟩
  obtain ⟨g, kc, rfl⟩ := ox.shape
  rw [HL.out] at ox ⊢
  clear c0 c1 c2
  obtain ⟨c0, c1, c2, _⟩ := BX.below hb1 (Nat.le_refl _)
  have hcap : Hid (L ≤ kc ∧ kc ≤ maxLen) := by
    obtain ⟨g', k', c', e, _, _, h1, h2, _⟩ := ox
    simp only [Value.slice.injEq] at e
    obtain ⟨_, _, rfl⟩ := e
    rw [HL.out] at h1
    exact ⟨h1, h2⟩
  have hck : (1 : Int) ≤ (kc : Int) := by have := hcap.out.1; omega
  have hck1 : ¬ kc = 1 := by have := hcap.out.1; have := HLN.out; omega
  have hck2 : ¬ (kc : Int) = 1 := by omega
  have hLk : (L : Int) ≤ (kc : Int) := by have := hcap.out.1; omega
  have HOX : Hid _ := ox
  have HB1 : Hid _ := bsplit HB0.out hb1
  clear hkb hb1 BX ox
  go_wp2
  go_ret
  refine ⟨_, rfl, ?_, from_at (Nat.le_trans (Nat.le_succ _) (by have := (Own.lt (show Own _ w1 (.slice (some ⟨g, 0, none⟩) L kc) (keyB l s k) from HOX.out)).1; simpa using this)), HB1.out⟩
  have h9 := Own.spots (show Own _ w1 (.slice (some ⟨g, 0, none⟩) L kc) (keyB l s k) from HOX.out)
  have h8 := rd_sub h9 1 (L - 1) (kc - 1) (by have := hcap.out; omega) (by have := hcap.out; omega) (by rw [HL.out]; have := HLN.out; omega)
  rw [List.take_of_length_le (by rw [List.length_drop, HL.out]; exact Nat.le_refl _), HD.out] at h8
  exact h8

set_option maxHeartbeats 4000000 in
theorem lcommon_any (w : World) (va vb : Value) (l m : List UInt8) (ha : Rd w va l) (hb : Rd w vb m) :
    Calls Try.prog 33 #[va, vb] w fun e w' => e = .returned (.int .i64 (comN l m : Int)) ∧ Below w.heap.size w w' := by
  obtain ⟨a1, a2, rfl, h1, h2, h3⟩ := Rd.spots ha
  obtain ⟨b1, b2, rfl, k1, k2, k3⟩ := Rd.spots hb
  obtain ⟨N, hN⟩ : ∃ N, l.length = N := ⟨_, rfl⟩
  obtain ⟨M, hM⟩ : ∃ M, m.length = M := ⟨_, rfl⟩
  rw [hN] at h1 ⊢
  rw [hM] at k1 ⊢
  have HNM : Hid (l.length = N ∧ m.length = M) := ⟨hN, hM⟩
  have H3 : Hid _ := h3
  have K3 : Hid _ := k3
  clear hN hM h3 k3 ha hb
  go_enter Try.func33, Try.ntmps33
  go_wp2_with fail
  go_loopg [5] N (fun gk iv wr => ∃ j : Nat, gk + j = N ∧ j ≤ M ∧ iv = .int .i64 (j : Int) ∧ Hid (∀ i, i < j → l[i]? = m[i]?) ∧ Hid (Below w.heap.size w wr))
  case atStart => exact ⟨0, by omega, by omega, rfl, fun i h => absurd h (Nat.not_lt_zero _), Below.refl _ _⟩
  case round =>
    obtain ⟨j, hj, hjM, rfl, HS, HW⟩ := hrel
    have HEND : Hid ((j < N → j < M → l[j]? ≠ m[j]?) → comN l m = j) := fun h => comN_is j l m (by rw [HNM.out.1]; omega) (by rw [HNM.out.2]; omega) HS.out (by rw [HNM.out.1, HNM.out.2]; exact h)
    by_cases hlt : j < N
    · have hltI : (j : Int) < (N : Int) := by omega
      by_cases hlt2 : j < M
      · have hltI2 : (j : Int) < (M : Int) := by omega
        have l1 : j < l.length := by rw [HNM.out.1]; exact hlt
        have l2 : j < m.length := by rw [HNM.out.2]; exact hlt2
        obtain ⟨p, o, rfl, hc⟩ := H3.out j l1
        obtain ⟨p', o', rfl, hd⟩ := K3.out j l2
        have hc' : wr.cell? ⟨p, o + j, none⟩ = some (.int .u8 ((l[j]).toNat : Int)) := (HW.out.cell (p := ⟨p, o + j, none⟩) (World.block_lt_of_cell? w _ hc)).trans hc
        have hd' : wr.cell? ⟨p', o' + j, none⟩ = some (.int .u8 ((m[j]).toNat : Int)) := (HW.out.cell (p := ⟨p', o' + j, none⟩) (World.block_lt_of_cell? w _ hd)).trans hd
        obtain ⟨x, hx⟩ : ∃ x, ((l[j]).toNat : Int) = x := ⟨_, rfl⟩
        obtain ⟨y, hy⟩ : ∃ y, ((m[j]).toNat : Int) = y := ⟨_, rfl⟩
        have HXY : Hid (x = y ↔ l[j] = m[j]) := by show _ ↔ _; rw [← hx, ← hy]; exact byteI
        rw [hx] at hc'
        rw [hy] at hd'
        obtain ⟨q1, q2⟩ := gk_nxt hj hlt
        clear hc hd hx hy
        by_cases hxy : x = y
        · subst hxy
          have HS2 : Hid (∀ i, i < j + 1 → l[i]? = m[i]?) := fun i hi => by
            by_cases e : i = j
            · subst e; rw [List.getElem?_eq_getElem l1, List.getElem?_eq_getElem l2, HXY.out.1 rfl]
            · exact HS.out i (by omega)
          go_wp2_with fail
          go_quiet (fail)
          go_wp2_with fail
          go_roundg (gk - 1)
          case measure => exact q1
          case rel => exact ⟨j + 1, q2, by omega, by go_num, HS2, below_drewN HW.out _⟩
        · have HF : Hid (comN l m = j) := HEND.out fun _ _ e => hxy (HXY.out.2 (by rw [List.getElem?_eq_getElem l1, List.getElem?_eq_getElem l2] at e; exact Option.some.inj e))
          go_wp2_with fail
          go_quiet (fail)
          go_wp2
          go_ret
          exact ⟨ret_int (by rw [HF.out]), below_drewN HW.out _⟩
      · have hltI2 : ¬ (j : Int) < (M : Int) := by omega
        have hlb2 : decide ((j : Int) < (M : Int)) = false := decide_eq_false hltI2
        have HF : Hid (comN l m = j) := HEND.out fun _ h => absurd h hlt2
        go_wp2_with fail
        go_quiet (fail)
        go_wp2
        go_ret
        exact ⟨ret_int (by rw [HF.out]), below_drewN HW.out _⟩
    · have hltI : ¬ (j : Int) < (N : Int) := by omega
      have hlb : decide ((j : Int) < (N : Int)) = false := decide_eq_false hltI
      have HF : Hid (comN l m = j) := HEND.out fun h => absurd h hlt
      go_wp2_with fail
      go_quiet (fail)
      go_wp2
      go_ret
      exact ⟨ret_int (by rw [HF.out]), below_drewN HW.out _⟩

set_option maxHeartbeats 4000000 in
theorem lpacked_any (w : World) (n : Nat) (vf vv : Value) (f v : List UInt8) (hf : Rd w vf (f.drop n)) (hv : Rd w vv v) (hn : n ≤ f.length) (hfl : f.length ≤ 100000) (hvl : v.length ≤ 100000) :
    Calls Try.prog 35 #[.int .i64 (n : Int), vf, vv] w fun e w' => ∃ x, e = .returned x ∧ Own w.heap.size w' x (packB n f v) ∧ Below w.heap.size w w' := by
  obtain ⟨a1, a2, rfl⟩ := hf.len
  obtain ⟨b1, b2, rfl⟩ := hv.len
  obtain ⟨N, hN⟩ : ∃ N, (f.drop n).length = N := ⟨_, rfl⟩
  obtain ⟨M, hM⟩ : ∃ M, v.length = M := ⟨_, rfl⟩
  have hNN : N = f.length - n := by rw [← hN, List.length_drop]
  have HE : Hid (packB n f v = [Mth.numB n, Mth.numB N, Mth.numB M, f.drop n, v].flatten) := by show _ = _; unfold packB; rw [← hNN, hM]; simp
  rw [hN] at hf ⊢
  rw [hM] at hv ⊢
  have HFV : Hid (Rd w (.slice a1 N a2) (f.drop n) ∧ Rd w (.slice b1 M b2) v) := ⟨hf, hv⟩
  have HLL : Hid (n ≤ 100000 ∧ N ≤ 100000 ∧ M ≤ 100000) := ⟨by omega, by omega, by omega⟩
  have HLF : Hid (([Mth.numB n, Mth.numB N, Mth.numB M, f.drop n, v].flatten).length ≤ 1099511627776) := by
    have h1 := Mth.numL_bd n
    have h2 := Mth.numL_bd N
    have h3 := Mth.numL_bd M
    show _ ≤ _
    simp only [List.flatten_cons, List.flatten_nil, List.append_nil, List.length_append, Mth.numB_length, hN, hM]
    omega
  clear hf hv hN hM hNN
  go_enter Try.func35, Try.ntmps35
  go_wp2_with fail
  refine (lnum_any w n (by have := HLL.out; omega)).mono ?_
  rintro e w1 ⟨v1, rfl, o1, hb1⟩
  obtain ⟨g1, c1, rfl⟩ := o1.shape
  have HB1 : Hid (Below w.heap.size w w1) := hb1
  clear hb1
  go_wp2_with fail
  refine (lnum_any w1 N (by have := HLL.out; omega)).mono ?_
  rintro e w2 ⟨v2, rfl, o2, hb2⟩
  obtain ⟨g2, c2, rfl⟩ := o2.shape
  have HB2 : Hid (Below w.heap.size w w2) := bsplit HB1.out hb2
  have o12 := o1.below hb2 (Nat.le_refl _)
  clear hb2 o1
  go_wp2_with fail
  refine (lnum_any w2 M (by have := HLL.out; omega)).mono ?_
  rintro e w3 ⟨v3, rfl, o3, hb3⟩
  obtain ⟨g3, c3, rfl⟩ := o3.shape
  have HB3 : Hid (Below w.heap.size w w3) := bsplit HB2.out hb3
  have hrl := rdl_many w3 [.slice (some ⟨g1, 0, none⟩) (Mth.numB n).length c1, .slice (some ⟨g2, 0, none⟩) (Mth.numB N).length c2, .slice (some ⟨g3, 0, none⟩) (Mth.numB M).length c3, .slice a1 N a2, .slice b1 M b2] [Mth.numB n, Mth.numB N, Mth.numB M, f.drop n, v] 5 rfl rfl (by decide) (by decide) (by
    intro j h1 h2
    match j, h1, h2 with
    | 0, _, _ => exact (o12.below hb3 (Nat.le_refl _)).rd
    | 1, _, _ => exact (o2.below hb3 (Nat.le_refl _)).rd
    | 2, _, _ => exact o3.rd
    | 3, _, _ => exact HFV.out.1.below HB3.out (Nat.le_refl _)
    | 4, _, _ => exact HFV.out.2.below HB3.out (Nat.le_refl _)
    | (j + 5), h1, _ => exact absurd h1 (by simp))
  have hj := join_any _ _ _ hrl HLF.out
  obtain ⟨PK, hPK⟩ : ∃ PK, [Mth.numB n, Mth.numB N, Mth.numB M, f.drop n, v].flatten = PK := ⟨_, rfl⟩
  rw [hPK] at hj HE
  have hba := below_box4 w3 (.cells #[.slice (some ⟨g1, 0, none⟩) (Mth.numB n).length c1, .slice (some ⟨g2, 0, none⟩) (Mth.numB N).length c2, .slice (some ⟨g3, 0, none⟩) (Mth.numB M).length c3, .slice a1 N a2, .slice b1 M b2] 26)
  have HBA : Hid _ := bsplit HB3.out hba
  clear hb3 o12 o2 o3 hrl hba hPK
  go_wp2_with fail
  refine hj.mono ?_
  rintro e w4 ⟨v4, rfl, o4, hb4⟩
  obtain ⟨g4, c4, rfl⟩ := o4.shape
  have HB4 : Hid _ := bsplit HBA.out hb4
  have HO : Hid (Own w.heap.size w4 (.slice (some ⟨g4, 0, none⟩) PK.length c4) PK) := o4.mono HBA.out.size
  clear hj hb4 o4
  go_wp2
  go_ret
  exact ⟨_, rfl, by rw [HE.out]; exact HO.out, HB4.out⟩

end Go.Proofs.Ytbmpnafbmgcniaa

/- leaf.takeNum, leaf.version, leaf.body. -/
namespace Go.Proofs.Ytbmpnafbmgcniaa
set_option maxRecDepth 20000
open Go.RowKit
set_option linter.unusedVariables false

theorem frontS_nine (l : List UInt8) : frontS (l.take 9) = frontS l := by
  cases l with
  | nil => rfl
  | cons f t =>
    have hb := sizeN_bd f.toNat f.toNat_lt
    rw [List.take_succ_cons]
    unfold frontS
    simp only
    have h1 : (f :: t.take 8) = (f :: t).take 9 := rfl
    rw [h1]
    have h2 : ((f :: t).take 9).length < sizeN f.toNat ↔ (f :: t).length < sizeN f.toNat := by rw [List.length_take]; omega
    have h3 : ((f :: t).take 9).take (sizeN f.toNat) = (f :: t).take (sizeN f.toNat) := by rw [List.take_take, Nat.min_eq_left (by omega)]
    rw [h3]
    by_cases hc : (f :: t).length < sizeN f.toNat
    · rw [if_pos (h2.2 hc), if_pos hc]
    · rw [if_neg (fun h => hc (h2.1 h)), if_neg hc]

theorem rd_take {w : World} {l : List UInt8} {b off cap k : Nat} (hc : ∀ j u, (bv l)[j]? = some u → w.cell? ⟨b, off + j, none⟩ = some u) (h1 : l.length ≤ cap) (h2 : cap ≤ 9223372036854775807) (hk : k ≤ l.length) : Rd w (.slice (some ⟨b, off, none⟩) k cap) (l.take k) := by
  have := rd_sub hc 0 k cap (by omega) (by unfold maxLen; omega) (by omega)
  rwa [List.drop_zero, Nat.add_zero] at this

theorem take_nine {l : List UInt8} {k : Nat} (hk : (l.take 9).length = k) : l.take 9 = l.take k := by
  rw [List.length_take] at hk
  rcases Nat.le_total l.length 9 with h | h
  · rw [List.take_of_length_le h, List.take_of_length_le (by omega)]
  · rw [← hk, Nat.min_eq_left h]

theorem i64_or (a b : Nat) (ha : a < 256) (hb : b < 256) : bits .or .i64 (a : Int) ((b : Int) * 256) = ((a + b * 256 : Nat) : Int) := by
  have e : ((b : Int) * 256) = ((b * 256 : Nat) : Int) := by simp
  rw [e]
  show IntKind.i64.wrap ((BitVec.ofInt 64 (a : Int) ||| BitVec.ofInt 64 ((b * 256 : Nat) : Int)).toNat : Int) = _
  rw [BitVec.toNat_or, BitVec.toNat_ofInt, BitVec.toNat_ofInt]
  have h1 : ((a : Int) % (2 ^ 64 : Nat)).toNat = a := by omega
  have h2 : (((b * 256 : Nat) : Int) % (2 ^ 64 : Nat)).toNat = b * 256 := by omega
  rw [h1, h2, nat_join8' _ _ (by omega) ha, IntKind.wrap_i64]
  omega

theorem ltn_err (w : World) (b off cap : Nat) (l : List UInt8) (n s e : Nat) (hc : ∀ j u, (bv l)[j]? = some u → w.cell? ⟨b, off + j, none⟩ = some u) (h1 : l.length ≤ cap) (h2 : cap ≤ 9223372036854775807) (hf : frontS l = (n, s, e)) (he : ¬ e = 0) :
    Calls Try.prog 59 #[.slice (some ⟨b, off, none⟩) l.length cap] w fun o w' => o = .returned (.tuple #[.int .u64 0, .slice none 0 0, .bool false]) ∧ Below w.heap.size w w' := by
  obtain ⟨k, hk⟩ : ∃ k, (l.take 9).length = k := ⟨_, rfl⟩
  have hk2 : k = min l.length 9 := by rw [← hk, List.length_take, Nat.min_comm]
  have hrd : Rd w (.slice (some ⟨b, off, none⟩) k cap) (l.take 9) := by
    rw [take_nine hk]
    exact rd_take hc h1 h2 (by omega)
  obtain ⟨hn0, hs0, he2⟩ := frontS_err hf he
  subst hn0 hs0
  have htk := take_err w _ (l.take 9) e hrd (by rw [frontS_nine]; exact hf) he2
  obtain ⟨L, hL⟩ : ∃ L, l.length = L := ⟨_, rfl⟩
  rw [hL] at hk2 h1 ⊢
  have hmin : min (L : Int) 9 = (k : Int) := by omega
  have hmin2 : (if 9 < L then (9 : Int) else (L : Int)) = (k : Int) := by split <;> omega
  have hkI : (k : Int) ≤ (cap : Int) := by omega
  have hkI2 : (0 : Int) ≤ (k : Int) := by omega
  have he0 : ¬ (e : Int) = 0 := by omega
  have heb : ((e : Int) == 0) = false := by simpa using he0
  clear hk hk2 hrd hc hL
  go_enter Try.func59, Try.ntmps59
  go_wp2_with fail
  refine htk.mono ?_
  rintro o w1 ⟨rfl, hb⟩
  clear htk
  go_wp2
  go_ret3
  exact ⟨rfl, hb⟩

theorem ltn_ok (w : World) (b off cap : Nat) (l : List UInt8) (n s : Nat) (hc : ∀ j u, (bv l)[j]? = some u → w.cell? ⟨b, off + j, none⟩ = some u) (h1 : l.length ≤ cap) (h2 : cap ≤ 9223372036854775807) (hf : frontS l = (n, s, 0)) :
    Calls Try.prog 59 #[.slice (some ⟨b, off, none⟩) l.length cap] w fun o w' => ∃ off', o = .returned (.tuple #[.int .u64 (n : Int), .slice (some ⟨b, off', none⟩) (l.length - s) (cap - s), .bool true]) ∧ (∀ j u, (bv (l.drop s))[j]? = some u → w.cell? ⟨b, off' + j, none⟩ = some u) ∧ Below w.heap.size w w' := by
  obtain ⟨k, hk⟩ : ∃ k, (l.take 9).length = k := ⟨_, rfl⟩
  have hk2 : k = min l.length 9 := by rw [← hk, List.length_take, Nat.min_comm]
  have hrd : Rd w (.slice (some ⟨b, off, none⟩) k cap) (l.take 9) := by
    rw [take_nine hk]
    exact rd_take hc h1 h2 (by omega)
  obtain ⟨hs1, hs2, hs9, hnb⟩ := frontS_ok hf
  have htk := take_ok w _ (l.take 9) n s hrd (by rw [frontS_nine]; exact hf) (by omega)
  obtain ⟨off', ho1, ho2, _, ho4⟩ := rd_drop hc h1 (by unfold maxLen; omega) s hs2
  have HO : Hid (∀ j u, (bv (l.drop s))[j]? = some u → w.cell? ⟨b, off' + j, none⟩ = some u) := ho4
  obtain ⟨L, hL⟩ : ∃ L, l.length = L := ⟨_, rfl⟩
  rw [hL] at hk2 h1 hs2 ⊢
  obtain ⟨R, hR⟩ : ∃ R, ((l.take 9).drop s).length = R := ⟨_, rfl⟩
  have HR : Hid (((l.take 9).drop s).length = R) := hR
  have hR2 : R = k - s := by rw [← hR, List.length_drop, hk]
  have hmin : min (L : Int) 9 = (k : Int) := by omega
  have hmin2 : (if 9 < L then (9 : Int) else (L : Int)) = (k : Int) := by split <;> omega
  have hkI : (k : Int) ≤ (cap : Int) := by omega
  have hkI2 : (0 : Int) ≤ (k : Int) := by omega
  have hsub : (k : Int) - (R : Int) = (s : Int) := by omega
  have hk9 : (k : Int) ≤ 9 := by omega
  have hR9 : (R : Int) ≤ 9 := by omega
  have hR0 : (0 : Int) ≤ (R : Int) := by omega
  have hsI : (s : Int) ≤ (L : Int) := by omega
  have hsI0 : (0 : Int) ≤ (s : Int) := by omega
  have hLc : (L : Int) ≤ (cap : Int) := by omega
  have hcI : (cap : Int) ≤ 9223372036854775807 := by omega
  have HH : Hid (L ≤ cap) := h1
  clear hk hk2 hrd hc hL hf hR hR2 ho4
  go_enter Try.func59, Try.ntmps59
  go_wp2_with fail
  refine htk.mono ?_
  rintro o w1 ⟨x, rfl, ox, hb⟩
  obtain ⟨gx, cx, hx⟩ := ox.shape
  rw [HR.out] at hx
  subst hx
  have HB : Hid (Below w.heap.size w w1) := hb
  clear htk hb ox
  by_cases hcs : cap = s
  · have hof : off' = off := ho2 hcs
    have hcsI : (cap : Int) = (s : Int) := by omega
    subst hof hcs
    have hLs : L = cap := by have := HH.out; omega
    subst hLs
    clear ho1 ho2 hcsI hLc
    go_wp2_with fail
    go_quiet (fail)
    go_wp2
    go_ret3
    exact ⟨off', by simp, HO.out, below_drewN HB.out _⟩
  · have hof : off' = off + s := ho1 hcs
    have hcsI : ¬ (cap : Int) = (s : Int) := by omega
    subst hof
    clear ho1 ho2
    go_wp2_with fail
    go_quiet (fail)
    go_wp2
    go_ret3
    exact ⟨off + s, rfl, HO.out, below_drewN HB.out _⟩

/-- a version's cells -/
abbrev keyV (x : Value) (s k : Int) : Value := .agg #[x, .int .u64 s, .int .u8 k]

/-- what leaf.version answers -/
def VerPost (F : List UInt8) (w w' : World) (o : Ending) : Prop :=
  Below w.heap.size w w' ∧ match verS F with
    | none => ∃ a n c s k, o = .returned (.tuple #[keyV (.slice a n c) s k, .bool false])
    | some q => ∃ x, o = .returned (.tuple #[keyV x (q.2.1 : Int) (q.2.2 : Int), .bool true]) ∧ Rd w' x q.1 ∧ From w.heap.size x

set_option maxHeartbeats 2000000 in
theorem lver_any (w : World) (v : Value) (F : List UInt8) (hv : Rd w v F) (hl : F.length ≤ 100000) :
    Calls Try.prog 60 #[v] w fun o w' => VerPost F w w' o := by
  obtain ⟨ao, cap, rfl⟩ := hv.len
  have hb0 := below_box w #[.slice none 0 0, .int .u64 0, .int .u8 0] 37
  have br := box_new w (.slice none 0 0) (.int .u64 0) (.int .u8 0) 37
  obtain ⟨L, hL⟩ : ∃ L, F.length = L := ⟨_, rfl⟩
  have HL : Hid (F.length = L) := hL
  rw [hL] at hv hl ⊢
  have HV : Hid (Rd w (.slice ao L cap) F) := hv
  have hLI : (L : Int) ≤ 100000 := by omega
  have hLI0 : (0 : Int) ≤ (L : Int) := by omega
  clear hv hL
  by_cases h8 : L < 8
  · have h8I : (L : Int) - 8 < 0 := by omega
    have HE : Hid (verS F = none) := by show _ = _; unfold verS; rw [HL.out, if_pos h8]
    obtain ⟨c0, c1, c2, f0, f1, f2⟩ := br
    go_enter Try.func60, Try.ntmps60
    go_wp2
    refine bodyPost_ret (v := .tuple #[keyV (.slice none 0 0) 0 0, .bool false]) (by simp [results, Try.results60, go_sem, c0, c1, c2]) rfl ?_
    refine ⟨hb0, ?_⟩
    rw [HE.out]
    exact ⟨_, _, _, _, _, rfl⟩
  · have h8I : ¬ (L : Int) - 8 < 0 := by omega
    have h8b : decide ((L : Int) - 8 < 0) = false := decide_eq_false h8I
    obtain ⟨M, hM⟩ : ∃ M, L - 8 = M := ⟨_, rfl⟩
    have hMI : (L : Int) - 8 = (M : Int) := by omega
    have hM0 : ¬ (M : Int) < 0 := by omega
    have hln := lnum_any (w.alloc (.cells #[.slice none 0 0, .int .u64 0, .int .u8 0] 37)) M (by omega)
    have HM : Hid (F.length - 8 = M) := by show _ = _; rw [HL.out]; exact hM
    have HML : Hid (M ≤ 100000) := by show M ≤ _; omega
    have HVS : Hid (verS F = if (keyS (Mth.numB M ++ F)).2.2.2.2 = 0 then some ((keyS (Mth.numB M ++ F)).1, (keyS (Mth.numB M ++ F)).2.1, (keyS (Mth.numB M ++ F)).2.2.1) else none) := by
      show _ = _
      unfold verS
      rw [HL.out, if_neg h8, hM]
    clear hM h8I h8b
    go_enter Try.func60, Try.ntmps60
    go_wp2_with fail
    refine hln.mono ?_
    rintro e w1 ⟨v1, rfl, o1, hb1⟩
    obtain ⟨g1, c1, rfl⟩ := o1.shape
    have HB1 : Hid (Below w.heap.size w w1) := bsplit hb0 hb1
    have br1 := br.below hb1 (Nat.le_refl _)
    have hrl := rdl_two w1 _ _ (Mth.numB M) F o1.rd (HV.out.below HB1.out (Nat.le_refl _))
    have hba := below_box4 w1 (.cells #[.slice (some ⟨g1, 0, none⟩) (Mth.numB M).length c1, .slice ao L cap] 26)
    have hj := join_any _ _ _ hrl (by
      have := Mth.numL_bd M
      simp only [List.flatten_cons, List.flatten_nil, List.append_nil, List.length_append, Mth.numB_length, HL.out]
      omega)
    rw [show [Mth.numB M, F].flatten = Mth.numB M ++ F by simp] at hj
    obtain ⟨K, hK⟩ : ∃ K, Mth.numB M ++ F = K := ⟨_, rfl⟩
    have hKl : K.length ≤ 1000000 := by rw [← hK, List.length_append, Mth.numB_length, HL.out]; have := Mth.numL_bd M; omega
    rw [hK] at hj HVS
    have br2 := br1.below hba (Nat.le_refl _)
    have HB2 : Hid (Below w.heap.size w (w1.alloc (.cells #[.slice (some ⟨g1, 0, none⟩) (Mth.numB M).length c1, .slice ao L cap] 26))) := bsplit HB1.out hba
    clear hln hb1 o1 hrl hba hK br br1
    go_wp2_with fail
    refine hj.mono ?_
    rintro e w2 ⟨v2, rfl, o2, hb2⟩
    obtain ⟨g2, c2, rfl⟩ := o2.shape
    have HB3 : Hid (Below w.heap.size w w2) := bsplit HB2.out hb2
    have br3 := br2.below hb2 (Nat.le_refl _)
    have hrd := read_any w2 _ K o2.rd hKl
    clear hj hb2 o2 br2
    go_wp2_with fail
    refine hrd.mono ?_
    rintro o w3 ⟨x, y, rfl, rx, ry, fx, fy, hb3⟩
    have HB4 : Hid (Below w.heap.size w w3) := bsplit HB3.out hb3
    have br4 := br3.below hb3 (Nat.le_refl _)
    obtain ⟨⟨ku, ks, kk, kr, ke⟩, hks⟩ : ∃ q, keyS K = q := ⟨_, rfl⟩
    rw [hks] at rx ry HVS ⊢
    obtain ⟨xa, xc, rfl⟩ := rx.len
    obtain ⟨ya, yc, rfl⟩ := ry.len
    simp only at rx ry HVS ⊢
    have HSZ : Hid (w.heap.size + 1 ≤ w2.heap.size) := by show _ ≤ _; have := br3.lt; omega
    obtain ⟨XL, hXL⟩ : ∃ n, ku.length = n := ⟨_, rfl⟩
    rw [hXL] at rx fx ⊢
    have hbk := below_box w3 #[.slice xa XL xc, .int .u64 (ks : Int), .int .u8 (kk : Int)] 37
    have bk := box_new w3 (.slice xa XL xc) (.int .u64 (ks : Int)) (.int .u8 (kk : Int)) 37
    have br5 := br4.below hbk (Nat.le_refl _)
    have HB5 : Hid (Below w.heap.size w (w3.alloc (.cells #[.slice xa XL xc, .int .u64 (ks : Int), .int .u8 (kk : Int)] 37))) := bsplit HB4.out hbk
    have HX : Hid (Rd (w3.alloc (.cells #[.slice xa XL xc, .int .u64 (ks : Int), .int .u8 (kk : Int)] 37)) (.slice xa XL xc) ku ∧ From (w.heap.size + 1) (.slice xa XL xc)) := ⟨rx.below hbk (Nat.le_refl _), fun a n c e => by have := fx a n c e; have := HSZ.out; omega⟩
    obtain ⟨d0, d1, d2, _⟩ := bk
    obtain ⟨c0, c1', c2', f0, f1, f2⟩ := br5
    clear hrd rx ry fx fy hb3 br3 br4 hbk hks hXL
    by_cases hke : ke = 0
    · subst hke
      have HE : Hid (verS F = some (ku, ks, kk)) := by show _ = _; rw [HVS.out, if_pos rfl]
      go_wp2
      refine bodyPost_ret (v := .tuple #[keyV (.slice xa XL xc) (ks : Int) (kk : Int), .bool true]) (by simp [results, Try.results60, go_sem, c0, c1', c2']) rfl ?_
      refine ⟨below_store3 HB5.out (Nat.le_refl _) _ _ _, ?_⟩
      rw [HE.out]
      exact ⟨_, rfl, HX.out.1.stored3 HX.out.2 _ _ _, fun a n c e => by have := HX.out.2 a n c e; omega⟩
    · have hkeI : ¬ (ke : Int) = 0 := by omega
      have hkeb : ((ke : Int) == 0) = false := by simpa using hkeI
      have HE : Hid (verS F = none) := by show _ = _; rw [HVS.out, if_neg hke]
      go_wp2
      refine bodyPost_ret (v := .tuple #[keyV (.slice xa XL xc) (ks : Int) (kk : Int), .bool false]) (by simp [results, Try.results60, go_sem, c0, c1', c2']) rfl ?_
      refine ⟨below_store3 HB5.out (Nat.le_refl _) _ _ _, ?_⟩
      rw [HE.out]
      exact ⟨_, _, _, _, _, rfl⟩

theorem body_wraps {M1 x y : Nat} (h1 : M1 ≤ 1000000) (hx : x < 256) (hy : y < 256) : (IntKind.i64.wrap (M1 : Int) = (M1 : Int) ∧ wrap64 (M1 : Int) = (M1 : Int)) ∧ IntKind.i64.wrap ((y : Int) * 256) = (y : Int) * 256 ∧ wrap64 ((y : Int) * 256) = (y : Int) * 256 ∧ IntKind.i64.wrap (x : Int) = (x : Int) ∧ IntKind.i64.wrap (y : Int) = (y : Int) := by
  refine ⟨⟨?_, ?_⟩, ?_, ?_, ?_, ?_⟩
  · rw [IntKind.wrap_i64]; omega
  · unfold wrap64; omega
  · rw [IntKind.wrap_i64]; omega
  · unfold wrap64; omega
  · rw [IntKind.wrap_i64]; omega
  · rw [IntKind.wrap_i64]; omega

/-- what leaf.body answers -/
def BodPost (p : List UInt8) (b off cap : Nat) (w w' : World) (o : Ending) : Prop :=
  Below w.heap.size w w' ∧ match bodyS p with
    | none => o = .returned (.tuple #[.slice none 0 0, .bool false])
    | some q => o = .returned (.tuple #[.slice (some ⟨b, off, none⟩) q.length cap, .bool true])

set_option maxHeartbeats 2000000 in
theorem lbody_any (w : World) (b off cap : Nat) (p : List UInt8) (hc : ∀ j u, (bv p)[j]? = some u → w.cell? ⟨b, off + j, none⟩ = some u) (h1 : p.length ≤ cap) (h2 : cap ≤ 9223372036854775807) (hp : p.length ≤ 1000000) :
    Calls Try.prog 49 #[.slice (some ⟨b, off, none⟩) p.length cap] w fun o w' => BodPost p b off cap w w' o := by
  obtain ⟨L, hL⟩ : ∃ L, p.length = L := ⟨_, rfl⟩
  have HL : Hid (p.length = L) := hL
  rw [hL] at h1 hp ⊢
  have hLI : (L : Int) ≤ 1000000 := by omega
  have hLI0 : (0 : Int) ≤ (L : Int) := by omega
  by_cases hl2 : L < 2
  · have h8I : (L : Int) - 2 < 0 := by omega
    have HE : Hid (bodyS p = none) := by show _ = _; unfold bodyS; rw [HL.out, if_pos hl2]
    clear hc hL
    go_enter Try.func49, Try.ntmps49
    go_wp2
    go_ret2
    refine ⟨Below.refl _ _, ?_⟩
    rw [HE.out]
    rfl
  · obtain ⟨M, hM⟩ : ∃ M, L - 2 = M := ⟨_, rfl⟩
    obtain ⟨M1, hM1⟩ : ∃ M1, L - 1 = M1 := ⟨_, rfl⟩
    have g0 := hc M _ (bv_get p M (by omega))
    have g1 := hc M1 _ (bv_get p M1 (by omega))
    obtain ⟨x, hx⟩ : ∃ x, (p[M]'(by omega)).toNat = x := ⟨_, rfl⟩
    obtain ⟨y, hy⟩ : ∃ y, (p[M1]'(by omega)).toNat = y := ⟨_, rfl⟩
    have hxb := (p[M]'(by omega)).toNat_lt
    have hyb := (p[M1]'(by omega)).toNat_lt
    rw [hx] at g0 hxb
    rw [hy] at g1 hyb
    have hor := i64_or x y hxb hyb
    obtain ⟨C, hC⟩ : ∃ C, x + y * 256 = C := ⟨_, rfl⟩
    rw [hC] at hor
    have hcn : cntS p = C := by
      unfold cntS
      rw [HL.out, hM, hM1, List.getD_eq_getElem?_getD, List.getD_eq_getElem?_getD, List.getElem?_eq_getElem (by omega), List.getElem?_eq_getElem (by omega)]
      simp only [Option.getD_some]
      rw [hx, hy, hC]
    have hBS : bodyS p = if M < C * 2 then none else some (p.take (M - C * 2)) := by
      unfold bodyS
      rw [HL.out, if_neg hl2, hcn, hM]
    have HBS : Hid _ := hBS
    have hMI : (L : Int) - 2 = (M : Int) := by omega
    have hM0 : ¬ (M : Int) < 0 := by omega
    have hM0' : (0 : Int) ≤ (M : Int) := by omega
    have hMb : decide ((M : Int) < 0) = false := decide_eq_false hM0
    have hML : (M : Int) < (L : Int) := by omega
    have hM1L : (M1 : Int) < (L : Int) := by omega
    have hM10 : (0 : Int) ≤ (M1 : Int) := by omega
    have hM1I : (M : Int) + 1 = (M1 : Int) := by omega
    have hCI : (C : Int) ≤ 65536 := by omega
    have hCI0 : (0 : Int) ≤ (C : Int) := by omega
    have HIN : Hid (∀ k, k = M - C * 2 → (p.take k).length = k) := fun k hk => by rw [List.length_take, HL.out]; omega
    have HW : Hid (M1 ≤ 1000000 ∧ x < 256 ∧ y < 256) := ⟨by omega, hxb, hyb⟩
    have hlc : (L : Int) ≤ (cap : Int) := by omega
    clear hM hM1 hx hy hC hcn hc hL hBS
    go_enter Try.func49, Try.ntmps49
    by_cases hmc : M < C * 2
    · have hmI : (M : Int) - (C : Int) * 2 < 0 := by omega
      have HE : Hid (bodyS p = none) := by show _ = _; rw [HBS.out, if_pos hmc]
      go_wp2_with fail
      obtain ⟨⟨k1, k2⟩, k3, k4, k5, k6⟩ := body_wraps HW.out.1 HW.out.2.1 HW.out.2.2
      go_quiet (fail)
      clear k1 k2 k3 k4 k5 k6
      go_wp2
      go_ret2
      refine ⟨below_drewN (Below.refl _ _) _, ?_⟩
      rw [HE.out]
      rfl
    · obtain ⟨k, hk⟩ : ∃ k, M - C * 2 = k := ⟨_, rfl⟩
      have hmI : (M : Int) - (C : Int) * 2 = (k : Int) := by omega
      have hk0 : ¬ (k : Int) < 0 := by omega
      have hk0' : (0 : Int) ≤ (k : Int) := by omega
      have hkc : (k : Int) ≤ (cap : Int) := by omega
      have HE : Hid (bodyS p = some (p.take k)) := by show _ = _; rw [HBS.out, if_neg hmc, hk]
      have HKL : Hid ((p.take k).length = k) := HIN.out k hk.symm
      clear hk
      go_wp2_with fail
      obtain ⟨⟨k1, k2⟩, k3, k4, k5, k6⟩ := body_wraps HW.out.1 HW.out.2.1 HW.out.2.2
      go_quiet (fail)
      clear k1 k2 k3 k4 k5 k6
      go_wp2
      go_ret2
      refine ⟨below_drewN (Below.refl _ _) _, ?_⟩
      rw [HE.out]
      simp only
      rw [HKL.out]
      rfl

end Go.Proofs.Ytbmpnafbmgcniaa

/- bartizanref03.Few: entries, not too many, nor too long; Twins: entries of their own. -/
namespace Go.Proofs.Ytbmpnafbmgcniaa
open Go.RowKit
set_option linter.unusedVariables false

/-- an entry, cut -/
def cutE (e : EnB) : EnB := (e.1.take 80, e.2.1, e.2.2.1, e.2.2.2.take 600)

def fewE (n : Nat) (es : List EnB) : List EnB := (es.take n).map cutE

theorem fewE_take {n : Nat} {es : List EnB} {j : Nat} (h : j < es.length) (hn : j < n) : fewE n (es.take (j + 1)) = fewE n (es.take j) ++ [cutE es[j]] := by
  unfold fewE
  rw [List.take_take, List.take_take, Nat.min_eq_right (by omega), Nat.min_eq_right (by omega), List.take_succ_eq_append_getElem h, List.map_append]
  rfl

theorem fewE_stay {n : Nat} {es : List EnB} {j : Nat} (hn : ¬ j < n) : fewE n (es.take (j + 1)) = fewE n (es.take j) := by
  unfold fewE
  rw [List.take_take, List.take_take, Nat.min_eq_left (by omega), Nat.min_eq_left (by omega)]

theorem fewE_len (n : Nat) (es : List EnB) : (fewE n es).length ≤ n := by
  unfold fewE; rw [List.length_map, List.length_take]; omega

theorem ownrow_len {B n m c : Nat} {w : World} {a : Option Addr} {e : TypeId} {s : Nat} {cs : List Value} (h : w.ownsRow B e s (.slice a m c) n cs) : m = n := by
  rcases h.2 with ⟨e1, e2⟩ | ⟨g, cap', cur, e1, _⟩
  · cases e1; exact e2.symm
  · cases e1; rfl

theorem own_ne_new {B n : Nat} {w : World} {v : Value} {e : TypeId} {s : Nat} {cs : List Value} (h : w.ownsRow B e s v n cs) : some w.heap.size ≠ v.ownBlock := by
  intro e'
  have := (h.lt _ e'.symm).2
  omega

set_option maxRecDepth 20000 in
set_option maxHeartbeats 4000000 in
theorem fewE_any (w : World) (v : Value) (es : List EnB) (n : Nat) (hv : ArgE w v es) (hn : n ≤ 1000) :
    Calls Try.prog 10 #[v, .int .i64 (n : Int)] w fun e w' => ∃ x, e = .returned x ∧ OwnE w.heap.size w' x (fewE n es) ∧ Below w.heap.size w w' := by
  obtain ⟨i0, hi, hz0, hz1, hz2⟩ := info_parts infoEn
  have hv0 := hv
  obtain ⟨ao, cap, rfl, h1, h2, h3⟩ := hv
  unfold maxLen at h2
  have H3 : Hid _ := hv0
  obtain ⟨N, hN⟩ : ∃ N, es.length = N := ⟨_, rfl⟩
  rw [hN] at h1 ⊢
  have HN : Hid (es.length = N) := hN
  clear hv0 h3 hN
  go_enter Try.func10, Try.ntmps10
  go_wp2_with fail
  go_loopg [5, 10] N (fun gk pv iv wr => ∃ j n' c' : Nat, ∃ a' : Option Addr, gk + j = N ∧ iv = .int .i64 (j : Int) ∧ pv = .slice a' n' c' ∧ Hid (OwnE w.heap.size wr pv (fewE n (es.take j))) ∧ Hid (Below w.heap.size w wr))
  case atStart => exact ⟨0, 0, 0, none, by omega, rfl, rfl, by show OwnE _ _ _ _; rw [List.take_zero, show fewE n [] = [] by simp [fewE]]; exact OwnE.nil _ _, Below.refl _ _⟩
  case round =>
    obtain ⟨j, n', c', a', hj, rfl, rfl, HO, HB⟩ := hrel
    by_cases hlt : j < N
    · have hlt2 : j < es.length := by rw [HN.out]; exact hlt
      obtain ⟨_, _, e, _, _, h3⟩ := argE_below (show ArgE w _ es from H3.out) HB.out (Nat.le_refl _)
      cases e
      obtain ⟨b, off, rfl, xv, yv, c0, c1, c2, c3, rx, ry⟩ := h3 j hlt2
      obtain ⟨x1, x2, ex⟩ := Arg.shape rx
      obtain ⟨y1, y2, ey⟩ := Arg.shape ry
      subst ex ey
      obtain ⟨⟨ol, osq, ok, oo⟩, ho⟩ : ∃ o, es[j] = o := ⟨_, rfl⟩
      rw [ho] at c0 c1 c2 c3 rx ry
      obtain ⟨q1, q2⟩ : gk - 1 < gk ∧ gk - 1 + (j + 1) = N := by omega
      have hfl : (fewE n (es.take j)).length = min n j := by unfold fewE; rw [List.length_map, List.length_take, List.length_take, Nat.min_eq_left (show j ≤ es.length by omega)]
      have hnl : n' = min n j := by
        obtain ⟨cs, hrow, _⟩ := HO.out
        rw [ownrow_len hrow, hfl]
      have HTL : Hid ((fewE n (es.take j)).length = n') := by show _ = _; rw [hfl, hnl]
      have HNB : Hid (n' ≤ 1000) := by show _ ≤ _; omega
      obtain ⟨kk, hkk⟩ : ∃ kk, ok.toNat = kk := ⟨_, rfl⟩
      have HKK : Hid (ok.toNat = kk) := hkk
      simp only at c0 c1 c2 c3 rx ry
      rw [hkk] at c2
      obtain ⟨nl, hnlq⟩ : ∃ nl, ol.length = nl := ⟨_, rfl⟩
      obtain ⟨oln, holn⟩ : ∃ oln, oo.length = oln := ⟨_, rfl⟩
      rw [hnlq] at rx c0
      rw [holn] at ry c3
      have HRX : Hid (Arg wr (.slice x1 nl x2) ol) := rx
      have HRY : Hid (Arg wr (.slice y1 oln y2) oo) := ry
      clear hkk rx ry h3 hnlq holn hnl hfl
      by_cases hjn : j < n
      · have hjI : (j : Int) < (n : Int) := by omega
        obtain ⟨ck, HCK⟩ : ∃ ck, Hid (ol.take 80 = ck) := ⟨_, rfl⟩
        obtain ⟨co, HCO⟩ : ∃ co, Hid (oo.take 600 = co) := ⟨_, rfl⟩
        have HR : Hid (fewE n (es.take (j + 1)) = fewE n (es.take j) ++ [(ck, osq, ok, co)]) := by show _ = _; rw [fewE_take hlt2 hjn, ho]; unfold cutE; rw [← HCK.out, ← HCO.out]
        have hb0 := below_box4 wr (.cells #[.slice x1 nl x2, .int .u64 (osq : Int), .int .u8 (kk : Int), .slice y1 oln y2] 45)
        have bx := (box4_new wr (.slice x1 nl x2) (.int .u64 (osq : Int)) (.int .u8 (kk : Int)) (.slice y1 oln y2) 45).drew
        have rx0 := arg_drew (HRX.out.below hb0 (Nat.le_refl _))
        have ry0 := arg_drew (HRY.out.below hb0 (Nat.le_refl _))
        have HO0 : Hid (OwnE w.heap.size (wr.alloc (.cells #[.slice x1 nl x2, .int .u64 (osq : Int), .int .u8 (kk : Int), .slice y1 oln y2] 45)).drew (.slice a' n' c') (fewE n (es.take j))) := (HO.out.below hb0 (Nat.le_refl _)).drew
        have HB0 : Hid (Below w.heap.size w (wr.alloc (.cells #[.slice x1 nl x2, .int .u64 (osq : Int), .int .u8 (kk : Int), .slice y1 oln y2] 45)).drew) := (HB.out.alloc HB.out.size _).drew
        have HNE : Hid (some wr.heap.size ≠ (Value.slice a' n' c').ownBlock) := by
          obtain ⟨cs, hrow, _⟩ := HO.out
          exact own_ne_new hrow
        clear ho hb0
        go_wp2_with fail
        go_region_held3 (fun w' => w'.cell? ⟨wr.heap.size, 0, none⟩ = some (.slice x1 nl x2) ∧ w'.cell? ⟨wr.heap.size, 1, none⟩ = some (.int .u64 (osq : Int)) ∧ w'.cell? ⟨wr.heap.size, 2, none⟩ = some (.int .u8 (kk : Int)) ∧ w'.cell? ⟨wr.heap.size, 3, none⟩ = some (.slice y1 oln y2))
          (first | exact ⟨b4.c0, b4.c1, b4.c2, b4.c3⟩ | exact ⟨be.c0, be.c1, be.c2, be.c3⟩ | exact ⟨by2.c0, by2.c1, by2.c2, by2.c3⟩ | exact ⟨bx2.c0, bx2.c1, bx2.c2, bx2.c3⟩ | exact ⟨bx.c0, bx.c1, bx.c2, bx.c3⟩)
          (first
            | (go_at_call 17; refine (cut_any _ _ ol 80 rx0 (by omega)).mono ?_; rintro e wx ⟨x, rfl, ox, hbx⟩; rw [HCK.out] at ox; obtain ⟨gx, kx, hx⟩ := ox.shape; subst hx; have bx2 := bx.below hbx (Nat.le_refl _); clear rx0)
            | (go_at_call 17; refine (cut_any _ _ oo 600 (ry0.below hbx (Nat.le_refl _)) (by omega)).mono ?_; rintro e wy ⟨y, rfl, oy, hby⟩; rw [HCO.out] at oy; obtain ⟨gy, ky, hy⟩ := oy.shape; subst hy; have by2 := bx2.below hby (Nat.le_refl _); have be := by2.alloc (.cells #[.slice (some ⟨gx, 0, none⟩) ck.length kx, .int .u64 (osq : Int), .int .u8 (kk : Int), .slice (some ⟨gy, 0, none⟩) co.length ky] 45))
            | (have hbe := below_box4 wy (.cells #[.slice (some ⟨gx, 0, none⟩) ck.length kx, .int .u64 (osq : Int), .int .u8 (kk : Int), .slice (some ⟨gy, 0, none⟩) co.length ky] 45)
               have hOe := ((HO0.out.below hbx (Nat.le_refl _)).below hby (Nat.le_refl _)).below hbe (Nat.le_refl _)
               have hBx := HB0.out.trans (hbx.mono HB0.out.size)
               have hBy := hBx.trans (hby.mono hBx.size)
               have hBe := hBy.trans (hbe.mono hBy.size)
               have oxe := ((ox.below hby (Nat.le_refl _)).below hbe (Nat.le_refl _))
               have oye := (oy.below hbe (Nat.le_refl _))
               obtain ⟨cs, hrow, hel⟩ := hOe
               rw [HTL.out] at hrow
               have hsz : w.heap.size ≤ wy.heap.size := hBy.size
               have hnb9 := HNB.out
               have hlow : ∀ q, (Value.slice a' n' c').ownBlock = some q → q < (wr.alloc (.cells #[.slice x1 nl x2, .int .u64 (osq : Int), .int .u8 (kk : Int), .slice y1 oln y2] 45)).drew.heap.size := fun q hq => (HO0.out.lt q hq).2
               have hlow2 : ∀ q, (Value.slice a' n' c').ownBlock = some q → q < wx.heap.size := fun q hq => Nat.lt_of_lt_of_le (hlow q hq) hbx.size
               refine step_append_lies _ rfl (.tmp 18) (.tmp 34) 22 rfl w.heap.size 45 i0 (.agg #[.slice none 0 0, .int .u64 0, .int .u8 0, .slice none 0 0]) 4 64 Try.underlying22 hi hz0 hz1 hz2 rfl (by decide) (.slice a' n' c') n' cs rfl hrow ⟨wy.heap.size, 0, none⟩ 1 1 [.slice (some ⟨gx, 0, none⟩) ck.length kx, .int .u64 (osq : Int), .int .u8 (kk : Int), .slice (some ⟨gy, 0, none⟩) co.length ky] rfl rfl (laid4 _ _ _ _ _ _) (oneE _ _ _ _ _ _ _ _) (by decide) (by simp only [maxLen]; omega) (by omega) hBe.size _ rfl ?_
               intro g4 c4 w4 hown hgrow hat hlt4
               have b4 := be.grown hgrow HNE.out
               have hown' := hown
               rw [← HKK.out] at hown'
               have HP : Hid (OwnE w.heap.size w4 (.slice (some ⟨g4, 0, none⟩) (n' + 1) c4) (fewE n (es.take j) ++ [(ck, osq, ok, co)])) := own_pushE (ck, osq, ok, co) HTL.out hrow hel ⟨oxe.rd, neb_of ox.from hlow oxe.rd⟩ ⟨oye.rd, neb_of oy.from hlow2 oye.rd⟩ hown' hgrow hat
               have HB4 : Hid (Below w.heap.size w w4) := hBe.grown hgrow hBe.size (fun k' e => (hrow.lt k' e).1))
            | fail)
        all_goals
          clear bx ry0
          go_wp2_with fail
          go_roundg (gk - 1)
          case measure => exact q1
          case rel => exact ⟨j + 1, _, c4, _, q2, by go_num, rfl, by show OwnE _ _ _ _; rw [HR.out]; exact HP.out, HB4⟩
      · have hjI : ¬ (j : Int) < (n : Int) := by omega
        have HST : Hid (fewE n (es.take (j + 1)) = fewE n (es.take j)) := fewE_stay hjn
        have hb0 := below_box4 wr (.cells #[.slice x1 nl x2, .int .u64 (osq : Int), .int .u8 (kk : Int), .slice y1 oln y2] 45)
        have HO9 : Hid _ := HO.out.below hb0 (Nat.le_refl _)
        have HB9 : Hid _ := HB.out.alloc HB.out.size (.cells #[.slice x1 nl x2, .int .u64 (osq : Int), .int .u8 (kk : Int), .slice y1 oln y2] 45)
        clear ho hb0
        go_wp2_with fail
        go_roundg (gk - 1)
        case measure => exact q1
        case rel => exact ⟨j + 1, n', c', a', q2, by go_num, rfl, by show OwnE _ _ _ _; rw [HST.out]; exact HO9.out, HB9.out⟩
    · have hjN : j = N := by omega
      subst hjN
      have HE : Hid (fewE n (es.take j) = fewE n es) := by show _ = _; rw [← HN.out, List.take_length]
      go_wp2
      go_ret
      exact ⟨_, rfl, by rw [← HE.out]; exact HO.out, HB.out⟩

end Go.Proofs.Ytbmpnafbmgcniaa

/- bartizanref03.Twin, Twins: entries of their own. -/
namespace Go.Proofs.Ytbmpnafbmgcniaa
open Go.RowKit
set_option linter.unusedVariables false

/-- an entry's value -/
abbrev enV (x : Value) (s k : Int) (y : Value) : Value := .agg #[x, .int .u64 s, .int .u8 k, y]

set_option maxRecDepth 20000 in
set_option maxHeartbeats 4000000 in
theorem twin_any (w : World) (xv yv : Value) (l m : List UInt8) (s k : Int) (hx : Arg w xv l) (hy : Arg w yv m) (hl : l.length ≤ 1000000) (hm : m.length ≤ 1000000) :
    Calls Try.prog 30 #[enV xv s k yv] w fun e w' => ∃ x y, e = .returned (enV x s k y) ∧ (Rd w' x l ∧ From w.heap.size x) ∧ (Rd w' y m ∧ From w.heap.size y) ∧ Below w.heap.size w w' := by
  obtain ⟨x1, x2, ex⟩ := Arg.shape hx
  obtain ⟨y1, y2, ey⟩ := Arg.shape hy
  subst ex ey
  obtain ⟨nl, hnl⟩ : ∃ nl, l.length = nl := ⟨_, rfl⟩
  obtain ⟨ml, hml⟩ : ∃ ml, m.length = ml := ⟨_, rfl⟩
  rw [hnl] at hx ⊢
  rw [hml] at hy ⊢
  have HLM : Hid (l.length ≤ 1000000 ∧ m.length ≤ 1000000) := ⟨hl, hm⟩
  have hb0 := below_box4 w (.cells #[.slice x1 nl x2, .int .u64 s, .int .u8 k, .slice y1 ml y2] 45)
  have hb1 := below_box4 (w.alloc (.cells #[.slice x1 nl x2, .int .u64 s, .int .u8 k, .slice y1 ml y2] 45)) (.cells #[.slice none 0 0, .int .u64 0, .int .u8 0, .slice none 0 0] 45)
  have bx := ((box4_new w (.slice x1 nl x2) (.int .u64 s) (.int .u8 k) (.slice y1 ml y2) 45).below hb1 (Nat.le_refl _)).drew
  have br := box4f_new (w.alloc (.cells #[.slice x1 nl x2, .int .u64 s, .int .u8 k, .slice y1 ml y2] 45)) (.slice none 0 0) (.int .u64 0) (.int .u8 0) (.slice none 0 0) 45
  rw [show (w.alloc (.cells #[.slice x1 nl x2, .int .u64 s, .int .u8 k, .slice y1 ml y2] 45)).heap.size = w.heap.size + 1 by simp] at br
  have rx0 := arg_drew ((hx.below hb0 (Nat.le_refl _)).below hb1 (Nat.le_refl _))
  have ry0 := arg_drew ((hy.below hb0 (Nat.le_refl _)).below hb1 (Nat.le_refl _))
  have HB1 : Hid (Below w.heap.size w ((w.alloc (.cells #[.slice x1 nl x2, .int .u64 s, .int .u8 k, .slice y1 ml y2] 45)).alloc (.cells #[.slice none 0 0, .int .u64 0, .int .u8 0, .slice none 0 0] 45)).drew) := (hb0.trans (hb1.mono hb0.size)).drew
  have HSZ : Hid (((w.alloc (.cells #[.slice x1 nl x2, .int .u64 s, .int .u8 k, .slice y1 ml y2] 45)).alloc (.cells #[.slice none 0 0, .int .u64 0, .int .u8 0, .slice none 0 0] 45)).drew.heap.size = w.heap.size + 2) := by show _ = _; simp
  have HBR : Hid (Box4f ((w.alloc (.cells #[.slice x1 nl x2, .int .u64 s, .int .u8 k, .slice y1 ml y2] 45)).alloc (.cells #[.slice none 0 0, .int .u64 0, .int .u8 0, .slice none 0 0] 45)).drew (w.heap.size + 1) (.slice none 0 0) (.int .u64 0) (.int .u8 0) (.slice none 0 0)) := ⟨br.bx.drew, br.f0, br.f1, br.f2, br.f3⟩
  clear hx hy hl hm hnl hml hb0 hb1 br
  go_enter Try.func30, Try.ntmps30
  go_wp2_with fail
  go_region_held3 (fun w' => w'.cell? ⟨w.heap.size, 0, none⟩ = some (.slice x1 nl x2) ∧ w'.cell? ⟨w.heap.size, 1, none⟩ = some (.int .u64 s) ∧ w'.cell? ⟨w.heap.size, 2, none⟩ = some (.int .u8 k) ∧ w'.cell? ⟨w.heap.size, 3, none⟩ = some (.slice y1 ml y2))
    (first | with_reducible exact ⟨bs.c0, bs.c1, bs.c2, bs.c3⟩ | with_reducible exact ⟨by2.c0, by2.c1, by2.c2, by2.c3⟩ | with_reducible exact ⟨bx2.c0, bx2.c1, bx2.c2, bx2.c3⟩ | with_reducible exact ⟨bx.c0, bx.c1, bx.c2, bx.c3⟩)
    (first
      | (go_at_call 18; refine (copy_any _ _ l rx0 (by have := HLM.out.1; omega)).mono ?_; rintro e wx ⟨x, rfl, ox, hbx⟩; obtain ⟨gx, kx, hx⟩ := ox.shape; subst hx; have bx2 := bx.below hbx (Nat.le_refl _); clear rx0)
      | (go_at_call 18; refine (copy_any _ _ m (ry0.below hbx (Nat.le_refl _)) (by have := HLM.out.2; omega)).mono ?_; rintro e wy ⟨y, rfl, oy, hby⟩; obtain ⟨gy, ky, hy⟩ := oy.shape; subst hy; have by2 := bx2.below hby (Nat.le_refl _)
         have HBY : Hid (Below w.heap.size w wy) := bsplit (bsplit HB1.out hbx) hby
         have HOX : Hid (Rd wy (.slice (some ⟨gx, 0, none⟩) l.length kx) l ∧ w.heap.size + 2 ≤ gx) := ⟨(ox.below hby (Nat.le_refl _)).rd, by have := ox.lt.1; rw [HSZ.out] at this; exact this⟩
         have HOY : Hid (Rd wy (.slice (some ⟨gy, 0, none⟩) m.length ky) m ∧ w.heap.size + 2 ≤ gy) := ⟨oy.rd, by have := oy.lt.1; have h8 := hbx.size; rw [HSZ.out] at h8; omega⟩
         have bs := by2.stored (w.heap.size + 1) (by omega) (.slice (some ⟨gx, 0, none⟩) l.length kx) (.int .u64 s) (.int .u8 k) (.slice (some ⟨gy, 0, none⟩) m.length ky)
         obtain ⟨⟨c0, c1, c2, c3⟩, f0, f1, f2, f3⟩ := (HBR.out.below hbx (Nat.le_refl _)).below hby (Nat.le_refl _))
      | fail)
  go_wp2
  refine bodyPost_ret (v := enV (.slice (some ⟨gx, 0, none⟩) l.length kx) s k (.slice (some ⟨gy, 0, none⟩) m.length ky)) (by simp [results, Try.results30, go_sem, c0, c1, c2, c3]) rfl ⟨_, _, rfl, ⟨rd_store4 HOX.out.1 (fun g hg => ?_) _ _ _ _, from_at ?_⟩, ⟨rd_store4 HOY.out.1 (fun g hg => ?_) _ _ _ _, from_at ?_⟩, below_store4 HBY.out (Nat.le_succ _) _ _ _ _⟩
  · have h9 := HOX.out.2
    simp only [Value.ownBlock, Option.some.injEq] at hg
    omega
  · have h9 := HOX.out.2
    omega
  · have h9 := HOY.out.2
    simp only [Value.ownBlock, Option.some.injEq] at hg
    omega
  · have h9 := HOY.out.2
    omega

set_option maxRecDepth 20000 in
set_option maxHeartbeats 4000000 in
theorem twins_any (w : World) (v : Value) (es : List EnB) (hv : ArgE w v es) (hn : es.length ≤ 1000) (hm : ∀ e ∈ es, e.1.length ≤ 1000000 ∧ e.2.2.2.length ≤ 1000000) :
    Calls Try.prog 12 #[v] w fun e w' => ∃ x, e = .returned x ∧ OwnE w.heap.size w' x es ∧ Below w.heap.size w w' := by
  obtain ⟨i0, hi, hz0, hz1, hz2⟩ := info_parts infoEn
  have hv0 := hv
  obtain ⟨ao, cap, rfl, h1, h2, h3⟩ := hv
  unfold maxLen at h2
  have H3 : Hid _ := hv0
  have HM : Hid _ := hm
  obtain ⟨N, hN⟩ : ∃ N, es.length = N := ⟨_, rfl⟩
  rw [hN] at h1 hn ⊢
  have HN : Hid (es.length = N) := hN
  have HNB : Hid (N ≤ 1000) := hn
  clear hv0 h3 hN hm hn
  go_enter Try.func12, Try.ntmps12
  go_wp2_with fail
  go_loopg [3, 8] N (fun gk pv iv wr => ∃ j c' : Nat, ∃ a' : Option Addr, gk + j = N ∧ iv = .int .i64 (j : Int) ∧ pv = .slice a' j c' ∧ Hid (OwnE w.heap.size wr pv (es.take j)) ∧ Hid (Below w.heap.size w wr))
  case atStart => exact ⟨0, 0, none, by omega, rfl, rfl, by show OwnE _ _ _ _; rw [List.take_zero]; exact OwnE.nil _ _, Below.refl _ _⟩
  case round =>
    obtain ⟨j, c', a', hj, rfl, rfl, HO, HB⟩ := hrel
    by_cases hlt : j < N
    · have hlt2 : j < es.length := by rw [HN.out]; exact hlt
      obtain ⟨_, _, e, _, _, h3⟩ := argE_below (show ArgE w _ es from H3.out) HB.out (Nat.le_refl _)
      cases e
      obtain ⟨b, off, rfl, xv, yv, c0, c1, c2, c3, rx, ry⟩ := h3 j hlt2
      obtain ⟨x1, x2, ex⟩ := Arg.shape rx
      obtain ⟨y1, y2, ey⟩ := Arg.shape ry
      subst ex ey
      have hbd := HM.out _ (List.getElem_mem hlt2)
      obtain ⟨⟨ol, osq, ok, oo⟩, ho⟩ : ∃ o, es[j] = o := ⟨_, rfl⟩
      rw [ho] at c0 c1 c2 c3 rx ry hbd
      obtain ⟨q1, q2⟩ := gk_nxt hj hlt
      have HTL : Hid ((es.take j).length = j) := by show _ = _; rw [List.length_take, HN.out]; omega
      have HJ : Hid (j ≤ 1000) := by show j ≤ _; have := HNB.out; omega
      obtain ⟨kk, hkk⟩ : ∃ kk, ok.toNat = kk := ⟨_, rfl⟩
      have HKK : Hid (ok.toNat = kk) := hkk
      simp only at c0 c1 c2 c3 rx ry hbd
      rw [hkk] at c2
      obtain ⟨nl, hnlq⟩ : ∃ nl, ol.length = nl := ⟨_, rfl⟩
      obtain ⟨oln, holn⟩ : ∃ oln, oo.length = oln := ⟨_, rfl⟩
      rw [hnlq] at rx c0
      rw [holn] at ry c3
      have HR : Hid (es.take (j + 1) = es.take j ++ [(ol, osq, ok, oo)]) := by show _ = _; rw [List.take_succ_eq_append_getElem hlt2, ho]
      have hb0 := below_box4 wr (.cells #[.slice x1 nl x2, .int .u64 (osq : Int), .int .u8 (kk : Int), .slice y1 oln y2] 45)
      obtain ⟨z0, z1, z2, z3⟩ := box4_new wr (.slice x1 nl x2) (.int .u64 (osq : Int)) (.int .u8 (kk : Int)) (.slice y1 oln y2) 45
      have htw := twin_any (wr.alloc (.cells #[.slice x1 nl x2, .int .u64 (osq : Int), .int .u8 (kk : Int), .slice y1 oln y2] 45)) _ _ ol oo (osq : Int) (kk : Int) (rx.below hb0 (Nat.le_refl _)) (ry.below hb0 (Nat.le_refl _)) hbd.1 hbd.2
      have HO0 : Hid (OwnE w.heap.size (wr.alloc (.cells #[.slice x1 nl x2, .int .u64 (osq : Int), .int .u8 (kk : Int), .slice y1 oln y2] 45)) (.slice a' j c') (es.take j)) := HO.out.below hb0 (Nat.le_refl _)
      have HB0 : Hid (Below w.heap.size w (wr.alloc (.cells #[.slice x1 nl x2, .int .u64 (osq : Int), .int .u8 (kk : Int), .slice y1 oln y2] 45))) := bsplit HB.out hb0
      clear ho hb0 h3 rx ry hbd hnlq holn hkk
      go_wp2_with fail
      refine htw.mono ?_
      rintro e w2 ⟨x, y, rfl, rx, ry, hb2⟩
      obtain ⟨xa, xc, rfl⟩ := rx.1.len
      obtain ⟨ya, yc, rfl⟩ := ry.1.len
      obtain ⟨l1, hl1⟩ : ∃ n, ol.length = n := ⟨_, rfl⟩
      obtain ⟨l2, hl2⟩ : ∃ n, oo.length = n := ⟨_, rfl⟩
      rw [hl1] at rx ⊢
      rw [hl2] at ry ⊢
      have hbe := below_box4 w2 (.cells #[.slice xa l1 xc, .int .u64 (osq : Int), .int .u8 (kk : Int), .slice ya l2 yc] 45)
      have hlit := laid4 w2 (.slice xa l1 xc) (.int .u64 (osq : Int)) (.int .u8 (kk : Int)) (.slice ya l2 yc) 45
      have hlow : ∀ q, (Value.slice a' j c').ownBlock = some q → q < (wr.alloc (.cells #[.slice x1 nl x2, .int .u64 (osq : Int), .int .u8 (kk : Int), .slice y1 oln y2] 45)).heap.size := fun q hq => (HO0.out.lt q hq).2
      have HXE : Hid (Rd _ (.slice xa l1 xc) ol ∧ NeB (.slice xa l1 xc) ol (.slice a' j c')) := ⟨rx.1.below hbe (Nat.le_refl _), neb_of rx.2 hlow rx.1⟩
      have HYE : Hid (Rd _ (.slice ya l2 yc) oo ∧ NeB (.slice ya l2 yc) oo (.slice a' j c')) := ⟨ry.1.below hbe (Nat.le_refl _), neb_of ry.2 hlow ry.1⟩
      have HBE : Hid (Below w.heap.size w (w2.alloc (.cells #[.slice xa l1 xc, .int .u64 (osq : Int), .int .u8 (kk : Int), .slice ya l2 yc] 45))) := bsplit (bsplit HB0.out hb2) hbe
      have hse := HBE.out.size
      obtain ⟨cs, hrow, hel⟩ := (HO0.out.below hb2 (Nat.le_refl _)).below hbe (Nat.le_refl _)
      rw [HTL.out] at hrow
      have HEL : Hid _ := hel
      have HRW : Hid _ := hrow
      clear htw hb2 rx ry hl1 hl2 hbe hel hlow z0 z1 z2 z3
      go_wp2_with (first | (at_builtin; refine wpList_append_lies _ rfl (.tmp 12) (.tmp 15) 22 rfl w.heap.size 45 i0 (.agg #[.slice none 0 0, .int .u64 0, .int .u8 0, .slice none 0 0]) 4 64 Try.underlying22 hi hz0 hz1 hz2 rfl (by decide) (.slice a' j c') j cs rfl hrow ⟨w2.heap.size, 0, none⟩ 1 1 [.slice xa l1 xc, .int .u64 (osq : Int), .int .u8 (kk : Int), .slice ya l2 yc] rfl rfl hlit (oneE _ _ _ _ _ _ _ _) (by decide) (by have := HJ.out; simp only [maxLen]; omega) (by have := HJ.out; omega) hse _ rfl ?_; intro g4 c4 w4 hown hgrow hat hlt4; rw [← HKK.out] at hown; have HP : Hid (OwnE w.heap.size w4 (.slice (some ⟨g4, 0, none⟩) (j + 1) c4) (es.take j ++ [(ol, osq, ok, oo)])) := own_pushE (ol, osq, ok, oo) HTL.out HRW.out HEL.out HXE.out HYE.out hown hgrow hat; have HB4 : Hid (Below w.heap.size w w4) := HBE.out.grown hgrow HBE.out.size (fun k' e => (hrow.lt k' e).1); clear hown hgrow hat hlt4) | fail)
      clear hrow hlit hse
      go_roundg (gk - 1)
      case measure => exact q1
      case rel => exact ⟨j + 1, c4, _, q2, by go_num, rfl, by show OwnE _ _ _ _; rw [HR.out]; exact HP.out, HB4⟩
    · have hjN : j = N := by omega
      subst hjN
      have HE : Hid (es.take j = es) := by show _ = _; rw [← HN.out, List.take_length]
      go_wp2
      go_ret
      exact ⟨_, rfl, by rw [← HE.out]; exact HO.out, HB.out⟩

end Go.Proofs.Ytbmpnafbmgcniaa

/- leaf.take. -/
namespace Go.Proofs.Ytbmpnafbmgcniaa
set_option maxRecDepth 20000
open Go.RowKit
set_option linter.unusedVariables false

/-- the bytes l lie in block b, from off on -/
def Cel (w : World) (b off : Nat) (l : List UInt8) : Prop := ∀ j u, (bv l)[j]? = some u → w.cell? ⟨b, off + j, none⟩ = some u

theorem Cel.below {w w' : World} {b off : Nat} {l : List UInt8} (h : Cel w b off l) (hb : Below w.heap.size w w') : Cel w' b off l := fun j u hu => by
  have h1 := h j u hu
  exact (hb.cell (p := ⟨b, off + j, none⟩) (World.block_lt_of_cell? w _ h1)).trans h1

theorem Cel.drop {w : World} {b off : Nat} {l : List UInt8} (h : Cel w b off l) (s : Nat) : Cel w b (off + s) (l.drop s) := fun j u hu => by
  rw [Nat.add_assoc]
  refine h (s + j) u ?_
  rw [← hu]
  simp [bv]

theorem Cel.rd {w : World} {b off cap k : Nat} {l : List UInt8} (h : Cel w b off l) (h1 : l.length ≤ cap) (h2 : cap ≤ 9223372036854775807) (hk : k ≤ l.length) : Rd w (.slice (some ⟨b, off, none⟩) k cap) (l.take k) := rd_take h h1 h2 hk

abbrev enZ : Value := .agg #[.slice none 0 0, .int .u64 0, .int .u8 0, .slice none 0 0]

/-- what leaf.take answers -/
def TakPost (A p : List UInt8) (b : Nat) (w w' : World) (o : Ending) : Prop :=
  Below w.heap.size w w' ∧ match takS A p with
    | none => o = .returned (.tuple #[enZ, .slice none 0 0, .slice none 0 0, .bool false])
    | some q => ∃ x y f off' cap', o = .returned (.tuple #[enV x (q.1.2.1 : Int) (q.1.2.2.1.toNat : Int) y, f, .slice (some ⟨b, off', none⟩) q.2.2.length cap', .bool true]) ∧ (Rd w' x q.1.1 ∧ From w.heap.size x) ∧ (Rd w' y q.1.2.2.2 ∧ From w.heap.size y) ∧ (Rd w' f q.2.1 ∧ From w.heap.size f) ∧ Cel w b off' q.2.2 ∧ q.2.2.length < cap' ∧ cap' ≤ 9223372036854775807

theorem u64_len (n : Nat) (h : n ≤ 1000000) : IntKind.u64.wrap (n : Int) = (n : Int) := by rw [IntKind.wrap_u64]; omega

theorem keyS_kind (l : List UInt8) : (keyS l).2.2.1 < 256 := by
  unfold keyS
  split
  · split
    · split
      · rename_i a0 _ _ _ _ _ _ _ _ _ _; exact a0.toNat_lt
      · exact Nat.zero_lt_succ _
    · exact Nat.zero_lt_succ _
  · exact Nat.zero_lt_succ _

theorem verS_kind {F : List UInt8} {q : List UInt8 × Nat × Nat} (h : verS F = some q) : q.2.2 < 256 := by
  unfold verS at h
  split at h
  · cases h
  · split at h
    · cases h; exact keyS_kind _
    · cases h

theorem takS_bad {A p : List UInt8} {n s e : Nat} (hf : frontS p = (n, s, e)) (h : ¬ e = 0 ∨ A.length < n) : takS A p = none := by
  unfold takS; rw [hf, if_neg]; simp only; omega
theorem takS_good {A p : List UInt8} {n s : Nat} (hf : frontS p = (n, s, 0)) (h : n ≤ A.length) : takS A p = tak1 A (p.drop s) n := by
  unfold takS; rw [hf, if_pos]; exact ⟨rfl, h⟩
theorem tak1_bad {A p : List UInt8} {n1 n s e : Nat} (hf : frontS p = (n, s, e)) (h : ¬ e = 0) : tak1 A p n1 = none := by
  unfold tak1; rw [hf, if_neg]; exact h
theorem tak1_good {A p : List UInt8} {n1 n s : Nat} (hf : frontS p = (n, s, 0)) : tak1 A p n1 = tak2 A (p.drop s) n1 n := by
  unfold tak1; rw [hf, if_pos rfl]
theorem tak2_bad {A p : List UInt8} {n1 n2 n s e : Nat} (hf : frontS p = (n, s, e)) (h : ¬ e = 0) : tak2 A p n1 n2 = none := by
  unfold tak2; rw [hf, if_neg]; exact h
theorem tak2_good {A p : List UInt8} {n1 n2 n s : Nat} (hf : frontS p = (n, s, 0)) : tak2 A p n1 n2 = tak3 A (p.drop s) n1 n2 n := by
  unfold tak2; rw [hf, if_pos rfl]
theorem tak3_bad {A p : List UInt8} {n1 n2 n3 : Nat} (h : p.length < n2 ∨ p.length - n2 < n3) : tak3 A p n1 n2 n3 = none := by
  unfold tak3; rw [if_neg]; omega
theorem tak3_none {A p : List UInt8} {n1 n2 n3 : Nat} (h2 : n2 ≤ p.length) (h3 : n3 ≤ p.length - n2) (hv : verS (A.take n1 ++ p.take n2) = none) : tak3 A p n1 n2 n3 = none := by
  unfold tak3; rw [if_pos ⟨h2, h3⟩, hv]
theorem tak3_some {A p F : List UInt8} {n1 n2 n3 : Nat} {q : List UInt8 × Nat × Nat} (h2 : n2 ≤ p.length) (h3 : n3 ≤ p.length - n2) (hF : A.take n1 ++ p.take n2 = F) (hv : verS F = some q) : tak3 A p n1 n2 n3 = some ((q.1, q.2.1, UInt8.ofNat q.2.2, (p.drop n2).take n3), F, (p.drop n2).drop n3) := by
  unfold tak3; rw [if_pos ⟨h2, h3⟩, hF, hv]

theorem rd_front {w : World} {a : Option Addr} {n c k : Nat} {l : List UInt8} (h : Rd w (.slice a n c) l) (hk : k ≤ l.length) : Rd w (.slice a k c) (l.take k) := by
  rcases h with ⟨e, rfl⟩ | ⟨b, off, cap, e, h1, h2, h3⟩
  · cases e
    obtain rfl : k = 0 := by simpa using hk
    exact .inl ⟨rfl, rfl⟩
  · cases e
    have := rd_sub h3 0 k c (by omega) h2 (by omega)
    rwa [List.drop_zero, Nat.add_zero] at this

/-- three cells, four stored elsewhere -/
theorem Box.stored4 {w : World} {b : Nat} {v0 v1 v2 : Value} (h : Box w b v0 v1 v2) (b' : Nat) (hne : b ≠ b') (u0 u1 u2 u3 : Value) : Box ((((w.setCell ⟨b', 0, none⟩ u0).setCell ⟨b', 1, none⟩ u1).setCell ⟨b', 2, none⟩ u2).setCell ⟨b', 3, none⟩ u3) b v0 v1 v2 :=
  (((h.other ⟨b', 0, none⟩ hne u0).other ⟨b', 1, none⟩ hne u1).other ⟨b', 2, none⟩ hne u2).other ⟨b', 3, none⟩ hne u3

theorem Cel.back {w w' : World} {b off : Nat} {l : List UInt8} (h : Cel w' b off l) (hb : Below w.heap.size w w') (hbl : b < w.heap.size) : Cel w b off l := fun j u hu => (hb.cell (p := ⟨b, off + j, none⟩) hbl).symm.trans (h j u hu)

set_option maxHeartbeats 8000000 in
theorem ltake_any (w : World) (av : Value) (A p : List UInt8) (b off cap : Nat) (ha : Rd w av A) (hAl : A.length ≤ 1000) (hc : Cel w b off p) (h1 : p.length < cap) (h2 : cap ≤ 9223372036854775807) (hp : p.length ≤ 90000) (hbw : b < w.heap.size) :
    Calls Try.prog 50 #[av, .slice (some ⟨b, off, none⟩) p.length cap] w fun o w' => TakPost A p b w w' o := by
  obtain ⟨aa, ac, rfl, ha1, ha2, ha3⟩ := Rd.spots ha
  clear ha3
  obtain ⟨AL, hAL⟩ : ∃ n, A.length = n := ⟨_, rfl⟩
  have HAL : Hid (A.length = AL) := hAL
  rw [hAL] at hAl ha1 ha ⊢
  have HA : Hid (Rd w (.slice aa AL ac) A) := ha
  have hb0 := below_box4 w (.cells #[.slice none 0 0, .int .u64 0, .int .u8 0, .slice none 0 0] 45)
  have BR0 := box4f_new w (.slice none 0 0) (.int .u64 0) (.int .u8 0) (.slice none 0 0) 45
  have HB0 : Hid (Below w.heap.size w (w.alloc (.cells #[.slice none 0 0, .int .u64 0, .int .u8 0, .slice none 0 0] 45))) := hb0
  have HC : Hid (Cel w b off p) := hc
  have HBW : Hid (b < w.heap.size) := hbw
  have HL1 : Hid (p.length < cap ∧ cap ≤ 9223372036854775807 ∧ p.length ≤ 90000) := ⟨h1, h2, hp⟩
  obtain ⟨⟨n1, s1, e1⟩, hf1⟩ : ∃ y, frontS p = y := ⟨_, rfl⟩
  have HF1 : Hid (frontS p = (n1, s1, e1)) := hf1
  have hAI : (AL : Int) ≤ 100000 := by omega
  have hacI : (AL : Int) ≤ (ac : Int) := by omega
  have HWA : Hid (AL ≤ 1000000) := by show AL ≤ _; omega
  clear hAL ha hb0 hf1 hbw
  go_enter Try.func50, Try.ntmps50
  by_cases he1 : e1 = 0
  · have HF1' : Hid (frontS p = (n1, s1, 0)) := by show _ = _; rw [HF1.out, he1]
    have htk := ltn_ok (w.alloc (.cells #[.slice none 0 0, .int .u64 0, .int .u8 0, .slice none 0 0] 45)) b off cap p n1 s1 (hc.below HB0.out) (by omega) h2 HF1'.out
    obtain ⟨hs1, hs2, hs9, hnb⟩ := frontS_ok HF1'.out
    clear hc h1 h2 hp he1
    go_wp2_with fail
    refine htk.mono ?_
    rintro o w1 ⟨off1, rfl, hc1, hb1⟩
    rw [← List.length_drop]
    have HB1 : Hid (Below w.heap.size w w1) := bsplit HB0.out hb1
    have BR1 := BR0.below hb1 (Nat.le_refl _)
    obtain ⟨p1, hp1⟩ : ∃ l, p.drop s1 = l := ⟨_, rfl⟩
    have hp1l : p1.length = p.length - s1 := by rw [← hp1, List.length_drop]
    rw [hp1] at hc1 ⊢
    have HP1 : Hid (p.drop s1 = p1) := hp1
    have HC1 : Hid (Cel w1 b off1 p1) := Cel.below hc1 hb1
    obtain ⟨cap1, hcap1⟩ : ∃ c, cap - s1 = c := ⟨_, rfl⟩
    rw [hcap1]
    have HL2 : Hid (p1.length < cap1 ∧ cap1 ≤ 9223372036854775807 ∧ p1.length ≤ 90000) := by have := HL1.out; exact ⟨by omega, by omega, by omega⟩
    clear htk hb1 hc1 BR0 hp1 hp1l hcap1 hs2
    have hwA := u64_len AL HWA.out
    by_cases hnA : n1 ≤ AL
    · have hnI : ¬ (AL : Int) < (n1 : Int) := by omega
      have hnb2 : decide ((AL : Int) < (n1 : Int)) = false := decide_eq_false hnI
      have hn1I : (n1 : Int) ≤ (AL : Int) := by omega
      have HU2 : Hid (takS A p = tak1 A p1 n1) := by show _ = _; rw [takS_good HF1'.out (by rw [HAL.out]; exact hnA), HP1.out]
      obtain ⟨⟨n2, s2, e2⟩, hf2⟩ : ∃ y, frontS p1 = y := ⟨_, rfl⟩
      have HF2 : Hid (frontS p1 = (n2, s2, e2)) := hf2
      clear hf2
      by_cases he2 : e2 = 0
      · have HF2' : Hid (frontS p1 = (n2, s2, 0)) := by show _ = _; rw [HF2.out, he2]
        have htk := ltn_ok w1 b off1 cap1 p1 n2 s2 HC1.out (by have := HL2.out; omega) HL2.out.2.1 HF2'.out
        obtain ⟨hs3, hs4, hs10, hnb3⟩ := frontS_ok HF2'.out
        clear he2
        go_wp2_with fail
        refine htk.mono ?_
        rintro o w2 ⟨off2, rfl, hc2, hb2⟩
        rw [← List.length_drop]
        have HB2 : Hid (Below w.heap.size w w2) := bsplit HB1.out hb2
        have BR2 := BR1.below hb2 (Nat.le_refl _)
        obtain ⟨p2, hp2⟩ : ∃ l, p1.drop s2 = l := ⟨_, rfl⟩
        have hp2l : p2.length = p1.length - s2 := by rw [← hp2, List.length_drop]
        rw [hp2] at hc2 ⊢
        have HU3 : Hid (takS A p = tak2 A p2 n1 n2) := by show _ = _; rw [HU2.out, tak1_good HF2'.out, hp2]
        have HC2 : Hid (Cel w2 b off2 p2) := Cel.below hc2 hb2
        obtain ⟨cap2, hcap2⟩ : ∃ c, cap1 - s2 = c := ⟨_, rfl⟩
        rw [hcap2]
        have HL3 : Hid (p2.length < cap2 ∧ cap2 ≤ 9223372036854775807 ∧ p2.length ≤ 90000) := by have := HL2.out; exact ⟨by omega, by omega, by omega⟩
        clear htk hb2 hc2 BR1 hp2 hp2l hcap2 hs4
        obtain ⟨⟨n3, s3, e3⟩, hf3⟩ : ∃ y, frontS p2 = y := ⟨_, rfl⟩
        have HF3 : Hid (frontS p2 = (n3, s3, e3)) := hf3
        clear hf3
        by_cases he3 : e3 = 0
        · have HF3' : Hid (frontS p2 = (n3, s3, 0)) := by show _ = _; rw [HF3.out, he3]
          have htk := ltn_ok w2 b off2 cap2 p2 n3 s3 HC2.out (by have := HL3.out; omega) HL3.out.2.1 HF3'.out
          obtain ⟨hs5, hs6, hs11, hnb5⟩ := frontS_ok HF3'.out
          clear he3
          go_wp2_with fail
          refine htk.mono ?_
          rintro o w3 ⟨off3, rfl, hc3, hb3⟩
          rw [← List.length_drop]
          have HB3 : Hid (Below w.heap.size w w3) := bsplit HB2.out hb3
          have BR3 := BR2.below hb3 (Nat.le_refl _)
          obtain ⟨p3, hp3⟩ : ∃ l, p2.drop s3 = l := ⟨_, rfl⟩
          have hp3l : p3.length = p2.length - s3 := by rw [← hp3, List.length_drop]
          rw [hp3] at hc3 ⊢
          have HU4 : Hid (takS A p = tak3 A p3 n1 n2 n3) := by show _ = _; rw [HU3.out, tak2_good HF3'.out, hp3]
          have HC3 : Hid (Cel w3 b off3 p3) := Cel.below hc3 hb3
          obtain ⟨cap3, hcap3⟩ : ∃ c, cap2 - s3 = c := ⟨_, rfl⟩
          obtain ⟨L3, hL3⟩ : ∃ n, p3.length = n := ⟨_, rfl⟩
          rw [hcap3, hL3]
          have HP3 : Hid (p3.length = L3) := hL3
          have hl3 : L3 < cap3 ∧ cap3 ≤ 9223372036854775807 ∧ L3 ≤ 90000 := by have := HL3.out; exact ⟨by omega, by omega, by omega⟩
          have HL4 : Hid (L3 < cap3 ∧ cap3 ≤ 9223372036854775807 ∧ L3 ≤ 90000) := hl3
          have hL3I : (L3 : Int) ≤ 100000 := by omega
          have hwL := u64_len L3 (by omega)
          clear htk hb3 hc3 BR2 hp3 hp3l hcap3 hs6 hL3 hl3
          by_cases hn2 : n2 ≤ L3
          · have hn2I : ¬ (L3 : Int) < (n2 : Int) := by omega
            have hn2b : decide ((L3 : Int) < (n2 : Int)) = false := decide_eq_false hn2I
            obtain ⟨D, hD⟩ : ∃ D, L3 - n2 = D := ⟨_, rfl⟩
            have hDI : (L3 : Int) - (n2 : Int) = (D : Int) := by omega
            have hwD := u64_len D (by have := HL4.out; omega)
            by_cases hn3 : n3 ≤ D
            · have hn3I : ¬ (D : Int) < (n3 : Int) := by omega
              have hn3b : decide ((D : Int) < (n3 : Int)) = false := decide_eq_false hn3I
              obtain ⟨F, hF⟩ : ∃ F, A.take n1 ++ p3.take n2 = F := ⟨_, rfl⟩
              have hFl : F.length ≤ 100000 := by rw [← hF, List.length_append, List.length_take, List.length_take, HAL.out, HP3.out]; have := HL4.out; omega
              have HF : Hid (A.take n1 ++ p3.take n2 = F) := hF
              have hrl := rdl_two w3 (.slice aa n1 ac) (.slice (some ⟨b, off3, none⟩) n2 cap3) (A.take n1) (p3.take n2) (rd_front (HA.out.below HB3.out (Nat.le_refl _)) (by rw [HAL.out]; exact hnA)) (Cel.rd HC3.out (by rw [HP3.out]; have := HL4.out; omega) HL4.out.2.1 (by rw [HP3.out]; exact hn2))
              have hj := join_any _ _ _ hrl.drew (by
                simp only [List.flatten_cons, List.flatten_nil, List.append_nil]
                rw [HF.out]
                omega)
              rw [show [A.take n1, p3.take n2].flatten = F by simp [← hF]] at hj
              have hba := below_box4 w3 (.cells #[.slice aa n1 ac, .slice (some ⟨b, off3, none⟩) n2 cap3] 26)
              have HB4 : Hid (Below w.heap.size w (w3.alloc (.cells #[.slice aa n1 ac, .slice (some ⟨b, off3, none⟩) n2 cap3] 26)).drew) := (bsplit HB3.out hba).drew
              have BR4 := BR3.below (hba.drew) (Nat.le_refl _)
              have HSZ4 : Hid (w.heap.size + 1 ≤ (w3.alloc (.cells #[.slice aa n1 ac, .slice (some ⟨b, off3, none⟩) n2 cap3] 26)).drew.heap.size) := by show _ ≤ _; have := BR4.bx.lt; omega
              have k0 : (0 : Int) ≤ (n1 : Int) := by omega
              have k1 : (n1 : Int) ≤ (ac : Int) := by omega
              have k2 : (0 : Int) ≤ (n2 : Int) := by omega
              have k3 : (n2 : Int) ≤ (cap3 : Int) := by have := HL4.out; omega
              clear hrl hba hF BR3
              go_wp2_with fail
              go_region_held3 (fun _ => True) (exact trivial)
                (first
                  | (go_at_call 36; refine hj.mono ?_; rintro e w4 ⟨vf, rfl, of, hb4⟩
                     obtain ⟨gf, cf, hvf⟩ := of.shape
                     subst hvf
                     have HB5 : Hid (Below w.heap.size w w4) := bsplit HB4.out hb4
                     have BR5 := BR4.below hb4 (Nat.le_refl _)
                     have HOF : Hid (Rd w4 (.slice (some ⟨gf, 0, none⟩) F.length cf) F ∧ w.heap.size + 1 ≤ gf) := ⟨of.rd, Nat.le_trans HSZ4.out of.lt.1⟩
                     have HSZ5 : Hid (w.heap.size + 1 ≤ w4.heap.size) := Nat.le_trans HSZ4.out hb4.size
                     have hvr := lver_any w4 _ F of.rd hFl
                     clear hb4 of)
                  | fail)
              clear hj BR4 k0 k1
              go_wp2_with fail
              refine hvr.mono ?_
              rintro o w5 ⟨hb5, hq⟩
              have HB6 : Hid (Below w.heap.size w w5) := bsplit HB5.out hb5
              have BR6 := BR5.below hb5 (Nat.le_refl _)
              have HOF5 : Hid (Rd w5 (.slice (some ⟨gf, 0, none⟩) F.length cf) F) := HOF.out.1.below hb5 (Nat.le_refl _)
              have HSZ6 : Hid (w.heap.size + 1 ≤ w5.heap.size) := Nat.le_trans HSZ5.out hb5.size
              clear hvr hb5 BR5
              cases hvs : verS F with
              | none =>
                rw [hvs] at hq
                obtain ⟨kxa, kxn, kxc, ks, kk, rfl⟩ := hq
                have HN : Hid (takS A p = none) := by show _ = _; rw [HU4.out]; exact tak3_none (by rw [HP3.out]; exact hn2) (by rw [HP3.out, hD]; exact hn3) (by rw [HF.out]; exact hvs)
                have hbk := below_box w5 #[.slice kxa kxn kxc, .int .u64 ks, .int .u8 kk] 37
                have HB7 : Hid (Below w.heap.size w (w5.alloc (.cells #[.slice kxa kxn kxc, .int .u64 ks, .int .u8 kk] 37))) := bsplit HB6.out hbk
                have BR7 := BR6.below hbk (Nat.le_refl _)
                clear hvs hbk BR6
                obtain ⟨⟨c0, c1, c2, c3⟩, f0, f1, f2, f3⟩ := BR7
                go_wp2
                refine bodyPost_ret (v := .tuple #[enZ, .slice none 0 0, .slice none 0 0, .bool false]) (by simp [results, Try.results50, go_sem, c0, c1, c2, c3]) rfl ?_
                refine ⟨below_store4 HB7.out (Nat.le_refl _) _ _ _ _, ?_⟩
                rw [HN.out]
              | some q =>
                rw [hvs] at hq
                obtain ⟨kx, rfl, rkx, fkx⟩ := hq
                have hkd := verS_kind hvs
                have HN : Hid (takS A p = some ((q.1, q.2.1, UInt8.ofNat q.2.2, (p3.drop n2).take n3), F, (p3.drop n2).drop n3)) := by show _ = _; rw [HU4.out]; exact tak3_some (by rw [HP3.out]; exact hn2) (by rw [HP3.out, hD]; exact hn3) HF.out hvs
                obtain ⟨ku, ks, kk⟩ := q
                simp only at rkx hkd HN ⊢
                have HKD : Hid ((UInt8.ofNat kk).toNat = kk) := by show _ = _; simp; omega
                obtain ⟨kxa, kxc, rfl⟩ := rkx.len
                obtain ⟨KL, hKL⟩ : ∃ n, ku.length = n := ⟨_, rfl⟩
                rw [hKL] at rkx fkx ⊢
                have hbk := below_box w5 #[.slice kxa KL kxc, .int .u64 (ks : Int), .int .u8 (kk : Int)] 37
                have HB7 : Hid (Below w.heap.size w (w5.alloc (.cells #[.slice kxa KL kxc, .int .u64 (ks : Int), .int .u8 (kk : Int)] 37)).drew) := (bsplit HB6.out hbk).drew
                have BR7 := BR6.below hbk.drew (Nat.le_refl _)
                have BK := (box_new w5 (.slice kxa KL kxc) (.int .u64 (ks : Int)) (.int .u8 (kk : Int)) 37).drew
                have HKX : Hid (Rd (w5.alloc (.cells #[.slice kxa KL kxc, .int .u64 (ks : Int), .int .u8 (kk : Int)] 37)).drew (.slice kxa KL kxc) ku ∧ From (w.heap.size + 1) (.slice kxa KL kxc)) := ⟨(rkx.below hbk (Nat.le_refl _)).drew, fun a n c e => Nat.le_trans HSZ5.out (fkx a n c e)⟩
                have HOF6 : Hid (Rd (w5.alloc (.cells #[.slice kxa KL kxc, .int .u64 (ks : Int), .int .u8 (kk : Int)] 37)).drew (.slice (some ⟨gf, 0, none⟩) F.length cf) F) := (HOF5.out.below hbk (Nat.le_refl _)).drew
                obtain ⟨c4, hc4⟩ : ∃ c, cap3 - n2 = c := ⟨_, rfl⟩
                have hl4 : D < c4 ∧ c4 ≤ 9223372036854775807 := by have := HL4.out; omega
                have HL5 : Hid (D < c4 ∧ c4 ≤ 9223372036854775807 ∧ D ≤ 90000 ∧ L3 - n2 = D) := ⟨hl4.1, hl4.2, by have := HL4.out; omega, hD⟩
                have HC6 : Hid (Cel w b (off3 + n2) (p3.drop n2)) := (Cel.back HC3.out HB3.out HBW.out).drop n2
                have HC7 : Hid (Cel (w5.alloc (.cells #[.slice kxa KL kxc, .int .u64 (ks : Int), .int .u8 (kk : Int)] 37)).drew b (off3 + n2) (p3.drop n2)) := HC6.out.below HB7.out
                have HPD : Hid ((p3.drop n2).length = D) := by show _ = _; rw [List.length_drop, HP3.out, hD]
                have hcl := clone_any (w5.alloc (.cells #[.slice kxa KL kxc, .int .u64 (ks : Int), .int .u8 (kk : Int)] 37)).drew (.slice (some ⟨b, off3 + n2, none⟩) n3 c4) ((p3.drop n2).take n3) (Cel.rd HC7.out (by rw [HPD.out]; omega) hl4.2 (by rw [HPD.out]; exact hn3)).arg (by rw [List.length_take, HPD.out]; have := HL5.out; omega)
                obtain ⟨VL, hVL⟩ : ∃ l, (p3.drop n2).take n3 = l := ⟨_, rfl⟩
                have hVl : VL.length = n3 := by rw [← hVL, List.length_take, HPD.out]; omega
                have HVL : Hid ((p3.drop n2).take n3 = VL ∧ VL.length = n3) := ⟨hVL, hVl⟩
                rw [hVL] at hcl HN
                have k4 : ¬ cap3 = n2 := by omega
                have k5 : ¬ (cap3 : Int) = (n2 : Int) := by omega
                have k6 : (L3 : Int) ≤ (cap3 : Int) := by have := HL4.out; omega
                have k7 : (n2 : Int) ≤ (L3 : Int) := by omega
                have k8 : (n3 : Int) ≤ (D : Int) := by omega
                have k9 : (D : Int) ≤ (c4 : Int) := by omega
                have k10 : (n3 : Int) ≤ (c4 : Int) := by omega
                have k11 : ¬ c4 = n3 := by omega
                have k12 : ¬ (c4 : Int) = (n3 : Int) := by omega
                have k13 : (0 : Int) ≤ (n3 : Int) := by omega
                have HSZ7 : Hid (w.heap.size + 1 ≤ (w5.alloc (.cells #[.slice kxa KL kxc, .int .u64 (ks : Int), .int .u8 (kk : Int)] 37)).drew.heap.size) := by show _ ≤ _; have := HSZ6.out; simp; omega
                have HNE : Hid (w5.heap.size ≠ w.heap.size) := by show _ ≠ _; have := HSZ6.out; omega
                have BK' := BK
                obtain ⟨d0, d1, d2, _⟩ := box_new w5 (.slice kxa KL kxc) (.int .u64 (ks : Int)) (.int .u8 (kk : Int)) 37
                clear hvs hbk BR6 rkx fkx hKL hkd hl4 HF1 HF2 HF3 hVL hVl
                go_wp2_with fail
                go_region_held3 (fun w' => w'.cell? ⟨w5.heap.size, 0, none⟩ = some (.slice kxa KL kxc) ∧ w'.cell? ⟨w5.heap.size, 1, none⟩ = some (.int .u64 (ks : Int)) ∧ w'.cell? ⟨w5.heap.size, 2, none⟩ = some (.int .u8 (kk : Int)))
                  (first | with_reducible exact ⟨b7.c0, b7.c1, b7.c2⟩ | with_reducible exact ⟨b6.c0, b6.c1, b6.c2⟩ | exact ⟨BK.c0, BK.c1, BK.c2⟩)
                  (first
                    | (go_at_call 61; refine hcl.mono ?_; rintro e w6 ⟨y, rfl, oy, hb6⟩
                       obtain ⟨ya, yc, hy⟩ := oy.rd.len
                       rw [HVL.out.2] at hy
                       subst hy
                       have HB8 : Hid (Below w.heap.size w w6) := bsplit HB7.out hb6
                       obtain ⟨⟨c0, c1, c2, c3⟩, f0, f1, f2, f3⟩ := BR7.below hb6 (Nat.le_refl _)
                       have b6 := BK.below hb6 (Nat.le_refl _)
                       have b7 := b6.stored4 w.heap.size HNE.out (.slice kxa KL kxc) (.int .u64 (ks : Int)) (.int .u8 (kk : Int)) (.slice ya n3 yc)
                       have HKX8 : Hid (Rd w6 (.slice kxa KL kxc) ku) := HKX.out.1.below hb6 (Nat.le_refl _)
                       have HOF8 : Hid (Rd w6 (.slice (some ⟨gf, 0, none⟩) F.length cf) F) := HOF6.out.below hb6 (Nat.le_refl _)
                       have HOY : Hid (Rd w6 (.slice ya n3 yc) VL ∧ From (w.heap.size + 1) (.slice ya n3 yc)) := ⟨oy.rd, fun a n c e => by
                         rcases oy with ⟨h, _⟩ | h
                         · rw [h] at e; cases e
                         · exact Nat.le_trans HSZ7.out (h.from a n c e)⟩
                       clear hb6 oy)
                    | fail)
                have HRL : Hid (((p3.drop n2).drop n3).length = D - n3) := by show _ = _; rw [List.length_drop, HPD.out]
                clear k4 k5 k6 k7 k8 k9 k10 k11 k12 k13 BK BK' b6 b7 d0 d1 d2
                go_wp2
                refine bodyPost_ret (v := .tuple #[enV (.slice kxa KL kxc) (ks : Int) (kk : Int) (.slice ya n3 yc), .slice (some ⟨gf, 0, none⟩) F.length cf, .slice (some ⟨b, off3 + n2 + n3, none⟩) (D - n3) (c4 - n3), .bool true]) (by simp [results, Try.results50, go_sem, c0, c1, c2, c3]) rfl ?_
                refine ⟨below_store4 HB8.out (Nat.le_refl _) _ _ _ _, ?_⟩
                rw [HN.out]
                simp only
                have hfar : ∀ {v : Value}, From (w.heap.size + 1) v → ∀ g, v.ownBlock = some g → g ≠ w.heap.size := fun {v} hf g hg => by
                  cases v with
                  | slice a n c =>
                    cases a with
                    | none => simp [Value.ownBlock] at hg
                    | some a =>
                      have h9 := hf a n c rfl
                      simp only [Value.ownBlock, Option.some.injEq] at hg
                      omega
                  | _ => simp [Value.ownBlock] at hg
                refine ⟨.slice kxa KL kxc, .slice ya n3 yc, .slice (some ⟨gf, 0, none⟩) F.length cf, off3 + n2 + n3, c4 - n3, by rw [HKD.out, HRL.out], ⟨rd_store4 HKX8.out (hfar HKX.out.2) _ _ _ _, fun a n c e => by have := HKX.out.2 a n c e; omega⟩, ⟨rd_store4 HOY.out.1 (hfar HOY.out.2) _ _ _ _, fun a n c e => by have := HOY.out.2 a n c e; omega⟩, ⟨rd_store4 HOF8.out (fun g hg => by have := HOF.out.2; simp only [Value.ownBlock, Option.some.injEq] at hg; omega) _ _ _ _, from_at (by have := HOF.out.2; omega)⟩, HC6.out.drop n3, by rw [HRL.out]; have := HL5.out; omega, by have := HL5.out; omega⟩
            · have hn3I : (D : Int) < (n3 : Int) := by omega
              have hn3b : decide ((D : Int) < (n3 : Int)) = true := decide_eq_true hn3I
              have HN : Hid (takS A p = none) := by show _ = _; rw [HU4.out]; exact tak3_bad (.inr (by rw [HP3.out, hD]; omega))
              clear hD
              obtain ⟨⟨c0, c1, c2, c3⟩, f0, f1, f2, f3⟩ := BR3
              go_wp2
              refine bodyPost_ret (v := .tuple #[enZ, .slice none 0 0, .slice none 0 0, .bool false]) (by simp [results, Try.results50, go_sem, c0, c1, c2, c3]) rfl ?_
              refine ⟨below_store4 HB3.out (Nat.le_refl _) _ _ _ _, ?_⟩
              rw [HN.out]
          · have hn2I : (L3 : Int) < (n2 : Int) := by omega
            have hn2b : decide ((L3 : Int) < (n2 : Int)) = true := decide_eq_true hn2I
            have HN : Hid (takS A p = none) := by show _ = _; rw [HU4.out]; exact tak3_bad (.inl (by rw [HP3.out]; omega))
            obtain ⟨⟨c0, c1, c2, c3⟩, f0, f1, f2, f3⟩ := BR3
            go_wp2
            refine bodyPost_ret (v := .tuple #[enZ, .slice none 0 0, .slice none 0 0, .bool false]) (by simp [results, Try.results50, go_sem, c0, c1, c2, c3]) rfl ?_
            refine ⟨below_store4 HB3.out (Nat.le_refl _) _ _ _ _, ?_⟩
            rw [HN.out]
        · have HN : Hid (takS A p = none) := by show _ = _; rw [HU3.out]; exact tak2_bad HF3.out he3
          have htk := ltn_err w2 b off2 cap2 p2 n3 s3 e3 HC2.out (by have := HL3.out; omega) HL3.out.2.1 HF3.out he3
          go_wp2_with fail
          refine htk.mono ?_
          rintro o w3 ⟨rfl, hb3⟩
          have HB3 : Hid (Below w.heap.size w w3) := bsplit HB2.out hb3
          have BR3 := BR2.below hb3 (Nat.le_refl _)
          clear htk hb3
          obtain ⟨⟨c0, c1, c2, c3⟩, f0, f1, f2, f3⟩ := BR3
          go_wp2
          refine bodyPost_ret (v := .tuple #[enZ, .slice none 0 0, .slice none 0 0, .bool false]) (by simp [results, Try.results50, go_sem, c0, c1, c2, c3]) rfl ?_
          refine ⟨below_store4 HB3.out (Nat.le_refl _) _ _ _ _, ?_⟩
          rw [HN.out]
      · have HN : Hid (takS A p = none) := by show _ = _; rw [HU2.out]; exact tak1_bad HF2.out he2
        have htk := ltn_err w1 b off1 cap1 p1 n2 s2 e2 HC1.out (by have := HL2.out; omega) HL2.out.2.1 HF2.out he2
        go_wp2_with fail
        refine htk.mono ?_
        rintro o w2 ⟨rfl, hb2⟩
        have HB3 : Hid (Below w.heap.size w w2) := bsplit HB1.out hb2
        have BR3 := BR1.below hb2 (Nat.le_refl _)
        clear htk hb2
        obtain ⟨⟨c0, c1, c2, c3⟩, f0, f1, f2, f3⟩ := BR3
        go_wp2
        refine bodyPost_ret (v := .tuple #[enZ, .slice none 0 0, .slice none 0 0, .bool false]) (by simp [results, Try.results50, go_sem, c0, c1, c2, c3]) rfl ?_
        refine ⟨below_store4 HB3.out (Nat.le_refl _) _ _ _ _, ?_⟩
        rw [HN.out]
    · have hnI : (AL : Int) < (n1 : Int) := by omega
      have hnb2 : decide ((AL : Int) < (n1 : Int)) = true := decide_eq_true hnI
      have HN : Hid (takS A p = none) := takS_bad HF1'.out (.inr (by rw [HAL.out]; omega))
      have HB3 : Hid (Below w.heap.size w w1) := HB1
      have BR3 := BR1
      obtain ⟨⟨c0, c1, c2, c3⟩, f0, f1, f2, f3⟩ := BR3
      go_wp2
      refine bodyPost_ret (v := .tuple #[enZ, .slice none 0 0, .slice none 0 0, .bool false]) (by simp [results, Try.results50, go_sem, c0, c1, c2, c3]) rfl ?_
      refine ⟨below_store4 HB3.out (Nat.le_refl _) _ _ _ _, ?_⟩
      rw [HN.out]
  · have HN : Hid (takS A p = none) := takS_bad HF1.out (.inl he1)
    have htk := ltn_err (w.alloc (.cells #[.slice none 0 0, .int .u64 0, .int .u8 0, .slice none 0 0] 45)) b off cap p n1 s1 e1 (hc.below HB0.out) (by omega) h2 HF1.out he1
    clear hc
    go_wp2_with fail
    refine htk.mono ?_
    rintro o w1 ⟨rfl, hb1⟩
    have HB3 : Hid (Below w.heap.size w w1) := bsplit HB0.out hb1
    have BR3 := BR0.below hb1 (Nat.le_refl _)
    clear htk hb1
    obtain ⟨⟨c0, c1, c2, c3⟩, f0, f1, f2, f3⟩ := BR3
    go_wp2
    refine bodyPost_ret (v := .tuple #[enZ, .slice none 0 0, .slice none 0 0, .bool false]) (by simp [results, Try.results50, go_sem, c0, c1, c2, c3]) rfl ?_
    refine ⟨below_store4 HB3.out (Nat.le_refl _) _ _ _ _, ?_⟩
    rw [HN.out]

end Go.Proofs.Ytbmpnafbmgcniaa

/- leaf.check and bartizanref12.Check. -/
namespace Go.Proofs.Ytbmpnafbmgcniaa
open Go.RowKit
set_option linter.unusedVariables false

theorem wrap_decr (j : Nat) (h : j ≤ 1000000) : (IntKind.i64.wrap ((j : Int) + 1 - 1) = (j : Int) ∧ wrap64 ((j : Int) + 1 - 1) = (j : Int)) ∧ IntKind.i64.wrap (j : Int) = (j : Int) ∧ wrap64 (j : Int) = (j : Int) := by
  refine ⟨⟨?_, ?_⟩, ?_, ?_⟩
  · rw [IntKind.wrap_i64]; omega
  · unfold wrap64; omega
  · rw [IntKind.wrap_i64]; omega
  · unfold wrap64; omega

/-- two entries that stand behind one another -/
structure Two4 (w : World) (p o j : Nat) (x1 : Option Addr) (m1 x2 : Nat) (s1 k1 : Int) (x3 : Option Addr) (m2 x4 : Nat) (s2 k2 : Int) : Prop where
  a0 : w.cell? ⟨p, o + j * 4, none⟩ = some (.slice x1 m1 x2)
  a1 : w.cell? ⟨p, o + j * 4 + 1, none⟩ = some (.int .u64 s1)
  a2 : w.cell? ⟨p, o + j * 4 + 2, none⟩ = some (.int .u8 k1)
  b0 : w.cell? ⟨p, o + (j + 1) * 4, none⟩ = some (.slice x3 m2 x4)
  b1 : w.cell? ⟨p, o + (j + 1) * 4 + 1, none⟩ = some (.int .u64 s2)
  b2 : w.cell? ⟨p, o + (j + 1) * 4 + 2, none⟩ = some (.int .u8 k2)

theorem Two4.below {B : Nat} {w w' : World} {p o j : Nat} {x1 : Option Addr} {m1 x2 : Nat} {s1 k1 : Int} {x3 : Option Addr} {m2 x4 : Nat} {s2 k2 : Int} (h : Two4 w p o j x1 m1 x2 s1 k1 x3 m2 x4 s2 k2) (hb : Below B w w') (hB : w.heap.size ≤ B) : Two4 w' p o j x1 m1 x2 s1 k1 x3 m2 x4 s2 k2 := by
  have hl : p < B := Nat.lt_of_lt_of_le (World.block_lt_of_cell? w _ h.a0) hB
  exact ⟨(hb.cell (p := ⟨p, o + j * 4, none⟩) hl).trans h.a0, (hb.cell (p := ⟨p, o + j * 4 + 1, none⟩) hl).trans h.a1, (hb.cell (p := ⟨p, o + j * 4 + 2, none⟩) hl).trans h.a2, (hb.cell (p := ⟨p, o + (j + 1) * 4, none⟩) hl).trans h.b0, (hb.cell (p := ⟨p, o + (j + 1) * 4 + 1, none⟩) hl).trans h.b1, (hb.cell (p := ⟨p, o + (j + 1) * 4 + 2, none⟩) hl).trans h.b2⟩

set_option maxRecDepth 20000 in
set_option maxHeartbeats 4000000 in
theorem lcheck_any (w : World) (v : Value) (es : List EnB) (c : Int) (hv : RdE w v es) (hc : chkLf es = c) :
    Calls Try.prog 31 #[v] w fun e w' => e = .returned (.int .i64 c) ∧ Below w.heap.size w w' := by
  have HV : Hid (RdE w v es) := hv
  obtain ⟨ao, cap, rfl, h1, h2, _⟩ := hv
  unfold maxLen at h2
  obtain ⟨N, hN⟩ : ∃ N, es.length = N := ⟨_, rfl⟩
  rw [hN] at h1 HV ⊢
  have HN : Hid (es.length = N) := hN
  have HC : Hid (chkLf es = c) := hc
  clear hN hc
  go_enter Try.func31, Try.ntmps31
  by_cases h64 : 64 < N
  · have hI : (64 : Int) < (N : Int) := by omega
    have HE : Hid (c = 3) := by show c = 3; rw [← HC.out]; unfold chkLf; rw [HN.out, if_pos h64]
    go_wp2
    go_ret
    exact ⟨ret_int HE.out.symm, Below.refl _ _⟩
  · have hI : ¬ (64 : Int) < (N : Int) := by omega
    have hN64 : N ≤ 64 := by omega
    go_wp2_with fail
    go_loopg [12] N (fun gk iv wr => ∃ j : Nat, gk + j = N ∧ iv = .int .i64 (j : Int) ∧ Hid (chkEs es = chkEs (es.drop j)) ∧ Hid (Below w.heap.size w wr))
    case atStart => exact ⟨0, by omega, rfl, rfl, Below.refl _ _⟩
    case round =>
      obtain ⟨j, hj, rfl, HS, HB⟩ := hrel
      by_cases hlt : j < N
      · have hlt2 : j < es.length := by rw [HN.out]; exact hlt
        obtain ⟨_, _, e, _, _, h3⟩ := rdE_below HV.out HB.out (Nat.le_refl _)
        rw [HN.out] at e
        cases e
        obtain ⟨b, off, rfl, xv, yv, c0, c1, c2, c3, rx, ry⟩ := h3 j hlt2
        obtain ⟨x1, x2, ex⟩ := rx.len
        obtain ⟨y1, y2, ey⟩ := ry.len
        subst ex ey
        obtain ⟨⟨ol, osq, ok, oo⟩, ho⟩ : ∃ o, es[j] = o := ⟨_, rfl⟩
        rw [ho] at c0 c1 c2 c3
        obtain ⟨q1, q2⟩ := gk_nxt hj hlt
        simp only at c0 c1 c2 c3
        obtain ⟨kk, hkk⟩ : ∃ kk, ok.toNat = kk := ⟨_, rfl⟩
        obtain ⟨nl, hnlq⟩ : ∃ nl, ol.length = nl := ⟨_, rfl⟩
        obtain ⟨oln, holn⟩ : ∃ oln, oo.length = oln := ⟨_, rfl⟩
        rw [hkk] at c2
        rw [hnlq] at c0
        rw [holn] at c3
        have HE : Hid (chkEn es[j] = if chk nl (osq : Int) (kk : Int) = 0 then (if 512 < oln then 3 else 0) else chk nl (osq : Int) (kk : Int)) := by show _ = _; rw [ho]; unfold chkEn; simp only; rw [hkk, hnlq, holn]
        have hb0 := below_box4 wr (.cells #[.slice x1 nl x2, .int .u64 (osq : Int), .int .u8 (kk : Int), .slice y1 oln y2] 45)
        have BX := box4_new wr (.slice x1 nl x2) (.int .u64 (osq : Int)) (.int .u8 (kk : Int)) (.slice y1 oln y2) 45
        have hck := check_any (wr.alloc (.cells #[.slice x1 nl x2, .int .u64 (osq : Int), .int .u8 (kk : Int), .slice y1 oln y2] 45)) x1 nl x2 (osq : Int) (kk : Int) (by omega) (by omega)
        obtain ⟨ck, hckq⟩ : ∃ ck, chk nl (osq : Int) (kk : Int) = ck := ⟨_, rfl⟩
        rw [hckq] at hck HE
        have HB0 : Hid (Below w.heap.size w (wr.alloc (.cells #[.slice x1 nl x2, .int .u64 (osq : Int), .int .u8 (kk : Int), .slice y1 oln y2] 45))) := bsplit HB.out hb0
        have BX' := BX
        obtain ⟨z0, z1, z2, z3⟩ := BX'
        clear ho hb0 h3 rx ry hnlq holn hkk hckq
        go_wp2_with fail
        refine hck.mono ?_
        rintro e w2 ⟨rfl, hb2⟩
        have HB2 : Hid (Below w.heap.size w w2) := bsplit HB0.out hb2
        clear z0 z1 z2 z3
        obtain ⟨z0, z1, z2, z3⟩ := BX.below hb2 (Nat.le_refl _)
        clear hck hb2 BX
        by_cases hc0 : ck = 0
        · subst hc0
          by_cases h512 : 512 < oln
          · have h5I : (512 : Int) < (oln : Int) := by omega
            have HF : Hid (c = 3) := by
              have he : chkEn es[j] = 3 := by rw [HE.out, if_pos rfl, if_pos h512]
              have h9 := chkEs_bad hlt2 HS.out (by rw [he]; decide)
              show c = 3
              rw [← HC.out]; unfold chkLf; rw [HN.out, if_neg h64, h9, he]; rfl
            go_wp2
            go_ret
            exact ⟨ret_int HF.out.symm, HB2.out⟩
          · have h5I : ¬ (512 : Int) < (oln : Int) := by omega
            have HF : Hid (chkEs es = chkEs (es.drop (j + 1))) := chkEs_ok hlt2 HS.out (by rw [HE.out, if_pos rfl, if_neg h512])
            go_wp2_with fail
            go_roundg (gk - 1)
            case measure => exact q1
            case rel => exact ⟨j + 1, q2, by go_num, HF, HB2⟩
        · have hcb : (ck == 0) = false := by simpa using hc0
          have HF : Hid (c = ck) := by
            have he : chkEn es[j] = ck := by rw [HE.out, if_neg hc0]
            have h9 := chkEs_bad hlt2 HS.out (by rw [he]; exact hc0)
            show c = ck
            rw [← HC.out]; unfold chkLf; rw [HN.out, if_neg h64, h9, he, if_neg hc0]
          go_wp2
          go_ret
          exact ⟨ret_int HF.out.symm, HB2.out⟩
      · have HZ : Hid (chkEs es = 0) := chkEs_end (by rw [HN.out]; exact hlt) HS.out
        have hjN : ¬ (j : Int) < (N : Int) := by omega
        clear hj
        obtain ⟨wo, ho⟩ : ∃ wo, wo = wr := ⟨_, rfl⟩
        subst ho
        obtain ⟨G, hG⟩ : ∃ G, gk = G := ⟨_, rfl⟩
        go_wp2_with fail
        go_loopg [6] N (fun gk iv wr => ∃ i : Nat, (gk + i = N ∨ (N = 0 ∧ gk = 0)) ∧ iv = .int .i64 ((i + 1 : Nat) : Int) ∧ Hid (∀ k (h : k + 1 < es.length), k < i → cmpE es[k] es[k + 1] < 0) ∧ Hid (Below w.heap.size w wr))
        case atStart => exact ⟨0, by omega, rfl, fun k _ h => absurd h (Nat.not_lt_zero _), HB⟩
        case round =>
          obtain ⟨i, hi, rfl, HR, HB2⟩ := hrel
          by_cases hlt3 : i + 1 < N
          · have l1 : i < es.length := by rw [HN.out]; omega
            have l2 : i + 1 < es.length := by rw [HN.out]; exact hlt3
            have hiI : ((i + 1 : Nat) : Int) < (N : Int) := by omega
            have q1 : gk - 1 < gk := by omega
            have q2 : gk - 1 + (i + 1) = N ∨ (N = 0 ∧ gk - 1 = 0) := by omega
            obtain ⟨_, _, e, _, _, h3⟩ := rdE_below HV.out HB2.out (Nat.le_refl _)
            rw [HN.out] at e
            cases e
            obtain ⟨b, off, e', xv, yv, c0, c1, c2, c3, rx, ry⟩ := h3 i l1
            subst e'
            obtain ⟨b', off', e', xv', yv', d0, d1, d2, d3, rx', ry'⟩ := h3 (i + 1) l2
            cases e'
            obtain ⟨x1, x2, ex⟩ := rx.len
            obtain ⟨y1, y2, ey⟩ := rx'.len
            subst ex ey
            have hcm := compare_any wr.drew _ _ es[i].1 es[i + 1].1 (es[i].2.1 : Int) (es[i].2.2.1.toNat : Int) (es[i + 1].2.1 : Int) (es[i + 1].2.2.1.toNat : Int) (cmpE es[i] es[i + 1]) rx.drew rx'.drew rfl
            obtain ⟨s1, hs1⟩ : ∃ z, (es[i].2.1 : Int) = z := ⟨_, rfl⟩
            obtain ⟨k1, hk1⟩ : ∃ z, (es[i].2.2.1.toNat : Int) = z := ⟨_, rfl⟩
            obtain ⟨s2, hs2⟩ : ∃ z, (es[i + 1].2.1 : Int) = z := ⟨_, rfl⟩
            obtain ⟨k2, hk2⟩ : ∃ z, (es[i + 1].2.2.1.toNat : Int) = z := ⟨_, rfl⟩
            obtain ⟨m1, hm1⟩ : ∃ z, es[i].1.length = z := ⟨_, rfl⟩
            obtain ⟨m2, hm2⟩ : ∃ z, es[i + 1].1.length = z := ⟨_, rfl⟩
            rw [hs1] at c1 hcm
            rw [hk1] at c2 hcm
            rw [hs2] at d1 hcm
            rw [hk2] at d2 hcm
            rw [hm1] at c0 hcm
            rw [hm2] at d0 hcm
            have T0 : Two4 wr.drew b off i x1 m1 x2 s1 k1 y1 m2 y2 s2 k2 := ⟨c0, c1, c2, d0, d1, d2⟩
            have h1I : (i : Int) < (cap : Int) := by omega
            have h2I : (i : Int) + 1 < (N : Int) := by omega
            have h3I : (i : Int) < (N : Int) := by omega
            have h4I : (0 : Int) ≤ (i : Int) := by omega
            have h5I : (0 : Int) ≤ (i : Int) + 1 := by omega
            obtain ⟨r, hr⟩ : ∃ r, cmpE es[i] es[i + 1] = r := ⟨_, rfl⟩
            have HRR : Hid (cmpE es[i] es[i + 1] = r) := hr
            rw [hr] at hcm
            clear h3 rx ry rx' ry' c3 d3 hs1 hk1 hs2 hk2 hm1 hm2 hr
            by_cases hrn : r < 0
            · have hrn' : ¬ (0 : Int) ≤ r := by omega
              have HS9 : Hid (∀ k (h : k + 1 < es.length), k < i + 1 → cmpE es[k] es[k + 1] < 0) := fun k h hk => by
                by_cases e : k = i
                · subst e; rw [HRR.out]; exact hrn
                · exact HR.out k h (by omega)
              go_wp2_with fail
              obtain ⟨⟨v1, v2⟩, v3, v4⟩ := wrap_decr i (by omega)
              go_region_held3 (fun w' => (w'.cell? ⟨b, off + i * 4, none⟩ = some (.slice x1 m1 x2) ∧ w'.cell? ⟨b, off + i * 4 + 1, none⟩ = some (.int .u64 s1) ∧ w'.cell? ⟨b, off + i * 4 + 2, none⟩ = some (.int .u8 k1)) ∧ (w'.cell? ⟨b, off + (i + 1) * 4, none⟩ = some (.slice y1 m2 y2) ∧ w'.cell? ⟨b, off + (i + 1) * 4 + 1, none⟩ = some (.int .u64 s2) ∧ w'.cell? ⟨b, off + (i + 1) * 4 + 2, none⟩ = some (.int .u8 k2)))
                (first | with_reducible exact ⟨⟨T5.a0, T5.a1, T5.a2⟩, ⟨T5.b0, T5.b1, T5.b2⟩⟩ | exact ⟨⟨T0.a0, T0.a1, T0.a2⟩, ⟨T0.b0, T0.b1, T0.b2⟩⟩)
                (first
                  | (go_at_call 46; refine hcm.mono ?_; rintro e w5 ⟨rfl, hb5⟩
                     have HB5 : Hid (Below w.heap.size w w5) := bsplit HB2.out.drew hb5
                     have T5 := T0.below hb5 (Nat.le_refl _))
                  | fail)
              clear v1 v2 v3 v4
              go_wp2_with fail
              go_roundg (gk - 1)
              case measure => exact q1
              case rel => exact ⟨i + 1, q2, by go_num, HS9, HB5⟩
            · have hrn' : (0 : Int) ≤ r := by omega
              have HF : Hid (c = 10) := by
                show c = 10
                rw [← HC.out]; unfold chkLf
                rw [HN.out, if_neg h64, if_pos HZ.out, if_neg]
                rw [riseB_iff]
                intro h9
                have h8 := h9 i l2
                rw [HRR.out] at h8
                exact hrn h8
              go_wp2_with fail
              obtain ⟨⟨v1, v2⟩, v3, v4⟩ := wrap_decr i (by omega)
              go_region_held3 (fun w' => (w'.cell? ⟨b, off + i * 4, none⟩ = some (.slice x1 m1 x2) ∧ w'.cell? ⟨b, off + i * 4 + 1, none⟩ = some (.int .u64 s1) ∧ w'.cell? ⟨b, off + i * 4 + 2, none⟩ = some (.int .u8 k1)) ∧ (w'.cell? ⟨b, off + (i + 1) * 4, none⟩ = some (.slice y1 m2 y2) ∧ w'.cell? ⟨b, off + (i + 1) * 4 + 1, none⟩ = some (.int .u64 s2) ∧ w'.cell? ⟨b, off + (i + 1) * 4 + 2, none⟩ = some (.int .u8 k2)))
                (first | with_reducible exact ⟨⟨T5.a0, T5.a1, T5.a2⟩, ⟨T5.b0, T5.b1, T5.b2⟩⟩ | exact ⟨⟨T0.a0, T0.a1, T0.a2⟩, ⟨T0.b0, T0.b1, T0.b2⟩⟩)
                (first
                  | (go_at_call 46; refine hcm.mono ?_; rintro e w5 ⟨rfl, hb5⟩
                     have HB5 : Hid (Below w.heap.size w w5) := bsplit HB2.out.drew hb5
                     have T5 := T0.below hb5 (Nat.le_refl _))
                  | fail)
              clear v1 v2 v3 v4
              go_wp2
              go_ret
              exact ⟨ret_int HF.out.symm, HB5.out⟩
          · have HF : Hid (c = 0) := by
              show c = 0
              rw [← HC.out]; unfold chkLf
              rw [HN.out, if_neg h64, if_pos HZ.out, if_pos]
              rw [riseB_iff]
              exact fun k hk => HR.out k hk (by have := HN.out; omega)
            have hiI : ¬ ((i + 1 : Nat) : Int) < (N : Int) := by omega
            go_wp2
            go_ret
            exact ⟨ret_int HF.out.symm, HB2.out⟩

set_option maxRecDepth 20000 in
set_option maxHeartbeats 4000000 in
theorem rlcheck_any (w : World) (v : Value) (es : List EnB) (c : Int) (hv : RdE w v es) (hc : chkLf es = c) :
    Calls Try.prog 37 #[v] w fun e w' => e = .returned (.int .i64 c) ∧ Below w.heap.size w w' := by
  have HV : Hid (RdE w v es) := hv
  obtain ⟨ao, cap, rfl, h1, h2, _⟩ := hv
  unfold maxLen at h2
  obtain ⟨N, hN⟩ : ∃ N, es.length = N := ⟨_, rfl⟩
  rw [hN] at h1 HV ⊢
  have HN : Hid (es.length = N) := hN
  have HC : Hid (chkLf es = c) := hc
  clear hN hc
  go_enter Try.func37, Try.ntmps37
  by_cases h64 : 64 < N
  · have hI : (64 : Int) < (N : Int) := by omega
    have HE : Hid (c = 3) := by show c = 3; rw [← HC.out]; unfold chkLf; rw [HN.out, if_pos h64]
    go_wp2
    go_ret
    exact ⟨ret_int HE.out.symm, Below.refl _ _⟩
  · have hI : ¬ (64 : Int) < (N : Int) := by omega
    have hN64 : N ≤ 64 := by omega
    go_wp2_with fail
    go_loopg [12] N (fun gk iv wr => ∃ j : Nat, gk + j = N ∧ iv = .int .i64 (j : Int) ∧ Hid (chkEs es = chkEs (es.drop j)) ∧ Hid (Below w.heap.size w wr))
    case atStart => exact ⟨0, by omega, rfl, rfl, Below.refl _ _⟩
    case round =>
      obtain ⟨j, hj, rfl, HS, HB⟩ := hrel
      by_cases hlt : j < N
      · have hlt2 : j < es.length := by rw [HN.out]; exact hlt
        obtain ⟨_, _, e, _, _, h3⟩ := rdE_below HV.out HB.out (Nat.le_refl _)
        rw [HN.out] at e
        cases e
        obtain ⟨b, off, rfl, xv, yv, c0, c1, c2, c3, rx, ry⟩ := h3 j hlt2
        obtain ⟨x1, x2, ex⟩ := rx.len
        obtain ⟨y1, y2, ey⟩ := ry.len
        subst ex ey
        obtain ⟨⟨ol, osq, ok, oo⟩, ho⟩ : ∃ o, es[j] = o := ⟨_, rfl⟩
        rw [ho] at c0 c1 c2 c3
        obtain ⟨q1, q2⟩ := gk_nxt hj hlt
        simp only at c0 c1 c2 c3
        obtain ⟨kk, hkk⟩ : ∃ kk, ok.toNat = kk := ⟨_, rfl⟩
        obtain ⟨nl, hnlq⟩ : ∃ nl, ol.length = nl := ⟨_, rfl⟩
        obtain ⟨oln, holn⟩ : ∃ oln, oo.length = oln := ⟨_, rfl⟩
        rw [hkk] at c2
        rw [hnlq] at c0
        rw [holn] at c3
        have HE : Hid (chkEn es[j] = if chk nl (osq : Int) (kk : Int) = 0 then (if 512 < oln then 3 else 0) else chk nl (osq : Int) (kk : Int)) := by show _ = _; rw [ho]; unfold chkEn; simp only; rw [hkk, hnlq, holn]
        have hb0 := below_box4 wr (.cells #[.slice x1 nl x2, .int .u64 (osq : Int), .int .u8 (kk : Int), .slice y1 oln y2] 45)
        have BX := box4_new wr (.slice x1 nl x2) (.int .u64 (osq : Int)) (.int .u8 (kk : Int)) (.slice y1 oln y2) 45
        have hck := refcheck_any (wr.alloc (.cells #[.slice x1 nl x2, .int .u64 (osq : Int), .int .u8 (kk : Int), .slice y1 oln y2] 45)) x1 nl x2 (osq : Int) (kk : Int) (by omega) (by omega)
        obtain ⟨ck, hckq⟩ : ∃ ck, chk nl (osq : Int) (kk : Int) = ck := ⟨_, rfl⟩
        rw [hckq] at hck HE
        have HB0 : Hid (Below w.heap.size w (wr.alloc (.cells #[.slice x1 nl x2, .int .u64 (osq : Int), .int .u8 (kk : Int), .slice y1 oln y2] 45))) := bsplit HB.out hb0
        have BX' := BX
        obtain ⟨z0, z1, z2, z3⟩ := BX'
        clear ho hb0 h3 rx ry hnlq holn hkk hckq
        go_wp2_with fail
        refine hck.mono ?_
        rintro e w2 ⟨rfl, hb2⟩
        have HB2 : Hid (Below w.heap.size w w2) := bsplit HB0.out hb2
        clear z0 z1 z2 z3
        obtain ⟨z0, z1, z2, z3⟩ := BX.below hb2 (Nat.le_refl _)
        clear hck hb2 BX
        by_cases hc0 : ck = 0
        · subst hc0
          by_cases h512 : 512 < oln
          · have h5I : (512 : Int) < (oln : Int) := by omega
            have HF : Hid (c = 3) := by
              have he : chkEn es[j] = 3 := by rw [HE.out, if_pos rfl, if_pos h512]
              have h9 := chkEs_bad hlt2 HS.out (by rw [he]; decide)
              show c = 3
              rw [← HC.out]; unfold chkLf; rw [HN.out, if_neg h64, h9, he]; rfl
            go_wp2
            go_ret
            exact ⟨ret_int HF.out.symm, HB2.out⟩
          · have h5I : ¬ (512 : Int) < (oln : Int) := by omega
            have HF : Hid (chkEs es = chkEs (es.drop (j + 1))) := chkEs_ok hlt2 HS.out (by rw [HE.out, if_pos rfl, if_neg h512])
            go_wp2_with fail
            go_roundg (gk - 1)
            case measure => exact q1
            case rel => exact ⟨j + 1, q2, by go_num, HF, HB2⟩
        · have hcb : (ck == 0) = false := by simpa using hc0
          have HF : Hid (c = ck) := by
            have he : chkEn es[j] = ck := by rw [HE.out, if_neg hc0]
            have h9 := chkEs_bad hlt2 HS.out (by rw [he]; exact hc0)
            show c = ck
            rw [← HC.out]; unfold chkLf; rw [HN.out, if_neg h64, h9, he, if_neg hc0]
          go_wp2
          go_ret
          exact ⟨ret_int HF.out.symm, HB2.out⟩
      · have HZ : Hid (chkEs es = 0) := chkEs_end (by rw [HN.out]; exact hlt) HS.out
        have hjN : ¬ (j : Int) < (N : Int) := by omega
        clear hj
        obtain ⟨wo, ho⟩ : ∃ wo, wo = wr := ⟨_, rfl⟩
        subst ho
        obtain ⟨G, hG⟩ : ∃ G, gk = G := ⟨_, rfl⟩
        go_wp2_with fail
        go_loopg [6] N (fun gk iv wr => ∃ i : Nat, (gk + i = N ∨ (N = 0 ∧ gk = 0)) ∧ iv = .int .i64 ((i + 1 : Nat) : Int) ∧ Hid (∀ k (h : k + 1 < es.length), k < i → cmpE es[k] es[k + 1] < 0) ∧ Hid (Below w.heap.size w wr))
        case atStart => exact ⟨0, by omega, rfl, fun k _ h => absurd h (Nat.not_lt_zero _), HB⟩
        case round =>
          obtain ⟨i, hi, rfl, HR, HB2⟩ := hrel
          by_cases hlt3 : i + 1 < N
          · have l1 : i < es.length := by rw [HN.out]; omega
            have l2 : i + 1 < es.length := by rw [HN.out]; exact hlt3
            have hiI : ((i + 1 : Nat) : Int) < (N : Int) := by omega
            have q1 : gk - 1 < gk := by omega
            have q2 : gk - 1 + (i + 1) = N ∨ (N = 0 ∧ gk - 1 = 0) := by omega
            obtain ⟨_, _, e, _, _, h3⟩ := rdE_below HV.out HB2.out (Nat.le_refl _)
            rw [HN.out] at e
            cases e
            obtain ⟨b, off, e', xv, yv, c0, c1, c2, c3, rx, ry⟩ := h3 i l1
            subst e'
            obtain ⟨b', off', e', xv', yv', d0, d1, d2, d3, rx', ry'⟩ := h3 (i + 1) l2
            cases e'
            obtain ⟨x1, x2, ex⟩ := rx.len
            obtain ⟨y1, y2, ey⟩ := rx'.len
            subst ex ey
            have hcm := keyless_any wr.drew _ _ es[i].1 es[i + 1].1 (es[i].2.1 : Int) (es[i].2.2.1.toNat : Int) (es[i + 1].2.1 : Int) (es[i + 1].2.2.1.toNat : Int) (decide (cmpE es[i] es[i + 1] < 0)) rx.drew rx'.drew rfl
            obtain ⟨s1, hs1⟩ : ∃ z, (es[i].2.1 : Int) = z := ⟨_, rfl⟩
            obtain ⟨k1, hk1⟩ : ∃ z, (es[i].2.2.1.toNat : Int) = z := ⟨_, rfl⟩
            obtain ⟨s2, hs2⟩ : ∃ z, (es[i + 1].2.1 : Int) = z := ⟨_, rfl⟩
            obtain ⟨k2, hk2⟩ : ∃ z, (es[i + 1].2.2.1.toNat : Int) = z := ⟨_, rfl⟩
            obtain ⟨m1, hm1⟩ : ∃ z, es[i].1.length = z := ⟨_, rfl⟩
            obtain ⟨m2, hm2⟩ : ∃ z, es[i + 1].1.length = z := ⟨_, rfl⟩
            rw [hs1] at c1 hcm
            rw [hk1] at c2 hcm
            rw [hs2] at d1 hcm
            rw [hk2] at d2 hcm
            rw [hm1] at c0 hcm
            rw [hm2] at d0 hcm
            have T0 : Two4 wr.drew b off i x1 m1 x2 s1 k1 y1 m2 y2 s2 k2 := ⟨c0, c1, c2, d0, d1, d2⟩
            have h1I : (i : Int) < (cap : Int) := by omega
            have h2I : (i : Int) + 1 < (N : Int) := by omega
            have h3I : (i : Int) < (N : Int) := by omega
            have h4I : (0 : Int) ≤ (i : Int) := by omega
            have h5I : (0 : Int) ≤ (i : Int) + 1 := by omega
            obtain ⟨r, hr⟩ : ∃ r, decide (cmpE es[i] es[i + 1] < 0) = r := ⟨_, rfl⟩
            have HRR : Hid (decide (cmpE es[i] es[i + 1] < 0) = r) := hr
            rw [hr] at hcm
            clear h3 rx ry rx' ry' c3 d3 hs1 hk1 hs2 hk2 hm1 hm2 hr
            by_cases hrn : r = true
            · subst hrn
              have HS9 : Hid (∀ k (h : k + 1 < es.length), k < i + 1 → cmpE es[k] es[k + 1] < 0) := fun k h hk => by
                by_cases e : k = i
                · subst e; exact of_decide_eq_true HRR.out
                · exact HR.out k h (by omega)
              go_wp2_with fail
              obtain ⟨⟨v1, v2⟩, v3, v4⟩ := wrap_decr i (by omega)
              go_region_held3 (fun w' => (w'.cell? ⟨b, off + i * 4, none⟩ = some (.slice x1 m1 x2) ∧ w'.cell? ⟨b, off + i * 4 + 1, none⟩ = some (.int .u64 s1) ∧ w'.cell? ⟨b, off + i * 4 + 2, none⟩ = some (.int .u8 k1)) ∧ (w'.cell? ⟨b, off + (i + 1) * 4, none⟩ = some (.slice y1 m2 y2) ∧ w'.cell? ⟨b, off + (i + 1) * 4 + 1, none⟩ = some (.int .u64 s2) ∧ w'.cell? ⟨b, off + (i + 1) * 4 + 2, none⟩ = some (.int .u8 k2)))
                (first | with_reducible exact ⟨⟨T5.a0, T5.a1, T5.a2⟩, ⟨T5.b0, T5.b1, T5.b2⟩⟩ | exact ⟨⟨T0.a0, T0.a1, T0.a2⟩, ⟨T0.b0, T0.b1, T0.b2⟩⟩)
                (first
                  | (go_at_call 27; refine hcm.mono ?_; rintro e w5 ⟨rfl, hb5⟩
                     have HB5 : Hid (Below w.heap.size w w5) := bsplit HB2.out.drew hb5
                     have T5 := T0.below hb5 (Nat.le_refl _))
                  | fail)
              clear v1 v2 v3 v4
              go_wp2_with fail
              go_roundg (gk - 1)
              case measure => exact q1
              case rel => exact ⟨i + 1, q2, by go_num, HS9, HB5⟩
            · have hrn' : r = false := by simpa using hrn
              subst hrn'
              have HF : Hid (c = 10) := by
                show c = 10
                rw [← HC.out]; unfold chkLf
                rw [HN.out, if_neg h64, if_pos HZ.out, if_neg]
                rw [riseB_iff]
                intro h9
                have h8 := h9 i l2
                exact of_decide_eq_false HRR.out h8
              go_wp2_with fail
              obtain ⟨⟨v1, v2⟩, v3, v4⟩ := wrap_decr i (by omega)
              go_region_held3 (fun w' => (w'.cell? ⟨b, off + i * 4, none⟩ = some (.slice x1 m1 x2) ∧ w'.cell? ⟨b, off + i * 4 + 1, none⟩ = some (.int .u64 s1) ∧ w'.cell? ⟨b, off + i * 4 + 2, none⟩ = some (.int .u8 k1)) ∧ (w'.cell? ⟨b, off + (i + 1) * 4, none⟩ = some (.slice y1 m2 y2) ∧ w'.cell? ⟨b, off + (i + 1) * 4 + 1, none⟩ = some (.int .u64 s2) ∧ w'.cell? ⟨b, off + (i + 1) * 4 + 2, none⟩ = some (.int .u8 k2)))
                (first | with_reducible exact ⟨⟨T5.a0, T5.a1, T5.a2⟩, ⟨T5.b0, T5.b1, T5.b2⟩⟩ | exact ⟨⟨T0.a0, T0.a1, T0.a2⟩, ⟨T0.b0, T0.b1, T0.b2⟩⟩)
                (first
                  | (go_at_call 27; refine hcm.mono ?_; rintro e w5 ⟨rfl, hb5⟩
                     have HB5 : Hid (Below w.heap.size w w5) := bsplit HB2.out.drew hb5
                     have T5 := T0.below hb5 (Nat.le_refl _))
                  | fail)
              clear v1 v2 v3 v4
              go_wp2
              go_ret
              exact ⟨ret_int HF.out.symm, HB5.out⟩
          · have HF : Hid (c = 0) := by
              show c = 0
              rw [← HC.out]; unfold chkLf
              rw [HN.out, if_neg h64, if_pos HZ.out, if_pos]
              rw [riseB_iff]
              exact fun k hk => HR.out k hk (by have := HN.out; omega)
            have hiI : ¬ ((i + 1 : Nat) : Int) < (N : Int) := by omega
            go_wp2
            go_ret
            exact ⟨ret_int HF.out.symm, HB2.out⟩

end Go.Proofs.Ytbmpnafbmgcniaa

/- leaf.Build. -/
namespace Go.Proofs.Ytbmpnafbmgcniaa
set_option maxRecDepth 20000
open Go.RowKit
set_option linter.unusedVariables false

/-- two rows lie apart -/
def Apart2 (v u : Value) : Prop := ∀ g, v.ownBlock = some g → u.ownBlock ≠ some g

theorem Apart2.symm {v u : Value} (h : Apart2 v u) : Apart2 u v := fun g h1 h2 => h g h2 h1

theorem Apart2.nil (v : Value) : Apart2 v (.slice none 0 0) := fun g h => by simp [Value.ownBlock]

theorem Apart2.step {v u : Value} {g H n c : Nat} (h : Apart2 v u) (hat : v.ownBlock = some g ∨ g = H) (hu : ∀ q, u.ownBlock = some q → q < H) : Apart2 (.slice (some ⟨g, 0, none⟩) n c) u := by
  intro q hq he
  simp only [Value.ownBlock, Option.some.injEq] at hq
  subst hq
  rcases hat with e | e
  · exact h _ e he
  · have := hu _ he; omega

theorem own_grew {B g c n m : Nat} {w : World} {l u : List UInt8} (hl : l.length = n) (hu : u.length = m) (h : w.ownsRow B 5 1 (.slice (some ⟨g, 0, none⟩) (n + m) c) (n + m) (bv l ++ bv u)) : Own B w (.slice (some ⟨g, 0, none⟩) (n + m) c) (l ++ u) := by
  subst hl hu
  refine Own.of_row ?_ (by simp)
  rw [List.length_append, bv_append]
  exact h

theorem OwnN.row {B : Nat} {w : World} {v : Value} {l : List UInt8} (h : OwnN B w v l) : w.ownsRow B 5 1 v l.length (bv l) := by
  rcases h with ⟨rfl, rfl⟩ | h
  · exact World.ownsRow_nil _ _ _ _
  · exact h.row

theorem OwnN.lt {B : Nat} {w : World} {v : Value} {l : List UInt8} (h : OwnN B w v l) : ∀ q, v.ownBlock = some q → B ≤ q ∧ q < w.heap.size := fun q hq => h.row.lt q hq

theorem ownN_kept2 {B : Nat} {w w' : World} {v u : Value} {l : List UInt8} (h : OwnN B w u l) (hg : w.grownBy w' v.ownBlock) (ha : Apart2 v u) : OwnN B w' u l := by
  rcases h with h | h
  · exact .inl h
  · obtain ⟨g, c, rfl⟩ := h.shape
    refine .inr (own_kept h hg fun e => ?_)
    exact ha g e.symm rfl

/-- where the loop has come to -/
structure BldI (w wr : World) (es : List EnB) (bv0 pv av : Value) (j : Nat) : Prop where
  bo : OwnN w.heap.size wr bv0 (bodyTo es j)
  po : OwnN w.heap.size wr pv (wordsB (startsTo es j))
  ah : Rd wr av (ahd es j)
  ne : Apart2 bv0 pv
  nb : NeB av (ahd es j) bv0
  np : NeB av (ahd es j) pv
  be : Below w.heap.size w wr

theorem BldI.below {w wr w2 : World} {es : List EnB} {bv0 pv av : Value} {j : Nat} (h : BldI w wr es bv0 pv av j) (hb : Below wr.heap.size wr w2) : BldI w w2 es bv0 pv av j :=
  ⟨h.bo.below hb (Nat.le_refl _), h.po.below hb (Nat.le_refl _), h.ah.below hb (Nat.le_refl _), h.ne, h.nb, h.np, bsplit h.be hb⟩

/-- the same, places told, a form at hand -/
structure BldH (w wr : World) (es : List EnB) (bv0 pv fv : Value) (F : List UInt8) (j : Nat) : Prop where
  bo : OwnN w.heap.size wr bv0 (bodyTo es j)
  po : OwnN w.heap.size wr pv (wordsB (startsTo es (j + 1)))
  fo : Rd wr fv F
  ne : Apart2 bv0 pv
  nb : NeB fv F bv0
  np : NeB fv F pv
  be : Below w.heap.size w wr

theorem BldH.below {w wr w2 : World} {es : List EnB} {bv0 pv av : Value} {F : List UInt8} {j : Nat} (h : BldH w wr es bv0 pv av F j) (hb : Below wr.heap.size wr w2) : BldH w w2 es bv0 pv av F j :=
  ⟨h.bo.below hb (Nat.le_refl _), h.po.below hb (Nat.le_refl _), h.fo.below hb (Nat.le_refl _), h.ne, h.nb, h.np, bsplit h.be hb⟩

theorem BldH.drew {w wr : World} {es : List EnB} {bv0 pv av : Value} {F : List UInt8} {j : Nat} (h : BldH w wr es bv0 pv av F j) : BldH w wr.drew es bv0 pv av F j := ⟨h.bo, h.po, h.fo, h.ne, h.nb, h.np, h.be.drew⟩

/-- no place is told here -/
theorem BldI.stay {w wr : World} {es : List EnB} {bv0 pv av fv : Value} {F : List UInt8} {j : Nat} (h : BldI w wr es bv0 pv av j) (hj : ¬ j % 4 = 0) (hf : Rd wr fv F) (h1 : NeB fv F bv0) (h2 : NeB fv F pv) : BldH w wr es bv0 pv fv F j :=
  ⟨h.bo, by rw [startsTo, if_neg hj]; exact h.po, hf, h.ne, h1, h2, h.be⟩

/-- a place is told -/
theorem BldI.tell {w wr w2 : World} {es : List EnB} {bv0 pv av fv : Value} {F : List UInt8} {j g c n2 : Nat} (h : BldI w wr es bv0 pv av j) (hj : j % 4 = 0) (hf : Rd wr fv F) (h1 : NeB fv F bv0) (h2 : NeB fv F pv)
    (hl : (wordsB (startsTo es j)).length = n2) (hn : w2.ownsRow w.heap.size 5 1 (.slice (some ⟨g, 0, none⟩) (n2 + 2) c) (n2 + 2) (bv (wordsB (startsTo es j)) ++ bv (wordB (bodyTo es j).length))) (hg : wr.grownBy w2 pv.ownBlock) (hat : pv.ownBlock = some g ∨ g = wr.heap.size) : BldH w w2 es bv0 (.slice (some ⟨g, 0, none⟩) (n2 + 2) c) fv F j := by
  refine ⟨ownN_kept2 h.bo hg h.ne.symm, ?_, rd_grown hf hg h2, (h.ne.symm.step hat (fun q hq => (h.bo.lt q hq).2)).symm, h1, neb_step h2 hf hat, h.be.grown hg h.be.size (fun k e => (h.po.lt k e).1)⟩
  rw [startsTo, if_pos hj, wordsB_snoc]
  exact .inr (own_grew hl rfl hn)

/-- an entry's bytes are laid behind -/
theorem BldH.push {w wr w2 : World} {es : List EnB} {bv0 pv fv : Value} {F u : List UInt8} {j g c n1 m : Nat} (h : BldH w wr es bv0 pv fv F j) (hF : frm es j = F) (hu : entB es j = u) (hm : u.length = m)
    (hl : (bodyTo es j).length = n1) (hn : w2.ownsRow w.heap.size 5 1 (.slice (some ⟨g, 0, none⟩) (n1 + m) c) (n1 + m) (bv (bodyTo es j) ++ bv u)) (hg : wr.grownBy w2 bv0.ownBlock) (hat : bv0.ownBlock = some g ∨ g = wr.heap.size) : BldI w w2 es (.slice (some ⟨g, 0, none⟩) (n1 + m) c) pv fv (j + 1) := by
  subst hF hu
  refine ⟨?_, ownN_kept2 h.po hg h.ne, rd_grown h.fo hg h.nb, h.ne.step hat (fun q hq => (h.po.lt q hq).2), neb_step h.nb h.fo hat, h.np, h.be.grown hg h.be.size (fun k e => (h.bo.lt k e).1)⟩
  exact .inr (own_grew hl hm hn)

theorem ownN_len {B n c : Nat} {w : World} {a : Option Addr} {l : List UInt8} (h : OwnN B w (.slice a n c) l) : l.length = n := by
  rcases h with ⟨e, rfl⟩ | h
  · cases e; rfl
  · obtain ⟨g, k, e⟩ := h.shape; cases e; rfl

theorem lbuild_err (w : World) (v : Value) (es : List EnB) (c : Int) (hv : RdE w v es) (hc : chkLf es = c) (h0 : ¬ c = 0) :
    Calls Try.prog 13 #[v] w fun e w' => e = .returned (.tuple #[.slice none 0 0, .int .i64 c]) ∧ Below w.heap.size w w' := by
  have hck := lcheck_any w v es c hv hc
  obtain ⟨a, k, rfl⟩ := hv.shape
  have h0b : (c == 0) = false := by simpa using h0
  clear hv hc
  go_enter Try.func13, Try.ntmps13
  go_wp2_with fail
  refine hck.mono ?_
  rintro e w1 ⟨rfl, hb⟩
  clear hck
  go_wp2
  go_ret2
  exact ⟨rfl, hb⟩

set_option maxHeartbeats 8000000 in
theorem lbuild_ok (w : World) (v : Value) (es : List EnB) (hv : RdE w v es) (hc : chkLf es = 0) :
    Calls Try.prog 13 #[v] w fun e w' => ∃ x, e = .returned (.tuple #[x, .int .i64 0]) ∧ Own w.heap.size w' x (leafB es) ∧ Below w.heap.size w w' := by
  obtain ⟨i0, hi, hz0, hz1, hz2⟩ := info_parts info5
  have hck := lcheck_any w v es 0 hv hc
  obtain ⟨hlen, hall, hrise⟩ := chkLf_ok.1 hc
  have HV : Hid (RdE w v es) := hv
  obtain ⟨ao, cap, rfl, h1, h2, _⟩ := hv
  unfold maxLen at h2
  obtain ⟨N, hN⟩ : ∃ N, es.length = N := ⟨_, rfl⟩
  rw [hN] at h1 HV hlen hck ⊢
  have HN : Hid (es.length = N) := hN
  have HALL : Hid (∀ e ∈ es, chkEn e = 0) := hall
  have HRISE : Hid (riseB es = true) := hrise
  clear hN hc hall hrise
  go_enter Try.func13, Try.ntmps13
  go_wp2_with fail
  refine hck.mono ?_
  rintro e w1 ⟨rfl, hb1⟩
  have HB1 : Hid (Below w.heap.size w w1) := hb1
  clear hck hb1
  go_wp2_with fail
  go_loopg [5, 6, 7, 19] N (fun gk bv0 pv av iv wr => ∃ (j n1 c1 n2 c2 n3 c3 : Nat) (a1 a2 a3 : Option Addr), gk + j = N ∧ iv = .int .i64 (j : Int) ∧ bv0 = .slice a1 n1 c1 ∧ pv = .slice a2 n2 c2 ∧ av = .slice a3 n3 c3 ∧ Hid (BldI w wr es bv0 pv av j))
  case atStart => exact ⟨0, 0, 0, 0, 0, 0, 0, none, none, none, by omega, rfl, rfl, rfl, rfl, ⟨.inl ⟨rfl, rfl⟩, .inl ⟨rfl, rfl⟩, .inl ⟨rfl, rfl⟩, Apart2.nil _, .inl rfl, .inl rfl, HB1.out⟩⟩
  case round =>
    obtain ⟨j, n1, c1, n2, c2, n3, c3, a1, a2, a3, hj, rfl, rfl, rfl, rfl, HI⟩ := hrel
    by_cases hlt : j < N
    · have hlt2 : j < es.length := by rw [HN.out]; exact hlt
      obtain ⟨_, _, e, _, _, h3⟩ := HV.out
      rw [HN.out] at e
      cases e
      obtain ⟨b, off, rfl, xv, yv, d0', d1', d2', d3', rx, ry⟩ := h3 j hlt2
      have hbl := World.block_lt_of_cell? w _ d0'
      have d0 := (HI.out.be.cell (p := ⟨b, off + j * 4, none⟩) hbl).trans d0'
      have d1 := (HI.out.be.cell (p := ⟨b, off + j * 4 + 1, none⟩) hbl).trans d1'
      have d2 := (HI.out.be.cell (p := ⟨b, off + j * 4 + 2, none⟩) hbl).trans d2'
      have d3 := (HI.out.be.cell (p := ⟨b, off + j * 4 + 3, none⟩) hbl).trans d3'
      clear d0' d1' d2' d3' hbl
      obtain ⟨x1, x2, ex⟩ := rx.len
      obtain ⟨y1, y2, ey⟩ := ry.len
      subst ex ey
      obtain ⟨q1, q2⟩ := gk_nxt hj hlt
      have hlim := chkEn_ok (HALL.out _ (List.getElem_mem hlt2))
      have hfrm := frm_at hlt2
      have hent := entB_at hlt2
      obtain ⟨⟨ol, osq, ok, oo⟩, ho⟩ : ∃ o, es[j] = o := ⟨_, rfl⟩
      rw [ho] at d0 d1 d2 d3 rx ry hlim hfrm hent
      simp only at d0 d1 d2 d3 rx ry hlim hent
      obtain ⟨kk, hkk⟩ : ∃ kk, ok.toNat = kk := ⟨_, rfl⟩
      obtain ⟨nl, hnlq⟩ : ∃ nl, ol.length = nl := ⟨_, rfl⟩
      obtain ⟨oln, holn⟩ : ∃ oln, oo.length = oln := ⟨_, rfl⟩
      have hkb := ok.toNat_lt
      have hff : formB (ol, osq, ok, oo) = ol ++ tailB osq kk := by unfold formB; rw [← hkk]
      rw [hff] at hfrm hent
      rw [hkk] at d2 hlim hkb
      rw [hnlq] at d0 rx
      rw [holn] at d3 ry
      have hb0 := below_box4 wr (.cells #[.slice x1 nl x2, .int .u64 (osq : Int), .int .u8 (kk : Int), .slice y1 oln y2] 45)
      have BX := box4_new wr (.slice x1 nl x2) (.int .u64 (osq : Int)) (.int .u8 (kk : Int)) (.slice y1 oln y2) 45
      have HI0 : Hid (BldI w (wr.alloc (.cells #[.slice x1 nl x2, .int .u64 (osq : Int), .int .u8 (kk : Int), .slice y1 oln y2] 45)) es (.slice a1 n1 c1) (.slice a2 n2 c2) (.slice a3 n3 c3) j) := HI.out.below hb0
      have hfo := lform_any (wr.alloc (.cells #[.slice x1 nl x2, .int .u64 (osq : Int), .int .u8 (kk : Int), .slice y1 oln y2] 45)) _ ol osq kk (rx.below HI0.out.be (Nat.le_refl _)) hlim.2.2.1 hkb hlim.2.2.2.2.2 hlim.2.1
      have HRY : Hid (Rd w (.slice y1 oln y2) oo) := ry
      have HOO : Hid (oo.length ≤ 512 ∧ oo.length = oln) := ⟨hlim.2.2.2.2.1, holn⟩
      have HNE1 : Hid (some wr.heap.size ≠ (Value.slice a1 n1 c1).ownBlock) := own_ne_new HI.out.bo.row
      have HNE2 : Hid (some wr.heap.size ≠ (Value.slice a2 n2 c2).ownBlock) := own_ne_new HI.out.po.row
      obtain ⟨F, hF⟩ : ∃ F, ol ++ tailB osq kk = F := ⟨_, rfl⟩
      rw [hF] at hfo hfrm hent
      have hFl : F.length = nl + 8 := by rw [← hF, List.length_append, tailB_len, hnlq]
      obtain ⟨L, hL⟩ : ∃ L, F.length = L := ⟨_, rfl⟩
      have HFR : Hid (frm es j = F ∧ F.length = L) := ⟨hfrm, hL⟩
      have HEN : Hid (entB es j = packB (shN es j) F oo) := hent
      have hsl := shN_lt HALL.out HRISE.out hlt2
      rw [hfrm, hL] at hsl
      have hL72 : L ≤ 72 := by have := hlim.2.1; omega
      have BX' := BX
      obtain ⟨z0, z1, z2, z3⟩ := BX'
      clear ho h3 rx ry hnlq holn hkk hlim hkb hb0 HI hF hFl hfrm hent hff
      go_wp2_with fail
      refine hfo.mono ?_
      rintro e w2 ⟨xf, rfl, rf, ff, hb2⟩
      have BX2 := BX.below hb2 (Nat.le_refl _)
      have HI2 : Hid (BldI w w2 es (.slice a1 n1 c1) (.slice a2 n2 c2) (.slice a3 n3 c3) j) := HI0.out.below hb2
      obtain ⟨fa, fc, hfa, hfc1, hfc2, hfsp⟩ := Rd.spots rf
      rw [hL] at hfa hfc1
      obtain ⟨gf, of, rfl, hz9⟩ := hfsp 0 (by rw [hL]; omega)
      clear hz9
      subst hfa
      have hcm := lcommon_any w2 _ _ (ahd es j) F HI2.out.ah rf
      have hlow1 : ∀ q, (Value.slice a1 n1 c1).ownBlock = some q → q < (wr.alloc (.cells #[.slice x1 nl x2, .int .u64 (osq : Int), .int .u8 (kk : Int), .slice y1 oln y2] 45)).heap.size := fun q hq => (HI0.out.bo.lt q hq).2
      have hlow2 : ∀ q, (Value.slice a2 n2 c2).ownBlock = some q → q < (wr.alloc (.cells #[.slice x1 nl x2, .int .u64 (osq : Int), .int .u8 (kk : Int), .slice y1 oln y2] 45)).heap.size := fun q hq => (HI0.out.po.lt q hq).2
      have HNF : Hid (NeB (.slice (some ⟨gf, of, none⟩) L fc) F (.slice a1 n1 c1) ∧ NeB (.slice (some ⟨gf, of, none⟩) L fc) F (.slice a2 n2 c2)) := ⟨neb_of ff hlow1 rf, neb_of ff hlow2 rf⟩
      have HRF : Hid (Rd w2 (.slice (some ⟨gf, of, none⟩) L fc) F) := rf
      have HFC : Hid (L ≤ fc ∧ fc ≤ 9223372036854775807) := ⟨hfc1, hfc2⟩
      have HN1 : Hid ((bodyTo es j).length = n1) := ownN_len HI2.out.bo
      have HN2 : Hid ((wordsB (startsTo es j)).length = n2) := ownN_len HI2.out.po
      have hn1 : n1 ≤ 37760 := by rw [← HN1.out]; exact bodyTo_most HALL.out j (by omega)
      have hn2 : n2 ≤ 1000 := by rw [← HN2.out, wordsB_len, startsTo_len]; omega
      clear hfo hb2 z0 z1 z2 z3 BX rf ff hfsp hlow1 hlow2 hfc1 hfc2 HI0
      have BX2' := BX2
      obtain ⟨z0, z1, z2, z3⟩ := BX2'
      go_wp2_with fail
      refine hcm.mono ?_
      rintro e w3 ⟨rfl, hb3⟩
      clear z0 z1 z2 z3
      have BX3 := BX2.below hb3 (Nat.le_refl _)
      have HI3 : Hid (BldI w w3 es (.slice a1 n1 c1) (.slice a2 n2 c2) (.slice a3 n3 c3) j) := HI2.out.below hb3
      have HRF3 : Hid (Rd w3 (.slice (some ⟨gf, of, none⟩) L fc) F) := HRF.out.below hb3 (Nat.le_refl _)
      clear hcm hb3 BX2 HI2 HRF
      by_cases h4 : j % 4 = 0
      · have h4I : (j : Int).tmod 4 = 0 := by rw [Int.tmod_eq_emod_of_nonneg (by omega)]; omega
        have HSH : Hid (shN es j = 0) := by show _ = 0; unfold shN; rw [if_pos h4]
        have hwd := lword_any w3 n1 (by omega)
        have BX3' := BX3
        obtain ⟨z0, z1, z2, z3⟩ := BX3'
        go_wp2_with fail
        refine hwd.mono ?_
        rintro e w4 ⟨vw, rfl, ow, hb4⟩
        obtain ⟨gw, cw, hvw⟩ := ow.shape
        rw [show (wordB n1).length = 2 from rfl] at hvw
        subst hvw
        clear z0 z1 z2 z3
        have BX4 := BX3.below hb4 (Nat.le_refl _)
        have HI4 : Hid (BldI w w4 es (.slice a1 n1 c1) (.slice a2 n2 c2) (.slice a3 n3 c3) j) := HI3.out.below hb4
        have HRF4 : Hid (Rd w4 (.slice (some ⟨gf, of, none⟩) L fc) F) := HRF3.out.below hb4 (Nat.le_refl _)
        have hrow : w4.ownsRow w.heap.size 5 1 (.slice a2 n2 c2) n2 (bv (wordsB (startsTo es j))) := by have := HI4.out.po.row; rw [HN2.out] at this; exact this
        have hcw := (rd_cells ow.rd).2
        have hse := HI4.out.be.size
        clear hwd hb4 BX3 HI3 HRF3 ow
        go_wp2_with (first | (at_builtin; refine wpList_append_lies _ rfl (.tmp 33) (.tmp 36) 26 rfl w.heap.size 5 i0 (.int .u8 0) 1 1 Try.underlying26 hi hz0 hz1 hz2 rfl (by decide) (.slice a2 n2 c2) n2 (bv (wordsB (startsTo es j))) rfl hrow ⟨gw, 0, none⟩ 2 cw (bv (wordB n1)) rfl rfl hcw (bv_one _) (by decide) (by unfold maxLen; omega) (by omega) hse _ rfl ?_; intro g5 c5 w5 hown hgrow hat hlt5; have HI5 : Hid (BldH w w5 es (.slice a1 n1 c1) (.slice (some ⟨g5, 0, none⟩) (n2 + 2) c5) (.slice (some ⟨gf, of, none⟩) L fc) F j) := (HI4.out.tell h4 HRF4.out HNF.out.1 HNF.out.2 HN2.out (by rw [HN1.out]; exact hown) hgrow hat); have BX5 := BX4.grown hgrow HNE2.out; clear hown hgrow hat hlt5) | fail)
        clear hrow hcw hse BX4 HI4 HRF4
        have hs1 : (0 : Int) ≤ ((0 : Nat) : Int) := by omega
        have hs2 : ((0 : Nat) : Int) ≤ (L : Int) := by omega
        have hs3 : (L : Int) ≤ (fc : Int) := by have := HFC.out; omega
        have hs4 : ¬ fc = 0 := by have := HFC.out; omega
        have hs5 : ¬ (fc : Int) = ((0 : Nat) : Int) := by omega
        have hs6 : (fc : Int) ≤ 9223372036854775807 := by have := HFC.out; omega
        have HPB : Hid (entB es j = packB 0 F oo ∧ (packB 0 F oo).length ≤ 600 ∧ 0 < (packB 0 F oo).length) := by
          refine ⟨by rw [HEN.out, HSH.out], ?_, ?_⟩
          · have := packB_len (n := 0) (f := F) (v := oo) (by have := HFR.out.2; omega) (by have := HFR.out.2; omega) HOO.out.1
            have := HFR.out.2; have := HOO.out; omega
          · unfold packB; rw [List.length_append, Mth.numB_length]; have := Mth.numL_bd 0; omega
        have HI6 : Hid (BldH w w5.drew es (.slice a1 n1 c1) (.slice (some ⟨g5, 0, none⟩) (n2 + 2) c5) (.slice (some ⟨gf, of, none⟩) L fc) F j) := HI5.out.drew
        have BX6 := BX5.drew
        have hpk := lpacked_any w5.drew 0 (.slice (some ⟨gf, of, none⟩) L fc) (.slice y1 oln y2) F oo (by
          have h9 := (rd_cells HI6.out.fo).2
          have h8 : ∀ j u, (bv F)[j]? = some u → w5.drew.cell? ⟨gf, of + j, none⟩ = some u := fun j u hu => by have := h9 j u hu; rwa [Addr.add_lit] at this
          have h7 := rd_sub h8 0 L fc (by have := HFC.out; omega) (by have := HFC.out; unfold maxLen; omega) (by have := HFR.out.2; omega)
          rw [List.take_of_length_le (by rw [List.length_drop, HFR.out.2]; exact Nat.le_refl _)] at h7
          exact h7) (HRY.out.below HI6.out.be (Nat.le_refl _)) (by have := HFR.out.2; omega) (by have := HFR.out.2; omega) (by have := HOO.out; omega)
        obtain ⟨PK, hPK⟩ : ∃ PK, packB 0 F oo = PK := ⟨_, rfl⟩
        rw [hPK] at hpk HPB
        clear hPK hsl h4
        go_wp2_with fail
        go_region_held3 (fun w' => w'.cell? ⟨wr.heap.size, 3, none⟩ = some (.slice y1 oln y2))
          (first | with_reducible exact BX8.c3 | with_reducible exact BX7.c3 | exact BX6.c3)
          (first
            | (go_at_call 35; refine hpk.mono ?_; rintro e w7 ⟨vp, rfl, op, hb7⟩
               obtain ⟨gp, cp, hvp⟩ := op.shape
               subst hvp
               have BX7 := BX6.below hb7 (Nat.le_refl _))
            | (have hI7 : BldH w w7 es (.slice a1 n1 c1) (.slice (some ⟨g5, 0, none⟩) (n2 + 2) c5) (.slice (some ⟨gf, of, none⟩) L fc) F j := HI6.out.below hb7
               have hrow : w7.ownsRow w.heap.size 5 1 (.slice a1 n1 c1) n1 (bv (bodyTo es j)) := by have := hI7.bo.row; rw [HN1.out] at this; exact this
               have hpl := HPB.out.2
               refine step_append_lies _ rfl (.tmp 38) (.tmp 45) 26 rfl w.heap.size 5 i0 (.int .u8 0) 1 1 Try.underlying26 hi hz0 hz1 hz2 rfl (by decide) (.slice a1 n1 c1) n1 (bv (bodyTo es j)) rfl hrow ⟨gp, 0, none⟩ PK.length cp (bv PK) rfl (by rw [bv_length, Nat.mul_one]) (rd_cells op.rd).2 (bv_one _) hpl.2 (by unfold maxLen; omega) (by omega) hI7.be.size _ rfl ?_
               intro g8 c8 w8 hown hgrow hat hlt8
               have BX8 := BX7.grown hgrow HNE1.out
               have HI8 : Hid (BldI w w8 es (.slice (some ⟨g8, 0, none⟩) (n1 + PK.length) c8) (.slice (some ⟨g5, 0, none⟩) (n2 + 2) c5) (.slice (some ⟨gf, of, none⟩) L fc) (j + 1)) := hI7.push HFR.out.1 HPB.out.1 rfl HN1.out hown hgrow hat
               clear hI7 hrow hpl hown hgrow hat hlt8 op hb7)
            | fail)
        all_goals
          clear BX5 BX6 hs1 hs2 hs3 hs4 hs5 hs6
          go_wp2_with fail
          go_roundg (gk - 1)
          case measure => exact q1
          case rel => exact ⟨j + 1, _, _, _, _, _, _, _, _, _, q2, by go_num, rfl, rfl, rfl, HI8⟩
      · obtain ⟨r4, hr4⟩ : ∃ r4, j % 4 = r4 := ⟨_, rfl⟩
        have h4I : (j : Int).tmod 4 = (r4 : Int) := by rw [Int.tmod_eq_emod_of_nonneg (by omega)]; omega
        have h4J : ¬ (r4 : Int) = 0 := by omega
        have h4K : ((r4 : Int) == 0) = false := by simpa using h4J
        obtain ⟨sh, hsh⟩ : ∃ sh, comN (ahd es j) F = sh := ⟨_, rfl⟩
        have HSH : Hid (shN es j = sh) := by show _ = _; unfold shN; rw [if_neg h4, HFR.out.1, hsh]
        rw [HSH.out] at hsl
        rw [hsh]
        have HI5 : Hid (BldH w w3 es (.slice a1 n1 c1) (.slice a2 n2 c2) (.slice (some ⟨gf, of, none⟩) L fc) F j) := HI3.out.stay h4 HRF3.out HNF.out.1 HNF.out.2
        have BX5 := BX3
        clear BX3 HI3 HRF3 hr4 hsh
        have hs1 : (0 : Int) ≤ (sh : Int) := by omega
        have hs2 : (sh : Int) ≤ (L : Int) := by omega
        have hs3 : (L : Int) ≤ (fc : Int) := by have := HFC.out; omega
        have hs4 : ¬ fc = sh := by have := HFC.out; omega
        have hs5 : ¬ (fc : Int) = (sh : Int) := by omega
        have hs6 : (fc : Int) ≤ 9223372036854775807 := by have := HFC.out; omega
        have HPB : Hid (entB es j = packB sh F oo ∧ (packB sh F oo).length ≤ 600 ∧ 0 < (packB sh F oo).length) := by
          refine ⟨by rw [HEN.out, HSH.out], ?_, ?_⟩
          · have := packB_len (n := sh) (f := F) (v := oo) (by have := HFR.out.2; omega) (by have := HFR.out.2; omega) HOO.out.1
            have := HFR.out.2; have := HOO.out; omega
          · unfold packB; rw [List.length_append, Mth.numB_length]; have := Mth.numL_bd sh; omega
        have HI6 : Hid (BldH w w3.drew es (.slice a1 n1 c1) (.slice a2 n2 c2) (.slice (some ⟨gf, of, none⟩) L fc) F j) := HI5.out.drew
        have BX6 := BX5.drew
        have hpk := lpacked_any w3.drew sh (.slice (some ⟨gf, of + sh, none⟩) (L - sh) (fc - sh)) (.slice y1 oln y2) F oo (by
          have h9 := (rd_cells HI6.out.fo).2
          have h8 : ∀ j u, (bv F)[j]? = some u → w3.drew.cell? ⟨gf, of + j, none⟩ = some u := fun j u hu => by have := h9 j u hu; rwa [Addr.add_lit] at this
          have h7 := rd_sub h8 sh (L - sh) (fc - sh) (by have := HFC.out; omega) (by have := HFC.out; unfold maxLen; omega) (by have := HFR.out.2; omega)
          rw [List.take_of_length_le (by rw [List.length_drop, HFR.out.2]; exact Nat.le_refl _)] at h7
          exact h7) (HRY.out.below HI6.out.be (Nat.le_refl _)) (by have := HFR.out.2; omega) (by have := HFR.out.2; omega) (by have := HOO.out; omega)
        obtain ⟨PK, hPK⟩ : ∃ PK, packB sh F oo = PK := ⟨_, rfl⟩
        rw [hPK] at hpk HPB
        clear hPK hsl h4
        go_wp2_with fail
        go_region_held3 (fun w' => w'.cell? ⟨wr.heap.size, 3, none⟩ = some (.slice y1 oln y2))
          (first | with_reducible exact BX8.c3 | with_reducible exact BX7.c3 | exact BX6.c3)
          (first
            | (go_at_call 35; refine hpk.mono ?_; rintro e w7 ⟨vp, rfl, op, hb7⟩
               obtain ⟨gp, cp, hvp⟩ := op.shape
               subst hvp
               have BX7 := BX6.below hb7 (Nat.le_refl _))
            | (have hI7 : BldH w w7 es (.slice a1 n1 c1) (.slice a2 n2 c2) (.slice (some ⟨gf, of, none⟩) L fc) F j := HI6.out.below hb7
               have hrow : w7.ownsRow w.heap.size 5 1 (.slice a1 n1 c1) n1 (bv (bodyTo es j)) := by have := hI7.bo.row; rw [HN1.out] at this; exact this
               have hpl := HPB.out.2
               refine step_append_lies _ rfl (.tmp 38) (.tmp 45) 26 rfl w.heap.size 5 i0 (.int .u8 0) 1 1 Try.underlying26 hi hz0 hz1 hz2 rfl (by decide) (.slice a1 n1 c1) n1 (bv (bodyTo es j)) rfl hrow ⟨gp, 0, none⟩ PK.length cp (bv PK) rfl (by rw [bv_length, Nat.mul_one]) (rd_cells op.rd).2 (bv_one _) hpl.2 (by unfold maxLen; omega) (by omega) hI7.be.size _ rfl ?_
               intro g8 c8 w8 hown hgrow hat hlt8
               have BX8 := BX7.grown hgrow HNE1.out
               have HI8 : Hid (BldI w w8 es (.slice (some ⟨g8, 0, none⟩) (n1 + PK.length) c8) (.slice a2 n2 c2) (.slice (some ⟨gf, of, none⟩) L fc) (j + 1)) := hI7.push HFR.out.1 HPB.out.1 rfl HN1.out hown hgrow hat
               clear hI7 hrow hpl hown hgrow hat hlt8 op hb7)
            | fail)
        all_goals
          clear BX5 BX6 hs1 hs2 hs3 hs4 hs5 hs6
          go_wp2_with fail
          go_roundg (gk - 1)
          case measure => exact q1
          case rel => exact ⟨j + 1, _, _, _, _, _, _, _, _, _, q2, by go_num, rfl, rfl, rfl, HI8⟩
    · have hjN : j = es.length := by rw [HN.out]; omega
      have hltI : ¬ (j : Int) < (N : Int) := by omega
      have HN1 : Hid ((bodyTo es j).length = n1) := ownN_len HI.out.bo
      have HN2 : Hid ((wordsB (startsTo es j)).length = n2) := ownN_len HI.out.po
      have hn1 : n1 ≤ 37760 := by rw [← HN1.out]; exact bodyTo_most HALL.out j (by omega)
      obtain ⟨cnt, hcnt⟩ : ∃ cnt, (startsTo es j).length = cnt := ⟨_, rfl⟩
      have hcl := startsTo_len es j
      have hn2 : n2 = 2 * cnt := by rw [← HN2.out, wordsB_len, hcnt]
      have hc2 : cnt ≤ 16 := by omega
      have hdv : (n2 : Int).tdiv 2 = (cnt : Int) := by rw [Int.tdiv_eq_ediv_of_nonneg (by omega)]; omega
      have hdv2 : (n2 : Int) / 2 = (cnt : Int) := by omega
      have HLF : Hid (leafB es = [bodyTo es j, wordsB (startsTo es j), wordB cnt].flatten) := by
        show _ = _
        unfold leafB
        rw [← hjN, hcnt]
        simp
      have HBD : Hid (n1 ≤ 37760 ∧ n2 ≤ 32) := ⟨hn1, by omega⟩
      have hwd := lword_any wr cnt (by omega)
      have hn2I : (n2 : Int) ≤ 32 := by omega
      clear hcnt hcl hn2 hc2 hn1 hjN
      go_wp2_with fail
      refine hwd.mono ?_
      rintro e w4 ⟨vw, rfl, ow, hb4⟩
      obtain ⟨gw, cw, hvw⟩ := ow.shape
      rw [show (wordB cnt).length = 2 from rfl] at hvw
      subst hvw
      have hI4 := HI.out.below hb4
      have hrl := rdl_many w4 [.slice a1 n1 c1, .slice a2 n2 c2, .slice (some ⟨gw, 0, none⟩) 2 cw] [bodyTo es j, wordsB (startsTo es j), wordB cnt] 3 rfl rfl (by decide) (by decide) (by
        intro i h1 h2
        match i, h1, h2 with
        | 0, _, _ => exact hI4.bo.rd
        | 1, _, _ => exact hI4.po.rd
        | 2, _, _ => exact ow.rd
        | (i + 3), h1, _ => exact absurd h1 (by simp))
      have hj2 := join_any _ _ _ hrl (by
        simp only [List.flatten_cons, List.flatten_nil, List.append_nil, List.length_append, HN1.out, HN2.out, show (wordB cnt).length = 2 from rfl]
        have := HBD.out
        omega)
      obtain ⟨PK, hPK⟩ : ∃ PK, [bodyTo es j, wordsB (startsTo es j), wordB cnt].flatten = PK := ⟨_, rfl⟩
      rw [hPK] at hj2 HLF
      have hba := below_box4 w4 (.cells #[.slice a1 n1 c1, .slice a2 n2 c2, .slice (some ⟨gw, 0, none⟩) 2 cw] 26)
      have HBA : Hid (Below w.heap.size w (w4.alloc (.cells #[.slice a1 n1 c1, .slice a2 n2 c2, .slice (some ⟨gw, 0, none⟩) 2 cw] 26))) := bsplit hI4.be hba
      clear hwd hb4 hI4 hrl hba hPK ow hdv hdv2
      go_wp2_with fail
      refine hj2.mono ?_
      rintro e w5 ⟨v5, rfl, o5, hb5⟩
      obtain ⟨g5, c5, rfl⟩ := o5.shape
      have HB5 : Hid (Below w.heap.size w w5) := bsplit HBA.out hb5
      have HO : Hid (Own w.heap.size w5 (.slice (some ⟨g5, 0, none⟩) PK.length c5) PK) := o5.mono HBA.out.size
      clear hj2 hb5 o5
      go_wp2
      go_ret2
      exact ⟨_, rfl, by rw [HLF.out]; exact HO.out, HB5.out⟩

end Go.Proofs.Ytbmpnafbmgcniaa

/- leaf.entries, leaf.Read. -/
namespace Go.Proofs.Ytbmpnafbmgcniaa
set_option maxRecDepth 20000
open Go.RowKit
set_option linter.unusedVariables false
set_option linter.unusedSimpArgs false

theorem verS_len {F : List UInt8} {q : List UInt8 × Nat × Nat} (hF : F.length ≤ 100000) (h : verS F = some q) : F.length ≤ 72 := by
  unfold verS at h
  split at h
  · cases h
  · rename_i h8
    split at h
    · rename_i hk
      have hf := front_numB (F.length - 8) (by omega) F
      have ht : (textS (Mth.numB (F.length - 8) ++ F) 64).2.2 = 0 := by
        rcases Nat.eq_zero_or_pos (textS (Mth.numB (F.length - 8) ++ F) 64).2.2 with h0 | h0
        · exact h0
        · exfalso
          unfold keyS at hk
          rw [if_neg (by omega)] at hk
          simp only at hk
          omega
      unfold textS at ht
      rw [hf] at ht
      simp only [if_true] at ht
      split at ht
      · cases ht
      · rename_i hm
        omega
    · cases h

theorem tak3_facts {A p : List UInt8} {n1 n2 n3 : Nat} {q : EnB × List UInt8 × List UInt8} (hA : A.length ≤ 1000) (hp : p.length ≤ 90000) (h : tak3 A p n1 n2 n3 = some q) : q.2.1.length ≤ 72 ∧ q.2.2.length ≤ p.length := by
  unfold tak3 at h
  split at h
  · split at h
    · rename_i r hr
      cases h
      refine ⟨verS_len ?_ hr, ?_⟩
      · rw [List.length_append, List.length_take, List.length_take]; omega
      · simp only [List.length_drop]; omega
    · cases h
  · cases h

theorem takS_facts {A p : List UInt8} {q : EnB × List UInt8 × List UInt8} (hA : A.length ≤ 1000) (hp : p.length ≤ 90000) (h : takS A p = some q) : q.2.1.length ≤ 72 ∧ q.2.2.length ≤ p.length := by
  unfold takS at h
  split at h
  · unfold tak1 at h
    split at h
    · unfold tak2 at h
      split at h
      · have := tak3_facts hA (by simp only [List.length_drop]; omega) h
        refine ⟨this.1, Nat.le_trans this.2 ?_⟩
        simp only [List.length_drop]; omega
      · cases h
    · cases h
  · cases h

/-- what the rest yields, behind what was read -/
def behind (es : List EnB) : Option (List EnB) → Option (List EnB)
  | none => none
  | some t => some (es ++ t)

theorem ents_done {B : List UInt8} {es : List EnB} {m : Nat} {F R : List UInt8} (h : entsS 64 [] B = behind es (entsS m F R)) (hR : R = []) : entsS 64 [] B = some es := by
  rw [h, hR, entsS]; simp [behind]

theorem ents_full {B : List UInt8} {es : List EnB} {F R : List UInt8} (h : entsS 64 [] B = behind es (entsS 0 F R)) (hR : ¬ R = []) : entsS 64 [] B = none := by
  cases R with
  | nil => exact absurd rfl hR
  | cons b r => rw [h, entsS]; rfl

theorem ents_stop {B : List UInt8} {es : List EnB} {m : Nat} {F R : List UInt8} (h : entsS 64 [] B = behind es (entsS (m + 1) F R)) (hR : ¬ R = []) (ht : takS F R = none) : entsS 64 [] B = none := by
  cases R with
  | nil => exact absurd rfl hR
  | cons b r => rw [h, entsS, ht]; rfl

theorem ents_step {B : List UInt8} {es : List EnB} {m : Nat} {F R : List UInt8} {q : EnB × List UInt8 × List UInt8} (h : entsS 64 [] B = behind es (entsS (m + 1) F R)) (hR : ¬ R = []) (ht : takS F R = some q) : entsS 64 [] B = behind (es ++ [q.1]) (entsS m q.2.1 q.2.2) := by
  cases R with
  | nil => exact absurd rfl hR
  | cons b r =>
    rw [h, entsS, ht]
    simp only
    cases entsS m q.2.1 q.2.2 with
    | none => rfl
    | some t => simp [behind]

/-- where the loop has come to -/
structure EntI (w wr : World) (B : List UInt8) (lv fv : Value) (b off : Nat) (es : List EnB) (F R : List UInt8) (j : Nat) : Prop where
  ow : OwnE w.heap.size wr lv es
  fo : Rd wr fv F
  nf : NeB fv F lv
  ce : Cel w b off R
  eq : entsS 64 [] B = behind es (entsS (64 - j) F R)
  nl : es.length = j
  fl : F.length ≤ 1000
  rl : R.length ≤ 90000
  be : Below w.heap.size w wr

/-- the entries that stand in p -/
def entsP (p : List UInt8) : Option (List EnB) := match bodyS p with
  | none => none
  | some b => entsS 64 [] b

theorem entsP_none {p : List UInt8} (h : bodyS p = none) : entsP p = none := by unfold entsP; rw [h]
theorem entsP_some {p b : List UInt8} (h : bodyS p = some b) : entsP p = entsS 64 [] b := by unfold entsP; rw [h]

/-- what leaf.entries answers -/
def EntPost (p : List UInt8) (w w' : World) (o : Ending) : Prop :=
  Below w.heap.size w w' ∧ match entsP p with
    | none => o = .returned (.tuple #[.slice none 0 0, .bool false])
    | some es => ∃ x, o = .returned (.tuple #[x, .bool true]) ∧ RdE w' x es

set_option maxHeartbeats 8000000 in
theorem lents_any (w : World) (b off cap : Nat) (p : List UInt8) (hc : Cel w b off p) (h1 : p.length ≤ cap) (h2 : cap ≤ 9223372036854775807) (hp : p.length ≤ 90000) (hbw : b < w.heap.size) :
    Calls Try.prog 40 #[.slice (some ⟨b, off, none⟩) p.length cap] w fun o w' => EntPost p w w' o := by
  obtain ⟨i0, hi, hz0, hz1, hz2⟩ := info_parts infoEn
  have hbo := lbody_any w b off cap p hc h1 h2 (by omega)
  have HC : Hid (Cel w b off p) := hc
  have HBW : Hid (b < w.heap.size) := hbw
  have HL : Hid (p.length ≤ cap ∧ cap ≤ 9223372036854775807 ∧ p.length ≤ 90000) := ⟨h1, h2, hp⟩
  clear hc h1 h2 hp hbw
  go_enter Try.func40, Try.ntmps40
  go_wp2_with fail
  refine hbo.mono ?_
  rintro o w1 ⟨hb1, hq⟩
  have HB1 : Hid (Below w.heap.size w w1) := hb1
  cases hbs : bodyS p with
  | none =>
    rw [hbs] at hq
    simp only at hq
    subst hq
    have HE : Hid (bodyS p = none) := hbs
    clear hbo hb1 hbs
    go_wp2
    go_ret2
    refine ⟨HB1.out, ?_⟩
    rw [entsP_none HE.out]
    rfl
  | some B =>
    rw [hbs] at hq
    simp only at hq
    subst hq
    have HE : Hid (bodyS p = some B) := hbs
    have hBp : B = p.take B.length ∧ B.length + 2 ≤ p.length := by
      unfold bodyS at hbs
      split at hbs
      · cases hbs
      · split at hbs
        · cases hbs
        · cases hbs
          refine ⟨?_, ?_⟩
          · rw [List.length_take]; rw [Nat.min_eq_left (by omega)]
          · rw [List.length_take]; omega
    have HCB : Hid (Cel w b off B) := by
      intro j u hu
      refine HC.out j u ?_
      rw [hBp.1] at hu
      rw [← hu]
      have hj : j < B.length := by
        have := (List.getElem?_eq_some_iff.1 hu).1
        rw [bv_length, List.length_take] at this
        omega
      unfold bv
      rw [List.getElem?_map, List.getElem?_map, List.getElem?_take_of_lt hj]
    have HLB : Hid (B.length < cap ∧ cap ≤ 9223372036854775807 ∧ B.length ≤ 90000) := by have := HL.out; exact ⟨by omega, by omega, by omega⟩
    clear hbo hb1 hbs hBp
    go_wp2_with fail
    go_loopg [4, 5, 6, 7] 65 (fun gk rv ov lv fv wr => ∃ (j off' cap' c1 n2 c2 : Nat) (a1 a2 : Option Addr) (es : List EnB) (F R : List UInt8), gk + j = 65 ∧ j ≤ 64 ∧ rv = .slice (some ⟨b, off', none⟩) R.length cap' ∧ ov = .bool true ∧ lv = .slice a1 j c1 ∧ fv = .slice a2 n2 c2 ∧ Hid (R.length < cap' ∧ cap' ≤ 9223372036854775807) ∧ Hid (EntI w wr B lv fv b off' es F R j))
    case atStart => exact ⟨0, off, cap, 0, 0, 0, none, none, [], [], B, by omega, by omega, rfl, rfl, rfl, rfl, ⟨HLB.out.1, HLB.out.2.1⟩, ⟨OwnE.nil _ _, .inl ⟨rfl, rfl⟩, .inl rfl, HCB.out, by cases entsS 64 [] B <;> simp [behind], rfl, by simp, HLB.out.2.2, HB1.out⟩⟩
    case round =>
      obtain ⟨j, off', cap', c1, n2, c2, a1, a2, es, F, R, hj, hj64, rfl, rfl, rfl, rfl, HCP, HI⟩ := hrel
      obtain ⟨RL, hRL⟩ : ∃ n, R.length = n := ⟨_, rfl⟩
      have HRL : Hid (R.length = RL) := hRL
      rw [hRL]
      clear hRL
      by_cases hR : R = []
      · have HR0 : Hid (entsS 64 [] B = some es) := ents_done HI.out.eq hR
        have hR0 : RL = 0 := by rw [← HRL.out, hR]; rfl
        subst hR0
        go_wp2
        go_ret2
        refine ⟨HI.out.be, ?_⟩
        rw [entsP_some HE.out, HR0.out]
        exact ⟨_, rfl, HI.out.ow.rd⟩
      · have hRp : 0 < RL := by rw [← HRL.out]; exact List.length_pos_iff.2 hR
        have hRI : (0 : Int) < (RL : Int) := by omega
        by_cases hj4 : j = 64
        · subst hj4
          have HN : Hid (entsS 64 [] B = none) := ents_full (F := F) (R := R) HI.out.eq hR
          go_wp2
          go_ret2
          refine ⟨HI.out.be, ?_⟩
          rw [entsP_some HE.out, HN.out]
          rfl
        · have hj4I : ¬ (j : Int) = 64 := by omega
          have hj4b : ((j : Int) == 64) = false := by simpa using hj4I
          have hb0 := below_box4 wr (.cells #[.slice none 0 0, .int .u64 0, .int .u8 0, .slice none 0 0] 45)
          have BX := box4f_new wr (.slice none 0 0) (.int .u64 0) (.int .u8 0) (.slice none 0 0) 45
          have htk := ltake_any (wr.alloc (.cells #[.slice none 0 0, .int .u64 0, .int .u8 0, .slice none 0 0] 45)) (.slice a2 n2 c2) F R b off' cap' (HI.out.fo.below hb0 (Nat.le_refl _)) HI.out.fl (HI.out.ce.below (bsplit HI.out.be hb0)) HCP.out.1 HCP.out.2 HI.out.rl (by have := HBW.out; have := HI.out.be.size; simp; omega)
          rw [HRL.out] at htk
          have HB0 : Hid (Below wr.heap.size wr (wr.alloc (.cells #[.slice none 0 0, .int .u64 0, .int .u8 0, .slice none 0 0] 45))) := hb0
          have HEQ : Hid (entsS 64 [] B = behind es (entsS (63 - j + 1) F R)) := by show _ = _; rw [show 63 - j + 1 = 64 - j by omega]; exact HI.out.eq
          clear hb0
          go_wp2_with fail
          refine htk.mono ?_
          rintro o w2 ⟨hb2, hq⟩
          have HB2 : Hid (Below wr.heap.size wr w2) := HB0.out.trans (hb2.mono HB0.out.size)
          obtain ⟨⟨x0, x1, x2, x3⟩, f0, f1, f2, f3⟩ := BX.below hb2 (Nat.le_refl _)
          cases hts : takS F R with
          | none =>
            rw [hts] at hq
            simp only at hq
            subst hq
            have HN : Hid (entsS 64 [] B = none) := ents_stop HEQ.out hR hts
            have HB3 : Hid (Below w.heap.size w w2) := bsplit HI.out.be HB2.out
            clear htk hb2 BX hts
            go_wp2
            go_ret2
            refine ⟨below_store4 HB3.out HI.out.be.size _ _ _ _, ?_⟩
            rw [entsP_some HE.out, HN.out]
            rfl
          | some q =>
            rw [hts] at hq
            simp only at hq
            obtain ⟨x, y, f, off2, cap2, ho, rx, ry, rf, hce, hcp1, hcp2⟩ := hq
            subst ho
            have HEQ2 : Hid (entsS 64 [] B = behind (es ++ [q.1]) (entsS (63 - j) q.2.1 q.2.2)) := ents_step HEQ.out hR hts
            have htf := takS_facts HI.out.fl HI.out.rl hts
            have HTF : Hid (q.2.1.length ≤ 1000 ∧ q.2.2.length ≤ 90000) := ⟨by omega, by have := HI.out.rl; omega⟩
            obtain ⟨⟨ol, osq, ok, oo⟩, F2, R2⟩ := q
            simp only at rx ry rf hce hcp1 HEQ2 HTF ⊢
            obtain ⟨xa, xc, rfl⟩ := rx.1.len
            obtain ⟨ya, yc, rfl⟩ := ry.1.len
            obtain ⟨fa, fc, rfl⟩ := rf.1.len
            obtain ⟨l1, hl1⟩ : ∃ n, ol.length = n := ⟨_, rfl⟩
            obtain ⟨l2, hl2⟩ : ∃ n, oo.length = n := ⟨_, rfl⟩
            obtain ⟨l3, hl3⟩ : ∃ n, F2.length = n := ⟨_, rfl⟩
            obtain ⟨kk, hkk⟩ : ∃ n, ok.toNat = n := ⟨_, rfl⟩
            rw [hl1] at rx
            rw [hl2] at ry
            rw [hl3] at rf
            rw [hl1, hl2, hl3, hkk]
            have HKK : Hid (ok.toNat = kk) := hkk
            have HCP2 : Hid (R2.length < cap2 ∧ cap2 ≤ 9223372036854775807) := ⟨hcp1, hcp2⟩
            have HCE : Hid (Cel w b off2 R2) := Cel.back hce (bsplit HI.out.be HB0.out) HBW.out
            have hszb : (wr.alloc (.cells #[.slice none 0 0, .int .u64 0, .int .u8 0, .slice none 0 0] 45)).heap.size = wr.heap.size + 1 := by simp
            rw [hszb] at rx ry rf
            have hfar : ∀ {v : Value}, From (wr.heap.size + 1) v → ∀ g, v.ownBlock = some g → g ≠ wr.heap.size := fun {v} hf g hg => by
              cases v with
              | slice a n c =>
                cases a with
                | none => simp [Value.ownBlock] at hg
                | some a =>
                  have h9 := hf a n c rfl
                  simp only [Value.ownBlock, Option.some.injEq] at hg
                  omega
              | _ => simp [Value.ownBlock] at hg
            have hlow : ∀ q, (Value.slice a1 j c1).ownBlock = some q → q < wr.heap.size + 1 := fun q hq => Nat.lt_succ_of_lt (HI.out.ow.lt q hq).2
            obtain ⟨W2, hW2⟩ : ∃ W, ((((w2.setCell ⟨wr.heap.size, 0, none⟩ (.slice xa l1 xc)).setCell ⟨wr.heap.size, 1, none⟩ (.int .u64 (osq : Int))).setCell ⟨wr.heap.size, 2, none⟩ (.int .u8 (kk : Int))).setCell ⟨wr.heap.size, 3, none⟩ (.slice ya l2 yc)) = W := ⟨_, rfl⟩
            have rx2 : Rd W2 (.slice xa l1 xc) ol := by rw [← hW2]; exact rd_store4 rx.1 (hfar rx.2) _ _ _ _
            have ry2 : Rd W2 (.slice ya l2 yc) oo := by rw [← hW2]; exact rd_store4 ry.1 (hfar ry.2) _ _ _ _
            have rf2 : Rd W2 (.slice fa l3 fc) F2 := by rw [← hW2]; exact rd_store4 rf.1 (hfar rf.2) _ _ _ _
            have hbW : Below wr.heap.size wr W2 := by rw [← hW2]; exact below_store4 HB2.out (Nat.le_refl _) _ _ _ _
            have c0 : W2.cell? ⟨wr.heap.size, 0, none⟩ = some (.slice xa l1 xc) := by rw [← hW2]; simp [go_sem, x0, x1, x2, x3]
            have c1' : W2.cell? ⟨wr.heap.size, 1, none⟩ = some (.int .u64 (osq : Int)) := by rw [← hW2]; simp [go_sem, x0, x1, x2, x3]
            have c2' : W2.cell? ⟨wr.heap.size, 2, none⟩ = some (.int .u8 (kk : Int)) := by rw [← hW2]; simp [go_sem, x0, x1, x2, x3]
            have c3' : W2.cell? ⟨wr.heap.size, 3, none⟩ = some (.slice ya l2 yc) := by rw [← hW2]; simp [go_sem, x0, x1, x2, x3]
            have hbe := below_box4 W2 (.cells #[.slice xa l1 xc, .int .u64 (osq : Int), .int .u8 (kk : Int), .slice ya l2 yc] 45)
            have hlit := laid4 W2 (.slice xa l1 xc) (.int .u64 (osq : Int)) (.int .u8 (kk : Int)) (.slice ya l2 yc) 45
            have HXE : Hid (Rd (W2.alloc (.cells #[.slice xa l1 xc, .int .u64 (osq : Int), .int .u8 (kk : Int), .slice ya l2 yc] 45)) (.slice xa l1 xc) ol ∧ NeB (.slice xa l1 xc) ol (.slice a1 j c1)) := ⟨rx2.below hbe (Nat.le_refl _), neb_of rx.2 hlow rx.1⟩
            have HYE : Hid (Rd (W2.alloc (.cells #[.slice xa l1 xc, .int .u64 (osq : Int), .int .u8 (kk : Int), .slice ya l2 yc] 45)) (.slice ya l2 yc) oo ∧ NeB (.slice ya l2 yc) oo (.slice a1 j c1)) := ⟨ry2.below hbe (Nat.le_refl _), neb_of ry.2 hlow ry.1⟩
            have HFE : Hid (Rd (W2.alloc (.cells #[.slice xa l1 xc, .int .u64 (osq : Int), .int .u8 (kk : Int), .slice ya l2 yc] 45)) (.slice fa l3 fc) F2 ∧ NeB (.slice fa l3 fc) F2 (.slice a1 j c1)) := ⟨rf2.below hbe (Nat.le_refl _), neb_of rf.2 hlow rf.1⟩
            have hbWe : Below wr.heap.size wr (W2.alloc (.cells #[.slice xa l1 xc, .int .u64 (osq : Int), .int .u8 (kk : Int), .slice ya l2 yc] 45)) := hbW.trans (hbe.mono hbW.size)
            have HBE : Hid (Below w.heap.size w (W2.alloc (.cells #[.slice xa l1 xc, .int .u64 (osq : Int), .int .u8 (kk : Int), .slice ya l2 yc] 45))) := bsplit HI.out.be hbWe
            have hse := HBE.out.size
            obtain ⟨cs, hrow, hel⟩ := HI.out.ow.below hbWe (Nat.le_refl _)
            rw [HI.out.nl] at hrow
            have HEL : Hid _ := hel
            have HRW : Hid _ := hrow
            have HJ : Hid (j < 64) := by show j < 64; omega
            have q1 : gk - 1 < gk := by omega
            have q2 : gk - 1 + (j + 1) = 65 := by omega
            have q3 : j + 1 ≤ 64 := by omega
            have HW2 : Hid _ := hW2
            clear htk hb2 BX hts htf rx ry rf rx2 ry2 rf2 hl1 hl2 hl3 hkk hce hcp1 hcp2 hfar hlow hbW hbe hbWe hel hszb HEQ
            go_wp2_with (first | (at_builtin; refine wpList_append_lies _ rfl (.tmp 32) (.tmp 34) 22 rfl w.heap.size 45 i0 (.agg #[.slice none 0 0, .int .u64 0, .int .u8 0, .slice none 0 0]) 4 64 Try.underlying22 hi hz0 hz1 hz2 rfl (by decide) (.slice a1 j c1) j cs rfl hrow ⟨W2.heap.size, 0, none⟩ 1 1 [.slice xa l1 xc, .int .u64 (osq : Int), .int .u8 (kk : Int), .slice ya l2 yc] rfl rfl hlit (oneE _ _ _ _ _ _ _ _) (by decide) (by have := HJ.out; simp only [maxLen]; omega) (by have := HJ.out; omega) hse _ rfl ?_; intro g4 c4 w4 hown hgrow hat hlt4; rw [← HKK.out] at hown; have HI4 : Hid (EntI w w4 B (.slice (some ⟨g4, 0, none⟩) (j + 1) c4) (.slice fa l3 fc) b off2 (es ++ [(ol, osq, ok, oo)]) F2 R2 (j + 1)) := ⟨own_pushE (ol, osq, ok, oo) HI.out.nl HRW.out HEL.out HXE.out HYE.out hown hgrow hat, rd_grown HFE.out.1 hgrow HFE.out.2, neb_step HFE.out.2 HFE.out.1 hat, HCE.out, (by rw [HEQ2.out, show 64 - (j + 1) = 63 - j by omega]), (by rw [List.length_append, HI.out.nl]; rfl), HTF.out.1, HTF.out.2, HBE.out.grown hgrow HBE.out.size (fun k' e => (hrow.lt k' e).1)⟩; clear hown hgrow hat hlt4) | fail)
            clear hrow hlit hse c0 c1' c2' c3'
            go_roundg (gk - 1)
            case measure => exact q1
            case rel => exact ⟨j + 1, off2, cap2, c4, _, _, _, _, _, F2, R2, q2, q3, rfl, rfl, rfl, rfl, HCP2, HI4⟩

end Go.Proofs.Ytbmpnafbmgcniaa

/- leaf.Read. -/
namespace Go.Proofs.Ytbmpnafbmgcniaa
set_option maxRecDepth 20000
open Go.RowKit
set_option linter.unusedVariables false

/-- what leaf.Read answers -/
def RdLPost (p : List UInt8) (w w' : World) (o : Ending) : Prop :=
  Below w.heap.size w w' ∧ match readL p with
    | none => o = .returned (.tuple #[.slice none 0 0, .int .i64 4])
    | some es => ∃ x, o = .returned (.tuple #[x, .int .i64 0]) ∧ RdE w' x es

theorem readL_none {p : List UInt8} (h : entsP p = none) : readL p = none := by
  unfold readL
  cases hb : bodyS p with
  | none => rfl
  | some b => rw [entsP_some hb] at h; simp only; rw [h]

theorem readL_some {p : List UInt8} {es : List EnB} (h : entsP p = some es) : readL p = if chkLf es = 0 ∧ leafB es = p then some es else none := by
  unfold readL
  cases hb : bodyS p with
  | none => rw [entsP_none hb] at h; cases h
  | some b => rw [entsP_some hb] at h; simp only; rw [h]

set_option maxHeartbeats 2000000 in
theorem lread_any (w : World) (b off cap : Nat) (p : List UInt8) (hc : Cel w b off p) (h1 : p.length ≤ cap) (h2 : cap ≤ 9223372036854775807) (hp : p.length ≤ 90000) (hbw : b < w.heap.size) :
    Calls Try.prog 19 #[.slice (some ⟨b, off, none⟩) p.length cap] w fun o w' => RdLPost p w w' o := by
  have hen := lents_any w b off cap p hc h1 h2 hp hbw
  have HP : Hid (Rd w (.slice (some ⟨b, off, none⟩) p.length cap) p) := .inr ⟨b, off, cap, rfl, h1, by unfold maxLen; omega, hc⟩
  obtain ⟨L, hL⟩ : ∃ L, p.length = L := ⟨_, rfl⟩
  rw [hL] at hen HP ⊢
  clear hc h1 h2 hp hbw hL
  go_enter Try.func19, Try.ntmps19
  go_wp2_with fail
  refine hen.mono ?_
  rintro o w1 ⟨hb1, hq⟩
  have HB1 : Hid (Below w.heap.size w w1) := hb1
  have HP1 : Hid (Rd w1 (.slice (some ⟨b, off, none⟩) L cap) p) := HP.out.below hb1 (Nat.le_refl _)
  clear hen hb1
  cases hm : entsP p with
  | none =>
    rw [hm] at hq
    simp only at hq
    subst hq
    have HN : Hid (readL p = none) := readL_none hm
    clear hm
    go_wp2
    go_ret2
    refine ⟨HB1.out, ?_⟩
    rw [HN.out]
    rfl
  | some es =>
    rw [hm] at hq
    simp only at hq
    obtain ⟨x, rfl, rx⟩ := hq
    have HS : Hid (readL p = if chkLf es = 0 ∧ leafB es = p then some es else none) := readL_some hm
    have HX : Hid (RdE w1 x es) := rx
    obtain ⟨xa, xc, rfl⟩ := rx.shape
    obtain ⟨N, hN⟩ : ∃ n, es.length = n := ⟨_, rfl⟩
    rw [hN] at HX rx ⊢
    clear hm hN
    by_cases hck : chkLf es = 0
    · have hbu := lbuild_ok w1 _ es rx hck
      clear rx
      go_wp2_with fail
      refine hbu.mono ?_
      rintro o w2 ⟨q, rfl, oq, hb2⟩
      have HB2 : Hid (Below w.heap.size w w2) := bsplit HB1.out hb2
      obtain ⟨gq, cq, rfl⟩ := oq.shape
      obtain ⟨r, hr⟩ : ∃ r, (leafB es == p) = r := ⟨_, rfl⟩
      have heq := equal_any w2 _ _ (leafB es) p oq.rd (HP1.out.below hb2 (Nat.le_refl _))
      rw [hr] at heq
      have HX2 : Hid (RdE w2 (.slice xa N xc) es) := rdE_below HX.out hb2 (Nat.le_refl _)
      obtain ⟨QL, hQL⟩ : ∃ n, (leafB es).length = n := ⟨_, rfl⟩
      rw [hQL] at heq ⊢
      clear hbu hb2 oq hQL
      cases r with
      | true =>
        have HE : Hid (readL p = some es) := by show _ = _; rw [HS.out, if_pos ⟨hck, by simpa using hr⟩]
        go_wp2_with fail
        refine heq.mono ?_
        rintro o w3 ⟨rfl, rfl⟩
        clear heq
        go_wp2
        go_ret2
        refine ⟨HB2.out, ?_⟩
        rw [HE.out]
        exact ⟨_, rfl, HX2.out⟩
      | false =>
        have HE : Hid (readL p = none) := by show _ = _; rw [HS.out, if_neg]; rintro ⟨_, h⟩; rw [h] at hr; simp at hr
        go_wp2_with fail
        refine heq.mono ?_
        rintro o w3 ⟨rfl, rfl⟩
        clear heq
        go_wp2
        go_ret2
        refine ⟨HB2.out, ?_⟩
        rw [HE.out]
        rfl
    · obtain ⟨c, hcc⟩ : ∃ c, chkLf es = c := ⟨_, rfl⟩
      have hc0 : ¬ c = 0 := by rw [← hcc]; exact hck
      have hcb : (c == 0) = false := by simpa using hc0
      have hbu := lbuild_err w1 _ es c rx hcc hc0
      have HE : Hid (readL p = none) := by show _ = _; rw [HS.out, if_neg]; exact fun h => hck h.1
      clear rx hcc
      go_wp2_with fail
      refine hbu.mono ?_
      rintro o w2 ⟨rfl, hb2⟩
      have HB2 : Hid (Below w.heap.size w w2) := bsplit HB1.out hb2
      clear hbu hb2
      go_wp2
      go_ret2
      refine ⟨HB2.out, ?_⟩
      rw [HE.out]
      rfl

end Go.Proofs.Ytbmpnafbmgcniaa

/- bartizanlaw12.entry, awake: the document's example of layer 12. -/
namespace Go.Proofs.Ytbmpnafbmgcniaa
set_option maxRecDepth 20000
open Go.RowKit
set_option linter.unusedVariables false

set_option maxHeartbeats 1000000 in
theorem entry_any (w : World) (t u : ByteArray) (l m : List UInt8) (hl : t.data.toList = l) (hl2 : l.length ≤ 100) (hm : u.data.toList = m) (hm2 : m.length ≤ 100) :
    Calls Try.prog 26 #[.string t, .string u] w fun e w' => ∃ x y, e = .returned (.agg #[x, .int .u64 1, .int .u8 2, y]) ∧ Rd w' x l ∧ Rd w' y m ∧ Below w.heap.size w w' := by
  have hb0 := below_box4 w (.cells #[.slice none 0 0, .int .u64 0, .int .u8 0, .slice none 0 0] 45)
  have br := box4f_new w (.slice none 0 0) (.int .u64 0) (.int .u8 0) (.slice none 0 0) 45
  obtain ⟨cap, w1, hc, hr, hb, hs⟩ := conv_str (w.alloc (.cells #[.slice none 0 0, .int .u64 0, .int .u8 0, .slice none 0 0] 45)) t l hl hl2
  obtain ⟨cap2, w2, hc2, hr2, hb2, hs2⟩ := conv_str w1 u m hm hm2
  obtain ⟨⟨c0, c1, c2, c3⟩, f0, f1, f2, f3⟩ := (br.below hb (Nat.le_refl _)).below hb2 (Nat.le_refl _)
  have HB : Hid (Below w.heap.size w w2) := bsplit (bsplit hb0 hb) hb2
  rw [show (w.alloc (.cells #[.slice none 0 0, .int .u64 0, .int .u8 0, .slice none 0 0] 45)).heap.size = w.heap.size + 1 by simp] at hc hr hs
  rw [hs] at hc2 hr2
  have HR : Hid (Rd w2 (.slice (some ⟨w.heap.size + 1, 0, none⟩) l.length cap) l ∧ Rd w2 (.slice (some ⟨w.heap.size + 1 + 1, 0, none⟩) m.length cap2) m) := ⟨hr.below hb2 (Nat.le_refl _), hr2⟩
  clear hb0 br hb hb2 hr hr2 hs hs2 hl hm
  go_enter Try.func26, Try.ntmps26
  go_wp2
  refine bodyPost_ret (v := .agg #[.slice (some ⟨w.heap.size + 1, 0, none⟩) l.length cap, .int .u64 1, .int .u8 2, .slice (some ⟨w.heap.size + 1 + 1, 0, none⟩) m.length cap2]) (by simp [results, Try.results26, go_sem, c0, c1, c2, c3]) rfl ⟨_, _, rfl, rd_store4 HR.out.1 (fun g hg => ?_) _ _ _ _, rd_store4 HR.out.2 (fun g hg => ?_) _ _ _ _, below_store4 HB.out (Nat.le_refl _) _ _ _ _⟩
  · simp only [Value.ownBlock, Option.some.injEq] at hg; omega
  · simp only [Value.ownBlock, Option.some.injEq] at hg; omega

theorem lex1 : leafB [([97, 97], 1, 2, [120])] = [0, 10, 1, 97, 97, 2, 1, 0, 0, 0, 0, 0, 0, 120, 0, 0, 1, 0] := by decide +kernel
theorem lex2 : leafB [([97, 97], 1, 2, [120]), ([97, 98], 1, 2, [121])] = [0, 10, 1, 97, 97, 2, 1, 0, 0, 0, 0, 0, 0, 120, 1, 9, 1, 98, 2, 1, 0, 0, 0, 0, 0, 0, 121, 0, 0, 1, 0] := by decide +kernel
theorem lex3 : chkLf [([97, 97], 1, 2, [120])] = 0 := by decide +kernel
theorem lex4 : chkLf [([97, 97], 1, 2, [120]), ([97, 98], 1, 2, [121])] = 0 := by decide +kernel

theorem rdE_one (w : World) (x y : Value) (e : EnB) (hx : Rd w x e.1) (hy : Rd w y e.2.2.2) : RdE (w.alloc (.cells #[x, .int .u64 (e.2.1 : Int), .int .u8 (e.2.2.1.toNat : Int), y] 45)) (.slice (some ⟨w.heap.size, 0, none⟩) 1 1) [e] := by
  have hb := below_box4 w (.cells #[x, .int .u64 (e.2.1 : Int), .int .u8 (e.2.2.1.toNat : Int), y] 45)
  obtain ⟨c0, c1, c2, c3⟩ := box4_new w x (.int .u64 (e.2.1 : Int)) (.int .u8 (e.2.2.1.toNat : Int)) y 45
  refine ⟨_, 1, rfl, Nat.le_refl _, by decide, fun j hj => ?_⟩
  obtain rfl : j = 0 := by simp at hj; exact hj
  exact ⟨w.heap.size, 0, rfl, x, y, c0, c1, c2, c3, hx.below hb (Nat.le_refl _), hy.below hb (Nat.le_refl _)⟩

theorem rdE_two (w : World) (x y x' y' : Value) (e e' : EnB) (hx : Rd w x e.1) (hy : Rd w y e.2.2.2) (hx' : Rd w x' e'.1) (hy' : Rd w y' e'.2.2.2) : RdE (w.alloc (.cells #[x, .int .u64 (e.2.1 : Int), .int .u8 (e.2.2.1.toNat : Int), y, x', .int .u64 (e'.2.1 : Int), .int .u8 (e'.2.2.1.toNat : Int), y'] 45)) (.slice (some ⟨w.heap.size, 0, none⟩) 2 2) [e, e'] := by
  have hb := below_box4 w (.cells #[x, .int .u64 (e.2.1 : Int), .int .u8 (e.2.2.1.toNat : Int), y, x', .int .u64 (e'.2.1 : Int), .int .u8 (e'.2.2.1.toNat : Int), y'] 45)
  have h := heap_alloc_new w (.cells #[x, .int .u64 (e.2.1 : Int), .int .u8 (e.2.2.1.toNat : Int), y, x', .int .u64 (e'.2.1 : Int), .int .u8 (e'.2.2.1.toNat : Int), y'] 45)
  have c := fun i => cell_of_row _ w.heap.size i _ _ _ h
  refine ⟨_, 2, rfl, Nat.le_refl _, by decide, fun j hj => ?_⟩
  have : j = 0 ∨ j = 1 := by simp at hj; omega
  rcases this with rfl | rfl
  · exact ⟨w.heap.size, 0, rfl, x, y, by rw [c]; rfl, by rw [c]; rfl, by rw [c]; rfl, by rw [c]; rfl, hx.below hb (Nat.le_refl _), hy.below hb (Nat.le_refl _)⟩
  · exact ⟨w.heap.size, 0, rfl, x', y', by rw [c]; rfl, by rw [c]; rfl, by rw [c]; rfl, by rw [c]; rfl, hx'.below hb (Nat.le_refl _), hy'.below hb (Nat.le_refl _)⟩

set_option maxHeartbeats 2000000 in
theorem lawake_any (w : World) : Calls Try.prog 9 #[] w fun e w' => e = .returned (.bool true) ∧ Below w.heap.size w w' := by
  go_enter Try.func9, Try.ntmps9
  go_wp2_with fail
  refine (entry_any w _ _ [97, 97] [120] rfl (by simp) rfl (by simp)).mono ?_
  rintro e w1 ⟨x1, y1, rfl, rx1, ry1, hb1⟩
  have HB1 : Hid (Below w.heap.size w w1) := hb1
  have hbu1 := lbuild_ok _ _ _ (rdE_one w1 x1 y1 ([97, 97], 1, 2, [120]) rx1 ry1) lex3
  rw [lex1] at hbu1
  obtain ⟨xa1, xc1, rfl⟩ := rx1.len
  obtain ⟨ya1, yc1, rfl⟩ := ry1.len
  have HB1a : Hid _ := bsplit HB1.out (below_box4 w1 (.cells #[.slice xa1 2 xc1, .int .u64 1, .int .u8 2, .slice ya1 1 yc1] 45))
  clear hb1 rx1 ry1
  go_wp2_with fail
  refine hbu1.mono ?_
  rintro e w2 ⟨p, rfl, op, hb2⟩
  have HB2 : Hid (Below w.heap.size w w2) := bsplit HB1a.out hb2
  obtain ⟨gp, cp, hp⟩ := op.shape
  simp only [List.length_cons, List.length_nil] at hp
  subst hp
  have HP2 : Hid (Rd w2 (.slice (some ⟨gp, 0, none⟩) 18 cp) [0, 10, 1, 97, 97, 2, 1, 0, 0, 0, 0, 0, 0, 120, 0, 0, 1, 0]) := op.rd
  clear hbu1 hb2 op
  go_wp2_with fail
  refine (entry_any w2 _ _ [97, 97] [120] rfl (by simp) rfl (by simp)).mono ?_
  rintro e w3 ⟨x3, y3, rfl, rx3, ry3, hb3⟩
  have HB3 : Hid (Below w.heap.size w w3) := bsplit HB2.out hb3
  have HP3 : Hid (Rd w3 (.slice (some ⟨gp, 0, none⟩) 18 cp) [0, 10, 1, 97, 97, 2, 1, 0, 0, 0, 0, 0, 0, 120, 0, 0, 1, 0]) := Rd.below HP2.out hb3 (Nat.le_refl _)
  clear hb3
  go_wp2_with fail
  refine (entry_any w3 _ _ [97, 98] [121] rfl (by simp) rfl (by simp)).mono ?_
  rintro e w4 ⟨x4, y4, rfl, rx4, ry4, hb4⟩
  have HB4 : Hid (Below w.heap.size w w4) := bsplit HB3.out hb4
  have HP4 : Hid (Rd w4 (.slice (some ⟨gp, 0, none⟩) 18 cp) [0, 10, 1, 97, 97, 2, 1, 0, 0, 0, 0, 0, 0, 120, 0, 0, 1, 0]) := Rd.below HP3.out hb4 (Nat.le_refl _)
  have hbu2 := lbuild_ok _ _ _ (rdE_two w4 x3 y3 x4 y4 ([97, 97], 1, 2, [120]) ([97, 98], 1, 2, [121]) (rx3.below hb4 (Nat.le_refl _)) (ry3.below hb4 (Nat.le_refl _)) rx4 ry4) lex4
  rw [lex2] at hbu2
  obtain ⟨xa3, xc3, rfl⟩ := rx3.len
  obtain ⟨ya3, yc3, rfl⟩ := ry3.len
  obtain ⟨xa4, xc4, rfl⟩ := rx4.len
  obtain ⟨ya4, yc4, rfl⟩ := ry4.len
  have hba := below_box4 w4 (.cells #[.slice xa3 2 xc3, .int .u64 1, .int .u8 2, .slice ya3 1 yc3, .slice xa4 2 xc4, .int .u64 1, .int .u8 2, .slice ya4 1 yc4] 45)
  have HB4a : Hid _ := bsplit HB4.out hba
  have HP4a : Hid (Rd _ (.slice (some ⟨gp, 0, none⟩) 18 cp) [0, 10, 1, 97, 97, 2, 1, 0, 0, 0, 0, 0, 0, 120, 0, 0, 1, 0]) := Rd.below HP4.out hba (Nat.le_refl _)
  clear hb4 rx3 ry3 rx4 ry4 hba
  go_wp2_with fail
  refine hbu2.mono ?_
  rintro e w5 ⟨q, rfl, oq, hb5⟩
  have HB5 : Hid (Below w.heap.size w w5) := bsplit HB4a.out hb5
  obtain ⟨gq, cq, hq⟩ := oq.shape
  simp only [List.length_cons, List.length_nil] at hq
  subst hq
  have HP5 : Hid (Rd w5 (.slice (some ⟨gp, 0, none⟩) 18 cp) [0, 10, 1, 97, 97, 2, 1, 0, 0, 0, 0, 0, 0, 120, 0, 0, 1, 0]) := Rd.below HP4a.out hb5 (Nat.le_refl _)
  have hcq : 31 ≤ cq ∧ cq ≤ maxLen := by
    obtain ⟨g', k', c', e, _, _, h1, h2, _⟩ := oq
    simp only [Value.slice.injEq] at e
    obtain ⟨_, _, rfl⟩ := e
    exact ⟨h1, h2⟩
  have HQ5 : Hid (Rd w5 (.slice (some ⟨gq, 14, none⟩) 4 (cq - 14)) [1, 9, 1, 98]) := by
    have h9 := rd_sub (Own.spots oq) 14 4 (cq - 14) (by omega) (by omega) (by simp)
    exact h9
  have hcI : (18 : Int) ≤ (cq : Int) := by omega
  have hcN : ¬ cq = 14 := by omega
  have hcN2 : ¬ (cq : Int) = 14 := by omega
  have hb6 := below_box4 w5 (.cells #[.int .u8 0, .int .u8 10, .int .u8 1, .int .u8 97, .int .u8 97, .int .u8 2, .int .u8 1, .int .u8 0, .int .u8 0, .int .u8 0, .int .u8 0, .int .u8 0, .int .u8 0, .int .u8 120, .int .u8 0, .int .u8 0, .int .u8 1, .int .u8 0] 5)
  have hs1 := same_b _ _ _ [0, 10, 1, 97, 97, 2, 1, 0, 0, 0, 0, 0, 0, 120, 0, 0, 1, 0] [0, 10, 1, 97, 97, 2, 1, 0, 0, 0, 0, 0, 0, 120, 0, 0, 1, 0] true (Rd.below HP5.out hb6 (Nat.le_refl _)) (rd_lit w5 [0, 10, 1, 97, 97, 2, 1, 0, 0, 0, 0, 0, 0, 120, 0, 0, 1, 0] (by decide) _ rfl) (by simp)
  have HB6 : Hid _ := bsplit HB5.out hb6
  have HQ6 : Hid (Rd _ (.slice (some ⟨gq, 14, none⟩) 4 (cq - 14)) [1, 9, 1, 98]) := Rd.below HQ5.out hb6 (Nat.le_refl _)
  clear hbu2 hb5 oq hb6 hcq
  go_wp2_with fail
  refine hs1.mono ?_
  rintro e w6 ⟨rfl, hw6⟩
  rw [← hw6] at HB6 HQ6
  have hb7 := below_box4 w6 (.cells #[.int .u8 1, .int .u8 9, .int .u8 1, .int .u8 98] 5)
  have hs2 := same_b _ _ _ [1, 9, 1, 98] [1, 9, 1, 98] true (Rd.below HQ6.out hb7 (Nat.le_refl _)) (rd_lit w6 [1, 9, 1, 98] (by decide) _ rfl) (by simp)
  have HB7 : Hid _ := bsplit HB6.out hb7
  clear hs1 hw6 hb7
  go_wp2_with fail
  refine hs2.mono ?_
  rintro e w7 ⟨rfl, hw7⟩
  rw [← hw7] at HB7
  clear hs2 hw7
  go_wp2
  go_ret
  exact ⟨rfl, HB7.out⟩

end Go.Proofs.Ytbmpnafbmgcniaa

/- bartizanref12.Sort, as plain lists. -/
namespace Go.Proofs.Ytbmpnafbmgcniaa
set_option maxRecDepth 20000
open Go.RowKit
set_option linter.unusedVariables false

def ltE (x e : EnB) : Bool := decide (cmpE x e < 0)
def sameE (x e : EnB) : Bool := decide (x.1 = e.1 ∧ (x.2.1 : Int) = (e.2.1 : Int) ∧ (x.2.2.1.toNat : Int) = (e.2.2.1.toNat : Int))
def cntE (out : List EnB) (e : EnB) : Nat := out.countP (fun x => ltE x e)
def anyE (out : List EnB) (e : EnB) : Bool := out.any (fun x => sameE x e)
def insE (out : List EnB) (e : EnB) : List EnB := if anyE out e = false ∧ chkEn e = 0 then out.take (cntE out e) ++ e :: out.drop (cntE out e) else out
def sortTo (es : List EnB) : Nat → List EnB
  | 0 => []
  | j + 1 => match es[j]? with | some e => insE (sortTo es j) e | none => sortTo es j
def sortE (es : List EnB) : List EnB := sortTo es es.length

theorem sortTo_at {es : List EnB} {j : Nat} (h : j < es.length) : sortTo es (j + 1) = insE (sortTo es j) es[j] := by
  rw [sortTo, List.getElem?_eq_getElem h]

theorem cntE_le (out : List EnB) (e : EnB) : cntE out e ≤ out.length := List.countP_le_length

theorem cntE_take {out : List EnB} {e : EnB} {i : Nat} (h : i < out.length) : cntE (out.take (i + 1)) e = cntE (out.take i) e + (if ltE out[i] e = true then 1 else 0) := by
  unfold cntE
  rw [List.take_succ_eq_append_getElem h, List.countP_append, List.countP_singleton]

theorem anyE_take {out : List EnB} {e : EnB} {i : Nat} (h : i < out.length) : anyE (out.take (i + 1)) e = (anyE (out.take i) e || sameE out[i] e) := by
  unfold anyE
  rw [List.take_succ_eq_append_getElem h, List.any_append, List.any_cons, List.any_nil, Bool.or_false]

theorem sameE_iff {x e : EnB} : sameE x e = true ↔ cmpE x e = 0 := by
  unfold sameE cmpE
  rw [decide_eq_true_eq, Mth.cmpK_zero]

theorem cmpE_trans {a b c : EnB} (h1 : cmpE a b < 0) (h2 : cmpE b c < 0) : cmpE a c < 0 := by
  have h3 : cmpE a c ≤ 0 := by unfold cmpE at h1 h2 ⊢; exact Mth.cmpK_trans (Int.le_of_lt h1) (Int.le_of_lt h2)
  by_cases h0 : cmpE a c = 0
  · exfalso
    obtain ⟨e1, e2, e3⟩ := Mth.cmpK_zero.1 h0
    have h4 : cmpE b c = cmpE b a := by unfold cmpE; rw [e1, e2, e3]
    have h5 := Mth.cmpK_neg a.1 (a.2.1 : Int) (a.2.2.1.toNat : Int) b.1 (b.2.1 : Int) (b.2.2.1.toNat : Int)
    unfold cmpE at h1 h2 h4
    omega
  · omega

theorem riseB_cons {a : EnB} {r : List EnB} : riseB (a :: r) = true ↔ (∀ h : 0 < r.length, cmpE a r[0] < 0) ∧ riseB r = true := by
  cases r with
  | nil => simp [riseB]
  | cons b r => simp [riseB]

theorem rise_all : ∀ {a : EnB} {r : List EnB}, riseB (a :: r) = true → ∀ y ∈ r, cmpE a y < 0
  | a, [], _, y, hy => by simp at hy
  | a, b :: r, h, y, hy => by
    rw [riseB, Bool.and_eq_true, decide_eq_true_eq] at h
    rcases List.mem_cons.1 hy with rfl | hy
    · exact h.1
    · exact cmpE_trans h.1 (rise_all h.2 y hy)

theorem ins_rises : ∀ (out : List EnB) (e : EnB), riseB out = true → anyE out e = false → riseB (out.take (cntE out e) ++ e :: out.drop (cntE out e)) = true
  | [], e, _, _ => by simp [cntE, riseB]
  | x :: r, e, h, hn => by
    have hn2 : sameE x e = false ∧ anyE r e = false := by unfold anyE at hn ⊢; simpa using hn
    obtain ⟨h1, h2⟩ := riseB_cons.1 h
    by_cases hx : ltE x e = true
    · have hc : cntE (x :: r) e = cntE r e + 1 := by unfold cntE; rw [List.countP_cons, if_pos hx]
      rw [hc, List.take_succ_cons, List.drop_succ_cons, List.cons_append, riseB_cons]
      refine ⟨fun h0 => ?_, ins_rises r e h2 hn2.2⟩
      by_cases hz : cntE r e = 0
      · simp only [hz, List.take_zero, List.nil_append, List.getElem_cons_zero]
        exact of_decide_eq_true hx
      · have hr : 0 < r.length := by have := cntE_le r e; omega
        rw [List.getElem_append_left (by rw [List.length_take]; omega), List.getElem_take]
        exact h1 hr
    · have hx' : ltE x e = false := by simpa using hx
      have hc : cntE (x :: r) e = 0 := by
        unfold cntE
        rw [List.countP_eq_zero]
        intro y hy
        rcases List.mem_cons.1 hy with rfl | hy
        · simpa using hx'
        · have h3 := rise_all h y hy
          intro h4
          exact hx (decide_eq_true (cmpE_trans h3 (of_decide_eq_true h4)))
      rw [hc, List.take_zero, List.drop_zero, List.nil_append, riseB_cons]
      refine ⟨fun _ => ?_, h⟩
      have h5 := Mth.cmpK_neg x.1 (x.2.1 : Int) (x.2.2.1.toNat : Int) e.1 (e.2.1 : Int) (e.2.2.1.toNat : Int)
      have h6 : ¬ cmpE x e < 0 := of_decide_eq_false hx'
      have h7 : ¬ cmpE x e = 0 := fun h => by rw [sameE_iff.2 h] at hn2; exact absurd hn2.1 (by simp)
      simp only [List.getElem_cons_zero]
      unfold cmpE at h6 h7 ⊢
      omega

theorem sortTo_ok (es : List EnB) : ∀ j, (sortTo es j).length ≤ j ∧ (∀ e ∈ sortTo es j, chkEn e = 0) ∧ riseB (sortTo es j) = true
  | 0 => by simp [sortTo, riseB]
  | j + 1 => by
    obtain ⟨h1, h2, h3⟩ := sortTo_ok es j
    by_cases hj : j < es.length
    · rw [sortTo_at hj]
      unfold insE
      split
      · rename_i hc
        refine ⟨?_, fun e he => ?_, ins_rises _ _ h3 hc.1⟩
        · have := cntE_le (sortTo es j) es[j]
          rw [List.length_append, List.length_cons, List.length_take, List.length_drop]
          omega
        · rcases List.mem_append.1 he with h | h
          · exact h2 e (List.mem_of_mem_take h)
          · rcases List.mem_cons.1 h with rfl | h
            · exact hc.2
            · exact h2 e (List.mem_of_mem_drop h)
      · exact ⟨by omega, h2, h3⟩
    · rw [sortTo, List.getElem?_eq_none (by omega)]
      exact ⟨by simp only; omega, h2, h3⟩

theorem sortE_ok {es : List EnB} (h : es.length ≤ 64) : chkLf (sortE es) = 0 := by
  obtain ⟨h1, h2, h3⟩ := sortTo_ok es es.length
  exact chkLf_ok.2 ⟨by unfold sortE; omega, h2, h3⟩

end Go.Proofs.Ytbmpnafbmgcniaa

/- append of a row, nil or empty or not, to a row of one's own that is not nil: as a step of a region that draws its order. -/
namespace Go.Proofs.Ytbmpnafbmgcniaa
set_option maxRecDepth 20000
open Go.RowKit
set_option linter.unusedVariables false

theorem grown_refl (w : World) (row : Option Nat) : w.grownBy w row := ⟨rfl, rfl, rfl, Nat.le_refl _, fun _ _ _ => rfl⟩

/-- what is appended: m elements, the cells news -/
def SrcOf (w : World) (size : Nat) (vx : Value) (m : Nat) (news : List Value) : Prop := (vx = .slice none 0 0 ∧ m = 0 ∧ news = []) ∨ ∃ ad c, vx = .slice (some ad) m c ∧ news.length = m * size ∧ ∀ j u, news[j]? = some u → w.cell? (ad.add j) = some u

theorem step_append_src {P : Program} {w : World} {ops : Array Oper} {o : Oper} {a : Act} {K : Act → World → Prop} {Q : Exit → Act → World → Prop} {E : Prop} (hgd : o.guard = none) (s x : Operand) (t : TypeId)
    (ho : o.op = .call { callee := .builtin .append, args := #[s, x], argTypes := #[t, t] })
    (base : Nat) (e : TypeId) (i : TypeInfo) (z : Value) (size bytes : Nat) (ht : P.underlying t = some (.slice e)) (hi : P.info? e = some i) (hz : i.zero = some z)
    (hsize : i.size = size) (hby : i.bytes = bytes) (hzs : z.cells.size = size) (hsz : 0 < size)
    (g0 n c0 : Nat) (xs : List Value) (hs : a.eval s = .slice (some ⟨g0, 0, none⟩) n c0) (hown : w.ownsRow base e size (.slice (some ⟨g0, 0, none⟩) n c0) n xs)
    (vx : Value) (hx : a.eval x = vx) (m : Nat) (news : List Value) (hsrc : SrcOf w size vx m news) (h1 : ∀ u ∈ news, u.oneCell' = true)
    (h63 : n + m ≤ maxLen) (hbytes : (n + m) * bytes ≤ 140737488355328) (hbase : base ≤ w.heap.size) (H : Nat) (hH : w.heap.size = H) (N : Nat) (hN : n + m = N)
    (h : ∀ g c w', w'.ownsRow base e size (.slice (some ⟨g, 0, none⟩) N c) N (xs ++ news) → w.grownBy w' (some g0) → (g0 = g ∨ g = H) → K (a.put o.dst (.slice (some ⟨g, 0, none⟩) N c)) w') :
    if Region.wanted o (yielded ops a.tmps) = true then Oper.wp P o a w K Q else E := by
  subst hN
  have hw : Region.wanted o (yielded ops a.tmps) = true := by simp [Region.wanted, hgd]
  by_cases hm : m = 0
  · subst hm
    have hnn : news = [] := by
      rcases hsrc with ⟨_, _, h⟩ | ⟨ad, c, _, hl, _⟩
      · exact h
      · exact List.eq_nil_of_length_eq_zero (by omega)
    subst hnn
    have hsr : Src P i.size t vx 0 [] w := by
      rcases hsrc with ⟨rfl, _, _⟩ | ⟨ad, c, rfl, hl, hnews⟩
      · exact Src.ofNil w ht 0
      · exact Src.ofSlice w ht ad 0 c [] (by simp) hnews h1
    have hcap : n ≤ c0 := by
      rcases hown.2 with ⟨e', _⟩ | ⟨g, cap, cur, e', _, _, h1, _⟩
      · cases e'
      · cases e'; exact h1
    have hrun := run_append_room_src w t t o.type e i ht hi g0 0 n c0 vx 0 [] hsr (by omega) (fun j hj => absurd hj (by simp)) (fun j hj => absurd hj (by simp))
    rw [if_pos hw]
    unfold Oper.wp
    simp [execOp, ho, resolve, invoke, builtin, hs, hx, hrun, Result.andThen]
    have hsc : w.setCells g0 (0 + n * i.size) [] = w := by simp [World.setCells]
    rw [Nat.zero_add] at hsc
    rw [hsc]
    exact h g0 c0 w (by simpa using hown) (grown_refl w _) (.inl rfl)
  · rcases hsrc with ⟨_, h0, _⟩ | ⟨ad, c, rfl, hl, hnews⟩
    · exact absurd h0 hm
    · exact step_append_lies w hgd s x t ho base e i z size bytes ht hi hz hsize hby hzs hsz _ n xs hs hown ad m c news hx hl hnews h1 (by omega) h63 hbytes hbase H hH (fun g c w' h2 h3 h4 h5 => h g c w' h2 h3 (by
        rcases h4 with h4 | h4
        · simp only [Value.ownBlock, Option.some.injEq] at h4; exact .inl h4
        · exact .inr h4))

theorem row_mono {B C : Nat} {w : World} {e : TypeId} {s n : Nat} {v : Value} {cs : List Value} (h : w.ownsRow B e s v n cs) (hC : C ≤ B) : w.ownsRow C e s v n cs := by
  refine ⟨h.1, ?_⟩
  rcases h.2 with hr | ⟨g, cap, cur, e, hb, hg⟩
  · exact .inl hr
  · exact .inr ⟨g, cap, cur, e, Nat.le_trans hC hb, hg⟩

end Go.Proofs.Ytbmpnafbmgcniaa

/- bartizanref12.Sort. -/
namespace Go.Proofs.Ytbmpnafbmgcniaa
set_option maxRecDepth 20000
open Go.RowKit
set_option linter.unusedVariables false

/-- the cells of entries whose texts are read in w -/
def Cells4 (w : World) (cs : List Value) (es : List EnB) : Prop :=
  cs.length = es.length * 4 ∧ ∀ j (h : j < es.length), ∃ x y, cs[j * 4]? = some x ∧ cs[j * 4 + 1]? = some (.int .u64 (es[j].2.1 : Int)) ∧ cs[j * 4 + 2]? = some (.int .u8 (es[j].2.2.1.toNat : Int)) ∧ cs[j * 4 + 3]? = some y ∧ Rd w x es[j].1 ∧ Rd w y es[j].2.2.2

theorem Cells4.nil (w : World) : Cells4 w [] [] := ⟨rfl, fun j h => absurd h (Nat.not_lt_zero _)⟩

theorem Cells4.append {w : World} {cs ds : List Value} {es fs : List EnB} (h : Cells4 w cs es) (h2 : Cells4 w ds fs) : Cells4 w (cs ++ ds) (es ++ fs) := by
  obtain ⟨hl, hj⟩ := h
  obtain ⟨hl2, hj2⟩ := h2
  refine ⟨by rw [List.length_append, List.length_append, hl, hl2]; omega, fun j hjl => ?_⟩
  by_cases hh : j < es.length
  · obtain ⟨x, y, c0, c1, c2, c3, rx, ry⟩ := hj j hh
    refine ⟨x, y, ?_, ?_, ?_, ?_, ?_, ?_⟩
    · rw [List.getElem?_append_left (by omega)]; exact c0
    · rw [List.getElem?_append_left (by omega), List.getElem_append_left hh]; exact c1
    · rw [List.getElem?_append_left (by omega), List.getElem_append_left hh]; exact c2
    · rw [List.getElem?_append_left (by omega)]; exact c3
    · rw [List.getElem_append_left hh]; exact rx
    · rw [List.getElem_append_left hh]; exact ry
  · have hk : j - es.length < fs.length := by rw [List.length_append] at hjl; omega
    obtain ⟨x, y, c0, c1, c2, c3, rx, ry⟩ := hj2 (j - es.length) hk
    refine ⟨x, y, ?_, ?_, ?_, ?_, ?_, ?_⟩
    · rw [List.getElem?_append_right (by omega), show j * 4 - cs.length = (j - es.length) * 4 by omega]; exact c0
    · rw [List.getElem?_append_right (by omega), List.getElem_append_right (by omega), show j * 4 + 1 - cs.length = (j - es.length) * 4 + 1 by omega]; exact c1
    · rw [List.getElem?_append_right (by omega), List.getElem_append_right (by omega), show j * 4 + 2 - cs.length = (j - es.length) * 4 + 2 by omega]; exact c2
    · rw [List.getElem?_append_right (by omega), show j * 4 + 3 - cs.length = (j - es.length) * 4 + 3 by omega]; exact c3
    · rw [List.getElem_append_right (by omega)]; exact rx
    · rw [List.getElem_append_right (by omega)]; exact ry

theorem Cells4.take {w : World} {cs : List Value} {es : List EnB} (h : Cells4 w cs es) (k : Nat) (hk : k ≤ es.length) : Cells4 w (cs.take (k * 4)) (es.take k) := by
  obtain ⟨hl, hj⟩ := h
  have htl : (es.take k).length = k := by rw [List.length_take]; omega
  refine ⟨by rw [List.length_take, htl]; omega, fun j hjl => ?_⟩
  rw [htl] at hjl
  obtain ⟨x, y, c0, c1, c2, c3, rx, ry⟩ := hj j (by omega)
  refine ⟨x, y, ?_, ?_, ?_, ?_, ?_, ?_⟩
  · rw [List.getElem?_take_of_lt (by omega)]; exact c0
  · rw [List.getElem?_take_of_lt (by omega), List.getElem_take]; exact c1
  · rw [List.getElem?_take_of_lt (by omega), List.getElem_take]; exact c2
  · rw [List.getElem?_take_of_lt (by omega)]; exact c3
  · rw [List.getElem_take]; exact rx
  · rw [List.getElem_take]; exact ry

theorem Cells4.drop {w : World} {cs : List Value} {es : List EnB} (h : Cells4 w cs es) (k : Nat) (hk : k ≤ es.length) : Cells4 w (cs.drop (k * 4)) (es.drop k) := by
  obtain ⟨hl, hj⟩ := h
  refine ⟨by rw [List.length_drop, List.length_drop]; omega, fun j hjl => ?_⟩
  rw [List.length_drop] at hjl
  obtain ⟨x, y, c0, c1, c2, c3, rx, ry⟩ := hj (k + j) (by omega)
  refine ⟨x, y, ?_, ?_, ?_, ?_, ?_, ?_⟩
  · rw [List.getElem?_drop, show k * 4 + j * 4 = (k + j) * 4 by omega]; exact c0
  · rw [List.getElem?_drop, List.getElem_drop, show k * 4 + (j * 4 + 1) = (k + j) * 4 + 1 by omega]; exact c1
  · rw [List.getElem?_drop, List.getElem_drop, show k * 4 + (j * 4 + 2) = (k + j) * 4 + 2 by omega]; exact c2
  · rw [List.getElem?_drop, show k * 4 + (j * 4 + 3) = (k + j) * 4 + 3 by omega]; exact c3
  · rw [List.getElem_drop]; exact rx
  · rw [List.getElem_drop]; exact ry

theorem Cells4.one {w : World} {x y : Value} (e : EnB) (hx : Rd w x e.1) (hy : Rd w y e.2.2.2) : Cells4 w [x, .int .u64 (e.2.1 : Int), .int .u8 (e.2.2.1.toNat : Int), y] [e] :=
  ⟨rfl, fun j h => by
    obtain rfl : j = 0 := by simp at h; exact h
    exact ⟨x, y, rfl, rfl, rfl, rfl, hx, hy⟩⟩

theorem rd_one4 {w : World} {v : Value} {l : List UInt8} (h : Rd w v l) : v.oneCell' = true := by
  obtain ⟨a, c, rfl⟩ := h.len; rfl

theorem Cells4.ones {w : World} {cs : List Value} {es : List EnB} (h : Cells4 w cs es) : ∀ u ∈ cs, u.oneCell' = true := by
  intro u hu
  obtain ⟨i, hi, rfl⟩ := List.getElem_of_mem hu
  have hj : i / 4 < es.length := by have := h.1; omega
  obtain ⟨x, y, c0, c1, c2, c3, rx, ry⟩ := h.2 (i / 4) hj
  have h4 : i % 4 = 0 ∨ i % 4 = 1 ∨ i % 4 = 2 ∨ i % 4 = 3 := by omega
  have hg := List.getElem?_eq_getElem hi
  rcases h4 with h | h | h | h
  · rw [show i / 4 * 4 = i by omega, hg] at c0; rw [Option.some.inj c0]; exact rd_one4 rx
  · rw [show i / 4 * 4 + 1 = i by omega, hg] at c1; rw [Option.some.inj c1]; rfl
  · rw [show i / 4 * 4 + 2 = i by omega, hg] at c2; rw [Option.some.inj c2]; rfl
  · rw [show i / 4 * 4 + 3 = i by omega, hg] at c3; rw [Option.some.inj c3]; exact rd_one4 ry

/-- entries in a row of one's own; their texts are read in w -/
def RowE (w wr : World) (v : Value) (es : List EnB) : Prop := ∃ cs, wr.ownsRow w.heap.size 45 4 v es.length cs ∧ Cells4 w cs es

theorem RowE.below {w wr w2 : World} {v : Value} {es : List EnB} (h : RowE w wr v es) (hb : Below wr.heap.size wr w2) : RowE w w2 v es := by
  obtain ⟨cs, hr, hc⟩ := h
  exact ⟨cs, row_below hr hb, hc⟩

theorem RowE.nil (w wr : World) : RowE w wr (.slice none 0 0) [] := ⟨[], World.ownsRow_nil _ _ _ _, Cells4.nil w⟩

theorem RowE.rd {w wr : World} {v : Value} {es : List EnB} (h : RowE w wr v es) (hb : Below w.heap.size w wr) : RdE wr v es := by
  obtain ⟨cs, hr, hj⟩ := h
  have hr2 := hr
  rcases hr.2 with ⟨e, hn⟩ | ⟨g, cap, cur, e, hb', hg, h1, h2, h3, h4⟩
  · exact ⟨none, 0, by rw [e, hn], by omega, Nat.zero_le _, fun j hj => by omega⟩
  · subst e
    refine ⟨_, cap, rfl, h1, h2, fun j h => ⟨g, 0, rfl, ?_⟩⟩
    obtain ⟨x, y, c0, c1, c2, c3, ox, oy⟩ := hj.2 j h
    have hc := hr2.cells (g := g) rfl
    refine ⟨x, y, ?_, ?_, ?_, ?_, ox.below hb (Nat.le_refl _), oy.below hb (Nat.le_refl _)⟩
    · have := hc _ _ c0; rwa [Addr.add_lit] at this
    · have := hc _ _ c1; rwa [Addr.add_lit] at this
    · have := hc _ _ c2; rwa [Addr.add_lit] at this
    · have := hc _ _ c3; rwa [Addr.add_lit] at this

theorem RowE.lt {w wr : World} {v : Value} {es : List EnB} (h : RowE w wr v es) : ∀ q, v.ownBlock = some q → w.heap.size ≤ q ∧ q < wr.heap.size := by
  obtain ⟨cs, hr, _⟩ := h
  exact fun q hq => hr.lt q hq

/-- v is the row's value: nil, or a block of its own -/
theorem RowE.shape {w wr : World} {v : Value} {es : List EnB} (h : RowE w wr v es) : (v = .slice none 0 0 ∧ es = []) ∨ ∃ g c, v = .slice (some ⟨g, 0, none⟩) es.length c ∧ es.length ≤ c ∧ c ≤ 9223372036854775807 := by
  obtain ⟨cs, hr, _⟩ := h
  rcases hr.2 with ⟨e, hn⟩ | ⟨g, cap, cur, e, hb', hg, h1, h2, h3, h4⟩
  · exact .inl ⟨e, List.eq_nil_of_length_eq_zero hn⟩
  · exact .inr ⟨g, cap, e, h1, by unfold maxLen at h2; omega⟩

set_option maxHeartbeats 8000000 in
theorem sort_any (w : World) (v : Value) (es : List EnB) (hv : RdE w v es) (hn : es.length ≤ 1000) :
    Calls Try.prog 11 #[v] w fun e w' => ∃ x, e = .returned x ∧ RowE w w' x (sortE es) ∧ Below w.heap.size w w' := by
  obtain ⟨i0, hi, hz0, hz1, hz2⟩ := info_parts infoEn
  have HV : Hid (RdE w v es) := hv
  obtain ⟨ao, cap, rfl, h1, h2, _⟩ := hv
  unfold maxLen at h2
  obtain ⟨N, hN⟩ : ∃ N, es.length = N := ⟨_, rfl⟩
  rw [hN] at h1 HV hn ⊢
  have HN : Hid (es.length = N) := hN
  clear hN
  go_enter Try.func11, Try.ntmps11
  go_wp2_with fail
  go_loopg [3, 12] N (fun gk pv iv wr => ∃ (j n' c' : Nat) (a' : Option Addr), gk + j = N ∧ iv = .int .i64 (j : Int) ∧ pv = .slice a' n' c' ∧ Hid (RowE w wr pv (sortTo es j)) ∧ Hid (Below w.heap.size w wr))
  case atStart => exact ⟨0, 0, 0, none, by omega, rfl, rfl, RowE.nil _ _, Below.refl _ _⟩
  case round =>
    obtain ⟨j, n', c', a', hj, rfl, rfl, HO, HB⟩ := hrel
    by_cases hlt : j < N
    · have hlt2 : j < es.length := by rw [HN.out]; exact hlt
      obtain ⟨_, _, e, _, _, h3⟩ := HV.out
      rw [HN.out] at e
      cases e
      obtain ⟨b, off, rfl, xv, yv, d0', d1', d2', d3', rx, ry⟩ := h3 j hlt2
      have hbl := World.block_lt_of_cell? w _ d0'
      have d0 := (HB.out.cell (p := ⟨b, off + j * 4, none⟩) hbl).trans d0'
      have d1 := (HB.out.cell (p := ⟨b, off + j * 4 + 1, none⟩) hbl).trans d1'
      have d2 := (HB.out.cell (p := ⟨b, off + j * 4 + 2, none⟩) hbl).trans d2'
      have d3 := (HB.out.cell (p := ⟨b, off + j * 4 + 3, none⟩) hbl).trans d3'
      clear d0' d1' d2' d3' hbl
      obtain ⟨x1, x2, ex⟩ := rx.len
      obtain ⟨y1, y2, ey⟩ := ry.len
      subst ex ey
      obtain ⟨q1, q2⟩ := gk_nxt hj hlt
      have hst := sortTo_at hlt2
      obtain ⟨E, ho⟩ : ∃ o, es[j] = o := ⟨_, rfl⟩
      rw [ho] at d0 d1 d2 d3 rx ry hst
      obtain ⟨nl, hnlq⟩ : ∃ nl, E.1.length = nl := ⟨_, rfl⟩
      obtain ⟨oln, holn⟩ : ∃ oln, E.2.2.2.length = oln := ⟨_, rfl⟩
      obtain ⟨sq, hsq⟩ : ∃ z : Int, (E.2.1 : Int) = z := ⟨_, rfl⟩
      obtain ⟨kk, hkk⟩ : ∃ z : Int, (E.2.2.1.toNat : Int) = z := ⟨_, rfl⟩
      rw [hnlq] at d0 rx
      rw [holn] at d3 ry
      rw [hsq] at d1
      rw [hkk] at d2
      have HST : Hid (sortTo es (j + 1) = insE (sortTo es j) E) := hst
      have HE : Hid ((E.1.length = nl ∧ E.2.2.2.length = oln) ∧ (E.2.1 : Int) = sq ∧ (E.2.2.1.toNat : Int) = kk) := ⟨⟨hnlq, holn⟩, hsq, hkk⟩
      have HRX : Hid (Rd w (.slice x1 nl x2) E.1 ∧ Rd w (.slice y1 oln y2) E.2.2.2) := ⟨rx, ry⟩
      obtain ⟨OUT, hOUT⟩ : ∃ O, sortTo es j = O := ⟨_, rfl⟩
      rw [hOUT] at HO HST
      have HOL : Hid (OUT.length ≤ 1000) := by show _ ≤ _; rw [← hOUT]; have := (sortTo_ok es j).1; omega
      have HNP : Hid (OUT.length = n') := by
        show _ = _
        rcases HO.out.shape with ⟨e, h⟩ | ⟨g, c, e, _⟩
        · cases e; rw [h]; rfl
        · cases e; rfl
      have hb0 := below_box4 wr (.cells #[.slice x1 nl x2, .int .u64 sq, .int .u8 kk, .slice y1 oln y2] 45)
      have BX := box4_new wr (.slice x1 nl x2) (.int .u64 sq) (.int .u8 kk) (.slice y1 oln y2) 45
      have HO0 : Hid (RowE w (wr.alloc (.cells #[.slice x1 nl x2, .int .u64 sq, .int .u8 kk, .slice y1 oln y2] 45)) (.slice a' n' c') OUT) := HO.out.below hb0
      have HB0 : Hid (Below w.heap.size w (wr.alloc (.cells #[.slice x1 nl x2, .int .u64 sq, .int .u8 kk, .slice y1 oln y2] 45))) := bsplit HB.out hb0
      have hnI : n' ≤ 1000 := by rw [← HNP.out]; exact HOL.out
      clear ho h3 rx ry hnlq holn hkk hsq hb0 hst hOUT HO HB
      have BX' := BX
      obtain ⟨z0, z1, z2, z3⟩ := BX'
      go_wp2_with fail
      obtain ⟨wb, hwb⟩ : ∃ wb, wr.alloc (.cells #[.slice x1 nl x2, .int .u64 sq, .int .u8 kk, .slice y1 oln y2] 45) = wb := ⟨_, rfl⟩
      obtain ⟨bx, hbx⟩ : ∃ bx, wr.heap.size = bx := ⟨_, rfl⟩
      rw [hwb, hbx]
      rw [hwb] at HO0 HB0
      rw [hwb, hbx] at BX
      have HBXL : Hid (bx < wb.heap.size) := BX.lt
      clear z0 z1 z2 z3 hwb hbx
      obtain ⟨G, hG⟩ : ∃ G, G = gk := ⟨_, rfl⟩
      subst hG
      clear HV
      go_loopg [6, 7, 18] n' (fun gk kv tv iv wr => ∃ (i k : Nat) (tw : Bool), gk + i = n' ∧ k ≤ i ∧ iv = .int .i64 (i : Int) ∧ kv = .int .i64 (k : Int) ∧ tv = .bool tw ∧ Hid (k = cntE (OUT.take i) E ∧ tw = anyE (OUT.take i) E) ∧ Hid (Below wb.heap.size wb wr))
      case atStart => exact ⟨0, 0, false, by omega, Nat.le_refl _, rfl, rfl, rfl, ⟨rfl, rfl⟩, Below.refl _ _⟩
      case round =>
        obtain ⟨i, k, tw, hi2, hki, rfl, rfl, rfl, HK, HBI⟩ := hrel
        by_cases hlti : i < n'
        · have l2 : i < OUT.length := by rw [HNP.out]; exact hlti
          obtain ⟨_, _, e, _, _, h4⟩ := rdE_below (HO0.out.rd HB0.out) HBI.out (Nat.le_refl _)
          rw [HNP.out] at e
          cases e
          obtain ⟨p, o, rfl, xv, yv, e0, e1, e2, e3, rx, ry⟩ := h4 i l2
          obtain ⟨u1, u2, ex⟩ := rx.len
          obtain ⟨u3, u4, ey⟩ := ry.len
          subst ex ey
          obtain ⟨q3, q4⟩ := gk_nxt hi2 hlti
          have hct := cntE_take (e := E) l2
          have hat := anyE_take (e := E) l2
          obtain ⟨X, hX⟩ : ∃ o, OUT[i] = o := ⟨_, rfl⟩
          rw [hX] at e0 e1 e2 e3 rx hct hat
          obtain ⟨m1, hm1⟩ : ∃ nl, X.1.length = nl := ⟨_, rfl⟩
          obtain ⟨m2, hm2⟩ : ∃ oln, X.2.2.2.length = oln := ⟨_, rfl⟩
          obtain ⟨sx, hsx⟩ : ∃ z : Int, (X.2.1 : Int) = z := ⟨_, rfl⟩
          obtain ⟨kx, hkx⟩ : ∃ z : Int, (X.2.2.1.toNat : Int) = z := ⟨_, rfl⟩
          rw [hm1] at e0 rx
          rw [hm2] at e3
          rw [hsx] at e1
          rw [hkx] at e2
          obtain ⟨lt, hltq⟩ : ∃ q, ltE X E = q := ⟨_, rfl⟩
          obtain ⟨sm, hsmq⟩ : ∃ q, sameE X E = q := ⟨_, rfl⟩
          have HLT : Hid (decide (Mth.cmpK X.1 sx kx E.1 sq kk < 0) = lt) := by show _ = _; rw [← hltq, ← hsx, ← hkx, ← HE.out.2.1, ← HE.out.2.2]; rfl
          have HSM : Hid (decide (X.1 = E.1 ∧ sx = sq ∧ kx = kk) = sm) := by show _ = _; rw [← hsmq, ← hsx, ← hkx, ← HE.out.2.1, ← HE.out.2.2]; rfl
          rw [hltq] at hct
          rw [hsmq] at hat
          have HCT : Hid (cntE (OUT.take (i + 1)) E = k + (if lt = true then 1 else 0) ∧ anyE (OUT.take (i + 1)) E = (tw || sm)) := by
            refine ⟨?_, ?_⟩
            · rw [hct, ← HK.out.1]
            · rw [hat, ← HK.out.2]
          have hb5 := below_box4 wr (.cells #[.slice u1 m1 u2, .int .u64 sx, .int .u8 kx, .slice u3 m2 u4] 45)
          have BY := box4_new wr (.slice u1 m1 u2) (.int .u64 sx) (.int .u8 kx) (.slice u3 m2 u4) 45
          have HB5 : Hid (Below wb.heap.size wb (wr.alloc (.cells #[.slice u1 m1 u2, .int .u64 sx, .int .u8 kx, .slice u3 m2 u4] 45))) := bsplit HBI.out hb5
          have HBW : Hid (Below w.heap.size w (wr.alloc (.cells #[.slice u1 m1 u2, .int .u64 sx, .int .u8 kx, .slice u3 m2 u4] 45))) := bsplit HB0.out HB5.out
          have hls := keyless_any (wr.alloc (.cells #[.slice u1 m1 u2, .int .u64 sx, .int .u8 kx, .slice u3 m2 u4] 45)) _ _ X.1 E.1 sx kx sq kk lt (rx.below hb5 (Nat.le_refl _)) (HRX.out.1.below HBW.out (Nat.le_refl _)) HLT.out
          have HRX2 : Hid (Rd (wr.alloc (.cells #[.slice u1 m1 u2, .int .u64 sx, .int .u8 kx, .slice u3 m2 u4] 45)) (.slice u1 m1 u2) X.1) := rx.below hb5 (Nat.le_refl _)
          have BXR := BX.below HBI.out (Nat.le_refl _)
          have BX5 := BX.below HB5.out (Nat.le_refl _)
          have BX5' := BX5
          have BY' := BY
          obtain ⟨z0, z1, z2, z3⟩ := BX5'
          obtain ⟨y0, y1', y2', y3⟩ := BY'
          have hkI : (k : Int) ≤ 1000 := by omega
          clear h4 rx ry hX hm1 hm2 hsx hkx hltq hsmq hct hat hb5
          go_wp2_with fail
          refine hls.mono ?_
          rintro e w6 ⟨rfl, hb6⟩
          clear z0 z1 z2 z3 y0 y1' y2' y3
          have HB6 : Hid (Below wb.heap.size wb w6) := bsplit HB5.out hb6
          have HBW6 : Hid (Below w.heap.size w w6) := bsplit HBW.out hb6
          have BX6 := BX5.below hb6 (Nat.le_refl _)
          have BY6 := BY.below hb6 (Nat.le_refl _)
          have hss := keysame_any w6 _ _ X.1 E.1 sx kx sq kk sm (HRX2.out.below hb6 (Nat.le_refl _)) (HRX.out.1.below HBW6.out (Nat.le_refl _)) HSM.out
          clear hls hb6 BX5 BY BXR
          obtain ⟨z0, z1, z2, z3⟩ := BX6
          obtain ⟨y0, y1', y2', y3⟩ := BY6
          cases lt with
          | true =>
            cases tw with
            | true =>
              go_wp2_with fail
              go_roundg (gk - 1)
              case measure => exact q3
              case rel => exact ⟨i + 1, k + 1, true, q4, by omega, by go_num, by go_num, rfl, ⟨by rw [HCT.out.1]; rfl, by rw [HCT.out.2]; rfl⟩, HB6⟩
            | false =>
              go_wp2_with fail
              refine hss.mono ?_
              rintro e w7 ⟨rfl, hb7⟩
              have HB7 : Hid (Below wb.heap.size wb w7) := bsplit HB6.out hb7
              clear hss hb7
              go_wp2_with fail
              go_roundg (gk - 1)
              case measure => exact q3
              case rel => exact ⟨i + 1, k + 1, sm, q4, by omega, by go_num, by go_num, rfl, ⟨by rw [HCT.out.1]; rfl, by rw [HCT.out.2]; rfl⟩, HB7⟩
          | false =>
            cases tw with
            | true =>
              go_wp2_with fail
              go_roundg (gk - 1)
              case measure => exact q3
              case rel => exact ⟨i + 1, k, true, q4, by omega, by go_num, rfl, rfl, ⟨by rw [HCT.out.1]; rfl, by rw [HCT.out.2]; rfl⟩, HB6⟩
            | false =>
              go_wp2_with fail
              refine hss.mono ?_
              rintro e w7 ⟨rfl, hb7⟩
              have HB7 : Hid (Below wb.heap.size wb w7) := bsplit HB6.out hb7
              clear hss hb7
              go_wp2_with fail
              go_roundg (gk - 1)
              case measure => exact q3
              case rel => exact ⟨i + 1, k, sm, q4, by omega, by go_num, rfl, rfl, ⟨by rw [HCT.out.1]; rfl, by rw [HCT.out.2]; rfl⟩, HB7⟩
        · have hiN : i = n' := by omega
          subst hiN
          have HK2 : Hid (k = cntE OUT E ∧ tw = anyE OUT E) := by
            have := HK.out
            rw [← HNP.out, List.take_length] at this
            exact this
          have hltI : ¬ (i : Int) < (i : Int) := by omega
          have BX7 := BX.below HBI.out (Nat.le_refl _)
          have HOR : Hid (RowE w wr (.slice a' i c') OUT) := HO0.out.below HBI.out
          have HBR : Hid (Below w.heap.size w wr) := bsplit HB0.out HBI.out
          clear HK hi2
          cases tw with
          | true =>
            have HS9 : Hid (sortTo es (j + 1) = OUT) := by show _ = _; rw [HST.out]; unfold insE; rw [if_neg]; rw [← HK2.out.2]; simp
            go_wp2_with fail
            go_roundg (G - 1)
            case measure => exact q1
            case rel => exact ⟨j + 1, _, _, _, q2, by go_num, rfl, by show RowE _ _ _ _; rw [HS9.out]; exact HOR.out, HBR⟩
          | false =>
            have h0s : 0 ≤ sq := by rw [← HE.out.2.1]; omega
            have h0k : 0 ≤ kk := by rw [← HE.out.2.2]; omega
            obtain ⟨ck, hckq⟩ : ∃ c, chk nl sq kk = c := ⟨_, rfl⟩
            have HCE : Hid (chkEn E = if ck = 0 then (if 512 < oln then 3 else 0) else ck) := by show _ = _; unfold chkEn; rw [HE.out.1.1, HE.out.1.2, HE.out.2.1, HE.out.2.2, hckq]
            have hck := refcheck_any wr x1 nl x2 sq kk h0s h0k
            rw [hckq] at hck
            have BX7' := BX7
            obtain ⟨z0, z1, z2, z3⟩ := BX7'
            clear hckq
            go_wp2_with fail
            refine hck.mono ?_
            rintro e w8 ⟨rfl, hb8⟩
            clear z0 z1 z2 z3
            have BX8 := BX7.below hb8 (Nat.le_refl _)
            have HO8 : Hid (RowE w w8 (.slice a' i c') OUT) := HOR.out.below hb8
            have HB8 : Hid (Below w.heap.size w w8) := bsplit HBR.out hb8
            clear hck hb8 BX7 HOR HBR HBI HO0 HB0 BX HBXL
            have BX8' := BX8
            obtain ⟨z0, z1, z2, z3⟩ := BX8'
            by_cases hc0 : ck = 0
            · subst hc0
              by_cases h512 : 512 < oln
              · have h5I : ¬ (oln : Int) ≤ 512 := by omega
                have h5b : decide ((oln : Int) ≤ 512) = false := decide_eq_false h5I
                have HS9 : Hid (sortTo es (j + 1) = OUT) := by show _ = _; rw [HST.out]; unfold insE; rw [if_neg]; rintro ⟨_, h9⟩; rw [HCE.out, if_pos rfl, if_pos h512] at h9; cases h9
                go_wp2_with fail
                go_roundg (G - 1)
                case measure => exact q1
                case rel => exact ⟨j + 1, _, _, _, q2, by go_num, rfl, by show RowE _ _ _ _; rw [HS9.out]; exact HO8.out, HB8⟩
              · have h5I : (oln : Int) ≤ 512 := by omega
                have HINS : Hid (sortTo es (j + 1) = (OUT.take k ++ [E]) ++ OUT.drop k) := by
                  show _ = _
                  rw [HST.out]; unfold insE
                  rw [if_pos ⟨HK2.out.2.symm, by rw [HCE.out, if_pos rfl, if_neg h512]⟩, ← HK2.out.1]
                  simp
                obtain ⟨cs, hr8, hC4⟩ := HO8.out
                rw [HNP.out] at hr8
                have HC4 : Hid (Cells4 w cs OUT) := hC4
                have HCL : Hid (cs.length = i * 4) := by show _ = _; rw [hC4.1, HNP.out]
                have HLIT : Hid (Cells4 w [.slice x1 nl x2, .int .u64 sq, .int .u8 kk, .slice y1 oln y2] [E]) := by
                  have := Cells4.one E HRX.out.1 HRX.out.2
                  rw [HE.out.2.1, HE.out.2.2] at this
                  exact this
                obtain ⟨sz, hsz⟩ : ∃ sz, w8.heap.size = sz := ⟨_, rfl⟩
                have HSZ : Hid (w8.heap.size = sz) := hsz
                have hwsz : w.heap.size ≤ sz := by rw [← hsz]; exact HB8.out.size
                have hRA0 : (w8.alloc (.cells #[] 45)).drew.ownsRow sz 45 4 (.slice (some ⟨sz, 0, none⟩) 0 0) 0 [] := by
                  have := World.ownsRow_lit w8 #[] 0 (base := sz) (size := 4) (e := 45) (by rw [← hsz]; exact Nat.le_refl _) (Nat.zero_le _) rfl
                  rw [hsz] at this
                  exact this
                have hRA01 : ((w8.alloc (.cells #[] 45)).alloc (.cells #[.slice x1 nl x2, .int .u64 sq, .int .u8 kk, .slice y1 oln y2] 45)).drew.ownsRow sz 45 4 (.slice (some ⟨sz, 0, none⟩) 0 0) 0 [] := hRA0.alloc _
                have hRA10 : ((w8.alloc (.cells #[.slice x1 nl x2, .int .u64 sq, .int .u8 kk, .slice y1 oln y2] 45)).alloc (.cells #[] 45)).drew.ownsRow sz 45 4 (.slice (some ⟨sz + 1, 0, none⟩) 0 0) 0 [] := by
                  have := World.ownsRow_lit (w8.alloc (.cells #[.slice x1 nl x2, .int .u64 sq, .int .u8 kk, .slice y1 oln y2] 45)) #[] 0 (base := sz) (size := 4) (e := 45) (by rw [show (w8.alloc (.cells #[.slice x1 nl x2, .int .u64 sq, .int .u8 kk, .slice y1 oln y2] 45)).heap.size = w8.heap.size + 1 by simp, hsz]; exact Nat.le_succ _) (Nat.zero_le _) rfl
                  rw [show (w8.alloc (.cells #[.slice x1 nl x2, .int .u64 sq, .int .u8 kk, .slice y1 oln y2] 45)).heap.size = w8.heap.size + 1 by simp, hsz] at this
                  exact this
                have pA0 : Below sz w8 (w8.alloc (.cells #[] 45)).drew := by rw [← hsz]; exact ((Below.refl _ _).alloc (Nat.le_refl _) _).drew
                have pA1 : Below sz w8 (w8.alloc (.cells #[.slice x1 nl x2, .int .u64 sq, .int .u8 kk, .slice y1 oln y2] 45)).drew := by rw [← hsz]; exact ((Below.refl _ _).alloc (Nat.le_refl _) _).drew
                have pA01 : Below sz w8 ((w8.alloc (.cells #[] 45)).alloc (.cells #[.slice x1 nl x2, .int .u64 sq, .int .u8 kk, .slice y1 oln y2] 45)).drew := by rw [← hsz]; exact (((Below.refl _ _).alloc (Nat.le_refl _) _).alloc (by simp) _).drew
                have pA10 : Below sz w8 ((w8.alloc (.cells #[.slice x1 nl x2, .int .u64 sq, .int .u8 kk, .slice y1 oln y2] 45)).alloc (.cells #[] 45)).drew := by rw [← hsz]; exact (((Below.refl _ _).alloc (Nat.le_refl _) _).alloc (by simp) _).drew
                have lA01 := laid4 (w8.alloc (.cells #[] 45)) (.slice x1 nl x2) (.int .u64 sq) (.int .u8 kk) (.slice y1 oln y2) 45
                rw [show (w8.alloc (.cells #[] 45)).heap.size = w8.heap.size + 1 by simp, hsz] at lA01
                have lA10 : ∀ j u, [.slice x1 nl x2, .int .u64 sq, .int .u8 kk, .slice y1 oln y2][j]? = some u → ((w8.alloc (.cells #[.slice x1 nl x2, .int .u64 sq, .int .u8 kk, .slice y1 oln y2] 45)).alloc (.cells #[] 45)).drew.cell? ((⟨sz, 0, none⟩ : Addr).add j) = some u := fun j u hu => by
                  have h9 := laid4 w8 (.slice x1 nl x2) (.int .u64 sq) (.int .u8 kk) (.slice y1 oln y2) 45 j u hu
                  rw [hsz] at h9
                  exact ((below_box4 (w8.alloc (.cells #[.slice x1 nl x2, .int .u64 sq, .int .u8 kk, .slice y1 oln y2] 45)) (.cells #[] 45)).cell (World.block_lt_of_cell? _ _ h9)).trans h9
                have bA0 := BX8.below pA0 (by rw [hsz]; exact Nat.le_refl _)
                have bA1 := BX8.below pA1 (by rw [hsz]; exact Nat.le_refl _)
                have bA01 := BX8.below pA01 (by rw [hsz]; exact Nat.le_refl _)
                have bA10 := BX8.below pA10 (by rw [hsz]; exact Nat.le_refl _)
                have sA0 : (w8.alloc (.cells #[] 45)).drew.heap.size = sz + 1 := by rw [← hsz]; simp
                have sA01 : ((w8.alloc (.cells #[] 45)).alloc (.cells #[.slice x1 nl x2, .int .u64 sq, .int .u8 kk, .slice y1 oln y2] 45)).drew.heap.size = sz + 2 := by rw [← hsz]; simp
                have sA10 : ((w8.alloc (.cells #[.slice x1 nl x2, .int .u64 sq, .int .u8 kk, .slice y1 oln y2] 45)).alloc (.cells #[] 45)).drew.heap.size = sz + 2 := by rw [← hsz]; simp
                have pG : ∀ o, Below sz w8 (((w8.alloc (.cells #[] 45)).alloc (.cells #[.slice x1 nl x2, .int .u64 sq, .int .u8 kk, .slice y1 oln y2] 45)).alloc o).drew.drew := fun o => by rw [← hsz]; exact ((((Below.refl _ _).alloc (Nat.le_refl _) _).alloc (by simp) _).alloc (by simp; omega) _).drew.drew
                have bG := fun o => BX8.below (pG o) (by rw [hsz]; exact Nat.le_refl _)
                have pH : ∀ o, Below sz w8 (((w8.alloc (.cells #[.slice x1 nl x2, .int .u64 sq, .int .u8 kk, .slice y1 oln y2] 45)).alloc (.cells #[] 45)).alloc o).drew.drew := fun o => by rw [← hsz]; exact ((((Below.refl _ _).alloc (Nat.le_refl _) _).alloc (by simp) _).alloc (by simp; omega) _).drew.drew
                have bH := fun o => BX8.below (pH o) (by rw [hsz]; exact Nat.le_refl _)
                have BX9 := BX8.drew
                have hON4 : ∀ u ∈ [Value.slice x1 nl x2, .int .u64 sq, .int .u8 kk, .slice y1 oln y2], u.oneCell' = true := HLIT.out.ones
                have hkl : k ≤ i := by rw [HK2.out.1, ← HNP.out]; exact cntE_le _ _
                have hT4 : Cells4 w (cs.take (k * 4)) (OUT.take k) := HC4.out.take k (by rw [HNP.out]; exact hkl)
                have hD4 : Cells4 w (cs.drop (k * 4)) (OUT.drop k) := HC4.out.drop k (by rw [HNP.out]; exact hkl)
                have hT1 : (cs.take (k * 4)).length = k * 4 := by rw [List.length_take, HCL.out]; omega
                have hD1 : (cs.drop (k * 4)).length = (i - k) * 4 := by rw [List.length_drop, HCL.out]; omega
                have hone1 := hT4.ones
                have hone2 := hD4.ones
                have HFIN : Hid (∀ (w3 : World) (g3 c3 : Nat), w3.ownsRow sz 45 4 (.slice (some ⟨g3, 0, none⟩) (i + 1) c3) (i + 1) ((([] ++ cs.take (k * 4)) ++ [.slice x1 nl x2, .int .u64 sq, .int .u8 kk, .slice y1 oln y2]) ++ cs.drop (k * 4)) → Below sz w8 w3 → RowE w w3 (.slice (some ⟨g3, 0, none⟩) (i + 1) c3) (sortTo es (j + 1)) ∧ Below w.heap.size w w3) := by
                  intro w3 g3 c3 hr hb
                  refine ⟨⟨(([] ++ cs.take (k * 4)) ++ [.slice x1 nl x2, .int .u64 sq, .int .u8 kk, .slice y1 oln y2]) ++ cs.drop (k * 4), ?_, ?_⟩, HB8.out.trans (hb.mono hwsz)⟩
                  · rw [HINS.out, show ((OUT.take k ++ [E]) ++ OUT.drop k).length = i + 1 by simp [HNP.out]; omega]
                    exact row_mono hr hwsz
                  · rw [HINS.out, List.nil_append]
                    exact (hT4.append HLIT.out).append hD4
                rcases HO8.out.shape with ⟨hov, hon⟩ | ⟨go, oc, hov, hoc1, hoc2⟩
                · cases hov
                  have hk0 : k = 0 := by omega
                  subst hk0
                  have hcs : cs = [] := List.eq_nil_of_length_eq_zero (by rw [HCL.out])
                  have hsrc1 : ∀ W : World, Below sz w8 W → SrcOf W 4 (Value.slice none 0 0) (0) (cs.take (0 * 4)) := fun W _ => .inl ⟨rfl, rfl, by simp⟩
                  have hsrc2 : ∀ W : World, Below sz w8 W → SrcOf W 4 (Value.slice none 0 0) (0 - 0) (cs.drop (0 * 4)) := fun W _ => .inl ⟨rfl, rfl, by rw [hcs]; rfl⟩
                  go_wp2_with fail
                  go_region_held3 (fun w' => w'.cell? ⟨bx, 0, none⟩ = some (.slice x1 nl x2) ∧ w'.cell? ⟨bx, 1, none⟩ = some (.int .u64 sq) ∧ w'.cell? ⟨bx, 2, none⟩ = some (.int .u8 kk) ∧ w'.cell? ⟨bx, 3, none⟩ = some (.slice y1 oln y2))
                    (first | with_reducible exact ⟨b3.c0, b3.c1, b3.c2, b3.c3⟩ | with_reducible exact ⟨b2.c0, b2.c1, b2.c2, b2.c3⟩ | with_reducible exact ⟨b1a.c0, b1a.c1, b1a.c2, b1a.c3⟩ | with_reducible exact ⟨b1.c0, b1.c1, b1.c2, b1.c3⟩ | with_reducible exact ⟨bA01.c0, bA01.c1, bA01.c2, bA01.c3⟩ | with_reducible exact ⟨bA10.c0, bA10.c1, bA10.c2, bA10.c3⟩ | with_reducible exact ⟨bA0.c0, bA0.c1, bA0.c2, bA0.c3⟩ | with_reducible exact ⟨bA1.c0, bA1.c1, bA1.c2, bA1.c3⟩ | with_reducible exact ⟨(bG _).c0, (bG _).c1, (bG _).c2, (bG _).c3⟩ | with_reducible exact ⟨(bH _).c0, (bH _).c1, (bH _).c2, (bH _).c3⟩ | exact ⟨BX9.c0, BX9.c1, BX9.c2, BX9.c3⟩)
                    (first
                      | (refine step_append_src rfl (.tmp 52) (.tmp 55) 22 rfl sz 45 i0 (.agg #[.slice none 0 0, .int .u64 0, .int .u8 0, .slice none 0 0]) 4 64 Try.underlying22 hi hz0 hz1 hz2 rfl (by decide) sz 0 0 [] rfl (by with_reducible exact hRA0) _ rfl 0 (cs.take (0 * 4)) (hsrc1 _ pA0) hone1 (by unfold maxLen; omega) (by omega) (by rw [sA0]; omega) (sz + 1) sA0 0 (Nat.zero_add _) ?_
                         intro g1 c1 w1 hw1 hg1 ha1
                         have p1 : Below sz w8 w1 := pA0.grown hg1 (by rw [sA0]; omega) (fun q e => by cases e; exact Nat.le_refl _)
                         have b1 := BX8.below p1 (by rw [HSZ.out]; exact Nat.le_refl _)
                         have b1a := b1.alloc (.cells #[.slice x1 nl x2, .int .u64 sq, .int .u8 kk, .slice y1 oln y2] 45)
                         have e1 : sz ≤ w1.heap.size := by have := p1.size; rw [HSZ.out] at this; exact this
                         have hw1a := hw1.alloc (.cells #[.slice x1 nl x2, .int .u64 sq, .int .u8 kk, .slice y1 oln y2] 45)
                         have p1a : Below sz w8 (w1.alloc (.cells #[.slice x1 nl x2, .int .u64 sq, .int .u8 kk, .slice y1 oln y2] 45)) := p1.alloc e1 _
                         have l1a := laid4 w1 (.slice x1 nl x2) (.int .u64 sq) (.int .u8 kk) (.slice y1 oln y2) 45
                         have e1a : sz ≤ (w1.alloc (.cells #[.slice x1 nl x2, .int .u64 sq, .int .u8 kk, .slice y1 oln y2] 45)).heap.size := by simp; omega)
                      | (refine step_append_src rfl (.tmp 52) (.tmp 55) 22 rfl sz 45 i0 (.agg #[.slice none 0 0, .int .u64 0, .int .u8 0, .slice none 0 0]) 4 64 Try.underlying22 hi hz0 hz1 hz2 rfl (by decide) sz 0 0 [] rfl (by with_reducible exact hRA01) _ rfl 0 (cs.take (0 * 4)) (hsrc1 _ pA01) hone1 (by unfold maxLen; omega) (by omega) (by rw [sA01]; omega) (sz + 2) sA01 0 (Nat.zero_add _) ?_
                         intro g1 c1 w1 hw1 hg1 ha1
                         have p1 : Below sz w8 w1 := pA01.grown hg1 (by rw [sA01]; omega) (fun q e => by cases e; exact Nat.le_refl _)
                         have b1 := BX8.below p1 (by rw [HSZ.out]; exact Nat.le_refl _)
                         have e1 : sz ≤ w1.heap.size := by have := p1.size; rw [HSZ.out] at this; exact this
                         have l1 : ∀ j u, [.slice x1 nl x2, .int .u64 sq, .int .u8 kk, .slice y1 oln y2][j]? = some u → w1.cell? ((⟨sz + 1, 0, none⟩ : Addr).add j) = some u := fun j u hu => by
                           have h9 := lA01 j u hu
                           rw [Addr.add_lit] at h9 ⊢
                           rw [← h9]
                           exact World.cell?_of_block (hg1.block _ (World.block_lt_of_cell? _ _ h9) (by simp)))
                      | (refine step_append_src rfl (.tmp 52) (.tmp 55) 22 rfl sz 45 i0 (.agg #[.slice none 0 0, .int .u64 0, .int .u8 0, .slice none 0 0]) 4 64 Try.underlying22 hi hz0 hz1 hz2 rfl (by decide) (sz + 1) 0 0 [] rfl (by with_reducible exact hRA10) _ rfl 0 (cs.take (0 * 4)) (hsrc1 _ pA10) hone1 (by unfold maxLen; omega) (by omega) (by rw [sA10]; omega) (sz + 2) sA10 0 (Nat.zero_add _) ?_
                         intro g1 c1 w1 hw1 hg1 ha1
                         have p1 : Below sz w8 w1 := pA10.grown hg1 (by rw [sA10]; omega) (fun q e => by cases e; exact Nat.le_succ _)
                         have b1 := BX8.below p1 (by rw [HSZ.out]; exact Nat.le_refl _)
                         have e1 : sz ≤ w1.heap.size := by have := p1.size; rw [HSZ.out] at this; exact this
                         have l1 : ∀ j u, [.slice x1 nl x2, .int .u64 sq, .int .u8 kk, .slice y1 oln y2][j]? = some u → w1.cell? ((⟨sz, 0, none⟩ : Addr).add j) = some u := fun j u hu => by
                           have h9 := lA10 j u hu
                           rw [Addr.add_lit] at h9 ⊢
                           rw [← h9]
                           exact World.cell?_of_block (hg1.block _ (World.block_lt_of_cell? _ _ h9) (by simp)))
                      | (refine step_append_src rfl (.tmp 56) (.tmp 58) 22 rfl sz 45 i0 (.agg #[.slice none 0 0, .int .u64 0, .int .u8 0, .slice none 0 0]) 4 64 Try.underlying22 hi hz0 hz1 hz2 rfl (by decide) g1 0 c1 _ rfl (by with_reducible exact hw1) _ rfl 1 [.slice x1 nl x2, .int .u64 sq, .int .u8 kk, .slice y1 oln y2] (.inr ⟨_, _, rfl, rfl, l1⟩) hON4 (by unfold maxLen; omega) (by omega) e1 _ rfl (0 + 1) rfl ?_
                         intro g2 c2 w2 hw2 hg2 ha2
                         have p2 : Below sz w8 w2 := p1.grown hg2 e1 (fun q e => by cases e; exact (hw1.lt _ rfl).1)
                         have b2 := BX8.below p2 (by rw [HSZ.out]; exact Nat.le_refl _)
                         have e2 : sz ≤ w2.heap.size := by have := p2.size; rw [HSZ.out] at this; exact this)
                      | (refine step_append_src rfl (.tmp 56) (.tmp 58) 22 rfl sz 45 i0 (.agg #[.slice none 0 0, .int .u64 0, .int .u8 0, .slice none 0 0]) 4 64 Try.underlying22 hi hz0 hz1 hz2 rfl (by decide) g1 0 c1 _ rfl (by with_reducible exact hw1a) _ rfl 1 [.slice x1 nl x2, .int .u64 sq, .int .u8 kk, .slice y1 oln y2] (.inr ⟨_, _, rfl, rfl, l1a⟩) hON4 (by unfold maxLen; omega) (by omega) e1a _ rfl (0 + 1) rfl ?_
                         intro g2 c2 w2 hw2 hg2 ha2
                         have p2 : Below sz w8 w2 := p1a.grown hg2 e1a (fun q e => by cases e; exact (hw1.lt _ rfl).1)
                         have b2 := BX8.below p2 (by rw [HSZ.out]; exact Nat.le_refl _)
                         have e2 : sz ≤ w2.heap.size := by have := p2.size; rw [HSZ.out] at this; exact this)
                      | (refine step_append_src rfl (.tmp 59) (.tmp 62) 22 rfl sz 45 i0 (.agg #[.slice none 0 0, .int .u64 0, .int .u8 0, .slice none 0 0]) 4 64 Try.underlying22 hi hz0 hz1 hz2 rfl (by decide) g2 (0 + 1) c2 _ rfl (by with_reducible exact hw2) _ rfl (0 - 0) (cs.drop (0 * 4)) (hsrc2 _ p2) hone2 (by unfold maxLen; omega) (by omega) e2 _ rfl (0 + 1) (by omega) ?_
                         intro g3 c3 w3 hw3 hg3 ha3
                         have p3 : Below sz w8 w3 := p2.grown hg3 e2 (fun q e => by cases e; exact (hw2.lt _ rfl).1)
                         have b3 := BX8.below p3 (by rw [HSZ.out]; exact Nat.le_refl _)
                         have HF3 : Hid _ := HFIN.out w3 g3 c3 hw3 p3)
                      | fail)
                  all_goals
                    clear hRA0 hRA01 hRA10 pA0 pA1 pA01 pA10 lA01 lA10 bA0 bA1 bA01 bA10 sA0 sA01 sA10 pG bG pH bH BX9 z0 z1 z2 z3
                    go_wp2_with fail
                    go_roundg (G - 1)
                    case measure => exact q1
                    case rel => exact ⟨j + 1, _, _, _, q2, by go_num, rfl, HF3.out.1, HF3.out.2⟩
                · rw [HNP.out] at hov hoc1
                  cases hov
                  have hgo : go < sz := by rw [← HSZ.out]; exact (HO8.out.lt go rfl).2
                  have hcell8 := hr8.cells (g := go) rfl
                  have hsrc1 : ∀ W : World, Below sz w8 W → SrcOf W 4 (Value.slice (some ⟨go, 0, none⟩) k c') (k) (cs.take (k * 4)) := fun W hb => .inr ⟨_, _, rfl, hT1, fun j u hu => by
                    have h9 : cs[j]? = some u := by
                      rw [List.getElem?_take] at hu
                      split at hu
                      · exact hu
                      · cases hu
                    have h8 := hcell8 j u h9
                    rw [← h8, Addr.add_lit]
                    exact hb.cell hgo⟩
                  have hkI0 : (0 : Int) ≤ (k : Int) := by omega
                  have hkI1 : (k : Int) ≤ (i : Int) := by omega
                  have hkI2 : (i : Int) ≤ (c' : Int) := by omega
                  have hkI3 : (k : Int) ≤ (c' : Int) := by omega
                  by_cases hck9 : c' = k
                  · subst hck9
                    have hki9 : i = c' := by omega
                    subst hki9
                    have hD0 : (cs.drop (i * 4)).length = 0 := by rw [hD1]; omega
                    have hsrc2 : ∀ W : World, Below sz w8 W → SrcOf W 4 (Value.slice (some ⟨go, 0, none⟩) 0 0) (0) (cs.drop (i * 4)) := fun W hb => .inr ⟨_, _, rfl, by rw [hD0], fun j u hu => by
                      rw [List.eq_nil_of_length_eq_zero hD0] at hu
                      simp at hu⟩
                    go_wp2_with fail
                    go_region_held3 (fun w' => w'.cell? ⟨bx, 0, none⟩ = some (.slice x1 nl x2) ∧ w'.cell? ⟨bx, 1, none⟩ = some (.int .u64 sq) ∧ w'.cell? ⟨bx, 2, none⟩ = some (.int .u8 kk) ∧ w'.cell? ⟨bx, 3, none⟩ = some (.slice y1 oln y2))
                      (first | with_reducible exact ⟨b3.c0, b3.c1, b3.c2, b3.c3⟩ | with_reducible exact ⟨b2.c0, b2.c1, b2.c2, b2.c3⟩ | with_reducible exact ⟨b1a.c0, b1a.c1, b1a.c2, b1a.c3⟩ | with_reducible exact ⟨b1.c0, b1.c1, b1.c2, b1.c3⟩ | with_reducible exact ⟨bA01.c0, bA01.c1, bA01.c2, bA01.c3⟩ | with_reducible exact ⟨bA10.c0, bA10.c1, bA10.c2, bA10.c3⟩ | with_reducible exact ⟨bA0.c0, bA0.c1, bA0.c2, bA0.c3⟩ | with_reducible exact ⟨bA1.c0, bA1.c1, bA1.c2, bA1.c3⟩ | with_reducible exact ⟨(bG _).c0, (bG _).c1, (bG _).c2, (bG _).c3⟩ | with_reducible exact ⟨(bH _).c0, (bH _).c1, (bH _).c2, (bH _).c3⟩ | exact ⟨BX9.c0, BX9.c1, BX9.c2, BX9.c3⟩)
                      (first
                        | (refine step_append_src rfl (.tmp 52) (.tmp 55) 22 rfl sz 45 i0 (.agg #[.slice none 0 0, .int .u64 0, .int .u8 0, .slice none 0 0]) 4 64 Try.underlying22 hi hz0 hz1 hz2 rfl (by decide) sz 0 0 [] rfl (by with_reducible exact hRA0) _ rfl i (cs.take (i * 4)) (hsrc1 _ pA0) hone1 (by unfold maxLen; omega) (by omega) (by rw [sA0]; omega) (sz + 1) sA0 i (Nat.zero_add _) ?_
                           intro g1 c1 w1 hw1 hg1 ha1
                           have p1 : Below sz w8 w1 := pA0.grown hg1 (by rw [sA0]; omega) (fun q e => by cases e; exact Nat.le_refl _)
                           have b1 := BX8.below p1 (by rw [HSZ.out]; exact Nat.le_refl _)
                           have b1a := b1.alloc (.cells #[.slice x1 nl x2, .int .u64 sq, .int .u8 kk, .slice y1 oln y2] 45)
                           have e1 : sz ≤ w1.heap.size := by have := p1.size; rw [HSZ.out] at this; exact this
                           have hw1a := hw1.alloc (.cells #[.slice x1 nl x2, .int .u64 sq, .int .u8 kk, .slice y1 oln y2] 45)
                           have p1a : Below sz w8 (w1.alloc (.cells #[.slice x1 nl x2, .int .u64 sq, .int .u8 kk, .slice y1 oln y2] 45)) := p1.alloc e1 _
                           have l1a := laid4 w1 (.slice x1 nl x2) (.int .u64 sq) (.int .u8 kk) (.slice y1 oln y2) 45
                           have e1a : sz ≤ (w1.alloc (.cells #[.slice x1 nl x2, .int .u64 sq, .int .u8 kk, .slice y1 oln y2] 45)).heap.size := by simp; omega)
                        | (refine step_append_src rfl (.tmp 52) (.tmp 55) 22 rfl sz 45 i0 (.agg #[.slice none 0 0, .int .u64 0, .int .u8 0, .slice none 0 0]) 4 64 Try.underlying22 hi hz0 hz1 hz2 rfl (by decide) sz 0 0 [] rfl (by with_reducible exact hRA01) _ rfl i (cs.take (i * 4)) (hsrc1 _ pA01) hone1 (by unfold maxLen; omega) (by omega) (by rw [sA01]; omega) (sz + 2) sA01 i (Nat.zero_add _) ?_
                           intro g1 c1 w1 hw1 hg1 ha1
                           have p1 : Below sz w8 w1 := pA01.grown hg1 (by rw [sA01]; omega) (fun q e => by cases e; exact Nat.le_refl _)
                           have b1 := BX8.below p1 (by rw [HSZ.out]; exact Nat.le_refl _)
                           have e1 : sz ≤ w1.heap.size := by have := p1.size; rw [HSZ.out] at this; exact this
                           have l1 : ∀ j u, [.slice x1 nl x2, .int .u64 sq, .int .u8 kk, .slice y1 oln y2][j]? = some u → w1.cell? ((⟨sz + 1, 0, none⟩ : Addr).add j) = some u := fun j u hu => by
                             have h9 := lA01 j u hu
                             rw [Addr.add_lit] at h9 ⊢
                             rw [← h9]
                             exact World.cell?_of_block (hg1.block _ (World.block_lt_of_cell? _ _ h9) (by simp)))
                        | (refine step_append_src rfl (.tmp 52) (.tmp 55) 22 rfl sz 45 i0 (.agg #[.slice none 0 0, .int .u64 0, .int .u8 0, .slice none 0 0]) 4 64 Try.underlying22 hi hz0 hz1 hz2 rfl (by decide) (sz + 1) 0 0 [] rfl (by with_reducible exact hRA10) _ rfl i (cs.take (i * 4)) (hsrc1 _ pA10) hone1 (by unfold maxLen; omega) (by omega) (by rw [sA10]; omega) (sz + 2) sA10 i (Nat.zero_add _) ?_
                           intro g1 c1 w1 hw1 hg1 ha1
                           have p1 : Below sz w8 w1 := pA10.grown hg1 (by rw [sA10]; omega) (fun q e => by cases e; exact Nat.le_succ _)
                           have b1 := BX8.below p1 (by rw [HSZ.out]; exact Nat.le_refl _)
                           have e1 : sz ≤ w1.heap.size := by have := p1.size; rw [HSZ.out] at this; exact this
                           have l1 : ∀ j u, [.slice x1 nl x2, .int .u64 sq, .int .u8 kk, .slice y1 oln y2][j]? = some u → w1.cell? ((⟨sz, 0, none⟩ : Addr).add j) = some u := fun j u hu => by
                             have h9 := lA10 j u hu
                             rw [Addr.add_lit] at h9 ⊢
                             rw [← h9]
                             exact World.cell?_of_block (hg1.block _ (World.block_lt_of_cell? _ _ h9) (by simp)))
                        | (refine step_append_src rfl (.tmp 56) (.tmp 58) 22 rfl sz 45 i0 (.agg #[.slice none 0 0, .int .u64 0, .int .u8 0, .slice none 0 0]) 4 64 Try.underlying22 hi hz0 hz1 hz2 rfl (by decide) g1 i c1 _ rfl (by with_reducible exact hw1) _ rfl 1 [.slice x1 nl x2, .int .u64 sq, .int .u8 kk, .slice y1 oln y2] (.inr ⟨_, _, rfl, rfl, l1⟩) hON4 (by unfold maxLen; omega) (by omega) e1 _ rfl (i + 1) rfl ?_
                           intro g2 c2 w2 hw2 hg2 ha2
                           have p2 : Below sz w8 w2 := p1.grown hg2 e1 (fun q e => by cases e; exact (hw1.lt _ rfl).1)
                           have b2 := BX8.below p2 (by rw [HSZ.out]; exact Nat.le_refl _)
                           have e2 : sz ≤ w2.heap.size := by have := p2.size; rw [HSZ.out] at this; exact this)
                        | (refine step_append_src rfl (.tmp 56) (.tmp 58) 22 rfl sz 45 i0 (.agg #[.slice none 0 0, .int .u64 0, .int .u8 0, .slice none 0 0]) 4 64 Try.underlying22 hi hz0 hz1 hz2 rfl (by decide) g1 i c1 _ rfl (by with_reducible exact hw1a) _ rfl 1 [.slice x1 nl x2, .int .u64 sq, .int .u8 kk, .slice y1 oln y2] (.inr ⟨_, _, rfl, rfl, l1a⟩) hON4 (by unfold maxLen; omega) (by omega) e1a _ rfl (i + 1) rfl ?_
                           intro g2 c2 w2 hw2 hg2 ha2
                           have p2 : Below sz w8 w2 := p1a.grown hg2 e1a (fun q e => by cases e; exact (hw1.lt _ rfl).1)
                           have b2 := BX8.below p2 (by rw [HSZ.out]; exact Nat.le_refl _)
                           have e2 : sz ≤ w2.heap.size := by have := p2.size; rw [HSZ.out] at this; exact this)
                        | (refine step_append_src rfl (.tmp 59) (.tmp 62) 22 rfl sz 45 i0 (.agg #[.slice none 0 0, .int .u64 0, .int .u8 0, .slice none 0 0]) 4 64 Try.underlying22 hi hz0 hz1 hz2 rfl (by decide) g2 (i + 1) c2 _ rfl (by with_reducible exact hw2) _ rfl 0 (cs.drop (i * 4)) (hsrc2 _ p2) hone2 (by unfold maxLen; omega) (by omega) e2 _ rfl (i + 1) (by omega) ?_
                           intro g3 c3 w3 hw3 hg3 ha3
                           have p3 : Below sz w8 w3 := p2.grown hg3 e2 (fun q e => by cases e; exact (hw2.lt _ rfl).1)
                           have b3 := BX8.below p3 (by rw [HSZ.out]; exact Nat.le_refl _)
                           have HF3 : Hid _ := HFIN.out w3 g3 c3 hw3 p3)
                        | fail)
                    all_goals
                      clear hRA0 hRA01 hRA10 pA0 pA1 pA01 pA10 lA01 lA10 bA0 bA1 bA01 bA10 sA0 sA01 sA10 pG bG pH bH BX9 z0 z1 z2 z3
                      go_wp2_with fail
                      go_roundg (G - 1)
                      case measure => exact q1
                      case rel => exact ⟨j + 1, _, _, _, q2, by go_num, rfl, HF3.out.1, HF3.out.2⟩
                  · have hck8 : ¬ (c' : Int) = (k : Int) := by omega
                    have hsrc2 : ∀ W : World, Below sz w8 W → SrcOf W 4 (Value.slice (some ⟨go, k * 4, none⟩) (i - k) (c' - k)) (i - k) (cs.drop (k * 4)) := fun W hb => .inr ⟨_, _, rfl, hD1, fun j u hu => by
                      rw [List.getElem?_drop] at hu
                      have h8 := hcell8 _ u hu
                      rw [← h8, Addr.add_lit, Addr.add_lit, Nat.zero_add]
                      exact hb.cell hgo⟩
                    go_wp2_with fail
                    go_region_held3 (fun w' => w'.cell? ⟨bx, 0, none⟩ = some (.slice x1 nl x2) ∧ w'.cell? ⟨bx, 1, none⟩ = some (.int .u64 sq) ∧ w'.cell? ⟨bx, 2, none⟩ = some (.int .u8 kk) ∧ w'.cell? ⟨bx, 3, none⟩ = some (.slice y1 oln y2))
                      (first | with_reducible exact ⟨b3.c0, b3.c1, b3.c2, b3.c3⟩ | with_reducible exact ⟨b2.c0, b2.c1, b2.c2, b2.c3⟩ | with_reducible exact ⟨b1a.c0, b1a.c1, b1a.c2, b1a.c3⟩ | with_reducible exact ⟨b1.c0, b1.c1, b1.c2, b1.c3⟩ | with_reducible exact ⟨bA01.c0, bA01.c1, bA01.c2, bA01.c3⟩ | with_reducible exact ⟨bA10.c0, bA10.c1, bA10.c2, bA10.c3⟩ | with_reducible exact ⟨bA0.c0, bA0.c1, bA0.c2, bA0.c3⟩ | with_reducible exact ⟨bA1.c0, bA1.c1, bA1.c2, bA1.c3⟩ | with_reducible exact ⟨(bG _).c0, (bG _).c1, (bG _).c2, (bG _).c3⟩ | with_reducible exact ⟨(bH _).c0, (bH _).c1, (bH _).c2, (bH _).c3⟩ | exact ⟨BX9.c0, BX9.c1, BX9.c2, BX9.c3⟩)
                      (first
                        | (refine step_append_src rfl (.tmp 52) (.tmp 55) 22 rfl sz 45 i0 (.agg #[.slice none 0 0, .int .u64 0, .int .u8 0, .slice none 0 0]) 4 64 Try.underlying22 hi hz0 hz1 hz2 rfl (by decide) sz 0 0 [] rfl (by with_reducible exact hRA0) _ rfl k (cs.take (k * 4)) (hsrc1 _ pA0) hone1 (by unfold maxLen; omega) (by omega) (by rw [sA0]; omega) (sz + 1) sA0 k (Nat.zero_add _) ?_
                           intro g1 c1 w1 hw1 hg1 ha1
                           have p1 : Below sz w8 w1 := pA0.grown hg1 (by rw [sA0]; omega) (fun q e => by cases e; exact Nat.le_refl _)
                           have b1 := BX8.below p1 (by rw [HSZ.out]; exact Nat.le_refl _)
                           have b1a := b1.alloc (.cells #[.slice x1 nl x2, .int .u64 sq, .int .u8 kk, .slice y1 oln y2] 45)
                           have e1 : sz ≤ w1.heap.size := by have := p1.size; rw [HSZ.out] at this; exact this
                           have hw1a := hw1.alloc (.cells #[.slice x1 nl x2, .int .u64 sq, .int .u8 kk, .slice y1 oln y2] 45)
                           have p1a : Below sz w8 (w1.alloc (.cells #[.slice x1 nl x2, .int .u64 sq, .int .u8 kk, .slice y1 oln y2] 45)) := p1.alloc e1 _
                           have l1a := laid4 w1 (.slice x1 nl x2) (.int .u64 sq) (.int .u8 kk) (.slice y1 oln y2) 45
                           have e1a : sz ≤ (w1.alloc (.cells #[.slice x1 nl x2, .int .u64 sq, .int .u8 kk, .slice y1 oln y2] 45)).heap.size := by simp; omega)
                        | (refine step_append_src rfl (.tmp 52) (.tmp 55) 22 rfl sz 45 i0 (.agg #[.slice none 0 0, .int .u64 0, .int .u8 0, .slice none 0 0]) 4 64 Try.underlying22 hi hz0 hz1 hz2 rfl (by decide) sz 0 0 [] rfl (by with_reducible exact hRA01) _ rfl k (cs.take (k * 4)) (hsrc1 _ pA01) hone1 (by unfold maxLen; omega) (by omega) (by rw [sA01]; omega) (sz + 2) sA01 k (Nat.zero_add _) ?_
                           intro g1 c1 w1 hw1 hg1 ha1
                           have p1 : Below sz w8 w1 := pA01.grown hg1 (by rw [sA01]; omega) (fun q e => by cases e; exact Nat.le_refl _)
                           have b1 := BX8.below p1 (by rw [HSZ.out]; exact Nat.le_refl _)
                           have e1 : sz ≤ w1.heap.size := by have := p1.size; rw [HSZ.out] at this; exact this
                           have l1 : ∀ j u, [.slice x1 nl x2, .int .u64 sq, .int .u8 kk, .slice y1 oln y2][j]? = some u → w1.cell? ((⟨sz + 1, 0, none⟩ : Addr).add j) = some u := fun j u hu => by
                             have h9 := lA01 j u hu
                             rw [Addr.add_lit] at h9 ⊢
                             rw [← h9]
                             exact World.cell?_of_block (hg1.block _ (World.block_lt_of_cell? _ _ h9) (by simp)))
                        | (refine step_append_src rfl (.tmp 52) (.tmp 55) 22 rfl sz 45 i0 (.agg #[.slice none 0 0, .int .u64 0, .int .u8 0, .slice none 0 0]) 4 64 Try.underlying22 hi hz0 hz1 hz2 rfl (by decide) (sz + 1) 0 0 [] rfl (by with_reducible exact hRA10) _ rfl k (cs.take (k * 4)) (hsrc1 _ pA10) hone1 (by unfold maxLen; omega) (by omega) (by rw [sA10]; omega) (sz + 2) sA10 k (Nat.zero_add _) ?_
                           intro g1 c1 w1 hw1 hg1 ha1
                           have p1 : Below sz w8 w1 := pA10.grown hg1 (by rw [sA10]; omega) (fun q e => by cases e; exact Nat.le_succ _)
                           have b1 := BX8.below p1 (by rw [HSZ.out]; exact Nat.le_refl _)
                           have e1 : sz ≤ w1.heap.size := by have := p1.size; rw [HSZ.out] at this; exact this
                           have l1 : ∀ j u, [.slice x1 nl x2, .int .u64 sq, .int .u8 kk, .slice y1 oln y2][j]? = some u → w1.cell? ((⟨sz, 0, none⟩ : Addr).add j) = some u := fun j u hu => by
                             have h9 := lA10 j u hu
                             rw [Addr.add_lit] at h9 ⊢
                             rw [← h9]
                             exact World.cell?_of_block (hg1.block _ (World.block_lt_of_cell? _ _ h9) (by simp)))
                        | (refine step_append_src rfl (.tmp 56) (.tmp 58) 22 rfl sz 45 i0 (.agg #[.slice none 0 0, .int .u64 0, .int .u8 0, .slice none 0 0]) 4 64 Try.underlying22 hi hz0 hz1 hz2 rfl (by decide) g1 k c1 _ rfl (by with_reducible exact hw1) _ rfl 1 [.slice x1 nl x2, .int .u64 sq, .int .u8 kk, .slice y1 oln y2] (.inr ⟨_, _, rfl, rfl, l1⟩) hON4 (by unfold maxLen; omega) (by omega) e1 _ rfl (k + 1) rfl ?_
                           intro g2 c2 w2 hw2 hg2 ha2
                           have p2 : Below sz w8 w2 := p1.grown hg2 e1 (fun q e => by cases e; exact (hw1.lt _ rfl).1)
                           have b2 := BX8.below p2 (by rw [HSZ.out]; exact Nat.le_refl _)
                           have e2 : sz ≤ w2.heap.size := by have := p2.size; rw [HSZ.out] at this; exact this)
                        | (refine step_append_src rfl (.tmp 56) (.tmp 58) 22 rfl sz 45 i0 (.agg #[.slice none 0 0, .int .u64 0, .int .u8 0, .slice none 0 0]) 4 64 Try.underlying22 hi hz0 hz1 hz2 rfl (by decide) g1 k c1 _ rfl (by with_reducible exact hw1a) _ rfl 1 [.slice x1 nl x2, .int .u64 sq, .int .u8 kk, .slice y1 oln y2] (.inr ⟨_, _, rfl, rfl, l1a⟩) hON4 (by unfold maxLen; omega) (by omega) e1a _ rfl (k + 1) rfl ?_
                           intro g2 c2 w2 hw2 hg2 ha2
                           have p2 : Below sz w8 w2 := p1a.grown hg2 e1a (fun q e => by cases e; exact (hw1.lt _ rfl).1)
                           have b2 := BX8.below p2 (by rw [HSZ.out]; exact Nat.le_refl _)
                           have e2 : sz ≤ w2.heap.size := by have := p2.size; rw [HSZ.out] at this; exact this)
                        | (refine step_append_src rfl (.tmp 59) (.tmp 62) 22 rfl sz 45 i0 (.agg #[.slice none 0 0, .int .u64 0, .int .u8 0, .slice none 0 0]) 4 64 Try.underlying22 hi hz0 hz1 hz2 rfl (by decide) g2 (k + 1) c2 _ rfl (by with_reducible exact hw2) _ rfl (i - k) (cs.drop (k * 4)) (hsrc2 _ p2) hone2 (by unfold maxLen; omega) (by omega) e2 _ rfl (i + 1) (by omega) ?_
                           intro g3 c3 w3 hw3 hg3 ha3
                           have p3 : Below sz w8 w3 := p2.grown hg3 e2 (fun q e => by cases e; exact (hw2.lt _ rfl).1)
                           have b3 := BX8.below p3 (by rw [HSZ.out]; exact Nat.le_refl _)
                           have HF3 : Hid _ := HFIN.out w3 g3 c3 hw3 p3)
                        | fail)
                    all_goals
                      clear hRA0 hRA01 hRA10 pA0 pA1 pA01 pA10 lA01 lA10 bA0 bA1 bA01 bA10 sA0 sA01 sA10 pG bG pH bH BX9 z0 z1 z2 z3
                      go_wp2_with fail
                      go_roundg (G - 1)
                      case measure => exact q1
                      case rel => exact ⟨j + 1, _, _, _, q2, by go_num, rfl, HF3.out.1, HF3.out.2⟩
            · have hcb : (ck == 0) = false := by simpa using hc0
              have HS9 : Hid (sortTo es (j + 1) = OUT) := by show _ = _; rw [HST.out]; unfold insE; rw [if_neg]; rintro ⟨_, h9⟩; rw [HCE.out, if_neg hc0] at h9; exact hc0 h9
              go_wp2_with fail
              go_roundg (G - 1)
              case measure => exact q1
              case rel => exact ⟨j + 1, _, _, _, q2, by go_num, rfl, by show RowE _ _ _ _; rw [HS9.out]; exact HO8.out, HB8⟩
    · have hjN : j = N := by omega
      subst hjN
      have HE9 : Hid (sortTo es j = sortE es) := by show _ = _; unfold sortE; rw [HN.out]
      go_wp2
      go_ret
      exact ⟨_, rfl, by rw [← HE9.out]; exact HO.out, HB.out⟩

end Go.Proofs.Ytbmpnafbmgcniaa

/- bartizanref03.SameEntry, SameEntries. -/
namespace Go.Proofs.Ytbmpnafbmgcniaa
open Go.RowKit
set_option linter.unusedVariables false

set_option maxRecDepth 20000 in
set_option maxHeartbeats 4000000 in
theorem sameen_any (w : World) (xa ya xb yb : Value) (la ma lb mb : List UInt8) (s k t j : Int) (r : Bool) (hxa : Rd w xa la) (hya : Rd w ya ma) (hxb : Rd w xb lb) (hyb : Rd w yb mb) (hr : decide ((la = lb ∧ s = t ∧ k = j) ∧ ma = mb) = r) :
    Calls Try.prog 25 #[.agg #[xa, .int .u64 s, .int .u8 k, ya], .agg #[xb, .int .u64 t, .int .u8 j, yb]] w fun e w' => e = .returned (.bool r) ∧ Below w.heap.size w w' := by
  obtain ⟨a1, a2, rfl⟩ := hxa.len
  obtain ⟨a3, a4, rfl⟩ := hya.len
  obtain ⟨b1, b2, rfl⟩ := hxb.len
  obtain ⟨b3, b4, rfl⟩ := hyb.len
  obtain ⟨n1, h1⟩ : ∃ n, la.length = n := ⟨_, rfl⟩
  obtain ⟨n2, h2⟩ : ∃ n, ma.length = n := ⟨_, rfl⟩
  obtain ⟨n3, h3⟩ : ∃ n, lb.length = n := ⟨_, rfl⟩
  obtain ⟨n4, h4⟩ : ∃ n, mb.length = n := ⟨_, rfl⟩
  rw [h1] at hxa ⊢
  rw [h2] at hya ⊢
  rw [h3] at hxb ⊢
  rw [h4] at hyb ⊢
  have hb0 := below_box4 w (.cells #[.slice a1 n1 a2, .int .u64 s, .int .u8 k, .slice a3 n2 a4] 45)
  have hb1 := below_box4 (w.alloc (.cells #[.slice a1 n1 a2, .int .u64 s, .int .u8 k, .slice a3 n2 a4] 45)) (.cells #[.slice b1 n3 b2, .int .u64 t, .int .u8 j, .slice b3 n4 b4] 45)
  have BA := (box4_new w (.slice a1 n1 a2) (.int .u64 s) (.int .u8 k) (.slice a3 n2 a4) 45).below hb1 (Nat.le_refl _)
  have BB := box4_new (w.alloc (.cells #[.slice a1 n1 a2, .int .u64 s, .int .u8 k, .slice a3 n2 a4] 45)) (.slice b1 n3 b2) (.int .u64 t) (.int .u8 j) (.slice b3 n4 b4) 45
  rw [show (w.alloc (.cells #[.slice a1 n1 a2, .int .u64 s, .int .u8 k, .slice a3 n2 a4] 45)).heap.size = w.heap.size + 1 by simp] at BB
  have hB1 := bsplit hb0 hb1
  have hks := keysame_any ((w.alloc (.cells #[.slice a1 n1 a2, .int .u64 s, .int .u8 k, .slice a3 n2 a4] 45)).alloc (.cells #[.slice b1 n3 b2, .int .u64 t, .int .u8 j, .slice b3 n4 b4] 45)) _ _ la lb s k t j (decide (la = lb ∧ s = t ∧ k = j)) (hxa.below hB1 (Nat.le_refl _)) (hxb.below hB1 (Nat.le_refl _)) rfl
  have HY : Hid (Rd w (.slice a3 n2 a4) ma ∧ Rd w (.slice b3 n4 b4) mb) := ⟨hya, hyb⟩
  have HB1 : Hid _ := hB1
  have HR : Hid (decide ((la = lb ∧ s = t ∧ k = j) ∧ ma = mb) = r) := hr
  obtain ⟨q, hq⟩ : ∃ q, decide (la = lb ∧ s = t ∧ k = j) = q := ⟨_, rfl⟩
  have HQ : Hid (decide (la = lb ∧ s = t ∧ k = j) = q) := hq
  rw [hq] at hks
  clear hxa hya hxb hyb hr h1 h2 h3 h4 hb0 hb1 hB1 hq
  go_enter Try.func25, Try.ntmps25
  cases q with
  | false =>
    have HF : Hid (r = false) := by
      show r = false
      rw [← HR.out]
      have := of_decide_eq_false HQ.out
      simp only [decide_eq_false_iff_not]
      exact fun h => this h.1
    obtain ⟨c0, c1, c2, c3⟩ := BA
    obtain ⟨d0, d1, d2, d3⟩ := BB
    go_wp2_with fail
    refine hks.mono ?_
    rintro e w1 ⟨rfl, hb⟩
    have HB2 : Hid (Below w.heap.size w w1) := bsplit HB1.out hb
    clear hks hb
    go_wp2
    go_ret
    exact ⟨ret_bool (by rw [HF.out]), HB2.out⟩
  | true =>
    have HT : Hid ((ma == mb) = r) := by
      show (ma == mb) = r
      rw [← HR.out]
      have := of_decide_eq_true HQ.out
      rw [Bool.eq_iff_iff]
      simp only [beq_iff_eq, decide_eq_true_eq]
      exact ⟨fun h => ⟨this, h⟩, fun h => h.2⟩
    have BA' := BA
    have BB' := BB
    obtain ⟨c0, c1, c2, c3⟩ := BA'
    obtain ⟨d0, d1, d2, d3⟩ := BB'
    go_wp2_with fail
    refine hks.mono ?_
    rintro e w1 ⟨rfl, hb⟩
    have HB2 : Hid (Below w.heap.size w w1) := bsplit HB1.out hb
    clear c0 c1 c2 c3 d0 d1 d2 d3
    obtain ⟨c0, c1, c2, c3⟩ := BA.below hb (Nat.le_refl _)
    obtain ⟨d0, d1, d2, d3⟩ := BB.below hb (Nat.le_refl _)
    have hsb := same_b w1 _ _ ma mb r (HY.out.1.below HB2.out (Nat.le_refl _)) (HY.out.2.below HB2.out (Nat.le_refl _)) HT.out
    clear hks hb BA BB
    go_wp2_with fail
    refine hsb.mono ?_
    rintro e w2 ⟨rfl, rfl⟩
    clear hsb
    go_wp2
    go_ret
    exact ⟨rfl, HB2.out⟩

set_option maxRecDepth 20000 in
set_option maxHeartbeats 4000000 in
theorem sameens_any (w : World) (va vb : Value) (us bs : List EnB) (r : Bool) (ha : RdE w va us) (hb : RdE w vb bs) (hr : us = bs ↔ r = true) :
    Calls Try.prog 16 #[va, vb] w fun e w' => e = .returned (.bool r) ∧ Below w.heap.size w w' := by
  have HA : Hid (RdE w va us) := ha
  have HBb : Hid (RdE w vb bs) := hb
  obtain ⟨a1, a2, rfl, ha1, ha2, _⟩ := ha
  obtain ⟨b1, b2, rfl, hb1, hb2, _⟩ := hb
  unfold maxLen at ha2 hb2
  obtain ⟨N, hN⟩ : ∃ n, us.length = n := ⟨_, rfl⟩
  obtain ⟨M, hM⟩ : ∃ n, bs.length = n := ⟨_, rfl⟩
  rw [hN] at ha1 HA ⊢
  rw [hM] at hb1 HBb ⊢
  have HNM : Hid (us.length = N ∧ bs.length = M) := ⟨hN, hM⟩
  have HR : Hid (us = bs ↔ r = true) := hr
  clear hN hM hr
  go_enter Try.func16, Try.ntmps16
  by_cases hnm : N = M
  · subst hnm
    go_wp2_with fail
    go_loopg [13] N (fun gk iv wr => ∃ j : Nat, gk + j = N ∧ iv = .int .i64 (j : Int) ∧ Hid (∀ i, i < j → us[i]? = bs[i]?) ∧ Hid (Below w.heap.size w wr))
    case atStart => exact ⟨0, by omega, rfl, fun i hi => absurd hi (Nat.not_lt_zero _), Below.refl _ _⟩
    case round =>
      obtain ⟨j, hj, rfl, HS, HB⟩ := hrel
      by_cases hlt : j < N
      · have l1 : j < us.length := by rw [HNM.out.1]; exact hlt
        have l2 : j < bs.length := by rw [HNM.out.2]; exact hlt
        obtain ⟨_, _, e, _, _, h3⟩ := rdE_below HA.out HB.out (Nat.le_refl _)
        rw [HNM.out.1] at e
        cases e
        obtain ⟨_, _, e, _, _, h4⟩ := rdE_below HBb.out HB.out (Nat.le_refl _)
        rw [HNM.out.2] at e
        cases e
        obtain ⟨p1, o1, rfl, x1, y1, c0, c1, c2, c3, rx1, ry1⟩ := h3 j l1
        obtain ⟨p2, o2, rfl, x2, y2, d0, d1, d2, d3, rx2, ry2⟩ := h4 j l2
        obtain ⟨q1, q2⟩ := gk_nxt hj hlt
        obtain ⟨t1, t2, hx1⟩ := rx1.len
        obtain ⟨t3, t4, hy1⟩ := ry1.len
        obtain ⟨t5, t6, hx2⟩ := rx2.len
        obtain ⟨t7, t8, hy2⟩ := ry2.len
        have hsm := sameen_any wr.drew x1 y1 x2 y2 us[j].1 us[j].2.2.2 bs[j].1 bs[j].2.2.2 (us[j].2.1 : Int) (us[j].2.2.1.toNat : Int) (bs[j].2.1 : Int) (bs[j].2.2.1.toNat : Int) (decide (us[j] = bs[j])) rx1.drew ry1.drew rx2.drew ry2.drew (by
          rw [decide_eq_decide]
          constructor
          · rintro ⟨⟨e1, e2, e3⟩, e4⟩
            have e2' : us[j].2.1 = bs[j].2.1 := by omega
            have e3' : us[j].2.2.1 = bs[j].2.2.1 := UInt8.toNat_inj.1 (by omega)
            exact Prod.ext e1 (Prod.ext e2' (Prod.ext e3' e4))
          · intro e
            rw [e]
            exact ⟨⟨rfl, rfl, rfl⟩, rfl⟩)
        have h1I : (j : Int) < (a2 : Int) := by omega
        have h2I : (j : Int) < (b2 : Int) := by omega
        rw [hx1] at c0 hsm
        rw [hy1] at c3 hsm
        rw [hx2] at d0 hsm
        rw [hy2] at d3 hsm
        obtain ⟨z1, hz1⟩ : ∃ z, (us[j].2.1 : Int) = z := ⟨_, rfl⟩
        obtain ⟨z2, hz2⟩ : ∃ z, (us[j].2.2.1.toNat : Int) = z := ⟨_, rfl⟩
        obtain ⟨z3, hz3⟩ : ∃ z, (bs[j].2.1 : Int) = z := ⟨_, rfl⟩
        obtain ⟨z4, hz4⟩ : ∃ z, (bs[j].2.2.1.toNat : Int) = z := ⟨_, rfl⟩
        obtain ⟨m1, hm1⟩ : ∃ z, us[j].1.length = z := ⟨_, rfl⟩
        obtain ⟨m2, hm2⟩ : ∃ z, us[j].2.2.2.length = z := ⟨_, rfl⟩
        obtain ⟨m3, hm3⟩ : ∃ z, bs[j].1.length = z := ⟨_, rfl⟩
        obtain ⟨m4, hm4⟩ : ∃ z, bs[j].2.2.2.length = z := ⟨_, rfl⟩
        rw [hz1] at c1 hsm
        rw [hz2] at c2 hsm
        rw [hz3] at d1 hsm
        rw [hz4] at d2 hsm
        rw [hm1] at c0 hsm
        rw [hm2] at c3 hsm
        rw [hm3] at d0 hsm
        rw [hm4] at d3 hsm
        obtain ⟨q, hq⟩ : ∃ q, decide (us[j] = bs[j]) = q := ⟨_, rfl⟩
        have HQ : Hid (decide (us[j] = bs[j]) = q) := hq
        rw [hq] at hsm
        have c0' := c0; have c1' := c1; have c2' := c2; have c3' := c3; have d0' := d0; have d1' := d1; have d2' := d2; have d3' := d3
        clear h3 h4 rx1 ry1 rx2 ry2 hx1 hy1 hx2 hy2 hz1 hz2 hz3 hz4 hm1 hm2 hm3 hm4 hq
        cases q with
        | true =>
          go_wp2_with fail
          go_region_held3 (fun w' => (w'.cell? ⟨p1, o1 + j * 4, none⟩ = some (.slice t1 m1 t2) ∧ w'.cell? ⟨p1, o1 + j * 4 + 1, none⟩ = some (.int .u64 z1) ∧ w'.cell? ⟨p1, o1 + j * 4 + 2, none⟩ = some (.int .u8 z2) ∧ w'.cell? ⟨p1, o1 + j * 4 + 3, none⟩ = some (.slice t3 m2 t4)) ∧ (w'.cell? ⟨p2, o2 + j * 4, none⟩ = some (.slice t5 m3 t6) ∧ w'.cell? ⟨p2, o2 + j * 4 + 1, none⟩ = some (.int .u64 z3) ∧ w'.cell? ⟨p2, o2 + j * 4 + 2, none⟩ = some (.int .u8 z4) ∧ w'.cell? ⟨p2, o2 + j * 4 + 3, none⟩ = some (.slice t7 m4 t8)))
            (first | with_reducible exact ⟨⟨e0, e1, e2, e3⟩, ⟨e4, e5, e6, e7⟩⟩ | exact ⟨⟨c0', c1', c2', c3'⟩, ⟨d0', d1', d2', d3'⟩⟩)
            (first
              | (go_at_call 25; refine hsm.mono ?_; rintro e w5 ⟨rfl, hb5⟩
                 have HB5 : Hid (Below w.heap.size w w5) := bsplit HB.out.drew hb5
                 have b1 := World.block_lt_of_cell? wr _ c0'
                 have b2 := World.block_lt_of_cell? wr _ d0'
                 have e0 := (hb5.cell (p := ⟨p1, o1 + j * 4, none⟩) b1).trans c0'
                 have e1 := (hb5.cell (p := ⟨p1, o1 + j * 4 + 1, none⟩) b1).trans c1'
                 have e2 := (hb5.cell (p := ⟨p1, o1 + j * 4 + 2, none⟩) b1).trans c2'
                 have e3 := (hb5.cell (p := ⟨p1, o1 + j * 4 + 3, none⟩) b1).trans c3'
                 have e4 := (hb5.cell (p := ⟨p2, o2 + j * 4, none⟩) b2).trans d0'
                 have e5 := (hb5.cell (p := ⟨p2, o2 + j * 4 + 1, none⟩) b2).trans d1'
                 have e6 := (hb5.cell (p := ⟨p2, o2 + j * 4 + 2, none⟩) b2).trans d2'
                 have e7 := (hb5.cell (p := ⟨p2, o2 + j * 4 + 3, none⟩) b2).trans d3')
              | fail)
          go_wp2_with fail
          go_roundg (gk - 1)
          case measure => exact q1
          case rel => exact ⟨j + 1, q2, by go_num, fun i hi => by
            by_cases e : i = j
            · subst e; rw [List.getElem?_eq_getElem l1, List.getElem?_eq_getElem l2, of_decide_eq_true HQ.out]
            · exact HS.out i (by omega), HB5⟩
        | false =>
          go_wp2_with fail
          go_region_held3 (fun w' => (w'.cell? ⟨p1, o1 + j * 4, none⟩ = some (.slice t1 m1 t2) ∧ w'.cell? ⟨p1, o1 + j * 4 + 1, none⟩ = some (.int .u64 z1) ∧ w'.cell? ⟨p1, o1 + j * 4 + 2, none⟩ = some (.int .u8 z2) ∧ w'.cell? ⟨p1, o1 + j * 4 + 3, none⟩ = some (.slice t3 m2 t4)) ∧ (w'.cell? ⟨p2, o2 + j * 4, none⟩ = some (.slice t5 m3 t6) ∧ w'.cell? ⟨p2, o2 + j * 4 + 1, none⟩ = some (.int .u64 z3) ∧ w'.cell? ⟨p2, o2 + j * 4 + 2, none⟩ = some (.int .u8 z4) ∧ w'.cell? ⟨p2, o2 + j * 4 + 3, none⟩ = some (.slice t7 m4 t8)))
            (first | with_reducible exact ⟨⟨e0, e1, e2, e3⟩, ⟨e4, e5, e6, e7⟩⟩ | exact ⟨⟨c0', c1', c2', c3'⟩, ⟨d0', d1', d2', d3'⟩⟩)
            (first
              | (go_at_call 25; refine hsm.mono ?_; rintro e w5 ⟨rfl, hb5⟩
                 have HB5 : Hid (Below w.heap.size w w5) := bsplit HB.out.drew hb5
                 have b1 := World.block_lt_of_cell? wr _ c0'
                 have b2 := World.block_lt_of_cell? wr _ d0'
                 have e0 := (hb5.cell (p := ⟨p1, o1 + j * 4, none⟩) b1).trans c0'
                 have e1 := (hb5.cell (p := ⟨p1, o1 + j * 4 + 1, none⟩) b1).trans c1'
                 have e2 := (hb5.cell (p := ⟨p1, o1 + j * 4 + 2, none⟩) b1).trans c2'
                 have e3 := (hb5.cell (p := ⟨p1, o1 + j * 4 + 3, none⟩) b1).trans c3'
                 have e4 := (hb5.cell (p := ⟨p2, o2 + j * 4, none⟩) b2).trans d0'
                 have e5 := (hb5.cell (p := ⟨p2, o2 + j * 4 + 1, none⟩) b2).trans d1'
                 have e6 := (hb5.cell (p := ⟨p2, o2 + j * 4 + 2, none⟩) b2).trans d2'
                 have e7 := (hb5.cell (p := ⟨p2, o2 + j * 4 + 3, none⟩) b2).trans d3')
              | fail)
          have HF : Hid (r = false) := by
            show r = false
            cases hrr : r with
            | false => rfl
            | true =>
              have h9 := HR.out.2 hrr
              subst h9
              exact absurd rfl (of_decide_eq_false HQ.out)
          go_wp2
          go_ret
          exact ⟨ret_bool (by rw [HF.out]), HB5.out⟩
      · have hjN : j = N := by omega
        subst hjN
        have HT : Hid (r = true) := HR.out.1 (List.ext_getElem? (fun i => by
          by_cases hi : i < j
          · exact HS.out i hi
          · rw [List.getElem?_eq_none (by rw [HNM.out.1]; omega), List.getElem?_eq_none (by rw [HNM.out.2]; omega)]))
        go_wp2
        go_ret
        exact ⟨ret_bool (by rw [HT.out]), HB.out⟩
  · have hnmI : ¬ (N : Int) = (M : Int) := by omega
    have HF : Hid (r = false) := by
      show r = false
      cases hrr : r with
      | false => rfl
      | true =>
        have h9 := HR.out.2 hrr
        exact absurd (by rw [← HNM.out.1, ← HNM.out.2, h9]) hnm
    go_wp2
    go_ret
    exact ⟨ret_bool (by rw [HF.out]), Below.refl _ _⟩

end Go.Proofs.Ytbmpnafbmgcniaa

/- LeafBack answers true. -/
namespace Go.Proofs.Ytbmpnafbmgcniaa
set_option maxRecDepth 20000
open Go.RowKit
set_option linter.unusedVariables false

theorem leafB_most {es : List EnB} (h : chkLf es = 0) : (leafB es).length ≤ 40000 := by
  obtain ⟨h1, h2, h3⟩ := chkLf_ok.1 h
  unfold leafB
  rw [List.length_append, List.length_append, wordsB_len, startsTo_len, show (wordB ((es.length + 3) / 4)).length = 2 from rfl]
  have := bodyTo_most h2 es.length h1
  omega

theorem enB_short {es : List EnB} (h : chkLf es = 0) : ∀ e ∈ es, e.1.length ≤ 1000000 ∧ e.2.2.2.length ≤ 1000000 := fun e he => by
  obtain ⟨_, a, _, _, b, _⟩ := chkEn_ok ((chkLf_ok.1 h).2.1 e he)
  omega

/-- what is built is read as itself -/
theorem own_cel {B : Nat} {w : World} {g n c : Nat} {l : List UInt8} (h : Own B w (.slice (some ⟨g, 0, none⟩) n c) l) : Cel w g 0 l ∧ l.length ≤ c ∧ c ≤ 9223372036854775807 ∧ g < w.heap.size := by
  refine ⟨Own.spots h, ?_, ?_, h.lt.2⟩
  · obtain ⟨g', k', c', e, _, _, h1, h2, _⟩ := h
    simp only [Value.slice.injEq] at e
    obtain ⟨_, _, rfl⟩ := e
    exact h1
  · obtain ⟨g', k', c', e, _, _, h1, h2, _⟩ := h
    simp only [Value.slice.injEq] at e
    obtain ⟨_, _, rfl⟩ := e
    unfold maxLen at h2
    omega

set_option maxHeartbeats 4000000 in
theorem lback (w : World) (v : Value) (es : List EnB) (hv : ArgE w v es) :
    Calls Try.prog 5 #[v] w fun e w' => e = .returned (.bool true) ∧ Below w.heap.size w w' := by
  have HV : Hid (ArgE w v es) := hv
  obtain ⟨va, vc, rfl⟩ := hv.shape
  clear hv
  go_enter Try.func5, Try.ntmps5
  go_wp2_with fail
  refine (lawake_any w).mono ?_
  rintro e w1 ⟨rfl, hb1⟩
  have HB1 : Hid (Below w.heap.size w w1) := hb1
  have hfw := fewE_any w1 _ es 64 (argE_below HV.out hb1 (Nat.le_refl _)) (by decide)
  clear hb1
  go_wp2_with fail
  refine hfw.mono ?_
  rintro e w2 ⟨x2, rfl, o2, hb2⟩
  have HB2 : Hid (Below w.heap.size w w2) := bsplit HB1.out hb2
  obtain ⟨FE, hFE⟩ : ∃ F, fewE 64 es = F := ⟨_, rfl⟩
  have hFl : FE.length ≤ 64 := by rw [← hFE]; exact fewE_len _ _
  rw [hFE] at o2
  have hso := sort_any w2 x2 FE o2.rd (by omega)
  obtain ⟨xa2, xc2, rfl⟩ := o2.shape
  have hok := sortE_ok hFl
  clear hfw hb2 o2 hFE
  go_wp2_with fail
  refine hso.mono ?_
  rintro e w3 ⟨x3, rfl, o3, hb3⟩
  have HB3 : Hid (Below w.heap.size w w3) := bsplit HB2.out hb3
  obtain ⟨SE, hSE⟩ : ∃ S, sortE FE = S := ⟨_, rfl⟩
  rw [hSE] at o3 hok
  have HR3 : Hid (RdE w3 x3 SE) := o3.rd hb3
  have HOK : Hid (chkLf SE = 0) := hok
  have htw := twins_any w3 x3 SE (rdE_arg (o3.rd hb3)) (by have := (chkLf_ok.1 hok).1; omega) (enB_short hok)
  obtain ⟨xa3, xc3, rfl⟩ := (o3.rd hb3).shape
  obtain ⟨N, hN⟩ : ∃ N, SE.length = N := ⟨_, rfl⟩
  rw [hN] at HR3 htw ⊢
  clear hso hb3 o3 hSE hok
  go_wp2_with fail
  refine htw.mono ?_
  rintro e w4 ⟨x4, rfl, o4, hb4⟩
  have HB4 : Hid (Below w.heap.size w w4) := bsplit HB3.out hb4
  have HR4 : Hid (RdE w4 (.slice xa3 N xc3) SE) := rdE_below HR3.out hb4 (Nat.le_refl _)
  have hbu := lbuild_ok w4 x4 SE o4.rd HOK.out
  obtain ⟨xa4, xc4, rfl⟩ := o4.shape
  rw [hN] at hbu ⊢
  clear htw hb4 o4 hN
  go_wp2_with fail
  refine hbu.mono ?_
  rintro e w5 ⟨p, rfl, op, hb5⟩
  have HB5 : Hid (Below w.heap.size w w5) := bsplit HB4.out hb5
  have HR5 : Hid (RdE w5 (.slice xa3 N xc3) SE) := rdE_below HR4.out hb5 (Nat.le_refl _)
  obtain ⟨gp, cp, rfl⟩ := op.shape
  obtain ⟨k1, k2, k3, k4⟩ := own_cel op
  have hrd := lread_any w5 gp 0 cp (leafB SE) k1 k2 k3 (by have := leafB_most HOK.out; omega) k4
  unfold RdLPost at hrd
  rw [readL_leaf HOK.out] at hrd
  obtain ⟨QL, hQL⟩ : ∃ n, (leafB SE).length = n := ⟨_, rfl⟩
  rw [hQL] at hrd ⊢
  clear hbu hb5 op hQL k1 k2 k3 k4
  go_wp2_with fail
  refine hrd.mono ?_
  rintro e w6 ⟨hb6, x6, rfl, r6⟩
  have HB6 : Hid (Below w.heap.size w w6) := bsplit HB5.out hb6
  have hsm := sameens_any w6 x6 _ SE SE true r6 (rdE_below HR5.out hb6 (Nat.le_refl _)) ⟨fun _ => rfl, fun _ => rfl⟩
  obtain ⟨xa6, xc6, rfl⟩ := r6.shape
  clear hrd hb6 r6
  go_wp2_with fail
  refine hsm.mono ?_
  rintro e w7 ⟨rfl, hb7⟩
  have HB7 : Hid (Below w.heap.size w w7) := bsplit HB6.out hb7
  clear hsm hb7
  go_wp2
  go_ret
  exact ⟨rfl, HB7.out⟩

theorem leafBack_walk (a0 : Option Addr) (len0 cap0 : Nat) (z0 : List EnB) (w : World) (w0 : ArgE w (.slice a0 len0 cap0) z0 ∧ ∀ e ∈ z0, e.2.1 < 18446744073709551616) :
    Calls Try.prog 5 #[.slice a0 len0 cap0] w fun e w' => e = .returned (.bool true) ∧ Below w.heap.size w w' :=
  lback w _ z0 w0.1

end Go.Proofs.Ytbmpnafbmgcniaa
