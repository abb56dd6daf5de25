/- Several texts in one. -/
import Derived.Test.YtdopfijoplldkaaHeld
import Derived.Test.YtdopfijoplldkaaLfPure
import Derived.Test.YtdopfijoplldkaaJoin
import Derived.BigQuiet
import Derived.Test.YtdopfijoplldkaaEnRow
import Derived.Test.YtdopfijoplldkaaLfForm

/- Small things, of rounds behind the sixth. -/
namespace Go.Proofs.Ytdopfijoplldkaa
open Go.RowKit

theorem Rd.spots {w : World} {v : Value} {l : List UInt8} (h : Rd w v l) : ∃ ao cap, v = .slice ao l.length cap ∧ l.length ≤ cap ∧ cap ≤ 9223372036854775807 ∧ ∀ j (h : j < l.length), ∃ b off, ao = some ⟨b, off, none⟩ ∧ w.cell? ⟨b, off + j, none⟩ = some (.int .u8 ((l[j]).toNat : Int)) := by
  rcases h with ⟨rfl, rfl⟩ | ⟨b, off, cap, rfl, h1, h2, h3⟩
  · exact ⟨none, 0, rfl, Nat.le_refl _, by omega, fun j h => absurd h (Nat.not_lt_zero _)⟩
  · exact ⟨_, cap, rfl, h1, by unfold maxLen at h2; omega, fun j h => ⟨b, off, rfl, h3 j _ (bv_get l j h)⟩⟩

theorem Own.spots {B : Nat} {w : World} {g n k : Nat} {l : List UInt8} (h : Own B w (.slice (some ⟨g, 0, none⟩) n k) l) : ∀ j u, (bv l)[j]? = some u → w.cell? ⟨g, 0 + j, none⟩ = some u := fun j u hu => by
  have := (rd_cells h.rd).2 j u hu
  rwa [Addr.add_lit] at this

/-- texts in a row, as a literal lays them -/
theorem rdl_many (w : World) (vs : List Value) (ls : List (List UInt8)) (n : Nat) (hl : vs.length = n) (hl2 : ls.length = n) (hm : n ≤ maxLen) (hn : 0 < n) (h : ∀ j (h1 : j < vs.length) (h2 : j < ls.length), Rd w vs[j] ls[j]) :
    RdL (w.alloc (.cells vs.toArray 26)) (.slice (some ⟨w.heap.size, 0, none⟩) n n) ls := by
  subst hl2
  refine .inr ⟨w.heap.size, 0, _, rfl, Nat.le_refl _, hm, fun j hj => ?_⟩
  refine ⟨vs[j]'(by omega), ?_, (h j (by omega) hj).below (below_box4 w _) (Nat.le_refl _)⟩
  have h0 := heap_alloc_new w (.cells vs.toArray 26)
  rw [cell_of_row _ _ _ _ _ _ h0]
  simp

theorem byteI {a b : UInt8} : ((a.toNat : Int) = (b.toNat : Int)) ↔ a = b := ⟨fun h => UInt8.toNat_inj.1 (by omega), fun h => by rw [h]⟩

end Go.Proofs.Ytdopfijoplldkaa

/- leaf.num, word, common, formOf, packed. -/
namespace Go.Proofs.Ytdopfijoplldkaa
set_option maxRecDepth 20000
open Go.RowKit
set_option linter.unusedVariables false

theorem lnum_any (w : World) (n : Nat) (h : n ≤ 1000000) :
    Calls Try.prog 48 #[.int .i64 (n : Int)] w fun e w' => ∃ v, e = .returned v ∧ Own w.heap.size w' v (Mth.numB n) ∧ Below w.heap.size w w' := by
  have hn := num_any n w (by omega)
  have hw : IntKind.u64.wrap (n : Int) = (n : Int) := by rw [IntKind.wrap_u64]; omega
  go_enter Try.func48, Try.ntmps48
  go_wp2_with fail
  refine hn.mono ?_
  rintro e w1 ⟨v, rfl, ov, hb⟩
  clear hn
  go_wp2
  go_ret
  exact ⟨_, rfl, ov, hb⟩

theorem byte_of (n : Nat) : ((UInt8.ofNat n).toNat : Int) = ((n % 256 : Nat) : Int) := by simp

theorem lword_any (w : World) (n : Nat) (h : n < 65536) :
    Calls Try.prog 34 #[.int .i64 (n : Int)] w fun e w' => ∃ v, e = .returned v ∧ Own w.heap.size w' v (wordB n) ∧ Below w.heap.size w w' := by
  have hq : (n : Int) / 256 = ((n / 256 : Nat) : Int) := by omega
  obtain ⟨q, hqq⟩ : ∃ q, n / 256 = q := ⟨_, rfl⟩
  rw [hqq] at hq
  have hq2 : q < 256 := by omega
  have hw1 : IntKind.u8.wrap (n : Int) = ((n % 256 : Nat) : Int) := by rw [IntKind.wrap_u8]; omega
  obtain ⟨r, hrr⟩ : ∃ r, n % 256 = r := ⟨_, rfl⟩
  rw [hrr] at hw1
  have hr2 : r < 256 := by omega
  have hw2 : IntKind.u8.wrap (q : Int) = (q : Int) := by rw [IntKind.wrap_u8]; omega
  have HE : Hid (wordB n = [UInt8.ofNat r, UInt8.ofNat q]) := by show _ = _; unfold wordB; rw [hqq, hrr]
  have hl : Own w.heap.size (w.alloc (.cells #[.int .u8 (r : Int), .int .u8 (q : Int)] 5)) (.slice (some ⟨w.heap.size, 0, none⟩) 2 2) [UInt8.ofNat r, UInt8.ofNat q] :=
    own_lit w w.heap.size (Nat.le_refl _) [UInt8.ofNat r, UInt8.ofNat q] (by simp [maxLen]) _ (by simp [bv]; omega)
  have HL : Hid _ := hl
  have hb := below_box4 w (.cells #[.int .u8 (r : Int), .int .u8 (q : Int)] 5)
  have HB : Hid _ := hb
  clear hqq hrr hl hb
  go_enter Try.func34, Try.ntmps34
  go_wp2
  go_ret
  exact ⟨_, rfl, by rw [HE.out]; exact HL.out, HB.out⟩

theorem lform_any (w : World) (v : Value) (l : List UInt8) (s k : Nat) (hv : Rd w v l) (hs : s ≤ 72057594037927935) (hk : k < 256) (hc : chk l.length s k = 0) (hl : l.length ≤ 64) :
    Calls Try.prog 32 #[.agg #[v, .int .u64 (s : Int), .int .u8 (k : Int)]] w fun e w' => ∃ x, e = .returned x ∧ Rd w' x (l ++ tailB s k) ∧ From w.heap.size x ∧ Below w.heap.size w w' := by
  obtain ⟨ao, cap, rfl⟩ := hv.len
  obtain ⟨n, hn⟩ : ∃ n, l.length = n := ⟨_, rfl⟩
  have hb0 := below_box w #[.slice ao l.length cap, .int .u64 (s : Int), .int .u8 (k : Int)] 37
  have hkb := keybytes_ok (w.alloc (.cells #[.slice ao l.length cap, .int .u64 (s : Int), .int .u8 (k : Int)] 37)) _ l s k (hv.below hb0 (Nat.le_refl _)) hs hk hc hl
  have BX := box_new w (.slice ao l.length cap) (.int .u64 (s : Int)) (.int .u8 (k : Int)) 37
  have BX' := BX
  obtain ⟨L, hL⟩ : ∃ L, (keyB l s k).length = L := ⟨_, rfl⟩
  have hn1 : Mth.numB l.length = [UInt8.ofNat l.length] := by unfold Mth.numB; rw [if_pos (by omega)]
  have hLn : L = n + 9 := by rw [← hL, ← hn]; unfold keyB textB; rw [hn1]; simp [tailB_len]
  have HD : Hid ((keyB l s k).drop 1 = l ++ tailB s k) := by show _ = _; unfold keyB textB; rw [hn1]; rfl
  rw [hn] at hkb hb0 BX BX' hl ⊢
  have HB0 : Hid _ := hb0
  have HL : Hid ((keyB l s k).length = L) := hL
  have e1 : (L : Int) - 8 = ((n + 1 : Nat) : Int) := by omega
  obtain ⟨A, hA⟩ : ∃ A, n + 1 = A := ⟨_, rfl⟩
  rw [hA] at e1
  have e2 : (A : Int) - (n : Int) = 1 := by omega
  have hL1 : (1 : Int) ≤ (L : Int) := by omega
  have hL2 : (L : Int) ≤ 1000 := by omega
  have hA1 : (A : Int) ≤ 1000 := by omega
  have hA0 : (0 : Int) ≤ (A : Int) := by omega
  have HLN : Hid (L = n + 9) := hLn
  clear hv hc hL hn hA hLn hb0 hn1
  obtain ⟨c0, c1, c2, _⟩ := BX'
  go_enter Try.func32, Try.ntmps32
  go_wp2_with fail
  refine hkb.mono ?_
  rintro e w1 ⟨x, rfl, ox, hb1⟩
  obtain ⟨g, kc, rfl⟩ := ox.shape
  rw [HL.out] at ox ⊢
  clear c0 c1 c2
  obtain ⟨c0, c1, c2, _⟩ := BX.below hb1 (Nat.le_refl _)
  have hcap : Hid (L ≤ kc ∧ kc ≤ maxLen) := by
    obtain ⟨g', k', c', e, _, _, h1, h2, _⟩ := ox
    simp only [Value.slice.injEq] at e
    obtain ⟨_, _, rfl⟩ := e
    rw [HL.out] at h1
    exact ⟨h1, h2⟩
  have hck : (1 : Int) ≤ (kc : Int) := by have := hcap.out.1; omega
  have hck1 : ¬ kc = 1 := by have := hcap.out.1; have := HLN.out; omega
  have hck2 : ¬ (kc : Int) = 1 := by omega
  have hLk : (L : Int) ≤ (kc : Int) := by have := hcap.out.1; omega
  have HOX : Hid _ := ox
  have HB1 : Hid _ := bsplit HB0.out hb1
  clear hkb hb1 BX ox
  go_wp2
  go_ret
  refine ⟨_, rfl, ?_, from_at (Nat.le_trans (Nat.le_succ _) (by have := (Own.lt (show Own _ w1 (.slice (some ⟨g, 0, none⟩) L kc) (keyB l s k) from HOX.out)).1; simpa using this)), HB1.out⟩
  have h9 := Own.spots (show Own _ w1 (.slice (some ⟨g, 0, none⟩) L kc) (keyB l s k) from HOX.out)
  have h8 := rd_sub h9 1 (L - 1) (kc - 1) (by have := hcap.out; omega) (by have := hcap.out; omega) (by rw [HL.out]; have := HLN.out; omega)
  rw [List.take_of_length_le (by rw [List.length_drop, HL.out]; exact Nat.le_refl _), HD.out] at h8
  exact h8

set_option maxHeartbeats 4000000 in
theorem lcommon_any (w : World) (va vb : Value) (l m : List UInt8) (ha : Rd w va l) (hb : Rd w vb m) :
    Calls Try.prog 33 #[va, vb] w fun e w' => e = .returned (.int .i64 (comN l m : Int)) ∧ Below w.heap.size w w' := by
  obtain ⟨a1, a2, rfl, h1, h2, h3⟩ := Rd.spots ha
  obtain ⟨b1, b2, rfl, k1, k2, k3⟩ := Rd.spots hb
  obtain ⟨N, hN⟩ : ∃ N, l.length = N := ⟨_, rfl⟩
  obtain ⟨M, hM⟩ : ∃ M, m.length = M := ⟨_, rfl⟩
  rw [hN] at h1 ⊢
  rw [hM] at k1 ⊢
  have HNM : Hid (l.length = N ∧ m.length = M) := ⟨hN, hM⟩
  have H3 : Hid _ := h3
  have K3 : Hid _ := k3
  clear hN hM h3 k3 ha hb
  go_enter Try.func33, Try.ntmps33
  go_wp2_with fail
  go_loopg [5] N (fun gk iv wr => ∃ j : Nat, gk + j = N ∧ j ≤ M ∧ iv = .int .i64 (j : Int) ∧ Hid (∀ i, i < j → l[i]? = m[i]?) ∧ Hid (Below w.heap.size w wr))
  case atStart => exact ⟨0, by omega, by omega, rfl, fun i h => absurd h (Nat.not_lt_zero _), Below.refl _ _⟩
  case round =>
    obtain ⟨j, hj, hjM, rfl, HS, HW⟩ := hrel
    have HEND : Hid ((j < N → j < M → l[j]? ≠ m[j]?) → comN l m = j) := fun h => comN_is j l m (by rw [HNM.out.1]; omega) (by rw [HNM.out.2]; omega) HS.out (by rw [HNM.out.1, HNM.out.2]; exact h)
    by_cases hlt : j < N
    · have hltI : (j : Int) < (N : Int) := by omega
      by_cases hlt2 : j < M
      · have hltI2 : (j : Int) < (M : Int) := by omega
        have l1 : j < l.length := by rw [HNM.out.1]; exact hlt
        have l2 : j < m.length := by rw [HNM.out.2]; exact hlt2
        obtain ⟨p, o, rfl, hc⟩ := H3.out j l1
        obtain ⟨p', o', rfl, hd⟩ := K3.out j l2
        have hc' : wr.cell? ⟨p, o + j, none⟩ = some (.int .u8 ((l[j]).toNat : Int)) := (HW.out.cell (p := ⟨p, o + j, none⟩) (World.block_lt_of_cell? w _ hc)).trans hc
        have hd' : wr.cell? ⟨p', o' + j, none⟩ = some (.int .u8 ((m[j]).toNat : Int)) := (HW.out.cell (p := ⟨p', o' + j, none⟩) (World.block_lt_of_cell? w _ hd)).trans hd
        obtain ⟨x, hx⟩ : ∃ x, ((l[j]).toNat : Int) = x := ⟨_, rfl⟩
        obtain ⟨y, hy⟩ : ∃ y, ((m[j]).toNat : Int) = y := ⟨_, rfl⟩
        have HXY : Hid (x = y ↔ l[j] = m[j]) := by show _ ↔ _; rw [← hx, ← hy]; exact byteI
        rw [hx] at hc'
        rw [hy] at hd'
        obtain ⟨q1, q2⟩ := gk_nxt hj hlt
        clear hc hd hx hy
        by_cases hxy : x = y
        · subst hxy
          have HS2 : Hid (∀ i, i < j + 1 → l[i]? = m[i]?) := fun i hi => by
            by_cases e : i = j
            · subst e; rw [List.getElem?_eq_getElem l1, List.getElem?_eq_getElem l2, HXY.out.1 rfl]
            · exact HS.out i (by omega)
          go_wp2_with fail
          go_quiet (fail)
          go_wp2_with fail
          go_roundg (gk - 1)
          case measure => exact q1
          case rel => exact ⟨j + 1, q2, by omega, by go_num, HS2, below_drewN HW.out _⟩
        · have HF : Hid (comN l m = j) := HEND.out fun _ _ e => hxy (HXY.out.2 (by rw [List.getElem?_eq_getElem l1, List.getElem?_eq_getElem l2] at e; exact Option.some.inj e))
          go_wp2_with fail
          go_quiet (fail)
          go_wp2
          go_ret
          exact ⟨ret_int (by rw [HF.out]), below_drewN HW.out _⟩
      · have hltI2 : ¬ (j : Int) < (M : Int) := by omega
        have hlb2 : decide ((j : Int) < (M : Int)) = false := decide_eq_false hltI2
        have HF : Hid (comN l m = j) := HEND.out fun _ h => absurd h hlt2
        go_wp2_with fail
        go_quiet (fail)
        go_wp2
        go_ret
        exact ⟨ret_int (by rw [HF.out]), below_drewN HW.out _⟩
    · have hltI : ¬ (j : Int) < (N : Int) := by omega
      have hlb : decide ((j : Int) < (N : Int)) = false := decide_eq_false hltI
      have HF : Hid (comN l m = j) := HEND.out fun h => absurd h hlt
      go_wp2_with fail
      go_quiet (fail)
      go_wp2
      go_ret
      exact ⟨ret_int (by rw [HF.out]), below_drewN HW.out _⟩

set_option maxHeartbeats 4000000 in
theorem lpacked_any (w : World) (n : Nat) (vf vv : Value) (f v : List UInt8) (hf : Rd w vf (f.drop n)) (hv : Rd w vv v) (hn : n ≤ f.length) (hfl : f.length ≤ 100000) (hvl : v.length ≤ 100000) :
    Calls Try.prog 35 #[.int .i64 (n : Int), vf, vv] w fun e w' => ∃ x, e = .returned x ∧ Own w.heap.size w' x (packB n f v) ∧ Below w.heap.size w w' := by
  obtain ⟨a1, a2, rfl⟩ := hf.len
  obtain ⟨b1, b2, rfl⟩ := hv.len
  obtain ⟨N, hN⟩ : ∃ N, (f.drop n).length = N := ⟨_, rfl⟩
  obtain ⟨M, hM⟩ : ∃ M, v.length = M := ⟨_, rfl⟩
  have hNN : N = f.length - n := by rw [← hN, List.length_drop]
  have HE : Hid (packB n f v = [Mth.numB n, Mth.numB N, Mth.numB M, f.drop n, v].flatten) := by show _ = _; unfold packB; rw [← hNN, hM]; simp
  rw [hN] at hf ⊢
  rw [hM] at hv ⊢
  have HFV : Hid (Rd w (.slice a1 N a2) (f.drop n) ∧ Rd w (.slice b1 M b2) v) := ⟨hf, hv⟩
  have HLL : Hid (n ≤ 100000 ∧ N ≤ 100000 ∧ M ≤ 100000) := ⟨by omega, by omega, by omega⟩
  have HLF : Hid (([Mth.numB n, Mth.numB N, Mth.numB M, f.drop n, v].flatten).length ≤ 1099511627776) := by
    have h1 := Mth.numL_bd n
    have h2 := Mth.numL_bd N
    have h3 := Mth.numL_bd M
    show _ ≤ _
    simp only [List.flatten_cons, List.flatten_nil, List.append_nil, List.length_append, Mth.numB_length, hN, hM]
    omega
  clear hf hv hN hM hNN
  go_enter Try.func35, Try.ntmps35
  go_wp2_with fail
  refine (lnum_any w n (by have := HLL.out; omega)).mono ?_
  rintro e w1 ⟨v1, rfl, o1, hb1⟩
  obtain ⟨g1, c1, rfl⟩ := o1.shape
  have HB1 : Hid (Below w.heap.size w w1) := hb1
  clear hb1
  go_wp2_with fail
  refine (lnum_any w1 N (by have := HLL.out; omega)).mono ?_
  rintro e w2 ⟨v2, rfl, o2, hb2⟩
  obtain ⟨g2, c2, rfl⟩ := o2.shape
  have HB2 : Hid (Below w.heap.size w w2) := bsplit HB1.out hb2
  have o12 := o1.below hb2 (Nat.le_refl _)
  clear hb2 o1
  go_wp2_with fail
  refine (lnum_any w2 M (by have := HLL.out; omega)).mono ?_
  rintro e w3 ⟨v3, rfl, o3, hb3⟩
  obtain ⟨g3, c3, rfl⟩ := o3.shape
  have HB3 : Hid (Below w.heap.size w w3) := bsplit HB2.out hb3
  have hrl := rdl_many w3 [.slice (some ⟨g1, 0, none⟩) (Mth.numB n).length c1, .slice (some ⟨g2, 0, none⟩) (Mth.numB N).length c2, .slice (some ⟨g3, 0, none⟩) (Mth.numB M).length c3, .slice a1 N a2, .slice b1 M b2] [Mth.numB n, Mth.numB N, Mth.numB M, f.drop n, v] 5 rfl rfl (by decide) (by decide) (by
    intro j h1 h2
    match j, h1, h2 with
    | 0, _, _ => exact (o12.below hb3 (Nat.le_refl _)).rd
    | 1, _, _ => exact (o2.below hb3 (Nat.le_refl _)).rd
    | 2, _, _ => exact o3.rd
    | 3, _, _ => exact HFV.out.1.below HB3.out (Nat.le_refl _)
    | 4, _, _ => exact HFV.out.2.below HB3.out (Nat.le_refl _)
    | (j + 5), h1, _ => exact absurd h1 (by simp))
  have hj := join_any _ _ _ hrl HLF.out
  obtain ⟨PK, hPK⟩ : ∃ PK, [Mth.numB n, Mth.numB N, Mth.numB M, f.drop n, v].flatten = PK := ⟨_, rfl⟩
  rw [hPK] at hj HE
  have hba := below_box4 w3 (.cells #[.slice (some ⟨g1, 0, none⟩) (Mth.numB n).length c1, .slice (some ⟨g2, 0, none⟩) (Mth.numB N).length c2, .slice (some ⟨g3, 0, none⟩) (Mth.numB M).length c3, .slice a1 N a2, .slice b1 M b2] 26)
  have HBA : Hid _ := bsplit HB3.out hba
  clear hb3 o12 o2 o3 hrl hba hPK
  go_wp2_with fail
  refine hj.mono ?_
  rintro e w4 ⟨v4, rfl, o4, hb4⟩
  obtain ⟨g4, c4, rfl⟩ := o4.shape
  have HB4 : Hid _ := bsplit HBA.out hb4
  have HO : Hid (Own w.heap.size w4 (.slice (some ⟨g4, 0, none⟩) PK.length c4) PK) := o4.mono HBA.out.size
  clear hj hb4 o4
  go_wp2
  go_ret
  exact ⟨_, rfl, by rw [HE.out]; exact HO.out, HB4.out⟩

end Go.Proofs.Ytdopfijoplldkaa

/- bartizanref03.Few: entries, not too many, nor too long; Twins: entries of their own. -/
namespace Go.Proofs.Ytdopfijoplldkaa
open Go.RowKit
set_option linter.unusedVariables false

/-- an entry, cut -/
def cutE (e : EnB) : EnB := (e.1.take 80, e.2.1, e.2.2.1, e.2.2.2.take 600)

def fewE (n : Nat) (es : List EnB) : List EnB := (es.take n).map cutE

theorem fewE_take {n : Nat} {es : List EnB} {j : Nat} (h : j < es.length) (hn : j < n) : fewE n (es.take (j + 1)) = fewE n (es.take j) ++ [cutE es[j]] := by
  unfold fewE
  rw [List.take_take, List.take_take, Nat.min_eq_right (by omega), Nat.min_eq_right (by omega), List.take_succ_eq_append_getElem h, List.map_append]
  rfl

theorem fewE_stay {n : Nat} {es : List EnB} {j : Nat} (hn : ¬ j < n) : fewE n (es.take (j + 1)) = fewE n (es.take j) := by
  unfold fewE
  rw [List.take_take, List.take_take, Nat.min_eq_left (by omega), Nat.min_eq_left (by omega)]

theorem fewE_len (n : Nat) (es : List EnB) : (fewE n es).length ≤ n := by
  unfold fewE; rw [List.length_map, List.length_take]; omega

theorem ownrow_len {B n m c : Nat} {w : World} {a : Option Addr} {e : TypeId} {s : Nat} {cs : List Value} (h : w.ownsRow B e s (.slice a m c) n cs) : m = n := by
  rcases h.2 with ⟨e1, e2⟩ | ⟨g, cap', cur, e1, _⟩
  · cases e1; exact e2.symm
  · cases e1; rfl

theorem own_ne_new {B n : Nat} {w : World} {v : Value} {e : TypeId} {s : Nat} {cs : List Value} (h : w.ownsRow B e s v n cs) : some w.heap.size ≠ v.ownBlock := by
  intro e'
  have := (h.lt _ e'.symm).2
  omega

set_option maxRecDepth 20000 in
set_option maxHeartbeats 4000000 in
theorem fewE_any (w : World) (v : Value) (es : List EnB) (n : Nat) (hv : ArgE w v es) (hn : n ≤ 1000) :
    Calls Try.prog 10 #[v, .int .i64 (n : Int)] w fun e w' => ∃ x, e = .returned x ∧ OwnE w.heap.size w' x (fewE n es) ∧ Below w.heap.size w w' := by
  obtain ⟨i0, hi, hz0, hz1, hz2⟩ := info_parts infoEn
  have hv0 := hv
  obtain ⟨ao, cap, rfl, h1, h2, h3⟩ := hv
  unfold maxLen at h2
  have H3 : Hid _ := hv0
  obtain ⟨N, hN⟩ : ∃ N, es.length = N := ⟨_, rfl⟩
  rw [hN] at h1 ⊢
  have HN : Hid (es.length = N) := hN
  clear hv0 h3 hN
  go_enter Try.func10, Try.ntmps10
  go_wp2_with fail
  go_loopg [5, 10] N (fun gk pv iv wr => ∃ j n' c' : Nat, ∃ a' : Option Addr, gk + j = N ∧ iv = .int .i64 (j : Int) ∧ pv = .slice a' n' c' ∧ Hid (OwnE w.heap.size wr pv (fewE n (es.take j))) ∧ Hid (Below w.heap.size w wr))
  case atStart => exact ⟨0, 0, 0, none, by omega, rfl, rfl, by show OwnE _ _ _ _; rw [List.take_zero, show fewE n [] = [] by simp [fewE]]; exact OwnE.nil _ _, Below.refl _ _⟩
  case round =>
    obtain ⟨j, n', c', a', hj, rfl, rfl, HO, HB⟩ := hrel
    by_cases hlt : j < N
    · have hlt2 : j < es.length := by rw [HN.out]; exact hlt
      obtain ⟨_, _, e, _, _, h3⟩ := argE_below (show ArgE w _ es from H3.out) HB.out (Nat.le_refl _)
      cases e
      obtain ⟨b, off, rfl, xv, yv, c0, c1, c2, c3, rx, ry⟩ := h3 j hlt2
      obtain ⟨x1, x2, ex⟩ := Arg.shape rx
      obtain ⟨y1, y2, ey⟩ := Arg.shape ry
      subst ex ey
      obtain ⟨⟨ol, osq, ok, oo⟩, ho⟩ : ∃ o, es[j] = o := ⟨_, rfl⟩
      rw [ho] at c0 c1 c2 c3 rx ry
      obtain ⟨q1, q2⟩ : gk - 1 < gk ∧ gk - 1 + (j + 1) = N := by omega
      have hfl : (fewE n (es.take j)).length = min n j := by unfold fewE; rw [List.length_map, List.length_take, List.length_take, Nat.min_eq_left (show j ≤ es.length by omega)]
      have hnl : n' = min n j := by
        obtain ⟨cs, hrow, _⟩ := HO.out
        rw [ownrow_len hrow, hfl]
      have HTL : Hid ((fewE n (es.take j)).length = n') := by show _ = _; rw [hfl, hnl]
      have HNB : Hid (n' ≤ 1000) := by show _ ≤ _; omega
      obtain ⟨kk, hkk⟩ : ∃ kk, ok.toNat = kk := ⟨_, rfl⟩
      have HKK : Hid (ok.toNat = kk) := hkk
      simp only at c0 c1 c2 c3 rx ry
      rw [hkk] at c2
      obtain ⟨nl, hnlq⟩ : ∃ nl, ol.length = nl := ⟨_, rfl⟩
      obtain ⟨oln, holn⟩ : ∃ oln, oo.length = oln := ⟨_, rfl⟩
      rw [hnlq] at rx c0
      rw [holn] at ry c3
      have HRX : Hid (Arg wr (.slice x1 nl x2) ol) := rx
      have HRY : Hid (Arg wr (.slice y1 oln y2) oo) := ry
      clear hkk rx ry h3 hnlq holn hnl hfl
      by_cases hjn : j < n
      · have hjI : (j : Int) < (n : Int) := by omega
        obtain ⟨ck, HCK⟩ : ∃ ck, Hid (ol.take 80 = ck) := ⟨_, rfl⟩
        obtain ⟨co, HCO⟩ : ∃ co, Hid (oo.take 600 = co) := ⟨_, rfl⟩
        have HR : Hid (fewE n (es.take (j + 1)) = fewE n (es.take j) ++ [(ck, osq, ok, co)]) := by show _ = _; rw [fewE_take hlt2 hjn, ho]; unfold cutE; rw [← HCK.out, ← HCO.out]
        have hb0 := below_box4 wr (.cells #[.slice x1 nl x2, .int .u64 (osq : Int), .int .u8 (kk : Int), .slice y1 oln y2] 45)
        have bx := (box4_new wr (.slice x1 nl x2) (.int .u64 (osq : Int)) (.int .u8 (kk : Int)) (.slice y1 oln y2) 45).drew
        have rx0 := arg_drew (HRX.out.below hb0 (Nat.le_refl _))
        have ry0 := arg_drew (HRY.out.below hb0 (Nat.le_refl _))
        have HO0 : Hid (OwnE w.heap.size (wr.alloc (.cells #[.slice x1 nl x2, .int .u64 (osq : Int), .int .u8 (kk : Int), .slice y1 oln y2] 45)).drew (.slice a' n' c') (fewE n (es.take j))) := (HO.out.below hb0 (Nat.le_refl _)).drew
        have HB0 : Hid (Below w.heap.size w (wr.alloc (.cells #[.slice x1 nl x2, .int .u64 (osq : Int), .int .u8 (kk : Int), .slice y1 oln y2] 45)).drew) := (HB.out.alloc HB.out.size _).drew
        have HNE : Hid (some wr.heap.size ≠ (Value.slice a' n' c').ownBlock) := by
          obtain ⟨cs, hrow, _⟩ := HO.out
          exact own_ne_new hrow
        clear ho hb0
        go_wp2_with fail
        go_region_held3 (fun w' => w'.cell? ⟨wr.heap.size, 0, none⟩ = some (.slice x1 nl x2) ∧ w'.cell? ⟨wr.heap.size, 1, none⟩ = some (.int .u64 (osq : Int)) ∧ w'.cell? ⟨wr.heap.size, 2, none⟩ = some (.int .u8 (kk : Int)) ∧ w'.cell? ⟨wr.heap.size, 3, none⟩ = some (.slice y1 oln y2))
          (first | exact ⟨b4.c0, b4.c1, b4.c2, b4.c3⟩ | exact ⟨be.c0, be.c1, be.c2, be.c3⟩ | exact ⟨by2.c0, by2.c1, by2.c2, by2.c3⟩ | exact ⟨bx2.c0, bx2.c1, bx2.c2, bx2.c3⟩ | exact ⟨bx.c0, bx.c1, bx.c2, bx.c3⟩)
          (first
            | (go_at_call 17; refine (cut_any _ _ ol 80 rx0 (by omega)).mono ?_; rintro e wx ⟨x, rfl, ox, hbx⟩; rw [HCK.out] at ox; obtain ⟨gx, kx, hx⟩ := ox.shape; subst hx; have bx2 := bx.below hbx (Nat.le_refl _); clear rx0)
            | (go_at_call 17; refine (cut_any _ _ oo 600 (ry0.below hbx (Nat.le_refl _)) (by omega)).mono ?_; rintro e wy ⟨y, rfl, oy, hby⟩; rw [HCO.out] at oy; obtain ⟨gy, ky, hy⟩ := oy.shape; subst hy; have by2 := bx2.below hby (Nat.le_refl _); have be := by2.alloc (.cells #[.slice (some ⟨gx, 0, none⟩) ck.length kx, .int .u64 (osq : Int), .int .u8 (kk : Int), .slice (some ⟨gy, 0, none⟩) co.length ky] 45))
            | (have hbe := below_box4 wy (.cells #[.slice (some ⟨gx, 0, none⟩) ck.length kx, .int .u64 (osq : Int), .int .u8 (kk : Int), .slice (some ⟨gy, 0, none⟩) co.length ky] 45)
               have hOe := ((HO0.out.below hbx (Nat.le_refl _)).below hby (Nat.le_refl _)).below hbe (Nat.le_refl _)
               have hBx := HB0.out.trans (hbx.mono HB0.out.size)
               have hBy := hBx.trans (hby.mono hBx.size)
               have hBe := hBy.trans (hbe.mono hBy.size)
               have oxe := ((ox.below hby (Nat.le_refl _)).below hbe (Nat.le_refl _))
               have oye := (oy.below hbe (Nat.le_refl _))
               obtain ⟨cs, hrow, hel⟩ := hOe
               rw [HTL.out] at hrow
               have hsz : w.heap.size ≤ wy.heap.size := hBy.size
               have hnb9 := HNB.out
               have hlow : ∀ q, (Value.slice a' n' c').ownBlock = some q → q < (wr.alloc (.cells #[.slice x1 nl x2, .int .u64 (osq : Int), .int .u8 (kk : Int), .slice y1 oln y2] 45)).drew.heap.size := fun q hq => (HO0.out.lt q hq).2
               have hlow2 : ∀ q, (Value.slice a' n' c').ownBlock = some q → q < wx.heap.size := fun q hq => Nat.lt_of_lt_of_le (hlow q hq) hbx.size
               refine step_append_lies _ rfl (.tmp 18) (.tmp 34) 22 rfl w.heap.size 45 i0 (.agg #[.slice none 0 0, .int .u64 0, .int .u8 0, .slice none 0 0]) 4 64 Try.underlying22 hi hz0 hz1 hz2 rfl (by decide) (.slice a' n' c') n' cs rfl hrow ⟨wy.heap.size, 0, none⟩ 1 1 [.slice (some ⟨gx, 0, none⟩) ck.length kx, .int .u64 (osq : Int), .int .u8 (kk : Int), .slice (some ⟨gy, 0, none⟩) co.length ky] rfl rfl (laid4 _ _ _ _ _ _) (oneE _ _ _ _ _ _ _ _) (by decide) (by simp only [maxLen]; omega) (by omega) hBe.size _ rfl ?_
               intro g4 c4 w4 hown hgrow hat hlt4
               have b4 := be.grown hgrow HNE.out
               have hown' := hown
               rw [← HKK.out] at hown'
               have HP : Hid (OwnE w.heap.size w4 (.slice (some ⟨g4, 0, none⟩) (n' + 1) c4) (fewE n (es.take j) ++ [(ck, osq, ok, co)])) := own_pushE (ck, osq, ok, co) HTL.out hrow hel ⟨oxe.rd, neb_of ox.from hlow oxe.rd⟩ ⟨oye.rd, neb_of oy.from hlow2 oye.rd⟩ hown' hgrow hat
               have HB4 : Hid (Below w.heap.size w w4) := hBe.grown hgrow hBe.size (fun k' e => (hrow.lt k' e).1))
            | fail)
        all_goals
          clear bx ry0
          go_wp2_with fail
          go_roundg (gk - 1)
          case measure => exact q1
          case rel => exact ⟨j + 1, _, c4, _, q2, by go_num, rfl, by show OwnE _ _ _ _; rw [HR.out]; exact HP.out, HB4⟩
      · have hjI : ¬ (j : Int) < (n : Int) := by omega
        have HST : Hid (fewE n (es.take (j + 1)) = fewE n (es.take j)) := fewE_stay hjn
        have hb0 := below_box4 wr (.cells #[.slice x1 nl x2, .int .u64 (osq : Int), .int .u8 (kk : Int), .slice y1 oln y2] 45)
        have HO9 : Hid _ := HO.out.below hb0 (Nat.le_refl _)
        have HB9 : Hid _ := HB.out.alloc HB.out.size (.cells #[.slice x1 nl x2, .int .u64 (osq : Int), .int .u8 (kk : Int), .slice y1 oln y2] 45)
        clear ho hb0
        go_wp2_with fail
        go_roundg (gk - 1)
        case measure => exact q1
        case rel => exact ⟨j + 1, n', c', a', q2, by go_num, rfl, by show OwnE _ _ _ _; rw [HST.out]; exact HO9.out, HB9.out⟩
    · have hjN : j = N := by omega
      subst hjN
      have HE : Hid (fewE n (es.take j) = fewE n es) := by show _ = _; rw [← HN.out, List.take_length]
      go_wp2
      go_ret
      exact ⟨_, rfl, by rw [← HE.out]; exact HO.out, HB.out⟩

end Go.Proofs.Ytdopfijoplldkaa

/- bartizanref03.Twin, Twins: entries of their own. -/
namespace Go.Proofs.Ytdopfijoplldkaa
open Go.RowKit
set_option linter.unusedVariables false

/-- an entry's value -/
abbrev enV (x : Value) (s k : Int) (y : Value) : Value := .agg #[x, .int .u64 s, .int .u8 k, y]

set_option maxRecDepth 20000 in
set_option maxHeartbeats 4000000 in
theorem twin_any (w : World) (xv yv : Value) (l m : List UInt8) (s k : Int) (hx : Arg w xv l) (hy : Arg w yv m) (hl : l.length ≤ 1000000) (hm : m.length ≤ 1000000) :
    Calls Try.prog 30 #[enV xv s k yv] w fun e w' => ∃ x y, e = .returned (enV x s k y) ∧ (Rd w' x l ∧ From w.heap.size x) ∧ (Rd w' y m ∧ From w.heap.size y) ∧ Below w.heap.size w w' := by
  obtain ⟨x1, x2, ex⟩ := Arg.shape hx
  obtain ⟨y1, y2, ey⟩ := Arg.shape hy
  subst ex ey
  obtain ⟨nl, hnl⟩ : ∃ nl, l.length = nl := ⟨_, rfl⟩
  obtain ⟨ml, hml⟩ : ∃ ml, m.length = ml := ⟨_, rfl⟩
  rw [hnl] at hx ⊢
  rw [hml] at hy ⊢
  have HLM : Hid (l.length ≤ 1000000 ∧ m.length ≤ 1000000) := ⟨hl, hm⟩
  have hb0 := below_box4 w (.cells #[.slice x1 nl x2, .int .u64 s, .int .u8 k, .slice y1 ml y2] 45)
  have hb1 := below_box4 (w.alloc (.cells #[.slice x1 nl x2, .int .u64 s, .int .u8 k, .slice y1 ml y2] 45)) (.cells #[.slice none 0 0, .int .u64 0, .int .u8 0, .slice none 0 0] 45)
  have bx := ((box4_new w (.slice x1 nl x2) (.int .u64 s) (.int .u8 k) (.slice y1 ml y2) 45).below hb1 (Nat.le_refl _)).drew
  have br := box4f_new (w.alloc (.cells #[.slice x1 nl x2, .int .u64 s, .int .u8 k, .slice y1 ml y2] 45)) (.slice none 0 0) (.int .u64 0) (.int .u8 0) (.slice none 0 0) 45
  rw [show (w.alloc (.cells #[.slice x1 nl x2, .int .u64 s, .int .u8 k, .slice y1 ml y2] 45)).heap.size = w.heap.size + 1 by simp] at br
  have rx0 := arg_drew ((hx.below hb0 (Nat.le_refl _)).below hb1 (Nat.le_refl _))
  have ry0 := arg_drew ((hy.below hb0 (Nat.le_refl _)).below hb1 (Nat.le_refl _))
  have HB1 : Hid (Below w.heap.size w ((w.alloc (.cells #[.slice x1 nl x2, .int .u64 s, .int .u8 k, .slice y1 ml y2] 45)).alloc (.cells #[.slice none 0 0, .int .u64 0, .int .u8 0, .slice none 0 0] 45)).drew) := (hb0.trans (hb1.mono hb0.size)).drew
  have HSZ : Hid (((w.alloc (.cells #[.slice x1 nl x2, .int .u64 s, .int .u8 k, .slice y1 ml y2] 45)).alloc (.cells #[.slice none 0 0, .int .u64 0, .int .u8 0, .slice none 0 0] 45)).drew.heap.size = w.heap.size + 2) := by show _ = _; simp
  have HBR : Hid (Box4f ((w.alloc (.cells #[.slice x1 nl x2, .int .u64 s, .int .u8 k, .slice y1 ml y2] 45)).alloc (.cells #[.slice none 0 0, .int .u64 0, .int .u8 0, .slice none 0 0] 45)).drew (w.heap.size + 1) (.slice none 0 0) (.int .u64 0) (.int .u8 0) (.slice none 0 0)) := ⟨br.bx.drew, br.f0, br.f1, br.f2, br.f3⟩
  clear hx hy hl hm hnl hml hb0 hb1 br
  go_enter Try.func30, Try.ntmps30
  go_wp2_with fail
  go_region_held3 (fun w' => w'.cell? ⟨w.heap.size, 0, none⟩ = some (.slice x1 nl x2) ∧ w'.cell? ⟨w.heap.size, 1, none⟩ = some (.int .u64 s) ∧ w'.cell? ⟨w.heap.size, 2, none⟩ = some (.int .u8 k) ∧ w'.cell? ⟨w.heap.size, 3, none⟩ = some (.slice y1 ml y2))
    (first | with_reducible exact ⟨bs.c0, bs.c1, bs.c2, bs.c3⟩ | with_reducible exact ⟨by2.c0, by2.c1, by2.c2, by2.c3⟩ | with_reducible exact ⟨bx2.c0, bx2.c1, bx2.c2, bx2.c3⟩ | with_reducible exact ⟨bx.c0, bx.c1, bx.c2, bx.c3⟩)
    (first
      | (go_at_call 18; refine (copy_any _ _ l rx0 (by have := HLM.out.1; omega)).mono ?_; rintro e wx ⟨x, rfl, ox, hbx⟩; obtain ⟨gx, kx, hx⟩ := ox.shape; subst hx; have bx2 := bx.below hbx (Nat.le_refl _); clear rx0)
      | (go_at_call 18; refine (copy_any _ _ m (ry0.below hbx (Nat.le_refl _)) (by have := HLM.out.2; omega)).mono ?_; rintro e wy ⟨y, rfl, oy, hby⟩; obtain ⟨gy, ky, hy⟩ := oy.shape; subst hy; have by2 := bx2.below hby (Nat.le_refl _)
         have HBY : Hid (Below w.heap.size w wy) := bsplit (bsplit HB1.out hbx) hby
         have HOX : Hid (Rd wy (.slice (some ⟨gx, 0, none⟩) l.length kx) l ∧ w.heap.size + 2 ≤ gx) := ⟨(ox.below hby (Nat.le_refl _)).rd, by have := ox.lt.1; rw [HSZ.out] at this; exact this⟩
         have HOY : Hid (Rd wy (.slice (some ⟨gy, 0, none⟩) m.length ky) m ∧ w.heap.size + 2 ≤ gy) := ⟨oy.rd, by have := oy.lt.1; have h8 := hbx.size; rw [HSZ.out] at h8; omega⟩
         have bs := by2.stored (w.heap.size + 1) (by omega) (.slice (some ⟨gx, 0, none⟩) l.length kx) (.int .u64 s) (.int .u8 k) (.slice (some ⟨gy, 0, none⟩) m.length ky)
         obtain ⟨⟨c0, c1, c2, c3⟩, f0, f1, f2, f3⟩ := (HBR.out.below hbx (Nat.le_refl _)).below hby (Nat.le_refl _))
      | fail)
  go_wp2
  refine bodyPost_ret (v := enV (.slice (some ⟨gx, 0, none⟩) l.length kx) s k (.slice (some ⟨gy, 0, none⟩) m.length ky)) (by simp [results, Try.results30, go_sem, c0, c1, c2, c3]) rfl ⟨_, _, rfl, ⟨rd_store4 HOX.out.1 (fun g hg => ?_) _ _ _ _, from_at ?_⟩, ⟨rd_store4 HOY.out.1 (fun g hg => ?_) _ _ _ _, from_at ?_⟩, below_store4 HBY.out (Nat.le_succ _) _ _ _ _⟩
  · have h9 := HOX.out.2
    simp only [Value.ownBlock, Option.some.injEq] at hg
    omega
  · have h9 := HOX.out.2
    omega
  · have h9 := HOY.out.2
    simp only [Value.ownBlock, Option.some.injEq] at hg
    omega
  · have h9 := HOY.out.2
    omega

set_option maxRecDepth 20000 in
set_option maxHeartbeats 4000000 in
theorem twins_any (w : World) (v : Value) (es : List EnB) (hv : ArgE w v es) (hn : es.length ≤ 1000) (hm : ∀ e ∈ es, e.1.length ≤ 1000000 ∧ e.2.2.2.length ≤ 1000000) :
    Calls Try.prog 12 #[v] w fun e w' => ∃ x, e = .returned x ∧ OwnE w.heap.size w' x es ∧ Below w.heap.size w w' := by
  obtain ⟨i0, hi, hz0, hz1, hz2⟩ := info_parts infoEn
  have hv0 := hv
  obtain ⟨ao, cap, rfl, h1, h2, h3⟩ := hv
  unfold maxLen at h2
  have H3 : Hid _ := hv0
  have HM : Hid _ := hm
  obtain ⟨N, hN⟩ : ∃ N, es.length = N := ⟨_, rfl⟩
  rw [hN] at h1 hn ⊢
  have HN : Hid (es.length = N) := hN
  have HNB : Hid (N ≤ 1000) := hn
  clear hv0 h3 hN hm hn
  go_enter Try.func12, Try.ntmps12
  go_wp2_with fail
  go_loopg [3, 8] N (fun gk pv iv wr => ∃ j c' : Nat, ∃ a' : Option Addr, gk + j = N ∧ iv = .int .i64 (j : Int) ∧ pv = .slice a' j c' ∧ Hid (OwnE w.heap.size wr pv (es.take j)) ∧ Hid (Below w.heap.size w wr))
  case atStart => exact ⟨0, 0, none, by omega, rfl, rfl, by show OwnE _ _ _ _; rw [List.take_zero]; exact OwnE.nil _ _, Below.refl _ _⟩
  case round =>
    obtain ⟨j, c', a', hj, rfl, rfl, HO, HB⟩ := hrel
    by_cases hlt : j < N
    · have hlt2 : j < es.length := by rw [HN.out]; exact hlt
      obtain ⟨_, _, e, _, _, h3⟩ := argE_below (show ArgE w _ es from H3.out) HB.out (Nat.le_refl _)
      cases e
      obtain ⟨b, off, rfl, xv, yv, c0, c1, c2, c3, rx, ry⟩ := h3 j hlt2
      obtain ⟨x1, x2, ex⟩ := Arg.shape rx
      obtain ⟨y1, y2, ey⟩ := Arg.shape ry
      subst ex ey
      have hbd := HM.out _ (List.getElem_mem hlt2)
      obtain ⟨⟨ol, osq, ok, oo⟩, ho⟩ : ∃ o, es[j] = o := ⟨_, rfl⟩
      rw [ho] at c0 c1 c2 c3 rx ry hbd
      obtain ⟨q1, q2⟩ := gk_nxt hj hlt
      have HTL : Hid ((es.take j).length = j) := by show _ = _; rw [List.length_take, HN.out]; omega
      have HJ : Hid (j ≤ 1000) := by show j ≤ _; have := HNB.out; omega
      obtain ⟨kk, hkk⟩ : ∃ kk, ok.toNat = kk := ⟨_, rfl⟩
      have HKK : Hid (ok.toNat = kk) := hkk
      simp only at c0 c1 c2 c3 rx ry hbd
      rw [hkk] at c2
      obtain ⟨nl, hnlq⟩ : ∃ nl, ol.length = nl := ⟨_, rfl⟩
      obtain ⟨oln, holn⟩ : ∃ oln, oo.length = oln := ⟨_, rfl⟩
      rw [hnlq] at rx c0
      rw [holn] at ry c3
      have HR : Hid (es.take (j + 1) = es.take j ++ [(ol, osq, ok, oo)]) := by show _ = _; rw [List.take_succ_eq_append_getElem hlt2, ho]
      have hb0 := below_box4 wr (.cells #[.slice x1 nl x2, .int .u64 (osq : Int), .int .u8 (kk : Int), .slice y1 oln y2] 45)
      obtain ⟨z0, z1, z2, z3⟩ := box4_new wr (.slice x1 nl x2) (.int .u64 (osq : Int)) (.int .u8 (kk : Int)) (.slice y1 oln y2) 45
      have htw := twin_any (wr.alloc (.cells #[.slice x1 nl x2, .int .u64 (osq : Int), .int .u8 (kk : Int), .slice y1 oln y2] 45)) _ _ ol oo (osq : Int) (kk : Int) (rx.below hb0 (Nat.le_refl _)) (ry.below hb0 (Nat.le_refl _)) hbd.1 hbd.2
      have HO0 : Hid (OwnE w.heap.size (wr.alloc (.cells #[.slice x1 nl x2, .int .u64 (osq : Int), .int .u8 (kk : Int), .slice y1 oln y2] 45)) (.slice a' j c') (es.take j)) := HO.out.below hb0 (Nat.le_refl _)
      have HB0 : Hid (Below w.heap.size w (wr.alloc (.cells #[.slice x1 nl x2, .int .u64 (osq : Int), .int .u8 (kk : Int), .slice y1 oln y2] 45))) := bsplit HB.out hb0
      clear ho hb0 h3 rx ry hbd hnlq holn hkk
      go_wp2_with fail
      refine htw.mono ?_
      rintro e w2 ⟨x, y, rfl, rx, ry, hb2⟩
      obtain ⟨xa, xc, rfl⟩ := rx.1.len
      obtain ⟨ya, yc, rfl⟩ := ry.1.len
      obtain ⟨l1, hl1⟩ : ∃ n, ol.length = n := ⟨_, rfl⟩
      obtain ⟨l2, hl2⟩ : ∃ n, oo.length = n := ⟨_, rfl⟩
      rw [hl1] at rx ⊢
      rw [hl2] at ry ⊢
      have hbe := below_box4 w2 (.cells #[.slice xa l1 xc, .int .u64 (osq : Int), .int .u8 (kk : Int), .slice ya l2 yc] 45)
      have hlit := laid4 w2 (.slice xa l1 xc) (.int .u64 (osq : Int)) (.int .u8 (kk : Int)) (.slice ya l2 yc) 45
      have hlow : ∀ q, (Value.slice a' j c').ownBlock = some q → q < (wr.alloc (.cells #[.slice x1 nl x2, .int .u64 (osq : Int), .int .u8 (kk : Int), .slice y1 oln y2] 45)).heap.size := fun q hq => (HO0.out.lt q hq).2
      have HXE : Hid (Rd _ (.slice xa l1 xc) ol ∧ NeB (.slice xa l1 xc) ol (.slice a' j c')) := ⟨rx.1.below hbe (Nat.le_refl _), neb_of rx.2 hlow rx.1⟩
      have HYE : Hid (Rd _ (.slice ya l2 yc) oo ∧ NeB (.slice ya l2 yc) oo (.slice a' j c')) := ⟨ry.1.below hbe (Nat.le_refl _), neb_of ry.2 hlow ry.1⟩
      have HBE : Hid (Below w.heap.size w (w2.alloc (.cells #[.slice xa l1 xc, .int .u64 (osq : Int), .int .u8 (kk : Int), .slice ya l2 yc] 45))) := bsplit (bsplit HB0.out hb2) hbe
      have hse := HBE.out.size
      obtain ⟨cs, hrow, hel⟩ := (HO0.out.below hb2 (Nat.le_refl _)).below hbe (Nat.le_refl _)
      rw [HTL.out] at hrow
      have HEL : Hid _ := hel
      have HRW : Hid _ := hrow
      clear htw hb2 rx ry hl1 hl2 hbe hel hlow z0 z1 z2 z3
      go_wp2_with (first | (at_builtin; refine wpList_append_lies _ rfl (.tmp 12) (.tmp 15) 22 rfl w.heap.size 45 i0 (.agg #[.slice none 0 0, .int .u64 0, .int .u8 0, .slice none 0 0]) 4 64 Try.underlying22 hi hz0 hz1 hz2 rfl (by decide) (.slice a' j c') j cs rfl hrow ⟨w2.heap.size, 0, none⟩ 1 1 [.slice xa l1 xc, .int .u64 (osq : Int), .int .u8 (kk : Int), .slice ya l2 yc] rfl rfl hlit (oneE _ _ _ _ _ _ _ _) (by decide) (by have := HJ.out; simp only [maxLen]; omega) (by have := HJ.out; omega) hse _ rfl ?_; intro g4 c4 w4 hown hgrow hat hlt4; rw [← HKK.out] at hown; have HP : Hid (OwnE w.heap.size w4 (.slice (some ⟨g4, 0, none⟩) (j + 1) c4) (es.take j ++ [(ol, osq, ok, oo)])) := own_pushE (ol, osq, ok, oo) HTL.out HRW.out HEL.out HXE.out HYE.out hown hgrow hat; have HB4 : Hid (Below w.heap.size w w4) := HBE.out.grown hgrow HBE.out.size (fun k' e => (hrow.lt k' e).1); clear hown hgrow hat hlt4) | fail)
      clear hrow hlit hse
      go_roundg (gk - 1)
      case measure => exact q1
      case rel => exact ⟨j + 1, c4, _, q2, by go_num, rfl, by show OwnE _ _ _ _; rw [HR.out]; exact HP.out, HB4⟩
    · have hjN : j = N := by omega
      subst hjN
      have HE : Hid (es.take j = es) := by show _ = _; rw [← HN.out, List.take_length]
      go_wp2
      go_ret
      exact ⟨_, rfl, by rw [← HE.out]; exact HO.out, HB.out⟩

end Go.Proofs.Ytdopfijoplldkaa

/- leaf.check and bartizanref12.Check. -/
namespace Go.Proofs.Ytdopfijoplldkaa
open Go.RowKit
set_option linter.unusedVariables false

theorem wrap_decr (j : Nat) (h : j ≤ 1000000) : (IntKind.i64.wrap ((j : Int) + 1 - 1) = (j : Int) ∧ wrap64 ((j : Int) + 1 - 1) = (j : Int)) ∧ IntKind.i64.wrap (j : Int) = (j : Int) ∧ wrap64 (j : Int) = (j : Int) := by
  refine ⟨⟨?_, ?_⟩, ?_, ?_⟩
  · rw [IntKind.wrap_i64]; omega
  · unfold wrap64; omega
  · rw [IntKind.wrap_i64]; omega
  · unfold wrap64; omega

/-- two entries that stand behind one another -/
structure Two4 (w : World) (p o j : Nat) (x1 : Option Addr) (m1 x2 : Nat) (s1 k1 : Int) (x3 : Option Addr) (m2 x4 : Nat) (s2 k2 : Int) : Prop where
  a0 : w.cell? ⟨p, o + j * 4, none⟩ = some (.slice x1 m1 x2)
  a1 : w.cell? ⟨p, o + j * 4 + 1, none⟩ = some (.int .u64 s1)
  a2 : w.cell? ⟨p, o + j * 4 + 2, none⟩ = some (.int .u8 k1)
  b0 : w.cell? ⟨p, o + (j + 1) * 4, none⟩ = some (.slice x3 m2 x4)
  b1 : w.cell? ⟨p, o + (j + 1) * 4 + 1, none⟩ = some (.int .u64 s2)
  b2 : w.cell? ⟨p, o + (j + 1) * 4 + 2, none⟩ = some (.int .u8 k2)

theorem Two4.below {B : Nat} {w w' : World} {p o j : Nat} {x1 : Option Addr} {m1 x2 : Nat} {s1 k1 : Int} {x3 : Option Addr} {m2 x4 : Nat} {s2 k2 : Int} (h : Two4 w p o j x1 m1 x2 s1 k1 x3 m2 x4 s2 k2) (hb : Below B w w') (hB : w.heap.size ≤ B) : Two4 w' p o j x1 m1 x2 s1 k1 x3 m2 x4 s2 k2 := by
  have hl : p < B := Nat.lt_of_lt_of_le (World.block_lt_of_cell? w _ h.a0) hB
  exact ⟨(hb.cell (p := ⟨p, o + j * 4, none⟩) hl).trans h.a0, (hb.cell (p := ⟨p, o + j * 4 + 1, none⟩) hl).trans h.a1, (hb.cell (p := ⟨p, o + j * 4 + 2, none⟩) hl).trans h.a2, (hb.cell (p := ⟨p, o + (j + 1) * 4, none⟩) hl).trans h.b0, (hb.cell (p := ⟨p, o + (j + 1) * 4 + 1, none⟩) hl).trans h.b1, (hb.cell (p := ⟨p, o + (j + 1) * 4 + 2, none⟩) hl).trans h.b2⟩

set_option maxRecDepth 20000 in
set_option maxHeartbeats 4000000 in
theorem lcheck_any (w : World) (v : Value) (es : List EnB) (c : Int) (hv : RdE w v es) (hc : chkLf es = c) :
    Calls Try.prog 31 #[v] w fun e w' => e = .returned (.int .i64 c) ∧ Below w.heap.size w w' := by
  have HV : Hid (RdE w v es) := hv
  obtain ⟨ao, cap, rfl, h1, h2, _⟩ := hv
  unfold maxLen at h2
  obtain ⟨N, hN⟩ : ∃ N, es.length = N := ⟨_, rfl⟩
  rw [hN] at h1 HV ⊢
  have HN : Hid (es.length = N) := hN
  have HC : Hid (chkLf es = c) := hc
  clear hN hc
  go_enter Try.func31, Try.ntmps31
  by_cases h64 : 64 < N
  · have hI : (64 : Int) < (N : Int) := by omega
    have HE : Hid (c = 3) := by show c = 3; rw [← HC.out]; unfold chkLf; rw [HN.out, if_pos h64]
    go_wp2
    go_ret
    exact ⟨ret_int HE.out.symm, Below.refl _ _⟩
  · have hI : ¬ (64 : Int) < (N : Int) := by omega
    have hN64 : N ≤ 64 := by omega
    go_wp2_with fail
    go_loopg [12] N (fun gk iv wr => ∃ j : Nat, gk + j = N ∧ iv = .int .i64 (j : Int) ∧ Hid (chkEs es = chkEs (es.drop j)) ∧ Hid (Below w.heap.size w wr))
    case atStart => exact ⟨0, by omega, rfl, rfl, Below.refl _ _⟩
    case round =>
      obtain ⟨j, hj, rfl, HS, HB⟩ := hrel
      by_cases hlt : j < N
      · have hlt2 : j < es.length := by rw [HN.out]; exact hlt
        obtain ⟨_, _, e, _, _, h3⟩ := rdE_below HV.out HB.out (Nat.le_refl _)
        rw [HN.out] at e
        cases e
        obtain ⟨b, off, rfl, xv, yv, c0, c1, c2, c3, rx, ry⟩ := h3 j hlt2
        obtain ⟨x1, x2, ex⟩ := rx.len
        obtain ⟨y1, y2, ey⟩ := ry.len
        subst ex ey
        obtain ⟨⟨ol, osq, ok, oo⟩, ho⟩ : ∃ o, es[j] = o := ⟨_, rfl⟩
        rw [ho] at c0 c1 c2 c3
        obtain ⟨q1, q2⟩ := gk_nxt hj hlt
        simp only at c0 c1 c2 c3
        obtain ⟨kk, hkk⟩ : ∃ kk, ok.toNat = kk := ⟨_, rfl⟩
        obtain ⟨nl, hnlq⟩ : ∃ nl, ol.length = nl := ⟨_, rfl⟩
        obtain ⟨oln, holn⟩ : ∃ oln, oo.length = oln := ⟨_, rfl⟩
        rw [hkk] at c2
        rw [hnlq] at c0
        rw [holn] at c3
        have HE : Hid (chkEn es[j] = if chk nl (osq : Int) (kk : Int) = 0 then (if 512 < oln then 3 else 0) else chk nl (osq : Int) (kk : Int)) := by show _ = _; rw [ho]; unfold chkEn; simp only; rw [hkk, hnlq, holn]
        have hb0 := below_box4 wr (.cells #[.slice x1 nl x2, .int .u64 (osq : Int), .int .u8 (kk : Int), .slice y1 oln y2] 45)
        have BX := box4_new wr (.slice x1 nl x2) (.int .u64 (osq : Int)) (.int .u8 (kk : Int)) (.slice y1 oln y2) 45
        have hck := check_any (wr.alloc (.cells #[.slice x1 nl x2, .int .u64 (osq : Int), .int .u8 (kk : Int), .slice y1 oln y2] 45)) x1 nl x2 (osq : Int) (kk : Int) (by omega) (by omega)
        obtain ⟨ck, hckq⟩ : ∃ ck, chk nl (osq : Int) (kk : Int) = ck := ⟨_, rfl⟩
        rw [hckq] at hck HE
        have HB0 : Hid (Below w.heap.size w (wr.alloc (.cells #[.slice x1 nl x2, .int .u64 (osq : Int), .int .u8 (kk : Int), .slice y1 oln y2] 45))) := bsplit HB.out hb0
        have BX' := BX
        obtain ⟨z0, z1, z2, z3⟩ := BX'
        clear ho hb0 h3 rx ry hnlq holn hkk hckq
        go_wp2_with fail
        refine hck.mono ?_
        rintro e w2 ⟨rfl, hb2⟩
        have HB2 : Hid (Below w.heap.size w w2) := bsplit HB0.out hb2
        clear z0 z1 z2 z3
        obtain ⟨z0, z1, z2, z3⟩ := BX.below hb2 (Nat.le_refl _)
        clear hck hb2 BX
        by_cases hc0 : ck = 0
        · subst hc0
          by_cases h512 : 512 < oln
          · have h5I : (512 : Int) < (oln : Int) := by omega
            have HF : Hid (c = 3) := by
              have he : chkEn es[j] = 3 := by rw [HE.out, if_pos rfl, if_pos h512]
              have h9 := chkEs_bad hlt2 HS.out (by rw [he]; decide)
              show c = 3
              rw [← HC.out]; unfold chkLf; rw [HN.out, if_neg h64, h9, he]; rfl
            go_wp2
            go_ret
            exact ⟨ret_int HF.out.symm, HB2.out⟩
          · have h5I : ¬ (512 : Int) < (oln : Int) := by omega
            have HF : Hid (chkEs es = chkEs (es.drop (j + 1))) := chkEs_ok hlt2 HS.out (by rw [HE.out, if_pos rfl, if_neg h512])
            go_wp2_with fail
            go_roundg (gk - 1)
            case measure => exact q1
            case rel => exact ⟨j + 1, q2, by go_num, HF, HB2⟩
        · have hcb : (ck == 0) = false := by simpa using hc0
          have HF : Hid (c = ck) := by
            have he : chkEn es[j] = ck := by rw [HE.out, if_neg hc0]
            have h9 := chkEs_bad hlt2 HS.out (by rw [he]; exact hc0)
            show c = ck
            rw [← HC.out]; unfold chkLf; rw [HN.out, if_neg h64, h9, he, if_neg hc0]
          go_wp2
          go_ret
          exact ⟨ret_int HF.out.symm, HB2.out⟩
      · have HZ : Hid (chkEs es = 0) := chkEs_end (by rw [HN.out]; exact hlt) HS.out
        have hjN : ¬ (j : Int) < (N : Int) := by omega
        clear hj
        obtain ⟨wo, ho⟩ : ∃ wo, wo = wr := ⟨_, rfl⟩
        subst ho
        obtain ⟨G, hG⟩ : ∃ G, gk = G := ⟨_, rfl⟩
        go_wp2_with fail
        go_loopg [6] N (fun gk iv wr => ∃ i : Nat, (gk + i = N ∨ (N = 0 ∧ gk = 0)) ∧ iv = .int .i64 ((i + 1 : Nat) : Int) ∧ Hid (∀ k (h : k + 1 < es.length), k < i → cmpE es[k] es[k + 1] < 0) ∧ Hid (Below w.heap.size w wr))
        case atStart => exact ⟨0, by omega, rfl, fun k _ h => absurd h (Nat.not_lt_zero _), HB⟩
        case round =>
          obtain ⟨i, hi, rfl, HR, HB2⟩ := hrel
          by_cases hlt3 : i + 1 < N
          · have l1 : i < es.length := by rw [HN.out]; omega
            have l2 : i + 1 < es.length := by rw [HN.out]; exact hlt3
            have hiI : ((i + 1 : Nat) : Int) < (N : Int) := by omega
            have q1 : gk - 1 < gk := by omega
            have q2 : gk - 1 + (i + 1) = N ∨ (N = 0 ∧ gk - 1 = 0) := by omega
            obtain ⟨_, _, e, _, _, h3⟩ := rdE_below HV.out HB2.out (Nat.le_refl _)
            rw [HN.out] at e
            cases e
            obtain ⟨b, off, e', xv, yv, c0, c1, c2, c3, rx, ry⟩ := h3 i l1
            subst e'
            obtain ⟨b', off', e', xv', yv', d0, d1, d2, d3, rx', ry'⟩ := h3 (i + 1) l2
            cases e'
            obtain ⟨x1, x2, ex⟩ := rx.len
            obtain ⟨y1, y2, ey⟩ := rx'.len
            subst ex ey
            have hcm := compare_any wr.drew _ _ es[i].1 es[i + 1].1 (es[i].2.1 : Int) (es[i].2.2.1.toNat : Int) (es[i + 1].2.1 : Int) (es[i + 1].2.2.1.toNat : Int) (cmpE es[i] es[i + 1]) rx.drew rx'.drew rfl
            obtain ⟨s1, hs1⟩ : ∃ z, (es[i].2.1 : Int) = z := ⟨_, rfl⟩
            obtain ⟨k1, hk1⟩ : ∃ z, (es[i].2.2.1.toNat : Int) = z := ⟨_, rfl⟩
            obtain ⟨s2, hs2⟩ : ∃ z, (es[i + 1].2.1 : Int) = z := ⟨_, rfl⟩
            obtain ⟨k2, hk2⟩ : ∃ z, (es[i + 1].2.2.1.toNat : Int) = z := ⟨_, rfl⟩
            obtain ⟨m1, hm1⟩ : ∃ z, es[i].1.length = z := ⟨_, rfl⟩
            obtain ⟨m2, hm2⟩ : ∃ z, es[i + 1].1.length = z := ⟨_, rfl⟩
            rw [hs1] at c1 hcm
            rw [hk1] at c2 hcm
            rw [hs2] at d1 hcm
            rw [hk2] at d2 hcm
            rw [hm1] at c0 hcm
            rw [hm2] at d0 hcm
            have T0 : Two4 wr.drew b off i x1 m1 x2 s1 k1 y1 m2 y2 s2 k2 := ⟨c0, c1, c2, d0, d1, d2⟩
            have h1I : (i : Int) < (cap : Int) := by omega
            have h2I : (i : Int) + 1 < (N : Int) := by omega
            have h3I : (i : Int) < (N : Int) := by omega
            have h4I : (0 : Int) ≤ (i : Int) := by omega
            have h5I : (0 : Int) ≤ (i : Int) + 1 := by omega
            obtain ⟨r, hr⟩ : ∃ r, cmpE es[i] es[i + 1] = r := ⟨_, rfl⟩
            have HRR : Hid (cmpE es[i] es[i + 1] = r) := hr
            rw [hr] at hcm
            clear h3 rx ry rx' ry' c3 d3 hs1 hk1 hs2 hk2 hm1 hm2 hr
            by_cases hrn : r < 0
            · have hrn' : ¬ (0 : Int) ≤ r := by omega
              have HS9 : Hid (∀ k (h : k + 1 < es.length), k < i + 1 → cmpE es[k] es[k + 1] < 0) := fun k h hk => by
                by_cases e : k = i
                · subst e; rw [HRR.out]; exact hrn
                · exact HR.out k h (by omega)
              go_wp2_with fail
              obtain ⟨⟨v1, v2⟩, v3, v4⟩ := wrap_decr i (by omega)
              go_region_held3 (fun w' => (w'.cell? ⟨b, off + i * 4, none⟩ = some (.slice x1 m1 x2) ∧ w'.cell? ⟨b, off + i * 4 + 1, none⟩ = some (.int .u64 s1) ∧ w'.cell? ⟨b, off + i * 4 + 2, none⟩ = some (.int .u8 k1)) ∧ (w'.cell? ⟨b, off + (i + 1) * 4, none⟩ = some (.slice y1 m2 y2) ∧ w'.cell? ⟨b, off + (i + 1) * 4 + 1, none⟩ = some (.int .u64 s2) ∧ w'.cell? ⟨b, off + (i + 1) * 4 + 2, none⟩ = some (.int .u8 k2)))
                (first | with_reducible exact ⟨⟨T5.a0, T5.a1, T5.a2⟩, ⟨T5.b0, T5.b1, T5.b2⟩⟩ | exact ⟨⟨T0.a0, T0.a1, T0.a2⟩, ⟨T0.b0, T0.b1, T0.b2⟩⟩)
                (first
                  | (go_at_call 46; refine hcm.mono ?_; rintro e w5 ⟨rfl, hb5⟩
                     have HB5 : Hid (Below w.heap.size w w5) := bsplit HB2.out.drew hb5
                     have T5 := T0.below hb5 (Nat.le_refl _))
                  | fail)
              clear v1 v2 v3 v4
              go_wp2_with fail
              go_roundg (gk - 1)
              case measure => exact q1
              case rel => exact ⟨i + 1, q2, by go_num, HS9, HB5⟩
            · have hrn' : (0 : Int) ≤ r := by omega
              have HF : Hid (c = 10) := by
                show c = 10
                rw [← HC.out]; unfold chkLf
                rw [HN.out, if_neg h64, if_pos HZ.out, if_neg]
                rw [riseB_iff]
                intro h9
                have h8 := h9 i l2
                rw [HRR.out] at h8
                exact hrn h8
              go_wp2_with fail
              obtain ⟨⟨v1, v2⟩, v3, v4⟩ := wrap_decr i (by omega)
              go_region_held3 (fun w' => (w'.cell? ⟨b, off + i * 4, none⟩ = some (.slice x1 m1 x2) ∧ w'.cell? ⟨b, off + i * 4 + 1, none⟩ = some (.int .u64 s1) ∧ w'.cell? ⟨b, off + i * 4 + 2, none⟩ = some (.int .u8 k1)) ∧ (w'.cell? ⟨b, off + (i + 1) * 4, none⟩ = some (.slice y1 m2 y2) ∧ w'.cell? ⟨b, off + (i + 1) * 4 + 1, none⟩ = some (.int .u64 s2) ∧ w'.cell? ⟨b, off + (i + 1) * 4 + 2, none⟩ = some (.int .u8 k2)))
                (first | with_reducible exact ⟨⟨T5.a0, T5.a1, T5.a2⟩, ⟨T5.b0, T5.b1, T5.b2⟩⟩ | exact ⟨⟨T0.a0, T0.a1, T0.a2⟩, ⟨T0.b0, T0.b1, T0.b2⟩⟩)
                (first
                  | (go_at_call 46; refine hcm.mono ?_; rintro e w5 ⟨rfl, hb5⟩
                     have HB5 : Hid (Below w.heap.size w w5) := bsplit HB2.out.drew hb5
                     have T5 := T0.below hb5 (Nat.le_refl _))
                  | fail)
              clear v1 v2 v3 v4
              go_wp2
              go_ret
              exact ⟨ret_int HF.out.symm, HB5.out⟩
          · have HF : Hid (c = 0) := by
              show c = 0
              rw [← HC.out]; unfold chkLf
              rw [HN.out, if_neg h64, if_pos HZ.out, if_pos]
              rw [riseB_iff]
              exact fun k hk => HR.out k hk (by have := HN.out; omega)
            have hiI : ¬ ((i + 1 : Nat) : Int) < (N : Int) := by omega
            go_wp2
            go_ret
            exact ⟨ret_int HF.out.symm, HB2.out⟩

set_option maxRecDepth 20000 in
set_option maxHeartbeats 4000000 in
theorem rlcheck_any (w : World) (v : Value) (es : List EnB) (c : Int) (hv : RdE w v es) (hc : chkLf es = c) :
    Calls Try.prog 37 #[v] w fun e w' => e = .returned (.int .i64 c) ∧ Below w.heap.size w w' := by
  have HV : Hid (RdE w v es) := hv
  obtain ⟨ao, cap, rfl, h1, h2, _⟩ := hv
  unfold maxLen at h2
  obtain ⟨N, hN⟩ : ∃ N, es.length = N := ⟨_, rfl⟩
  rw [hN] at h1 HV ⊢
  have HN : Hid (es.length = N) := hN
  have HC : Hid (chkLf es = c) := hc
  clear hN hc
  go_enter Try.func37, Try.ntmps37
  by_cases h64 : 64 < N
  · have hI : (64 : Int) < (N : Int) := by omega
    have HE : Hid (c = 3) := by show c = 3; rw [← HC.out]; unfold chkLf; rw [HN.out, if_pos h64]
    go_wp2
    go_ret
    exact ⟨ret_int HE.out.symm, Below.refl _ _⟩
  · have hI : ¬ (64 : Int) < (N : Int) := by omega
    have hN64 : N ≤ 64 := by omega
    go_wp2_with fail
    go_loopg [12] N (fun gk iv wr => ∃ j : Nat, gk + j = N ∧ iv = .int .i64 (j : Int) ∧ Hid (chkEs es = chkEs (es.drop j)) ∧ Hid (Below w.heap.size w wr))
    case atStart => exact ⟨0, by omega, rfl, rfl, Below.refl _ _⟩
    case round =>
      obtain ⟨j, hj, rfl, HS, HB⟩ := hrel
      by_cases hlt : j < N
      · have hlt2 : j < es.length := by rw [HN.out]; exact hlt
        obtain ⟨_, _, e, _, _, h3⟩ := rdE_below HV.out HB.out (Nat.le_refl _)
        rw [HN.out] at e
        cases e
        obtain ⟨b, off, rfl, xv, yv, c0, c1, c2, c3, rx, ry⟩ := h3 j hlt2
        obtain ⟨x1, x2, ex⟩ := rx.len
        obtain ⟨y1, y2, ey⟩ := ry.len
        subst ex ey
        obtain ⟨⟨ol, osq, ok, oo⟩, ho⟩ : ∃ o, es[j] = o := ⟨_, rfl⟩
        rw [ho] at c0 c1 c2 c3
        obtain ⟨q1, q2⟩ := gk_nxt hj hlt
        simp only at c0 c1 c2 c3
        obtain ⟨kk, hkk⟩ : ∃ kk, ok.toNat = kk := ⟨_, rfl⟩
        obtain ⟨nl, hnlq⟩ : ∃ nl, ol.length = nl := ⟨_, rfl⟩
        obtain ⟨oln, holn⟩ : ∃ oln, oo.length = oln := ⟨_, rfl⟩
        rw [hkk] at c2
        rw [hnlq] at c0
        rw [holn] at c3
        have HE : Hid (chkEn es[j] = if chk nl (osq : Int) (kk : Int) = 0 then (if 512 < oln then 3 else 0) else chk nl (osq : Int) (kk : Int)) := by show _ = _; rw [ho]; unfold chkEn; simp only; rw [hkk, hnlq, holn]
        have hb0 := below_box4 wr (.cells #[.slice x1 nl x2, .int .u64 (osq : Int), .int .u8 (kk : Int), .slice y1 oln y2] 45)
        have BX := box4_new wr (.slice x1 nl x2) (.int .u64 (osq : Int)) (.int .u8 (kk : Int)) (.slice y1 oln y2) 45
        have hck := refcheck_any (wr.alloc (.cells #[.slice x1 nl x2, .int .u64 (osq : Int), .int .u8 (kk : Int), .slice y1 oln y2] 45)) x1 nl x2 (osq : Int) (kk : Int) (by omega) (by omega)
        obtain ⟨ck, hckq⟩ : ∃ ck, chk nl (osq : Int) (kk : Int) = ck := ⟨_, rfl⟩
        rw [hckq] at hck HE
        have HB0 : Hid (Below w.heap.size w (wr.alloc (.cells #[.slice x1 nl x2, .int .u64 (osq : Int), .int .u8 (kk : Int), .slice y1 oln y2] 45))) := bsplit HB.out hb0
        have BX' := BX
        obtain ⟨z0, z1, z2, z3⟩ := BX'
        clear ho hb0 h3 rx ry hnlq holn hkk hckq
        go_wp2_with fail
        refine hck.mono ?_
        rintro e w2 ⟨rfl, hb2⟩
        have HB2 : Hid (Below w.heap.size w w2) := bsplit HB0.out hb2
        clear z0 z1 z2 z3
        obtain ⟨z0, z1, z2, z3⟩ := BX.below hb2 (Nat.le_refl _)
        clear hck hb2 BX
        by_cases hc0 : ck = 0
        · subst hc0
          by_cases h512 : 512 < oln
          · have h5I : (512 : Int) < (oln : Int) := by omega
            have HF : Hid (c = 3) := by
              have he : chkEn es[j] = 3 := by rw [HE.out, if_pos rfl, if_pos h512]
              have h9 := chkEs_bad hlt2 HS.out (by rw [he]; decide)
              show c = 3
              rw [← HC.out]; unfold chkLf; rw [HN.out, if_neg h64, h9, he]; rfl
            go_wp2
            go_ret
            exact ⟨ret_int HF.out.symm, HB2.out⟩
          · have h5I : ¬ (512 : Int) < (oln : Int) := by omega
            have HF : Hid (chkEs es = chkEs (es.drop (j + 1))) := chkEs_ok hlt2 HS.out (by rw [HE.out, if_pos rfl, if_neg h512])
            go_wp2_with fail
            go_roundg (gk - 1)
            case measure => exact q1
            case rel => exact ⟨j + 1, q2, by go_num, HF, HB2⟩
        · have hcb : (ck == 0) = false := by simpa using hc0
          have HF : Hid (c = ck) := by
            have he : chkEn es[j] = ck := by rw [HE.out, if_neg hc0]
            have h9 := chkEs_bad hlt2 HS.out (by rw [he]; exact hc0)
            show c = ck
            rw [← HC.out]; unfold chkLf; rw [HN.out, if_neg h64, h9, he, if_neg hc0]
          go_wp2
          go_ret
          exact ⟨ret_int HF.out.symm, HB2.out⟩
      · have HZ : Hid (chkEs es = 0) := chkEs_end (by rw [HN.out]; exact hlt) HS.out
        have hjN : ¬ (j : Int) < (N : Int) := by omega
        clear hj
        obtain ⟨wo, ho⟩ : ∃ wo, wo = wr := ⟨_, rfl⟩
        subst ho
        obtain ⟨G, hG⟩ : ∃ G, gk = G := ⟨_, rfl⟩
        go_wp2_with fail
        go_loopg [6] N (fun gk iv wr => ∃ i : Nat, (gk + i = N ∨ (N = 0 ∧ gk = 0)) ∧ iv = .int .i64 ((i + 1 : Nat) : Int) ∧ Hid (∀ k (h : k + 1 < es.length), k < i → cmpE es[k] es[k + 1] < 0) ∧ Hid (Below w.heap.size w wr))
        case atStart => exact ⟨0, by omega, rfl, fun k _ h => absurd h (Nat.not_lt_zero _), HB⟩
        case round =>
          obtain ⟨i, hi, rfl, HR, HB2⟩ := hrel
          by_cases hlt3 : i + 1 < N
          · have l1 : i < es.length := by rw [HN.out]; omega
            have l2 : i + 1 < es.length := by rw [HN.out]; exact hlt3
            have hiI : ((i + 1 : Nat) : Int) < (N : Int) := by omega
            have q1 : gk - 1 < gk := by omega
            have q2 : gk - 1 + (i + 1) = N ∨ (N = 0 ∧ gk - 1 = 0) := by omega
            obtain ⟨_, _, e, _, _, h3⟩ := rdE_below HV.out HB2.out (Nat.le_refl _)
            rw [HN.out] at e
            cases e
            obtain ⟨b, off, e', xv, yv, c0, c1, c2, c3, rx, ry⟩ := h3 i l1
            subst e'
            obtain ⟨b', off', e', xv', yv', d0, d1, d2, d3, rx', ry'⟩ := h3 (i + 1) l2
            cases e'
            obtain ⟨x1, x2, ex⟩ := rx.len
            obtain ⟨y1, y2, ey⟩ := rx'.len
            subst ex ey
            have hcm := keyless_any wr.drew _ _ es[i].1 es[i + 1].1 (es[i].2.1 : Int) (es[i].2.2.1.toNat : Int) (es[i + 1].2.1 : Int) (es[i + 1].2.2.1.toNat : Int) (decide (cmpE es[i] es[i + 1] < 0)) rx.drew rx'.drew rfl
            obtain ⟨s1, hs1⟩ : ∃ z, (es[i].2.1 : Int) = z := ⟨_, rfl⟩
            obtain ⟨k1, hk1⟩ : ∃ z, (es[i].2.2.1.toNat : Int) = z := ⟨_, rfl⟩
            obtain ⟨s2, hs2⟩ : ∃ z, (es[i + 1].2.1 : Int) = z := ⟨_, rfl⟩
            obtain ⟨k2, hk2⟩ : ∃ z, (es[i + 1].2.2.1.toNat : Int) = z := ⟨_, rfl⟩
            obtain ⟨m1, hm1⟩ : ∃ z, es[i].1.length = z := ⟨_, rfl⟩
            obtain ⟨m2, hm2⟩ : ∃ z, es[i + 1].1.length = z := ⟨_, rfl⟩
            rw [hs1] at c1 hcm
            rw [hk1] at c2 hcm
            rw [hs2] at d1 hcm
            rw [hk2] at d2 hcm
            rw [hm1] at c0 hcm
            rw [hm2] at d0 hcm
            have T0 : Two4 wr.drew b off i x1 m1 x2 s1 k1 y1 m2 y2 s2 k2 := ⟨c0, c1, c2, d0, d1, d2⟩
            have h1I : (i : Int) < (cap : Int) := by omega
            have h2I : (i : Int) + 1 < (N : Int) := by omega
            have h3I : (i : Int) < (N : Int) := by omega
            have h4I : (0 : Int) ≤ (i : Int) := by omega
            have h5I : (0 : Int) ≤ (i : Int) + 1 := by omega
            obtain ⟨r, hr⟩ : ∃ r, decide (cmpE es[i] es[i + 1] < 0) = r := ⟨_, rfl⟩
            have HRR : Hid (decide (cmpE es[i] es[i + 1] < 0) = r) := hr
            rw [hr] at hcm
            clear h3 rx ry rx' ry' c3 d3 hs1 hk1 hs2 hk2 hm1 hm2 hr
            by_cases hrn : r = true
            · subst hrn
              have HS9 : Hid (∀ k (h : k + 1 < es.length), k < i + 1 → cmpE es[k] es[k + 1] < 0) := fun k h hk => by
                by_cases e : k = i
                · subst e; exact of_decide_eq_true HRR.out
                · exact HR.out k h (by omega)
              go_wp2_with fail
              obtain ⟨⟨v1, v2⟩, v3, v4⟩ := wrap_decr i (by omega)
              go_region_held3 (fun w' => (w'.cell? ⟨b, off + i * 4, none⟩ = some (.slice x1 m1 x2) ∧ w'.cell? ⟨b, off + i * 4 + 1, none⟩ = some (.int .u64 s1) ∧ w'.cell? ⟨b, off + i * 4 + 2, none⟩ = some (.int .u8 k1)) ∧ (w'.cell? ⟨b, off + (i + 1) * 4, none⟩ = some (.slice y1 m2 y2) ∧ w'.cell? ⟨b, off + (i + 1) * 4 + 1, none⟩ = some (.int .u64 s2) ∧ w'.cell? ⟨b, off + (i + 1) * 4 + 2, none⟩ = some (.int .u8 k2)))
                (first | with_reducible exact ⟨⟨T5.a0, T5.a1, T5.a2⟩, ⟨T5.b0, T5.b1, T5.b2⟩⟩ | exact ⟨⟨T0.a0, T0.a1, T0.a2⟩, ⟨T0.b0, T0.b1, T0.b2⟩⟩)
                (first
                  | (go_at_call 27; refine hcm.mono ?_; rintro e w5 ⟨rfl, hb5⟩
                     have HB5 : Hid (Below w.heap.size w w5) := bsplit HB2.out.drew hb5
                     have T5 := T0.below hb5 (Nat.le_refl _))
                  | fail)
              clear v1 v2 v3 v4
              go_wp2_with fail
              go_roundg (gk - 1)
              case measure => exact q1
              case rel => exact ⟨i + 1, q2, by go_num, HS9, HB5⟩
            · have hrn' : r = false := by simpa using hrn
              subst hrn'
              have HF : Hid (c = 10) := by
                show c = 10
                rw [← HC.out]; unfold chkLf
                rw [HN.out, if_neg h64, if_pos HZ.out, if_neg]
                rw [riseB_iff]
                intro h9
                have h8 := h9 i l2
                exact of_decide_eq_false HRR.out h8
              go_wp2_with fail
              obtain ⟨⟨v1, v2⟩, v3, v4⟩ := wrap_decr i (by omega)
              go_region_held3 (fun w' => (w'.cell? ⟨b, off + i * 4, none⟩ = some (.slice x1 m1 x2) ∧ w'.cell? ⟨b, off + i * 4 + 1, none⟩ = some (.int .u64 s1) ∧ w'.cell? ⟨b, off + i * 4 + 2, none⟩ = some (.int .u8 k1)) ∧ (w'.cell? ⟨b, off + (i + 1) * 4, none⟩ = some (.slice y1 m2 y2) ∧ w'.cell? ⟨b, off + (i + 1) * 4 + 1, none⟩ = some (.int .u64 s2) ∧ w'.cell? ⟨b, off + (i + 1) * 4 + 2, none⟩ = some (.int .u8 k2)))
                (first | with_reducible exact ⟨⟨T5.a0, T5.a1, T5.a2⟩, ⟨T5.b0, T5.b1, T5.b2⟩⟩ | exact ⟨⟨T0.a0, T0.a1, T0.a2⟩, ⟨T0.b0, T0.b1, T0.b2⟩⟩)
                (first
                  | (go_at_call 27; refine hcm.mono ?_; rintro e w5 ⟨rfl, hb5⟩
                     have HB5 : Hid (Below w.heap.size w w5) := bsplit HB2.out.drew hb5
                     have T5 := T0.below hb5 (Nat.le_refl _))
                  | fail)
              clear v1 v2 v3 v4
              go_wp2
              go_ret
              exact ⟨ret_int HF.out.symm, HB5.out⟩
          · have HF : Hid (c = 0) := by
              show c = 0
              rw [← HC.out]; unfold chkLf
              rw [HN.out, if_neg h64, if_pos HZ.out, if_pos]
              rw [riseB_iff]
              exact fun k hk => HR.out k hk (by have := HN.out; omega)
            have hiI : ¬ ((i + 1 : Nat) : Int) < (N : Int) := by omega
            go_wp2
            go_ret
            exact ⟨ret_int HF.out.symm, HB2.out⟩

end Go.Proofs.Ytdopfijoplldkaa

/- leaf.Build. -/
namespace Go.Proofs.Ytdopfijoplldkaa
set_option maxRecDepth 20000
open Go.RowKit
set_option linter.unusedVariables false

/-- two rows lie apart -/
def Apart2 (v u : Value) : Prop := ∀ g, v.ownBlock = some g → u.ownBlock ≠ some g

theorem Apart2.symm {v u : Value} (h : Apart2 v u) : Apart2 u v := fun g h1 h2 => h g h2 h1

theorem Apart2.nil (v : Value) : Apart2 v (.slice none 0 0) := fun g h => by simp [Value.ownBlock]

theorem Apart2.step {v u : Value} {g H n c : Nat} (h : Apart2 v u) (hat : v.ownBlock = some g ∨ g = H) (hu : ∀ q, u.ownBlock = some q → q < H) : Apart2 (.slice (some ⟨g, 0, none⟩) n c) u := by
  intro q hq he
  simp only [Value.ownBlock, Option.some.injEq] at hq
  subst hq
  rcases hat with e | e
  · exact h _ e he
  · have := hu _ he; omega

theorem own_grew {B g c n m : Nat} {w : World} {l u : List UInt8} (hl : l.length = n) (hu : u.length = m) (h : w.ownsRow B 5 1 (.slice (some ⟨g, 0, none⟩) (n + m) c) (n + m) (bv l ++ bv u)) : Own B w (.slice (some ⟨g, 0, none⟩) (n + m) c) (l ++ u) := by
  subst hl hu
  refine Own.of_row ?_ (by simp)
  rw [List.length_append, bv_append]
  exact h

theorem OwnN.row {B : Nat} {w : World} {v : Value} {l : List UInt8} (h : OwnN B w v l) : w.ownsRow B 5 1 v l.length (bv l) := by
  rcases h with ⟨rfl, rfl⟩ | h
  · exact World.ownsRow_nil _ _ _ _
  · exact h.row

theorem OwnN.lt {B : Nat} {w : World} {v : Value} {l : List UInt8} (h : OwnN B w v l) : ∀ q, v.ownBlock = some q → B ≤ q ∧ q < w.heap.size := fun q hq => h.row.lt q hq

theorem ownN_kept2 {B : Nat} {w w' : World} {v u : Value} {l : List UInt8} (h : OwnN B w u l) (hg : w.grownBy w' v.ownBlock) (ha : Apart2 v u) : OwnN B w' u l := by
  rcases h with h | h
  · exact .inl h
  · obtain ⟨g, c, rfl⟩ := h.shape
    refine .inr (own_kept h hg fun e => ?_)
    exact ha g e.symm rfl

/-- where the loop has come to -/
structure BldI (w wr : World) (es : List EnB) (bv0 pv av : Value) (j : Nat) : Prop where
  bo : OwnN w.heap.size wr bv0 (bodyTo es j)
  po : OwnN w.heap.size wr pv (wordsB (startsTo es j))
  ah : Rd wr av (ahd es j)
  ne : Apart2 bv0 pv
  nb : NeB av (ahd es j) bv0
  np : NeB av (ahd es j) pv
  be : Below w.heap.size w wr

theorem BldI.below {w wr w2 : World} {es : List EnB} {bv0 pv av : Value} {j : Nat} (h : BldI w wr es bv0 pv av j) (hb : Below wr.heap.size wr w2) : BldI w w2 es bv0 pv av j :=
  ⟨h.bo.below hb (Nat.le_refl _), h.po.below hb (Nat.le_refl _), h.ah.below hb (Nat.le_refl _), h.ne, h.nb, h.np, bsplit h.be hb⟩

/-- the same, places told, a form at hand -/
structure BldH (w wr : World) (es : List EnB) (bv0 pv fv : Value) (F : List UInt8) (j : Nat) : Prop where
  bo : OwnN w.heap.size wr bv0 (bodyTo es j)
  po : OwnN w.heap.size wr pv (wordsB (startsTo es (j + 1)))
  fo : Rd wr fv F
  ne : Apart2 bv0 pv
  nb : NeB fv F bv0
  np : NeB fv F pv
  be : Below w.heap.size w wr

theorem BldH.below {w wr w2 : World} {es : List EnB} {bv0 pv av : Value} {F : List UInt8} {j : Nat} (h : BldH w wr es bv0 pv av F j) (hb : Below wr.heap.size wr w2) : BldH w w2 es bv0 pv av F j :=
  ⟨h.bo.below hb (Nat.le_refl _), h.po.below hb (Nat.le_refl _), h.fo.below hb (Nat.le_refl _), h.ne, h.nb, h.np, bsplit h.be hb⟩

theorem BldH.drew {w wr : World} {es : List EnB} {bv0 pv av : Value} {F : List UInt8} {j : Nat} (h : BldH w wr es bv0 pv av F j) : BldH w wr.drew es bv0 pv av F j := ⟨h.bo, h.po, h.fo, h.ne, h.nb, h.np, h.be.drew⟩

/-- no place is told here -/
theorem BldI.stay {w wr : World} {es : List EnB} {bv0 pv av fv : Value} {F : List UInt8} {j : Nat} (h : BldI w wr es bv0 pv av j) (hj : ¬ j % 4 = 0) (hf : Rd wr fv F) (h1 : NeB fv F bv0) (h2 : NeB fv F pv) : BldH w wr es bv0 pv fv F j :=
  ⟨h.bo, by rw [startsTo, if_neg hj]; exact h.po, hf, h.ne, h1, h2, h.be⟩

/-- a place is told -/
theorem BldI.tell {w wr w2 : World} {es : List EnB} {bv0 pv av fv : Value} {F : List UInt8} {j g c n2 : Nat} (h : BldI w wr es bv0 pv av j) (hj : j % 4 = 0) (hf : Rd wr fv F) (h1 : NeB fv F bv0) (h2 : NeB fv F pv)
    (hl : (wordsB (startsTo es j)).length = n2) (hn : w2.ownsRow w.heap.size 5 1 (.slice (some ⟨g, 0, none⟩) (n2 + 2) c) (n2 + 2) (bv (wordsB (startsTo es j)) ++ bv (wordB (bodyTo es j).length))) (hg : wr.grownBy w2 pv.ownBlock) (hat : pv.ownBlock = some g ∨ g = wr.heap.size) : BldH w w2 es bv0 (.slice (some ⟨g, 0, none⟩) (n2 + 2) c) fv F j := by
  refine ⟨ownN_kept2 h.bo hg h.ne.symm, ?_, rd_grown hf hg h2, (h.ne.symm.step hat (fun q hq => (h.bo.lt q hq).2)).symm, h1, neb_step h2 hf hat, h.be.grown hg h.be.size (fun k e => (h.po.lt k e).1)⟩
  rw [startsTo, if_pos hj, wordsB_snoc]
  exact .inr (own_grew hl rfl hn)

/-- an entry's bytes are laid behind -/
theorem BldH.push {w wr w2 : World} {es : List EnB} {bv0 pv fv : Value} {F u : List UInt8} {j g c n1 m : Nat} (h : BldH w wr es bv0 pv fv F j) (hF : frm es j = F) (hu : entB es j = u) (hm : u.length = m)
    (hl : (bodyTo es j).length = n1) (hn : w2.ownsRow w.heap.size 5 1 (.slice (some ⟨g, 0, none⟩) (n1 + m) c) (n1 + m) (bv (bodyTo es j) ++ bv u)) (hg : wr.grownBy w2 bv0.ownBlock) (hat : bv0.ownBlock = some g ∨ g = wr.heap.size) : BldI w w2 es (.slice (some ⟨g, 0, none⟩) (n1 + m) c) pv fv (j + 1) := by
  subst hF hu
  refine ⟨?_, ownN_kept2 h.po hg h.ne, rd_grown h.fo hg h.nb, h.ne.step hat (fun q hq => (h.po.lt q hq).2), neb_step h.nb h.fo hat, h.np, h.be.grown hg h.be.size (fun k e => (h.bo.lt k e).1)⟩
  exact .inr (own_grew hl hm hn)

theorem ownN_len {B n c : Nat} {w : World} {a : Option Addr} {l : List UInt8} (h : OwnN B w (.slice a n c) l) : l.length = n := by
  rcases h with ⟨e, rfl⟩ | h
  · cases e; rfl
  · obtain ⟨g, k, e⟩ := h.shape; cases e; rfl

theorem lbuild_err (w : World) (v : Value) (es : List EnB) (c : Int) (hv : RdE w v es) (hc : chkLf es = c) (h0 : ¬ c = 0) :
    Calls Try.prog 13 #[v] w fun e w' => e = .returned (.tuple #[.slice none 0 0, .int .i64 c]) ∧ Below w.heap.size w w' := by
  have hck := lcheck_any w v es c hv hc
  obtain ⟨a, k, rfl⟩ := hv.shape
  have h0b : (c == 0) = false := by simpa using h0
  clear hv hc
  go_enter Try.func13, Try.ntmps13
  go_wp2_with fail
  refine hck.mono ?_
  rintro e w1 ⟨rfl, hb⟩
  clear hck
  go_wp2
  go_ret2
  exact ⟨rfl, hb⟩

set_option maxHeartbeats 8000000 in
theorem lbuild_ok (w : World) (v : Value) (es : List EnB) (hv : RdE w v es) (hc : chkLf es = 0) :
    Calls Try.prog 13 #[v] w fun e w' => ∃ x, e = .returned (.tuple #[x, .int .i64 0]) ∧ Own w.heap.size w' x (leafB es) ∧ Below w.heap.size w w' := by
  obtain ⟨i0, hi, hz0, hz1, hz2⟩ := info_parts info5
  have hck := lcheck_any w v es 0 hv hc
  obtain ⟨hlen, hall, hrise⟩ := chkLf_ok.1 hc
  have HV : Hid (RdE w v es) := hv
  obtain ⟨ao, cap, rfl, h1, h2, _⟩ := hv
  unfold maxLen at h2
  obtain ⟨N, hN⟩ : ∃ N, es.length = N := ⟨_, rfl⟩
  rw [hN] at h1 HV hlen hck ⊢
  have HN : Hid (es.length = N) := hN
  have HALL : Hid (∀ e ∈ es, chkEn e = 0) := hall
  have HRISE : Hid (riseB es = true) := hrise
  clear hN hc hall hrise
  go_enter Try.func13, Try.ntmps13
  go_wp2_with fail
  refine hck.mono ?_
  rintro e w1 ⟨rfl, hb1⟩
  have HB1 : Hid (Below w.heap.size w w1) := hb1
  clear hck hb1
  go_wp2_with fail
  go_loopg [5, 6, 7, 19] N (fun gk bv0 pv av iv wr => ∃ (j n1 c1 n2 c2 n3 c3 : Nat) (a1 a2 a3 : Option Addr), gk + j = N ∧ iv = .int .i64 (j : Int) ∧ bv0 = .slice a1 n1 c1 ∧ pv = .slice a2 n2 c2 ∧ av = .slice a3 n3 c3 ∧ Hid (BldI w wr es bv0 pv av j))
  case atStart => exact ⟨0, 0, 0, 0, 0, 0, 0, none, none, none, by omega, rfl, rfl, rfl, rfl, ⟨.inl ⟨rfl, rfl⟩, .inl ⟨rfl, rfl⟩, .inl ⟨rfl, rfl⟩, Apart2.nil _, .inl rfl, .inl rfl, HB1.out⟩⟩
  case round =>
    obtain ⟨j, n1, c1, n2, c2, n3, c3, a1, a2, a3, hj, rfl, rfl, rfl, rfl, HI⟩ := hrel
    by_cases hlt : j < N
    · have hlt2 : j < es.length := by rw [HN.out]; exact hlt
      obtain ⟨_, _, e, _, _, h3⟩ := HV.out
      rw [HN.out] at e
      cases e
      obtain ⟨b, off, rfl, xv, yv, d0', d1', d2', d3', rx, ry⟩ := h3 j hlt2
      have hbl := World.block_lt_of_cell? w _ d0'
      have d0 := (HI.out.be.cell (p := ⟨b, off + j * 4, none⟩) hbl).trans d0'
      have d1 := (HI.out.be.cell (p := ⟨b, off + j * 4 + 1, none⟩) hbl).trans d1'
      have d2 := (HI.out.be.cell (p := ⟨b, off + j * 4 + 2, none⟩) hbl).trans d2'
      have d3 := (HI.out.be.cell (p := ⟨b, off + j * 4 + 3, none⟩) hbl).trans d3'
      clear d0' d1' d2' d3' hbl
      obtain ⟨x1, x2, ex⟩ := rx.len
      obtain ⟨y1, y2, ey⟩ := ry.len
      subst ex ey
      obtain ⟨q1, q2⟩ := gk_nxt hj hlt
      have hlim := chkEn_ok (HALL.out _ (List.getElem_mem hlt2))
      have hfrm := frm_at hlt2
      have hent := entB_at hlt2
      obtain ⟨⟨ol, osq, ok, oo⟩, ho⟩ : ∃ o, es[j] = o := ⟨_, rfl⟩
      rw [ho] at d0 d1 d2 d3 rx ry hlim hfrm hent
      simp only at d0 d1 d2 d3 rx ry hlim hent
      obtain ⟨kk, hkk⟩ : ∃ kk, ok.toNat = kk := ⟨_, rfl⟩
      obtain ⟨nl, hnlq⟩ : ∃ nl, ol.length = nl := ⟨_, rfl⟩
      obtain ⟨oln, holn⟩ : ∃ oln, oo.length = oln := ⟨_, rfl⟩
      have hkb := ok.toNat_lt
      have hff : formB (ol, osq, ok, oo) = ol ++ tailB osq kk := by unfold formB; rw [← hkk]
      rw [hff] at hfrm hent
      rw [hkk] at d2 hlim hkb
      rw [hnlq] at d0 rx
      rw [holn] at d3 ry
      have hb0 := below_box4 wr (.cells #[.slice x1 nl x2, .int .u64 (osq : Int), .int .u8 (kk : Int), .slice y1 oln y2] 45)
      have BX := box4_new wr (.slice x1 nl x2) (.int .u64 (osq : Int)) (.int .u8 (kk : Int)) (.slice y1 oln y2) 45
      have HI0 : Hid (BldI w (wr.alloc (.cells #[.slice x1 nl x2, .int .u64 (osq : Int), .int .u8 (kk : Int), .slice y1 oln y2] 45)) es (.slice a1 n1 c1) (.slice a2 n2 c2) (.slice a3 n3 c3) j) := HI.out.below hb0
      have hfo := lform_any (wr.alloc (.cells #[.slice x1 nl x2, .int .u64 (osq : Int), .int .u8 (kk : Int), .slice y1 oln y2] 45)) _ ol osq kk (rx.below HI0.out.be (Nat.le_refl _)) hlim.2.2.1 hkb hlim.2.2.2.2.2 hlim.2.1
      have HRY : Hid (Rd w (.slice y1 oln y2) oo) := ry
      have HOO : Hid (oo.length ≤ 512 ∧ oo.length = oln) := ⟨hlim.2.2.2.2.1, holn⟩
      have HNE1 : Hid (some wr.heap.size ≠ (Value.slice a1 n1 c1).ownBlock) := own_ne_new HI.out.bo.row
      have HNE2 : Hid (some wr.heap.size ≠ (Value.slice a2 n2 c2).ownBlock) := own_ne_new HI.out.po.row
      obtain ⟨F, hF⟩ : ∃ F, ol ++ tailB osq kk = F := ⟨_, rfl⟩
      rw [hF] at hfo hfrm hent
      have hFl : F.length = nl + 8 := by rw [← hF, List.length_append, tailB_len, hnlq]
      obtain ⟨L, hL⟩ : ∃ L, F.length = L := ⟨_, rfl⟩
      have HFR : Hid (frm es j = F ∧ F.length = L) := ⟨hfrm, hL⟩
      have HEN : Hid (entB es j = packB (shN es j) F oo) := hent
      have hsl := shN_lt HALL.out HRISE.out hlt2
      rw [hfrm, hL] at hsl
      have hL72 : L ≤ 72 := by have := hlim.2.1; omega
      have BX' := BX
      obtain ⟨z0, z1, z2, z3⟩ := BX'
      clear ho h3 rx ry hnlq holn hkk hlim hkb hb0 HI hF hFl hfrm hent hff
      go_wp2_with fail
      refine hfo.mono ?_
      rintro e w2 ⟨xf, rfl, rf, ff, hb2⟩
      have BX2 := BX.below hb2 (Nat.le_refl _)
      have HI2 : Hid (BldI w w2 es (.slice a1 n1 c1) (.slice a2 n2 c2) (.slice a3 n3 c3) j) := HI0.out.below hb2
      obtain ⟨fa, fc, hfa, hfc1, hfc2, hfsp⟩ := Rd.spots rf
      rw [hL] at hfa hfc1
      obtain ⟨gf, of, rfl, hz9⟩ := hfsp 0 (by rw [hL]; omega)
      clear hz9
      subst hfa
      have hcm := lcommon_any w2 _ _ (ahd es j) F HI2.out.ah rf
      have hlow1 : ∀ q, (Value.slice a1 n1 c1).ownBlock = some q → q < (wr.alloc (.cells #[.slice x1 nl x2, .int .u64 (osq : Int), .int .u8 (kk : Int), .slice y1 oln y2] 45)).heap.size := fun q hq => (HI0.out.bo.lt q hq).2
      have hlow2 : ∀ q, (Value.slice a2 n2 c2).ownBlock = some q → q < (wr.alloc (.cells #[.slice x1 nl x2, .int .u64 (osq : Int), .int .u8 (kk : Int), .slice y1 oln y2] 45)).heap.size := fun q hq => (HI0.out.po.lt q hq).2
      have HNF : Hid (NeB (.slice (some ⟨gf, of, none⟩) L fc) F (.slice a1 n1 c1) ∧ NeB (.slice (some ⟨gf, of, none⟩) L fc) F (.slice a2 n2 c2)) := ⟨neb_of ff hlow1 rf, neb_of ff hlow2 rf⟩
      have HRF : Hid (Rd w2 (.slice (some ⟨gf, of, none⟩) L fc) F) := rf
      have HFC : Hid (L ≤ fc ∧ fc ≤ 9223372036854775807) := ⟨hfc1, hfc2⟩
      have HN1 : Hid ((bodyTo es j).length = n1) := ownN_len HI2.out.bo
      have HN2 : Hid ((wordsB (startsTo es j)).length = n2) := ownN_len HI2.out.po
      have hn1 : n1 ≤ 37760 := by rw [← HN1.out]; exact bodyTo_most HALL.out j (by omega)
      have hn2 : n2 ≤ 1000 := by rw [← HN2.out, wordsB_len, startsTo_len]; omega
      clear hfo hb2 z0 z1 z2 z3 BX rf ff hfsp hlow1 hlow2 hfc1 hfc2 HI0
      have BX2' := BX2
      obtain ⟨z0, z1, z2, z3⟩ := BX2'
      go_wp2_with fail
      refine hcm.mono ?_
      rintro e w3 ⟨rfl, hb3⟩
      clear z0 z1 z2 z3
      have BX3 := BX2.below hb3 (Nat.le_refl _)
      have HI3 : Hid (BldI w w3 es (.slice a1 n1 c1) (.slice a2 n2 c2) (.slice a3 n3 c3) j) := HI2.out.below hb3
      have HRF3 : Hid (Rd w3 (.slice (some ⟨gf, of, none⟩) L fc) F) := HRF.out.below hb3 (Nat.le_refl _)
      clear hcm hb3 BX2 HI2 HRF
      by_cases h4 : j % 4 = 0
      · have h4I : (j : Int).tmod 4 = 0 := by rw [Int.tmod_eq_emod_of_nonneg (by omega)]; omega
        have HSH : Hid (shN es j = 0) := by show _ = 0; unfold shN; rw [if_pos h4]
        have hwd := lword_any w3 n1 (by omega)
        have BX3' := BX3
        obtain ⟨z0, z1, z2, z3⟩ := BX3'
        go_wp2_with fail
        refine hwd.mono ?_
        rintro e w4 ⟨vw, rfl, ow, hb4⟩
        obtain ⟨gw, cw, hvw⟩ := ow.shape
        rw [show (wordB n1).length = 2 from rfl] at hvw
        subst hvw
        clear z0 z1 z2 z3
        have BX4 := BX3.below hb4 (Nat.le_refl _)
        have HI4 : Hid (BldI w w4 es (.slice a1 n1 c1) (.slice a2 n2 c2) (.slice a3 n3 c3) j) := HI3.out.below hb4
        have HRF4 : Hid (Rd w4 (.slice (some ⟨gf, of, none⟩) L fc) F) := HRF3.out.below hb4 (Nat.le_refl _)
        have hrow : w4.ownsRow w.heap.size 5 1 (.slice a2 n2 c2) n2 (bv (wordsB (startsTo es j))) := by have := HI4.out.po.row; rw [HN2.out] at this; exact this
        have hcw := (rd_cells ow.rd).2
        have hse := HI4.out.be.size
        clear hwd hb4 BX3 HI3 HRF3 ow
        go_wp2_with (first | (at_builtin; refine wpList_append_lies _ rfl (.tmp 33) (.tmp 36) 26 rfl w.heap.size 5 i0 (.int .u8 0) 1 1 Try.underlying26 hi hz0 hz1 hz2 rfl (by decide) (.slice a2 n2 c2) n2 (bv (wordsB (startsTo es j))) rfl hrow ⟨gw, 0, none⟩ 2 cw (bv (wordB n1)) rfl rfl hcw (bv_one _) (by decide) (by unfold maxLen; omega) (by omega) hse _ rfl ?_; intro g5 c5 w5 hown hgrow hat hlt5; have HI5 : Hid (BldH w w5 es (.slice a1 n1 c1) (.slice (some ⟨g5, 0, none⟩) (n2 + 2) c5) (.slice (some ⟨gf, of, none⟩) L fc) F j) := (HI4.out.tell h4 HRF4.out HNF.out.1 HNF.out.2 HN2.out (by rw [HN1.out]; exact hown) hgrow hat); have BX5 := BX4.grown hgrow HNE2.out; clear hown hgrow hat hlt5) | fail)
        clear hrow hcw hse BX4 HI4 HRF4
        have hs1 : (0 : Int) ≤ ((0 : Nat) : Int) := by omega
        have hs2 : ((0 : Nat) : Int) ≤ (L : Int) := by omega
        have hs3 : (L : Int) ≤ (fc : Int) := by have := HFC.out; omega
        have hs4 : ¬ fc = 0 := by have := HFC.out; omega
        have hs5 : ¬ (fc : Int) = ((0 : Nat) : Int) := by omega
        have hs6 : (fc : Int) ≤ 9223372036854775807 := by have := HFC.out; omega
        have HPB : Hid (entB es j = packB 0 F oo ∧ (packB 0 F oo).length ≤ 600 ∧ 0 < (packB 0 F oo).length) := by
          refine ⟨by rw [HEN.out, HSH.out], ?_, ?_⟩
          · have := packB_len (n := 0) (f := F) (v := oo) (by have := HFR.out.2; omega) (by have := HFR.out.2; omega) HOO.out.1
            have := HFR.out.2; have := HOO.out; omega
          · unfold packB; rw [List.length_append, Mth.numB_length]; have := Mth.numL_bd 0; omega
        have HI6 : Hid (BldH w w5.drew es (.slice a1 n1 c1) (.slice (some ⟨g5, 0, none⟩) (n2 + 2) c5) (.slice (some ⟨gf, of, none⟩) L fc) F j) := HI5.out.drew
        have BX6 := BX5.drew
        have hpk := lpacked_any w5.drew 0 (.slice (some ⟨gf, of, none⟩) L fc) (.slice y1 oln y2) F oo (by
          have h9 := (rd_cells HI6.out.fo).2
          have h8 : ∀ j u, (bv F)[j]? = some u → w5.drew.cell? ⟨gf, of + j, none⟩ = some u := fun j u hu => by have := h9 j u hu; rwa [Addr.add_lit] at this
          have h7 := rd_sub h8 0 L fc (by have := HFC.out; omega) (by have := HFC.out; unfold maxLen; omega) (by have := HFR.out.2; omega)
          rw [List.take_of_length_le (by rw [List.length_drop, HFR.out.2]; exact Nat.le_refl _)] at h7
          exact h7) (HRY.out.below HI6.out.be (Nat.le_refl _)) (by have := HFR.out.2; omega) (by have := HFR.out.2; omega) (by have := HOO.out; omega)
        obtain ⟨PK, hPK⟩ : ∃ PK, packB 0 F oo = PK := ⟨_, rfl⟩
        rw [hPK] at hpk HPB
        clear hPK hsl h4
        go_wp2_with fail
        go_region_held3 (fun w' => w'.cell? ⟨wr.heap.size, 3, none⟩ = some (.slice y1 oln y2))
          (first | with_reducible exact BX8.c3 | with_reducible exact BX7.c3 | exact BX6.c3)
          (first
            | (go_at_call 35; refine hpk.mono ?_; rintro e w7 ⟨vp, rfl, op, hb7⟩
               obtain ⟨gp, cp, hvp⟩ := op.shape
               subst hvp
               have BX7 := BX6.below hb7 (Nat.le_refl _))
            | (have hI7 : BldH w w7 es (.slice a1 n1 c1) (.slice (some ⟨g5, 0, none⟩) (n2 + 2) c5) (.slice (some ⟨gf, of, none⟩) L fc) F j := HI6.out.below hb7
               have hrow : w7.ownsRow w.heap.size 5 1 (.slice a1 n1 c1) n1 (bv (bodyTo es j)) := by have := hI7.bo.row; rw [HN1.out] at this; exact this
               have hpl := HPB.out.2
               refine step_append_lies _ rfl (.tmp 38) (.tmp 45) 26 rfl w.heap.size 5 i0 (.int .u8 0) 1 1 Try.underlying26 hi hz0 hz1 hz2 rfl (by decide) (.slice a1 n1 c1) n1 (bv (bodyTo es j)) rfl hrow ⟨gp, 0, none⟩ PK.length cp (bv PK) rfl (by rw [bv_length, Nat.mul_one]) (rd_cells op.rd).2 (bv_one _) hpl.2 (by unfold maxLen; omega) (by omega) hI7.be.size _ rfl ?_
               intro g8 c8 w8 hown hgrow hat hlt8
               have BX8 := BX7.grown hgrow HNE1.out
               have HI8 : Hid (BldI w w8 es (.slice (some ⟨g8, 0, none⟩) (n1 + PK.length) c8) (.slice (some ⟨g5, 0, none⟩) (n2 + 2) c5) (.slice (some ⟨gf, of, none⟩) L fc) (j + 1)) := hI7.push HFR.out.1 HPB.out.1 rfl HN1.out hown hgrow hat
               clear hI7 hrow hpl hown hgrow hat hlt8 op hb7)
            | fail)
        all_goals
          clear BX5 BX6 hs1 hs2 hs3 hs4 hs5 hs6
          go_wp2_with fail
          go_roundg (gk - 1)
          case measure => exact q1
          case rel => exact ⟨j + 1, _, _, _, _, _, _, _, _, _, q2, by go_num, rfl, rfl, rfl, HI8⟩
      · obtain ⟨r4, hr4⟩ : ∃ r4, j % 4 = r4 := ⟨_, rfl⟩
        have h4I : (j : Int).tmod 4 = (r4 : Int) := by rw [Int.tmod_eq_emod_of_nonneg (by omega)]; omega
        have h4J : ¬ (r4 : Int) = 0 := by omega
        have h4K : ((r4 : Int) == 0) = false := by simpa using h4J
        obtain ⟨sh, hsh⟩ : ∃ sh, comN (ahd es j) F = sh := ⟨_, rfl⟩
        have HSH : Hid (shN es j = sh) := by show _ = _; unfold shN; rw [if_neg h4, HFR.out.1, hsh]
        rw [HSH.out] at hsl
        rw [hsh]
        have HI5 : Hid (BldH w w3 es (.slice a1 n1 c1) (.slice a2 n2 c2) (.slice (some ⟨gf, of, none⟩) L fc) F j) := HI3.out.stay h4 HRF3.out HNF.out.1 HNF.out.2
        have BX5 := BX3
        clear BX3 HI3 HRF3 hr4 hsh
        have hs1 : (0 : Int) ≤ (sh : Int) := by omega
        have hs2 : (sh : Int) ≤ (L : Int) := by omega
        have hs3 : (L : Int) ≤ (fc : Int) := by have := HFC.out; omega
        have hs4 : ¬ fc = sh := by have := HFC.out; omega
        have hs5 : ¬ (fc : Int) = (sh : Int) := by omega
        have hs6 : (fc : Int) ≤ 9223372036854775807 := by have := HFC.out; omega
        have HPB : Hid (entB es j = packB sh F oo ∧ (packB sh F oo).length ≤ 600 ∧ 0 < (packB sh F oo).length) := by
          refine ⟨by rw [HEN.out, HSH.out], ?_, ?_⟩
          · have := packB_len (n := sh) (f := F) (v := oo) (by have := HFR.out.2; omega) (by have := HFR.out.2; omega) HOO.out.1
            have := HFR.out.2; have := HOO.out; omega
          · unfold packB; rw [List.length_append, Mth.numB_length]; have := Mth.numL_bd sh; omega
        have HI6 : Hid (BldH w w3.drew es (.slice a1 n1 c1) (.slice a2 n2 c2) (.slice (some ⟨gf, of, none⟩) L fc) F j) := HI5.out.drew
        have BX6 := BX5.drew
        have hpk := lpacked_any w3.drew sh (.slice (some ⟨gf, of + sh, none⟩) (L - sh) (fc - sh)) (.slice y1 oln y2) F oo (by
          have h9 := (rd_cells HI6.out.fo).2
          have h8 : ∀ j u, (bv F)[j]? = some u → w3.drew.cell? ⟨gf, of + j, none⟩ = some u := fun j u hu => by have := h9 j u hu; rwa [Addr.add_lit] at this
          have h7 := rd_sub h8 sh (L - sh) (fc - sh) (by have := HFC.out; omega) (by have := HFC.out; unfold maxLen; omega) (by have := HFR.out.2; omega)
          rw [List.take_of_length_le (by rw [List.length_drop, HFR.out.2]; exact Nat.le_refl _)] at h7
          exact h7) (HRY.out.below HI6.out.be (Nat.le_refl _)) (by have := HFR.out.2; omega) (by have := HFR.out.2; omega) (by have := HOO.out; omega)
        obtain ⟨PK, hPK⟩ : ∃ PK, packB sh F oo = PK := ⟨_, rfl⟩
        rw [hPK] at hpk HPB
        clear hPK hsl h4
        go_wp2_with fail
        go_region_held3 (fun w' => w'.cell? ⟨wr.heap.size, 3, none⟩ = some (.slice y1 oln y2))
          (first | with_reducible exact BX8.c3 | with_reducible exact BX7.c3 | exact BX6.c3)
          (first
            | (go_at_call 35; refine hpk.mono ?_; rintro e w7 ⟨vp, rfl, op, hb7⟩
               obtain ⟨gp, cp, hvp⟩ := op.shape
               subst hvp
               have BX7 := BX6.below hb7 (Nat.le_refl _))
            | (have hI7 : BldH w w7 es (.slice a1 n1 c1) (.slice a2 n2 c2) (.slice (some ⟨gf, of, none⟩) L fc) F j := HI6.out.below hb7
               have hrow : w7.ownsRow w.heap.size 5 1 (.slice a1 n1 c1) n1 (bv (bodyTo es j)) := by have := hI7.bo.row; rw [HN1.out] at this; exact this
               have hpl := HPB.out.2
               refine step_append_lies _ rfl (.tmp 38) (.tmp 45) 26 rfl w.heap.size 5 i0 (.int .u8 0) 1 1 Try.underlying26 hi hz0 hz1 hz2 rfl (by decide) (.slice a1 n1 c1) n1 (bv (bodyTo es j)) rfl hrow ⟨gp, 0, none⟩ PK.length cp (bv PK) rfl (by rw [bv_length, Nat.mul_one]) (rd_cells op.rd).2 (bv_one _) hpl.2 (by unfold maxLen; omega) (by omega) hI7.be.size _ rfl ?_
               intro g8 c8 w8 hown hgrow hat hlt8
               have BX8 := BX7.grown hgrow HNE1.out
               have HI8 : Hid (BldI w w8 es (.slice (some ⟨g8, 0, none⟩) (n1 + PK.length) c8) (.slice a2 n2 c2) (.slice (some ⟨gf, of, none⟩) L fc) (j + 1)) := hI7.push HFR.out.1 HPB.out.1 rfl HN1.out hown hgrow hat
               clear hI7 hrow hpl hown hgrow hat hlt8 op hb7)
            | fail)
        all_goals
          clear BX5 BX6 hs1 hs2 hs3 hs4 hs5 hs6
          go_wp2_with fail
          go_roundg (gk - 1)
          case measure => exact q1
          case rel => exact ⟨j + 1, _, _, _, _, _, _, _, _, _, q2, by go_num, rfl, rfl, rfl, HI8⟩
    · have hjN : j = es.length := by rw [HN.out]; omega
      have hltI : ¬ (j : Int) < (N : Int) := by omega
      have HN1 : Hid ((bodyTo es j).length = n1) := ownN_len HI.out.bo
      have HN2 : Hid ((wordsB (startsTo es j)).length = n2) := ownN_len HI.out.po
      have hn1 : n1 ≤ 37760 := by rw [← HN1.out]; exact bodyTo_most HALL.out j (by omega)
      obtain ⟨cnt, hcnt⟩ : ∃ cnt, (startsTo es j).length = cnt := ⟨_, rfl⟩
      have hcl := startsTo_len es j
      have hn2 : n2 = 2 * cnt := by rw [← HN2.out, wordsB_len, hcnt]
      have hc2 : cnt ≤ 16 := by omega
      have hdv : (n2 : Int).tdiv 2 = (cnt : Int) := by rw [Int.tdiv_eq_ediv_of_nonneg (by omega)]; omega
      have hdv2 : (n2 : Int) / 2 = (cnt : Int) := by omega
      have HLF : Hid (leafB es = [bodyTo es j, wordsB (startsTo es j), wordB cnt].flatten) := by
        show _ = _
        unfold leafB
        rw [← hjN, hcnt]
        simp
      have HBD : Hid (n1 ≤ 37760 ∧ n2 ≤ 32) := ⟨hn1, by omega⟩
      have hwd := lword_any wr cnt (by omega)
      have hn2I : (n2 : Int) ≤ 32 := by omega
      clear hcnt hcl hn2 hc2 hn1 hjN
      go_wp2_with fail
      refine hwd.mono ?_
      rintro e w4 ⟨vw, rfl, ow, hb4⟩
      obtain ⟨gw, cw, hvw⟩ := ow.shape
      rw [show (wordB cnt).length = 2 from rfl] at hvw
      subst hvw
      have hI4 := HI.out.below hb4
      have hrl := rdl_many w4 [.slice a1 n1 c1, .slice a2 n2 c2, .slice (some ⟨gw, 0, none⟩) 2 cw] [bodyTo es j, wordsB (startsTo es j), wordB cnt] 3 rfl rfl (by decide) (by decide) (by
        intro i h1 h2
        match i, h1, h2 with
        | 0, _, _ => exact hI4.bo.rd
        | 1, _, _ => exact hI4.po.rd
        | 2, _, _ => exact ow.rd
        | (i + 3), h1, _ => exact absurd h1 (by simp))
      have hj2 := join_any _ _ _ hrl (by
        simp only [List.flatten_cons, List.flatten_nil, List.append_nil, List.length_append, HN1.out, HN2.out, show (wordB cnt).length = 2 from rfl]
        have := HBD.out
        omega)
      obtain ⟨PK, hPK⟩ : ∃ PK, [bodyTo es j, wordsB (startsTo es j), wordB cnt].flatten = PK := ⟨_, rfl⟩
      rw [hPK] at hj2 HLF
      have hba := below_box4 w4 (.cells #[.slice a1 n1 c1, .slice a2 n2 c2, .slice (some ⟨gw, 0, none⟩) 2 cw] 26)
      have HBA : Hid (Below w.heap.size w (w4.alloc (.cells #[.slice a1 n1 c1, .slice a2 n2 c2, .slice (some ⟨gw, 0, none⟩) 2 cw] 26))) := bsplit hI4.be hba
      clear hwd hb4 hI4 hrl hba hPK ow hdv hdv2
      go_wp2_with fail
      refine hj2.mono ?_
      rintro e w5 ⟨v5, rfl, o5, hb5⟩
      obtain ⟨g5, c5, rfl⟩ := o5.shape
      have HB5 : Hid (Below w.heap.size w w5) := bsplit HBA.out hb5
      have HO : Hid (Own w.heap.size w5 (.slice (some ⟨g5, 0, none⟩) PK.length c5) PK) := o5.mono HBA.out.size
      clear hj2 hb5 o5
      go_wp2
      go_ret2
      exact ⟨_, rfl, by rw [HLF.out]; exact HO.out, HB5.out⟩

end Go.Proofs.Ytdopfijoplldkaa
