/- SealApart answers true: two texts that are apart within 32 bits have unlike sums. -/
import Derived.Test.YtgmoedoalbmkpaaDoorByteWalk
import Derived.Test.YtgmoedoalbmkpaaDoorApart
namespace Go.Proofs.YtgmoedoalbmkpaaDoor
open Go.RowKit

theorem Own.other {B : Nat} {w : World} {g n k : Nat} {l : List UInt8} (h : Own B w (.slice (some ⟨g, 0, none⟩) n k) l) (p : Addr) (hp : g ≠ p.block) (u : Value) : Own B (w.setCell p u) (.slice (some ⟨g, 0, none⟩) n k) l := by
  obtain ⟨g', k', c, e, hB, hg, r⟩ := h
  cases e
  exact ⟨g, k, c, rfl, hB, by rw [Below.heap_setCell w p u g hp]; exact hg, r⟩
theorem xor_pow (b : UInt8) (j : Nat) (hj : j < 8) : bits .xor .u8 (b.toNat : Int) (2 ^ j % 256) = ((b ^^^ UInt8.ofNat (2 ^ j)).toNat : Int) := by
  have h1 : 2 ^ j < 2 ^ 8 := Nat.pow_lt_pow_right (by omega) hj
  have h2 := u8_xor_nat b.toNat (2 ^ j) b.toNat_lt (by omega)
  have e : ((2 : Int) ^ j % 256) = ((2 ^ j : Nat) : Int) := by
    have : ((2 ^ j : Nat) : Int) = (2 : Int) ^ j := by simp
    rw [← this]
    clear this h2
    generalize 2 ^ j = m at h1 ⊢
    omega
  rw [e, h2, UInt8.toNat_xor, Crc.pow_byte j hj]

theorem Own.drew {B : Nat} {w : World} {v : Value} {l : List UInt8} (h : Own B w v l) : Own B w.drew v l := h

set_option maxHeartbeats 4000000 in
set_option maxRecDepth 20000 in
theorem apart_none (w : World) (vx : Value) (x : List UInt8) (CX : Hid (x.take 600 = [])) (at_ P : Int) (hx : Arg w vx x) (ht : Tab w) :
    Calls Tryd.prog 8 #[vx, .int .u16 at_, .int .u32 P] w fun e w' => e = .returned (.bool true) ∧ Below w.heap.size w w' := by
  go_enter Tryd.func8, Tryd.ntmps8
  go_wp2_with fail
  refine (cut_any _ _ x 600 hx (by omega)).mono ?_
  rintro e w1 ⟨vp, rfl, op, hb1⟩
  rw [CX.out] at op
  have ht1 := ht.below hb1 (Nat.le_refl _)
  obtain ⟨gp, kp, hvp⟩ := op.shape
  subst hvp
  go_wp2_with fail
  refine (awake_any _ ht1).mono ?_
  rintro e w2 ⟨rfl, hb2⟩
  have hB2 := hb1.trans (hb2.mono hb1.size)
  have ht2 := ht.below hB2 (Nat.le_refl _)
  clear hb1 hb2 op
  go_wp2_with fail
  refine (awake_any _ ht2).mono ?_
  rintro e w3 ⟨rfl, hb3⟩
  go_wp2
  go_ret
  exact ⟨rfl, hB2.trans (hb3.mono hB2.size)⟩

set_option maxHeartbeats 4000000 in
set_option maxRecDepth 20000 in
theorem apart_walk (w : World) (vx : Value) (x cx : List UInt8) (CX : Hid (x.take 600 = cx)) (hcx : cx.length ≤ 600) (hc0 : cx ≠ []) (at_ P : Nat) (hat : at_ < 65536) (hP : P < 4294967296) (hx : Arg w vx x) (ht : Tab w) :
    Calls Tryd.prog 8 #[vx, .int .u16 (at_ : Int), .int .u32 (P : Int)] w fun e w' => e = .returned (.bool true) ∧ Below w.heap.size w w' := by
  have ht0 : Hid (Tab w) := ht
  have hn0 : 0 < cx.length := by cases cx with | nil => exact absurd rfl hc0 | cons a l => simp
  obtain ⟨n, hn⟩ : ∃ n, cx.length = n := ⟨_, rfl⟩
  have HL : Hid (cx.length = n) := hn
  rw [hn] at hn0 hcx
  clear hc0
  go_enter Tryd.func8, Tryd.ntmps8
  go_wp2_with fail
  refine (cut_any _ _ x 600 hx (by omega)).mono ?_
  rintro e w1 ⟨vp, rfl, op, hb1⟩
  rw [CX.out] at op
  have ht1 := ht.below hb1 (Nat.le_refl _)
  obtain ⟨gp, kp, hvp⟩ := op.shape
  rw [hn] at hvp
  subst hvp
  clear hx ht
  go_wp2_with fail
  refine (awake_any _ ht1).mono ?_
  rintro e w2 ⟨rfl, hb2⟩
  have op2 := op.below hb2 (Nat.le_refl _)
  have hB2 := hb1.trans (hb2.mono hb1.size)
  clear hb1 hb2 ht1 op
  go_wp2_with fail
  refine (copy_any _ _ cx op2.rd.arg (by omega)).mono ?_
  rintro e w3 ⟨vq, rfl, oq, hb3⟩
  have op3 := op2.below hb3 (Nat.le_refl _)
  have hB3 := hB2.trans (hb3.mono hB2.size)
  have hgp := op2.lt
  obtain ⟨gq, kq, hvq⟩ := oq.shape
  rw [hn] at hvq
  subst hvq
  have hgq := oq.lt
  have hs2 := hB2.size
  clear hb3 op2 hB2 hn
  obtain ⟨k0, hk0⟩ : ∃ k0, at_ % (8 * n) = k0 := ⟨_, rfl⟩
  have hk0n : k0 < 8 * n := by rw [← hk0]; exact Nat.mod_lt _ (by omega)
  have hm : (at_ : Int) % (8 * (n : Int)) = (k0 : Int) := by
    have : ((at_ % (8 * n) : Nat) : Int) = (k0 : Int) := by rw [hk0]
    rw [← this]; simp
  obtain ⟨Q, hQ⟩ : ∃ Q, P ||| 1 = Q := ⟨_, rfl⟩
  have hor : bits .or .u32 (P : Int) 1 = (Q : Int) := by
    have := u32_or_nat P 1 hP (by omega)
    rw [hQ] at this
    exact this
  have hQl : Q < 4294967296 := by rw [← hQ]; exact Nat.or_lt_two_pow (n := 32) hP (by omega)
  have HQ1 : Hid (Q % 2 = 1) := by
    show _ = _
    rw [← hQ]
    simp
  clear hk0 hQ
  go_wp2_with fail
  go_loopw [22] (fun iv wr => ∃ i : Nat, i ≤ 32 ∧ iv = .int .i64 (i : Int) ∧ Own w2.heap.size wr (.slice (some ⟨gq, 0, none⟩) n kq) (Crc.ap cx k0 Q i) ∧ Own w.heap.size wr (.slice (some ⟨gp, 0, none⟩) n kp) cx ∧ Below w.heap.size w wr) (fun iv _ => 32 - (intOf iv).toNat)
  case atStart => exact ⟨0, Nat.zero_le _, rfl, oq, op3, hB3⟩
  case round =>
    clear oq op3 hB3
    obtain ⟨i, hi32, rfl, oq, op3, hB3⟩ := hrel
    by_cases hlt : i < 32
    · have hand : bits .and .u32 ((Q : Int) / 2 ^ i) 1 = ((Q.testBit i).toNat : Int) := by
        have e : ((Q : Int) / 2 ^ i) = ((Q / 2 ^ i : Nat) : Int) := by simp
        rw [e]
        have h1 : Q / 2 ^ i < 4294967296 := Nat.lt_of_le_of_lt (Nat.div_le_self _ _) hQl
        have := u32_and_nat (Q / 2 ^ i) 1 h1 (by omega)
        have e2 : Q / 2 ^ i &&& 1 = Q / 2 ^ i % 2 := Nat.and_one_is_mod _
        rw [e2] at this
        rw [Nat.toNat_testBit]
        exact this
      cases hb : Q.testBit i
      · rw [hb] at hand
        simp only [Bool.toNat_false] at hand
        go_wp2
        go_round
        case rel =>
          refine ⟨i + 1, by omega, by go_num, ?_, op3, hB3⟩
          rw [Crc.ap, if_neg (by rw [hb]; simp)]
          exact oq
        case measure => simp [intOf]; omega
      · rw [hb] at hand
        simp only [Bool.toNat_true] at hand
        by_cases hkk : k0 + i < 8 * n
        · have HA : Hid (Crc.ap cx k0 Q (i + 1) = Crc.flip1 (Crc.ap cx k0 Q i) (k0 + i)) := by
            show _ = _
            rw [Crc.ap, if_pos ⟨hb, by rw [HL.out]; exact hkk⟩]
          have hal : (Crc.ap cx k0 Q i).length = n := by rw [Crc.ap_length, HL.out]
          obtain ⟨al, hala⟩ : ∃ al, Crc.ap cx k0 Q i = al := ⟨_, rfl⟩
          rw [hala] at HA hal oq
          clear hala
          obtain ⟨kk, hkq⟩ : ∃ kk, k0 + i = kk := ⟨_, rfl⟩
          have hkI : (k0 : Int) + (i : Int) = (kk : Int) := by omega
          rw [hkq] at HA hkk
          have hk8 : kk / 8 < n := by omega
          have hc := oq.cell (kk / 8) (by omega)
          have hfz := oq.frozen (kk / 8)
          have hx8 := xor_pow (al[kk / 8]'(by omega)) (kk % 8) (by omega)
          have hst := oq.store (kk / 8) ((al[kk / 8]'(by omega)) ^^^ UInt8.ofNat (2 ^ (kk % 8)))
          have HF : Hid (Crc.flip1 al kk = al.set (kk / 8) ((al[kk / 8]'(by omega)) ^^^ UInt8.ofNat (2 ^ (kk % 8)))) := by
            show _ = _
            unfold Crc.flip1
            have e : al.getD (kk / 8) 0 = al[kk / 8]'(by omega) := by simp [show kk / 8 < al.length by omega]
            rw [e]
          obtain ⟨y, hy⟩ : ∃ y, (al[kk / 8]'(by omega)) ^^^ UInt8.ofNat (2 ^ (kk % 8)) = y := ⟨_, rfl⟩
          rw [hy] at hst HF hx8
          obtain ⟨nq, hnq⟩ : ∃ nq, (al[kk / 8]'(by omega)).toNat = nq := ⟨_, rfl⟩
          have hql : nq < 256 := by rw [← hnq]; exact UInt8.toNat_lt _
          rw [hnq] at hx8 hc
          obtain ⟨ny, hny⟩ : ∃ ny, y.toNat = ny := ⟨_, rfl⟩
          have hyl : ny < 256 := by rw [← hny]; exact UInt8.toNat_lt _
          rw [hny] at hst hx8
          have hgne : gp ≠ gq := by omega
          clear hkq hny hnq hy
          go_wp2
          go_region
          go_wp2
          go_round
          case rel =>
            refine ⟨i + 1, by omega, by go_num, ?_, ?_, ?_⟩
            · rw [HA.out, HF.out]; exact hst.drew
            · exact (op3.other ⟨gq, kk / 8, none⟩ hgne _).drew
            · exact (hB3.setCell (p := ⟨gq, kk / 8, none⟩) (by simp only; omega) _).drew
          case measure => simp [intOf]; omega
        · have hkk2 : 8 * n ≤ k0 + i := by omega
          go_wp2
          go_round
          case rel =>
            refine ⟨i + 1, by omega, by go_num, ?_, op3, hB3⟩
            rw [Crc.ap, if_neg (by rw [HL.out]; omega)]
            exact oq
          case measure => simp [intOf]; omega
    · have hi' : i = 32 := by omega
      subst hi'
      have hne : ((Crc.sum (Crc.ap cx k0 Q 32) : Nat) : Int) ≠ ((Crc.sum cx : Nat) : Int) := by
        have := Crc.ap_apart cx k0 Q HQ1.out hQl (by rw [HL.out]; exact hk0n)
        omega
      have hal : (Crc.ap cx k0 Q 32).length = n := by rw [Crc.ap_length, HL.out]
      have htw := ht0.out.below hB3 (Nat.le_refl _)
      obtain ⟨al, hala⟩ : ∃ al, Crc.ap cx k0 Q 32 = al := ⟨_, rfl⟩
      rw [hala] at hne oq hal
      clear hala
      have HE : Hid (∀ m : List UInt8, [m].flatten = m) := fun m => by simp
      have hb1 := (Below.refl wr.heap.size wr).alloc (Nat.le_refl _) (.cells #[.slice (some ⟨gq, 0, none⟩) n kq] 24)
      have hL1 := rdl_one wr _ _ oq.rd
      have ht1 := htw.below hb1 (Nat.le_refl _)
      have hB4 := hB3.alloc hB3.size (.cells #[.slice (some ⟨gq, 0, none⟩) n kq] 24)
      have hp4 := op3.rd.below hb1 (Nat.le_refl _)
      clear hb1 oq op3 hB3
      go_wp2_with fail
      refine (sum_any _ _ _ hL1 ht1).mono ?_
      rintro e w9 ⟨rfl, hw⟩
      subst hw
      rw [HE.out]
      obtain ⟨s1, hs1⟩ : ∃ s1, Crc.sum al = s1 := ⟨_, rfl⟩
      obtain ⟨sq, hsq⟩ : ∃ sq, Crc.sum cx = sq := ⟨_, rfl⟩
      have HS : Hid (Crc.sum cx = sq) := hsq
      rw [hs1, hsq] at hne
      rw [hs1]
      have hL5 := rdl_at _ _ _ hp4 (wr.heap.size + 1) (by simp)
      have hb5 := (Below.refl _ (wr.alloc (.cells #[.slice (some ⟨gq, 0, none⟩) n kq] 24))).alloc (Nat.le_refl _) (.cells #[.slice (some ⟨gp, 0, none⟩) n kp] 24)
      have ht5 := ht1.below hb5 (Nat.le_refl _)
      have hB5 := hB4.alloc hB4.size (.cells #[.slice (some ⟨gp, 0, none⟩) n kp] 24)
      clear hs1 hsq hL1 ht1 hb5 hB4 hp4
      go_wp2_with fail
      refine (sum_any _ _ _ hL5 ht5).mono ?_
      rintro e w9 ⟨rfl, hw⟩
      subst hw
      rw [HE.out, HS.out]
      go_wp2
      go_ret
      have e : ((s1 : Int) != (sq : Int)) = true := by simp only [bne_iff_ne, ne_eq]; exact hne
      refine ⟨?_, hB5⟩
      show Ending.returned (.bool ((s1 : Int) != (sq : Int))) = _
      rw [e]

theorem sealApart_walk (a0 : Option Addr) (len0 cap0 : Nat) (z0 : List Int) (a1 a2 : Int) (w : World) (w0 : IsRow .u8 w a0 len0 cap0 z0) (w1 : (Lit.int .u16 a1).wf = true) (w2 : (Lit.int .u32 a2).wf = true) (ht : Tab w) :
    Calls Tryd.prog 8 #[.slice a0 len0 cap0, .int .u16 a1, .int .u32 a2] w fun e w' => e = .returned (.bool true) ∧ Below w.heap.size w w' := by
  have h1 := bounds_u16 w1
  have h2 := bounds_u32 w2
  obtain ⟨n, rfl⟩ : ∃ n : Nat, a1 = n := ⟨a1.toNat, by omega⟩
  obtain ⟨m, rfl⟩ : ∃ m : Nat, a2 = m := ⟨a2.toNat, by omega⟩
  by_cases h0 : (argB len0 z0).take 600 = []
  · exact apart_none w _ _ h0 _ _ (arg_of w0) ht
  · exact apart_walk w _ _ _ rfl (List.length_take_le _ _) h0 n m (by omega) (by omega) (arg_of w0) ht

end Go.Proofs.YtgmoedoalbmkpaaDoor
