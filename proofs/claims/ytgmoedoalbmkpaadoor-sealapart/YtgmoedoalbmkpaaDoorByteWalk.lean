/- SealByte answers true: a seal of which one byte is another one is none any more. -/
import Derived.Test.YtgmoedoalbmkpaaDoorOpensWalk
import Derived.Test.YtgmoedoalbmkpaaDoorInj
namespace Go.Proofs.YtgmoedoalbmkpaaDoor
open Go.RowKit

theorem sealB_length (t : List UInt8) : (sealB t).length = t.length + 4 := by simp [sealB, Crc.four]

theorem not_seal (t : List UInt8) (i : Nat) (y : UInt8) (hi : i < (sealB t).length) (hy : y ≠ (sealB t)[i]) (t' : List UInt8) (a b c d : UInt8) (e : (sealB t).set i y = t' ++ [a, b, c, d]) : sealB t' ≠ t' ++ [a, b, c, d] := by
  intro h
  rw [← e] at h
  have hlen : t'.length = t.length := by
    have := congrArg List.length h
    rw [List.length_set, sealB_length, sealB_length] at this
    omega
  by_cases hit : i < t.length
  · have e2 : (sealB t).set i y = t.set i y ++ Crc.four (Crc.mask (Crc.sum t)) := by unfold sealB; rw [List.set_append_left _ _ hit]
    rw [e2] at h
    unfold sealB at h
    obtain ⟨h1, h2⟩ := List.append_inj h (by simp [hlen])
    have h3 := Crc.low_four (Crc.mask (Crc.sum t')) (Crc.mask_lt _)
    rw [h2, Crc.low_four _ (Crc.mask_lt _)] at h3
    have h4 := Crc.mask_inj _ _ (Crc.sum_lt _) (Crc.sum_lt _) h3
    rw [h1] at h4
    have h5 := Crc.sum_set t i hit y h4.symm
    apply hy
    rw [h5]
    simp [sealB, List.getElem_append_left hit]
  · have e2 : (sealB t).set i y = t ++ (Crc.four (Crc.mask (Crc.sum t))).set (i - t.length) y := by unfold sealB; rw [List.set_append_right _ _ (by omega)]
    have h' := h
    rw [e2] at h'
    unfold sealB at h'
    obtain ⟨h1, h2⟩ := List.append_inj h' hlen
    subst h1
    apply hy
    have : (sealB t')[i]? = ((sealB t').set i y)[i]? := by rw [← h]
    rw [List.getElem?_set_self hi, List.getElem?_eq_getElem hi] at this
    exact (Option.some.inj this).symm

theorem op_bad {t : List UInt8} {i : Nat} {y : UInt8} {B : Nat} {w : World} {x : Value} {z : Int} (hi : i < (sealB t).length) (hy : y ≠ (sealB t)[i]) (h : OP ((sealB t).set i y) B w x z) : x = .slice none 0 0 ∧ z = 5 := by
  rcases h with ⟨h1, _⟩ | ⟨t', a, b, c, d, e, hp⟩
  · rw [List.length_set, sealB_length] at h1; omega
  · have hn := not_seal t i y hi hy t' a b c d e
    have : (sealB t' == (sealB t).set i y) = false := by rw [e]; exact beq_eq_false_iff_ne.2 hn
    rw [this] at hp
    obtain ⟨h1, h2⟩ := hp
    cases h2
    exact ⟨h1, rfl⟩

theorem xor_ne (x y : UInt8) (h : y ≠ 0) : x ^^^ y ≠ x := by
  intro e
  apply h
  have : x ^^^ (x ^^^ y) = x ^^^ x := by rw [e]
  simpa [← UInt8.xor_assoc] using this

/-- a byte is stored into what is one's own -/
theorem Own.store {B : Nat} {w : World} {g n k : Nat} {l : List UInt8} (h : Own B w (.slice (some ⟨g, 0, none⟩) n k) l) (i : Nat) (y : UInt8) : Own B (w.setCell ⟨g, i, none⟩ (.int .u8 (y.toNat : Int))) (.slice (some ⟨g, 0, none⟩) n k) (l.set i y) := by
  have hl : n = l.length := by obtain ⟨g', k', c, e, _⟩ := h; cases e; rfl
  subst hl
  have e := h.row.stored i (.int .u8 (y.toNat : Int))
  refine Own.of_row ?_ (by simp)
  have e2 : (bv l).set i (.int .u8 (y.toNat : Int)) = bv (l.set i y) := by simp [bv, List.map_set]
  rw [← e2, List.length_set]
  exact e.1
theorem Own.frozen {B : Nat} {w : World} {g n k : Nat} {l : List UInt8} (h : Own B w (.slice (some ⟨g, 0, none⟩) n k) l) (i : Nat) : w.frozen? ⟨g, i, none⟩ = false := by
  have hl : n = l.length := by obtain ⟨g', k', c, e, _⟩ := h; cases e; rfl
  subst hl
  exact World.ownsRow.frozenAt h.row i
theorem Own.cell {B : Nat} {w : World} {g n k : Nat} {l : List UInt8} (h : Own B w (.slice (some ⟨g, 0, none⟩) n k) l) (i : Nat) (hi : i < l.length) : w.cell? ⟨g, i, none⟩ = some (.int .u8 ((l[i]).toNat : Int)) := by
  have := (rd_cells h.rd).2 i _ (bv_get _ i hi)
  rwa [Addr.add_lit, Nat.zero_add] at this

set_option maxHeartbeats 4000000 in
set_option maxRecDepth 20000 in
theorem byte_zero (w : World) (vx : Value) (at_ : Int) (ht : Tab w) :
    Calls Tryd.prog 7 #[vx, .int .u16 at_, .int .u8 0] w fun e w' => e = .returned (.bool true) ∧ Below w.heap.size w w' := by
  go_enter Tryd.func7, Tryd.ntmps7
  go_wp2_with fail
  refine (awake_any _ ht).mono ?_
  rintro e w1 ⟨rfl, hb1⟩
  have ht1 := ht.below hb1 (Nat.le_refl _)
  go_wp2_with fail
  refine (awake_any _ ht1).mono ?_
  rintro e w2 ⟨rfl, hb2⟩
  go_wp2
  go_ret
  exact ⟨rfl, hb1.trans (hb2.mono hb1.size)⟩

set_option maxHeartbeats 4000000 in
set_option maxRecDepth 20000 in
theorem byte_walk (w : World) (vx : Value) (x cx : List UInt8) (CX : Hid (x.take 600 = cx)) (hcx : cx.length ≤ 600) (at_ : Nat) (hat : at_ < 65536) (b : UInt8) (hb0 : b ≠ 0) (hx : Arg w vx x) (ht : Tab w) :
    Calls Tryd.prog 7 #[vx, .int .u16 (at_ : Int), .int .u8 (b.toNat : Int)] w fun e w' => e = .returned (.bool true) ∧ Below w.heap.size w w' := by
  have ht0 : Hid (Tab w) := ht
  have HB0 : Hid (b ≠ 0) := hb0
  obtain ⟨nb, hnb⟩ : ∃ nb, b.toNat = nb := ⟨_, rfl⟩
  have hnz : nb ≠ 0 := fun e => hb0 (UInt8.toNat_inj.1 (by rw [hnb, e]; rfl))
  have hnl : nb < 256 := by rw [← hnb]; exact b.toNat_lt
  have HNB : Hid (b.toNat = nb) := hnb
  rw [hnb]
  clear hb0 hnb
  go_enter Tryd.func7, Tryd.ntmps7
  go_wp2_with fail
  refine (awake_any _ ht).mono ?_
  rintro e w1 ⟨rfl, hb1⟩
  have hx1 := hx.below hb1 (Nat.le_refl _)
  clear hx ht
  go_wp2_with fail
  refine (cut_any _ _ x 600 hx1 (by omega)).mono ?_
  rintro e w2 ⟨vp, rfl, op, hb2⟩
  rw [CX.out] at op
  have hB2 := hb1.trans (hb2.mono hb1.size)
  have ht2 := ht0.out.below hB2 (Nat.le_refl _)
  clear hb1 hb2 hx1
  go_wp2_with fail
  refine (close_any _ _ cx op.rd (by omega) ht2).mono ?_
  rintro e w3 ⟨x1, rfl, o1, hb3⟩
  have hB3 := hB2.trans (hb3.mono hB2.size)
  obtain ⟨g, k, hvp⟩ := o1.shape
  subst hvp
  have hg := o1.lt.1
  have hls := sealB_length cx
  obtain ⟨n, hn⟩ : ∃ n, (sealB cx).length = n := ⟨_, rfl⟩
  have HN : Hid ((sealB cx).length = n) := hn
  rw [hn] at hls o1
  rw [hn]
  have hn4 : 4 ≤ n := by omega
  have hn6 : n ≤ 604 := by omega
  obtain ⟨j, hj⟩ : ∃ j, at_ % n = j := ⟨_, rfl⟩
  have hjn : j < n := by rw [← hj]; exact Nat.mod_lt _ (by omega)
  have hm : (at_ : Int) % (n : Int) = (j : Int) := by omega
  have hjl : j < (sealB cx).length := by omega
  have HJ : Hid (j < (sealB cx).length) := hjl
  obtain ⟨q, hq⟩ : ∃ q, (sealB cx)[j] = q := ⟨_, rfl⟩
  have HQ : Hid ((sealB cx)[j] = q) := hq
  have hc : w3.cell? ⟨g, j, none⟩ = some (.int .u8 (q.toNat : Int)) := by rw [← hq]; exact o1.cell j hjl
  have hfz := o1.frozen j
  have hst := o1.store j (q ^^^ b)
  have hX : (q ^^^ b).toNat = q.toNat ^^^ nb := by rw [UInt8.toNat_xor, HNB.out]
  have hx8 := u8_xor_nat q.toNat nb q.toNat_lt hnl
  rw [← hX] at hx8
  have hne : Hid (q ^^^ b ≠ (sealB cx)[j]) := by rw [hq]; exact xor_ne q b HB0.out
  obtain ⟨r, hr⟩ : ∃ r, (q ^^^ b).toNat = r := ⟨_, rfl⟩
  have hrl : r < 256 := by rw [← hr]; exact (q ^^^ b).toNat_lt
  rw [hr] at hst hx8
  obtain ⟨nq, hnq⟩ : ∃ nq, q.toNat = nq := ⟨_, rfl⟩
  have hql : nq < 256 := by rw [← hnq]; exact q.toNat_lt
  rw [hnq] at hc hx8
  have hs2 := hB2.size
  have hB4 := hB3.setCell (p := ⟨g, j, none⟩) (by simp only; omega) (.int .u8 (r : Int))
  have ht4 := ht0.out.below hB4 (Nat.le_refl _)
  clear hn hb3 hB2 ht2 op hls hX hr hnq hq hj hjl o1
  go_wp2_with fail
  refine (open_any _ _ _ hst.rd (by rw [List.length_set, HN.out]; omega) ht4).mono ?_
  rintro e w5 ⟨x1, y1, rfl, o1, hb5⟩
  obtain ⟨rfl, rfl⟩ := op_bad HJ.out hne.out o1
  have hB5 := hB4.trans (hb5.mono hB4.size)
  clear hb5 hB4 ht4 hst o1
  go_wp2
  go_ret
  exact ⟨rfl, hB5⟩

theorem sealByte_walk (a0 : Option Addr) (len0 cap0 : Nat) (z0 : List Int) (a1 a2 : Int) (w : World) (w0 : IsRow .u8 w a0 len0 cap0 z0) (w1 : (Lit.int .u16 a1).wf = true) (w2 : (Lit.int .u8 a2).wf = true) (ht : Tab w) :
    Calls Tryd.prog 7 #[.slice a0 len0 cap0, .int .u16 a1, .int .u8 a2] w fun e w' => e = .returned (.bool true) ∧ Below w.heap.size w w' := by
  have h1 := bounds_u16 w1
  have h2 := bounds_u8 w2
  obtain ⟨n, rfl⟩ : ∃ n : Nat, a1 = n := ⟨a1.toNat, by omega⟩
  by_cases h0 : a2 = 0
  · subst h0; exact byte_zero w _ _ ht
  · obtain ⟨b, hb⟩ : ∃ b : UInt8, a2 = (b.toNat : Int) := ⟨UInt8.ofNat a2.toNat, by simp; omega⟩
    subst hb
    exact byte_walk w _ _ _ rfl (List.length_take_le _ _) n (by omega) b (fun e => h0 (by rw [e]; rfl)) (arg_of w0) ht

end Go.Proofs.YtgmoedoalbmkpaaDoor
