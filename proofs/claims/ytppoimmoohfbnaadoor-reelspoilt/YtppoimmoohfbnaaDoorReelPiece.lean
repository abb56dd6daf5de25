/- reel's appendLowFirst, appendPiece. -/
import Derived.Test.YtppoimmoohfbnaaDoorReelApp
namespace Go.Proofs.YtppoimmoohfbnaaDoor
open Go.RowKit
set_option linter.unusedVariables false

theorem lowK_step (F l : List UInt8) (s j m m' : Nat) (hj : j < s) (h : F ++ lowK (s - j) m' = l ++ lowK s m) : (F ++ [UInt8.ofNat (m' % 256)]) ++ lowK (s - (j + 1)) (m' / 256) = l ++ lowK s m := by
  rw [← h, show s - j = (s - (j + 1)) + 1 by omega, lowK, List.append_assoc]
  rfl

theorem lowK_end (F l : List UInt8) (s m m' : Nat) (h : F ++ lowK (s - s) m' = l ++ lowK s m) : F = l ++ lowK s m := by
  rw [← h, Nat.sub_self, lowK, List.append_nil]

theorem len_step (F l : List UInt8) (s j : Nat) (h : F.length = l.length + j) (hl : l.length ≤ 1000000) (hs : s ≤ 4) (hj : j < s) (b : UInt8) : F.length + 1 ≤ maxLen ∧ (F.length + 1) * 1 ≤ 140737488355328 ∧ (F ++ [b]).length = l.length + (j + 1) := by
  refine ⟨by unfold maxLen; omega, by omega, by simp; omega⟩

set_option maxRecDepth 100000 in
set_option maxHeartbeats 4000000 in
theorem alf_any (w : World) (B g c : Nat) (l : List UInt8) (m s : Nat) (hv : Own B w (.slice (some ⟨g, 0, none⟩) l.length c) l) (hB : B ≤ w.heap.size) (hl : l.length ≤ 1000000) (hm : m < 4294967296) (hs : s ≤ 4) :
    Calls Tryd.prog 33 #[.slice (some ⟨g, 0, none⟩) l.length c, .int .u32 (m : Int), .int .i64 (s : Int)] w fun e w' => ∃ g' c', e = .returned (.slice (some ⟨g', 0, none⟩) (l ++ lowK s m).length c') ∧ Own B w' (.slice (some ⟨g', 0, none⟩) (l ++ lowK s m).length c') (l ++ lowK s m) ∧ Below B w w' := by
  obtain ⟨i0, hi, hz0, hz1, hz2⟩ := info_parts info5
  have HV : Hid (Own B w (.slice (some ⟨g, 0, none⟩) l.length c) l) := hv
  have HB : Hid (B ≤ w.heap.size) := hB
  have HL : Hid (l.length ≤ 1000000) := hl
  have HS : Hid (s ≤ 4) := hs
  clear hv hB hl
  go_enter Tryd.func33, Tryd.ntmps33
  go_wp2_with fail
  go_loopg [0, 1, 8] s (fun gk fv nv iv wr => ∃ (j g' c' m' : Nat) (F : List UInt8), gk + j = s ∧ iv = .int .i64 (j : Int) ∧ nv = .int .u32 (m' : Int) ∧ m' < 4294967296 ∧ fv = .slice (some ⟨g', 0, none⟩) F.length c' ∧ Hid (F.length = l.length + j ∧ F ++ lowK (s - j) m' = l ++ lowK s m) ∧ Hid (Own B wr fv F) ∧ Hid (Below B w wr))
  case atStart => exact ⟨0, g, c, m, l, by omega, rfl, rfl, hm, rfl, ⟨rfl, by rw [Nat.sub_zero]⟩, HV, Below.refl _ _⟩
  case round =>
    obtain ⟨j, g', c', m', F, hj, rfl, rfl, hm', rfl, HF, HO, HW⟩ := hrel
    by_cases hlt : j < s
    · obtain ⟨b, hb⟩ : ∃ b, UInt8.ofNat (m' % 256) = b := ⟨_, rfl⟩
      obtain ⟨d1, d2, d3⟩ := len_step F l s j HF.out.1 HL.out HS.out hlt b
      have HD : Hid _ := And.intro d1 (And.intro d2 d3)
      obtain ⟨q1, q2⟩ := gk_nxt hj hlt
      have hBr : B ≤ wr.heap.size := Nat.le_trans HB.out HW.out.size
      have hlit := lit_row wr B hBr b
      have hbv := byte_val m'
      rw [hb] at hbv
      rw [hbv] at hlit
      have hqa := HO.out.row.alloc (.cells #[.int .u8 ((m' : Int) % 256)] 5)
      have HSZ : Hid (B ≤ (wr.alloc (.cells #[.int .u8 ((m' : Int) % 256)] 5)).heap.size) := by show _ ≤ _; simp; omega
      have HST : Hid _ := lowK_step F l s j m m' hlt HF.out.2
      rw [hb] at HST
      have h8 := shr8 m'
      have hmn := low_next hm'
      obtain ⟨mq, hmq⟩ : ∃ mq, m' / 256 = mq := ⟨_, rfl⟩
      rw [hmq] at h8 hmn HST
      clear d1 d2 d3 hbv hb hmq
      go_wp2_with (first | (at_builtin; refine wpList_append_own _ rfl (.tmp 10) (.tmp 13) 22 rfl B 5 i0 (.int .u8 0) 1 1 Tryd.underlying22 hi hz0 hz1 hz2 rfl (by decide) (.slice (some ⟨g', 0, none⟩) F.length c') F.length (bv F) rfl hqa ⟨wr.heap.size, 0, none⟩ 1 1 (bv [b]) rfl rfl (hlit.cells rfl) (bv_one _) HD.out.1 HD.out.2.1 HSZ.out ?_; intro v' w4 ho' hgr' hn'; obtain ⟨gv, kv, hvv, hk1, hk2, ov⟩ := app_shape ho' rfl rfl (fun e => by have := (hn'.1 e).1; cases this); subst hvv; have OV : Hid (Own B w4 (.slice (some ⟨gv, 0, none⟩) (F.length + 1) kv) (F ++ [b])) := ov; have HB4 : Hid (Below B w w4) := (HW.out.alloc hBr _).grown hgr' HSZ.out (fun k' e => (hqa.lt k' e).1); clear ov ho' hgr' hn' hk1 hk2) | fail)
      clear hlit hqa h8
      go_roundg (gk - 1)
      case measure => exact q1
      case rel => exact ⟨j + 1, gv, kv, mq, F ++ [b], q2, by go_num, by first | rfl | go_num, hmn, by rw [List.length_append]; rfl, ⟨HD.out.2.2, HST.out⟩, OV, HB4⟩
    · obtain rfl : j = s := by omega
      have e := lowK_end F l j m m' HF.out.2
      have HE : Hid _ := e
      clear e hlt
      go_wp2
      go_ret
      rw [← HE.out]
      exact ⟨g', c', rfl, HO.out, HW.out⟩

/-- what lies below block B is read as it was -/
theorem Rd.low {B : Nat} {w w' : World} {v : Value} {t : List UInt8} (h : Rd w v t) (hv : ∀ b, v.ownBlock = some b → b < B) (hb : Below B w w') : Rd w' v t := by
  rcases h with h | ⟨b, off, cap, rfl, h1, h2, h3⟩
  · exact .inl h
  · refine .inr ⟨b, off, cap, rfl, h1, h2, fun j u hu => ?_⟩
    rw [hb.cell (p := ⟨b, off + j, none⟩) (hv b rfl)]
    exact h3 j u hu

theorem arg_cells {w : World} {ad : Addr} {n cap : Nat} {t : List UInt8} (h : Rd w (.slice (some ad) n cap) t) : ∀ j u, (bv t)[j]? = some u → w.cell? (ad.add j) = some u := by
  rcases h with ⟨e, _⟩ | ⟨b, off, cap', e, h1, h2, h3⟩
  · cases e
  · simp only [Value.slice.injEq, Option.some.injEq] at e
    obtain ⟨rfl, _⟩ := e
    intro j u hu
    rw [Addr.add_lit]
    exact h3 j u hu

theorem piece_flat (F t : List UInt8) (k : UInt8) : (((F ++ lowK 4 (Crc.mask (Crc.sum (k :: t)))) ++ lowK 2 t.length) ++ [k]) ++ t = F ++ pcB k t := by
  unfold pcB
  rw [lowK_four]
  simp [lowK]

set_option maxRecDepth 100000 in
set_option maxHeartbeats 4000000 in
theorem piece_any (w : World) (B g c : Nat) (F t : List UInt8) (k : UInt8) (v : Value) (hv : Own B w (.slice (some ⟨g, 0, none⟩) F.length c) F) (ht : Rd w v t) (hvb : ∀ b, v.ownBlock = some b → b < B) (hB : B ≤ w.heap.size) (hB0 : 0 < B) (hF : F.length ≤ 500000) (htl : t.length ≤ 1000) (hT : Tab w) :
    Calls Tryd.prog 25 #[.slice (some ⟨g, 0, none⟩) F.length c, .int .u8 (k.toNat : Int), v] w fun e w' => ∃ g' c', e = .returned (.slice (some ⟨g', 0, none⟩) (F ++ pcB k t).length c') ∧ Own B w' (.slice (some ⟨g', 0, none⟩) (F ++ pcB k t).length c') (F ++ pcB k t) ∧ Below B w w' := by
  obtain ⟨i0, hi, hz0, hz1, hz2⟩ := info_parts info5
  obtain ⟨ao, cap, hvv⟩ := ht.len
  subst hvv
  have hs := sumof_any w k _ t ht hT
  have HT : Hid (Rd w (.slice ao t.length cap) t) := ht
  obtain ⟨sm, hsm⟩ : ∃ sm, Crc.mask (Crc.sum (k :: t)) = sm := ⟨_, rfl⟩
  have HSM : Hid (sm < 4294967296) := by show _ < _; rw [← hsm]; exact Crc.mask_lt _
  have HPF : Hid ((((F ++ lowK 4 sm) ++ lowK 2 t.length) ++ [k]) ++ t = F ++ pcB k t) := by show _ = _; rw [← hsm]; exact piece_flat F t k
  rw [hsm] at hs
  have HV : Hid (Own B w (.slice (some ⟨g, 0, none⟩) F.length c) F) := hv
  have HVB : Hid (∀ b, (Value.slice ao t.length cap).ownBlock = some b → b < B) := hvb
  have HB : Hid (B ≤ w.heap.size) := hB
  have hwt : IntKind.u32.wrap (t.length : Int) = (t.length : Int) := by rw [IntKind.wrap_u32]; omega
  obtain ⟨F1, hF1⟩ : ∃ F1, F ++ lowK 4 sm = F1 := ⟨_, rfl⟩
  obtain ⟨F2, hF2⟩ : ∃ F2, F1 ++ lowK 2 t.length = F2 := ⟨_, rfl⟩
  have HL : Hid (F.length ≤ 1000000 ∧ F1.length ≤ 1000000 ∧ F2.length + 1 ≤ maxLen ∧ (F2.length + 1) * 1 ≤ 140737488355328 ∧ (F2 ++ [k]).length + t.length ≤ maxLen ∧ ((F2 ++ [k]).length + t.length) * 1 ≤ 140737488355328 ∧ t.length < 4294967296) := by
    rw [List.length_append, ← hF2, List.length_append, ← hF1, List.length_append, lowK_length, lowK_length]
    simp only [List.length_cons, List.length_nil]
    unfold maxLen
    refine ⟨?_, ?_, ?_, ?_, ?_, ?_, ?_⟩ <;> omega
  have H1 : Hid _ := hF1
  have H2 : Hid _ := hF2
  rw [hF1, hF2] at HPF
  clear hsm hv hvb hB hF htl hT ht hF1 hF2
  go_enter Tryd.func25, Tryd.ntmps25
  go_wp2_with fail
  refine hs.mono ?_
  rintro e w1 ⟨rfl, hb1⟩
  have o1 := HV.out.below hb1 (Nat.le_refl _)
  have HB1 : Hid (Below B w w1) := hb1.mono HB.out
  clear hs hb1
  go_wp2_with fail
  refine (alf_any w1 B g c F sm 4 o1 (Nat.le_trans HB.out HB1.out.size) HL.out.1 HSM.out (by decide)).mono ?_
  rintro e w2 ⟨g2, c2, rfl, o2, hb2⟩
  rw [H1.out] at o2
  rw [H1.out]
  have HB2 : Hid (Below B w w2) := HB1.out.trans hb2
  clear o1 hb2
  go_wp2_with fail
  refine (alf_any w2 B g2 c2 F1 t.length 2 o2 (Nat.le_trans HB.out HB2.out.size) HL.out.2.1 HL.out.2.2.2.2.2.2 (by decide)).mono ?_
  rintro e w3 ⟨g3, c3, rfl, o3, hb3⟩
  rw [H2.out] at o3
  rw [H2.out]
  have HB3 : Hid (Below B w w3) := HB2.out.trans hb3
  clear o2 hb3
  have hBr : B ≤ w3.heap.size := Nat.le_trans HB.out HB3.out.size
  have hlit := lit_row w3 B hBr k
  have hqa := o3.row.alloc (.cells #[.int .u8 (k.toNat : Int)] 5)
  have HSZ : Hid (B ≤ (w3.alloc (.cells #[.int .u8 (k.toNat : Int)] 5)).heap.size) := by show _ ≤ _; simp; omega
  have HT3 := (HT.out.low HVB.out HB3.out)
  have HBA : Hid (Below B w (w3.alloc (.cells #[.int .u8 (k.toNat : Int)] 5))) := HB3.out.alloc hBr _
  clear o3 HT3
  obtain ⟨N, hN⟩ : ∃ N, (F2 ++ [k]).length = N := ⟨_, rfl⟩
  have HN : Hid (F2.length + 1 = N) := by show _ = _; rw [← hN, List.length_append]; rfl
  have HN2 : Hid _ := hN
  clear hN
  rcases (show ao = none ∧ t = [] ∧ cap = 0 ∨ ∃ ad, ao = some ad from by
    rcases HT.out with ⟨e, e2⟩ | ⟨b, off, cap', e, _⟩
    · simp only [Value.slice.injEq] at e
      exact .inl ⟨e.1, e2, e.2.2⟩
    · simp only [Value.slice.injEq] at e
      exact .inr ⟨_, e.1⟩) with ⟨rfl, rfl, rfl⟩ | ⟨ad, rfl⟩
  · go_wp2_with (first
      | (at_builtin; refine wpList_append_own _ rfl (.tmp 17) (.tmp 19) 22 rfl B 5 i0 (.int .u8 0) 1 1 Tryd.underlying22 hi hz0 hz1 hz2 rfl (by decide) (.slice (some ⟨g3, 0, none⟩) F2.length c3) F2.length (bv F2) rfl hqa ⟨w3.heap.size, 0, none⟩ 1 1 (bv [k]) rfl rfl (hlit.cells rfl) (bv_one _) HL.out.2.2.1 HL.out.2.2.2.1 HSZ.out ?_; intro v' w4 ho' hgr' hn'; obtain ⟨gv, kv, hvv, hk1, hk2, ov⟩ := app_shape ho' rfl rfl (fun e => by have := (hn'.1 e).1; cases this); subst hvv; rw [HN.out] at ov; have hrow4 := ov.row; rw [HN2.out] at hrow4; rw [HN.out]; have HB4 : Hid (Below B w w4) := HBA.out.grown hgr' HSZ.out (fun k' e => (hqa.lt k' e).1); clear ho' hgr' hn' hk1 hk2)
      | (at_builtin; refine wpList_append_own_none rfl (.tmp 21) (.tmp 22) 22 rfl B 5 i0 1 Tryd.underlying22 hi _ _ _ rfl hrow4 rfl ?_)
      | fail)
    go_ret
    have e1 := HPF.out
    rw [List.append_nil] at e1
    rw [← e1, HN2.out]
    exact ⟨gv, kv, rfl, ov, HB4.out⟩
  · go_wp2_with (first
      | (at_builtin; refine wpList_append_own _ rfl (.tmp 17) (.tmp 19) 22 rfl B 5 i0 (.int .u8 0) 1 1 Tryd.underlying22 hi hz0 hz1 hz2 rfl (by decide) (.slice (some ⟨g3, 0, none⟩) F2.length c3) F2.length (bv F2) rfl hqa ⟨w3.heap.size, 0, none⟩ 1 1 (bv [k]) rfl rfl (hlit.cells rfl) (bv_one _) HL.out.2.2.1 HL.out.2.2.2.1 HSZ.out ?_; intro v' w4 ho' hgr' hn'; obtain ⟨gv, kv, hvv, hk1, hk2, ov⟩ := app_shape ho' rfl rfl (fun e => by have := (hn'.1 e).1; cases this); subst hvv; rw [HN.out] at ov; have hrow4 := ov.row; rw [HN2.out] at hrow4; rw [HN.out]; have HB4 : Hid (Below B w w4) := HBA.out.grown hgr' HSZ.out (fun k' e => (hqa.lt k' e).1); have ht4 := arg_cells (HT.out.low HVB.out HB4.out); clear ho' hgr' hn' hk1 hk2)
      | (at_builtin; refine wpList_append_own _ rfl (.tmp 21) (.tmp 22) 22 rfl B 5 i0 (.int .u8 0) 1 1 Tryd.underlying22 hi hz0 hz1 hz2 rfl (by decide) (.slice (some ⟨gv, 0, none⟩) N kv) N (bv (F2 ++ [k])) rfl hrow4 ad t.length cap (bv t) rfl (by rw [bv_length, Nat.mul_one]) ht4 (bv_one _) (by rw [← HN2.out]; exact HL.out.2.2.2.2.1) (by rw [← HN2.out]; exact HL.out.2.2.2.2.2.1) (Nat.le_trans HB.out HB4.out.size) ?_; intro v' w5 ho' hgr' hn'; obtain ⟨gw, kw, hvv, hk1, hk2, ow⟩ := app_shape ho' HN2.out rfl (fun e => by have := (hn'.1 e).1; cases this); subst hvv; have OW : Hid (Own B w5 (.slice (some ⟨gw, 0, none⟩) (N + t.length) kw) ((F2 ++ [k]) ++ t)) := ow; have HB5 : Hid (Below B w w5) := HB4.out.grown hgr' (Nat.le_trans HB.out HB4.out.size) (fun k' e => (hrow4.lt k' e).1); clear ho' hgr' hn' hk1 hk2 ow)
      | fail)
    go_ret
    have hlen : (F ++ pcB k t).length = N + t.length := by rw [← HPF.out, List.length_append, HN2.out]
    rw [hlen, ← HPF.out]
    exact ⟨gw, kw, rfl, OW.out, HB5.out⟩

end Go.Proofs.YtppoimmoohfbnaaDoor
