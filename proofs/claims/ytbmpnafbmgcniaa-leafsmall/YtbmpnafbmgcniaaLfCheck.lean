/- leaf.check and bartizanref12.Check. -/
import Derived.Test.YtbmpnafbmgcniaaLfPure
namespace Go.Proofs.Ytbmpnafbmgcniaa
open Go.RowKit
set_option linter.unusedVariables false

theorem wrap_decr (j : Nat) (h : j ≤ 1000000) : (IntKind.i64.wrap ((j : Int) + 1 - 1) = (j : Int) ∧ wrap64 ((j : Int) + 1 - 1) = (j : Int)) ∧ IntKind.i64.wrap (j : Int) = (j : Int) ∧ wrap64 (j : Int) = (j : Int) := by
  refine ⟨⟨?_, ?_⟩, ?_, ?_⟩
  · rw [IntKind.wrap_i64]; omega
  · unfold wrap64; omega
  · rw [IntKind.wrap_i64]; omega
  · unfold wrap64; omega

/-- two entries that stand behind one another -/
structure Two4 (w : World) (p o j : Nat) (x1 : Option Addr) (m1 x2 : Nat) (s1 k1 : Int) (x3 : Option Addr) (m2 x4 : Nat) (s2 k2 : Int) : Prop where
  a0 : w.cell? ⟨p, o + j * 4, none⟩ = some (.slice x1 m1 x2)
  a1 : w.cell? ⟨p, o + j * 4 + 1, none⟩ = some (.int .u64 s1)
  a2 : w.cell? ⟨p, o + j * 4 + 2, none⟩ = some (.int .u8 k1)
  b0 : w.cell? ⟨p, o + (j + 1) * 4, none⟩ = some (.slice x3 m2 x4)
  b1 : w.cell? ⟨p, o + (j + 1) * 4 + 1, none⟩ = some (.int .u64 s2)
  b2 : w.cell? ⟨p, o + (j + 1) * 4 + 2, none⟩ = some (.int .u8 k2)

theorem Two4.below {B : Nat} {w w' : World} {p o j : Nat} {x1 : Option Addr} {m1 x2 : Nat} {s1 k1 : Int} {x3 : Option Addr} {m2 x4 : Nat} {s2 k2 : Int} (h : Two4 w p o j x1 m1 x2 s1 k1 x3 m2 x4 s2 k2) (hb : Below B w w') (hB : w.heap.size ≤ B) : Two4 w' p o j x1 m1 x2 s1 k1 x3 m2 x4 s2 k2 := by
  have hl : p < B := Nat.lt_of_lt_of_le (World.block_lt_of_cell? w _ h.a0) hB
  exact ⟨(hb.cell (p := ⟨p, o + j * 4, none⟩) hl).trans h.a0, (hb.cell (p := ⟨p, o + j * 4 + 1, none⟩) hl).trans h.a1, (hb.cell (p := ⟨p, o + j * 4 + 2, none⟩) hl).trans h.a2, (hb.cell (p := ⟨p, o + (j + 1) * 4, none⟩) hl).trans h.b0, (hb.cell (p := ⟨p, o + (j + 1) * 4 + 1, none⟩) hl).trans h.b1, (hb.cell (p := ⟨p, o + (j + 1) * 4 + 2, none⟩) hl).trans h.b2⟩

set_option maxRecDepth 20000 in
set_option maxHeartbeats 4000000 in
theorem lcheck_any (w : World) (v : Value) (es : List EnB) (c : Int) (hv : RdE w v es) (hc : chkLf es = c) :
    Calls Try.prog 31 #[v] w fun e w' => e = .returned (.int .i64 c) ∧ Below w.heap.size w w' := by
  have HV : Hid (RdE w v es) := hv
  obtain ⟨ao, cap, rfl, h1, h2, _⟩ := hv
  unfold maxLen at h2
  obtain ⟨N, hN⟩ : ∃ N, es.length = N := ⟨_, rfl⟩
  rw [hN] at h1 HV ⊢
  have HN : Hid (es.length = N) := hN
  have HC : Hid (chkLf es = c) := hc
  clear hN hc
  go_enter Try.func31, Try.ntmps31
  by_cases h64 : 64 < N
  · have hI : (64 : Int) < (N : Int) := by omega
    have HE : Hid (c = 3) := by show c = 3; rw [← HC.out]; unfold chkLf; rw [HN.out, if_pos h64]
    go_wp2
    go_ret
    exact ⟨ret_int HE.out.symm, Below.refl _ _⟩
  · have hI : ¬ (64 : Int) < (N : Int) := by omega
    have hN64 : N ≤ 64 := by omega
    go_wp2_with fail
    go_loopg [12] N (fun gk iv wr => ∃ j : Nat, gk + j = N ∧ iv = .int .i64 (j : Int) ∧ Hid (chkEs es = chkEs (es.drop j)) ∧ Hid (Below w.heap.size w wr))
    case atStart => exact ⟨0, by omega, rfl, rfl, Below.refl _ _⟩
    case round =>
      obtain ⟨j, hj, rfl, HS, HB⟩ := hrel
      by_cases hlt : j < N
      · have hlt2 : j < es.length := by rw [HN.out]; exact hlt
        obtain ⟨_, _, e, _, _, h3⟩ := rdE_below HV.out HB.out (Nat.le_refl _)
        rw [HN.out] at e
        cases e
        obtain ⟨b, off, rfl, xv, yv, c0, c1, c2, c3, rx, ry⟩ := h3 j hlt2
        obtain ⟨x1, x2, ex⟩ := rx.len
        obtain ⟨y1, y2, ey⟩ := ry.len
        subst ex ey
        obtain ⟨⟨ol, osq, ok, oo⟩, ho⟩ : ∃ o, es[j] = o := ⟨_, rfl⟩
        rw [ho] at c0 c1 c2 c3
        obtain ⟨q1, q2⟩ := gk_nxt hj hlt
        simp only at c0 c1 c2 c3
        obtain ⟨kk, hkk⟩ : ∃ kk, ok.toNat = kk := ⟨_, rfl⟩
        obtain ⟨nl, hnlq⟩ : ∃ nl, ol.length = nl := ⟨_, rfl⟩
        obtain ⟨oln, holn⟩ : ∃ oln, oo.length = oln := ⟨_, rfl⟩
        rw [hkk] at c2
        rw [hnlq] at c0
        rw [holn] at c3
        have HE : Hid (chkEn es[j] = if chk nl (osq : Int) (kk : Int) = 0 then (if 512 < oln then 3 else 0) else chk nl (osq : Int) (kk : Int)) := by show _ = _; rw [ho]; unfold chkEn; simp only; rw [hkk, hnlq, holn]
        have hb0 := below_box4 wr (.cells #[.slice x1 nl x2, .int .u64 (osq : Int), .int .u8 (kk : Int), .slice y1 oln y2] 45)
        have BX := box4_new wr (.slice x1 nl x2) (.int .u64 (osq : Int)) (.int .u8 (kk : Int)) (.slice y1 oln y2) 45
        have hck := check_any (wr.alloc (.cells #[.slice x1 nl x2, .int .u64 (osq : Int), .int .u8 (kk : Int), .slice y1 oln y2] 45)) x1 nl x2 (osq : Int) (kk : Int) (by omega) (by omega)
        obtain ⟨ck, hckq⟩ : ∃ ck, chk nl (osq : Int) (kk : Int) = ck := ⟨_, rfl⟩
        rw [hckq] at hck HE
        have HB0 : Hid (Below w.heap.size w (wr.alloc (.cells #[.slice x1 nl x2, .int .u64 (osq : Int), .int .u8 (kk : Int), .slice y1 oln y2] 45))) := bsplit HB.out hb0
        have BX' := BX
        obtain ⟨z0, z1, z2, z3⟩ := BX'
        clear ho hb0 h3 rx ry hnlq holn hkk hckq
        go_wp2_with fail
        refine hck.mono ?_
        rintro e w2 ⟨rfl, hb2⟩
        have HB2 : Hid (Below w.heap.size w w2) := bsplit HB0.out hb2
        clear z0 z1 z2 z3
        obtain ⟨z0, z1, z2, z3⟩ := BX.below hb2 (Nat.le_refl _)
        clear hck hb2 BX
        by_cases hc0 : ck = 0
        · subst hc0
          by_cases h512 : 512 < oln
          · have h5I : (512 : Int) < (oln : Int) := by omega
            have HF : Hid (c = 3) := by
              have he : chkEn es[j] = 3 := by rw [HE.out, if_pos rfl, if_pos h512]
              have h9 := chkEs_bad hlt2 HS.out (by rw [he]; decide)
              show c = 3
              rw [← HC.out]; unfold chkLf; rw [HN.out, if_neg h64, h9, he]; rfl
            go_wp2
            go_ret
            exact ⟨ret_int HF.out.symm, HB2.out⟩
          · have h5I : ¬ (512 : Int) < (oln : Int) := by omega
            have HF : Hid (chkEs es = chkEs (es.drop (j + 1))) := chkEs_ok hlt2 HS.out (by rw [HE.out, if_pos rfl, if_neg h512])
            go_wp2_with fail
            go_roundg (gk - 1)
            case measure => exact q1
            case rel => exact ⟨j + 1, q2, by go_num, HF, HB2⟩
        · have hcb : (ck == 0) = false := by simpa using hc0
          have HF : Hid (c = ck) := by
            have he : chkEn es[j] = ck := by rw [HE.out, if_neg hc0]
            have h9 := chkEs_bad hlt2 HS.out (by rw [he]; exact hc0)
            show c = ck
            rw [← HC.out]; unfold chkLf; rw [HN.out, if_neg h64, h9, he, if_neg hc0]
          go_wp2
          go_ret
          exact ⟨ret_int HF.out.symm, HB2.out⟩
      · have HZ : Hid (chkEs es = 0) := chkEs_end (by rw [HN.out]; exact hlt) HS.out
        have hjN : ¬ (j : Int) < (N : Int) := by omega
        clear hj
        obtain ⟨wo, ho⟩ : ∃ wo, wo = wr := ⟨_, rfl⟩
        subst ho
        obtain ⟨G, hG⟩ : ∃ G, gk = G := ⟨_, rfl⟩
        go_wp2_with fail
        go_loopg [6] N (fun gk iv wr => ∃ i : Nat, (gk + i = N ∨ (N = 0 ∧ gk = 0)) ∧ iv = .int .i64 ((i + 1 : Nat) : Int) ∧ Hid (∀ k (h : k + 1 < es.length), k < i → cmpE es[k] es[k + 1] < 0) ∧ Hid (Below w.heap.size w wr))
        case atStart => exact ⟨0, by omega, rfl, fun k _ h => absurd h (Nat.not_lt_zero _), HB⟩
        case round =>
          obtain ⟨i, hi, rfl, HR, HB2⟩ := hrel
          by_cases hlt3 : i + 1 < N
          · have l1 : i < es.length := by rw [HN.out]; omega
            have l2 : i + 1 < es.length := by rw [HN.out]; exact hlt3
            have hiI : ((i + 1 : Nat) : Int) < (N : Int) := by omega
            have q1 : gk - 1 < gk := by omega
            have q2 : gk - 1 + (i + 1) = N ∨ (N = 0 ∧ gk - 1 = 0) := by omega
            obtain ⟨_, _, e, _, _, h3⟩ := rdE_below HV.out HB2.out (Nat.le_refl _)
            rw [HN.out] at e
            cases e
            obtain ⟨b, off, e', xv, yv, c0, c1, c2, c3, rx, ry⟩ := h3 i l1
            subst e'
            obtain ⟨b', off', e', xv', yv', d0, d1, d2, d3, rx', ry'⟩ := h3 (i + 1) l2
            cases e'
            obtain ⟨x1, x2, ex⟩ := rx.len
            obtain ⟨y1, y2, ey⟩ := rx'.len
            subst ex ey
            have hcm := compare_any wr.drew _ _ es[i].1 es[i + 1].1 (es[i].2.1 : Int) (es[i].2.2.1.toNat : Int) (es[i + 1].2.1 : Int) (es[i + 1].2.2.1.toNat : Int) (cmpE es[i] es[i + 1]) rx.drew rx'.drew rfl
            obtain ⟨s1, hs1⟩ : ∃ z, (es[i].2.1 : Int) = z := ⟨_, rfl⟩
            obtain ⟨k1, hk1⟩ : ∃ z, (es[i].2.2.1.toNat : Int) = z := ⟨_, rfl⟩
            obtain ⟨s2, hs2⟩ : ∃ z, (es[i + 1].2.1 : Int) = z := ⟨_, rfl⟩
            obtain ⟨k2, hk2⟩ : ∃ z, (es[i + 1].2.2.1.toNat : Int) = z := ⟨_, rfl⟩
            obtain ⟨m1, hm1⟩ : ∃ z, es[i].1.length = z := ⟨_, rfl⟩
            obtain ⟨m2, hm2⟩ : ∃ z, es[i + 1].1.length = z := ⟨_, rfl⟩
            rw [hs1] at c1 hcm
            rw [hk1] at c2 hcm
            rw [hs2] at d1 hcm
            rw [hk2] at d2 hcm
            rw [hm1] at c0 hcm
            rw [hm2] at d0 hcm
            have T0 : Two4 wr.drew b off i x1 m1 x2 s1 k1 y1 m2 y2 s2 k2 := ⟨c0, c1, c2, d0, d1, d2⟩
            have h1I : (i : Int) < (cap : Int) := by omega
            have h2I : (i : Int) + 1 < (N : Int) := by omega
            have h3I : (i : Int) < (N : Int) := by omega
            have h4I : (0 : Int) ≤ (i : Int) := by omega
            have h5I : (0 : Int) ≤ (i : Int) + 1 := by omega
            obtain ⟨r, hr⟩ : ∃ r, cmpE es[i] es[i + 1] = r := ⟨_, rfl⟩
            have HRR : Hid (cmpE es[i] es[i + 1] = r) := hr
            rw [hr] at hcm
            clear h3 rx ry rx' ry' c3 d3 hs1 hk1 hs2 hk2 hm1 hm2 hr
            by_cases hrn : r < 0
            · have hrn' : ¬ (0 : Int) ≤ r := by omega
              have HS9 : Hid (∀ k (h : k + 1 < es.length), k < i + 1 → cmpE es[k] es[k + 1] < 0) := fun k h hk => by
                by_cases e : k = i
                · subst e; rw [HRR.out]; exact hrn
                · exact HR.out k h (by omega)
              go_wp2_with fail
              obtain ⟨⟨v1, v2⟩, v3, v4⟩ := wrap_decr i (by omega)
              go_region_held3 (fun w' => (w'.cell? ⟨b, off + i * 4, none⟩ = some (.slice x1 m1 x2) ∧ w'.cell? ⟨b, off + i * 4 + 1, none⟩ = some (.int .u64 s1) ∧ w'.cell? ⟨b, off + i * 4 + 2, none⟩ = some (.int .u8 k1)) ∧ (w'.cell? ⟨b, off + (i + 1) * 4, none⟩ = some (.slice y1 m2 y2) ∧ w'.cell? ⟨b, off + (i + 1) * 4 + 1, none⟩ = some (.int .u64 s2) ∧ w'.cell? ⟨b, off + (i + 1) * 4 + 2, none⟩ = some (.int .u8 k2)))
                (first | with_reducible exact ⟨⟨T5.a0, T5.a1, T5.a2⟩, ⟨T5.b0, T5.b1, T5.b2⟩⟩ | exact ⟨⟨T0.a0, T0.a1, T0.a2⟩, ⟨T0.b0, T0.b1, T0.b2⟩⟩)
                (first
                  | (go_at_call 46; refine hcm.mono ?_; rintro e w5 ⟨rfl, hb5⟩
                     have HB5 : Hid (Below w.heap.size w w5) := bsplit HB2.out.drew hb5
                     have T5 := T0.below hb5 (Nat.le_refl _))
                  | fail)
              clear v1 v2 v3 v4
              go_wp2_with fail
              go_roundg (gk - 1)
              case measure => exact q1
              case rel => exact ⟨i + 1, q2, by go_num, HS9, HB5⟩
            · have hrn' : (0 : Int) ≤ r := by omega
              have HF : Hid (c = 10) := by
                show c = 10
                rw [← HC.out]; unfold chkLf
                rw [HN.out, if_neg h64, if_pos HZ.out, if_neg]
                rw [riseB_iff]
                intro h9
                have h8 := h9 i l2
                rw [HRR.out] at h8
                exact hrn h8
              go_wp2_with fail
              obtain ⟨⟨v1, v2⟩, v3, v4⟩ := wrap_decr i (by omega)
              go_region_held3 (fun w' => (w'.cell? ⟨b, off + i * 4, none⟩ = some (.slice x1 m1 x2) ∧ w'.cell? ⟨b, off + i * 4 + 1, none⟩ = some (.int .u64 s1) ∧ w'.cell? ⟨b, off + i * 4 + 2, none⟩ = some (.int .u8 k1)) ∧ (w'.cell? ⟨b, off + (i + 1) * 4, none⟩ = some (.slice y1 m2 y2) ∧ w'.cell? ⟨b, off + (i + 1) * 4 + 1, none⟩ = some (.int .u64 s2) ∧ w'.cell? ⟨b, off + (i + 1) * 4 + 2, none⟩ = some (.int .u8 k2)))
                (first | with_reducible exact ⟨⟨T5.a0, T5.a1, T5.a2⟩, ⟨T5.b0, T5.b1, T5.b2⟩⟩ | exact ⟨⟨T0.a0, T0.a1, T0.a2⟩, ⟨T0.b0, T0.b1, T0.b2⟩⟩)
                (first
                  | (go_at_call 46; refine hcm.mono ?_; rintro e w5 ⟨rfl, hb5⟩
                     have HB5 : Hid (Below w.heap.size w w5) := bsplit HB2.out.drew hb5
                     have T5 := T0.below hb5 (Nat.le_refl _))
                  | fail)
              clear v1 v2 v3 v4
              go_wp2
              go_ret
              exact ⟨ret_int HF.out.symm, HB5.out⟩
          · have HF : Hid (c = 0) := by
              show c = 0
              rw [← HC.out]; unfold chkLf
              rw [HN.out, if_neg h64, if_pos HZ.out, if_pos]
              rw [riseB_iff]
              exact fun k hk => HR.out k hk (by have := HN.out; omega)
            have hiI : ¬ ((i + 1 : Nat) : Int) < (N : Int) := by omega
            go_wp2
            go_ret
            exact ⟨ret_int HF.out.symm, HB2.out⟩

set_option maxRecDepth 20000 in
set_option maxHeartbeats 4000000 in
theorem rlcheck_any (w : World) (v : Value) (es : List EnB) (c : Int) (hv : RdE w v es) (hc : chkLf es = c) :
    Calls Try.prog 37 #[v] w fun e w' => e = .returned (.int .i64 c) ∧ Below w.heap.size w w' := by
  have HV : Hid (RdE w v es) := hv
  obtain ⟨ao, cap, rfl, h1, h2, _⟩ := hv
  unfold maxLen at h2
  obtain ⟨N, hN⟩ : ∃ N, es.length = N := ⟨_, rfl⟩
  rw [hN] at h1 HV ⊢
  have HN : Hid (es.length = N) := hN
  have HC : Hid (chkLf es = c) := hc
  clear hN hc
  go_enter Try.func37, Try.ntmps37
  by_cases h64 : 64 < N
  · have hI : (64 : Int) < (N : Int) := by omega
    have HE : Hid (c = 3) := by show c = 3; rw [← HC.out]; unfold chkLf; rw [HN.out, if_pos h64]
    go_wp2
    go_ret
    exact ⟨ret_int HE.out.symm, Below.refl _ _⟩
  · have hI : ¬ (64 : Int) < (N : Int) := by omega
    have hN64 : N ≤ 64 := by omega
    go_wp2_with fail
    go_loopg [12] N (fun gk iv wr => ∃ j : Nat, gk + j = N ∧ iv = .int .i64 (j : Int) ∧ Hid (chkEs es = chkEs (es.drop j)) ∧ Hid (Below w.heap.size w wr))
    case atStart => exact ⟨0, by omega, rfl, rfl, Below.refl _ _⟩
    case round =>
      obtain ⟨j, hj, rfl, HS, HB⟩ := hrel
      by_cases hlt : j < N
      · have hlt2 : j < es.length := by rw [HN.out]; exact hlt
        obtain ⟨_, _, e, _, _, h3⟩ := rdE_below HV.out HB.out (Nat.le_refl _)
        rw [HN.out] at e
        cases e
        obtain ⟨b, off, rfl, xv, yv, c0, c1, c2, c3, rx, ry⟩ := h3 j hlt2
        obtain ⟨x1, x2, ex⟩ := rx.len
        obtain ⟨y1, y2, ey⟩ := ry.len
        subst ex ey
        obtain ⟨⟨ol, osq, ok, oo⟩, ho⟩ : ∃ o, es[j] = o := ⟨_, rfl⟩
        rw [ho] at c0 c1 c2 c3
        obtain ⟨q1, q2⟩ := gk_nxt hj hlt
        simp only at c0 c1 c2 c3
        obtain ⟨kk, hkk⟩ : ∃ kk, ok.toNat = kk := ⟨_, rfl⟩
        obtain ⟨nl, hnlq⟩ : ∃ nl, ol.length = nl := ⟨_, rfl⟩
        obtain ⟨oln, holn⟩ : ∃ oln, oo.length = oln := ⟨_, rfl⟩
        rw [hkk] at c2
        rw [hnlq] at c0
        rw [holn] at c3
        have HE : Hid (chkEn es[j] = if chk nl (osq : Int) (kk : Int) = 0 then (if 512 < oln then 3 else 0) else chk nl (osq : Int) (kk : Int)) := by show _ = _; rw [ho]; unfold chkEn; simp only; rw [hkk, hnlq, holn]
        have hb0 := below_box4 wr (.cells #[.slice x1 nl x2, .int .u64 (osq : Int), .int .u8 (kk : Int), .slice y1 oln y2] 45)
        have BX := box4_new wr (.slice x1 nl x2) (.int .u64 (osq : Int)) (.int .u8 (kk : Int)) (.slice y1 oln y2) 45
        have hck := refcheck_any (wr.alloc (.cells #[.slice x1 nl x2, .int .u64 (osq : Int), .int .u8 (kk : Int), .slice y1 oln y2] 45)) x1 nl x2 (osq : Int) (kk : Int) (by omega) (by omega)
        obtain ⟨ck, hckq⟩ : ∃ ck, chk nl (osq : Int) (kk : Int) = ck := ⟨_, rfl⟩
        rw [hckq] at hck HE
        have HB0 : Hid (Below w.heap.size w (wr.alloc (.cells #[.slice x1 nl x2, .int .u64 (osq : Int), .int .u8 (kk : Int), .slice y1 oln y2] 45))) := bsplit HB.out hb0
        have BX' := BX
        obtain ⟨z0, z1, z2, z3⟩ := BX'
        clear ho hb0 h3 rx ry hnlq holn hkk hckq
        go_wp2_with fail
        refine hck.mono ?_
        rintro e w2 ⟨rfl, hb2⟩
        have HB2 : Hid (Below w.heap.size w w2) := bsplit HB0.out hb2
        clear z0 z1 z2 z3
        obtain ⟨z0, z1, z2, z3⟩ := BX.below hb2 (Nat.le_refl _)
        clear hck hb2 BX
        by_cases hc0 : ck = 0
        · subst hc0
          by_cases h512 : 512 < oln
          · have h5I : (512 : Int) < (oln : Int) := by omega
            have HF : Hid (c = 3) := by
              have he : chkEn es[j] = 3 := by rw [HE.out, if_pos rfl, if_pos h512]
              have h9 := chkEs_bad hlt2 HS.out (by rw [he]; decide)
              show c = 3
              rw [← HC.out]; unfold chkLf; rw [HN.out, if_neg h64, h9, he]; rfl
            go_wp2
            go_ret
            exact ⟨ret_int HF.out.symm, HB2.out⟩
          · have h5I : ¬ (512 : Int) < (oln : Int) := by omega
            have HF : Hid (chkEs es = chkEs (es.drop (j + 1))) := chkEs_ok hlt2 HS.out (by rw [HE.out, if_pos rfl, if_neg h512])
            go_wp2_with fail
            go_roundg (gk - 1)
            case measure => exact q1
            case rel => exact ⟨j + 1, q2, by go_num, HF, HB2⟩
        · have hcb : (ck == 0) = false := by simpa using hc0
          have HF : Hid (c = ck) := by
            have he : chkEn es[j] = ck := by rw [HE.out, if_neg hc0]
            have h9 := chkEs_bad hlt2 HS.out (by rw [he]; exact hc0)
            show c = ck
            rw [← HC.out]; unfold chkLf; rw [HN.out, if_neg h64, h9, he, if_neg hc0]
          go_wp2
          go_ret
          exact ⟨ret_int HF.out.symm, HB2.out⟩
      · have HZ : Hid (chkEs es = 0) := chkEs_end (by rw [HN.out]; exact hlt) HS.out
        have hjN : ¬ (j : Int) < (N : Int) := by omega
        clear hj
        obtain ⟨wo, ho⟩ : ∃ wo, wo = wr := ⟨_, rfl⟩
        subst ho
        obtain ⟨G, hG⟩ : ∃ G, gk = G := ⟨_, rfl⟩
        go_wp2_with fail
        go_loopg [6] N (fun gk iv wr => ∃ i : Nat, (gk + i = N ∨ (N = 0 ∧ gk = 0)) ∧ iv = .int .i64 ((i + 1 : Nat) : Int) ∧ Hid (∀ k (h : k + 1 < es.length), k < i → cmpE es[k] es[k + 1] < 0) ∧ Hid (Below w.heap.size w wr))
        case atStart => exact ⟨0, by omega, rfl, fun k _ h => absurd h (Nat.not_lt_zero _), HB⟩
        case round =>
          obtain ⟨i, hi, rfl, HR, HB2⟩ := hrel
          by_cases hlt3 : i + 1 < N
          · have l1 : i < es.length := by rw [HN.out]; omega
            have l2 : i + 1 < es.length := by rw [HN.out]; exact hlt3
            have hiI : ((i + 1 : Nat) : Int) < (N : Int) := by omega
            have q1 : gk - 1 < gk := by omega
            have q2 : gk - 1 + (i + 1) = N ∨ (N = 0 ∧ gk - 1 = 0) := by omega
            obtain ⟨_, _, e, _, _, h3⟩ := rdE_below HV.out HB2.out (Nat.le_refl _)
            rw [HN.out] at e
            cases e
            obtain ⟨b, off, e', xv, yv, c0, c1, c2, c3, rx, ry⟩ := h3 i l1
            subst e'
            obtain ⟨b', off', e', xv', yv', d0, d1, d2, d3, rx', ry'⟩ := h3 (i + 1) l2
            cases e'
            obtain ⟨x1, x2, ex⟩ := rx.len
            obtain ⟨y1, y2, ey⟩ := rx'.len
            subst ex ey
            have hcm := keyless_any wr.drew _ _ es[i].1 es[i + 1].1 (es[i].2.1 : Int) (es[i].2.2.1.toNat : Int) (es[i + 1].2.1 : Int) (es[i + 1].2.2.1.toNat : Int) (decide (cmpE es[i] es[i + 1] < 0)) rx.drew rx'.drew rfl
            obtain ⟨s1, hs1⟩ : ∃ z, (es[i].2.1 : Int) = z := ⟨_, rfl⟩
            obtain ⟨k1, hk1⟩ : ∃ z, (es[i].2.2.1.toNat : Int) = z := ⟨_, rfl⟩
            obtain ⟨s2, hs2⟩ : ∃ z, (es[i + 1].2.1 : Int) = z := ⟨_, rfl⟩
            obtain ⟨k2, hk2⟩ : ∃ z, (es[i + 1].2.2.1.toNat : Int) = z := ⟨_, rfl⟩
            obtain ⟨m1, hm1⟩ : ∃ z, es[i].1.length = z := ⟨_, rfl⟩
            obtain ⟨m2, hm2⟩ : ∃ z, es[i + 1].1.length = z := ⟨_, rfl⟩
            rw [hs1] at c1 hcm
            rw [hk1] at c2 hcm
            rw [hs2] at d1 hcm
            rw [hk2] at d2 hcm
            rw [hm1] at c0 hcm
            rw [hm2] at d0 hcm
            have T0 : Two4 wr.drew b off i x1 m1 x2 s1 k1 y1 m2 y2 s2 k2 := ⟨c0, c1, c2, d0, d1, d2⟩
            have h1I : (i : Int) < (cap : Int) := by omega
            have h2I : (i : Int) + 1 < (N : Int) := by omega
            have h3I : (i : Int) < (N : Int) := by omega
            have h4I : (0 : Int) ≤ (i : Int) := by omega
            have h5I : (0 : Int) ≤ (i : Int) + 1 := by omega
            obtain ⟨r, hr⟩ : ∃ r, decide (cmpE es[i] es[i + 1] < 0) = r := ⟨_, rfl⟩
            have HRR : Hid (decide (cmpE es[i] es[i + 1] < 0) = r) := hr
            rw [hr] at hcm
            clear h3 rx ry rx' ry' c3 d3 hs1 hk1 hs2 hk2 hm1 hm2 hr
            by_cases hrn : r = true
            · subst hrn
              have HS9 : Hid (∀ k (h : k + 1 < es.length), k < i + 1 → cmpE es[k] es[k + 1] < 0) := fun k h hk => by
                by_cases e : k = i
                · subst e; exact of_decide_eq_true HRR.out
                · exact HR.out k h (by omega)
              go_wp2_with fail
              obtain ⟨⟨v1, v2⟩, v3, v4⟩ := wrap_decr i (by omega)
              go_region_held3 (fun w' => (w'.cell? ⟨b, off + i * 4, none⟩ = some (.slice x1 m1 x2) ∧ w'.cell? ⟨b, off + i * 4 + 1, none⟩ = some (.int .u64 s1) ∧ w'.cell? ⟨b, off + i * 4 + 2, none⟩ = some (.int .u8 k1)) ∧ (w'.cell? ⟨b, off + (i + 1) * 4, none⟩ = some (.slice y1 m2 y2) ∧ w'.cell? ⟨b, off + (i + 1) * 4 + 1, none⟩ = some (.int .u64 s2) ∧ w'.cell? ⟨b, off + (i + 1) * 4 + 2, none⟩ = some (.int .u8 k2)))
                (first | with_reducible exact ⟨⟨T5.a0, T5.a1, T5.a2⟩, ⟨T5.b0, T5.b1, T5.b2⟩⟩ | exact ⟨⟨T0.a0, T0.a1, T0.a2⟩, ⟨T0.b0, T0.b1, T0.b2⟩⟩)
                (first
                  | (go_at_call 27; refine hcm.mono ?_; rintro e w5 ⟨rfl, hb5⟩
                     have HB5 : Hid (Below w.heap.size w w5) := bsplit HB2.out.drew hb5
                     have T5 := T0.below hb5 (Nat.le_refl _))
                  | fail)
              clear v1 v2 v3 v4
              go_wp2_with fail
              go_roundg (gk - 1)
              case measure => exact q1
              case rel => exact ⟨i + 1, q2, by go_num, HS9, HB5⟩
            · have hrn' : r = false := by simpa using hrn
              subst hrn'
              have HF : Hid (c = 10) := by
                show c = 10
                rw [← HC.out]; unfold chkLf
                rw [HN.out, if_neg h64, if_pos HZ.out, if_neg]
                rw [riseB_iff]
                intro h9
                have h8 := h9 i l2
                exact of_decide_eq_false HRR.out h8
              go_wp2_with fail
              obtain ⟨⟨v1, v2⟩, v3, v4⟩ := wrap_decr i (by omega)
              go_region_held3 (fun w' => (w'.cell? ⟨b, off + i * 4, none⟩ = some (.slice x1 m1 x2) ∧ w'.cell? ⟨b, off + i * 4 + 1, none⟩ = some (.int .u64 s1) ∧ w'.cell? ⟨b, off + i * 4 + 2, none⟩ = some (.int .u8 k1)) ∧ (w'.cell? ⟨b, off + (i + 1) * 4, none⟩ = some (.slice y1 m2 y2) ∧ w'.cell? ⟨b, off + (i + 1) * 4 + 1, none⟩ = some (.int .u64 s2) ∧ w'.cell? ⟨b, off + (i + 1) * 4 + 2, none⟩ = some (.int .u8 k2)))
                (first | with_reducible exact ⟨⟨T5.a0, T5.a1, T5.a2⟩, ⟨T5.b0, T5.b1, T5.b2⟩⟩ | exact ⟨⟨T0.a0, T0.a1, T0.a2⟩, ⟨T0.b0, T0.b1, T0.b2⟩⟩)
                (first
                  | (go_at_call 27; refine hcm.mono ?_; rintro e w5 ⟨rfl, hb5⟩
                     have HB5 : Hid (Below w.heap.size w w5) := bsplit HB2.out.drew hb5
                     have T5 := T0.below hb5 (Nat.le_refl _))
                  | fail)
              clear v1 v2 v3 v4
              go_wp2
              go_ret
              exact ⟨ret_int HF.out.symm, HB5.out⟩
          · have HF : Hid (c = 0) := by
              show c = 0
              rw [← HC.out]; unfold chkLf
              rw [HN.out, if_neg h64, if_pos HZ.out, if_pos]
              rw [riseB_iff]
              exact fun k hk => HR.out k hk (by have := HN.out; omega)
            have hiI : ¬ ((i + 1 : Nat) : Int) < (N : Int) := by omega
            go_wp2
            go_ret
            exact ⟨ret_int HF.out.symm, HB2.out⟩

end Go.Proofs.Ytbmpnafbmgcniaa
