/- bartizanref11.Build: the walk. -/
import Derived.Test.YtlonomjepipjlaaDoorBlRBuild
namespace Go.Proofs.YtlonomjepipjlaaDoor
open Go.RowKit
set_option linter.unusedVariables false

set_option maxHeartbeats 4000000 in
set_option maxRecDepth 100000 in
theorem rbuild_any (w : World) (b : Int) (va : Option Addr) (vc : Nat) (keys : List (List UInt8)) (hn : keys.length ≤ 100) (hkl : ∀ k ∈ keys, k.length ≤ 1000) (hk : RdL w (.slice va keys.length vc) keys) :
    Calls Tryd.prog 11 #[.int .i64 b, .slice va keys.length vc] w fun e w' => ∃ v, e = .returned v ∧ Own w.heap.size w' v (buildF b keys) ∧ Below w.heap.size w w' := by
  obtain ⟨i0, hi, hz0, hz1, hz2⟩ := info_parts infoBool
  obtain ⟨i5, hi5, hz50, hz51, hz52⟩ := info_parts info5
  have htk := rtake11_any w b
  have htb := takN_bd b
  have HSZ : Hid (sizN b keys.length = if (takN b * keys.length + 7) / 8 < 8 then 8 else (takN b * keys.length + 7) / 8) := rfl
  have HBI : Hid (∀ k < 8 * sizN b keys.length, bitB (buildF b keys) k = setN (prbN b) (8 * sizN b keys.length) keys k) := fun k h => bitB_setN b keys k h
  have HLA : Hid (buildF b keys = (buildF b keys).take (sizN b keys.length) ++ [UInt8.ofNat (prbN b)] ∧ (buildF b keys).length = sizN b keys.length + 1) := ⟨build_last b keys, buildF_len b keys⟩
  have hprb : ∀ w', Calls Tryd.prog 13 #[.int .i64 b] w' fun e w'' => e = .returned (.int .i64 (prbN b : Int)) ∧ w'' = w' := fun w' => rprb_any w' b
  have HPR : Hid _ := hprb
  have hpb := prbN_bd b
  obtain ⟨c, hc⟩ : ∃ c, prbN b = c := ⟨_, rfl⟩
  obtain ⟨sz, hsz⟩ : ∃ sz, sizN b keys.length = sz := ⟨_, rfl⟩
  obtain ⟨t, htt⟩ : ∃ t, takN b = t := ⟨_, rfl⟩
  obtain ⟨F, hF⟩ : ∃ F, buildF b keys = F := ⟨_, rfl⟩
  rw [hc, hsz, hF] at HLA HBI
  rw [hc] at hpb HPR
  rw [hsz, htt] at HSZ
  rw [htt] at htk htb
  rw [hF]
  have hml : t * keys.length ≤ 100 * 100 := Nat.mul_le_mul htb.2 hn
  have hmI : (t : Int) * (keys.length : Int) = ((t * keys.length : Nat) : Int) := by push_cast; rfl
  obtain ⟨m, hm⟩ : ∃ m, t * keys.length = m := ⟨_, rfl⟩
  rw [hm] at hmI hml HSZ
  have hmI2 : (m : Int) ≤ 10000 := by omega
  have hsI : (8 : Int) ≤ (sz : Int) := by have h := HSZ.out; split at h <;> omega
  have hsI2 : (sz : Int) ≤ 2000 := by have h := HSZ.out; split at h <;> omega
  obtain ⟨w1, hrun, r1, r2⟩ := run_make_full (P := Tryd.prog) w w.heap.size 40 4 i0 (.bool false) 1 Tryd.underlying40 hi hz0 hz1 .i64 .i64 (8 * sz) (by rw [hz2]; omega) (by simp only [maxLen]; omega) (Nat.le_refl _)
  rw [show ((8 * sz : Nat) : Int) = 8 * (sz : Int) by omega] at hrun
  rw [tabB_no] at r1
  have hB1 : Below w.heap.size w w1 := (Below.refl _ _).grown r2 (Nat.le_refl _) (fun k h => by cases h)
  have HR1 : Hid (w1.ownsRow w.heap.size 4 1 (.slice (some ⟨w.heap.size, 0, none⟩) (8 * sz) (8 * sz)) (8 * sz) (tabB (8 * sz) (fun _ => false))) := r1
  have HB1 : Hid (Below w.heap.size w w1) := hB1
  have HRUN : Hid _ := hrun
  obtain ⟨ka', kc', e', k1, k2, k3⟩ := hk.places
  simp only [Value.slice.injEq] at e'
  obtain ⟨rfl, _, rfl⟩ := e'
  have H3 : Hid _ := k3
  have HKL : Hid (∀ k ∈ keys, k.length ≤ 1000) := hkl
  obtain ⟨N, hN⟩ : ∃ N, keys.length = N := ⟨_, rfl⟩
  have HN : Hid (keys.length = N) := hN
  rw [hN] at k1 hn hmI ⊢
  clear hprb hc hsz htt hF hm r1 r2 hB1 hrun k3 hk hkl hN
  go_enter Tryd.func11, Tryd.ntmps11
  go_wp2_with fail
  refine htk.mono ?_
  rintro e w0 ⟨rfl, hw0⟩
  subst w0
  clear htk
  go_upto_if 22 with fail
  go_cut [5] (fun v wx => v = .int .i64 (sz : Int) ∧ wx = w)
  case first =>
    by_cases h8 : ((m : Int) + 7) / 8 < 8
    · have hfin : Hid ((8 : Int) = (sz : Int)) := by show _ = _; have h := HSZ.out; split at h <;> omega
      go_wp2_with fail
      go_meet
      exact ⟨by rw [hfin.out], rfl⟩
    · have hfin : Hid (((m : Int) + 7) / 8 = (sz : Int)) := by show _ = _; have h := HSZ.out; split at h <;> omega
      go_wp2_with fail
      go_meet
      exact ⟨by rw [hfin.out], rfl⟩
  case rest =>
    obtain ⟨rfl, hwc⟩ := hcut
    rw [hwc]
    clear hwc
    have hrun := HRUN.out
    go_wp2_with fail
    clear hrun
    go_loopg [28] N (fun gk iv wr => ∃ j : Nat, gk + j = N ∧ iv = .int .i64 (j : Int) ∧ Hid (wr.ownsRow w.heap.size 4 1 (.slice (some ⟨w.heap.size, 0, none⟩) (8 * sz) (8 * sz)) (8 * sz) (tabB (8 * sz) (setN c (8 * sz) (keys.take j)))) ∧ Hid (Below w.heap.size w wr))
    case atStart => exact ⟨0, by omega, rfl, HR1, HB1⟩
    case round =>
      obtain ⟨j, hj, rfl, HO, HB⟩ := hrel
      obtain ⟨wo, hwo⟩ : ∃ wo, wo = wr := ⟨wr, rfl⟩
      subst hwo
      by_cases hlt : j < N
      · have hlt2 : j < keys.length := by rw [HN.out]; exact hlt
        obtain ⟨bb, off, rfl, u, hu, hru⟩ := H3.out j hlt2
        obtain ⟨K, hK⟩ : ∃ K, keys[j] = K := ⟨_, rfl⟩
        rw [hK] at hru
        obtain ⟨ka, kc, rfl⟩ := hru.len
        have hur : wo.cell? ⟨bb, off + j, none⟩ = some (.slice ka K.length kc) := (HB.out.cell (p := ⟨bb, off + j, none⟩) (World.block_lt_of_cell? w _ hu)).trans hu
        have HRU : Hid (Rd w (.slice ka K.length kc) K) := hru
        have HKK : Hid (keys[j] = K ∧ K.length ≤ 1000) := ⟨hK, by rw [← hK]; exact HKL.out _ (List.getElem_mem hlt2)⟩
        obtain ⟨q1, q2⟩ := gk_nxt hj hlt
        obtain ⟨G1, hG1⟩ : ∃ G1, G1 = gk := ⟨gk, rfl⟩
        subst hG1
        have HQ : Hid (G1 - 1 < G1 ∧ G1 - 1 + (j + 1) = N) := ⟨q1, q2⟩
        have HO0 : Hid (wo.ownsRow w.heap.size 4 1 (.slice (some ⟨w.heap.size, 0, none⟩) (8 * sz) (8 * sz)) (8 * sz) (tabB (8 * sz) (setI c (8 * sz) (keys.take j) K 0))) := by rw [setI_zero]; exact HO.out
        clear hu hru hK q1 q2 hj
        go_wp2_with fail
        refine (HPR.out _).mono ?_
        rintro e w2 ⟨rfl, hw2⟩
        subst w2
        go_wp2_with fail
        go_loopg [34] c (fun gk iv wx => ∃ i : Nat, gk + i = c ∧ iv = .int .i64 (i : Int) ∧ Hid (wx.ownsRow w.heap.size 4 1 (.slice (some ⟨w.heap.size, 0, none⟩) (8 * sz) (8 * sz)) (8 * sz) (tabB (8 * sz) (setI c (8 * sz) (keys.take j) K i))) ∧ Hid (Below w.heap.size w wx))
        case atStart => exact ⟨0, by omega, rfl, HO0, HB⟩
        case round =>
          obtain ⟨i, hi', rfl, HOi, HBi⟩ := hrel
          by_cases hic : i < c
          · obtain ⟨p1, p2⟩ := gk_nxt hi' hic
            have hiI : (i : Int) < (c : Int) := by omega
            have hpr := rprobe_any wr ka kc K i (8 * sz) (by omega) (by omega) (by omega) (by have := HKK.out.2; omega) (HRU.out.below HBi.out (Nat.le_refl _))
            rw [show ((8 * sz : Nat) : Int) = 8 * (sz : Int) by omega] at hpr
            have hpb2 : atN K i % (8 * sz) < 8 * sz := Nat.mod_lt _ (by omega)
            have HSU : Hid (∀ k, setI c (8 * sz) (keys.take j) K (i + 1) k = (setI c (8 * sz) (keys.take j) K i k || k == atN K i % (8 * sz))) := fun k => setI_succ _ _ _ _ _ _
            obtain ⟨p, hp⟩ : ∃ p, atN K i % (8 * sz) = p := ⟨_, rfl⟩
            rw [hp] at hpr hpb2 HSU
            have hpI : (p : Int) < 8 * (sz : Int) := by omega
            clear hp
            go_wp2_with fail
            refine hpr.mono ?_
            rintro e w3 ⟨rfl, hb3⟩
            have hO3 := row_below HOi.out hb3
            have hB3 := HBi.out.trans (hb3.mono HBi.out.size)
            have hfz := hO3.frozenAt p
            have hcp := hO3.cells (g := w.heap.size) rfl p _ (tabB_get (8 * sz) _ p hpb2)
            rw [Addr.add_lit] at hcp
            have hcp' : w3.cell? ⟨w.heap.size, p, none⟩ = some (.bool (setI c (8 * sz) (keys.take j) K i p)) := by simpa using hcp
            have hst := (hO3.stored p (.bool true)).1
            rw [tabB_set (8 * sz) _ _ p HSU.out] at hst
            have HST : Hid ((w3.setCell ⟨w.heap.size, p, none⟩ (.bool true)).ownsRow w.heap.size 4 1 (.slice (some ⟨w.heap.size, 0, none⟩) (8 * sz) (8 * sz)) (8 * sz) (tabB (8 * sz) (setI c (8 * sz) (keys.take j) K (i + 1)))) := hst
            have HB4 : Hid (Below w.heap.size w (w3.setCell ⟨w.heap.size, p, none⟩ (.bool true))) := hB3.setCell (p := ⟨w.heap.size, p, none⟩) (Nat.le_refl _) _
            clear hpr hb3 hO3 hB3 hcp hst
            go_wp2_with fail
            go_roundg (gk - 1)
            case measure => exact p1
            case rel => exact ⟨i + 1, p2, by go_num, HST, HB4⟩
          · have hiI : ¬ (i : Int) < (c : Int) := by omega
            have hic2 : i = c := by omega
            have HON : Hid (wr.ownsRow w.heap.size 4 1 (.slice (some ⟨w.heap.size, 0, none⟩) (8 * sz) (8 * sz)) (8 * sz) (tabB (8 * sz) (setN c (8 * sz) (keys.take (j + 1))))) := by
              have h9 := HOi.out
              rw [hic2, setI_all, ← HKK.out.1, ← List.take_succ_eq_append_getElem hlt2] at h9
              exact h9
            go_wp2_with fail
            go_roundg (G1 - 1)
            case measure => exact HQ.out.1
            case rel => exact ⟨j + 1, HQ.out.2, by go_num, HON, HBi⟩
      · have hjI : ¬ (j : Int) < (N : Int) := by omega
        have HOA : Hid (wo.ownsRow w.heap.size 4 1 (.slice (some ⟨w.heap.size, 0, none⟩) (8 * sz) (8 * sz)) (8 * sz) (tabB (8 * sz) (setN c (8 * sz) keys))) := by
          have h9 := HO.out
          rw [List.take_of_length_le (by rw [HN.out]; omega)] at h9
          exact h9
        have hgl : w.heap.size < wo.heap.size := (HOA.out.lt w.heap.size rfl).2
        clear HO
        go_wp2_with fail
        go_loopg [10, 47] sz (fun gk pv iv wx => ∃ (i : Nat) (a : Option Addr) (cc : Nat), gk + i = sz ∧ iv = .int .i64 (i : Int) ∧ pv = .slice a i cc ∧ Hid (wx.ownsRow wo.heap.size 5 1 pv i (bv (F.take i))) ∧ Hid (Below wo.heap.size wo wx))
        case atStart => exact ⟨0, none, 0, by omega, rfl, rfl, by rw [List.take_zero]; exact World.ownsRow_nil _ _ _ _, Below.refl _ _⟩
        case round =>
          obtain ⟨i, pa, pc, hi', rfl, rfl, HP, HBx⟩ := hrel
          by_cases hlt3 : i < sz
          · obtain ⟨p1, p2⟩ := gk_nxt hi' hlt3
            obtain ⟨G3, hG3⟩ : ∃ G3, G3 = gk := ⟨gk, rfl⟩
            subst hG3
            have HQ3 : Hid (G3 - 1 < G3 ∧ G3 - 1 + (i + 1) = sz) := ⟨p1, p2⟩
            have hiI : (i : Int) < (sz : Int) := by omega
            have hOx := row_below HOA.out HBx.out
            have hcx : ∀ k < 8 * sz, wr.cell? ⟨w.heap.size, k, none⟩ = some (.bool (setN c (8 * sz) keys k)) := by
              intro k hk
              have h9 := hOx.cells (g := w.heap.size) rfl k _ (tabB_get (8 * sz) _ k hk)
              rw [Addr.add_lit] at h9
              simpa using h9
            have HCX : Hid _ := hcx
            clear p1 p2 hi' hOx hcx
            go_wp2_with fail
            go_loop [12, 13] (fun bv kv => ∃ n : Nat, n ≤ 8 ∧ kv = .int .i64 (7 - (n : Int)) ∧ bv = .int .u8 ((by8 (fun r => setN c (8 * sz) keys (8 * i + r)) n : Nat) : Int)) (fun _ kv => (intOf kv + 1).toNat)
            case atStart => exact ⟨0, by omega, by simp, by simp [by8]⟩
            case round =>
              obtain ⟨n, hn8, rfl, rfl⟩ := hrel
              by_cases hn : n < 8
              · obtain ⟨d, hd⟩ : ∃ d, n + d = 7 := ⟨7 - n, by omega⟩
                have hdI : (7 : Int) - (n : Int) = (d : Int) := by omega
                have hd7 : (d : Int) ≤ 7 := by omega
                have hbl := by8_lt (fun r => setN c (8 * sz) keys (8 * i + r)) n
                have hbl2 : by8 (fun r => setN c (8 * sz) keys (8 * i + r)) n < 128 := Nat.lt_of_lt_of_le hbl (Nat.le_trans (Nat.pow_le_pow_right (by omega) (show n ≤ 7 by omega)) (by decide))
                have HNX : Hid (by8 (fun r => setN c (8 * sz) keys (8 * i + r)) (n + 1) = by8 (fun r => setN c (8 * sz) keys (8 * i + r)) n * 2 + bitI (setN c (8 * sz) keys (8 * i + d))) := by
                  show _ = _
                  rw [by8, show 7 - n = d by omega]
                obtain ⟨B, hB⟩ : ∃ B, by8 (fun r => setN c (8 * sz) keys (8 * i + r)) n = B := ⟨_, rfl⟩
                have hcd := HCX.out (8 * i + d) (by omega)
                obtain ⟨s, hs⟩ : ∃ s, setN c (8 * sz) keys (8 * i + d) = s := ⟨_, rfl⟩
                rw [hs] at hcd HNX
                rw [hB] at hbl2 HNX
                rw [hB, hdI]
                have hpI : (8 : Int) * (i : Int) + (d : Int) < 8 * (sz : Int) := by omega
                clear hbl hB hs
                cases s
                · go_wp2_with fail
                  go_round
                  case rel => exact ⟨n + 1, by omega, by go_num, by rw [HNX.out]; simp [bitI]⟩
                  case measure => simp [intOf]
                · go_wp2_with fail
                  go_round
                  case rel => exact ⟨n + 1, by omega, by go_num, by rw [HNX.out]; simp [bitI]⟩
                  case measure => simp [intOf]
              · have hn2 : n = 8 := by omega
                subst hn2
                have HBY : Hid (by8 (fun r => setN c (8 * sz) keys (8 * i + r)) 8 = (F[i]'(by have := HLA.out.2; omega)).toNat) := by
                  show _ = _
                  refine by8_eq _ _ (UInt8.toNat_lt _) (fun r hr => ?_)
                  rw [← HBI.out (8 * i + r) (by omega)]
                  unfold bitB
                  rw [show (8 * i + r) / 8 = i by omega, show (8 * i + r) % 8 = r by omega, List.getD_eq_getElem?_getD, List.getElem?_eq_getElem (by have := HLA.out.2; omega)]
                  rfl
                have hFi : i < F.length := by have := HLA.out.2; omega
                have HTK : Hid (bv (F.take i) ++ bv [F[i]] = bv (F.take (i + 1))) := by show _ = _; rw [List.take_succ_eq_append_getElem hFi, bv_append]
                rw [HBY.out]
                obtain ⟨y, hy⟩ : ∃ y, F[i] = y := ⟨_, rfl⟩
                rw [hy] at HTK ⊢
                have hrow := HP.out.alloc (.cells #[.int .u8 (y.toNat : Int)] 5)
                have hlit := lit_row wr wr.heap.size (Nat.le_refl _) y
                have HBe : Hid (Below wo.heap.size wo (wr.alloc (.cells #[.int .u8 (y.toNat : Int)] 5))) := HBx.out.alloc HBx.out.size _
                have hse : wo.heap.size ≤ (wr.alloc (.cells #[.int .u8 (y.toNat : Int)] 5)).heap.size := HBe.out.size
                have HSB : Hid ((i + 1) ≤ maxLen ∧ (i + 1) * 1 ≤ 140737488355328) := by show _ ∧ _; unfold maxLen; omega
                clear hy HBY
                go_wp2_with (first | (at_builtin; refine wpList_append_lies _ rfl (.tmp 65) (.tmp 67) 26 rfl wo.heap.size 5 i5 (.int .u8 0) 1 1 Tryd.underlying26 hi5 hz50 hz51 hz52 rfl (by decide) (.slice pa i pc) i (bv (F.take i)) rfl hrow ⟨wr.heap.size, 0, none⟩ 1 1 (bv [y]) rfl rfl (hlit.cells rfl) (bv_one _) (by decide) HSB.out.1 HSB.out.2 hse _ rfl ?_; intro g4 c4 w4 hown hgrow hat hlt4; have HP4 : Hid (w4.ownsRow wo.heap.size 5 1 (.slice (some ⟨g4, 0, none⟩) (i + 1) c4) (i + 1) (bv (F.take (i + 1)))) := (by rw [← HTK.out]; exact hown); have HB4 : Hid (Below wo.heap.size wo w4) := HBe.out.grown hgrow HBe.out.size (fun k' e => (hrow.lt k' e).1); clear hown hgrow hat hlt4) | fail)
                clear hrow hlit
                go_roundg (G3 - 1)
                case measure => exact HQ3.out.1
                case rel => exact ⟨i + 1, _, c4, HQ3.out.2, by go_num, rfl, HP4, HB4⟩
          · have hiI : ¬ (i : Int) < (sz : Int) := by omega
            have his : i = sz := by omega
            have HPZ : Hid (wr.ownsRow wo.heap.size 5 1 (.slice pa sz pc) sz (bv (F.take sz))) := by have h9 := HP.out; rw [his] at h9; exact h9
            subst his
            go_wp2_with fail
            refine (HPR.out _).mono ?_
            rintro e w5 ⟨rfl, hw5⟩
            subst w5
            have hcu : ((UInt8.ofNat c).toNat : Int) = (c : Int) := by simp; omega
            have hwc : IntKind.u8.wrap (c : Int) = (c : Int) := by rw [IntKind.wrap_u8]; omega
            have hrow := HPZ.out.alloc (.cells #[.int .u8 (c : Int)] 5)
            have hlit := lit_row wr wr.heap.size (Nat.le_refl _) (UInt8.ofNat c)
            rw [hcu] at hlit
            have HBe : Hid (Below wo.heap.size wo (wr.alloc (.cells #[.int .u8 (c : Int)] 5))) := HBx.out.alloc HBx.out.size _
            have hse : wo.heap.size ≤ (wr.alloc (.cells #[.int .u8 (c : Int)] 5)).heap.size := HBe.out.size
            have HSB : Hid ((i + 1) ≤ maxLen ∧ (i + 1) * 1 ≤ 140737488355328) := by show _ ∧ _; unfold maxLen; omega
            have HTL : Hid (bv (F.take i) ++ bv [UInt8.ofNat c] = bv F ∧ F.length = i + 1) := by
              refine ⟨?_, HLA.out.2⟩
              rw [← bv_append, ← HLA.out.1]
            clear hcu
            go_wp2_with (first | (at_builtin; refine wpList_append_lies _ rfl (.tmp 70) (.tmp 74) 26 rfl wo.heap.size 5 i5 (.int .u8 0) 1 1 Tryd.underlying26 hi5 hz50 hz51 hz52 rfl (by decide) (.slice pa i pc) i (bv (F.take i)) rfl hrow ⟨wr.heap.size, 0, none⟩ 1 1 (bv [UInt8.ofNat c]) rfl rfl (hlit.cells rfl) (bv_one _) (by decide) HSB.out.1 HSB.out.2 hse _ rfl ?_; intro g4 c4 w4 hown hgrow hat hlt4; have HP4 : Hid (w4.ownsRow wo.heap.size 5 1 (.slice (some ⟨g4, 0, none⟩) (i + 1) c4) (i + 1) (bv F)) := (by rw [← HTL.out.1]; exact hown); have HB4 : Hid (Below wo.heap.size wo w4) := HBe.out.grown hgrow HBe.out.size (fun k' e => (hrow.lt k' e).1); clear hown hgrow hat hlt4) | fail)
            clear hrow hlit
            go_ret
            refine ⟨_, rfl, ?_, HB.out.trans (HB4.out.mono HB.out.size)⟩
            have h9 := HP4.out
            rw [← HTL.out.2] at h9
            rw [← HTL.out.2]
            exact (Own.of_row h9 (by simp)).mono HB.out.size

end Go.Proofs.YtlonomjepipjlaaDoor
