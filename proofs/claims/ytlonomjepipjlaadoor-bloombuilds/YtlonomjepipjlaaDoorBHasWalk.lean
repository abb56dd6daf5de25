/- BloomHas answers true: whatever was built into it it has; and of each other key it is told whether its probes are set. -/
import Derived.Test.YtlonomjepipjlaaDoorBlAwake
import Derived.Test.YtlonomjepipjlaaDoorBlRef
import Derived.Test.YtlonomjepipjlaaDoorReelFew
import Derived.Test.YtlonomjepipjlaaDoorReelSmall
namespace Go.Proofs.YtlonomjepipjlaaDoor
open Go.RowKit
set_option linter.unusedVariables false

theorem fewT_le (n long : Nat) (ls : List (List UInt8)) : ∀ k ∈ fewT n long ls, k.length ≤ long := by
  intro k hk
  unfold fewT at hk
  obtain ⟨l, _, rfl⟩ := List.mem_map.1 hk
  exact List.length_take_le _ _

set_option maxHeartbeats 4000000 in
set_option maxRecDepth 100000 in
theorem bhas (w : World) (b : Int) (vl vx : Value) (ls KS : List (List UInt8)) (x cx : List UInt8) (CK : Hid (fewT 40 60 ls = KS)) (CX : Hid (x.take 60 = cx)) (hcx : cx.length ≤ 60) (hl : ArgL w vl ls) (hx : Arg w vx x) (ht : Tab w) :
    Calls Tryd.prog 4 #[.int .i64 b, vl, vx] w fun e w' => e = .returned (.bool true) ∧ Below w.heap.size w w' := by
  have haw := blawake_any w ht
  obtain ⟨la, lc, rfl, _⟩ := ArgL.places hl
  obtain ⟨xa, xc, rfl⟩ := Arg.shape hx
  have HL : Hid (ArgL w (.slice la ls.length lc) ls) := hl
  have HX : Hid (Arg w (.slice xa x.length xc) x) := hx
  have HT : Hid (Tab w) := ht
  clear hl hx ht
  go_enter Tryd.func4, Tryd.ntmps4
  go_wp2_with fail
  refine haw.mono ?_
  rintro e w1 ⟨rfl, hb1⟩
  have hfw := few_any w1 _ ls 40 60 (HL.out.below hb1 (Nat.le_refl _)) (by omega) (by omega)
  rw [CK.out] at hfw
  have HB1 : Hid (Below w.heap.size w w1) := hb1
  have e40 : ((40 : Nat) : Int) = 40 := rfl
  have e60 : ((60 : Nat) : Int) = 60 := rfl
  rw [e40, e60] at hfw
  clear haw hb1
  go_wp2_with fail
  refine hfw.mono ?_
  rintro e w2 ⟨vk, rfl, ok, hb2⟩
  obtain ⟨kka, kkc, rfl⟩ := ok.shape
  have HB2 : Hid (Below w.heap.size w w2) := HB1.out.trans (hb2.mono HB1.out.size)
  have HK2 : Hid (RdL w2 (.slice kka KS.length kkc) KS) := ok.rd
  have hc2 := cut_any w2 _ x 60 (HX.out.below HB2.out (Nat.le_refl _)) (by omega)
  rw [CX.out] at hc2
  clear hfw hb2 ok
  go_wp2_with fail
  refine hc2.mono ?_
  rintro e w3 ⟨vq, rfl, oq, hb3⟩
  obtain ⟨gy, ky, rfl⟩ := oq.shape
  have HB3 : Hid (Below w.heap.size w w3) := HB2.out.trans (hb3.mono HB2.out.size)
  have HK3 : Hid (RdL w3 (.slice kka KS.length kkc) KS) := HK2.out.below hb3 (Nat.le_refl _)
  have HY3 : Hid (Rd w3 (.slice (some ⟨gy, 0, none⟩) cx.length ky) cx) := oq.rd
  have hKl : KS.length ≤ 40 := by rw [← CK.out]; exact few_len _ _ _
  have hbd := build_any w3 b kka kkc KS (by omega) (fun k hk => by rw [← CK.out] at hk; have := fewT_le 40 60 ls k hk; omega) HK3.out (HT.out.below HB3.out (Nat.le_refl _))
  obtain ⟨F, hF⟩ : ∃ F, buildF b KS = F := ⟨_, rfl⟩
  have HF : Hid (buildF b KS = F) := hF
  have hFl : F.length ≤ 1000000 := by
    rw [← hF, buildF_len]
    unfold sizN
    have h1 := takN_bd b
    have h2 : takN b * KS.length ≤ 100 * 40 := Nat.mul_le_mul h1.2 hKl
    split <;> omega
  rw [hF] at hbd
  clear hc2 hb3 oq hF
  go_wp2_with fail
  refine hbd.mono ?_
  rintro e w4 ⟨vF, rfl, oF, hb4⟩
  obtain ⟨gF, cF, rfl⟩ := oF.shape
  have HB4 : Hid (Below w.heap.size w w4) := HB3.out.trans (hb4.mono HB3.out.size)
  have HF4 : Hid (Rd w4 (.slice (some ⟨gF, 0, none⟩) F.length cF) F) := oF.rd
  have HY4 : Hid (Rd w4 (.slice (some ⟨gy, 0, none⟩) cx.length ky) cx) := HY3.out.below hb4 (Nat.le_refl _)
  obtain ⟨ka', kc', e', k1, k2, k3⟩ := (HK3.out.below hb4 (Nat.le_refl _)).places
  simp only [Value.slice.injEq] at e'
  obtain ⟨rfl, _, rfl⟩ := e'
  have H3 : Hid _ := k3
  obtain ⟨N, hN⟩ : ∃ N, KS.length = N := ⟨_, rfl⟩
  have HN : Hid (KS.length = N) := hN
  rw [hN] at k1 ⊢
  have hNl : N ≤ 40 := by omega
  clear hbd hb4 oF k3 hN
  go_wp2_with fail
  go_loopg [21] N (fun gk iv wr => ∃ j : Nat, gk + j = N ∧ iv = .int .i64 (j : Int) ∧ Hid (Below w4.heap.size w4 wr))
  case atStart => exact ⟨0, rfl, rfl, Below.refl _ _⟩
  case round =>
    obtain ⟨j, hj, rfl, HW⟩ := hrel
    by_cases hlt : j < N
    · have hlt2 : j < KS.length := by rw [HN.out]; exact hlt
      obtain ⟨bb, off, rfl, u, hu, hru⟩ := H3.out j hlt2
      obtain ⟨K, hK⟩ : ∃ K, KS[j] = K := ⟨_, rfl⟩
      rw [hK] at hru
      obtain ⟨ka, kc, rfl⟩ := hru.len
      have hur : wr.cell? ⟨bb, off + j, none⟩ = some (.slice ka K.length kc) := (HW.out.cell (p := ⟨bb, off + j, none⟩) (World.block_lt_of_cell? w4 _ hu)).trans hu
      have hBr := HB4.out.trans (HW.out.mono HB4.out.size)
      have hh := has_any wr (some ⟨gF, 0, none⟩) cF ka K.length kc F K hFl (HF4.out.below HW.out (Nat.le_refl _)) (hru.below HW.out (Nat.le_refl _)) (HT.out.below hBr (Nat.le_refl _))
      have hin : hasB F K = true := by rw [← HF.out]; exact has_built b KS K (by rw [← hK]; exact List.getElem_mem hlt2)
      rw [hin] at hh
      obtain ⟨q1, q2⟩ := gk_nxt hj hlt
      clear hu hru hK hBr hin
      go_wp2_with fail
      refine hh.mono ?_
      rintro e w5 ⟨rfl, hb5⟩
      have HW5 : Hid (Below w4.heap.size w4 w5) := HW.out.trans (hb5.mono HW.out.size)
      clear hh hb5
      go_wp2_with fail
      go_roundg (gk - 1)
      case measure => exact q1
      case rel => exact ⟨j + 1, q2, by go_num, HW5⟩
    · have hjI : ¬ (j : Int) < (N : Int) := by omega
      have hBr := HB4.out.trans (HW.out.mono HB4.out.size)
      have HBr : Hid (Below w.heap.size w wr) := hBr
      obtain ⟨H, hH⟩ : ∃ H, hasB F cx = H := ⟨_, rfl⟩
      have hh1 := has_any wr (some ⟨gF, 0, none⟩) cF (some ⟨gy, 0, none⟩) cx.length ky F cx hFl (HF4.out.below HW.out (Nat.le_refl _)) (HY4.out.below HW.out (Nat.le_refl _)) (HT.out.below hBr (Nat.le_refl _))
      rw [hH] at hh1
      have HH : Hid (hasB F cx = H) := hH
      clear hH hBr
      go_wp2_with fail
      refine hh1.mono ?_
      rintro e w6 ⟨rfl, hb6⟩
      have HB6 : Hid (Below w.heap.size w w6) := HBr.out.trans (hb6.mono HBr.out.size)
      have hh2 := rhas_any w6 (some ⟨gF, 0, none⟩) cF (some ⟨gy, 0, none⟩) ky F cx hFl (by omega) ((HF4.out.below HW.out (Nat.le_refl _)).below hb6 (Nat.le_refl _)) ((HY4.out.below HW.out (Nat.le_refl _)).below hb6 (Nat.le_refl _))
      rw [HH.out] at hh2
      clear hh1 hb6
      go_wp2_with fail
      refine hh2.mono ?_
      rintro e w7 ⟨rfl, hb7⟩
      have HB7 : Hid (Below w.heap.size w w7) := HB6.out.trans (hb7.mono HB6.out.size)
      clear hh2 hb7
      cases H
      all_goals
        go_wp2
        go_ret
        exact ⟨ret_bo (by simp), HB7.out⟩

theorem bloomHas_walk (a0 : Int) (a1 : Option Addr) (len1 cap1 : Nat) (z1 : List (List UInt8)) (a2 : Option Addr) (len2 cap2 : Nat) (z2 : List Int) (w : World) (w0 : (Lit.int .i64 a0).wf = true) (w1 : ArgL w (.slice a1 len1 cap1) z1) (w2 : IsRow .u8 w a2 len2 cap2 z2) (ht : Tab w) :
    Calls Tryd.prog 4 #[.int .i64 a0, .slice a1 len1 cap1, .slice a2 len2 cap2] w fun e w' => e = .returned (.bool true) ∧ Below w.heap.size w w' :=
  bhas w a0 _ _ z1 _ _ _ rfl rfl (List.length_take_le _ _) w1 (arg_of w2) ht

end Go.Proofs.YtlonomjepipjlaaDoor
