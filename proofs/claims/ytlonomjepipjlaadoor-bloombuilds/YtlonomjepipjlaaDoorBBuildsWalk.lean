/- BloomBuilds answers true: of any keys, with any number of bits for each, there is the filter; keys come back untouched. -/
import Derived.Test.YtlonomjepipjlaaDoorBHasWalk
import Derived.Test.YtlonomjepipjlaaDoorBlRBuild2
namespace Go.Proofs.YtlonomjepipjlaaDoor
open Go.RowKit
set_option linter.unusedVariables false

theorem fewT_twice (n long : Nat) (ls : List (List UInt8)) : fewT n long (fewT n long ls) = fewT n long ls := by
  unfold fewT
  rw [← List.map_take, List.take_take, Nat.min_self, List.map_map]
  congr 1
  funext l
  simp [List.take_take]

theorem RdL.argl {w : World} {v : Value} {ls : List (List UInt8)} (h : RdL w v ls) : ArgL w v ls := by
  rcases h with ⟨rfl, rfl⟩ | ⟨b, off, cap, e, h1, h2, h3⟩
  · exact .inl ⟨rfl, none, 0, rfl, fun _ => rfl, Nat.zero_le _⟩
  · by_cases hl : 0 < ls.length
    · refine .inr ⟨b, off, cap, e, hl, h1, h2, fun j hj => ?_⟩
      obtain ⟨u, hu, hr⟩ := h3 j hj
      exact ⟨u, hu, hr.arg⟩
    · have hn : ls = [] := List.eq_nil_of_length_eq_zero (by omega)
      subst hn
      exact .inl ⟨rfl, _, cap, e, (fun h => by cases h), h2⟩

set_option maxHeartbeats 4000000 in
set_option maxRecDepth 100000 in
theorem bbuilds (w : World) (b : Int) (vl : Value) (ls KS : List (List UInt8)) (CK : Hid (fewT 40 60 ls = KS)) (hl : ArgL w vl ls) (ht : Tab w) :
    Calls Tryd.prog 3 #[.int .i64 b, vl] w fun e w' => e = .returned (.bool true) ∧ Below w.heap.size w w' := by
  have haw := blawake_any w ht
  obtain ⟨la, lc, rfl, _⟩ := ArgL.places hl
  have HL : Hid (ArgL w (.slice la ls.length lc) ls) := hl
  have HT : Hid (Tab w) := ht
  have e40 : ((40 : Nat) : Int) = 40 := rfl
  have e60 : ((60 : Nat) : Int) = 60 := rfl
  clear hl ht
  go_enter Tryd.func3, Tryd.ntmps3
  go_wp2_with fail
  refine haw.mono ?_
  rintro e w1 ⟨rfl, hb1⟩
  have hfw := few_any w1 _ ls 40 60 (HL.out.below hb1 (Nat.le_refl _)) (by omega) (by omega)
  rw [CK.out, e40, e60] at hfw
  have HB1 : Hid (Below w.heap.size w w1) := hb1
  clear haw hb1
  go_wp2_with fail
  refine hfw.mono ?_
  rintro e w2 ⟨vk, rfl, ok, hb2⟩
  obtain ⟨kka, kkc, rfl⟩ := ok.shape
  have HB2 : Hid (Below w.heap.size w w2) := HB1.out.trans (hb2.mono HB1.out.size)
  have HK2 : Hid (RdL w2 (.slice kka KS.length kkc) KS) := ok.rd
  have hfw2 := few_any w2 _ KS 40 60 HK2.out.argl (by omega) (by omega)
  rw [show fewT 40 60 KS = KS by rw [← CK.out]; exact fewT_twice _ _ _, e40, e60] at hfw2
  clear hfw hb2 ok
  go_wp2_with fail
  refine hfw2.mono ?_
  rintro e w3 ⟨vm, rfl, om, hb3⟩
  obtain ⟨ma, mc, rfl⟩ := om.shape
  have HB3 : Hid (Below w.heap.size w w3) := HB2.out.trans (hb3.mono HB2.out.size)
  have HK3 : Hid (RdL w3 (.slice kka KS.length kkc) KS) := HK2.out.below hb3 (Nat.le_refl _)
  have HM3 : Hid (RdL w3 (.slice ma KS.length mc) KS) := om.rd
  have hKl : KS.length ≤ 40 := by rw [← CK.out]; exact few_len _ _ _
  have HKL : Hid (∀ k ∈ KS, k.length ≤ 1000) := fun k hk => by rw [← CK.out] at hk; have := fewT_le 40 60 ls k hk; omega
  have hbd := build_any w3 b ma mc KS (by omega) HKL.out HM3.out (HT.out.below HB3.out (Nat.le_refl _))
  obtain ⟨F, hF⟩ : ∃ F, buildF b KS = F := ⟨_, rfl⟩
  have HF : Hid (buildF b KS = F) := hF
  rw [hF] at hbd
  clear hfw2 hb3 om hF
  go_wp2_with fail
  refine hbd.mono ?_
  rintro e w4 ⟨vF, rfl, oF, hb4⟩
  obtain ⟨gF, cF, rfl⟩ := oF.shape
  have HB4 : Hid (Below w.heap.size w w4) := HB3.out.trans (hb4.mono HB3.out.size)
  have HF4 : Hid (Rd w4 (.slice (some ⟨gF, 0, none⟩) F.length cF) F) := oF.rd
  have HK4 : Hid (RdL w4 (.slice kka KS.length kkc) KS) := HK3.out.below hb4 (Nat.le_refl _)
  have HM4 : Hid (RdL w4 (.slice ma KS.length mc) KS) := HM3.out.below hb4 (Nat.le_refl _)
  have hrb := rbuild_any w4 b kka kkc KS (by omega) HKL.out HK4.out
  rw [HF.out] at hrb
  clear hbd hb4 oF
  go_wp2_with fail
  refine hrb.mono ?_
  rintro e w5 ⟨vG, rfl, oG, hb5⟩
  obtain ⟨gG, cG, rfl⟩ := oG.shape
  have HB5 : Hid (Below w.heap.size w w5) := HB4.out.trans (hb5.mono HB4.out.size)
  have hs1 := same_b w5 _ _ F F true (HF4.out.below hb5 (Nat.le_refl _)) oG.rd (beq_self_eq_true F)
  have hp1 := prb_any w5 b
  have hp2 := rprb_any w5 b
  obtain ⟨c, hc⟩ : ∃ c, prbN b = c := ⟨_, rfl⟩
  rw [hc] at hp1 hp2
  have hs2 := sameT_any w5 _ _ KS KS true (HM4.out.below hb5 (Nat.le_refl _)) (HK4.out.below hb5 (Nat.le_refl _)) (by simp)
  clear hrb hb5 oG hc
  go_wp2_with fail
  refine hs1.mono ?_
  rintro e w6 ⟨rfl, hw6⟩
  subst w6
  clear hs1
  go_wp2_with fail
  refine hp1.mono ?_
  rintro e w6 ⟨rfl, hw6⟩
  subst w6
  clear hp1
  go_wp2_with fail
  refine hp2.mono ?_
  rintro e w6 ⟨rfl, hw6⟩
  subst w6
  clear hp2
  go_wp2_with fail
  refine hs2.mono ?_
  rintro e w7 ⟨rfl, n7, hw7⟩
  have HB7 : Hid (Below w.heap.size w w7) := by rw [hw7]; exact below_drewN HB5.out _
  clear hs2 hw7
  go_wp2
  go_ret
  exact ⟨ret_bo (by simp), HB7.out⟩

theorem bloomBuilds_walk (a0 : Int) (a1 : Option Addr) (len1 cap1 : Nat) (z1 : List (List UInt8)) (w : World) (w0 : (Lit.int .i64 a0).wf = true) (w1 : ArgL w (.slice a1 len1 cap1) z1) (ht : Tab w) :
    Calls Tryd.prog 3 #[.int .i64 a0, .slice a1 len1 cap1] w fun e w' => e = .returned (.bool true) ∧ Below w.heap.size w w' :=
  bbuilds w a0 _ z1 _ rfl w1 ht

end Go.Proofs.YtlonomjepipjlaaDoor
