/- KeyUpto answers true: of any versions of a key those that are seen stand behind where one looks, the others ahead. -/
import Derived.Test.YtkcdfmbjmacafaaKeyAwake
import Derived.Test.YtkcdfmbjmacafaaKeyArg
import Derived.Test.YtkcdfmbjmacafaaKeyUpto
namespace Go.Proofs.Ytkcdfmbjmacafaa
open Go.RowKit

set_option maxHeartbeats 2000000 in
theorem uptolaw_walk (w : World) (va vu : Value) (la lu ca cu : List UInt8) (CA : Hid (la.take 80 = ca)) (CU : Hid (lu.take 80 = cu)) (hcu : cu.length ≤ 80) (s k q : Int) (hs : 0 ≤ s) (hk : 0 ≤ k) (ha : Arg w va la) (hu : Arg w vu lu) :
    Calls Try.prog 6 #[.agg #[va, .int .u64 s, .int .u8 k], vu, .int .u64 q] w fun e w' => e = .returned (.bool true) ∧ Below w.heap.size w w' := by
  have hsh : ∃ ao cap, va = .slice ao la.length cap := by
    rcases ha with ⟨rfl, rfl⟩ | ⟨a, cap, rfl, _⟩
    · exact ⟨_, _, rfl⟩
    · exact ⟨_, _, rfl⟩
  obtain ⟨ao, cap, rfl⟩ := hsh
  have hB0 := below_box w #[.slice ao la.length cap, .int .u64 s, .int .u8 k] 25
  have b0 := box_new w (.slice ao la.length cap) (.int .u64 s) (.int .u8 k) 25
  have ha0 := ha.below hB0 (Nat.le_refl _)
  have hu0 := hu.below hB0 (Nat.le_refl _)
  obtain ⟨c, hc⟩ : ∃ c, chk ca.length s k = c := ⟨_, rfl⟩
  have HC : Hid _ := hc
  clear ha hu hc
  go_enter Try.func6, Try.ntmps6
  go_wp2_with fail
  refine (kawake_any _).mono ?_
  rintro e w1 ⟨rfl, hb⟩
  have ha1 := ha0.below hb (Nat.le_refl _)
  have hu1 := hu0.below hb (Nat.le_refl _)
  have b1 := b0.below hb (Nat.le_refl _)
  have hB := hB0.trans (hb.mono hB0.size)
  clear ha0 hu0 b0 hb hB0
  have b1c0 := b1.c0; have b1c1 := b1.c1; have b1c2 := b1.c2
  go_wp2_with fail
  refine (small_any _ _ la s k ha1).mono ?_
  rintro e w2 ⟨x, rfl, ox, hb⟩
  rw [CA.out] at ox
  obtain ⟨gx, kx, hx⟩ := ox.shape
  subst hx
  have hgx := ox.lt.1
  have hlt := b1.lt
  have hu2 := hu1.below hb (Nat.le_refl _)
  have b2 := b1.below hb (Nat.le_refl _)
  replace hB := hB.trans (hb.mono hB.size)
  clear b1c0 b1c1 b1c2 b1 hb ha1 hu1
  go_wp2_with fail
  refine (cut_any _ _ lu 80 hu2 (by omega)).mono ?_
  rintro e w3 ⟨y, rfl, oy, hb⟩
  rw [CU.out] at oy
  obtain ⟨gy, ky, hy⟩ := oy.shape
  subst hy
  have hgy := oy.lt.1
  have hs2 := hb.size
  have hlt2 := b2.lt
  have rx := ox.rd.below hb (Nat.le_refl _)
  have ry := oy.rd
  have b3 := b2.below hb (Nat.le_refl _)
  replace hB := hB.trans (hb.mono hB.size)
  have rx4 := rx.store3 (b := w.heap.size) (by omega) (.slice (some ⟨gx, 0, none⟩) ca.length kx) (.int .u64 s) (.int .u8 k)
  have ry4 := ry.store3 (b := w.heap.size) (by omega) (.slice (some ⟨gx, 0, none⟩) ca.length kx) (.int .u64 s) (.int .u8 k)
  have b4 := b3.store (.slice (some ⟨gx, 0, none⟩) ca.length kx) (.int .u64 s) (.int .u8 k)
  have hB4 := below_store3 hB (b := w.heap.size) (Nat.le_refl _) (.slice (some ⟨gx, 0, none⟩) ca.length kx) (.int .u64 s) (.int .u8 k)
  obtain ⟨d0, d1, d2, f0, f1, f2⟩ := b3
  clear hu2 b2 hb hB rx ry ox oy hgx hgy hs2 hlt2 hlt
  go_wp2_with fail
  clear d0 d1 d2 f0 f1 f2
  generalize (((w3.setCell ⟨w.heap.size, 0, none⟩ (.slice (some ⟨gx, 0, none⟩) ca.length kx)).setCell ⟨w.heap.size, 1, none⟩ (.int .u64 s)).setCell ⟨w.heap.size, 2, none⟩ (.int .u8 k)) = w4 at *
  refine (refcheck_any _ _ _ _ s k hs hk).mono ?_
  rintro e w5 ⟨rfl, hb⟩
  rw [HC.out]
  by_cases hc0 : c = 0
  · have hcb : (c != 0) = false := by simp [hc0]
    have hcx : Hid (s ≤ 72057594037927935 ∧ k ≤ 2) := by have := HC.out; rw [hc0] at this; unfold chk at this; show _ ∧ _; grind
    subst hc0
    have rx := rx4.below hb (Nat.le_refl _)
    have ry := ry4.below hb (Nat.le_refl _)
    have b5 := b4.below hb (Nat.le_refl _)
    have hB := hB4.trans (hb.mono hB4.size)
    have b5c0 := b5.c0; have b5c1 := b5.c1; have b5c2 := b5.c2
    clear rx4 ry4 b4 hB4 hb HC
    obtain ⟨m, hm⟩ : ∃ m, min q 72057594037927935 = m := ⟨_, rfl⟩
    have HM : Hid _ := hm
    clear hm
    go_wp2_with fail
    refine (upto_any _ _ cu q m ry.arg (by omega) HM.out).mono ?_
    rintro e w6 ⟨a6, k6, rfl, r6, hb⟩
    clear b5c0 b5c1 b5c2
    replace rx := rx.below hb (Nat.le_refl _)
    replace ry := ry.below hb (Nat.le_refl _)
    replace b5 := b5.below hb (Nat.le_refl _)
    replace hB := hB.trans (hb.mono hB.size)
    have hba := below_box w6 #[.slice a6 cu.length k6, .int .u64 m, .int .u8 2] 25
    replace rx := rx.below hba (Nat.le_refl _)
    replace ry := ry.below hba (Nat.le_refl _)
    replace r6 := r6.below hba (Nat.le_refl _)
    replace b5 := b5.below hba (Nat.le_refl _)
    replace hB := hB.trans (hba.mono hB.size)
    have b5c0 := b5.c0; have b5c1 := b5.c1; have b5c2 := b5.c2
    clear hb hba
    obtain ⟨r, hr⟩ : ∃ r, Mth.cmpK ca s k cu m 2 = r := ⟨_, rfl⟩
    have HR : Hid _ := hr
    clear hr
    go_wp2_with fail
    refine (compare_any _ _ _ ca cu s k m 2 r rx r6 HR.out).mono ?_
    rintro e w7 ⟨rfl, hb⟩
    clear b5c0 b5c1 b5c2
    replace rx := rx.below hb (Nat.le_refl _)
    replace ry := ry.below hb (Nat.le_refl _)
    replace b5 := b5.below hb (Nat.le_refl _)
    replace hB := hB.trans (hb.mono hB.size)
    have b5c0 := b5.c0; have b5c1 := b5.c1; have b5c2 := b5.c2
    clear hb r6
    obtain ⟨f, hf⟩ : ∃ f, Lib.compareBytes ca cu = f := ⟨_, rfl⟩
    have HN := Mth.cmp_neg ca cu
    have HV := Mth.cmp_vals ca cu
    have hrr := HR.out
    unfold Mth.cmpK at hrr
    rw [hf] at HN HV hrr
    have HF : Hid _ := hf
    have HN' : Hid _ := HN
    clear hf HN HR
    go_wp2_with fail
    by_cases hf0 : f < 0
    · have hr0 : r < 0 := by rw [if_pos (by omega)] at hrr; omega
      clear hrr HM hcx HV
      refine (refless_any _ _ _ ca cu true rx ry (by rw [HF.out]; exact decide_eq_true hf0)).mono ?_
      rintro e w8 ⟨rfl, hw⟩
      subst hw
      go_wp2
      go_ret
      exact ⟨ret_bool (by simp), hB⟩
    · refine (refless_any _ _ _ ca cu false rx ry (by rw [HF.out]; exact decide_eq_false hf0)).mono ?_
      rintro e w8 ⟨rfl, hw⟩
      subst hw
      by_cases hf1 : 0 < f
      · have hr0 : ¬ r < 0 := by rw [if_pos (by omega)] at hrr; omega
        clear hrr HM hcx HV hf0
        go_wp2_with fail
        refine (refless_any _ _ _ cu ca true ry rx (by rw [HN'.out]; exact decide_eq_true (by omega))).mono ?_
        rintro e w8 ⟨rfl, hw⟩
        subst hw
        go_wp2
        go_ret
        exact ⟨ret_bool (by simp; omega), hB⟩
      · have hff : f = 0 := by omega
        have hfin : Hid ((decide (r < 0) == decide (q < s)) = true) := by
          have hm := HM.out
          have hcx := hcx.out
          rw [if_neg (by omega)] at hrr
          show _ = _
          rw [beq_iff_eq]
          apply decide_eq_decide.2
          split at hrr
          · omega
          · split at hrr
            · omega
            · split at hrr
              · omega
              · split at hrr <;> omega
        clear hrr HM hcx HV hf0 hf1
        subst hff
        go_wp2_with fail
        refine (refless_any _ _ _ cu ca false ry rx (by rw [HN'.out]; rfl)).mono ?_
        rintro e w8 ⟨rfl, hw⟩
        subst hw
        go_wp2
        go_ret
        exact ⟨ret_bool hfin.out, hB⟩
  · have hcb : (c != 0) = true := by simp [hc0]
    have hB := hB4.trans (hb.mono hB4.size)
    go_wp2
    go_ret
    exact ⟨rfl, hB⟩

theorem keyUpto_walk (a0 : Option Addr) (len0 cap0 : Nat) (z0 : List Int) (s0 e0 : Int) (a1 : Option Addr) (len1 cap1 : Nat) (z1 : List Int) (a2 : Int) (w : World)
    (w0 : IsRow .u8 w a0 len0 cap0 z0) (ws0 : (Lit.int .u64 s0).wf = true) (wk0 : (Lit.int .u8 e0).wf = true) (w1 : IsRow .u8 w a1 len1 cap1 z1) (_w2 : (Lit.int .u64 a2).wf = true) :
    Calls Try.prog 6 #[.agg #[.slice a0 len0 cap0, .int .u64 s0, .int .u8 e0], .slice a1 len1 cap1, .int .u64 a2] w fun e w' => e = .returned (.bool true) ∧ Below w.heap.size w w' :=
  uptolaw_walk w _ _ _ _ _ _ rfl rfl (List.length_take_le _ _) s0 e0 a2 (bounds_u64 ws0).1 (bounds_u8 wk0).1 (arg_of w0) (arg_of w1)

end Go.Proofs.Ytkcdfmbjmacafaa
