/- BatchOver answers true: of any ops and any key the last op that is of it is told: what it makes of the key is what all of them make of it. -/
import Derived.Test.YtlkfdiiapcipoaaBChecksWalk
import Derived.Test.YtlkfdiiapcipoaaPairAll
import Derived.Test.YtlkfdiiapcipoaaOpSame
namespace Go.Proofs.Ytlkfdiiapcipoaa
open Go.RowKit

theorem applyS_mem {o : OpB} {d : Bool} {m : List PrB} {p : PrB} (h : p ∈ applyS o d m) : p ∈ m ∨ p = (o.2.1, o.2.2) := by
  induction m generalizing d with
  | nil => unfold applyS at h; cases d <;> simp_all
  | cons x r ih =>
    rw [applyS_cons] at h
    rcases List.mem_append.1 h with h | h
    · split at h
      · simp at h; exact .inr h
      · simp at h
    · rcases List.mem_append.1 h with h | h
      · split at h
        · simp at h
        · simp at h; exact .inl (by simp [h])
      · rcases ih h with h | h
        · exact .inl (by simp [h])
        · exact .inr h

theorem all_mem {os : List OpB} {m : List PrB} {p : PrB} (h : p ∈ applyAllO m os) : p ∈ m ∨ ∃ o ∈ os, p = (o.2.1, o.2.2) := by
  induction os generalizing m with
  | nil => exact .inl h
  | cons o os ih =>
    have h' : p ∈ applyAllO (applyO m o) os := h
    rcases ih h' with h | ⟨q, hq, e⟩
    · rcases applyS_mem h with h | h
      · exact .inl h
      · exact .inr ⟨o, by simp, h⟩
    · exact .inr ⟨q, by simp [hq], e⟩

theorem over_any_iff (os : List OpB) (key : List UInt8) : (overO os key).isSome = os.any fun o => covB o key := by
  unfold overO
  rw [Bool.eq_iff_iff, List.find?_isSome]
  simp

theorem any_take {os : List OpB} {j : Nat} (h : j < os.length) (key : List UInt8) : (os.take (j + 1)).any (fun o => covB o key) = ((os.take j).any (fun o => covB o key) || covB os[j] key) := by
  rw [List.take_succ_eq_append_getElem h, List.any_append]
  simp

set_option maxHeartbeats 3000000 in
set_option maxRecDepth 20000 in
theorem bover_walk (w : World) (v vk : Value) (os fs : List OpB) (lk ck : List UInt8) (HF : Hid (fewO 70 os = fs)) (HK : Hid (lk.take 80 = ck)) (hv : ArgO w v os) (hk : Arg w vk lk) :
    Calls Try.prog 6 #[v, vk] w fun e w' => e = .returned (.bool true) ∧ Below w.heap.size w w' := by
  have HA : Hid _ := hk
  go_enter Try.func6, Try.ntmps6
  go_wp2_with fail
  refine (bawake_any _).mono ?_
  rintro e w1 ⟨rfl, hb1⟩
  have hv1 := hv.belowA hb1 (Nat.le_refl _)
  clear hv hk
  go_wp2_with fail
  refine (fewop_any _ _ os 70 hv1 (by omega)).mono ?_
  rintro e w2 ⟨x, rfl, ox, hb2⟩
  rw [HF.out] at ox
  have hB2 := hb1.trans (hb2.mono hb1.size)
  have hlen : fs.length ≤ 70 := by rw [← HF.out]; exact fewO_length _ _
  have HBD : Hid (∀ o ∈ fs, o.2.1.length ≤ 1000000 ∧ o.2.2.length ≤ 1000000) := by
    intro o ho
    rw [← HF.out] at ho
    have := fewO_bound _ _ o ho
    omega
  obtain ⟨la, lc, hx⟩ := ox.shape
  subst hx
  have rl2 := ox.rd
  have hk2 : Arg w2 vk lk := Arg.below (show Arg w vk lk from HA.out) hB2 (Nat.le_refl _)
  clear hb1 hb2 hv1 ox
  go_wp2_with fail
  refine (cut_any _ _ lk 80 hk2 (by omega)).mono ?_
  rintro e w3 ⟨k3, rfl, ok3, hb⟩
  rw [HK.out] at ok3
  obtain ⟨gky, kk, hgk⟩ := ok3.shape
  subst hgk
  have rk3 := ok3.rd
  have rl3 := rl2.below hb (Nat.le_refl _)
  have hB3 := hB2.trans (hb.mono hB2.size)
  obtain ⟨c, hc⟩ : ∃ c, chkL fs = c := ⟨_, rfl⟩
  have HC : Hid _ := hc
  clear hB2 hb rl2 hk2 ok3 hc
  go_wp2_with fail
  refine (rcheck_any _ _ fs c rl3 HC.out).mono ?_
  rintro e w4 ⟨rfl, hb⟩
  have rk4 := rk3.below hb (Nat.le_refl _)
  have rl4 := rl3.below hb (Nat.le_refl _)
  have hB4 := hB3.trans (hb.mono hB3.size)
  clear rk3 rl3 hB3 hb HC
  by_cases hc0 : c = 0
  · subst hc0
    go_wp2_with fail
    refine (opcopy_any _ _ fs rl4.arg (by omega) HBD.out).mono ?_
    rintro e w5 ⟨vc, rfl, oc, hb⟩
    have rk5 := rk4.below hb (Nat.le_refl _)
    have rl5 := rl4.below hb (Nat.le_refl _)
    have hB5 := hB4.trans (hb.mono hB4.size)
    obtain ⟨⟨⟨ak, al, am⟩, aok⟩, hr1⟩ : ∃ r, resO (overO fs ck) = r := ⟨_, rfl⟩
    have HR1 : Hid _ := hr1
    clear rk4 rl4 hB4 hb hr1
    go_wp2_with fail
    refine (over_any _ _ _ fs ck _ oc.rd rk5 HBD.out HR1.out).mono ?_
    rintro e w6 ⟨xa, ya, rfl, oxa, oya, hb⟩
    obtain ⟨xa1, xa2, hxa⟩ := oxa.len
    subst hxa
    obtain ⟨ya1, ya2, hya⟩ := oya.len
    subst hya
    simp only at oxa oya
    have hba := below_box w6 #[.int .u8 (ak.toNat : Int), .slice xa1 al.length xa2, .slice ya1 am.length ya2] 27
    have b7 := box_new w6 (.int .u8 (ak.toNat : Int)) (.slice xa1 al.length xa2) (.slice ya1 am.length ya2) 27
    have rk7 := (rk5.below hb (Nat.le_refl _)).below hba (Nat.le_refl _)
    have rl7 := (rl5.below hb (Nat.le_refl _)).below hba (Nat.le_refl _)
    have rya7 := oya.rd.below hba (Nat.le_refl _)
    have hB7 := (hB5.trans (hb.mono hB5.size)).trans (hba.mono (Nat.le_trans hB5.size hb.size))
    clear rk5 rl5 hB5 hb hba oxa oya oc
    obtain ⟨m, hm⟩ : ∃ m, applyAllO [] fs = m := ⟨_, rfl⟩
    have HM : Hid _ := hm
    obtain ⟨⟨gv, has⟩, hg⟩ : ∃ g, getV (getP m ck) = g := ⟨_, rfl⟩
    have HG : Hid _ := hg
    have HMB : Hid (∀ p ∈ m, p.2.length ≤ 1000000) := by
      intro p hp
      rw [← hm] at hp
      rcases all_mem hp with h | ⟨o, ho, rfl⟩
      · simp at h
      · exact (HBD.out o ho).2
    have hfin : Hid ((aok = fs.any fun o => covB o ck) ∧ (has = (aok && decide (ak.toNat = 2))) ∧ (has = true → gv = am)) := by
      have e1 := over_any_iff fs ck
      have e2 := get_all fs ck
      rw [hm] at e2
      have e3 := HR1.out
      cases ho : overO fs ck with
      | none =>
        rw [ho] at e1 e2 e3
        simp only [resO, Prod.mk.injEq] at e3
        rw [e2] at hg
        simp only [getV, Prod.mk.injEq] at hg
        obtain ⟨_, rfl⟩ := e3
        obtain ⟨_, rfl⟩ := hg
        exact ⟨by simpa using e1, by simp, by simp⟩
      | some o =>
        rw [ho] at e1 e2 e3
        simp only [resO, Prod.mk.injEq] at e3
        obtain ⟨rfl, rfl⟩ := e3
        rw [e2] at hg
        simp only at hg
        by_cases h2 : ak.toNat = 2
        · rw [if_pos h2] at hg
          simp only [getV, Prod.mk.injEq] at hg
          obtain ⟨rfl, rfl⟩ := hg
          exact ⟨by simpa using e1, by simp [h2], fun _ => rfl⟩
        · rw [if_neg h2] at hg
          simp only [getV, Prod.mk.injEq] at hg
          obtain ⟨rfl, rfl⟩ := hg
          exact ⟨by simpa using e1, by simp [h2], by simp⟩
    clear hm hg
    go_wp2_with fail
    refine (applyall_any _ _ _ [] m fs (RdP.nil _) rl7 (by omega) (by simp) HBD.out HM.out).mono ?_
    rintro e w8 ⟨vm, rfl, rm, hb⟩
    have rk8 := rk7.below hb (Nat.le_refl _)
    have rl8 := rl7.below hb (Nat.le_refl _)
    have rya8 := rya7.below hb (Nat.le_refl _)
    have b8 := b7.below hb (Nat.le_refl _)
    have hB8 := hB7.trans (hb.mono hB7.size)
    clear rk7 rl7 rya7 b7 hB7 hb
    go_wp2_with fail
    refine (get_any _ _ _ m ck _ rm rk8 HG.out HMB.out).mono ?_
    rintro e w9 ⟨vg, rfl, rg, hb⟩
    simp only at rg
    have rk9 := rk8.below hb (Nat.le_refl _)
    have rl9 := rl8.below hb (Nat.le_refl _)
    have rya9 := rya8.below hb (Nat.le_refl _)
    have b9 := b8.below hb (Nat.le_refl _)
    have hB9 := hB8.trans (hb.mono hB8.size)
    clear rk8 rl8 rya8 b8 hB8 hb rm HG HM HMB
    have hlc : fs.length ≤ lc ∧ lc ≤ 9223372036854775807 := by obtain ⟨_, _, e, h1, h2, _⟩ := rl9; cases e; unfold maxLen at h2; omega
    obtain ⟨hlc1, hlc2⟩ := hlc
    have HL : Hid _ := rl9
    have HKD : Hid _ := rk9
    have HYA : Hid _ := rya9
    have HGV : Hid _ := rg
    clear rl9 rk9 rya9 rg
    go_wp2_with fail
    go_loopg [9, 37] fs.length (fun gk sv iv wr => ∃ j : Nat, ∃ s : Bool, gk + j = fs.length ∧ iv = .int .i64 (j : Int) ∧ sv = .bool s ∧ s = ((fs.take j).any fun o => covB o ck) ∧ Below w9.heap.size w9 wr)
    case atStart => exact ⟨0, false, rfl, rfl, rfl, by simp, Below.refl _ _⟩
    case round =>
      obtain ⟨j, s, hj, rfl, rfl, hs, hB⟩ := hrel
      have HS : Hid _ := hs
      clear hs
      by_cases hlt : j < fs.length
      · obtain ⟨_, _, e, _, _, h3⟩ := LsO.below (show RdO w9 (.slice la fs.length lc) fs from HL.out) hB (Nat.le_refl _)
        cases e
        obtain ⟨b, off, rfl, xv, yv, c0, c1, c2, rx, ry⟩ := h3 j hlt
        obtain ⟨x1, x2, ex⟩ := rx.len
        obtain ⟨y1, y2, ey⟩ := ry.len
        subst ex ey
        obtain ⟨⟨ok, ol, om⟩, ho⟩ : ∃ o, fs[j] = o := ⟨_, rfl⟩
        rw [ho] at c0 c1 c2 rx ry
        obtain ⟨q, hq⟩ : ∃ q, cov (ok.toNat : Int) ol om ck = q := ⟨_, rfl⟩
        have HQ : Hid _ := hq
        have HN : Hid (((fs.take (j + 1)).any fun o => covB o ck) = (s || q)) := by show _ = _; rw [any_take hlt, ← HS.out, ho, ← hq]; rfl
        have hba := below_box wr #[.int .u8 (ok.toNat : Int), .slice x1 ol.length x2, .slice y1 om.length y2] 27
        have rx2 := rx.below hba (Nat.le_refl _)
        have ry2 := ry.below hba (Nat.le_refl _)
        have hB2 := hB.trans (hba.mono hB.size)
        have rk2 : Rd _ _ ck := Rd.below (show Rd w9 (.slice (some ⟨gky, 0, none⟩) ck.length kk) ck from HKD.out) hB2 (Nat.le_refl _)
        clear h3 rx ry ho hq hB hba
        cases s
        · go_wp2_with fail
          refine (covers_any _ _ _ _ ol om ck ok.toNat q rx2 ry2 rk2 HQ.out).mono ?_
          rintro e w10 ⟨rfl, hb⟩
          have hB3 := hB2.trans (hb.mono hB2.size)
          clear rx2 ry2 rk2 hB2 hb c0 c1 c2
          go_wp2
          go_roundg (gk - 1)
          case measure => omega
          case rel => exact ⟨j + 1, q, by omega, by go_num, rfl, by rw [HN.out]; simp, hB3⟩
        · clear rx2 ry2 rk2
          go_wp2
          go_roundg (gk - 1)
          case measure => omega
          case rel => exact ⟨j + 1, true, by omega, by go_num, rfl, by rw [HN.out]; simp, hB2⟩
      · obtain rfl : j = fs.length := by omega
        rw [List.take_length] at HS
        have hsa : Hid (s = aok) := by show _ = _; rw [HS.out]; exact hfin.out.1.symm
        obtain ⟨e0, e1, e2, _, _, _⟩ := b9.below hB (Nat.le_refl _)
        have rya : Rd wr (.slice ya1 am.length ya2) am := Rd.below (show Rd w9 (.slice ya1 am.length ya2) am from HYA.out) hB (Nat.le_refl _)
        have rgv : Rd wr vg gv := Rd.below (show Rd w9 vg gv from HGV.out) hB (Nat.le_refl _)
        have hBf := hB9.trans (hB.mono hB9.size)
        have hs2 := hsa.out
        subst hs2
        have hh := hfin.out.2.1
        have hv2 := hfin.out.2.2
        clear b9 hB HS hsa hfin HR1
        cases s
        · simp only [Bool.false_and] at hh
          subst hh
          clear hv2 rya rgv
          go_wp2
          go_ret
          exact ⟨ret_bool (by simp), hBf⟩
        · by_cases h2 : ak.toNat = 2
          · have hh2 : has = true := by rw [hh]; simp [h2]
            subst hh2
            have hgv := hv2 rfl
            subst hgv
            have hki : ((ak.toNat : Int) == 2) = true := by rw [h2]; rfl
            have hki2 : (ak.toNat : Int) = 2 := by omega
            rw [hki2] at e0
            clear hv2 hh hki hki2
            go_wp2_with fail
            refine (same_b _ _ _ gv gv true rya rgv (by simp)).mono ?_
            rintro e w11 ⟨rfl, hw⟩
            subst hw
            go_wp2
            go_ret
            exact ⟨ret_bool (by simp), hBf⟩
          · have hh2 : has = false := by rw [hh]; simp [h2]
            subst hh2
            have hki : ((ak.toNat : Int) == 2) = false := by simp; omega
            have hki2 : decide ((ak.toNat : Int) = 2) = false := by simp; omega
            clear hv2 hh rya rgv
            go_wp2
            go_ret
            exact ⟨ret_bool (by simp), hBf⟩
  · have hcb : (c != 0) = true := by simp [hc0]
    have hcb2 : (c == 0) = false := by simp [hc0]
    clear rk4 rl4
    go_wp2
    go_ret
    exact ⟨rfl, hB4⟩

theorem batchOver_walk (a0 : Option Addr) (len0 cap0 : Nat) (z0 : List OpB) (a1 : Option Addr) (len1 cap1 : Nat) (z1 : List Int) (w : World) (w0 : ArgO w (.slice a0 len0 cap0) z0) (w1 : IsRow .u8 w a1 len1 cap1 z1) :
    Calls Try.prog 6 #[.slice a0 len0 cap0, .slice a1 len1 cap1] w fun e w' => e = .returned (.bool true) ∧ Below w.heap.size w w' :=
  bover_walk w _ _ z0 _ _ _ rfl rfl w0 (arg_of w1)

end Go.Proofs.Ytlkfdiiapcipoaa
