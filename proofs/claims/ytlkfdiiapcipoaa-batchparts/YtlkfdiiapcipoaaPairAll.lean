/- bartizanref04's ApplyAll and Get. -/
import Derived.Test.YtlkfdiiapcipoaaPairApply
import Derived.Test.YtlkfdiiapcipoaaOpCopy
namespace Go.Proofs.Ytlkfdiiapcipoaa
open Go.RowKit

theorem all_take {ps : List PrB} {os : List OpB} {j : Nat} (h : j < os.length) : applyAllO ps (os.take (j + 1)) = applyO (applyAllO ps (os.take j)) os[j] := by
  unfold applyAllO
  rw [List.take_succ_eq_append_getElem h, List.foldl_append]
  rfl

set_option maxHeartbeats 4000000 in
theorem applyall_any (w : World) (vm vl : Value) (ps res : List PrB) (os : List OpB) (hm : RdP w vm ps) (hl : RdO w vl os) (hn : os.length ≤ 100) (hp : ps.length ≤ 500) (hbd : ∀ o ∈ os, o.2.1.length ≤ 1000000 ∧ o.2.2.length ≤ 1000000) (hres : applyAllO ps os = res) :
    Calls Try.prog 27 #[vm, vl] w fun e w' => ∃ z, e = .returned z ∧ RdP w' z res ∧ Below w.heap.size w w' := by
  have HR : Hid _ := hres
  clear hres
  go_enter Try.func27, Try.ntmps27
  go_wp2_with fail
  refine (opcopy_any _ _ os hl.arg (by omega) hbd).mono ?_
  rintro e w1 ⟨vc, rfl, oc, hb1⟩
  have hm1 := hm.below hb1 (Nat.le_refl _)
  have HC : Hid _ := oc.rd
  obtain ⟨ca, cc, e, hc1, hc2, _⟩ := oc.rd
  subst e
  unfold maxLen at hc2
  clear hl hm oc hbd
  go_wp2_with fail
  go_loopg [0, 10] os.length (fun gk mv iv wr => ∃ j : Nat, gk + j = os.length ∧ iv = .int .i64 (j : Int) ∧ RdP wr mv (applyAllO ps (os.take j)) ∧ Below w1.heap.size w1 wr)
  case atStart => exact ⟨0, rfl, rfl, by rw [List.take_zero]; exact hm1, Below.refl _ _⟩
  case round =>
    clear hm1
    obtain ⟨j, hj, rfl, hP, hB⟩ := hrel
    have hrd : RdO wr (.slice ca os.length cc) os := LsO.below (show RdO w1 (.slice ca os.length cc) os from HC.out) hB (Nat.le_refl _)
    by_cases hlt : j < os.length
    · obtain ⟨_, _, e, _, _, h3⟩ := hrd
      cases e
      obtain ⟨b, off, rfl, xv, yv, c0, c1, c2, rx, ry⟩ := h3 j hlt
      obtain ⟨x1, x2, ex⟩ := rx.len
      obtain ⟨y1, y2, ey⟩ := ry.len
      subst ex ey
      obtain ⟨⟨ok, ol, om⟩, ho⟩ : ∃ o, os[j] = o := ⟨_, rfl⟩
      rw [ho] at c0 c1 c2 rx ry
      obtain ⟨m, hm⟩ : ∃ m, applyAllO ps (os.take j) = m := ⟨_, rfl⟩
      have hml : m.length ≤ 1000 := by rw [← hm]; have := applyAll_len ps (os.take j); rw [List.length_take] at this; omega
      have HS : Hid (applyAllO ps (os.take (j + 1)) = applyO m (ok, ol, om)) := by show _ = _; rw [all_take hlt, ho, hm]
      rw [hm] at hP
      have hba := below_box wr #[.int .u8 (ok.toNat : Int), .slice x1 ol.length x2, .slice y1 om.length y2] 27
      have rx2 := rx.below hba (Nat.le_refl _)
      have ry2 := ry.below hba (Nat.le_refl _)
      have hP2 := hP.below hba (Nat.le_refl _)
      have hB2 := hB.trans (hba.mono hB.size)
      clear h3 rx ry ho hm hP hB hba
      go_wp2_with fail
      refine (apply_any _ _ _ _ m _ ok ol om hP2 rx2 ry2 hml rfl).mono ?_
      rintro e w2 ⟨z, rfl, hz, hb⟩
      have hB3 := hB2.trans (hb.mono hB2.size)
      clear hP2 rx2 ry2 hB2 hb c0 c1 c2
      go_wp2
      go_roundg (gk - 1)
      case measure => omega
      case rel => exact ⟨j + 1, by omega, by go_num, by rw [HS.out]; exact hz, hB3⟩
    · obtain rfl : j = os.length := by omega
      rw [List.take_length, HR.out] at hP
      clear hrd
      go_wp2
      go_ret
      exact ⟨_, rfl, hP, hb1.trans (hB.mono hb1.size)⟩

/-- a key's value, and whether it has one -/
def getV : Option (List UInt8) → List UInt8 × Bool
  | some v => (v, true)
  | none => ([], false)

theorem getP_drop {ps : List PrB} {j : Nat} (h : j < ps.length) (key : List UInt8) : getP (ps.drop j) key = if ps[j].1 == key then some ps[j].2 else getP (ps.drop (j + 1)) key := by
  rw [List.drop_eq_getElem_cons h, getP_cons]

set_option maxHeartbeats 4000000 in
theorem get_any (w : World) (vm vk : Value) (ps : List PrB) (key : List UInt8) (r : List UInt8 × Bool) (hm : RdP w vm ps) (hk : Rd w vk key) (hr : getV (getP ps key) = r) (hbd : ∀ p ∈ ps, p.2.length ≤ 1000000) :
    Calls Try.prog 26 #[vm, vk] w fun e w' => ∃ z, e = .returned (.tuple #[z, .bool r.2]) ∧ Rd w' z r.1 ∧ Below w.heap.size w w' := by
  have HM : Hid _ := hm
  have HK : Hid _ := hk
  have HR : Hid _ := hr
  have HBD : Hid _ := hbd
  obtain ⟨ma, mc, rfl, h1, h2, _⟩ := hm
  unfold maxLen at h2
  clear hk hr hbd
  go_enter Try.func26, Try.ntmps26
  go_wp2_with fail
  go_loopg [10] ps.length (fun gk iv wr => ∃ j : Nat, gk + j = ps.length ∧ iv = .int .i64 (j : Int) ∧ getV (getP (ps.drop j) key) = r ∧ Below w.heap.size w wr)
  case atStart => exact ⟨0, rfl, rfl, HR.out, Below.refl _ _⟩
  case round =>
    obtain ⟨j, hj, rfl, hG, hB⟩ := hrel
    have HG : Hid _ := hG
    clear hG
    have hrd : RdP wr (.slice ma ps.length mc) ps := RdP.below (show RdP w (.slice ma ps.length mc) ps from HM.out) hB (Nat.le_refl _)
    have hkr : Rd wr vk key := Rd.below (show Rd w vk key from HK.out) hB (Nat.le_refl _)
    by_cases hlt : j < ps.length
    · obtain ⟨_, _, e, _, _, h3⟩ := hrd
      cases e
      obtain ⟨b, off, rfl, xv, yv, c0, c1, rx, ry⟩ := h3 j hlt
      obtain ⟨x1, x2, ex⟩ := rx.len
      obtain ⟨y1, y2, ey⟩ := ry.len
      subst ex ey
      obtain ⟨⟨pk, pv⟩, hp⟩ : ∃ p, ps[j] = p := ⟨_, rfl⟩
      have hpv : pv.length ≤ 1000000 := by have := HBD.out _ (List.getElem_mem hlt); rw [hp] at this; exact this
      rw [hp] at c0 c1 rx ry
      obtain ⟨q, hq⟩ : ∃ q, (pk == key) = q := ⟨_, rfl⟩
      have HQ : Hid _ := hq
      have HS : Hid (r = if q = true then (pv, true) else getV (getP (ps.drop (j + 1)) key)) := by
        show _ = _
        rw [← HG.out, getP_drop hlt, hp, hq]
        cases q <;> rfl
      have hba := below_box wr #[.slice x1 pk.length x2, .slice y1 pv.length y2] 75
      have rx2 := rx.below hba (Nat.le_refl _)
      have ry2 := ry.below hba (Nat.le_refl _)
      have hk2 := hkr.below hba (Nat.le_refl _)
      have hB2 := hB.trans (hba.mono hB.size)
      clear h3 rx ry hp hq HG hB hba hkr
      go_wp2_with fail
      refine (same_b _ _ _ pk key q rx2 hk2 HQ.out).mono ?_
      rintro e w2 ⟨rfl, hw⟩
      subst hw
      cases q
      · go_wp2
        go_roundg (gk - 1)
        case measure => omega
        case rel => exact ⟨j + 1, by omega, by go_num, by rw [HS.out]; simp, hB2⟩
      · go_wp2_with fail
        refine (copy_any _ _ pv ry2.arg (by omega)).mono ?_
        rintro e w3 ⟨z, rfl, oz, hb⟩
        have hB3 := hB2.trans (hb.mono hB2.size)
        have h0 : Hid (r = (pv, true)) := by show _ = _; rw [HS.out]; simp
        clear rx2 ry2 hk2 hB2 hb
        go_wp2
        go_ret2
        exact ⟨_, by rw [h0.out]; rfl, by rw [h0.out]; exact oz.rd, hB3⟩
    · obtain rfl : j = ps.length := by omega
      have h0 : Hid (r = ([], false)) := by show _ = _; rw [← HG.out, List.drop_length]; rfl
      clear hrd hkr
      go_wp2
      go_ret2
      exact ⟨_, by rw [h0.out]; rfl, by rw [h0.out]; exact .inl ⟨rfl, rfl⟩, hB⟩

end Go.Proofs.Ytlkfdiiapcipoaa
