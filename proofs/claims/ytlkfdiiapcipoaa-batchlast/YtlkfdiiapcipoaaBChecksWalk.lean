/- BatchChecks answers true: of any op, and any ops together, it is told whether they may be, and the first error. -/
import Derived.Test.YtlkfdiiapcipoaaOpAwake
import Derived.Test.YtlkfdiiapcipoaaOpFew
import Derived.Test.YtlkfdiiapcipoaaOpArg
import Derived.Deep.RegionHeld3
import Derived.Deep.LoopGhost
namespace Go.Proofs.Ytlkfdiiapcipoaa
open Go.RowKit

theorem fewO_length (n : Nat) (os : List OpB) : (fewO n os).length ≤ n := by unfold fewO; rw [List.length_map]; exact List.length_take_le _ _

theorem fewO_bound (n : Nat) (os : List OpB) : ∀ o ∈ fewO n os, o.2.1.length ≤ 80 ∧ o.2.2.length ≤ 600 := by
  intro o ho
  obtain ⟨p, _, rfl⟩ := List.mem_map.1 ho
  exact ⟨List.length_take_le _ _, List.length_take_le _ _⟩

theorem sizeO_bound (os : List OpB) (h : ∀ o ∈ os, o.2.1.length ≤ 80 ∧ o.2.2.length ≤ 600) : sizeO os ≤ 680 * os.length := by
  induction os with
  | nil => simp [sizeO]
  | cons o os ih =>
    have h1 := h o (by simp)
    have h2 := ih (fun p hp => h p (by simp [hp]))
    have e : sizeO (o :: os) = o.2.1.length + o.2.2.length + sizeO os := by simp [sizeO]
    rw [e, List.length_cons]
    omega

theorem OwnO.shape {B : Nat} {w : World} {v : Value} {os : List OpB} (h : OwnO B w v os) : ∃ a c, v = .slice a os.length c := by
  obtain ⟨a, c, e, _⟩ := h.rd
  exact ⟨a, c, e⟩

set_option maxHeartbeats 4000000 in
theorem bchecks_walk (w : World) (v : Value) (os fs : List OpB) (HF : Hid (fewO 70 os = fs)) (hv : ArgO w v os) :
    Calls Try.prog 3 #[v] w fun e w' => e = .returned (.bool true) ∧ Below w.heap.size w w' := by
  go_enter Try.func3, Try.ntmps3
  go_wp2_with fail
  refine (bawake_any _).mono ?_
  rintro e w1 ⟨rfl, hb1⟩
  have hv1 := hv.belowA hb1 (Nat.le_refl _)
  clear hv
  go_wp2_with fail
  refine (fewop_any _ _ os 70 hv1 (by omega)).mono ?_
  rintro e w2 ⟨x, rfl, ox, hb2⟩
  rw [HF.out] at ox
  have hB2 := hb1.trans (hb2.mono hb1.size)
  have hlen : fs.length ≤ 70 := by rw [← HF.out]; exact fewO_length _ _
  obtain ⟨a, c, hx⟩ := ox.shape
  subst hx
  have HX : Hid _ := ox.rd
  clear hb1 hb2 hv1 ox
  go_wp2_with fail
  go_loopg [11] fs.length (fun gk iv wr => ∃ j : Nat, gk + j = fs.length ∧ iv = .int .i64 (j : Int) ∧ Below w2.heap.size w2 wr)
  case atStart => exact ⟨0, rfl, rfl, Below.refl _ _⟩
  case round =>
    obtain ⟨j, hj, rfl, hB⟩ := hrel
    have hrd : RdO wr _ fs := LsO.below (show RdO w2 _ fs from HX.out) hB (Nat.le_refl _)
    by_cases hlt : j < fs.length
    · obtain ⟨_, _, e, _, _, h3⟩ := hrd
      cases e
      obtain ⟨b, off, rfl, x, y, c0, c1, c2, rx, ry⟩ := h3 j hlt
      obtain ⟨x1, x2, ex⟩ := rx.len
      obtain ⟨y1, y2, ey⟩ := ry.len
      subst ex ey
      obtain ⟨⟨ok, ol, om⟩, ho⟩ : ∃ o, fs[j] = o := ⟨_, rfl⟩
      rw [ho] at c0 c1 c2 rx ry
      obtain ⟨d, hd⟩ : ∃ d, chkOp (ok.toNat : Int) ol om = d := ⟨_, rfl⟩
      have HD : Hid _ := hd
      have hba := below_box wr #[.int .u8 (ok.toNat : Int), .slice x1 ol.length x2, .slice y1 om.length y2] 27
      have b0 := (box_new wr (.int .u8 (ok.toNat : Int)) (.slice x1 ol.length x2) (.slice y1 om.length y2) 27).drew
      have rx2 := Rd.drew (rx.below hba (Nat.le_refl _))
      have ry2 := Rd.drew (ry.below hba (Nat.le_refl _))
      have hB3 := (hB.trans (hba.mono hB.size)).drew
      clear h3 rx ry ho hd hB hba
      go_wp2_with fail
      go_region_held3 (fun w' => w'.cell? ⟨wr.heap.size, 0, none⟩ = some (.int .u8 (ok.toNat : Int)) ∧ w'.cell? ⟨wr.heap.size, 1, none⟩ = some (.slice x1 ol.length x2) ∧ w'.cell? ⟨wr.heap.size, 2, none⟩ = some (.slice y1 om.length y2))
        (first | exact ⟨b5.c0, b5.c1, b5.c2⟩ | exact ⟨b4.c0, b4.c1, b4.c2⟩ | exact ⟨b0.c0, b0.c1, b0.c2⟩)
        (first
          | (go_at_call 12; refine (checkop_any _ _ _ ol om ok.toNat d (by omega) rx2 ry2 HD.out).mono ?_; rintro e w4 ⟨rfl, hb4⟩; have b4 := b0.below hb4 (Nat.le_refl _))
          | (go_at_call 13; refine (refcheckop_any _ _ _ ol om ok.toNat d (by omega) (rx2.below hb4 (Nat.le_refl _)) (ry2.below hb4 (Nat.le_refl _)) HD.out).mono ?_; rintro e w5 ⟨rfl, hb5⟩; have b5 := b4.below hb5 (Nat.le_refl _))
          | fail)
      all_goals
        have hB4 := hB3.trans (hb4.mono hB3.size)
        have hB5 := hB4.trans (hb5.mono hB4.size)
        clear b0 b4 b5 rx2 ry2 hB3 hB4 hb4 hb5
        go_wp2
        go_roundg (gk - 1)
        case measure => omega
        case rel => exact ⟨j + 1, by omega, by go_num, hB5⟩
    · obtain rfl : j = fs.length := by omega
      obtain ⟨d, hd⟩ : ∃ d, chkL fs = d := ⟨_, rfl⟩
      have HD : Hid _ := hd
      clear hd
      go_wp2_with fail
      refine (bcheck_any _ _ fs d hrd HD.out).mono ?_
      rintro e w4 ⟨rfl, hb4⟩
      go_wp2_with fail
      refine (rcheck_any _ _ fs d (LsO.below hrd hb4 (Nat.le_refl _)) HD.out).mono ?_
      rintro e w5 ⟨rfl, hb5⟩
      have hB4 := hB.trans (hb4.mono hB.size)
      have hB5 := hB4.trans (hb5.mono hB4.size)
      go_wp2
      go_ret
      exact ⟨ret_bool (by simp), hB2.trans (hB5.mono hB2.size)⟩

theorem batchChecks_walk (a0 : Option Addr) (len0 cap0 : Nat) (z0 : List OpB) (w : World) (w0 : ArgO w (.slice a0 len0 cap0) z0) :
    Calls Try.prog 3 #[.slice a0 len0 cap0] w fun e w' => e = .returned (.bool true) ∧ Below w.heap.size w w' :=
  bchecks_walk w _ z0 _ rfl w0

end Go.Proofs.Ytlkfdiiapcipoaa
