/- batch.Over. -/
import Derived.Test.YtlkfdiiapcipoaaOpCover
import Derived.Deep.LoopGhost
namespace Go.Proofs.Ytlkfdiiapcipoaa
open Go.RowKit

def covB (o : OpB) (key : List UInt8) : Bool := cov (o.1.toNat : Int) o.2.1 o.2.2 key

/-- the last op of a key -/
def overO (os : List OpB) (key : List UInt8) : Option OpB := os.reverse.find? fun o => covB o key

/-- the answer -/
def resO : Option OpB → OpB × Bool
  | some o => (o, true)
  | none => ((0, [], []), false)

theorem find_drop {os : List OpB} {j : Nat} {i : Nat} (h : i + 1 + j = os.length) : os.reverse.drop j = (os[i]'(by omega)) :: os.reverse.drop (j + 1) := by
  have hj : j < os.reverse.length := by rw [List.length_reverse]; omega
  rw [List.drop_eq_getElem_cons hj, List.getElem_reverse]
  congr 2
  omega

set_option maxHeartbeats 4000000 in
theorem over_any (w : World) (v z : Value) (os : List OpB) (key : List UInt8) (r : OpB × Bool) (hv : RdO w v os) (hz : Rd w z key) (hb : ∀ o ∈ os, o.2.1.length ≤ 1000000 ∧ o.2.2.length ≤ 1000000) (hr : resO (overO os key) = r) :
    Calls Try.prog 25 #[v, z] w fun e w' => ∃ x y, e = .returned (.tuple #[.agg #[.int .u8 (r.1.1.toNat : Int), x, y], .bool r.2]) ∧ OwnN w.heap.size w' x r.1.2.1 ∧ OwnN w.heap.size w' y r.1.2.2 ∧ Below w.heap.size w w' := by
  have hv0 := hv
  obtain ⟨ao, cap, rfl, h1, h2, h3⟩ := hv
  unfold maxLen at h2
  have H3 : Hid _ := hv0
  have HZ : Hid _ := hz
  have HR : Hid _ := hr
  have HBD : Hid _ := hb
  clear hv0 h3 hr hz hb
  have q0 := box_new w (.int .u8 0) (.slice none 0 0) (.slice none 0 0) 27
  have hB0 := below_box w #[.int .u8 0, .slice none 0 0, .slice none 0 0] 27
  go_enter Try.func25, Try.ntmps25
  go_wp2_with fail
  go_loopg [10] os.length (fun gk iv wr => ∃ j : Nat, gk + j = os.length ∧ iv = .int .i64 (j : Int) ∧ resO ((os.reverse.drop j).find? fun o => covB o key) = r ∧ Box wr w.heap.size (.int .u8 0) (.slice none 0 0) (.slice none 0 0) ∧ Below w.heap.size w wr)
  case atStart => exact ⟨0, rfl, rfl, HR.out, q0, hB0⟩
  case round =>
    obtain ⟨j, hj, rfl, hd, hq, hB⟩ := hrel
    have HJ : Hid _ := hd
    clear hd q0 hB0
    have hrd : RdO wr _ os := LsO.below (show RdO w _ os from H3.out) hB (Nat.le_refl _)
    have rz : Rd wr z key := Rd.below (show Rd w z key from HZ.out) hB (Nat.le_refl _)
    by_cases hlt : j < os.length
    · obtain ⟨i, hi⟩ : ∃ i, i + 1 + j = os.length := ⟨os.length - 1 - j, by omega⟩
      obtain ⟨_, _, e, _, _, h3⟩ := hrd
      cases e
      obtain ⟨b, off, rfl, x, y, c0, c1, c2, rx, ry⟩ := h3 i (by omega)
      obtain ⟨x1, x2, ex⟩ := rx.len
      obtain ⟨y1, y2, ey⟩ := ry.len
      subst ex ey
      obtain ⟨⟨ok, ol, om⟩, ho⟩ : ∃ o, os[i]'(by omega) = o := ⟨_, rfl⟩
      have hbd : ol.length ≤ 1000000 ∧ om.length ≤ 1000000 := by have := HBD.out _ (List.getElem_mem (show i < os.length by omega)); rw [ho] at this; exact this
      obtain ⟨hol, hom⟩ := hbd
      rw [ho] at c0 c1 c2 rx ry
      obtain ⟨d, hd⟩ : ∃ d, cov (ok.toNat : Int) ol om key = d := ⟨_, rfl⟩
      have HE : Hid (r = if d = true then ((ok, ol, om), true) else resO ((os.reverse.drop (j + 1)).find? fun o => covB o key)) := by
        show _ = _
        rw [← HJ.out, find_drop hi, ho, List.find?_cons, show covB (ok, ol, om) key = d from hd]
        cases d <;> rfl
      have HX : Hid _ := hd
      have hi2 : i = os.length - 1 - j := by omega
      rw [hi2] at c0 c1 c2
      have hba := below_box wr #[.int .u8 (ok.toNat : Int), .slice x1 ol.length x2, .slice y1 om.length y2] 27
      have p0 := box_new wr (.int .u8 (ok.toNat : Int)) (.slice x1 ol.length x2) (.slice y1 om.length y2) 27
      have rx2 := rx.below hba (Nat.le_refl _)
      have ry2 := ry.below hba (Nat.le_refl _)
      have rz2 := rz.below hba (Nat.le_refl _)
      have q2 := hq.below hba (Nat.le_refl _)
      have hlw := hq.lt
      clear h3 rx ry rz ho hd HJ hq hi hi2
      go_wp2_with fail
      refine (of_any _ _ _ _ ol om key ok.toNat d rx2 ry2 rz2 HX.out).mono ?_
      rintro e w2 ⟨rfl, hb⟩
      have hB2 := (hB.trans (hba.mono hB.size)).trans (hb.mono (Nat.le_trans hB.size hba.size))
      have q3 := q2.below hb (Nat.le_refl _)
      have p3 := p0.below hb (Nat.le_refl _)
      have rx3 := rx2.below hb (Nat.le_refl _)
      have ry3 := ry2.below hb (Nat.le_refl _)
      have hs := hb.size
      have hsz : w.heap.size ≤ w2.heap.size := hB2.size
      clear hB hba hb rx2 ry2 rz2 c0 c1 c2 q2 p0
      cases d
      · go_wp2
        go_roundg (gk - 1)
        case measure => omega
        case rel => exact ⟨j + 1, by omega, by go_num, by rw [HE.out]; simp, q3, hB2⟩
      · have p3c0 := p3.c0; have p3c1 := p3.c1; have p3c2 := p3.c2
        go_wp2_with fail
        refine (apart_any _ _ _ ol om ok.toNat rx3 ry3 hol hom).mono ?_
        rintro e w3 ⟨x', y', rfl, ox, oy, hb⟩
        obtain ⟨e0, e1, e2, f0, f1, f2⟩ := q3.below hb (Nat.le_refl _)
        have hB3 := hB2.trans (hb.mono hB2.size)
        obtain ⟨xa, xc, hxx⟩ := ox.len
        subst hxx
        obtain ⟨ya, yc, hyy⟩ := oy.len
        subst hyy
        clear p3c0 p3c1 p3c2 p3 rx3 ry3 q3 hB2 hb
        go_wp2
        have h0 : r = ((ok, ol, om), true) := by rw [HE.out]; simp
        subst h0
        have ox2 := (ox.store3 (b := w.heap.size) (by omega) (.int .u8 (ok.toNat : Int)) (.slice xa ol.length xc) (.slice ya om.length yc)).mono (C := w.heap.size) (by omega)
        have oy2 := (oy.store3 (b := w.heap.size) (by omega) (.int .u8 (ok.toNat : Int)) (.slice xa ol.length xc) (.slice ya om.length yc)).mono (C := w.heap.size) (by omega)
        refine bodyPost_ret (v := .tuple #[.agg #[.int .u8 (ok.toNat : Int), .slice xa ol.length xc, .slice ya om.length yc], .bool true]) (by simp [results, Try.results25, go_sem, e0, e1, e2]) rfl ⟨_, _, rfl, ox2, oy2, below_store3 hB3 (Nat.le_refl _) _ _ _⟩
    · obtain rfl : j = os.length := by omega
      have h0 : Hid (r = ((0, [], []), false)) := by show _ = _; rw [← HJ.out, List.drop_of_length_le (by simp)]; rfl
      clear hrd
      obtain ⟨e0, e1, e2, f0, f1, f2⟩ := hq
      go_wp2
      have h0 := h0.out
      subst h0
      refine bodyPost_ret (v := .tuple #[.agg #[.int .u8 0, .slice none 0 0, .slice none 0 0], .bool false]) (by simp [results, Try.results25, go_sem, e0, e1, e2]) rfl ⟨_, _, rfl, .inl ⟨rfl, rfl⟩, .inl ⟨rfl, rfl⟩, below_store3 hB (Nat.le_refl _) _ _ _⟩

end Go.Proofs.Ytlkfdiiapcipoaa
