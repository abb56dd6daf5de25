/- bartizanref02's Close: a seal. -/
import Derived.Test.YtgmoedoalbmkpaaDoorRefSum
import Derived.Test.YtgmoedoalbmkpaaDoorClose
namespace Go.Proofs.YtgmoedoalbmkpaaDoor
open Go.RowKit

theorem lit_row4 (w : World) (B : Nat) (hB : B ≤ w.heap.size) (a b c d : UInt8) : (w.alloc (.cells #[.int .u8 (a.toNat : Int), .int .u8 (b.toNat : Int), .int .u8 (c.toNat : Int), .int .u8 (d.toNat : Int)] 5)).ownsRow B 5 1 (.slice (some ⟨w.heap.size, 0, none⟩) 4 4) 4 (bv [a, b, c, d]) :=
  World.ownsRow_lit w #[.int .u8 (a.toNat : Int), .int .u8 (b.toNat : Int), .int .u8 (c.toNat : Int), .int .u8 (d.toNat : Int)] 4 hB (by simp [maxLen]) rfl

set_option maxHeartbeats 2000000 in
set_option maxRecDepth 20000 in
theorem refclose_any (w : World) (v : Value) (l : List UInt8) (hv : Rd w v l) (hl : l.length ≤ 1000000) :
    Calls Tryd.prog 21 #[v] w fun e w' => ∃ x, e = .returned x ∧ Own w.heap.size w' x (sealB l) ∧ Below w.heap.size w w' := by
  obtain ⟨i0, hi, hz0, hz1, hz2⟩ := info_parts info5
  have hsl := Crc.sum_lt l
  obtain ⟨m, hm⟩ : ∃ m, Crc.mask (Crc.sum l) = m := ⟨_, rfl⟩
  have hml : m < 4294967296 := by rw [← hm]; exact Crc.mask_lt _
  have HM : Hid (Crc.mask (Crc.sum l) = m) := hm
  have HE : Hid (sealB l = l ++ Crc.four m) := by show _ = _; unfold sealB; rw [hm]
  clear hm
  go_enter Tryd.func21, Tryd.ntmps21
  go_wp2_with fail
  refine (refsum_any _ _ l hv hl).mono ?_
  rintro e w1 ⟨rfl, hb1⟩
  go_wp2_with fail
  refine (refmask_any (Crc.sum l) hsl _).mono ?_
  rintro e w2 ⟨rfl, hw2⟩
  subst hw2
  rw [HM.out]
  have hv1 := hv.below hb1 (Nat.le_refl _)
  clear hv HM hsl
  go_wp2_with fail
  refine (copy_any _ _ l hv1.arg (by omega)).mono ?_
  rintro e w3 ⟨vq, rfl, oq, hb3⟩
  have hB3 := hb1.trans (hb3.mono hb1.size)
  obtain ⟨gq, kq, hvq⟩ := oq.shape
  subst hvq
  have hgq := oq.lt
  have hs1 := hb1.size
  clear hb3 hv1 hb1
  have hlit := lit_row4 w3 w3.heap.size (Nat.le_refl _) (UInt8.ofNat (m % 256)) (UInt8.ofNat (m / 256 % 256)) (UInt8.ofNat (m / 65536 % 256)) (UInt8.ofNat (m / 16777216 % 256))
  obtain ⟨p0, p1, p2, p3⟩ := bytes4 m hml
  rw [← p0, ← p1, ← p2, ← p3] at hlit
  have hcs := hlit.cells rfl
  have hqa := oq.row.alloc (.cells #[.int .u8 ((m : Int) % 256), .int .u8 ((m : Int) / 256 % 256), .int .u8 ((m : Int) / 65536 % 256), .int .u8 ((m : Int) / 16777216)] 5)
  have hB3a := hB3.alloc hB3.size (.cells #[.int .u8 ((m : Int) % 256), .int .u8 ((m : Int) / 256 % 256), .int .u8 ((m : Int) / 65536 % 256), .int .u8 ((m : Int) / 16777216)] 5)
  have HF : Hid ([UInt8.ofNat (m % 256), UInt8.ofNat (m / 256 % 256), UInt8.ofNat (m / 65536 % 256), UInt8.ofNat (m / 16777216 % 256)] = Crc.four m) := rfl
  rw [HF.out] at hcs
  have hs3 := hB3.size
  clear hlit p0 p1 p2 p3 HF oq hB3
  go_wp2_with (first | (at_builtin; go_loud (refine wpList_append_own _ rfl (.tmp 8) (.tmp 20) 24 rfl w2.heap.size 5 i0 (.int .u8 0) 1 1 Tryd.underlying24 hi hz0 hz1 hz2 rfl (by decide) (.slice (some ⟨gq, 0, none⟩) l.length kq) l.length (bv l) rfl hqa ⟨w3.heap.size, 0, none⟩ 4 4 (bv (Crc.four m)) rfl rfl hcs (bv_one _) (by simp only [maxLen]; omega) (by omega) (by simp; omega) ?_; intro v' w4 ho' hgr' hn'; obtain ⟨gv, kv, hvv, hk1, hk2, ov⟩ := app_shape ho' rfl rfl (fun e => by have := (hn'.1 e).1; cases this); subst hvv)) | fail)
  go_ret
  have hB4 : Below w.heap.size w w4 := hB3a.grown hgr' hB3a.size (fun k' e => by have := (hqa.lt k' e).1; omega)
  rw [HE.out]
  exact ⟨_, rfl, ov.mono hs1, hB4⟩

end Go.Proofs.YtgmoedoalbmkpaaDoor
