/- bartizanref02's Open: a seal's text, or the error. -/
import Derived.Test.YtgmoedoalbmkpaaDoorRefClose
import Derived.Test.YtgmoedoalbmkpaaDoorOpen
namespace Go.Proofs.YtgmoedoalbmkpaaDoor
open Go.RowKit

theorem refopen_short (w : World) (v : Value) (l : List UInt8) (hv : Rd w v l) (hl : l.length < 4) :
    Calls Tryd.prog 22 #[v] w fun e w' => e = .returned (.tuple #[.slice none 0 0, .int .i64 2]) ∧ w' = w := by
  obtain ⟨ao, cap, hvv⟩ := hv.len
  subst hvv
  clear hv
  go_enter Tryd.func22, Tryd.ntmps22
  go_wp2
  go_ret2
  exact ⟨rfl, rfl⟩

set_option maxHeartbeats 4000000 in
set_option maxRecDepth 20000 in
theorem refopen_long (w : World) (v : Value) (t : List UInt8) (a b c d : UInt8) (hv : Rd w v (t ++ [a, b, c, d])) (hl : t.length ≤ 1000000) (bad : Bool) (hbad : (sealB t == t ++ [a, b, c, d]) = !bad) :
    Calls Tryd.prog 22 #[v] w fun e w' => ∃ x y, e = .returned (.tuple #[x, y]) ∧ OpenPost bad t w.heap.size w' x y ∧ Below w.heap.size w w' := by
  have hv0 := hv
  rcases hv with ⟨_, h⟩ | ⟨bl, off, cap, rfl, h1, h2, h3⟩
  · simp at h
  have hlen : (t ++ [a, b, c, d]).length = t.length + 4 := by simp
  have hT : Rd w (.slice (some ⟨bl, off, none⟩) t.length cap) t := by
    have := rd_sub h3 0 t.length cap (by rw [hlen] at h1; omega) h2 (by simp)
    simpa using this
  obtain ⟨p, hp⟩ : ∃ p, t ++ [a, b, c, d] = p := ⟨_, rfl⟩
  rw [hp] at hlen hv0 hbad
  rw [hp, hlen] at h1
  rw [hp, hlen]
  rw [hlen] at hv0
  have HB : Hid ((sealB t == p) = !bad) := hbad
  unfold maxLen at h2
  clear h3 hlen hbad hp
  have e4 : ((t.length : Int) + 4 - 4) = (t.length : Int) := by omega
  have hle : t.length ≤ cap := by omega
  have hle2 : t.length ≤ t.length + 4 := by omega
  have hle3 : (t.length : Int) ≤ (t.length : Int) + 4 := by omega
  have hle4 : t.length + 4 ≤ cap := by omega
  go_enter Tryd.func22, Tryd.ntmps22
  go_wp2_with fail
  refine (refclose_any _ _ t hT hl).mono ?_
  rintro e w1 ⟨x1, rfl, o1, hb1⟩
  have hv1 := hv0.below hb1 (Nat.le_refl _)
  have hT1 := hT.below hb1 (Nat.le_refl _)
  go_wp2_with fail
  refine (same_b _ _ _ _ _ _ o1.rd hv1 HB.out).mono ?_
  rintro e w9 ⟨rfl, hw⟩
  subst hw
  clear hT hv0 hv1 o1 HB
  cases bad
  · go_wp2_with fail
    refine (copy_any _ _ t hT1.arg (by omega)).mono ?_
    rintro e w3 ⟨vq, rfl, oq, hb3⟩
    go_wp2
    go_ret2
    exact ⟨_, _, rfl, ⟨oq.mono hb1.size, rfl⟩, hb1.trans (hb3.mono hb1.size)⟩
  · go_wp2
    go_ret2
    exact ⟨_, _, rfl, ⟨rfl, rfl⟩, hb1⟩

end Go.Proofs.YtgmoedoalbmkpaaDoor
