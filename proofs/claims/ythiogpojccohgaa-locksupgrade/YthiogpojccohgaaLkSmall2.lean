/- locks: isRight, apart; the functions of one lock that are handed to others. -/
import Derived.Test.YthiogpojccohgaaLkSmall
import Derived.Deep.RegionHeld3
namespace Go.Proofs.Ythiogpojccohgaa
set_option maxRecDepth 20000
open Go.RowKit
set_option linter.unusedVariables false
set_option linter.unusedSimpArgs false

def rightI (n m : Int) (f t : List UInt8) : Bool := decide (n ≠ 0) && decide (1 ≤ m ∧ m ≤ 3) && decide (f.length ≤ 65) && decide (t.length ≤ 65) && belB f t

theorem rightB_is (g : Lk) : rightB g = rightI g.n g.m.toNat g.f g.t := by
  unfold rightB rightI
  have e1 : ((g.n : Int) ≠ 0) = (g.n ≠ 0) := propext (by omega)
  have e2 : (1 ≤ (g.m.toNat : Int) ∧ (g.m.toNat : Int) ≤ 3) = (1 ≤ g.m.toNat ∧ g.m.toNat ≤ 3) := propext (by omega)
  simp only [e1, e2]

theorem right_any (w : World) (x y : Value) (f t : List UInt8) (n m : Int) (r : Bool) (h1 : Rd w x f) (h2 : Rd w y t) (hr : rightI n m f t = r) :
    Calls Try.prog 21 #[lkV n x y m] w fun e w' => e = .returned (.bool r) ∧ Below w.heap.size w w' := by
  obtain ⟨a1, a2, ea⟩ := h1.len
  obtain ⟨a3, a4, eb⟩ := h2.len
  subst ea eb
  have HB : Hid (Below w.heap.size w (w.alloc (.cells #[.int .u64 n, .slice a1 f.length a2, .slice a3 t.length a4, .int .u8 m] 32))) := below_box4 w _
  obtain ⟨q, hq⟩ : ∃ q, belB f t = q := ⟨_, rfl⟩
  have hb1 := bel_any _ _ _ f t q (h1.below HB.out (Nat.le_refl _)) (h2.below HB.out (Nat.le_refl _)) hq
  obtain ⟨c0, c1, c2, c3⟩ := box4_new w (.int .u64 n) (.slice a1 f.length a2) (.slice a3 t.length a4) (.int .u8 m) 32
  have HR : Hid (r = (decide (n ≠ 0) && decide (1 ≤ m ∧ m ≤ 3) && decide (f.length ≤ 65) && decide (t.length ≤ 65) && q)) := by show _ = _; rw [← hr, ← hq]; rfl
  obtain ⟨fl, hfl⟩ : ∃ z, f.length = z := ⟨_, rfl⟩
  obtain ⟨tl, htl⟩ : ∃ z, t.length = z := ⟨_, rfl⟩
  rw [hfl, htl] at HR hb1 HB c0 c1 c2 c3
  rw [hfl, htl]
  clear h1 h2 hr hq hfl htl
  unfold lkV
  by_cases k1 : n = 0
  · subst k1
    go_enter Try.func21, Try.ntmps21
    go_wp2
    go_ret
    exact ⟨by rw [HR.out]; rfl, HB.out⟩
  · have HR0 : Hid ((¬ 1 ≤ m ∨ ¬ m ≤ 3 ∨ ¬ fl ≤ 65 ∨ ¬ tl ≤ 65) → r = false) := fun h9 => by
      rw [HR.out]
      rcases h9 with h9 | h9 | h9 | h9 <;> simp [h9]
    by_cases k2 : 1 ≤ m
    · by_cases k3 : m ≤ 3
      · by_cases k4 : fl ≤ 65
        · have k4I : (fl : Int) ≤ 65 := by omega
          by_cases k5 : tl ≤ 65
          · have k5I : (tl : Int) ≤ 65 := by omega
            go_enter Try.func21, Try.ntmps21
            go_wp2_with fail
            refine hb1.mono ?_
            rintro e w1 ⟨rfl, rfl⟩
            go_wp2
            go_ret
            exact ⟨by rw [HR.out]; simp [k1, k2, k3, k4, k5], HB.out⟩
          · have k5I : ¬ (tl : Int) ≤ 65 := by omega
            go_enter Try.func21, Try.ntmps21
            go_wp2
            go_ret
            exact ⟨by rw [HR0.out (.inr (.inr (.inr k5)))]; rfl, HB.out⟩
        · have k4I : ¬ (fl : Int) ≤ 65 := by omega
          go_enter Try.func21, Try.ntmps21
          go_wp2
          go_ret
          exact ⟨by rw [HR0.out (.inr (.inr (.inl k4)))]; rfl, HB.out⟩
      · have HR1 : Hid (r = false) := HR0.out (.inr (.inl k3))
        go_enter Try.func21, Try.ntmps21
        go_wp2
        go_ret
        exact ⟨by rw [HR1.out]; rfl, HB.out⟩
    · have HR1 : Hid (r = false) := HR0.out (.inl k2)
      go_enter Try.func21, Try.ntmps21
      go_wp2
      go_ret
      exact ⟨by rw [HR1.out]; rfl, HB.out⟩

theorem ownN_stored4 {B b : Nat} {w : World} {v : Value} {l : List UInt8} (h : OwnN B w v l) (hb : ∀ g, v.ownBlock = some g → g ≠ b) (u0 u1 u2 u3 : Value) : OwnN B ((((w.setCell ⟨b, 0, none⟩ u0).setCell ⟨b, 1, none⟩ u1).setCell ⟨b, 2, none⟩ u2).setCell ⟨b, 3, none⟩ u3) v l :=
  ownN_same9 h fun q hq => by
    have hne : q ≠ b := hb q hq
    rw [Below.heap_setCell _ ⟨b, 3, none⟩ _ q hne, Below.heap_setCell _ ⟨b, 2, none⟩ _ q hne, Below.heap_setCell _ ⟨b, 1, none⟩ _ q hne, Below.heap_setCell _ ⟨b, 0, none⟩ _ q hne]

set_option maxHeartbeats 2000000 in
theorem apart_any (w : World) (x y : Value) (f t : List UInt8) (n m : Int) (h1 : Rd w x f) (h2 : Rd w y t) (hf : f.length ≤ 65) (ht : t.length ≤ 65) :
    Calls Try.prog 25 #[lkV n x y m] w fun e w' => ∃ x' y', e = .returned (lkV n x' y' m) ∧ OwnN w.heap.size w' x' f ∧ OwnN w.heap.size w' y' t ∧ Below w.heap.size w w' := by
  obtain ⟨a1, a2, ea⟩ := h1.len
  obtain ⟨a3, a4, eb⟩ := h2.len
  subst ea eb
  have hb0 := below_two w (.cells #[.int .u64 n, .slice a1 f.length a2, .slice a3 t.length a4, .int .u8 m] 32) (.cells #[.int .u64 0, .slice none 0 0, .slice none 0 0, .int .u8 0] 32)
  have HB0 : Hid (Below w.heap.size w ((w.alloc (.cells #[.int .u64 n, .slice a1 f.length a2, .slice a3 t.length a4, .int .u8 m] 32)).alloc (.cells #[.int .u64 0, .slice none 0 0, .slice none 0 0, .int .u8 0] 32))) := hb0
  have hba := below_box4 (w.alloc (.cells #[.int .u64 n, .slice a1 f.length a2, .slice a3 t.length a4, .int .u8 m] 32)) (.cells #[.int .u64 0, .slice none 0 0, .slice none 0 0, .int .u8 0] 32)
  have bx := ((box4_new w (.int .u64 n) (.slice a1 f.length a2) (.slice a3 t.length a4) (.int .u8 m) 32).below hba (Nat.le_refl _)).drew
  have r1 := h1.below hb0.drew (Nat.le_refl _)
  have r2 := h2.below hb0.drew (Nat.le_refl _)
  have BF : Hid (Box4f ((w.alloc (.cells #[.int .u64 n, .slice a1 f.length a2, .slice a3 t.length a4, .int .u8 m] 32)).alloc (.cells #[.int .u64 0, .slice none 0 0, .slice none 0 0, .int .u8 0] 32)) (w.heap.size + 1) (.int .u64 0) (.slice none 0 0) (.slice none 0 0) (.int .u8 0)) := by
    have := box4f_new (w.alloc (.cells #[.int .u64 n, .slice a1 f.length a2, .slice a3 t.length a4, .int .u8 m] 32)) (.int .u64 0) (.slice none 0 0) (.slice none 0 0) (.int .u8 0) 32
    rw [show (w.alloc (.cells #[.int .u64 n, .slice a1 f.length a2, .slice a3 t.length a4, .int .u8 m] 32)).heap.size = w.heap.size + 1 by simp] at this
    exact this
  have HLN : Hid (f.length ≤ 65 ∧ t.length ≤ 65) := ⟨hf, ht⟩
  obtain ⟨fl, hfl⟩ : ∃ z, f.length = z := ⟨_, rfl⟩
  obtain ⟨tl, htl⟩ : ∃ z, t.length = z := ⟨_, rfl⟩
  have HFL : Hid (f.length = fl ∧ t.length = tl) := ⟨hfl, htl⟩
  rw [hfl] at HB0 bx r1 BF
  rw [htl] at HB0 bx r2 BF
  rw [hfl] at r2
  rw [htl] at r1
  rw [hfl, htl]
  clear h1 h2 hb0 hba hfl htl hf ht
  unfold lkV
  go_enter Try.func25, Try.ntmps25
  go_wp2_with fail
  go_region_held3 (fun w' => w'.cell? ⟨w.heap.size, 0, none⟩ = some (.int .u64 n) ∧ w'.cell? ⟨w.heap.size, 1, none⟩ = some (.slice a1 fl a2) ∧ w'.cell? ⟨w.heap.size, 2, none⟩ = some (.slice a3 tl a4) ∧ w'.cell? ⟨w.heap.size, 3, none⟩ = some (.int .u8 m))
    (first | with_reducible exact ⟨bs.c0, bs.c1, bs.c2, bs.c3⟩ | with_reducible exact ⟨by2.c0, by2.c1, by2.c2, by2.c3⟩ | with_reducible exact ⟨bx2.c0, bx2.c1, bx2.c2, bx2.c3⟩ | with_reducible exact ⟨bx.c0, bx.c1, bx.c2, bx.c3⟩)
    (first
      | (go_at_call 42; refine (clone_any _ _ f r1.arg (by have := HLN.out.1; omega)).mono ?_; rintro e wx ⟨x, rfl, ox, hbx⟩; obtain ⟨gx, kx, hx⟩ := ox.rd.len; rw [HFL.out.1] at hx; subst hx; have bx2 := bx.below hbx (Nat.le_refl _); clear r1)
      | (go_at_call 42; refine (clone_any _ _ t (r2.below hbx (Nat.le_refl _)).arg (by have := HLN.out.2; omega)).mono ?_; rintro e wy ⟨y, rfl, oy, hby⟩; obtain ⟨gy, ky, hy⟩ := oy.rd.len; rw [HFL.out.2] at hy; subst hy; have by2 := bx2.below hby (Nat.le_refl _)
         have HBY : Hid (Below w.heap.size w wy) := bsplit (bsplit HB0.out.drew hbx) hby
         have hsz : ((w.alloc (.cells #[.int .u64 n, .slice a1 fl a2, .slice a3 tl a4, .int .u8 m] 32)).alloc (.cells #[.int .u64 0, .slice none 0 0, .slice none 0 0, .int .u8 0] 32)).drew.heap.size = w.heap.size + 2 := by simp
         have HOX : Hid (OwnN (w.heap.size + 2) wy (.slice gx fl kx) f) := (ox.below hby (Nat.le_refl _)).mono (by rw [hsz]; exact Nat.le_refl _)
         have HOY : Hid (OwnN (w.heap.size + 2) wy (.slice gy tl ky) t) := oy.mono (by have h8 := hbx.size; rw [hsz] at h8; exact h8)
         have bs := by2.stored (w.heap.size + 1) (by omega) (.int .u64 n) (.slice gx fl kx) (.slice gy tl ky) (.int .u8 m)
         obtain ⟨⟨c0, c1, c2, c3⟩, f0, f1, f2, f3⟩ := ((BF.out.below (Below.refl _ _).drew (Nat.le_refl _)).below hbx (Nat.le_refl _)).below hby (Nat.le_refl _))
      | fail)
  go_wp2
  refine bodyPost_ret (v := lkV n (.slice gx fl kx) (.slice gy tl ky) m) (by simp [results, Try.results25, go_sem, c0, c1, c2, c3, lkV]) rfl ⟨_, _, rfl, ?_, ?_, below_store4 HBY.out (Nat.le_succ _) _ _ _ _⟩
  · exact ownN_stored4 (HOX.out.mono (by omega)) (fun g hg => by have := (ownN_lt9 HOX.out g hg).1; omega) _ _ _ _
  · exact ownN_stored4 (HOY.out.mono (by omega)) (fun g hg => by have := (ownN_lt9 HOY.out g hg).1; omega) _ _ _ _

end Go.Proofs.Ythiogpojccohgaa
