/- bartizanlaw19.few; a lock that came in. -/
import Derived.Test.YtnnedoohppobpaaLkAwake
import Derived.Test.YtnnedoohppobpaaCut
import Derived.Lib.SmallJoins
namespace Go.Proofs.Ytnnedoohppobpaa
set_option maxRecDepth 100000
open Go.RowKit Go.Maps
open Go.ChangeShapes Go.WideShapes Go.ChangeAt
set_option linter.unusedVariables false
set_option linter.unusedSimpArgs false

theorem byte_of9 {k : Int} (h : (Lit.int .u8 k).wf = true) : k = ((UInt8.ofNat k.toNat).toNat : Int) := by
  have := bounds_u8 h
  rw [UInt8.toNat_ofNat', Nat.mod_eq_of_lt (by omega)]
  omega

/-- a lock that came in -/
theorem lockArg_of {H : Type} {enc : TypeId × Value → H} {w : World} {r : Reach} {base : Nat} {v : Value} {d : DataW H} {ps : List MemPlace}
    (hv : Value.okWide Try.prog w r base 32 v) (h : DataW.Trod enc Try.prog w 0 (fun _ => true) true 32 v d ps) :
    ∃ (n : Nat) (f t : List UInt8) (m : UInt8) (x y : Value), v = .agg #[.int .u64 (n : Int), x, y, .int .u8 (m.toNat : Int)] ∧ n < 18446744073709551616 ∧ Arg w x f ∧ Arg w y t := by
  obtain ⟨v0, v1, v2, v3, y0, y1, y2, y3, n, rfl, _, _, h0, h1, h2, h3⟩ := Joins.open_agg4 Try.underlying32 (by kernel_rfl) (by kernel_rfl) hv h
  obtain ⟨k, e0, _, wk⟩ := DataW.trod_int Try.underlying29 h0
  obtain ⟨a1, l1, q1, z1, rfl, r1⟩ := row_of_trod h1
  obtain ⟨a2, l2, q2, z2, rfl, r2⟩ := row_of_trod h2
  obtain ⟨s, e3, _, ws⟩ := DataW.trod_int Try.underlying5 h3
  simp at e0 e3
  subst e0 e3
  have hs := bounds_u64 wk
  refine ⟨k.toNat, _, _, UInt8.ofNat s.toNat, _, _, ?_, by omega, arg_of r1, arg_of r2⟩
  rw [← byte_of9 ws, show ((k.toNat : Nat) : Int) = k by omega]
set_option maxHeartbeats 2000000 in
theorem few_any (w : World) (x y : Value) (f t : List UInt8) (n m : Int) (h1 : Arg w x f) (h2 : Arg w y t) :
    Calls Try.prog 11 #[lkV n x y m] w fun e w' => ∃ x' y', e = .returned (lkV n x' y' m) ∧ OwnN w.heap.size w' x' (f.take 80) ∧ OwnN w.heap.size w' y' (t.take 80) ∧ Below w.heap.size w w' := by
  obtain ⟨a1, a2, ea⟩ := h1.shape
  obtain ⟨a3, a4, eb⟩ := h2.shape
  subst ea eb
  have hb0 := below_two w (.cells #[.int .u64 n, .slice a1 f.length a2, .slice a3 t.length a4, .int .u8 m] 32) (.cells #[.int .u64 0, .slice none 0 0, .slice none 0 0, .int .u8 0] 32)
  have HB0 : Hid (Below w.heap.size w ((w.alloc (.cells #[.int .u64 n, .slice a1 f.length a2, .slice a3 t.length a4, .int .u8 m] 32)).alloc (.cells #[.int .u64 0, .slice none 0 0, .slice none 0 0, .int .u8 0] 32))) := hb0
  have hba := below_box4 (w.alloc (.cells #[.int .u64 n, .slice a1 f.length a2, .slice a3 t.length a4, .int .u8 m] 32)) (.cells #[.int .u64 0, .slice none 0 0, .slice none 0 0, .int .u8 0] 32)
  have bx := ((box4_new w (.int .u64 n) (.slice a1 f.length a2) (.slice a3 t.length a4) (.int .u8 m) 32).below hba (Nat.le_refl _)).drew
  have r1 := h1.below hb0.drew (Nat.le_refl _)
  have r2 := h2.below hb0.drew (Nat.le_refl _)
  have BF : Hid (Box4f ((w.alloc (.cells #[.int .u64 n, .slice a1 f.length a2, .slice a3 t.length a4, .int .u8 m] 32)).alloc (.cells #[.int .u64 0, .slice none 0 0, .slice none 0 0, .int .u8 0] 32)) (w.heap.size + 1) (.int .u64 0) (.slice none 0 0) (.slice none 0 0) (.int .u8 0)) := by
    have := box4f_new (w.alloc (.cells #[.int .u64 n, .slice a1 f.length a2, .slice a3 t.length a4, .int .u8 m] 32)) (.int .u64 0) (.slice none 0 0) (.slice none 0 0) (.int .u8 0) 32
    rw [show (w.alloc (.cells #[.int .u64 n, .slice a1 f.length a2, .slice a3 t.length a4, .int .u8 m] 32)).heap.size = w.heap.size + 1 by simp] at this
    exact this
  obtain ⟨fl, hfl⟩ : ∃ z, f.length = z := ⟨_, rfl⟩
  obtain ⟨tl, htl⟩ : ∃ z, t.length = z := ⟨_, rfl⟩
  obtain ⟨fm, hfm⟩ : ∃ z, (f.take 80).length = z := ⟨_, rfl⟩
  obtain ⟨tm, htm⟩ : ∃ z, (t.take 80).length = z := ⟨_, rfl⟩
  have HFL : Hid ((f.take 80).length = fm ∧ (t.take 80).length = tm) := ⟨hfm, htm⟩
  rw [hfl] at HB0 bx r1 BF
  rw [htl] at HB0 bx r2 BF
  rw [hfl] at r2
  rw [htl] at r1
  rw [hfl, htl]
  clear h1 h2 hb0 hba hfl htl hfm htm
  unfold lkV
  go_enter Try.func11, Try.ntmps11
  go_wp2_with fail
  go_region_held3 (fun w' => w'.cell? ⟨w.heap.size, 0, none⟩ = some (.int .u64 n) ∧ w'.cell? ⟨w.heap.size, 1, none⟩ = some (.slice a1 fl a2) ∧ w'.cell? ⟨w.heap.size, 2, none⟩ = some (.slice a3 tl a4) ∧ w'.cell? ⟨w.heap.size, 3, none⟩ = some (.int .u8 m))
    (first | with_reducible exact ⟨bs.c0, bs.c1, bs.c2, bs.c3⟩ | with_reducible exact ⟨by2.c0, by2.c1, by2.c2, by2.c3⟩ | with_reducible exact ⟨bx2.c0, bx2.c1, bx2.c2, bx2.c3⟩ | with_reducible exact ⟨bx.c0, bx.c1, bx.c2, bx.c3⟩)
    (first
      | (go_at_call 23; refine (cut_any _ _ f 80 r1 (by decide)).mono ?_; rintro e wx ⟨x, rfl, ox, hbx⟩; obtain ⟨gx, kx, hx⟩ := ox.rd.len; rw [HFL.out.1] at hx; subst hx; have bx2 := bx.below hbx (Nat.le_refl _); clear r1)
      | (go_at_call 23; refine (cut_any _ _ t 80 (r2.below hbx (Nat.le_refl _)) (by decide)).mono ?_; rintro e wy ⟨y, rfl, oy, hby⟩; obtain ⟨gy, ky, hy⟩ := oy.rd.len; rw [HFL.out.2] at hy; subst hy; have by2 := bx2.below hby (Nat.le_refl _)
         have HBY : Hid (Below w.heap.size w wy) := bsplit (bsplit HB0.out.drew hbx) hby
         have hsz : ((w.alloc (.cells #[.int .u64 n, .slice a1 fl a2, .slice a3 tl a4, .int .u8 m] 32)).alloc (.cells #[.int .u64 0, .slice none 0 0, .slice none 0 0, .int .u8 0] 32)).drew.heap.size = w.heap.size + 2 := by simp
         have HOX : Hid (OwnN (w.heap.size + 2) wy (.slice gx fm kx) (f.take 80)) := (show OwnN _ _ _ _ from .inr (ox.below hby (Nat.le_refl _))).mono (by rw [hsz]; exact Nat.le_refl _)
         have HOY : Hid (OwnN (w.heap.size + 2) wy (.slice gy tm ky) (t.take 80)) := (show OwnN _ _ _ _ from .inr oy).mono (by have h8 := hbx.size; rw [hsz] at h8; exact h8)
         have bs := by2.stored (w.heap.size + 1) (by omega) (.int .u64 n) (.slice gx fm kx) (.slice gy tm ky) (.int .u8 m)
         obtain ⟨⟨c0, c1, c2, c3⟩, f0, f1, f2, f3⟩ := ((BF.out.below (Below.refl _ _).drew (Nat.le_refl _)).below hbx (Nat.le_refl _)).below hby (Nat.le_refl _))
      | fail)
  go_wp2
  refine bodyPost_ret (v := lkV n (.slice gx fm kx) (.slice gy tm ky) m) (by simp [results, Try.results11, go_sem, c0, c1, c2, c3, lkV]) rfl ⟨_, _, rfl, ?_, ?_, below_store4 HBY.out (Nat.le_succ _) _ _ _ _⟩
  · exact ownN_stored4 (HOX.out.mono (by omega)) (fun g hg => by have := (ownN_lt9 HOX.out g hg).1; omega) _ _ _ _
  · exact ownN_stored4 (HOY.out.mono (by omega)) (fun g hg => by have := (ownN_lt9 HOY.out g hg).1; omega) _ _ _ _

end Go.Proofs.Ytnnedoohppobpaa
